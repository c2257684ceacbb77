/-
  slices.Backward of strings.
-/
import Derived.Test.YtgconfcijmemmaaSd16
import Derived.Test.YtgconfcijmemmaaFe16
import Derived.RangeFuncNested
import Derived.RangeFuncBound
import Derived.RangeFuncCalls
import Derived.RangeFuncLeaves
import Derived.Shelf.Abstract
import Derived.Shelf.RegionOpen
import Derived.OwnWalkIn
import Derived.TacticsInMore
import Derived.LoopNIn
import Derived.LoopIn
namespace Go.Proofs.Ytgconfcijmemmaa
open Go.RowKit Go.Shelf
attribute [local go_sem] Oper.semAt_some
section
attribute [local irreducible] Calls
set_option maxRecDepth 1000000 in
set_option maxHeartbeats 2000000 in
theorem sback_core (n : Nat) (hn : 1 ≤ n) (l Bs b o cap : Nat) (xs : List (Option UInt8)) (hreach : xs.length ≤ 140737488355328) (Kp : World → World → Prop) (hKr : ∀ A, Kp A A) (hKt : ∀ {A B C : World}, Kp A B → Kp B C → Kp A C) (hKs : ∀ A B, Kp A B → B.cell? ⟨Bs, 0, none⟩ = A.cell? ⟨Bs, 0, none⟩) (hKf : ∀ A B o, Kp A B → B.cell? ⟨b, o, none⟩ = A.cell? ⟨b, o, none⟩) (J Jx : List (Nat × Option UInt8) → World → Prop)
    (hY : ∀ pre x W, J pre W → pre.length < xs.length → YieldAt Fence.wide (n - 1) Try.prog l #[.int .i64 (x.1 : Int), svl x.2] W fun e W' =>
      (e = .returned (.bool true) ∧ J (pre ++ [x]) W' ∧ Kp W W') ∨ (e = .returned (.bool false) ∧ Jx (pre ++ [x]) W'))
    (W : World) (hBs : W.cell? ⟨Bs, 0, none⟩ = some (.slice (some ⟨b, o, none⟩) xs.length cap)) (hc : ∀ i, i < xs.length → W.cell? ⟨b, o + i, none⟩ = some (svl (xs.getD i none))) (h0 : J [] W) :
    CallsIn Fence.wide n Try.prog 25 #[.func (.yield l) #[] #[], .pointer (some ⟨Bs, 0, none⟩)] W fun e W' => (∃ v, e = .returned v) ∧
      ((∃ ys, ys = dnt xs xs.length ∧ J ys W') ∨ (∃ pre, True ∧ Jx pre W')) := by
  obtain ⟨len, hL⟩ : ∃ len, xs.length = len := ⟨_, rfl⟩
  have HL := (show Hid (xs.length = len) from hL)
  rw [hL] at hBs hreach
  clear hL
  have wl : wrap64 ((len : Int) - 1) = (len : Int) - 1 := by unfold wrap64; omega
  refine callsIn_of_wp Try.func25 rfl trivial ?_ rfl
  simp only [Try.ntmps25, List.size_toArray, List.length_cons, List.length_nil, Nat.reduceAdd, Nat.reduceSub, Array.replicate_succ, Array.replicate_zero, List.push_toArray, List.append_toArray, List.nil_append, List.cons_append]
  gi_wp2
  gi_loopw [3] (fun i wr => ∃ k : Nat, k ≤ len ∧ i = .int .i64 ((len : Int) - 1 - (k : Int)) ∧ Hid (J (dnt xs k) wr) ∧ Hid (Kp W wr)) (fun i _ => (intOf i + 1).toNat)
  case atStart => exact ⟨0, Nat.zero_le _, by simp, h0, hKr _⟩
  case round =>
    obtain ⟨k, hk, rfl, hJs, hnx⟩ := hrel
    have cB : wr.cell? ⟨Bs, 0, none⟩ = some (.slice (some ⟨b, o, none⟩) len cap) := (hKs _ _ hnx.out).trans hBs
    by_cases hlt : k < len
    · have hkl : len - 1 - k < xs.length := by rw [HL.out]; omega
      have d1 := (hKf _ _ _ hnx.out).trans (hc (len - 1 - k) hkl)
      obtain ⟨i, hi⟩ : ∃ i, len - 1 - k = i := ⟨_, rfl⟩
      have ei : (len : Int) - 1 - (k : Int) = (i : Int) := by omega
      have hil : (i : Int) < (len : Int) := by omega
      obtain ⟨x, hx⟩ : ∃ x, xs[len - 1 - k] = x := ⟨_, rfl⟩
      have hgd : xs.getD (len - 1 - k) none = x := by rw [← hx]; simp [List.getD, hkl]
      rw [hgd, hi] at d1
      have hsn := (show Hid (dnt xs (k + 1) = dnt xs k ++ [(i, x)]) from by
        show _ = _
        rw [dnt_succ (by rw [HL.out]; exact hlt)]
        simp only [HL.out, hi]
        rw [← hx]
        simp only [hi])
      obtain ⟨fn, tmps, assign, body, hy, hR⟩ := hY _ (i, x) wr hJs.out (by rw [dnt_len (by rw [HL.out]; exact hk), HL.out]; exact hlt)
      dsimp only at hy
      clear hgd hx hi hkl hc
      rw [ei]
      have gi : (0 : Int) ≤ (i : Int) := by omega
      have wi : wrap64 ((i : Int) - 1) = (len : Int) - 1 - ((k + 1 : Nat) : Int) := by unfold wrap64; omega
      gi_wp2
      refine hR.mono ?_
      rintro e W3 (⟨rfl, hJ3, hk3⟩ | ⟨rfl, hJx3⟩)
      · gi_wp2
        go_roundw
        case rel => exact ⟨k + 1, by omega, (by simp; omega), (by show J _ _; rw [hsn.out]; exact hJ3), hKt hnx.out hk3⟩
        case measure => simp [intOf]
      · gi_wp2
        refine bodyPost_ret (results_none rfl _ _ _) rfl ?_
        exact ⟨⟨_, rfl⟩, .inr ⟨_, trivial, hJx3⟩⟩
    · obtain rfl : k = len := by omega
      have ek : ¬ (0 : Int) ≤ (k : Int) - 1 - (k : Int) := by omega
      gi_wp2
      go_end0
      exact ⟨⟨_, rfl⟩, .inl (by rw [HL.out]; exact hJs.out)⟩
set_option maxRecDepth 1000000 in
set_option maxHeartbeats 2000000 in
theorem sback_nil (n : Nat) (l Bs cap : Nat) (a : Option Addr) (J : List (Nat × Option UInt8) → World → Prop)
    (W : World) (hBs : W.cell? ⟨Bs, 0, none⟩ = some (.slice a 0 cap)) (h0 : J [] W) :
    CallsIn Fence.wide n Try.prog 25 #[.func (.yield l) #[] #[], .pointer (some ⟨Bs, 0, none⟩)] W fun e W' => (∃ v, e = .returned v) ∧ J [] W' := by
  have H0 := (show Hid (J [] W) from h0)
  clear h0
  refine callsIn_of_wp Try.func25 rfl trivial ?_ rfl
  simp only [Try.ntmps25, List.size_toArray, List.length_cons, List.length_nil, Nat.reduceAdd, Nat.reduceSub, Array.replicate_succ, Array.replicate_zero, List.push_toArray, List.append_toArray, List.nil_append, List.cons_append]
  gi_wp2
  gi_loopw [3] (fun i wr => i = .int .i64 (-1) ∧ wr = W) (fun _ _ => 0)
  case atStart => exact ⟨rfl, rfl⟩
  case round =>
    obtain ⟨rfl, rfl⟩ := hrel
    gi_wp2
    go_end0
    exact ⟨⟨_, rfl⟩, H0.out⟩
set_option maxHeartbeats 1000000 in
theorem sbackward_in (n : Nat) (a : Option Addr) (len cap : Nat) (w : World) :
    CallsIn Fence.wide n Try.prog 17 #[.slice a len cap] w fun e w' => e = .returned (.func (.func 25) #[] #[.pointer (some ⟨w.heap.size, 0, none⟩)]) ∧ w' = w.alloc (.cells #[.slice a len cap] 23) := by
  refine callsIn_of_wp Try.func17 rfl trivial ?_ rfl
  simp only [Try.ntmps17, List.size_toArray, List.length_cons, List.length_nil, Nat.reduceAdd, Nat.reduceSub, Array.replicate_succ, Array.replicate_zero, List.push_toArray, List.append_toArray, List.nil_append, List.cons_append]
  gi_wp2
  go_ret
  exact ⟨rfl, rfl⟩
theorem sback_stops (n : Nat) (hn : 1 ≤ n) (Bs cap N : Nat) (a : Option Addr) (xs : List (Option UInt8)) (hreach : xs.length ≤ 140737488355328) (w : World) (Kp : World → World → Prop) (hKr : ∀ A, Kp A A) (hKt : ∀ {A B C : World}, Kp A B → Kp B C → Kp A C) (hKs : ∀ A B, Kp A B → B.cell? ⟨Bs, 0, none⟩ = A.cell? ⟨Bs, 0, none⟩) (hKf : ∀ A B b o, b < N → Kp A B → B.cell? ⟨b, o, none⟩ = A.cell? ⟨b, o, none⟩) (hBs : Bs < w.heap.size) (hb : ∀ p, a = some p → 0 < xs.length → p.block < N)
    (hc : w.cell? ⟨Bs, 0, none⟩ = some (.slice a xs.length cap)) (hI : SrAt w a xs) :
    SeqStopsK Fence.wide n Try.prog 25 #[.pointer (some ⟨Bs, 0, none⟩)] (fun x : Nat × Option UInt8 => #[Value.int .i64 (x.1 : Int), svl x.2]) Kp (fun ys => ys = dnt xs xs.length) (fun _ => True) xs.length w := fun l J Jx W hW _ _ hY h0 => by
  have hc' := (hW.cell (p := ⟨Bs, 0, none⟩) hBs).trans hc
  have hI' := hI.below hW
  rcases hI' with rfl | ⟨b, o, rfl, h⟩
  · refine (sback_nil n l Bs cap a J W hc' h0).mono ?_
    rintro e W' ⟨he, h⟩
    exact ⟨he, .inl ⟨[], rfl, h⟩⟩
  · by_cases h00 : xs.length = 0
    · obtain rfl := List.length_eq_zero_iff.1 h00
      refine (sback_nil n l Bs cap _ J W hc' h0).mono ?_
      rintro e W' ⟨he, h⟩
      exact ⟨he, .inl ⟨[], rfl, h⟩⟩
    · have hbN : b < N := hb ⟨b, o, none⟩ rfl (by omega)
      refine (sback_core n hn l Bs b o cap xs hreach Kp hKr hKt hKs (fun A B o hk => hKf A B b o hbN hk) J Jx hY W hc' h h0).mono ?_
      rintro e W' ⟨he, h⟩
      exact ⟨he, h⟩
end
end Go.Proofs.Ytgconfcijmemmaa
