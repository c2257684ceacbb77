/-
  Arm: a range over a function.
-/
import Derived.Test.YtjjncajfljbegaaWb
import Derived.RangeFuncNested
import Derived.RangeFuncBound
import Derived.RangeFuncCalls
import Derived.RangeFuncLeaves
import Derived.Shelf.Abstract
import Derived.Shelf.RegionOpen
import Derived.WalkKit
import Derived.OwnWalkIn
import Derived.TacticsInMore
import Derived.LoopNIn
import Derived.LoopIn
import Derived.Maps.OwnIn
namespace Go.Proofs.Ytjjncajfljbegaa
open Go.RowKit Go.Shelf Go.Maps
attribute [local go_sem] Oper.semAt_some
/-- A fault: its call, its kind. -/
abbrev Ft := { p : Int × Int // (Lit.int .i64 p.1).wf = true ∧ (Lit.int .i64 p.2).wf = true }
/-- Faults in memory. -/
def FtAt (W : World) (b : Nat) (fs : List Ft) : Prop := ∀ j (h : j < fs.length), W.cell? ⟨b, j * 2, none⟩ = some (.int .i64 (fs[j]).1.1) ∧ W.cell? ⟨b, j * 2 + 1, none⟩ = some (.int .i64 (fs[j]).1.2)
/-- What has come when k rounds are over: from the last one on. -/
def dnto (fs : List Ft) (k : Nat) : List (Nat × Ft) := (List.range k).filterMap fun j => (fs[fs.length - 1 - j]?).map fun x => (fs.length - 1 - j, x)
theorem dnto_succ {fs : List Ft} {k : Nat} (h : k < fs.length) : dnto fs (k + 1) = dnto fs k ++ [(fs.length - 1 - k, fs[fs.length - 1 - k]'(by omega))] := by
  unfold dnto
  rw [List.range_succ, List.filterMap_append]
  congr 1
  simp [show fs.length - 1 - k < fs.length by omega]
theorem dnto_len {fs : List Ft} : ∀ {k : Nat}, k ≤ fs.length → (dnto fs k).length = k
  | 0, _ => rfl
  | k + 1, h => by rw [dnto_succ (by omega), List.length_append, dnto_len (by omega)]; rfl
section
attribute [local irreducible] Calls
set_option maxRecDepth 1000000 in
set_option maxHeartbeats 2000000 in
theorem back1_in (n : Nat) (hn : 1 ≤ n) (l Bs b cap : Nat) (fs : List Ft) (hreach : fs.length ≤ 1000000000000) (Kp : World → World → Prop) (hKr : ∀ A, Kp A A) (hKt : ∀ {A B C : World}, Kp A B → Kp B C → Kp A C) (hKs : ∀ A B, Kp A B → B.cell? ⟨Bs, 0, none⟩ = A.cell? ⟨Bs, 0, none⟩) (hKf : ∀ A B o, Kp A B → B.cell? ⟨b, o, none⟩ = A.cell? ⟨b, o, none⟩) (J Jx : List (Nat × Ft) → World → Prop)
    (hY : ∀ pre x W, J pre W → pre.length < fs.length → YieldAt Fence.wide (n - 1) Try.prog l #[.int .i64 (x.1 : Int), .agg #[.int .i64 x.2.1.1, .int .i64 x.2.1.2]] W fun e W' =>
      (e = .returned (.bool true) ∧ J (pre ++ [x]) W' ∧ Kp W W') ∨ (e = .returned (.bool false) ∧ Jx (pre ++ [x]) W'))
    (W : World) (hBs : W.cell? ⟨Bs, 0, none⟩ = some (.slice (some ⟨b, 0, none⟩) fs.length cap)) (hc : FtAt W b fs) (h0 : J [] W) :
    CallsIn Fence.wide n Try.prog 74 #[.func (.yield l) #[] #[], .pointer (some ⟨Bs, 0, none⟩)] W fun e W' => (∃ v, e = .returned v) ∧
      ((∃ ys, ys = dnto fs fs.length ∧ J ys W') ∨ (∃ pre, True ∧ Jx pre W')) := by
  obtain ⟨len, hL⟩ : ∃ len, fs.length = len := ⟨_, rfl⟩
  have HL := (show Hid (fs.length = len) from hL)
  rw [hL] at hBs hreach
  clear hL
  have wl : wrap64 ((len : Int) - 1) = (len : Int) - 1 := by unfold wrap64; omega
  refine callsIn_of_wp Try.func74 rfl trivial ?_ rfl
  simp only [Try.ntmps74, List.size_toArray, List.length_cons, List.length_nil, Nat.reduceAdd, Nat.reduceSub, Array.replicate_succ, Array.replicate_zero, List.push_toArray, List.append_toArray, List.nil_append, List.cons_append]
  gi_wp2
  gi_loopw [3] (fun i wr => ∃ k : Nat, k ≤ len ∧ i = .int .i64 ((len : Int) - 1 - (k : Int)) ∧ Hid (J (dnto fs k) wr) ∧ Hid (Kp W wr)) (fun i _ => (intOf i + 1).toNat)
  case atStart => exact ⟨0, Nat.zero_le _, by simp, h0, hKr _⟩
  case round =>
    obtain ⟨k, hk, rfl, hJs, hnx⟩ := hrel
    have cB : wr.cell? ⟨Bs, 0, none⟩ = some (.slice (some ⟨b, 0, none⟩) len cap) := (hKs _ _ hnx.out).trans hBs
    by_cases hlt : k < len
    · have hkl : len - 1 - k < fs.length := by rw [HL.out]; omega
      obtain ⟨c1, c2⟩ := hc (len - 1 - k) hkl
      have d1 := (hKf _ _ _ hnx.out).trans c1
      have d2 := (hKf _ _ _ hnx.out).trans c2
      obtain ⟨i, hi⟩ : ∃ i, len - 1 - k = i := ⟨_, rfl⟩
      have ei : (len : Int) - 1 - (k : Int) = (i : Int) := by omega
      have hil : (i : Int) < (len : Int) := by omega
      obtain ⟨x, hx⟩ : ∃ x, fs[len - 1 - k] = x := ⟨_, rfl⟩
      rw [hx, hi] at d1 d2
      have hsn := (show Hid (dnto fs (k + 1) = dnto fs k ++ [(i, x)]) from by
        show _ = _
        rw [dnto_succ (by rw [HL.out]; exact hlt)]
        simp only [HL.out, hi]
        rw [← hx]
        simp only [hi])
      obtain ⟨fn, tmps, assign, body, hy, hR⟩ := hY _ (i, x) wr hJs.out (by rw [dnto_len (by rw [HL.out]; exact hk), HL.out]; exact hlt)
      dsimp only at hy
      clear c1 c2 hx hi hkl hc
      rw [ei]
      have gi : (0 : Int) ≤ (i : Int) := by omega
      have wi : wrap64 ((i : Int) - 1) = (len : Int) - 1 - ((k + 1 : Nat) : Int) := by unfold wrap64; omega
      gi_wp2
      refine hR.mono ?_
      rintro e W3 (⟨rfl, hJ3, hk3⟩ | ⟨rfl, hJx3⟩)
      · gi_wp2
        go_roundw
        case rel => exact ⟨k + 1, by omega, (by simp; omega), (by show J _ _; rw [hsn.out]; exact hJ3), hKt hnx.out hk3⟩
        case measure => simp [intOf]
      · gi_wp2
        refine bodyPost_ret (results_none rfl _ _ _) rfl ?_
        exact ⟨⟨_, rfl⟩, .inr ⟨_, trivial, hJx3⟩⟩
    · obtain rfl : k = len := by omega
      have ek : ¬ (0 : Int) ≤ (k : Int) - 1 - (k : Int) := by omega
      gi_wp2
      go_end0
      exact ⟨⟨_, rfl⟩, .inl (by rw [HL.out]; exact hJs.out)⟩
set_option maxHeartbeats 1000000 in
theorem backward_in (n : Nat) (a : Option Addr) (len cap : Nat) (w : World) :
    CallsIn Fence.wide n Try.prog 64 #[.slice a len cap] w fun e w' => e = .returned (.func (.func 74) #[] #[.pointer (some ⟨w.heap.size, 0, none⟩)]) ∧ w' = w.alloc (.cells #[.slice a len cap] 30) := by
  refine callsIn_of_wp Try.func64 rfl trivial ?_ rfl
  simp only [Try.ntmps64, List.size_toArray, List.length_cons, List.length_nil, Nat.reduceAdd, Nat.reduceSub, Array.replicate_succ, Array.replicate_zero, List.push_toArray, List.append_toArray, List.nil_append, List.cons_append]
  gi_wp2
  go_ret
  exact ⟨rfl, rfl⟩
theorem FtAt.below {n₀ : Nat} {A B : World} {b : Nat} {fs : List Ft} (h : FtAt A b fs) (hb : b < n₀) (k : Below n₀ A B) : FtAt B b fs := fun j hj => ⟨(k.cell (p := ⟨b, j * 2, none⟩) hb).trans (h j hj).1, (k.cell (p := ⟨b, j * 2 + 1, none⟩) hb).trans (h j hj).2⟩
theorem back_stops (n : Nat) (hn : 1 ≤ n) (Bs b cap : Nat) (fs : List Ft) (hreach : fs.length ≤ 1000000000000) (w : World) (Kp : World → World → Prop) (hKr : ∀ A, Kp A A) (hKt : ∀ {A B C : World}, Kp A B → Kp B C → Kp A C) (hKs : ∀ A B, Kp A B → B.cell? ⟨Bs, 0, none⟩ = A.cell? ⟨Bs, 0, none⟩) (hKf : ∀ A B o, Kp A B → B.cell? ⟨b, o, none⟩ = A.cell? ⟨b, o, none⟩) (hBs : Bs < w.heap.size) (hb : b < w.heap.size)
    (hc : w.cell? ⟨Bs, 0, none⟩ = some (.slice (some ⟨b, 0, none⟩) fs.length cap)) (hI : FtAt w b fs) :
    SeqStopsK Fence.wide n Try.prog 74 #[.pointer (some ⟨Bs, 0, none⟩)] (fun x : Nat × Ft => #[Value.int .i64 (x.1 : Int), Value.agg #[.int .i64 x.2.1.1, .int .i64 x.2.1.2]]) Kp (fun ys => ys = dnto fs fs.length) (fun _ => True) fs.length w := fun l J Jx W hW _ _ hY h0 => by
  have hc' := (hW.cell (p := ⟨Bs, 0, none⟩) hBs).trans hc
  refine (back1_in n hn l Bs b cap fs hreach Kp hKr hKt hKs hKf J Jx hY W hc' (hI.below hb hW) h0).mono ?_
  rintro e W' ⟨he, h⟩
  exact ⟨he, h⟩
/-- A plan out of faults: the first one of a call is what stays. -/
def plD (xs : List (Nat × Ft)) : DataW Unit := xs.foldl (fun D x => D.put (.int .i64 x.2.1.1) (.lit (.int .i64 x.2.1.2))) (.map [])
theorem plD_snoc (pre : List (Nat × Ft)) (x : Nat × Ft) : plD (pre ++ [x]) = (plD pre).put (.int .i64 x.2.1.1) (.lit (.int .i64 x.2.1.2)) := by simp [plD, List.foldl_append]
end
end Go.Proofs.Ytjjncajfljbegaa
