/-
  audit.Worst, the document's Worst, 'same'.
-/
import Derived.Test.YtnnepmofhedkpaaFm25
import Derived.Test.YtnnepmofhedkpaaFq25
namespace Go.Proofs.Ytnnepmofhedkpaa
open Go.RowKit
theorem res_B2 {fn : Func} {p q : Tmp} {t : TypeId} {cs : Array Value} (h : fn.results = #[.cell p t, .tmp q]) (tmps : Array Value) (w : World) (g : Nat) (hp : tmps.getD p undef = .pointer (some ⟨g, 0, none⟩)) (H : GB w g t cs) {fs : Array Field} (hu : Try.prog.underlying t = some (.struct fs)) (hs : (Try.prog.info? t).map (·.size) = some cs.size) :
    (results fn tmps).run Try.prog w = .ok (.tuple #[.agg cs, tmps.getD q undef]) w := by
  have hl := run_loadVar_at (P := Try.prog) w g 0 t cs _ (fun j v hv => by rw [Nat.zero_add, H.cell]; simpa using hv) hu rfl hs
  have hp' : tmps[p]?.getD undef = .pointer (some ⟨g, 0, none⟩) := by simpa using hp
  simp [results, h, hp', asAddr, hl]
/-- The answer. -/
def wst (f : Nat → Fi) : Nat → Fi
  | 0 => fi0
  | n + 1 => f (bi f n)
theorem fi0_cs : (Value.agg #[.string ⟨#[]⟩, .int .i64 0, .int .i64 0, .int .i64 0, .int .i64 0, .int .i64 0, .int .i64 0, .int .i64 0]) = .agg fi0.cs := rfl
section
attribute [local irreducible] Calls Fi.cs GB wfi worse bi
set_option maxHeartbeats 4000000 in
set_option maxRecDepth 1000000 in
theorem worst_any {w : World} {p : Option Addr} {n c : Nat} {f : Nat → Fi} (HS : FL w p n f) (hn : n ≤ 1000000000000000) :
    Calls Try.prog 6 #[.slice p n c] w fun e w' => e = .returned (.tuple #[.agg (wst f n).cs, .bool (decide (0 < n))]) ∧ Below w.heap.size w w' := by
  cases n with
  | zero =>
    clear HS
    go_enter Try.func6, Try.ntmps6
    go_wp2_with (first
      | (refine wpList_alB rfl rfl zero_Fi ?_; intro w1 hG1 hb1 hs1)
      | (refine wpList_stB (cs := fi0.cs) rfl _ _ rfl rfl w.heap.size rfl fi0_cs hG1 (size_FiS _) (fcs_same _ _) (fcs_one _) ?_; intro w2 hG2 hg2 hs2))
    refine bodyPost_ret (res_B2 rfl _ _ w.heap.size rfl hG2 Try.underlying26 (size_FiS _)) rfl ?_
    exact ⟨rfl, grown_below hb1 hg2 hb1.size (Nat.le_refl _)⟩
  | succ m =>
    have MN := (show Hid (∀ X, Below w.heap.size w X → _) from fun X hX => minFunc_any (c := c) (HS.below hX) (by omega))
    have hd : decide (0 < m + 1) = true := by simp
    rw [hd]
    have h1 : (((m + 1 : Nat) : Int) == 0) = false := by rw [beq_eq_false_iff_ne]; omega
    clear HS hn hd
    obtain ⟨N, hN⟩ : ∃ N, m + 1 = N := ⟨_, rfl⟩
    have hw : wst f (m + 1) = f (bi f m) := rfl
    rw [hw]
    rw [hN] at MN h1 ⊢
    clear hN hw
    go_enter Try.func6, Try.ntmps6
    go_wp2_with (first
      | (refine wpList_alB rfl rfl zero_Fi ?_; intro w1 hG1 hb1 hs1)
      | (go_at_call 9; refine (MN.out _ hb1).mono ?_; rintro e w2 ⟨rfl, hb2⟩; replace hG1 := hG1.below hb2)
      | (refine wpList_stB (cs := (f (bi f m)).cs) rfl _ _ rfl rfl w.heap.size rfl rfl hG1 (size_FiS _) (fcs_same _ _) (fcs_one _) ?_; intro w3 hG3 hg3 hs3))
    refine bodyPost_ret (res_B2 rfl _ _ w.heap.size rfl hG3 Try.underlying26 (size_FiS _)) rfl ?_
    exact ⟨rfl, grown_below (bt hb1 hb2) hg3 (Nat.le_trans hb1.size hb2.size) (Nat.le_refl _)⟩
/-- Alike as far as n. -/
def alk (f g : Nat → Fi) (n : Nat) : Prop := ∀ i, i < n → f i = g i
set_option maxHeartbeats 4000000 in
set_option maxRecDepth 1000000 in
theorem same_any {w : World} {p q : Option Addr} {n c d : Nat} {f g : Nat → Fi} (HF : FL w p n f) (HG : FL w q n g) (hn : n ≤ 1000000000000000) (hE : alk f g n) :
    Calls Try.prog 7 #[.slice p n c, .slice q n d] w fun e w' => e = .returned (.bool true) ∧ Below w.heap.size w w' := by
  have h1 : ((n : Int) != (n : Int)) = false := by simp
  have HF' := (show Hid (FL w p n f) from HF)
  have HG' := (show Hid (FL w q n g) from HG)
  have HN := (show Hid (n ≤ 1000000000000000) from hn)
  have HE := (show Hid (alk f g n) from hE)
  clear HF HG hn hE
  go_enter Try.func7, Try.ntmps7
  go_wp2_with (fail)
  clear h1
  go_loopw [5] (fun i wr => ∃ t : Nat, t ≤ n ∧ i = .int .i64 (t : Int) ∧ Hid (Below w.heap.size w wr)) (fun i _ => n - (intOf i).toNat)
  case atStart => exact ⟨0, Nat.zero_le _, rfl, Below.refl _ _⟩
  case round =>
    obtain ⟨t, ht, rfl, HB⟩ := hrel
    by_cases hlt : t < n
    · have hi : (t : Int) < (n : Int) := by omega
      have HT := (show Hid (t < n) from hlt)
      have WT := (show Hid (wrap64 ((t : Int) + 1) = ((t + 1 : Nat) : Int)) from by have := HN.out; show _ = _; unfold wrap64; omega)
      obtain ⟨b1, o1, rfl, A1⟩ := (HF'.out.below HB.out).at hlt
      obtain ⟨b2, o2, rfl, A2⟩ := (HG'.out.below HB.out).at hlt
      have hfe : feq (f t) (g t) = true := (feq_iff _ _).2 (HE.out t hlt)
      have hbd : Below wr.heap.size wr wr.drew := (Below.refl _ _).drew
      have R1 := ((A1 t hlt).below hbd).run
      have R2 := ((A2 t hlt).below hbd).run
      clear A1 A2 hlt ht
      go_wp2_with (fail)
      refine wp_region_held_drew (S := fun X => (loadVar 26 ⟨b1, o1 + t * 8, none⟩).run Try.prog X = .ok (.agg (f t).cs) X ∧ (loadVar 26 ⟨b2, o2 + t * 8, none⟩).run Try.prog X = .ok (.agg (g t).cs) X) (by kernel_rfl) ⟨R1, R2⟩ (fun hHeld => ?_)
      refine takeHr (i := 0) (d := some 17) (v := ?v1) rfl rfl (by kernel_rfl) (by kernel_rfl) (by kernel_rfl) (fun _ _ _ h => h) (Or.inl ⟨by rfl, ?hy1⟩) hHeld ?rest1
      case hy1 => intro X hSw; obtain ⟨g1, g2⟩ := hSw; go_simp <;> with_reducible rfl
      try simp only [Act.put, List.setIfInBounds_toArray, List.set_cons_zero, List.set_cons_succ]
      refine takeHr (i := 1) (d := some 18) (v := ?v2) rfl rfl (by kernel_rfl) (by kernel_rfl) (by kernel_rfl) (fun _ _ _ h => h) (Or.inl ⟨by rfl, ?hy2⟩) hHeld ?rest2
      case hy2 => intro X hSw; obtain ⟨g1, g2⟩ := hSw; go_simp <;> with_reducible rfl
      try simp only [Act.put, List.setIfInBounds_toArray, List.set_cons_zero, List.set_cons_succ]
      refine takeHr (i := 2) (d := some 19) (v := ?v3) rfl rfl (by kernel_rfl) (by kernel_rfl) (by kernel_rfl) (fun _ _ _ h => h) (Or.inl ⟨by rfl, ?hy3⟩) hHeld ?rest3
      case hy3 => intro X hSw; obtain ⟨g1, g2⟩ := hSw; go_simp <;> with_reducible rfl
      try simp only [Act.put, List.setIfInBounds_toArray, List.set_cons_zero, List.set_cons_succ]
      refine takeHr (i := 3) (d := some 20) (v := .agg (f t).cs) rfl rfl (by kernel_rfl) (by kernel_rfl) (by kernel_rfl) (fun _ _ _ h => h) (Or.inl ⟨by rfl, ?hy4⟩) hHeld ?rest4
      case hy4 => intro X hSw; exact ex_ldR rfl rfl hSw.1
      try simp only [Act.put, List.setIfInBounds_toArray, List.set_cons_zero, List.set_cons_succ]
      refine takeHr (i := 4) (d := some 21) (v := ?v5) rfl rfl (by kernel_rfl) (by kernel_rfl) (by kernel_rfl) (fun _ _ _ h => h) (Or.inl ⟨by rfl, ?hy5⟩) hHeld ?rest5
      case hy5 => intro X hSw; obtain ⟨g1, g2⟩ := hSw; go_simp <;> with_reducible rfl
      try simp only [Act.put, List.setIfInBounds_toArray, List.set_cons_zero, List.set_cons_succ]
      refine takeHr (i := 5) (d := some 22) (v := ?v6) rfl rfl (by kernel_rfl) (by kernel_rfl) (by kernel_rfl) (fun _ _ _ h => h) (Or.inl ⟨by rfl, ?hy6⟩) hHeld ?rest6
      case hy6 => intro X hSw; obtain ⟨g1, g2⟩ := hSw; go_simp <;> with_reducible rfl
      try simp only [Act.put, List.setIfInBounds_toArray, List.set_cons_zero, List.set_cons_succ]
      refine takeHr (i := 6) (d := some 23) (v := ?v7) rfl rfl (by kernel_rfl) (by kernel_rfl) (by kernel_rfl) (fun _ _ _ h => h) (Or.inl ⟨by rfl, ?hy7⟩) hHeld ?rest7
      case hy7 => intro X hSw; obtain ⟨g1, g2⟩ := hSw; go_simp <;> with_reducible rfl
      try simp only [Act.put, List.setIfInBounds_toArray, List.set_cons_zero, List.set_cons_succ]
      refine takeHr (i := 7) (d := some 24) (v := .agg (g t).cs) rfl rfl (by kernel_rfl) (by kernel_rfl) (by kernel_rfl) (fun _ _ _ h => h) (Or.inl ⟨by rfl, ?hy8⟩) hHeld ?rest8
      case hy8 => intro X hSw; exact ex_ldR rfl rfl hSw.2
      try simp only [Act.put, List.setIfInBounds_toArray, List.set_cons_zero, List.set_cons_succ]
      refine takeHr (i := 8) (d := some 25) (v := .bool (!feq (f t) (g t))) rfl rfl (by kernel_rfl) (by kernel_rfl) (by kernel_rfl) (fun _ _ _ h => h) (Or.inl ⟨by rfl, ?hy9⟩) hHeld ?rest9
      case hy9 => intro X hSw; exact ex_bin rfl rfl rfl (by kernel_rfl) (neq_fi _ _ _)
      try simp only [Act.put, List.setIfInBounds_toArray, List.set_cons_zero, List.set_cons_succ]
      refine wpAnyH_done (by kernel_rfl) ?_ _
      clear hHeld R1 R2
      rw [hfe]
      go_wp2_with (fail)
      go_roundw
      case rel => exact ⟨t + 1, HT.out, by rw [WT.out], bt HB.out hbd⟩
      case measure => rw [WT.out]; exact meas25 HT.out
    · have e : t = n := by omega
      rw [e]
      go_wp2_with (fail)
      go_ret
      exact ⟨rfl, HB.out⟩
end
end Go.Proofs.Ytnnepmofhedkpaa
