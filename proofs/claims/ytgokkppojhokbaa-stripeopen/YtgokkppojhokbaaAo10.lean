/-
  The laws' fit: what it takes.
-/
import Derived.Test.YtgokkppojhokbaaPo10
import Derived.Test.YtgokkppojhokbaaRq
import Derived.Deep.DeepCutAuto
import Derived.Test.YtgokkppojhokbaaJc10
import Derived.Test.YtgokkppojhokbaaSt10
import Derived.Test.YtgokkppojhokbaaSp10
import Derived.Test.YtgokkppojhokbaaOb10
import Derived.Test.YtgokkppojhokbaaCm
import Derived.Test.YtgokkppojhokbaaHe10
import Derived.BigQuiet
namespace Go.Proofs.Ytgokkppojhokbaa
open Go.RowKit
/-- The head that fit makes. -/
def ftH (x : Hd) (K M B : Nat) (key : List (BitVec 8)) (ep ct : Nat) : Hd := { x with k := (K : Int), m := (M : Int), b := (B : Int), key := key, sz := 0, ix := 0, ep := (ep : Int), ct := (ct : Int) }
theorem wr1 (t : Nat) (h : t < 4294967295) : ∃ B : Nat, IntKind.i64.wrap ((1 : Int) + (t : Int)) = (B : Int) ∧ Hid (B = 1 + t) := by
  refine ⟨1 + t, ?_, rfl⟩
  rw [IntKind.wrap_i64]
  omega
theorem fit_min (t : Nat) (ht : t < 254) : ∃ Q : Nat, (∀ (ts : Array TypeId) (ty : TypeId) (W : World), (Builtin.min_ ts ty #[.int .i64 (1 + (t : Int)), .int .i64 (255 - (1 + (t : Int)))]).run Try.prog W = .ok (.int .i64 (Q : Int)) W) ∧ Hid (1 ≤ Q ∧ Q ≤ 1 + t ∧ 1 + t + Q ≤ 255) := by
  refine ⟨min (1 + t) (254 - t), fun ts ty W => ?_, ?_⟩
  · rw [run_min_int2]
    congr 2
    split <;> omega
  · show _ ∧ _ ∧ _
    omega
theorem HdAt.keyed {w : World} {g : Nat} {h : Hd} (H : HdAt w g h) (k : List (BitVec 8)) : HdAt (w.setCell ⟨g, 11, none⟩ (.string (bstr k))) g { h with key := k } := by
  unfold HdAt at *
  rw [heap_setCell_same w g 11 _ _ _ H]
  rfl
theorem b107 : (⟨#[107]⟩ : ByteArray) = bstr [107#8] := rfl
theorem front_any (p : Option Addr) (n c N : Nat) (hN : N ≤ n) (hc : n ≤ c) : ∃ V, (∀ w', (Instr.slice 23 (.slice p n c) none (some (.int .i64 (N : Int))) none).run Try.prog w' = .ok V w') ∧ ∀ (w : World) (d : Nat → BitVec 8), NrE w (.slice p n c) n d → NrE w V N d := by
  have hu : Try.prog.underlying 23 = some (.slice (Try.prog.elem 23)) := by kernel_rfl
  have hz : ∀ w', (sizeOf (Try.prog.elem 23)).run Try.prog w' = .ok 1 w' := fun w' => by
    obtain ⟨i0, hi, hz0, hz1, hz2⟩ := info_parts info5
    have e : Try.prog.elem 23 = 5 := by kernel_rfl
    rw [e]
    simp [sizeOf, typeInfo, hi, hz1]
  refine ⟨sliced p 0 N c 1, fun w' => ?_, fun w d h => ?_⟩
  · rw [run_slice_h w' 23 _ n c hu .i64 (N : Int) (by omega) (by omega), hz]
    simp [Result.andThen]
  · obtain ⟨p', c', e, h2⟩ := nr_un h
    injection e with e1 e2 e3
    subst e1 e3
    unfold sliced
    rcases Nat.eq_zero_or_pos N with h0 | h0
    · subst h0
      split <;> exact ⟨_, _, rfl, .inl rfl⟩
    · obtain ⟨b, o, e, hcs⟩ := h2 (by omega)
      subst e
      rw [if_neg (by omega)]
      refine ⟨some ⟨b, o, none⟩, c, ?_, .inr ⟨b, o, rfl, fun i hi => hcs i (by omega)⟩⟩
      simp [add_pl]
set_option maxRecDepth 100000 in
theorem step_clone_b {ops : Array Oper} {o : Oper} {a : Act} {w : World} {K : Act → World → Prop} {Q : Exit → Act → World → Prop} {E : Prop} (hgd : o.guard = none) (s x : Operand) (ho : o.op = .call { callee := .builtin .append, args := #[s, x], argTypes := #[23, 23] })
    (hs : a.eval s = .slice none 0 0) (v : Value) (n : Nat) (f : Nat → BitVec 8) (hx : a.eval x = v) (hr : NrE w v n f) (hm : n ≤ 140737488355328)
    (h : ∀ q r w', n ≤ r → Br w' (.slice q n r) n f → Below w.heap.size w w' → K (a.put o.dst (.slice q n r)) w') : if Region.wanted o (yielded ops a.tmps) = true then Oper.wp Try.prog o a w K Q else E := by
  have hw : Region.wanted o (yielded ops a.tmps) = true := by simp [Region.wanted, hgd]
  rw [if_pos hw]
  obtain ⟨i0, hi, hz0, hz1, hz2⟩ := info_parts info5
  obtain ⟨p, c, rfl, hr2⟩ := nr_un hr
  clear hr
  cases p with
  | none =>
    have hn : n = 0 := by
      rcases Nat.eq_zero_or_pos n with h1 | h1
      · exact h1
      · obtain ⟨b, o, e, _⟩ := hr2 h1; cases e
    subst hn
    have hrun := run_append_no (P := Try.prog) (w := w) 23 o.type 5 i0 Try.underlying23 hi c
    unfold Oper.wp
    simp [execOp, ho, resolve, invoke, builtin, hs, hx, hrun, Result.andThen]
    exact h none 0 w (Nat.le_refl _) ⟨none, 0, rfl, .inl rfl⟩ (Below.refl _ _)
  | some ad =>
    have S : ∀ j u, (lv (clE f) n)[j]? = some u → w.cell? (ad.add j) = some u := by
      intro j u hu
      have hjn : j < n := by
        rcases Nat.lt_or_ge j n with h | h
        · exact h
        · rw [List.getElem?_eq_none (by rw [lv_len]; exact h)] at hu; cases hu
      rw [lv_at _ n j hjn] at hu
      injection hu with hu
      obtain ⟨b, off, e, hc⟩ := hr2 (by omega)
      injection e with e
      subst e
      rw [add_pl, hc j hjn]; exact congrArg some hu
    refine wp_append_own w _ _ 23 ho w.heap.size 5 i0 (.int .u8 0) 1 1 Try.underlying23 hi hz0 hz1 hz2 rfl (by decide) (.slice none 0 0) 0 [] hs (World.ownsRow_nil _ _ _ _) ad n c (lv (clE f) n) hx (by rw [lv_len, Nat.mul_one]) S (fun u hu => by unfold lv at hu; obtain ⟨i, _, rfl⟩ := List.mem_map.1 hu; rfl) (by unfold maxLen; omega) (by omega) (Nat.le_refl _) ?_
    intro v' w' ho' hg _
    rw [Nat.zero_add, List.nil_append] at ho'
    have hB := (show Br w' v' n f from owns_st1 ho')
    have hcap : ∃ q r, v' = .slice q n r ∧ n ≤ r := by
      rcases ho'.2 with ⟨hv, h1⟩ | ⟨g, cap, c, hv, hg, hh, hc, hm, hs, ht⟩
      · obtain rfl : n = 0 := by simpa using h1
        exact ⟨_, _, hv, Nat.le_refl _⟩
      · exact ⟨_, _, hv, hc⟩
    obtain ⟨q, r, rfl, hqr⟩ := hcap
    exact h q r w' hqr hB (below_append (t := 5) (base := w.heap.size) (k := 1) (n := 0) (xs := []) (Below.refl _ _) (Nat.le_refl _) hg (World.ownsRow_nil _ _ _ _) (Nat.le_refl _))
theorem step_stHd {ops : Array Oper} {o : Oper} {a : Act} {w : World} {K : Act → World → Prop} {Q : Exit → Act → World → Prop} {E : Prop} {h0 : Hd} (h : Hd) (hgd : o.guard = none) (x y : Operand) (ho : o.op = .store 33 x y) (hd : o.dst = none) (g : Nat) (hx : a.eval x = .pointer (some ⟨g, 0, none⟩)) (hy : a.eval y = .agg h.cs) (H : HdAt w g h0)
    (k : ∀ w', HdAt w' g h → But g w w' → K a w') : if Region.wanted o (yielded ops a.tmps) = true then Oper.wp Try.prog o a w K Q else E := by
  have hw : Region.wanted o (yielded ops a.tmps) = true := by simp [Region.wanted, hgd]
  rw [if_pos hw]
  have hr := run_storeVar_at (P := Try.prog) w g 0 33 33 h0.cs h.cs H sizeHd (by show 0 + 16 ≤ 16; omega) (hcs_all h)
  unfold Oper.wp execOp
  simp only [ho, hx, hy, Instr.storeAt, Instr.sureAddr, Sem.run_bind, Sem.run_pure, Result.andThen_ok, hr]
  have e : a.put o.dst undef = a := by rw [hd]; rfl
  show K (a.put o.dst undef) _
  rw [e]
  refine k _ ?_ (But.setRow _)
  unfold HdAt at H ⊢
  rw [setRow_heap w g _ _ _ _ H]
  rfl
end Go.Proofs.Ytgokkppojhokbaa
/-
  The laws' fit.
-/
namespace Go.Proofs.Ytgokkppojhokbaa
open Go.RowKit
theorem al_sz (w : World) (o : Obj) : (w.alloc o).heap.size = w.heap.size + 1 := by simp
structure Fits (K M B N ep ct : Nat) (key : List (BitVec 8)) : Prop where
  k1 : 1 ≤ K
  m1 : 1 ≤ M
  mlk : M ≤ K
  km : K + M ≤ 255
  b1 : 1 ≤ B
  b2 : B ≤ 65536
  n1 : N ≤ 1048576
  n2 : N ≤ 4096 * K * B
  e1 : 1 ≤ ep
  e2 : ep ≤ 4294967295
  c1 : 1 ≤ ct
  c2 : ct ≤ 4294967295
  y1 : 1 ≤ key.length
  y2 : key.length ≤ 255
theorem PlAt.but {w w' : World} {g g' : Nat} {x : Hd} {vd vp : Value} (H : PlAt w g x vd vp) (hb : But g' w w') (hne : g ≠ g') : PlAt w' g x vd vp := by
  have hl := H.lt
  unfold PlAt at *; rw [hb.ot g hl hne]; exact H
theorem ex_ldHd {o : Oper} {a : Act} {X : World} {h : Hd} (x : Operand) (ho : o.op = .load 33 x) (g : Nat) (hx : a.eval x = .pointer (some ⟨g, 0, none⟩)) (H : HdAt X g h) : (execOp a.eval o).run Try.prog X = .ok (.value (.agg h.cs)) X := by
  unfold execOp
  simp only [ho, hx, Instr.loadAt, Instr.sureAddr, Sem.run_bind, Sem.run_pure, Result.andThen_ok, run_loadVar_at X g 0 33 h.cs _ (fun j v hj => by rw [Nat.zero_add, cell_of_row _ _ _ _ _ (0, 0) H]; simpa using hj) Try.underlying33 rfl sizeHd]
/-- As many of the bytes as fit. -/
theorem fit_most (n K B : Nat) (h1 : 1 ≤ K) (h2 : K ≤ 254) (h3 : 1 ≤ B ∧ B ≤ 65536) : ∃ Y Z N : Nat, wrap64 (4096 * (K : Int)) = (Y : Int) ∧ wrap64 ((Y : Int) * (B : Int)) = (Z : Int) ∧ (∀ (ts : Array TypeId) (ty : TypeId) (W : World), (Builtin.min_ ts ty #[.int .i64 (n : Int), .int .i64 1048576, .int .i64 (Z : Int)]).run Try.prog W = .ok (.int .i64 (N : Int)) W) ∧ Hid (N ≤ n ∧ N ≤ 1048576 ∧ N ≤ 4096 * K * B) := by
  have h4 : K * B ≤ 254 * 65536 := Nat.mul_le_mul h2 h3.2
  have e : 4096 * K * B = 4096 * (K * B) := Nat.mul_assoc _ _ _
  refine ⟨4096 * K, 4096 * K * B, min n (min 1048576 (4096 * K * B)), ?_, ?_, fun ts ty W => ?_, ?_⟩
  · unfold wrap64; omega
  · rw [← Int.natCast_mul]
    generalize 4096 * K * B = z at *
    unfold wrap64; omega
  · exact min3_of n 1048576 (4096 * K * B) ts ty W
  · show _ ∧ _ ∧ _
    omega
section
attribute [local irreducible] Calls el plC NrE PlAt bstr
set_option maxHeartbeats 16000000 in
set_option maxRecDepth 1000000 in
theorem fit_any (x : Hd) (pd : Option Addr) (n c : Nat) (vp : Value) (d : Nat → BitVec 8) (w : World) (hnc : n ≤ c) (hD : NrE w (.slice pd n c) n d) :
    Calls Try.prog 5 #[.agg (plC x (.slice pd n c) vp)] w fun e w' => ∃ (K M B N ep ct : Nat) (key : List (BitVec 8)) (q : Option Addr) (r : Nat), e = .returned (.tuple #[.agg (ftH x K M B key ep ct).cs, .slice q N r]) ∧ Fits K M B N ep ct key ∧ N ≤ r ∧ NrE w' (.slice q N r) N d ∧ Below w.heap.size w w' := by
  have H0 := (show Hid _ from PlAt.new w x (.slice pd n c) vp)
  have P1 : Hid (∀ X, Calls Try.prog 11 #[.int .i64 x.k, .int .i64 254] X fun e w' => ∃ t : Nat, e = .returned (.int .i64 (t : Int)) ∧ t < 254 ∧ w' = X) := fun X => pick10 x.k 254 (by omega) (by omega) X
  have P3 : Hid (∀ X, Calls Try.prog 11 #[.int .i64 x.b, .int .i64 65536] X fun e w' => ∃ t : Nat, e = .returned (.int .i64 (t : Int)) ∧ t < 65536 ∧ w' = X) := fun X => pick10 x.b 65536 (by omega) (by omega) X
  have P4 : Hid (∀ X, Calls Try.prog 11 #[.int .i64 x.ep, .int .i64 4294967295] X fun e w' => ∃ t : Nat, e = .returned (.int .i64 (t : Int)) ∧ t < 4294967295 ∧ w' = X) := fun X => pick10 x.ep 4294967295 (by omega) (by omega) X
  have P5 : Hid (∀ X, Calls Try.prog 11 #[.int .i64 x.ct, .int .i64 4294967295] X fun e w' => ∃ t : Nat, e = .returned (.int .i64 (t : Int)) ∧ t < 4294967295 ∧ w' = X) := fun X => pick10 x.ct 4294967295 (by omega) (by omega) X
  go_enter Try.func5, Try.ntmps5
  go_wp2_with (first
    | (refine wpList_alHd rfl rfl ?_; intro wa Za hba hsa; have HP := (show Hid _ from PlAt.below H0.out hba); obtain ⟨c0, c1, _, _⟩ := HP.out.nums)
    | (go_at_call 11; revert P1; intro P1; refine (P1.out _).mono ?_; rintro e w1 ⟨t, rfl, ht, h⟩; obtain rfl := h.symm; clear P1; obtain ⟨Q, mn, HQ⟩ := fit_min t ht)
    | (go_at_call 11; revert mn; intro mn; refine (pick10 x.m Q HQ.out.1 (by have := HQ.out; omega) _).mono ?_; rintro e w2 ⟨t2, rfl, ht2, h⟩; obtain rfl := h.symm; clear mn; have x4 : t2 < 254 := (by have := HQ.out; omega)))
  obtain ⟨K, hK⟩ : ∃ K : Nat, (K : Int) = 1 + (t : Int) := ⟨1 + t, by omega⟩
  obtain ⟨M, hM⟩ : ∃ M : Nat, (M : Int) = 1 + (t2 : Int) := ⟨1 + t2, by omega⟩
  have HM : Hid (1 ≤ K ∧ 1 ≤ M ∧ M ≤ K ∧ K + M ≤ 255) := (show _ from by have := HQ.out; exact ⟨by omega, by omega, by omega, by omega⟩)
  rw [← hK, ← hM]
  clear hK hM HQ ht2 x4 ht c0 c1
  have hsw : wa.heap.size = w.heap.size + 1 + 1 := by rw [hsa, al_sz]
  have hb0 : Below w.heap.size w wa := Below.trans ((Below.refl _ _).alloc (Nat.le_refl _) _) (hba.mono (by rw [al_sz]; omega))
  rw [al_sz] at Za
  go_cut [6] (fun v6 wx => ∃ (B ep ct : Nat), v6 = .pointer (some ⟨w.heap.size + 1 + 1, 0, none⟩) ∧ Hid ((1 ≤ B ∧ B ≤ 65536) ∧ (1 ≤ ep ∧ ep ≤ 4294967295) ∧ 1 ≤ ct ∧ ct ≤ 4294967295) ∧ Hid (HdAt wx (w.heap.size + 1 + 1) (ftH x K M B x.key ep ct)) ∧ Below wa.heap.size wa wx)
  case first =>
    have KS := (show Hid (PlS _ _ _) from (HP.out.below (bdr wa)).pls)
    unfold PlS at KS
    go_region_held3 (fun X => X.cell? ⟨w.heap.size, 2, none⟩ = some (.int .i64 x.b) ∧ X.cell? ⟨w.heap.size, 3, none⟩ = some (.int .u8 (el x.a0)) ∧ X.cell? ⟨w.heap.size, 4, none⟩ = some (.int .u8 (el x.a1)) ∧ X.cell? ⟨w.heap.size, 5, none⟩ = some (.int .u8 (el x.a2)) ∧ X.cell? ⟨w.heap.size, 6, none⟩ = some (.int .u8 (el x.a3)) ∧ X.cell? ⟨w.heap.size, 7, none⟩ = some (.int .u8 (el x.a4)) ∧ X.cell? ⟨w.heap.size, 8, none⟩ = some (.int .u8 (el x.a5)) ∧ X.cell? ⟨w.heap.size, 9, none⟩ = some (.int .u8 (el x.a6)) ∧ X.cell? ⟨w.heap.size, 10, none⟩ = some (.int .u8 (el x.a7)) ∧ X.cell? ⟨w.heap.size, 11, none⟩ = some (.string (bstr x.key)) ∧ X.cell? ⟨w.heap.size, 12, none⟩ = some (.int .i64 x.ep) ∧ X.cell? ⟨w.heap.size, 13, none⟩ = some (.int .i64 x.ct)) (first | exact KS.out | exact (HP.out.below ((Below.refl _ _).alloc (Nat.le_refl _) _).drew).pls | exact (HP.out.below ((Below.refl _ _).drew.alloc (Nat.le_refl _) _)).pls | go_keep)
      (first
        | (go_at_call 11; refine (P3.out _).mono ?_; rintro e w3 ⟨t3, rfl, ht3, h⟩; subst h; clear P3; obtain ⟨B, x5, hB3⟩ := wr1 t3 (by omega))
        | (go_at_call 11; refine (P4.out _).mono ?_; rintro e w4 ⟨t4, rfl, ht4, h⟩; subst h; clear P4; obtain ⟨ep, x6, hB4⟩ := wr1 t4 (by omega))
        | (go_at_call 11; refine (P5.out _).mono ?_; rintro e w5 ⟨t5, rfl, ht5, h⟩; subst h; clear P5; obtain ⟨ct, x7, hB5⟩ := wr1 t5 (by omega)))
    all_goals
      go_wp2_with (fail)
      go_meet
      case rel =>
        refine ⟨B, ep, ct, rfl, ?_, ?_, ((Below.refl _ _).alloc (Nat.le_refl _) _).drew⟩
        · have h3 := hB3.out
          have h4 := hB4.out
          have h5 := hB5.out
          show (_ ∧ _) ∧ (_ ∧ _) ∧ _ ∧ _
          omega
        · show HdAt _ _ _
          rw [← hsw]
          exact HdAt.new wa (ftH x K M B x.key ep ct)
  case rest =>
    obtain ⟨B, ep, ct, rfl, hB, HH, hbc⟩ := hcut
    have k11 := (show wc.cell? ⟨w.heap.size + 1 + 1, 11, none⟩ = some (.string (bstr x.key)) from HH.out.cells.2.2.2.1)
    have f11 := HH.out.frozen 11
    have hsz := bstr_size x.key
    have HBC := (show Hid (Below wa.heap.size wa wc) from hbc)
    clear hbc
    go_upto_if 44 with fail
    go_cut [] (fun wx => ∃ key : List (BitVec 8), Hid (1 ≤ key.length) ∧ Hid (HdAt wx (w.heap.size + 1 + 1) (ftH x K M B key ep ct)) ∧ Hid (Below wa.heap.size wa wx))
    case first =>
      by_cases e : x.key.length = 0
      · have e2 : ((x.key.length : Int) == 0) = true := by simp [e]
        go_wp2_with (fail)
        go_meet
        case rel => exact ⟨[107#8], (by show 1 ≤ _; decide), (by show HdAt _ _ _; rw [b107]; exact HH.out.keyed [107#8]), (by show Below _ _ _; exact HBC.out.setCell (by rw [hsw]; exact Nat.le_refl _) _)⟩
      · have e2 : ((x.key.length : Int) == 0) = false := by simp [e]
        go_wp2_with (fail)
        go_meet
        case rel => exact ⟨x.key, (by show 1 ≤ _; omega), HH, HBC⟩
    case rest =>
      clear k11 f11 hsz HH HBC
      obtain ⟨key, hy1, HH, HBC⟩ := hcut
      have k11 := (show wc.cell? ⟨w.heap.size + 1 + 1, 11, none⟩ = some (.string (bstr key)) from HH.out.cells.2.2.2.1)
      have f11 := HH.out.frozen 11
      have hsz := bstr_size key
      go_upto_if 49 with fail
      go_cut [] (fun wx => ∃ key : List (BitVec 8), Hid (1 ≤ key.length ∧ key.length ≤ 255) ∧ Hid (HdAt wx (w.heap.size + 1 + 1) (ftH x K M B key ep ct)) ∧ Hid (Below wa.heap.size wa wx))
      case first =>
        by_cases e : 255 < key.length
        · have e2 : (255 : Int) < (key.length : Int) := by omega
          have e3 : (255 : Int) ≤ (key.length : Int) := by omega
          have e4 := bstr_cut key 255
          go_wp2_with (fail)
          go_meet
          case rel => exact ⟨key.take 255, (by show 1 ≤ _ ∧ _; rw [List.length_take]; omega), (by show HdAt _ _ _; exact HH.out.keyed (key.take 255)), (by show Below _ _ _; exact HBC.out.setCell (by rw [hsw]; exact Nat.le_refl _) _)⟩
        · have e2 : ¬ (255 : Int) < (key.length : Int) := by omega
          go_wp2_with (fail)
          go_meet
          case rel => exact ⟨key, (by show 1 ≤ _ ∧ _; have := hy1.out; omega), HH, HBC⟩
      case rest =>
        clear k11 f11 hsz HH HBC hy1
        obtain ⟨key, hy, HH, HBC⟩ := hcut
        have k10 := (show wc.cell? ⟨w.heap.size + 1 + 1, 10, none⟩ = some (.int .i64 (B : Int)) from HH.out.cells.2.2.1)
        have HPc := (show Hid (PlAt wc w.heap.size x (.slice pd n c) vp) from HP.out.below HBC.out)
        have k14 := HPc.out.nums.2.2.1
        obtain ⟨Y, Z, N, y1, y2, mn, hN⟩ := fit_most n K B HM.out.1 (by have := HM.out; omega) hB.out.1
        go_wp2_with (fail)
        obtain ⟨V, hV, hVN⟩ := front_any pd n c N hN.out.1 hnc
        have hbw := (show Hid (Below w.heap.size w wc) from hb0.trans (HBC.out.mono (by omega)))
        have hDd := (show Hid (NrE wc.drew V N d) from hVN _ d (NrE.below hD hbw.out.drew))
        have Zc := (show Hid (HdAt wc.drew (w.heap.size + 1) hd0) from (Za.below HBC.out).below (bdr wc))
        have Pc := (show Hid (PlAt wc.drew w.heap.size x (.slice pd n c) vp) from HPc.out.below (bdr wc))
        have kd := cell_below k14 (bdr wc)
        have kh := (show HdAt wc.drew (w.heap.size + 1 + 1) (ftH x K M B key ep ct) from HH.out.below (bdr wc))
        refine wp_region_held_drew (S := fun X => X.cell? ⟨w.heap.size, 14, none⟩ = some (.slice pd n c) ∧ HdAt X (w.heap.size + 1 + 1) (ftH x K M B key ep ct)) (by kernel_rfl) ⟨kd, kh⟩ (fun hHeld => ?_)
        refine takeH (i := 1) (d := some 65) (v := ?v1) rfl rfl (by kernel_rfl) (by kernel_rfl) (by kernel_rfl) (fun _ _ _ h => h) (Or.inl ⟨by rfl, ?hy1⟩) hHeld ?rest1
        case hy1 => intro X hSw; go_simp <;> with_reducible rfl
        try simp only [Act.put, List.setIfInBounds_toArray, List.set_cons_zero, List.set_cons_succ]
        refine takeH (i := 3) (d := some 67) (v := ?v3) rfl rfl (by kernel_rfl) (by kernel_rfl) (by kernel_rfl) (fun _ _ _ h => h) (Or.inl ⟨by rfl, ?hy3⟩) hHeld ?rest3
        case hy3 => intro X hSw; go_simp <;> with_reducible rfl
        try simp only [Act.put, List.setIfInBounds_toArray, List.set_cons_zero, List.set_cons_succ]
        refine takeH (i := 2) (d := some 66) (v := .slice pd n c) rfl rfl (by kernel_rfl) (by kernel_rfl) (by kernel_rfl) (fun _ _ _ h => h) (Or.inl ⟨by rfl, ?hy2⟩) hHeld ?rest2
        case hy2 => intro X hSw; obtain ⟨g1, _⟩ := hSw; go_simp
        try simp only [Act.put, List.setIfInBounds_toArray, List.set_cons_zero, List.set_cons_succ]
        refine takeH (i := 0) (d := some 64) (v := .agg (ftH x K M B key ep ct).cs) rfl rfl (by kernel_rfl) (by kernel_rfl) (by kernel_rfl) (fun _ _ _ h => h) (Or.inl ⟨by rfl, ?hy0⟩) hHeld ?rest0
        case hy0 => intro X hSw; exact ex_ldHd _ rfl (w.heap.size + 1 + 1) rfl hSw.2
        try simp only [Act.put, List.setIfInBounds_toArray, List.set_cons_zero, List.set_cons_succ]
        refine takeH (i := 4) (d := some 68) (v := V) rfl rfl (by kernel_rfl) (by kernel_rfl) (by kernel_rfl) (fun _ _ _ h => h) (Or.inl ⟨by rfl, ?hy4⟩) hHeld ?rest4
        case hy4 => intro X hSw; go_simp
        try simp only [Act.put, List.setIfInBounds_toArray, List.set_cons_zero, List.set_cons_succ]
        clear hV hVN
        refine wpAnyH_ready (rs := [5]) (by kernel_rfl) (by simp) ?_
        refine AllReadyH.cons (o := { dst := some 69, op := Op.call { callee := Callee.builtin Builtin.append, args := #[Operand.const (Value.slice none 0 0), Operand.tmp 68], argTypes := #[23, 23] }, type := 23, pos := "outright.go:61", after := #[{ on := 4, ground := Ground.data }], guard := none }) rfl (fun Kq hKq => ?_) AllReadyH.nil
        refine step_clone_b rfl _ _ rfl rfl V N d rfl hDd.out (by have := hN.out; omega) ?_
        intro q r w9 hr hN9 hb9
        refine hKq.out _ _ ⟨cell_below hHeld.1 hb9, hHeld.2.below hb9⟩ (fun hHeld9 => ?_)
        clear hKq Kq
        try simp only [Act.put, List.setIfInBounds_toArray, List.set_cons_zero, List.set_cons_succ]
        refine wpAnyH_ready (rs := [6]) (by kernel_rfl) (by simp) ?_
        refine AllReadyH.cons (o := { dst := none, op := Op.store 33 (Operand.tmp 2) (Operand.tmp 64), type := 0, pos := "outright.go:61", after := #[{ on := 0, ground := Ground.data }, { on := 5, ground := Ground.chain }, { on := 0, ground := Ground.phase }, { on := 1, ground := Ground.textOnly Departure.lateStores }, { on := 2, ground := Ground.textOnly Departure.lateStores }, { on := 3, ground := Ground.textOnly Departure.lateStores }, { on := 4, ground := Ground.textOnly Departure.lateStoresUnsure }, { on := 5, ground := Ground.textOnly Departure.lateStoresUnsure }], guard := none }) rfl (fun Kq hKq => ?_) AllReadyH.nil
        refine step_stHd (ftH x K M B key ep ct) rfl _ _ rfl rfl (w.heap.size + 1) rfl rfl (Zc.out.below hb9) ?_
        intro w10 H10 hBu10
        have HN10 := (show Hid (NrE w10 (.slice q N r) N d) from Br.nr (St.but hN9 hBu10 (Zc.out.below hb9) (by decide)))
        have HBW := (show Hid (Below w.heap.size w w10) from (hbw.out.drew.trans (hb9.mono (by have := hbw.out.size; exact this))).trans (hBu10.bl.mono (by omega)))
        refine hKq.out _ _ ⟨((Pc.out.below hb9).but hBu10 (by omega)).nums.2.2.1, hHeld9.2.but hBu10 (by omega)⟩ (fun _ => ?_)
        clear hKq Kq
        refine wpAnyH_ready (rs := [7]) (by kernel_rfl) (by simp) ?_
        refine AllReadyH.cons (o := { dst := some 3, op := Op.assign (Operand.tmp 69), type := 23, pos := "outright.go:61", after := #[{ on := 5, ground := Ground.data }, { on := 6, ground := Ground.chain }, { on := 0, ground := Ground.phase }, { on := 1, ground := Ground.phase }, { on := 2, ground := Ground.phase }, { on := 3, ground := Ground.phase }, { on := 4, ground := Ground.phase }, { on := 5, ground := Ground.phase }, { on := 6, ground := Ground.phase }], guard := none }) rfl (fun Kq hKq => ?_) AllReadyH.nil
        go_simp
        refine hKq.out _ _ ⟨((Pc.out.below hb9).but hBu10 (by omega)).nums.2.2.1, hHeld9.2.but hBu10 (by omega)⟩ (fun _ => ?_)
        clear hKq Kq
        try simp only [Act.put, List.setIfInBounds_toArray, List.set_cons_zero, List.set_cons_succ]
        refine wpAnyH_done (by kernel_rfl) ?_ _
        go_wp2
        refine bodyPost_ret (v := .tuple #[.agg (ftH x K M B key ep ct).cs, .slice q N r]) (res_hd rfl _ _ (w.heap.size + 1) _ _ rfl rfl H10) rfl ⟨K, M, B, N, ep, ct, key, q, r, rfl, ?_, hr, HN10.out, HBW.out⟩
        have h1 := HM.out
        have h2 := hB.out
        have h3 := hy.out
        have h4 := hN.out
        exact ⟨h1.1, h1.2.1, h1.2.2.1, h1.2.2.2, h2.1.1, h2.1.2, h4.2.1, h4.2.2, h2.2.1.1, h2.2.1.2, h2.2.2.1, h2.2.2.2, h3.1, h3.2⟩
end
end Go.Proofs.Ytgokkppojhokbaa
/-
  Stripe: Join, where all is well.
-/
namespace Go.Proofs.Ytgokkppojhokbaa
open Go.RowKit
section
attribute [local irreducible] Calls el Hd.cs
set_option maxHeartbeats 4000000 in
set_option maxRecDepth 1000000 in
theorem stripes_none (m : Hd) (v : Value) (f : Nat) (w : World) : Calls Try.prog 19 #[.agg m.cs, v, .int .i64 (f : Int), .int .i64 (f : Int)] w fun e w' => e = .returned (.slice none 0 0) ∧ Below w.heap.size w w' := by
  have j : ((f : Int) == (f : Int)) = true := by simp
  go_enter Try.func19, Try.ntmps19
  go_wp2
  go_ret
  exact ⟨rfl, (Below.refl _ _).alloc (Nat.le_refl _) _⟩
end
theorem obt_nr {w : World} {g n X : Nat} {f : Nat → BitVec 8} (h : Ov w 5 g (clE (obt X f)) n) (hX : n ≤ X) : NrE w (.slice (some ⟨g, 0, none⟩) n n) n f :=
  St.sv ((h.congr (fun i hi => by unfold clE obt; rw [if_pos (by omega)])).st n n)
/-- The shards of an object, some of them missing. -/
structure Obs (w : World) (V : Value) (hs : Nat → Hd) (vs : Nat → Value) (m : Hd) (n K M B : Nat) (L : List Nat) (F D : Nat → Nat → BitVec 8) : Prop where
  sds : Sds w V (K + M) hs vs
  hin : m.In
  key : m.key.length ≤ 9223372036854775807
  chk : chk m = 0
  sz : m.sz = (n : Int)
  nu : m.Nu n K M B L
  z1 : szC m.k m.m m.b n = 0
  z2 : szL m.k m.m m.b n = L
  fac : Fac K F
  all : ∀ i, i < K + M → thr? (hs i) = true → hs i = { m with ix := (i : Int) } ∧ ∃ q d, vs i = .slice q L.length d ∧ L.length ≤ d ∧ NmE w (.slice q L.length d) L.length (fun j => L.getD j 0) (fun j x => mm fdE K F D i ((L.take j).sum + x))
  val : ∀ i, i < K + M → ∃ q s d, vs i = .slice q s d
  cnt : K ≤ cnth hs (K + M)
  first : ∃ f, f < K + M ∧ thr? (hs f) = true ∧ (∀ j, j < f → thr? (hs j) = false) ∧ hs f = m
theorem Obs.below {w w' : World} {V : Value} {hs : Nat → Hd} {vs : Nat → Value} {m : Hd} {n K M B : Nat} {L : List Nat} {F D : Nat → Nat → BitVec 8} (h : Obs w V hs vs m n K M B L F D) (hb : Below w.heap.size w w') : Obs w' V hs vs m n K M B L F D :=
  ⟨h.sds.below hb, h.hin, h.key, h.chk, h.sz, h.nu, h.z1, h.z2, h.fac, fun i hi ht => by
    obtain ⟨e, q, d, e2, hd, hN⟩ := h.all i hi ht
    exact ⟨e, q, d, e2, hd, NmE.below hN hb⟩, h.val, h.cnt, h.first⟩
theorem Obs.common {w : World} {p : Option Addr} {c : Nat} {hs : Nat → Hd} {vs : Nat → Value} {m : Hd} {n K M B : Nat} {L : List Nat} {F D : Nat → Nat → BitVec 8} (h : Obs w (.slice p (K + M) c) hs vs m n K M B L F D) :
    Calls Try.prog 18 #[.slice p (K + M) c] w fun e w' => e = .returned (.tuple #[.agg m.cs, .int .i64 0]) ∧ Below w.heap.size w w' := by
  obtain ⟨f, hf, ht, hj, he⟩ := h.first
  exact common_ok h.sds m n K M B L f hf ht hj he h.hin h.key h.chk h.sz h.nu h.z1 h.z2 rfl (fun i hi ht => by
    obtain ⟨e, q, d, e2, hd, hN⟩ := h.all i hi ht
    exact ⟨e, q, d, e2, nm_ln hN⟩) h.val h.cnt
/-- The whole of the stripes. -/
theorem Obs.whole {w : World} {p : Option Addr} {c : Nat} {hs : Nat → Hd} {vs : Nat → Value} {m : Hd} {n K M B : Nat} {L : List Nat} {F D : Nat → Nat → BitVec 8} (h : Obs w (.slice p (K + M) c) hs vs m n K M B L F D) :
    Calls Try.prog 19 #[.agg m.cs, .slice p (K + M) c, .int .i64 0, .int .i64 (L.length : Int)] w fun e w' => ∃ q d, e = .returned (.slice q n d) ∧ n ≤ d ∧ NrE w' (.slice q n d) n (obm K L D) ∧ Below w.heap.size w w' := by
  have hk1 := h.nu.k1
  have hcv := h.nu.c
  rcases Nat.eq_zero_or_pos L.length with h0 | h0
  · have hn : n = 0 := by
      have e := List.eq_nil_of_length_eq_zero h0
      rw [e] at hcv
      simp at hcv
      exact hcv
    subst hn
    rw [h0]
    exact (stripes_none m (.slice p (K + M) c) 0 w).mono fun e w' ⟨he, hb⟩ => ⟨none, 0, he, Nat.le_refl _, ⟨none, 0, rfl, .inl rfl⟩, hb⟩
  · have hb1 := h.nu.b1
    have hs : 1 ≤ K * B := Nat.mul_pos (show 0 < K by omega) (show 0 < B by omega)
    have hp : 0 < L.sum := by
      have h1 := bls_pos K (K * B) hk1 hs n n 0 (by rw [← h.nu.l]; exact h0)
      rw [← h.nu.l] at h1
      have h2 := sum_take_lt L 0 h0
      rw [List.take_zero, List.sum_nil, Nat.zero_add] at h2
      omega
    have hct := bls_count K (K * B) hs n n (Nat.le_refl _)
    rw [← h.nu.l] at hct
    have hz : min (n : Int) ((L.length : Int) * ((K : Int) * (B : Int))) - ((0 : Nat) : Int) * ((K : Int) * (B : Int)) = (n : Int) := by
      rw [← Int.natCast_mul, ← Int.natCast_mul]
      simp only [Int.natCast_zero, Int.zero_mul, Int.sub_zero]
      omega
    have h3 := stripes_ok m n K M B L h.sds h.hin h.sz h.nu h.z1 h.z2 F D h.fac (fun i hi ht => (h.all i hi ht).2) h.val h.cnt 0 L.length h0 (Nat.le_refl _) (by rw [sub_all]; exact hp) n hz (Nat.le_refl _)
    refine h3.mono fun e w' ⟨g, he, hO, hg, hb⟩ => ⟨_, _, he, Nat.le_refl _, ?_, hb⟩
    rw [sub_all] at hO
    have e1 : (fun i x => D i ((L.take 0).sum + x)) = D := by funext i x; simp
    rw [e1] at hO
    exact obt_nr hO hcv
section
attribute [local irreducible] Calls el Hd.cs NrE obm
set_option maxHeartbeats 8000000 in
set_option maxRecDepth 1000000 in
theorem join_ok {w : World} {p : Option Addr} {c : Nat} {hs : Nat → Hd} {vs : Nat → Value} {m : Hd} {n K M B : Nat} {L : List Nat} {F D : Nat → Nat → BitVec 8} (h : Obs w (.slice p (K + M) c) hs vs m n K M B L F D) :
    Calls Try.prog 8 #[.slice p (K + M) c] w fun e w' => ∃ q d, e = .returned (.tuple #[.slice q n d, .int .i64 0]) ∧ n ≤ d ∧ NrE w' (.slice q n d) n (obm K L D) ∧ Below w.heap.size w w' := by
  have HO := (show Hid _ from h)
  have CO := (show Hid _ from h.common)
  have hnz : In64 (n : Int) := ⟨by omega, by have := h.nu.n1; omega⟩
  have BL := (show Hid _ from fun W => blocks_any m.k m.m m.b (n : Int) h.hin.m hnz W)
  have ek := h.nu.k
  have em := h.nu.m
  have eb := h.nu.b
  have es := h.sz
  rw [h.z1, h.z2, ek, em, eb] at BL
  unfold shC at BL
  clear h
  go_enter Try.func8, Try.ntmps8
  go_wp2_with (first
    | (go_at_call 18; refine CO.out.mono ?_; rintro e w1 ⟨rfl, hb1⟩)
    | (refine wpList_alHd rfl rfl ?_; intro wa Za hba hsa)
    | (refine wpList_stHd m rfl _ _ rfl rfl w1.heap.size rfl rfl Za ?_; intro w2 H2 hBu2; have hb2 := (show Hid (Below w1.heap.size w1 w2) from hba.trans hBu2.bl); obtain ⟨a8, a9, a10, a11, a12, a13, a14, a15⟩ := H2.cells; rw [ek] at a8; rw [em] at a9; rw [eb] at a10; rw [es] at a12)
    | (go_at_call 13; refine (BL.out _).mono ?_; rintro e w3 ⟨vL, rfl, hO3, hb3⟩; have H3 := H2.below hb3; obtain ⟨pL, cL, rfl, hcL, VL⟩ := hO3.rd; have WH := (show Hid _ from Obs.whole (((HO.out.below hb1).below hb2.out).below hb3)))
    | (refine wpList_loadHd rfl _ rfl w1.heap.size rfl H3 ?_)
    | (go_at_call 19; refine WH.out.mono ?_; rintro e w4 ⟨q, d, rfl, hd, hN, hb4⟩))
  go_ret2
  exact ⟨_, _, rfl, hd, hN, bt (bt (bt hb1 hb2.out) hb3) hb4⟩
end
end Go.Proofs.Ytgokkppojhokbaa
/-
  Stripe: the shards that Split gives, some of them lost.
-/
namespace Go.Proofs.Ytgokkppojhokbaa
open Go.RowKit
/-- The cells of the shards, those at the places of P gone as far as t. -/
def lsp (h : Hd) (n : Nat) (vs : Nat → Value) (P : List Nat) (t i : Nat) : Array Value := if i < t ∧ i ∈ P then shc hd0 (.slice none 0 0) else shc { h.of n with ix := (i : Int) } (vs i)
def lsH (h : Hd) (n : Nat) (P : List Nat) (i : Nat) : Hd := if i ∈ P then hd0 else { h.of n with ix := (i : Int) }
def lsV (vs : Nat → Value) (P : List Nat) (i : Nat) : Value := if i ∈ P then .slice none 0 0 else vs i
theorem lsp_zero {w : World} {t : TypeId} {g N n : Nat} {h : Hd} {vs : Nat → Value} (P : List Nat) (hO : Ov w t g (flat (spc (h.of n) N vs)) (N * 17)) : Ov w t g (flat (lsp h n vs P 0)) (N * 17) := by
  refine hO.congr (fun x hx => ?_)
  unfold flat
  congr 1
  unfold spc lsp
  rw [if_pos (by omega), if_neg (by omega)]
theorem lsp_put (h : Hd) (n : Nat) (vs : Nat → Value) (P : List Nat) (t : Nat) (ht : t ∈ P) : (fun r => if r = t then shc hd0 (.slice none 0 0) else lsp h n vs P t r) = lsp h n vs P (t + 1) := by
  funext r
  unfold lsp
  dsimp only
  by_cases e : r = t
  · subst e; rw [if_pos rfl, if_pos ⟨by omega, ht⟩]
  · rw [if_neg e]
    by_cases e2 : r < t ∧ r ∈ P
    · rw [if_pos e2, if_pos ⟨by omega, e2.2⟩]
    · rw [if_neg e2, if_neg (fun h => e2 ⟨by omega, h.2⟩)]
theorem lsp_skip (h : Hd) (n : Nat) (vs : Nat → Value) (P : List Nat) (t : Nat) (ht : t ∉ P) : lsp h n vs P t = lsp h n vs P (t + 1) := by
  funext r
  unfold lsp
  by_cases e2 : r < t ∧ r ∈ P
  · rw [if_pos e2, if_pos ⟨by omega, e2.2⟩]
  · rw [if_neg e2, if_neg (fun h => e2 ⟨by
      have := h.1
      by_cases e : r = t
      · subst e; exact absurd h.2 ht
      · omega, h.2⟩)]
theorem lsp_end (h : Hd) (n : Nat) (vs : Nat → Value) (P : List Nat) (N i : Nat) (hi : i < N) : lsp h n vs P N i = shc (lsH h n P i) (lsV vs P i) := by
  unfold lsp lsH lsV
  by_cases e : i ∈ P
  · rw [if_pos ⟨hi, e⟩, if_pos e, if_pos e]
  · rw [if_neg (fun h => e h.2), if_neg e, if_neg e]
/-- What stands at a place not yet come to. -/
theorem lsp_cells {w : World} {t0 : TypeId} {g N n t : Nat} {h : Hd} {vs : Nat → Value} {P : List Nat} (hO : Ov w t0 g (flat (lsp h n vs P t)) (N * 17)) (ht : t < N) : Sd w g (t * 17) { h.of n with ix := (t : Int) } (vs t) := by
  intro j u hj
  have hjs : j < 17 := by
    rcases Nat.lt_or_ge j (shc { h.of n with ix := (t : Int) } (vs t)).toList.length with h1 | h1
    · exact h1
    · rw [List.getElem?_eq_none h1] at hj; cases hj
  rw [hO.cell (i := t * 17 + j) (by omega)]
  unfold flat
  rw [show (t * 17 + j) / 17 = t by omega, show (t * 17 + j) % 17 = j by omega]
  unfold lsp
  rw [if_neg (by omega)]
  rw [Array.getElem?_toList] at hj
  simp [Array.getD_eq_getD_getElem?, hj]
theorem thr_hd0 : thr? hd0 = false := by decide
theorem thr_of {h : Hd} {n K M B : Nat} {L : List Nat} (hu : h.Nu n K M B L) (i : Nat) : thr? { h.of n with ix := (i : Int) } = true := by
  have h1 := hu.k
  have h2 := hu.k1
  unfold thr?
  rw [decide_eq_true_eq]
  rintro ⟨e, _⟩
  have e' : h.k = 0 := e
  omega
theorem thr_ls {h : Hd} {n K M B : Nat} {L : List Nat} (hu : h.Nu n K M B L) (P : List Nat) (i : Nat) : thr? (lsH h n P i) = decide (i ∉ P) := by
  unfold lsH
  by_cases e : i ∈ P
  · rw [if_pos e, thr_hd0]; simp [e]
  · rw [if_neg e, thr_of hu]; simp [e]
theorem cnth_ls {h : Hd} {n K M B : Nat} {L : List Nat} (hu : h.Nu n K M B L) (P : List Nat) : ∀ N, cnth (lsH h n P) N + hit P N = N
  | 0 => by simp [cnth, hit]
  | N + 1 => by
    have ih := cnth_ls hu P N
    rw [cnth_succ, hit_succ, thr_ls hu P N]
    by_cases e : N ∈ P
    · simp [e]; omega
    · simp [e]; omega
theorem least (p : Nat → Bool) : ∀ n, p n = true → ∃ f, f ≤ n ∧ p f = true ∧ ∀ j, j < f → p j = false := by
  intro n
  induction n using Nat.strongRecOn with
  | _ n ih =>
    intro hn
    by_cases h : ∃ j, j < n ∧ p j = true
    · obtain ⟨j, h1, h2⟩ := h
      obtain ⟨f, a, b, c⟩ := ih j h1 h2
      exact ⟨f, by omega, b, c⟩
    · refine ⟨n, Nat.le_refl _, hn, fun j hj => ?_⟩
      cases e : p j with
      | false => rfl
      | true => exact absurd ⟨j, hj, e⟩ h
theorem cnth_some (hs : Nat → Hd) : ∀ N, 0 < cnth hs N → ∃ i, i < N ∧ thr? (hs i) = true
  | 0, h => by simp [cnth] at h
  | N + 1, h => by
    rw [cnth_succ] at h
    by_cases e : thr? (hs N) = true
    · exact ⟨N, by omega, e⟩
    · rw [if_neg e] at h
      obtain ⟨i, h1, h2⟩ := cnth_some hs N (by omega)
      exact ⟨i, by omega, h2⟩
theorem Hd.at_ok {h : Hd} {n K M B : Nat} {L : List Nat} (hu : h.Nu n K M B L) (hc : Go.Proofs.Ytgokkppojhokbaa.chk (h.of n) = 0) {f : Nat} (hf : f < K + M) : Go.Proofs.Ytgokkppojhokbaa.chk { h.of n with ix := (f : Int) } = 0 := by
  rw [chk_ok] at hc ⊢
  obtain ⟨k1, k2, m1, m2, m3, km, b1, b2, y1, y2, s1, s2, s3, x1, x2, e1, e2, c1, c2⟩ := hc
  refine ⟨k1, k2, m1, m2, m3, km, b1, b2, y1, y2, s1, s2, s3, ?_, ?_, e1, e2, c1, c2⟩
  · show (0 : Int) ≤ (f : Int); omega
  · show (f : Int) < h.k + h.m
    rw [hu.k, hu.m]; omega
theorem obs_of {w : World} {g n K M B : Nat} {h : Hd} {L : List Nat} {F D : Nat → Nat → BitVec 8} {vs : Nat → Value} {P : List Nat} (hi : h.In) (hy : h.key.length ≤ 9223372036854775807) (hn : n ≤ 140737488355328) (hc : chk (h.of n) = 0) (hu : h.Nu n K M B L) (hz1 : szC h.k h.m h.b n = 0) (hz2 : szL h.k h.m h.b n = L) (hF : Fac K F)
    (hO : Ov w 44 g (flat (lsp h n vs P (K + M))) ((K + M) * 17)) (hR : ∀ i, i < K + M → (∃ b, vs i = .slice (some ⟨b, 0, none⟩) L.length L.length) ∧ NmT w (vs i) L.length (fun j => L.getD j 0) (fun j x => mm fdE K F D i ((L.take j).sum + x))) (hP : P.length ≤ M) :
    ∃ m, Obs w (.slice (some ⟨g, 0, none⟩) (K + M) (K + M)) (lsH h n P) (lsV vs P) m n K M B L F D := by
  have hk := hu.k1
  have hct := cnth_ls hu P (K + M)
  have hhit := hit_le P (K + M)
  obtain ⟨i0, hi0, ht0⟩ := cnth_some (lsH h n P) (K + M) (by omega)
  obtain ⟨f, hf, htf, hj⟩ := least (fun i => thr? (lsH h n P i)) i0 ht0
  have hfP : f ∉ P := by
    have h1 := thr_ls hu P f
    rw [htf] at h1
    simpa using h1.symm
  have hin : ({ h.of n with ix := (f : Int) } : Hd).In := by
    have h2 := Hd.of_in hi hn
    exact ⟨h2.k, h2.m, h2.b, h2.sz, ⟨by show (_ : Int) ≤ (f : Int); omega, by show (f : Int) ≤ _; have := hu.km; omega⟩, h2.ep, h2.ct⟩
  refine ⟨{ h.of n with ix := (f : Int) }, ov_sds hO (fun i hi => lsp_end h n vs P _ i hi), hin, hy, Hd.at_ok hu hc (by omega), rfl, ⟨hu.k, hu.m, hu.b, hu.k1, hu.m1, hu.mle, hu.km, hu.b1, hu.b2, hu.n1, hu.l, hu.s, hu.c, hu.r⟩, hz1, hz2, hF, fun i hi ht => ?_, fun i hi => ?_, by omega, ⟨f, by omega, htf, hj, by unfold lsH; rw [if_neg hfP]⟩⟩
  · have hiP : i ∉ P := by
      have h1 := thr_ls hu P i
      rw [ht] at h1
      simpa using h1.symm
    obtain ⟨⟨b, hb⟩, hN⟩ := hR i hi
    refine ⟨by unfold lsH; rw [if_neg hiP], some ⟨b, 0, none⟩, L.length, ?_, Nat.le_refl _, ?_⟩
    · unfold lsV; rw [if_neg hiP]; exact hb
    · rw [← hb]; exact hN.nm
  · unfold lsV
    by_cases e : i ∈ P
    · rw [if_pos e]; exact ⟨_, _, _, rfl⟩
    · rw [if_neg e]
      obtain ⟨⟨b, hb⟩, _⟩ := hR i hi
      exact ⟨_, _, _, hb⟩
/-- What Join answers is the object. -/
theorem join_back {h : Hd} {n K M B : Nat} {L : List Nat} (hu : h.Nu n K M B L) (d : Nat → BitVec 8) (j : Nat) (hj : j < n) : obm K L (dm K L (pad n d)) j = d j := by
  have := hu.c
  rw [obm_dm K L _ j (by omega)]
  unfold pad
  rw [if_pos hj]
end Go.Proofs.Ytgokkppojhokbaa
/-
  The laws' same, awake.
-/
namespace Go.Proofs.Ytgokkppojhokbaa
open Go.RowKit
section
attribute [local irreducible] Calls NmE NrE str
set_option maxHeartbeats 4000000 in
set_option maxRecDepth 1000000 in
theorem same10 (p q : Option Addr) (r c1 c2 : Nat) (L : Nat → Nat) (A B : Nat → Nat → BitVec 8) (w : World) (hr : r ≤ 140737488355328) (H1 : Hid (NmE w (.slice p r c1) r L A)) (H2 : Hid (NmE w (.slice q r c2) r L B)) (HE : Hid (∀ i, i < r → ∀ j, j < L i → A i j = B i j)) :
    Calls Try.prog 9 #[.slice p r c1, .slice q r c2] w fun e w' => e = .returned (.bool true) ∧ Below w.heap.size w w' := by
  have e0 : ((r : Int) != (r : Int)) = false := by simp
  go_enter Try.func9, Try.ntmps9
  go_wp2
  go_loopw [5] (fun i wr => ∃ k : Nat, k ≤ r ∧ i = .int .i64 k ∧ Below w.heap.size w wr) (fun i _ => r - (intOf i).toNat)
  case atStart => exact ⟨0, Nat.zero_le _, rfl, Below.refl _ _⟩
  case round =>
    obtain ⟨k, hk, rfl, hb⟩ := hrel
    by_cases hlt : k < r
    · have j1 : (k : Int) < (r : Int) := by omega
      obtain ⟨b1, o1, rows1, ep, hc1, hn1⟩ := nm_at H1.out (by omega)
      obtain ⟨b2, o2, rows2, eq, hc2, hn2⟩ := nm_at H2.out (by omega)
      subst ep eq
      have hbd := (show Hid _ from hb.drew)
      have g1 := cell_below (hc1 k hlt) hb
      have g2 := cell_below (hc2 k hlt) hb
      have e1 := conv_row (NrE.below (hn1 k hlt) hbd.out)
      have e2 := conv_row (NrE.below (hn2 k hlt) hbd.out)
      rw [← str_congr (HE.out k hlt)] at e2
      have KS := (show Hid (_ ∧ _ ∧ _ ∧ _) from ⟨cell_below (hc1 k hlt) hbd.out, cell_below (hc2 k hlt) hbd.out, e1, e2⟩)
      clear hc1 hc2 hn1 hn2
      go_wp2
      go_region_held3 (fun X => X.cell? ⟨b1, o1 + k, none⟩ = some (rows1 k) ∧ X.cell? ⟨b2, o2 + k, none⟩ = some (rows2 k) ∧ (convert 23 9 (rows1 k)).run Try.prog X = .ok (.string (str (A k) (L k))) X ∧ (convert 23 9 (rows2 k)).run Try.prog X = .ok (.string (str (A k) (L k))) X) (first | exact KS.out | go_keep) (fail)
      all_goals
        go_wp2
        go_roundw
        case rel => exact ⟨k + 1, by omega, by go_num, hbd.out⟩
        case measure => simp [intOf]; omega
    · go_wp2
      go_ret
      exact ⟨rfl, hb⟩
end
theorem Fac.word10 {k : Nat} {F D C : Nat → Nat → BitVec 8} (h : Fac k F) {c : Nat} (hC : ∀ i, i < k → mm fdE k vm C i c = D i c) (i : Nat) : mm fdE k F D i c = mm fdE k vm C i c := by
  obtain ⟨X, h1, _, h3⟩ := h
  rw [mm_congr (A' := mm fdE k vm X) (B' := mm fdE k vm C) (fun t _ => h3 i t) (fun t ht => (hC t ht).symm), mm_assoc]
  exact mm_congr (fun _ _ => rfl) (fun t ht => by rw [← mm_assoc, mm_congr (A' := dl fdE) (B' := C) (fun s hs => h1 t ht s hs) (fun _ _ => rfl), mm_dl_l ht])
/-! The object of 'awake'. -/
def awd (j : Nat) : BitVec 8 := BitVec.ofNat 8 j
def aG (i c : Nat) : BitVec 8 := (([[0#8, 1#8, 2#8, 3#8, 8#8], [4#8, 5#8, 6#8, 7#8, 9#8], [8#8, 9#8, 10#8, 11#8, 10#8]].getD i []).getD c 0#8)
def aCo (i c : Nat) : BitVec 8 := (([[0#8, 1#8, 2#8, 3#8, 8#8], [4#8, 4#8, 4#8, 4#8, 1#8]].getD i []).getD c 0#8)
theorem aCo_D : ∀ i, i < 2 → ∀ c, c < 5 → mm fdE 2 vm aCo i c = dm 2 [4, 1] (pad 10 awd) i c := by decide +kernel
theorem aCo_W : ∀ i, i < 3 → ∀ c, c < 5 → mm fdE 2 vm aCo i c = aG i c := by decide +kernel
theorem aw_row {F : Nat → Nat → BitVec 8} (h : Fac 2 F) (i : Nat) (hi : i < 3) (c : Nat) (hc : c < 5) : mm fdE 2 F (dm 2 [4, 1] (pad 10 awd)) i c = aG i c := by
  rw [h.word10 (C := aCo) (fun t ht => aCo_D t ht c hc) i, aCo_W i hi c hc]
theorem so_ok : (soH.of 10).Ok := by
  refine ⟨?_, ?_, ?_, ?_, ?_, ?_, ?_, ?_, ?_, ?_, ?_, ?_, ?_, ?_, ?_, ?_, ?_, ?_, ?_⟩ <;> decide
theorem so_in : soH.In := ⟨⟨by decide, by decide⟩, ⟨by decide, by decide⟩, ⟨by decide, by decide⟩, ⟨by decide, by decide⟩, ⟨by decide, by decide⟩, ⟨by decide, by decide⟩, ⟨by decide, by decide⟩⟩
theorem so_nu : soH.Nu 10 2 1 4 [4, 1] ∧ szC soH.k soH.m soH.b (10 : Nat) = 0 ∧ szL soH.k soH.m soH.b (10 : Nat) = [4, 1] := by
  obtain ⟨K, M, B, L, nu, z1, z2⟩ := Hd.nu (soH.of 10) 10 rfl so_ok
  have hk : (2 : Int) = (K : Int) := nu.k
  have hm : (1 : Int) = (M : Int) := nu.m
  have hb : (4 : Int) = (B : Int) := nu.b
  obtain rfl : K = 2 := by omega
  obtain rfl : M = 1 := by omega
  obtain rfl : B = 4 := by omega
  have hl : L = [4, 1] := by rw [nu.l]; decide
  subst hl
  exact ⟨⟨nu.k, nu.m, nu.b, nu.k1, nu.m1, nu.mle, nu.km, nu.b1, nu.b2, nu.n1, nu.l, nu.s, nu.c, nu.r⟩, z1, z2⟩
/-- Rows that were just built. -/
def bw (w : World) (a b c d e : Int) : World := ((w.alloc (.cells #[.int .u8 a, .int .u8 b, .int .u8 c, .int .u8 d] 5)).alloc (.cells #[.int .u8 e] 5)).alloc (.cells #[.slice (some ⟨w.heap.size, 0, none⟩) 4 4, .slice (some ⟨w.heap.size + 1, 0, none⟩) 1 1] 23)
theorem bw_below (w : World) (a b c d e : Int) : Below w.heap.size w (bw w a b c d e) := by
  have al : ∀ (W : World) (o : Obj), Below W.heap.size W (W.alloc o) := fun W o => (Below.refl _ _).alloc (Nat.le_refl _) o
  exact bt (bt (al _ _) (al _ _)) (al _ _)
theorem bw_nm (w : World) (G : Nat → BitVec 8) (a b c d e : Int) (ha : a = el (G 0)) (hb : b = el (G 1)) (hc : c = el (G 2)) (hd : d = el (G 3)) (he : e = el (G 4)) :
    NmE (bw w a b c d e) (.slice (some ⟨w.heap.size + 1 + 1, 0, none⟩) 2 2) 2 (fun j => [4, 1].getD j 0) (fun j x => G (([4, 1].take j).sum + x)) := by
  subst ha hb hc hd he
  have s1 : ∀ (W : World) (o : Obj), (W.alloc o).heap.size = W.heap.size + 1 := fun W o => by simp
  have h2 : (bw w (el (G 0)) (el (G 1)) (el (G 2)) (el (G 3)) (el (G 4))).heap[w.heap.size + 1 + 1]? = some (.cells #[.slice (some ⟨w.heap.size, 0, none⟩) 4 4, .slice (some ⟨w.heap.size + 1, 0, none⟩) 1 1] 23 (0, 0)) := by
    unfold bw
    have := heap_alloc_new ((w.alloc (.cells #[.int .u8 (el (G 0)), .int .u8 (el (G 1)), .int .u8 (el (G 2)), .int .u8 (el (G 3))] 5)).alloc (.cells #[.int .u8 (el (G 4))] 5)) (.cells #[.slice (some ⟨w.heap.size, 0, none⟩) 4 4, .slice (some ⟨w.heap.size + 1, 0, none⟩) 1 1] 23)
    rw [s1, s1] at this
    exact this
  have h1 : (bw w (el (G 0)) (el (G 1)) (el (G 2)) (el (G 3)) (el (G 4))).heap[w.heap.size + 1]? = some (.cells #[.int .u8 (el (G 4))] 5 (0, 0)) := by
    unfold bw
    rw [heap_alloc_old _ _ (by rw [s1, s1]; omega)]
    have := heap_alloc_new (w.alloc (.cells #[.int .u8 (el (G 0)), .int .u8 (el (G 1)), .int .u8 (el (G 2)), .int .u8 (el (G 3))] 5)) (.cells #[.int .u8 (el (G 4))] 5)
    rw [s1] at this
    exact this
  have h0 : (bw w (el (G 0)) (el (G 1)) (el (G 2)) (el (G 3)) (el (G 4))).heap[w.heap.size]? = some (.cells #[.int .u8 (el (G 0)), .int .u8 (el (G 1)), .int .u8 (el (G 2)), .int .u8 (el (G 3))] 5 (0, 0)) := by
    unfold bw
    rw [heap_alloc_old _ _ (by rw [s1, s1]; omega), heap_alloc_old _ _ (by rw [s1]; omega)]
    exact heap_alloc_new w _
  refine ⟨fun i => if i = 0 then .slice (some ⟨w.heap.size, 0, none⟩) 4 4 else .slice (some ⟨w.heap.size + 1, 0, none⟩) 1 1, ⟨_, _, rfl, .inr ⟨_, _, rfl, fun i hi => ?_⟩⟩, fun i hi => ?_⟩
  · rw [cell_of_row _ _ _ _ _ _ h2]
    match i, hi with
    | 0, _ => rfl
    | 1, _ => rfl
  · match i, hi with
    | 0, _ =>
      refine ⟨_, _, rfl, .inr ⟨_, _, rfl, fun j hj => ?_⟩⟩
      rw [cell_of_row _ _ _ _ _ _ h0]
      have hj' : j < 4 := hj
      match j, hj' with
      | 0, _ => rfl
      | 1, _ => rfl
      | 2, _ => rfl
      | 3, _ => rfl
    | 1, _ =>
      refine ⟨_, _, rfl, .inr ⟨_, _, rfl, fun j hj => ?_⟩⟩
      rw [cell_of_row _ _ _ _ _ _ h1]
      have hj' : j < 1 := hj
      match j, hj' with
      | 0, _ => rfl
def ten (w : World) : World := w.alloc (.cells #[.int .u8 0, .int .u8 1, .int .u8 2, .int .u8 3, .int .u8 4, .int .u8 5, .int .u8 6, .int .u8 7, .int .u8 8, .int .u8 9] 5)
theorem ten_nr (w : World) : NrE (ten w) (.slice (some ⟨w.heap.size, 0, none⟩) 10 10) 10 awd := by
  refine ⟨_, _, rfl, .inr ⟨_, _, rfl, fun j hj => ?_⟩⟩
  unfold ten
  rw [cell_of_row _ _ _ _ _ (0, 0) (heap_alloc_new w _)]
  match j, hj with
  | 0, _ => rfl
  | 1, _ => rfl
  | 2, _ => rfl
  | 3, _ => rfl
  | 4, _ => rfl
  | 5, _ => rfl
  | 6, _ => rfl
  | 7, _ => rfl
  | 8, _ => rfl
  | 9, _ => rfl
theorem str_awd : str awd 10 = ⟨#[0, 1, 2, 3, 4, 5, 6, 7, 8, 9]⟩ := by decide +kernel
end Go.Proofs.Ytgokkppojhokbaa
/-
  The laws' awake.
-/
namespace Go.Proofs.Ytgokkppojhokbaa
open Go.RowKit
theorem flat_at {w : World} {t : TypeId} {g N : Nat} {S : Nat → Array Value} (hO : Ov w t g (flat S) (N * 17)) (i j : Nat) (hi : i < N) (hj : j < 17) : w.cell? ⟨g, i * 17 + j, none⟩ = some ((S i).getD j undef) := by
  rw [hO.cell (i := i * 17 + j) (by omega)]
  unfold flat
  rw [show (i * 17 + j) / 17 = i by omega, show (i * 17 + j) % 17 = j by omega]
theorem shc_blocks (h : Hd) (v : Value) : (shc h v).getD 16 undef = v := by
  have := shc_last h v
  rw [Array.getElem?_toList] at this
  simp [Array.getD_eq_getD_getElem?, this]
theorem spc_blocks {w : World} {t : TypeId} {g N : Nat} {h : Hd} {vs : Nat → Value} (hO : Ov w t g (flat (spc h N vs)) (N * 17)) (i : Nat) (hi : i < N) : w.cell? ⟨g, i * 17 + 16, none⟩ = some (vs i) := by
  rw [flat_at hO i 16 hi (by omega)]
  unfold spc
  rw [if_pos hi, shc_blocks]
theorem nm_congr10 {w : World} {v : Value} {r : Nat} {l : Nat → Nat} {M M' : Nat → Nat → BitVec 8} (h : NmE w v r l M) (e : ∀ i, i < r → ∀ j, j < l i → M i j = M' i j) : NmE w v r l M' := by
  obtain ⟨rows, h1, h2⟩ := h
  exact ⟨rows, h1, fun i hi => nr_congr (h2 i hi) (e i hi)⟩
theorem aw_open {w : World} {g : Nat} {F : Nat → Nat → BitVec 8} {vs : Nat → Value} (hF : Fac 2 F) (hO : Ov w 44 g (flat (spc (soH.of 10) (2 + 1) vs)) ((2 + 1) * 17)) (hR : ∀ i, i < 2 + 1 → (∃ b, vs i = .slice (some ⟨b, 0, none⟩) [4, 1].length [4, 1].length) ∧ NmT w (vs i) [4, 1].length (fun j => [4, 1].getD j 0) (fun j x => mm fdE 2 F (dm 2 [4, 1] (pad 10 awd)) i (([4, 1].take j).sum + x))) (i : Nat) (hi : i < 3) :
    ∃ b, w.cell? ⟨g, i * 17 + 16, none⟩ = some (.slice (some ⟨b, 0, none⟩) 2 2) ∧ NmE w (.slice (some ⟨b, 0, none⟩) 2 2) 2 (fun j => [4, 1].getD j 0) (fun j x => aG i (([4, 1].take j).sum + x)) := by
  obtain ⟨⟨b, hb⟩, hN⟩ := hR i hi
  have hc := spc_blocks hO i hi
  have hM := hN.nm
  rw [hb] at hc hM
  refine ⟨b, hc, nm_congr10 hM (fun j hj x hx => ?_)⟩
  have hj' : j < 2 := hj
  match j, hj' with
  | 0, _ => exact aw_row hF i hi _ (by have hx' : x < 4 := hx; show 0 + x < 5; omega)
  | 1, _ => exact aw_row hF i hi _ (by have hx' : x < 1 := hx; show 4 + x < 5; omega)
theorem bw1 (w : World) : NmE (bw w 4 5 6 7 9) (.slice (some ⟨w.heap.size + 1 + 1, 0, none⟩) 2 2) 2 (fun j => [4, 1].getD j 0) (fun j x => aG 1 (([4, 1].take j).sum + x)) := bw_nm w (aG 1) 4 5 6 7 9 (by decide) (by decide) (by decide) (by decide) (by decide)
theorem bw2 (w : World) : NmE (bw w 8 9 10 11 10) (.slice (some ⟨w.heap.size + 1 + 1, 0, none⟩) 2 2) 2 (fun j => [4, 1].getD j 0) (fun j x => aG 2 (([4, 1].take j).sum + x)) := bw_nm w (aG 2) 8 9 10 11 10 (by decide) (by decide) (by decide) (by decide) (by decide)
theorem sh0 : (.agg #[.int .u8 0, .int .u8 0, .int .u8 0, .int .u8 0, .int .u8 0, .int .u8 0, .int .u8 0, .int .u8 0, .int .i64 0, .int .i64 0, .int .i64 0, .string ⟨#[]⟩, .int .i64 0, .int .i64 0, .int .i64 0, .int .i64 0, .slice none 0 0] : Value) = .agg (shc hd0 (.slice none 0 0)) := rfl
theorem aw_lost {w : World} {t : TypeId} {g : Nat} {vs : Nat → Value} (hO : Ov w t g (flat (fun r => if r = 0 then shc hd0 (.slice none 0 0) else spc (soH.of 10) (2 + 1) vs r)) ((2 + 1) * 17)) : Ov w t g (flat (lsp soH 10 vs [0] (2 + 1))) ((2 + 1) * 17) := by
  refine hO.congr (fun x hx => ?_)
  unfold flat
  congr 1
  unfold lsp spc
  dsimp only
  by_cases e : x / 17 = 0
  · rw [if_pos e, if_pos ⟨by omega, by simp [e]⟩]
  · rw [if_neg e, if_pos (by omega), if_neg (fun h => by simp at h; omega)]
theorem aw_join {w : World} {g : Nat} {F : Nat → Nat → BitVec 8} {vs : Nat → Value} (hF : Fac 2 F) (hO : Ov w 44 g (flat (lsp soH 10 vs [0] (2 + 1))) ((2 + 1) * 17)) (hR : ∀ i, i < 2 + 1 → (∃ b, vs i = .slice (some ⟨b, 0, none⟩) [4, 1].length [4, 1].length) ∧ NmT w (vs i) [4, 1].length (fun j => [4, 1].getD j 0) (fun j x => mm fdE 2 F (dm 2 [4, 1] (pad 10 awd)) i (([4, 1].take j).sum + x))) :
    Calls Try.prog 8 #[.slice (some ⟨g, 0, none⟩) 3 3] w fun e w' => ∃ q d, e = .returned (.tuple #[.slice q 10 d, .int .i64 0]) ∧ (convert 23 9 (.slice q 10 d)).run Try.prog w' = .ok (.string ⟨#[0, 1, 2, 3, 4, 5, 6, 7, 8, 9]⟩) w' ∧ Below w.heap.size w w' := by
  obtain ⟨m, ob⟩ := obs_of so_in (by decide) (by omega) ((chk_ok _).2 so_ok) so_nu.1 so_nu.2.1 so_nu.2.2 hF hO hR (by decide)
  refine (join_ok ob).mono ?_
  rintro e w' ⟨q, d, rfl, _, hN, hb⟩
  refine ⟨q, d, rfl, ?_, hb⟩
  rw [conv_row (nr_congr hN (fun j hj => join_back so_nu.1 awd j hj)), str_awd]
section
attribute [local irreducible] Calls el Hd.cs NrE NmE NmT Fac mm dm flat lsp spc str
set_option maxHeartbeats 8000000 in
set_option maxRecDepth 1000000 in
theorem awake10 (w : World) : Calls Try.prog 4 #[] w fun e w' => e = .returned (.bool true) ∧ Below w.heap.size w w' := by
  have al : ∀ (W : World) (o : Obj), Below W.heap.size W (W.alloc o) := fun W o => (Below.refl _ _).alloc (Nat.le_refl _) o
  have SO := (show Hid _ from some_any w)
  have SP : Hid (∀ w1 : World, Calls Try.prog 6 #[.agg soH.cs, .slice (some ⟨w1.heap.size, 0, none⟩) 10 10] (ten w1) _) := fun w1 => split_ok soH so_in (by decide) (some ⟨w1.heap.size, 0, none⟩) 10 10 (by omega) (by omega) awd (ten w1) (ten_nr w1) ((chk_ok _).2 so_ok) 2 1 4 [4, 1] so_nu.1 so_nu.2.1 so_nu.2.2
  go_enter Try.func4, Try.ntmps4
  go_wp2_with (first
    | (go_at_call 10; refine SO.out.mono ?_; rintro e w1 ⟨rfl, hb1⟩)
    | (go_at_call 6; refine (show Calls _ _ _ (ten w1) _ from (SP.out w1).mono ?_); rintro e w2 ⟨g, F, vs, rfl, hF, hO, hR, hg, hb2⟩; obtain ⟨b1, c33, N1⟩ := aw_open hF hO hR 1 (by omega); obtain ⟨b2, c50, N2⟩ := aw_open hF hO hR 2 (by omega); have hF' := (show Hid _ from hF); have hO' := (show Hid _ from hO); have hR' := (show Hid _ from hR); have N1' := (show Hid _ from N1); have N2' := (show Hid _ from N2); clear hF hO hR N1 N2)
    | (go_at_call 9; refine (show Calls _ _ _ (bw w2 4 5 6 7 9) _ from (same10 (some ⟨b1, 0, none⟩) _ 2 2 2 _ _ _ _ (by omega) (NmE.below N1'.out (bw_below w2 4 5 6 7 9)) (bw1 w2) (fun i _ j _ => rfl)).mono ?_); rintro e w3 ⟨rfl, hb3⟩; have hb23 := bt (bw_below w2 4 5 6 7 9) hb3; replace c50 := cell_below c50 hb23; replace N2' := (show Hid _ from NmE.below N2'.out hb23); clear N1')
    | (go_at_call 9; refine (show Calls _ _ _ (bw w3 8 9 10 11 10) _ from (same10 (some ⟨b2, 0, none⟩) _ 2 2 2 _ _ _ _ (by omega) (NmE.below N2'.out (bw_below w3 8 9 10 11 10)) (bw2 w3) (fun i _ j _ => rfl)).mono ?_); rintro e w4 ⟨rfl, hb4⟩; have hb24 := (show Hid _ from bt hb23 (bt (bw_below w3 8 9 10 11 10) hb4)); clear N2'; have O4 := (show Hid _ from Ov.below hO'.out hb24.out))
    | (refine wpList_stSd rfl _ _ rfl rfl g 0 (2 + 1) (shc hd0 (.slice none 0 0)) rfl sh0 (shc_size _ _) (shc_all _ _ rfl) 44 _ O4.out (by omega) ?_; intro w5 hO5 hBu5)
    | (go_at_call 8; refine (aw_join hF'.out (aw_lost hO5) (fun i hi => ⟨(hR'.out i hi).1, ((hR'.out i hi).2.below hb24.out).but hBu5 (ov_heap O4.out) (by decide) (by decide)⟩)).mono ?_; rintro e w6 ⟨q, dd, rfl, hcv, hb6⟩))
  go_ret
  exact ⟨rfl, by
    have h1 : Below w.heap.size w (ten w1) := hb1.trans ((al w1 _).mono hb1.size)
    have s1 : w.heap.size ≤ (ten w1).heap.size := h1.size
    have h2 := h1.trans (hb2.mono s1)
    have h3 := h2.trans (hb24.out.mono h2.size)
    have h4 := h3.trans (hBu5.bl.mono (Nat.le_trans s1 hg))
    exact h4.trans (hb6.mono h4.size)⟩
end
end Go.Proofs.Ytgokkppojhokbaa
/-
  StripeAnyK: what is asked.
-/
namespace Go.Proofs.Ytgokkppojhokbaa
open Go.RowKit
section
attribute [local irreducible] Calls NrE
end
theorem ft_ok {x : Hd} {K M B N ep ct : Nat} {key : List (BitVec 8)} (hf : Fits K M B N ep ct key) : ((ftH x K M B key ep ct).of N).Ok := by
  have k1 := hf.k1
  have m1 := hf.m1
  have mk := hf.mlk
  have km := hf.km
  have b1 := hf.b1
  have b2 := hf.b2
  have n1 := hf.n1
  have n2 := hf.n2
  have e1 := hf.e1
  have e2 := hf.e2
  have c1 := hf.c1
  have c2 := hf.c2
  refine ⟨?_, ?_, ?_, ?_, ?_, ?_, ?_, ?_, hf.y1, hf.y2, ?_, ?_, ?_, ?_, ?_, ?_, ?_, ?_, ?_⟩
  · show 1 ≤ (K : Int); omega
  · show (K : Int) ≤ 254; omega
  · show 1 ≤ (M : Int); omega
  · show (M : Int) ≤ 127; omega
  · show (M : Int) ≤ (K : Int); omega
  · show (K : Int) + (M : Int) ≤ 255; omega
  · show 1 ≤ (B : Int); omega
  · show (B : Int) ≤ 65536; omega
  · show 0 ≤ (N : Int); omega
  · show (N : Int) ≤ 1048576; omega
  · show cdv (N : Int) ((K : Int) * (B : Int)) ≤ 4096
    unfold cdv
    have hp : 0 < K * B := Nat.mul_pos (by omega) (by omega)
    have e : 4096 * K * B = 4096 * (K * B) := Nat.mul_assoc _ _ _
    rw [← Int.natCast_mul]
    generalize K * B = z at *
    have : ((N : Int) + (z : Int) - 1) / (z : Int) < 4097 := Int.ediv_lt_of_lt_mul (by omega) (by omega)
    omega
  · show (0 : Int) ≤ 0; omega
  · show (0 : Int) < (K : Int) + (M : Int); omega
  · show 1 ≤ (ep : Int); omega
  · show (ep : Int) ≤ 4294967295; omega
  · show 1 ≤ (ct : Int); omega
  · show (ct : Int) ≤ 4294967295; omega
theorem ft_in {x : Hd} {K M B N ep ct : Nat} {key : List (BitVec 8)} (hf : Fits K M B N ep ct key) : (ftH x K M B key ep ct).In := by
  have km := hf.km
  have b2 := hf.b2
  have e2 := hf.e2
  have c2 := hf.c2
  exact ⟨⟨by show _ ≤ (K : Int); omega, by show (K : Int) ≤ _; omega⟩, ⟨by show _ ≤ (M : Int); omega, by show (M : Int) ≤ _; omega⟩, ⟨by show _ ≤ (B : Int); omega, by show (B : Int) ≤ _; omega⟩, ⟨by show _ ≤ (0 : Int); omega, by show (0 : Int) ≤ _; omega⟩, ⟨by show _ ≤ (0 : Int); omega, by show (0 : Int) ≤ _; omega⟩, ⟨by show _ ≤ (ep : Int); omega, by show (ep : Int) ≤ _; omega⟩, ⟨by show _ ≤ (ct : Int); omega, by show (ct : Int) ≤ _; omega⟩⟩
theorem ft_nu {x : Hd} {K M B N ep ct : Nat} {key : List (BitVec 8)} (hf : Fits K M B N ep ct key) : ∃ L, (ftH x K M B key ep ct).Nu N K M B L ∧ szC (ftH x K M B key ep ct).k (ftH x K M B key ep ct).m (ftH x K M B key ep ct).b N = 0 ∧ szL (ftH x K M B key ep ct).k (ftH x K M B key ep ct).m (ftH x K M B key ep ct).b N = L := by
  obtain ⟨K', M', B', L, nu, z1, z2⟩ := Hd.nu ((ftH x K M B key ep ct).of N) N rfl (ft_ok hf)
  have hk : (K : Int) = (K' : Int) := nu.k
  have hm : (M : Int) = (M' : Int) := nu.m
  have hb : (B : Int) = (B' : Int) := nu.b
  obtain rfl : K' = K := by omega
  obtain rfl : M' = M := by omega
  obtain rfl : B' = B := by omega
  exact ⟨L, ⟨nu.k, nu.m, nu.b, nu.k1, nu.m1, nu.mle, nu.km, nu.b1, nu.b2, nu.n1, nu.l, nu.s, nu.c, nu.r⟩, z1, z2⟩
theorem neq_gen (a b : Int) (w : World) : (binOp .neq 31 (.agg #[.int .i64 a, .int .i64 b]) (.agg #[.int .i64 a, .int .i64 b])).run Try.prog w = .ok (.bool false) w := by
  rw [run_neq_struct]
  go_simp
theorem neq_shape (a b c : Int) (w : World) : (binOp .neq 29 (.agg #[.int .i64 a, .int .i64 b, .int .i64 c]) (.agg #[.int .i64 a, .int .i64 b, .int .i64 c])).run Try.prog w = .ok (.bool false) w := by
  rw [run_neq_struct]
  go_simp
end Go.Proofs.Ytgokkppojhokbaa
/-
  StripeAnyK: heads' parts compared.
-/
namespace Go.Proofs.Ytgokkppojhokbaa
open Go.RowKit
set_option maxRecDepth 100000 in
theorem eq_arr0 (x : Nat → Int) (w : World) : (Op.equalIn 10000 22 (.agg #[.int .u8 (x 0), .int .u8 (x 1), .int .u8 (x 2), .int .u8 (x 3), .int .u8 (x 4), .int .u8 (x 5), .int .u8 (x 6), .int .u8 (x 7)]) (.agg #[.int .u8 (x 0), .int .u8 (x 1), .int .u8 (x 2), .int .u8 (x 3), .int .u8 (x 4), .int .u8 (x 5), .int .u8 (x 6), .int .u8 (x 7)])).run Try.prog w = .ok true w := by
  obtain ⟨i0, hi, hz0, hz1, hz2⟩ := info_parts info5
  have ei : ∀ (a b : Int) (w : World), (Op.equalIn 9999 5 (.int .u8 a) (.int .u8 b)).run Try.prog w = .ok (a == b) w := fun a b w => run_equalIn_int w 9998 5 .u8 .u8 a b Try.underlying5
  rw [Op.equalIn]
  simp only [Sem.run_bind, run_underlying Try.underlying22, Result.andThen_ok, sizeOf, typeInfo, run_program, hi]
  simp [List.range', hz1, pt0, pt1, pt2, pt3, pt4, pt5, pt6, pt7, ei]
theorem neq_arr (h : Hd) (w : World) : (binOp .neq 22 (.agg #[.int .u8 (el h.a0), .int .u8 (el h.a1), .int .u8 (el h.a2), .int .u8 (el h.a3), .int .u8 (el h.a4), .int .u8 (el h.a5), .int .u8 (el h.a6), .int .u8 (el h.a7)]) (.agg #[.int .u8 (el h.a0), .int .u8 (el h.a1), .int .u8 (el h.a2), .int .u8 (el h.a3), .int .u8 (el h.a4), .int .u8 (el h.a5), .int .u8 (el h.a6), .int .u8 (el h.a7)])).run Try.prog w = .ok (.bool false) w := by
  rw [run_neq_struct]
  have e := eq_arr0 (b8 h) w
  have e2 : (Op.equalIn 10000 22 (.agg #[.int .u8 (el h.a0), .int .u8 (el h.a1), .int .u8 (el h.a2), .int .u8 (el h.a3), .int .u8 (el h.a4), .int .u8 (el h.a5), .int .u8 (el h.a6), .int .u8 (el h.a7)]) (.agg #[.int .u8 (el h.a0), .int .u8 (el h.a1), .int .u8 (el h.a2), .int .u8 (el h.a3), .int .u8 (el h.a4), .int .u8 (el h.a5), .int .u8 (el h.a6), .int .u8 (el h.a7)])).run Try.prog w = .ok true w := e
  rw [e2]
  rfl
/-- The laws' own head, and a shard's: what is compared. -/
theorem HdAt.st {w : World} {g : Nat} {h : Hd} (H : HdAt w g h) : w.cell? ⟨g, 0, none⟩ = some (.int .u8 (el h.a0)) ∧ w.cell? ⟨g, 1, none⟩ = some (.int .u8 (el h.a1)) ∧ w.cell? ⟨g, 2, none⟩ = some (.int .u8 (el h.a2)) ∧ w.cell? ⟨g, 3, none⟩ = some (.int .u8 (el h.a3)) ∧ w.cell? ⟨g, 4, none⟩ = some (.int .u8 (el h.a4)) ∧ w.cell? ⟨g, 5, none⟩ = some (.int .u8 (el h.a5)) ∧ w.cell? ⟨g, 6, none⟩ = some (.int .u8 (el h.a6)) ∧ w.cell? ⟨g, 7, none⟩ = some (.int .u8 (el h.a7)) := by
  unfold HdAt at H
  have c := fun i => cell_of_row w g i _ _ (0, 0) H
  exact ⟨c 0, c 1, c 2, c 3, c 4, c 5, c 6, c 7⟩
theorem Sd.st {w : World} {b o : Nat} {h : Hd} {v : Value} (H : Sd w b o h v) : w.cell? ⟨b, o, none⟩ = some (.int .u8 (el h.a0)) ∧ w.cell? ⟨b, o + 1, none⟩ = some (.int .u8 (el h.a1)) ∧ w.cell? ⟨b, o + 2, none⟩ = some (.int .u8 (el h.a2)) ∧ w.cell? ⟨b, o + 3, none⟩ = some (.int .u8 (el h.a3)) ∧ w.cell? ⟨b, o + 4, none⟩ = some (.int .u8 (el h.a4)) ∧ w.cell? ⟨b, o + 5, none⟩ = some (.int .u8 (el h.a5)) ∧ w.cell? ⟨b, o + 6, none⟩ = some (.int .u8 (el h.a6)) ∧ w.cell? ⟨b, o + 7, none⟩ = some (.int .u8 (el h.a7)) :=
  ⟨H 0 _ rfl, H 1 _ rfl, H 2 _ rfl, H 3 _ rfl, H 4 _ rfl, H 5 _ rfl, H 6 _ rfl, H 7 _ rfl⟩
theorem wrap_km {K M : Nat} (h : K + M ≤ 255) : wrap64 ((K : Int) + (M : Int)) = (K : Int) + (M : Int) := by unfold wrap64; omega
theorem Fits.n {K M B N ep ct : Nat} {key : List (BitVec 8)} (hf : Fits K M B N ep ct key) : N ≤ 140737488355328 := Nat.le_trans hf.n1 (by decide)
theorem Fits.y {K M B N ep ct : Nat} {key : List (BitVec 8)} (hf : Fits K M B N ep ct key) : key.length ≤ 9223372036854775807 := Nat.le_trans hf.y2 (by decide)
/-- Split of what fit has made. -/
theorem ft_split (x : Hd) {K M B N ep ct : Nat} {key : List (BitVec 8)} (hf : Fits K M B N ep ct key) (q : Option Addr) (r : Nat) (hr : N ≤ r) (d : Nat → BitVec 8) (w : World) (hD : NrE w (.slice q N r) N d) :
    ∃ L, Hid ((ftH x K M B key ep ct).Nu N K M B L ∧ szC (ftH x K M B key ep ct).k (ftH x K M B key ep ct).m (ftH x K M B key ep ct).b N = 0 ∧ szL (ftH x K M B key ep ct).k (ftH x K M B key ep ct).m (ftH x K M B key ep ct).b N = L) ∧
      Calls Try.prog 6 #[.agg (ftH x K M B key ep ct).cs, .slice q N r] w fun e w' => ∃ g F vs, e = .returned (.tuple #[.slice (some ⟨g, 0, none⟩) (K + M) (K + M), .int .i64 0]) ∧ Fac K F ∧ Ov w' 44 g (flat (spc ((ftH x K M B key ep ct).of N) (K + M) vs)) ((K + M) * 17) ∧ (∀ i, i < K + M → (∃ b, vs i = .slice (some ⟨b, 0, none⟩) L.length L.length) ∧ NmT w' (vs i) L.length (fun j => L.getD j 0) (fun j x => mm fdE K F (dm K L (pad N d)) i ((L.take j).sum + x))) ∧ w.heap.size ≤ g ∧ Below w.heap.size w w' := by
  obtain ⟨L, nu, z1, z2⟩ := ft_nu (x := x) hf
  exact ⟨L, ⟨nu, z1, z2⟩, split_ok (ftH x K M B key ep ct) (ft_in hf) hf.y q N r hf.n hr d w hD ((chk_ok _).2 (ft_ok hf)) K M B L nu z1 z2⟩
/-- The numbers for 'places'. -/
theorem Fits.pl {K M B N ep ct : Nat} {key : List (BitVec 8)} (hf : Fits K M B N ep ct key) : 1 ≤ K + M ∧ K + M ≤ 255 ∧ M ≤ 255 := by
  have h1 := hf.k1
  have h2 := hf.km
  omega
end Go.Proofs.Ytgokkppojhokbaa
