/-
  'number', 'isMarked', 'isSummed', 'fields', 'Parse'.
-/
import Derived.Test.YtjobaeopokfekaaGreatLq15
import Derived.Test.YtjobaeopokfekaaGreatRatk
import Derived.BigQuiet
import Derived.BigRegion
import Derived.Laws.StructEq
import Derived.Deep.RegionHeld3
namespace Go.Proofs.YtjobaeopokfekaaGreat
open Go.RowKit
theorem fx_okL (n : Nat) (bs : List (BitVec 8)) (h : n ≤ bs.length) : fx n bs = .ok (lv (bs.take n), bs.drop n) := by
  unfold fx tk; rw [if_neg (by omega)]
theorem Rd.ctL {w : World} {b o : Nat} {xs : List (BitVec 8)} (h : Rd w (some ⟨b, o, none⟩) xs) (a n : Nat) (hn : a + n ≤ xs.length) : Rd w (some ⟨b, o + a, none⟩) (ctL xs a n) := by
  rcases h with h | ⟨b', o', e, hc⟩
  · subst h; exact .inl (by simp [Go.Proofs.YtjobaeopokfekaaGreat.ctL])
  · injection e with e
    injection e with e1 e2
    subst e1 e2
    refine .inr ⟨b, o + a, rfl, fun i hi => ?_⟩
    rw [ctL_len _ _ _ hn] at hi
    rw [Nat.add_assoc, hc (a + i) (by omega)]
    congr 3
    unfold Go.Proofs.YtjobaeopokfekaaGreat.ctL
    simp [List.getD, hi]
theorem lvb (n : Nat) (xs : List (BitVec 8)) (h : xs.length ≤ n) : lv xs < 256 ^ n := Nat.lt_of_lt_of_le (lv_lt xs) (Nat.pow_le_pow_right (by omega) h)
theorem wrap_s64 (n : Nat) (h : n < 18446744073709551616) : IntKind.i64.wrap (n : Int) = s64 n := by
  rw [IntKind.wrap_i64]; unfold s64; split <;> omega
theorem conv64 (z : Int) (W : World) : (convert 95 3 (.int .u64 z)).run Tryz.prog W = .ok (.int .i64 (IntKind.i64.wrap z)) W := by kernel_rfl
theorem conv64s (z : Nat) (h : z < 256 ^ 8) (W : World) : (convert 95 3 (.int .u64 (z : Int))).run Tryz.prog W = .ok (.int .i64 (s64 z)) W := by rw [conv64, wrap_s64 z h]
section
attribute [local irreducible] Calls el Lbl.cs cmo rg smL
set_option maxHeartbeats 1000000 in
set_option maxRecDepth 1000000 in
theorem lnumber8 {w : World} {r : Nat} {bs : List (BitVec 8)} (h : Rdr w r bs 0) (hl : 1 ≤ bs.length) (hm : bs.length ≤ 1099511627000) :
    Calls Tryz.prog 69 #[.pointer (some ⟨r, 0, none⟩)] w fun e w' => e = .returned (.int .i64 (lv (bs.take 1) : Int)) ∧ Rdr w' r (bs.drop 1) 0 ∧ w.grownBy w' (some r) := by
  have T := (show Hid _ from mtk8_any h hm)
  have hb := lvb 1 (bs.take 1) (by rw [List.length_take]; omega)
  rw [fx_okL 1 bs hl] at T
  generalize lv (bs.take 1) = z at T hb ⊢
  go_enter Tryz.func69, Tryz.ntmps69
  go_wp2_with (go_at_call 77; refine T.out.mono ?_; rintro e w1 ⟨hg, hr, v, rfl, hv⟩; obtain rfl : v = .int .u8 (z : Int) := hv)
  go_ret
  exact ⟨rfl, hr, hg⟩
set_option maxHeartbeats 1000000 in
set_option maxRecDepth 1000000 in
theorem lnumber32 {w : World} {r : Nat} {bs : List (BitVec 8)} (h : Rdr w r bs 0) (hl : 4 ≤ bs.length) (hm : bs.length ≤ 1099511627000) :
    Calls Tryz.prog 70 #[.pointer (some ⟨r, 0, none⟩)] w fun e w' => e = .returned (.int .i64 (lv (bs.take 4) : Int)) ∧ Rdr w' r (bs.drop 4) 0 ∧ w.grownBy w' (some r) := by
  have T := (show Hid _ from mtk32_any h hm)
  have hb := lvb 4 (bs.take 4) (by rw [List.length_take]; omega)
  rw [fx_okL 4 bs hl] at T
  generalize lv (bs.take 4) = z at T hb ⊢
  go_enter Tryz.func70, Tryz.ntmps70
  go_wp2_with (go_at_call 78; refine T.out.mono ?_; rintro e w1 ⟨hg, hr, v, rfl, hv⟩; obtain rfl : v = .int .u32 (z : Int) := hv)
  go_ret
  exact ⟨rfl, hr, hg⟩
set_option maxHeartbeats 1000000 in
set_option maxRecDepth 1000000 in
theorem lnumber64 {w : World} {r : Nat} {bs : List (BitVec 8)} (h : Rdr w r bs 0) (hl : 8 ≤ bs.length) (hm : bs.length ≤ 1099511627000) :
    Calls Tryz.prog 71 #[.pointer (some ⟨r, 0, none⟩)] w fun e w' => e = .returned (.int .i64 (s64 (lv (bs.take 8)))) ∧ Rdr w' r (bs.drop 8) 0 ∧ w.grownBy w' (some r) := by
  have T := (show Hid _ from mtk64_any h hm)
  have hb := lvb 8 (bs.take 8) (by rw [List.length_take]; omega)
  rw [fx_okL 8 bs hl] at T
  generalize lv (bs.take 8) = z at T hb ⊢
  have hc := conv64s z hb
  clear hb
  go_enter Tryz.func71, Tryz.ntmps71
  go_wp2_with (go_at_call 79; refine T.out.mono ?_; rintro e w1 ⟨hg, hr, v, rfl, hv⟩; obtain rfl : v = .int .u64 (z : Int) := hv)
  go_ret
  exact ⟨rfl, hr, hg⟩
end
end Go.Proofs.YtjobaeopokfekaaGreat
/-
  'isMarked', 'isSummed'.
-/
namespace Go.Proofs.YtjobaeopokfekaaGreat
open Go.RowKit
theorem el_beqL (a b : BitVec 8) : (el a == el b) = decide (a = b) := by
  by_cases h : a = b
  · subst h; simp
  · rw [decide_eq_false h]
    have : el a ≠ el b := fun e => h (by unfold el at e; exact BitVec.eq_of_toNat_eq (by omega))
    simp [this]
theorem q40 (x : Nat → Int) (w : World) : (part 5 #[.int .u8 (x 0), .int .u8 (x 1), .int .u8 (x 2), .int .u8 (x 3)] 0).run Tryz.prog w = .ok (.int .u8 (x 0)) w := by kernel_rfl
theorem q41 (x : Nat → Int) (w : World) : (part 5 #[.int .u8 (x 0), .int .u8 (x 1), .int .u8 (x 2), .int .u8 (x 3)] 1).run Tryz.prog w = .ok (.int .u8 (x 1)) w := by kernel_rfl
theorem q42 (x : Nat → Int) (w : World) : (part 5 #[.int .u8 (x 0), .int .u8 (x 1), .int .u8 (x 2), .int .u8 (x 3)] 2).run Tryz.prog w = .ok (.int .u8 (x 2)) w := by kernel_rfl
theorem q43 (x : Nat → Int) (w : World) : (part 5 #[.int .u8 (x 0), .int .u8 (x 1), .int .u8 (x 2), .int .u8 (x 3)] 3).run Tryz.prog w = .ok (.int .u8 (x 3)) w := by kernel_rfl
set_option maxRecDepth 100000 in
theorem eq_arr4 (x y : Nat → Int) (w : World) : (Op.equalIn 10000 114 (.agg #[.int .u8 (x 0), .int .u8 (x 1), .int .u8 (x 2), .int .u8 (x 3)]) (.agg #[.int .u8 (y 0), .int .u8 (y 1), .int .u8 (y 2), .int .u8 (y 3)])).run Tryz.prog w = .ok (x 0 == y 0 && (x 1 == y 1 && (x 2 == y 2 && x 3 == y 3))) w := by
  obtain ⟨i0, hi, hz0, hz1, hz2⟩ := info_parts info5
  have ei : ∀ (a b : Int) (w : World), (Op.equalIn 9999 5 (.int .u8 a) (.int .u8 b)).run Tryz.prog w = .ok (a == b) w := fun a b w => run_equalIn_int w 9998 5 .u8 .u8 a b Tryz.underlying5
  rw [Op.equalIn]
  simp only [Sem.run_bind, run_underlying Tryz.underlying114, Result.andThen_ok, sizeOf, typeInfo, run_program, hi]
  simp [List.range', hz1, q40, q41, q42, q43, ei]
  repeat' split
  all_goals simp [*]
/-- Two rows of four bytes, as arrays. -/
def ar4 (xs : List (BitVec 8)) : Value := .agg #[.int .u8 (el (fn xs 0)), .int .u8 (el (fn xs 1)), .int .u8 (el (fn xs 2)), .int .u8 (el (fn xs 3))]
theorem eq4 (xs ys : List (BitVec 8)) (hx : xs.length = 4) (hy : ys.length = 4) : (el (fn xs 0) == el (fn ys 0) && (el (fn xs 1) == el (fn ys 1) && (el (fn xs 2) == el (fn ys 2) && el (fn xs 3) == el (fn ys 3)))) = decide (xs = ys) := by
  simp only [el_beqL]
  rw [Bool.eq_iff_iff]
  simp only [Bool.and_eq_true, decide_eq_true_eq]
  constructor
  · rintro ⟨h0, h1, h2, h3⟩
    apply List.ext_getElem (by omega)
    intro i hi hj
    have g : ∀ (zs : List (BitVec 8)) (j : Nat) (hz : j < zs.length), fn zs j = zs[j] := fun zs j hz => by unfold fn; simp [hz]
    rw [← g, ← g]
    match i, (show i < 4 by omega) with
    | 0, _ => exact h0
    | 1, _ => exact h1
    | 2, _ => exact h2
    | 3, _ => exact h3
  · rintro rfl; exact ⟨rfl, rfl, rfl, rfl⟩
theorem bin_ar4 (xs ys : List (BitVec 8)) (hx : xs.length = 4) (hy : ys.length = 4) (w : World) : (binOp .eql 114 (ar4 xs) (ar4 ys)).run Tryz.prog w = .ok (.bool (decide (xs = ys))) w := by
  have h := eq_arr4 (fun i => el (fn xs i)) (fun i => el (fn ys i)) w
  unfold ar4
  rw [run_eql_struct, h, eq4 xs ys hx hy]
  rfl
theorem arrayAt4 (X : World) (a : Addr) (c : Nat) : (Instr.arrayAt 114 (.slice (some a) 4 c)).run Tryz.prog X = .ok (.pointer (some a)) X := by
  simp [Instr.arrayAt, run_underlying Tryz.underlying114]
theorem rd4 {w : World} {gb go : Nat} {xs : List (BitVec 8)} (h : Rd w (some ⟨gb, go, none⟩) xs) (hl : xs.length = 4) : w.cell? ⟨gb, go, none⟩ = some (.int .u8 (el (fn xs 0))) ∧ w.cell? ⟨gb, go + 1, none⟩ = some (.int .u8 (el (fn xs 1))) ∧ w.cell? ⟨gb, go + 2, none⟩ = some (.int .u8 (el (fn xs 2))) ∧ w.cell? ⟨gb, go + 3, none⟩ = some (.int .u8 (el (fn xs 3))) := by
  rcases h with h | ⟨b, o, e, hc⟩
  · subst h; cases hl
  · injection e with e
    injection e with e1 e2
    subst e1 e2
    exact ⟨hc 0 (by omega), hc 1 (by omega), hc 2 (by omega), hc 3 (by omega)⟩
theorem ow4 {w : World} {base : Nat} {v : Value} {xs : List (BitVec 8)} (h : Ow w base v xs) (hl : xs.length = 4) : ∃ g cap, v = .slice (some ⟨g, 0, none⟩) 4 cap ∧ 4 ≤ cap ∧ base ≤ g
    ∧ w.cell? ⟨g, 0, none⟩ = some (.int .u8 (el (fn xs 0))) ∧ w.cell? ⟨g, 1, none⟩ = some (.int .u8 (el (fn xs 1))) ∧ w.cell? ⟨g, 2, none⟩ = some (.int .u8 (el (fn xs 2))) ∧ w.cell? ⟨g, 3, none⟩ = some (.int .u8 (el (fn xs 3))) := by
  rcases h.2 with ⟨hv, h0⟩ | ⟨g, cap, c, hv, hg, hh, hc, hm, hs, ht⟩
  · omega
  · rw [hl] at hv hc
    have H := fun i (hi : i < 4) => h.cells (g := g) (by rw [hv]; rfl) i _ (vs_at (fn xs) xs.length i (by omega))
    have H' : ∀ i, i < 4 → w.cell? ⟨g, i, none⟩ = some (.int .u8 (el (fn xs i))) := fun i hi => by
      have := H i hi
      rw [add_pl, Nat.zero_add] at this
      exact this
    exact ⟨g, cap, hv, hc, hg, H' 0 (by omega), H' 1 (by omega), H' 2 (by omega), H' 3 (by omega)⟩
section
attribute [local irreducible] Calls el Lbl.cs cmo rg smL
set_option maxHeartbeats 4000000 in
set_option maxRecDepth 1000000 in
theorem lmarked_any {w : World} {gb go : Nat} {bs : List (BitVec 8)} (h : Rd w (some ⟨gb, go, none⟩) bs) (c : Nat) (hl : bs.length = 31) (hc : 31 ≤ c) :
    Calls Tryz.prog 48 #[.slice (some ⟨gb, go, none⟩) 31 c] w fun e w' => e = .returned (.bool (mrk bs)) ∧ Below w.heap.size w w' := by
  have R4 : Rd w (some ⟨gb, go, none⟩) (bs.take 4) := h.take 4
  have B := bin_ar4 (bs.take 4) mkL (by rw [List.length_take]; omega) rfl
  unfold ar4 at B
  go_enter Tryz.func48, Tryz.ntmps48
  obtain ⟨c0, c1, c2, c3⟩ := rd4 R4 (by rw [List.length_take]; omega)
  have hlt := block_lt_of_cell c0
  go_wp2
  have AT := arrayAt4
  have i4 : (4 : Int) ≤ (c : Int) := by omega
  have kc : (convert 22 22 (.slice (some ⟨w.heap.size, 0, none⟩) 4 4)).run Tryz.prog (w.alloc (.cells #[.int .u8 67, .int .u8 82, .int .u8 78, .int .u8 1] 5)).drew = .ok (.slice (some ⟨w.heap.size, 0, none⟩) 4 4) (w.alloc (.cells #[.int .u8 67, .int .u8 82, .int .u8 78, .int .u8 1] 5 (4, 5))).drew := Lib.run_convert_bytes_const (P := Tryz.prog) w.drew 22 5 #[.int .u8 67, .int .u8 82, .int .u8 78, .int .u8 1] 4 4 Tryz.underlying22 Tryz.underlying5
  have ba : Below w.heap.size w (w.alloc (.cells #[.int .u8 67, .int .u8 82, .int .u8 78, .int .u8 1] 5 (4, 5))) := (Below.refl _ _).alloc (Nat.le_refl _) _
  have rm := rd_markL w (4, 5)
  obtain ⟨m0, m1, m2, m3⟩ := rd4 rm rfl
  have d0 := cell_below c0 ba
  have d1 := cell_below c1 ba
  have d2 := cell_below c2 ba
  have d3 := cell_below c3 ba
  go_region
  go_wp2
  go_ret
  exact ⟨rfl, ba.drew⟩
set_option maxHeartbeats 4000000 in
set_option maxRecDepth 1000000 in
theorem lsummed_any {w : World} {gb go : Nat} {bs : List (BitVec 8)} (h : Rd w (some ⟨gb, go, none⟩) bs) (c : Nat) (hl : bs.length = 31) (hc : 31 ≤ c) :
    Calls Tryz.prog 49 #[.slice (some ⟨gb, go, none⟩) 31 c] w fun e w' => e = .returned (.bool (smd bs)) ∧ Below w.heap.size w w' := by
  have R27 : Rd w (some ⟨gb, go, none⟩) (bs.take 27) := h.take 27
  have e27 : bs.drop 27 = ctL bs 27 4 := by unfold ctL; rw [List.take_of_length_le (by rw [List.length_drop]; omega)]
  have R4 := h.ctL 27 4 (by omega)
  rw [← e27] at R4
  have l27 : (bs.take 27).length = 27 := by rw [List.length_take]; omega
  have B := bin_ar4 (bs.drop 27) (smL (cmo 0#32 (bs.take 27))) (by rw [List.length_drop]; omega) (smL_len _)
  have S := (show Hid _ from fun c => csum_any R27 27 c l27 (by omega))
  have P := (show Hid _ from fun W => lput32_sum (w := W) (a := none) (bs := []) (.inl rfl) 0 0 rfl (by omega) (cmo 0#32 (bs.take 27)))
  have AT := arrayAt4
  have i4 : (27 : Int) ≤ (c : Int) := by omega
  have i5 : ¬ c = 27 := by omega
  unfold ar4 at B
  unfold smd
  go_enter Tryz.func49, Tryz.ntmps49
  go_wp2_with (first
    | (go_at_call 47; refine (S.out _).mono ?_; rintro e w1 ⟨rfl, hb1⟩)
    | (go_at_call 45; refine (P.out _).mono ?_; rintro e w2 ⟨v2, rfl, ho2, hb2⟩; rw [List.nil_append] at ho2; obtain ⟨g2, d2, rfl, hd2, hg2, x0, x1, x2, x3⟩ := ow4 ho2 (smL_len _); obtain ⟨c0, c1, c2, c3⟩ := rd4 ((R4.below hb1).below hb2) (by rw [List.length_drop]; omega); rw [Nat.add_assoc] at c1 c2 c3))
  clear S P R27 R4 l27 e27 ho2
  go_region
  go_wp2
  go_ret
  exact ⟨rfl, (bt hb1 hb2).drew⟩
end
end Go.Proofs.YtjobaeopokfekaaGreat
/-
  'fields', 'Parse'.
-/
namespace Go.Proofs.YtjobaeopokfekaaGreat
open Go.RowKit
/-- A label with its eight bytes alone. -/
def lb1 (B : List (BitVec 8)) : Lbl := ⟨fn B 0, fn B 1, fn B 2, fn B 3, fn B 4, fn B 5, fn B 6, fn B 7, 0, 0, 0, 0, 0⟩
def ar8 (B : List (BitVec 8)) : Array Value := #[.int .u8 (el (fn B 0)), .int .u8 (el (fn B 1)), .int .u8 (el (fn B 2)), .int .u8 (el (fn B 3)), .int .u8 (el (fn B 4)), .int .u8 (el (fn B 5)), .int .u8 (el (fn B 6)), .int .u8 (el (fn B 7))]
theorem run_bdL (B : List (BitVec 8)) (w : World) : (Instr.build 27 #[(0, .agg (ar8 B))]).run Tryz.prog w = .ok (.agg (lb1 B).cs) w := by kernel_rfl
theorem run_bd0 (w : World) : (Instr.build 27 #[]).run Tryz.prog w = .ok (.agg lb0.cs) w := by kernel_rfl
theorem wpList_bdL {w : World} {ops : Array Oper} {rest : List Oper} {o : Oper} {a : Act} {Q : Exit → Act → World → Prop} {B : List (BitVec 8)} (hgd : o.guard = none) (x : Operand) (ho : o.op = .build 27 #[(0, x)]) (hx : a.eval x = .agg (ar8 B))
    (k : wpList Tryz.prog ops Q rest (a.put o.dst (.agg (lb1 B).cs)) w) : wpList Tryz.prog ops Q (o :: rest) a w := by
  refine wpList_plain hgd fun K hK => ?_
  unfold Oper.wp execOp
  simp only [ho, List.map_toArray, List.map_cons, List.map_nil, hx, run_bdL, Sem.run_bind, Sem.run_pure, Result.andThen_ok]
  exact hK _ _ k
theorem wpList_bd0 {w : World} {ops : Array Oper} {rest : List Oper} {o : Oper} {a : Act} {Q : Exit → Act → World → Prop} (hgd : o.guard = none) (ho : o.op = .build 27 #[])
    (k : wpList Tryz.prog ops Q rest (a.put o.dst (.agg lb0.cs)) w) : wpList Tryz.prog ops Q (o :: rest) a w := by
  refine wpList_plain hgd fun K hK => ?_
  unfold Oper.wp execOp
  simp only [ho, List.map_toArray, List.map_nil, run_bd0, Sem.run_bind, Sem.run_pure, Result.andThen_ok]
  exact hK _ _ k
theorem arrayAtL (X : World) (a : Addr) (c : Nat) : (Instr.arrayAt 23 (.slice (some a) 8 c)).run Tryz.prog X = .ok (.pointer (some a)) X := by
  simp [Instr.arrayAt, run_underlying Tryz.underlying23]
theorem size8 : (Tryz.prog.info? 23).map (·.size) = some 8 := by kernel_rfl
theorem wpList_ld8 {w : World} {ops : Array Oper} {rest : List Oper} {o : Oper} {a : Act} {Q : Exit → Act → World → Prop} {B : List (BitVec 8)} (hgd : o.guard = none) (x : Operand) (ho : o.op = .load 23 x) (g of : Nat) (hx : a.eval x = .pointer (some ⟨g, of, none⟩)) (H : Rd w (some ⟨g, of, none⟩) B) (hB : B.length = 8)
    (k : wpList Tryz.prog ops Q rest (a.put o.dst (.agg (ar8 B))) w) : wpList Tryz.prog ops Q (o :: rest) a w := by
  have hr : (loadVar 23 ⟨g, of, none⟩).run Tryz.prog w = .ok (.agg (ar8 B)) w := by
    have hl : (loadCells ⟨g, of, none⟩ (ar8 B).toList.length).run Tryz.prog w = .ok (ar8 B).toList.toArray w :=
      run_loadCells_list (P := Tryz.prog) w ⟨g, of, none⟩ (ar8 B).toList (fun j v hv => by
        rw [add_pl]
        rcases H with e | ⟨b, o', e, hc⟩
        · subst e; cases hB
        · injection e with e
          injection e with e1 e2
          subst e1 e2
          have hj : j < 8 := (List.getElem?_eq_some_iff.1 hv).1
          rw [hc j (by omega)]
          rw [← hv]
          match j, hj with
          | 0, _ => rfl
          | 1, _ => rfl
          | 2, _ => rfl
          | 3, _ => rfl
          | 4, _ => rfl
          | 5, _ => rfl
          | 6, _ => rfl
          | 7, _ => rfl)
    have hi := size8
    cases hq : Tryz.prog.info? 23 with
    | none => simp [hq] at hi
    | some i =>
      have hs : i.size = (ar8 B).size := by simpa [hq, ar8] using hi
      have hagg : (isAgg 23).run Tryz.prog w = .ok true w := by
        unfold isAgg
        rw [Sem.run_bind, run_underlying Tryz.underlying23 w]
        rfl
      simp only [Array.length_toList, Array.toArray_toList] at hl
      simp [loadVar, Sem.run_bind, hagg, sizeOf, typeInfo, hq, hs, hl]
  refine wpList_plain hgd fun K hK => ?_
  unfold Oper.wp execOp
  simp only [ho, hx, Instr.loadAt, Instr.sureAddr, Sem.run_bind, Sem.run_pure, Result.andThen_ok, hr]
  exact hK _ _ k
theorem Rdr.setL {w : World} {r g i : Nat} {bs : List (BitVec 8)} {z : Int} (H : Rdr w r bs 0) (hne : g ≠ r) (hc : w.cell? ⟨g, i, none⟩ = some (.int .i64 z)) (u : Value) : Rdr (w.setCell ⟨g, i, none⟩ u) r bs 0 := by
  have hlt := H.lt
  obtain ⟨v, h1, hs, hv⟩ := H
  refine ⟨v, by rw [heap_setCell_other w ⟨g, i, none⟩ r u hne.symm]; exact h1, ?_, hv⟩
  rcases hs with hs | ⟨b, o, c, hv', hcc, hr⟩
  · exact .inl hs
  · refine .inr ⟨b, o, c, hv', hcc, fun j hj => ?_⟩
    rw [World.cell?_setCell_other (h := fun e => ?_)]
    · exact hr j hj
    · have := hr j hj
      rw [← e, hc] at this
      cases this
theorem Rd.belowT {w W : World} {gb go : Nat} {bs : List (BitVec 8)} (h : Rd w (some ⟨gb, go, none⟩) bs) (hb : Below w.heap.size w W) (a n : Nat) (hl : bs.length = 31) (hn : a + n ≤ 31 := by omega) : Rd W (some ⟨gb, go + a, none⟩) (Go.Proofs.YtjobaeopokfekaaGreat.ctL bs a n) := (h.ctL a n (by omega)).below hb
def nmL (b : List (BitVec 8)) (o n : Nat) : Nat := lv (((ctL b 12 15).drop o).take n)
theorem lnum8 {w : World} {r : Nat} {bs : List (BitVec 8)} (o p : Nat) (hp : o + 1 = p) (ho : p ≤ 15) (hl : (ctL bs 12 15).length = 15) (h : Rdr w r ((ctL bs 12 15).drop o) 0) :
    Calls Tryz.prog 69 #[.pointer (some ⟨r, 0, none⟩)] w fun e w' => e = .returned (.int .i64 (nmL bs o 1 : Int)) ∧ Rdr w' r ((ctL bs 12 15).drop p) 0 ∧ w.grownBy w' (some r) := by
  subst hp
  refine (lnumber8 h (by rw [List.length_drop, hl]; omega) (by rw [List.length_drop, hl]; omega)).mono ?_
  rw [List.drop_drop]
  exact fun _ _ h => h
theorem lnum32 {w : World} {r : Nat} {bs : List (BitVec 8)} (o p : Nat) (hp : o + 4 = p) (ho : p ≤ 15) (hl : (ctL bs 12 15).length = 15) (h : Rdr w r ((ctL bs 12 15).drop o) 0) :
    Calls Tryz.prog 70 #[.pointer (some ⟨r, 0, none⟩)] w fun e w' => e = .returned (.int .i64 (nmL bs o 4 : Int)) ∧ Rdr w' r ((ctL bs 12 15).drop p) 0 ∧ w.grownBy w' (some r) := by
  subst hp
  refine (lnumber32 h (by rw [List.length_drop, hl]; omega) (by rw [List.length_drop, hl]; omega)).mono ?_
  rw [List.drop_drop]
  exact fun _ _ h => h
theorem lnum64 {w : World} {r : Nat} {bs : List (BitVec 8)} (o p : Nat) (hp : o + 8 = p) (ho : p ≤ 15) (hl : (ctL bs 12 15).length = 15) (h : Rdr w r ((ctL bs 12 15).drop o) 0) :
    Calls Tryz.prog 71 #[.pointer (some ⟨r, 0, none⟩)] w fun e w' => e = .returned (.int .i64 (s64 (nmL bs o 8))) ∧ Rdr w' r ((ctL bs 12 15).drop p) 0 ∧ w.grownBy w' (some r) := by
  subst hp
  refine (lnumber64 h (by rw [List.length_drop, hl]; omega) (by rw [List.length_drop, hl]; omega)).mono ?_
  rw [List.drop_drop]
  exact fun _ _ h => h
theorem sizeLb' (h : Lbl) : (Tryz.prog.info? 27).map (·.size) = some h.cs.size := sizeLb
theorem rlb_read (b : List (BitVec 8)) (hn : b.length = 31) : { lb1 (ctL b 4 8) with k := nmL b 0 1, m := nmL b 1 1, b := nmL b 2 4, ix := nmL b 6 1, ep := s64 (nmL b 7 8) } = rlb b := by
  unfold nmL
  rw [List.drop_zero]
  have h : ∀ x : List (BitVec 8), x.length = 31 → ([fn (ctL x 4 8) 0, fn (ctL x 4 8) 1, fn (ctL x 4 8) 2, fn (ctL x 4 8) 3, fn (ctL x 4 8) 4, fn (ctL x 4 8) 5, fn (ctL x 4 8) 6, fn (ctL x 4 8) 7] = [x.getD 4 0#8, x.getD 5 0#8, x.getD 6 0#8, x.getD 7 0#8, x.getD 8 0#8, x.getD 9 0#8, x.getD 10 0#8, x.getD 11 0#8]
      ∧ (ctL x 12 15).take 1 = ctL x 12 1 ∧ ((ctL x 12 15).drop 1).take 1 = ctL x 13 1 ∧ ((ctL x 12 15).drop 2).take 4 = ctL x 14 4 ∧ ((ctL x 12 15).drop 6).take 1 = ctL x 18 1 ∧ ((ctL x 12 15).drop 7).take 8 = ctL x 19 8) := by
    intro x hx
    match x, hx with
    | [_, _, _, _, _, _, _, _, _, _, _, _, _, _, _, _, _, _, _, _, _, _, _, _, _, _, _, _, _, _, _], _ => exact ⟨rfl, rfl, rfl, rfl, rfl, rfl⟩
  obtain ⟨h0, h1, h2, h3, h4, h5⟩ := h b hn
  rw [h1, h2, h3, h4, h5]
  simp only [List.cons.injEq, and_true] at h0
  obtain ⟨a0, a1, a2, a3, a4, a5, a6, a7⟩ := h0
  unfold lb1 rlb
  rw [a0, a1, a2, a3, a4, a5, a6, a7]
section
attribute [local irreducible] Calls el Lbl.cs cmo rg smL ar8
set_option maxHeartbeats 4000000 in
set_option maxRecDepth 1000000 in
theorem lfields_any {w : World} {gb go : Nat} {bs : List (BitVec 8)} (h : Rd w (some ⟨gb, go, none⟩) bs) (c : Nat) (hl : bs.length = 31) (hc : 31 ≤ c) :
    Calls Tryz.prog 50 #[.slice (some ⟨gb, go, none⟩) 31 c] w fun e w' => e = .returned (.agg (rlb bs).cs) ∧ Below w.heap.size w w' := by
  have R8 := h.ctL 4 8 (by omega)
  have l8 : (ctL bs 4 8).length = 8 := ctL_len _ _ _ (by omega)
  have R15 := h.ctL 12 15 (by omega)
  have l15 : (ctL bs 12 15).length = 15 := ctL_len _ _ _ (by omega)
  have AT := arrayAtL
  have i4 : (12 : Int) ≤ (c : Int) := by omega
  have i5 : ¬ c = 4 := by omega
  have i6 : (27 : Int) ≤ (c : Int) := by omega
  have i7 : ¬ c = 12 := by omega
  go_enter Tryz.func50, Tryz.ntmps50
  go_wp2_with (first
    | (revert ZA; intro ZA; refine wpList_alLb rfl rfl ?_; intro wB ZB hbB hsB; clear hsB; replace ZA := ZA.below hbB; have hbW := bt hbA hbB)
    | (refine wpList_alLb rfl rfl ?_; intro wA ZA hbA hsA; have hw0 := (show Hid (w.heap.size < wA.heap.size) from by show _ < _; omega); clear hsA)
    | (refine wpList_ld8 (B := ctL bs 4 8) rfl _ rfl gb (go + 4) rfl (R8.below hbA) l8 ?_)
    | (refine wpList_bdL (B := ctL bs 4 8) rfl _ rfl rfl ?_)
    | (revert ZB; intro ZB; refine wpList_storeLb rfl _ _ rfl rfl wA.heap.size rfl rfl ZB ?_; intro wC ZC hTC; replace ZA := ZA.turned (Nat.ne_of_lt hw0.out) hTC; clear ZB; have ZB := ZC; replace hbW := hTC.2.1 _ _ hbW (Nat.le_of_lt hw0.out))
    | (go_at_call 68; have s0 : Hid (0 = 0) := rfl; refine (open_any (h.belowT hbW 12 15 hl) 15 _ l15 (by omega)).mono ?_; rintro e w2 ⟨r, rfl, hr, hRr0, hb2⟩; have hRr : Rdr w2 r ((ctL bs 12 15).drop 0) 0 := hRr0; clear hRr0; have hr0 := (show Hid (w.heap.size < r) from by show _ < _; have := ZA.lt; omega); have hr1 := (show Hid (wA.heap.size < r) from by show _ < _; have := ZB.lt; omega); replace ZA := ZA.below hb2; replace ZB := ZB.below hb2; replace hbW := bt hbW hb2)
    | (go_at_call 69; clear s0; have s1 : Hid (0 = 0) := rfl; refine (lnum8 0 1 rfl (by decide) l15 hRr).mono ?_; rintro e w3 ⟨rfl, hR3, hg3⟩; replace ZA := ZA.kept (Nat.ne_of_lt hr0.out) hg3; replace ZB := ZB.kept (Nat.ne_of_lt hr1.out) hg3; replace hbW := hbW.grown hg3 hbW.size (fun k hk => by injection hk with hk; have := hr0.out; omega); clear hRr; have cc := (LbAt.cells ZB).1; have fz := frozen_of_row w3 wA.heap.size 8 _ _ ZB; have hRr := Rdr.setL hR3 (Nat.ne_of_lt hr1.out) cc (.int .i64 (((nmL bs 0 1 : Nat) : Int))); replace ZB := LbAt.setk ZB (((nmL bs 0 1 : Nat) : Int)); replace ZA := ZA.other ⟨wA.heap.size, 8, none⟩ (.int .i64 (((nmL bs 0 1 : Nat) : Int))) (Nat.ne_of_lt hw0.out); replace hbW := hbW.setCell (show w.heap.size ≤ (⟨wA.heap.size, 8, none⟩ : Addr).block from Nat.le_of_lt hw0.out) (.int .i64 (((nmL bs 0 1 : Nat) : Int))))
    | (go_at_call 69; clear s1; have s2 : Hid (0 = 0) := rfl; refine (lnum8 1 2 rfl (by decide) l15 hRr).mono ?_; rintro e w3 ⟨rfl, hR3, hg3⟩; replace ZA := ZA.kept (Nat.ne_of_lt hr0.out) hg3; replace ZB := ZB.kept (Nat.ne_of_lt hr1.out) hg3; replace hbW := hbW.grown hg3 hbW.size (fun k hk => by injection hk with hk; have := hr0.out; omega); clear hRr; have cc := (LbAt.cells ZB).2.1; have fz := frozen_of_row w3 wA.heap.size 9 _ _ ZB; have hRr := Rdr.setL hR3 (Nat.ne_of_lt hr1.out) cc (.int .i64 (((nmL bs 1 1 : Nat) : Int))); replace ZB := LbAt.setm ZB (((nmL bs 1 1 : Nat) : Int)); replace ZA := ZA.other ⟨wA.heap.size, 9, none⟩ (.int .i64 (((nmL bs 1 1 : Nat) : Int))) (Nat.ne_of_lt hw0.out); replace hbW := hbW.setCell (show w.heap.size ≤ (⟨wA.heap.size, 9, none⟩ : Addr).block from Nat.le_of_lt hw0.out) (.int .i64 (((nmL bs 1 1 : Nat) : Int))))
    | (go_at_call 70; clear s2; have s3 : Hid (0 = 0) := rfl; refine (lnum32 2 6 rfl (by decide) l15 hRr).mono ?_; rintro e w3 ⟨rfl, hR3, hg3⟩; replace ZA := ZA.kept (Nat.ne_of_lt hr0.out) hg3; replace ZB := ZB.kept (Nat.ne_of_lt hr1.out) hg3; replace hbW := hbW.grown hg3 hbW.size (fun k hk => by injection hk with hk; have := hr0.out; omega); clear hRr; have cc := (LbAt.cells ZB).2.2.1; have fz := frozen_of_row w3 wA.heap.size 10 _ _ ZB; have hRr := Rdr.setL hR3 (Nat.ne_of_lt hr1.out) cc (.int .i64 (((nmL bs 2 4 : Nat) : Int))); replace ZB := LbAt.setb ZB (((nmL bs 2 4 : Nat) : Int)); replace ZA := ZA.other ⟨wA.heap.size, 10, none⟩ (.int .i64 (((nmL bs 2 4 : Nat) : Int))) (Nat.ne_of_lt hw0.out); replace hbW := hbW.setCell (show w.heap.size ≤ (⟨wA.heap.size, 10, none⟩ : Addr).block from Nat.le_of_lt hw0.out) (.int .i64 (((nmL bs 2 4 : Nat) : Int))))
    | (go_at_call 69; clear s3; have s4 : Hid (0 = 0) := rfl; refine (lnum8 6 7 rfl (by decide) l15 hRr).mono ?_; rintro e w3 ⟨rfl, hR3, hg3⟩; replace ZA := ZA.kept (Nat.ne_of_lt hr0.out) hg3; replace ZB := ZB.kept (Nat.ne_of_lt hr1.out) hg3; replace hbW := hbW.grown hg3 hbW.size (fun k hk => by injection hk with hk; have := hr0.out; omega); clear hRr; have cc := (LbAt.cells ZB).2.2.2.1; have fz := frozen_of_row w3 wA.heap.size 11 _ _ ZB; have hRr := Rdr.setL hR3 (Nat.ne_of_lt hr1.out) cc (.int .i64 (((nmL bs 6 1 : Nat) : Int))); replace ZB := LbAt.setix ZB (((nmL bs 6 1 : Nat) : Int)); replace ZA := ZA.other ⟨wA.heap.size, 11, none⟩ (.int .i64 (((nmL bs 6 1 : Nat) : Int))) (Nat.ne_of_lt hw0.out); replace hbW := hbW.setCell (show w.heap.size ≤ (⟨wA.heap.size, 11, none⟩ : Addr).block from Nat.le_of_lt hw0.out) (.int .i64 (((nmL bs 6 1 : Nat) : Int))))
    | (go_at_call 71; clear s4; have s5 : Hid (0 = 0) := rfl; refine (lnum64 7 15 rfl (by decide) l15 hRr).mono ?_; rintro e w3 ⟨rfl, hR3, hg3⟩; replace ZA := ZA.kept (Nat.ne_of_lt hr0.out) hg3; replace ZB := ZB.kept (Nat.ne_of_lt hr1.out) hg3; replace hbW := hbW.grown hg3 hbW.size (fun k hk => by injection hk with hk; have := hr0.out; omega); clear hRr; have cc := (LbAt.cells ZB).2.2.2.2; have fz := frozen_of_row w3 wA.heap.size 12 _ _ ZB; have hRr := Rdr.setL hR3 (Nat.ne_of_lt hr1.out) cc (.int .i64 (s64 (nmL bs 7 8 : Nat))); replace ZB := LbAt.setep ZB (s64 (nmL bs 7 8 : Nat)); replace ZA := ZA.other ⟨wA.heap.size, 12, none⟩ (.int .i64 (s64 (nmL bs 7 8 : Nat))) (Nat.ne_of_lt hw0.out); replace hbW := hbW.setCell (show w.heap.size ≤ (⟨wA.heap.size, 12, none⟩ : Addr).block from Nat.le_of_lt hw0.out) (.int .i64 (s64 (nmL bs 7 8 : Nat))))
    | (revert hRr; intro hRr; refine wpList_loadLb rfl _ rfl wA.heap.size rfl ZB ?_)
    | (revert hRr; intro hRr; refine wpList_storeLb rfl _ _ rfl rfl w.heap.size rfl rfl ZA ?_; intro wD ZD hTD; replace hbW := hTD.2.1 _ _ hbW (Nat.le_refl _)))
  rw [rlb_read bs hl] at ZD
  refine bodyPost_ret (v := .agg (rlb bs).cs) ?_ rfl ⟨rfl, hbW⟩
  unfold LbAt at ZD
  exact results_cell_row rfl _ _ w.heap.size 27 (rlb bs).cs (0, 0) _ (by kernel_rfl) ZD Tryz.underlying27 rfl (sizeLb' _)
end
end Go.Proofs.YtjobaeopokfekaaGreat
/-
  'Parse'.
-/
namespace Go.Proofs.YtjobaeopokfekaaGreat
open Go.RowKit
theorem lv_i64 (xs : List (BitVec 8)) (n : Nat) (hn : n ≤ 4) (h : xs.length ≤ n) : I64 (lv xs : Int) := by
  have h1 := lvb 4 xs (Nat.le_trans h hn)
  have p4 : 256 ^ 4 = 4294967296 := rfl
  unfold I64; omega
theorem rlb_in (b : List (BitVec 8)) (hn : b.length = 31) : (rlb b).In := by
  refine ⟨lv_i64 _ 1 (by omega) (Nat.le_of_eq (ctL_len _ _ _ (by omega))), lv_i64 _ 1 (by omega) (Nat.le_of_eq (ctL_len _ _ _ (by omega))), lv_i64 _ 4 (by omega) (Nat.le_of_eq (ctL_len _ _ _ (by omega))), lv_i64 _ 1 (by omega) (Nat.le_of_eq (ctL_len _ _ _ (by omega))), ?_⟩
  have h1 := lvb 8 (ctL b 19 8) (Nat.le_of_eq (ctL_len _ _ _ (by omega)))
  have p8 : 256 ^ 8 = 18446744073709551616 := rfl
  show I64 (s64 (lv (ctL b 19 8)))
  unfold I64 s64; split <;> omega
section
attribute [local irreducible] Calls el Lbl.cs cmo rg smL ar8
set_option maxHeartbeats 4000000 in
set_option maxRecDepth 1000000 in
theorem lparse_len {w : World} (p : Option Addr) (n c : Nat) (hn : n ≠ 31) :
    Calls Tryz.prog 22 #[.slice p n c] w fun e w' => e = .returned (.tuple #[.agg lb0.cs, .int .i64 150]) ∧ Below w.heap.size w w' := by
  have hi : ¬ ((n : Int) = 31) := by omega
  have hi' : ((n : Int) == 31) = false := by simpa using hi
  go_enter Tryz.func22, Tryz.ntmps22
  go_wp2_with (first
    | (refine wpList_alLb rfl rfl ?_; intro wA ZA hbA hsA; clear hsA)
    | (refine wpList_bd0 rfl rfl ?_)
    | (refine wpList_storeLb rfl _ _ rfl rfl w.heap.size rfl rfl ZA ?_; intro wC ZC hTC; replace hbA := hTC.2.1 _ _ hbA (Nat.le_refl _)))
  exact bodyPost_ret (res_lb rfl _ _ w.heap.size lb0 (.int .i64 150) rfl rfl ZC) rfl ⟨rfl, hbA⟩
set_option maxHeartbeats 4000000 in
set_option maxRecDepth 1000000 in
theorem lparse_31 {w : World} {gb go : Nat} {bs : List (BitVec 8)} (h : Rd w (some ⟨gb, go, none⟩) bs) (c : Nat) (hl : bs.length = 31) (hc : 31 ≤ c) :
    Calls Tryz.prog 22 #[.slice (some ⟨gb, go, none⟩) 31 c] w fun e w' => e = .returned (.tuple #[.agg (pL bs).2.cs, .int .i64 (pL bs).1]) ∧ Below w.heap.size w w' := by
  have MK := (show Hid _ from fun (W : World) (hb : Below w.heap.size w W) => lmarked_any (h.below hb) c hl hc)
  have SM := (show Hid _ from fun (W : World) (hb : Below w.heap.size w W) => lsummed_any (h.below hb) c hl hc)
  have FI := (show Hid _ from fun (W : World) (hb : Below w.heap.size w W) => lfields_any (h.below hb) c hl hc)
  have CK := (show Hid _ from fun w => lcheck_any (rlb bs) (rlb_in bs hl) w)
  unfold pL
  rw [if_pos hl]
  by_cases h1 : mrk bs = true
  · rw [h1] at MK
    rw [if_pos h1]
    by_cases h2 : smd bs = true
    · rw [h2] at SM
      rw [if_pos h2]
      by_cases h3 : (rlb bs).ck = 0
      · rw [if_pos h3]
        rw [h3] at CK
        go_enter Tryz.func22, Tryz.ntmps22
        go_wp2_with (first
          | (revert F4; intro F4; refine wpList_alLb rfl rfl ?_; intro wB ZB hbB hsB; clear hsB; have hg0 := (show Hid (w.heap.size < w4.heap.size) from by show _ < _; exact ZA.lt); replace ZA := ZA.below hbB; replace hbA := bt hbA hbB)
          | (refine wpList_alLb rfl rfl ?_; intro wA ZA hbA hsA; clear hsA)
          | (go_at_call 48; refine (MK.out _ hbA).mono ?_; rintro e w2 ⟨rfl, hb2⟩; replace ZA := ZA.below hb2; replace hbA := bt hbA hb2)
          | (go_at_call 49; refine (SM.out _ hbA).mono ?_; rintro e w3 ⟨rfl, hb3⟩; replace ZA := ZA.below hb3; replace hbA := bt hbA hb3)
          | (go_at_call 50; refine (FI.out _ hbA).mono ?_; rintro e w4 ⟨rfl, hb4⟩; replace ZA := ZA.below hb4; replace hbA := bt hbA hb4; have F4 : Hid (0 = 0) := rfl)
          | (refine wpList_storeLb rfl _ _ rfl rfl w4.heap.size rfl rfl ZB ?_; intro wC ZC hTC; replace ZA := ZA.turned (Nat.ne_of_lt hg0.out) hTC; replace hbA := hTC.2.1 _ _ hbA (Nat.le_of_lt hg0.out); clear ZB)
          | (refine wpList_loadLb rfl _ rfl w4.heap.size rfl ZC ?_)
          | (go_at_call 43; refine (CK.out _).mono ?_; rintro e w5 ⟨rfl, hb5⟩; replace ZA := ZA.below hb5; replace ZC := ZC.below hb5; replace hbA := bt hbA hb5)
          | (refine wpList_storeLb rfl _ _ rfl rfl w.heap.size rfl rfl ZA ?_; intro wD ZD hTD; replace hbA := hTD.2.1 _ _ hbA (Nat.le_refl _)))
        exact bodyPost_ret (res_lb rfl _ _ w.heap.size (rlb bs) (.int .i64 0) rfl rfl ZD) rfl ⟨rfl, hbA⟩
      · rw [if_neg h3]
        generalize (rlb bs).ck = z at h3 CK ⊢
        go_enter Tryz.func22, Tryz.ntmps22
        go_wp2_with (first
          | (revert F4; intro F4; refine wpList_alLb rfl rfl ?_; intro wB ZB hbB hsB; clear hsB; have hg0 := (show Hid (w.heap.size < w4.heap.size) from by show _ < _; exact ZA.lt); replace ZA := ZA.below hbB; replace hbA := bt hbA hbB)
          | (refine wpList_alLb rfl rfl ?_; intro wA ZA hbA hsA; clear hsA)
          | (go_at_call 48; refine (MK.out _ hbA).mono ?_; rintro e w2 ⟨rfl, hb2⟩; replace ZA := ZA.below hb2; replace hbA := bt hbA hb2)
          | (go_at_call 49; refine (SM.out _ hbA).mono ?_; rintro e w3 ⟨rfl, hb3⟩; replace ZA := ZA.below hb3; replace hbA := bt hbA hb3)
          | (go_at_call 50; refine (FI.out _ hbA).mono ?_; rintro e w4 ⟨rfl, hb4⟩; replace ZA := ZA.below hb4; replace hbA := bt hbA hb4; have F4 : Hid (0 = 0) := rfl)
          | (refine wpList_storeLb rfl _ _ rfl rfl w4.heap.size rfl rfl ZB ?_; intro wC ZC hTC; replace ZA := ZA.turned (Nat.ne_of_lt hg0.out) hTC; replace hbA := hTC.2.1 _ _ hbA (Nat.le_of_lt hg0.out); clear ZB)
          | (refine wpList_loadLb rfl _ rfl w4.heap.size rfl ZC ?_)
          | (go_at_call 43; refine (CK.out _).mono ?_; rintro e w5 ⟨rfl, hb5⟩; replace ZA := ZA.below hb5; replace ZC := ZC.below hb5; replace hbA := bt hbA hb5)
          | (refine wpList_bd0 rfl rfl ?_)
          | (refine wpList_storeLb rfl _ _ rfl rfl w.heap.size rfl rfl ZA ?_; intro wD ZD hTD; replace hbA := hTD.2.1 _ _ hbA (Nat.le_refl _)))
        exact bodyPost_ret (res_lb rfl _ _ w.heap.size lb0 (.int .i64 150) rfl rfl ZD) rfl ⟨rfl, hbA⟩
    · rw [if_neg h2]
      have h2' : smd bs = false := by simpa using h2
      rw [h2'] at SM
      go_enter Tryz.func22, Tryz.ntmps22
      go_wp2_with (first
        | (refine wpList_alLb rfl rfl ?_; intro wA ZA hbA hsA; clear hsA)
        | (go_at_call 48; refine (MK.out _ hbA).mono ?_; rintro e w2 ⟨rfl, hb2⟩; replace ZA := ZA.below hb2; replace hbA := bt hbA hb2)
        | (go_at_call 49; refine (SM.out _ hbA).mono ?_; rintro e w3 ⟨rfl, hb3⟩; replace ZA := ZA.below hb3; replace hbA := bt hbA hb3)
        | (refine wpList_bd0 rfl rfl ?_)
        | (refine wpList_storeLb rfl _ _ rfl rfl w.heap.size rfl rfl ZA ?_; intro wD ZD hTD; replace hbA := hTD.2.1 _ _ hbA (Nat.le_refl _)))
      exact bodyPost_ret (res_lb rfl _ _ w.heap.size lb0 (.int .i64 150) rfl rfl ZD) rfl ⟨rfl, hbA⟩
  · rw [if_neg h1]
    have h1' : mrk bs = false := by simpa using h1
    rw [h1'] at MK
    go_enter Tryz.func22, Tryz.ntmps22
    go_wp2_with (first
      | (refine wpList_alLb rfl rfl ?_; intro wA ZA hbA hsA; clear hsA)
      | (go_at_call 48; refine (MK.out _ hbA).mono ?_; rintro e w2 ⟨rfl, hb2⟩; replace ZA := ZA.below hb2; replace hbA := bt hbA hb2)
      | (refine wpList_bd0 rfl rfl ?_)
      | (refine wpList_storeLb rfl _ _ rfl rfl w.heap.size rfl rfl ZA ?_; intro wD ZD hTD; replace hbA := hTD.2.1 _ _ hbA (Nat.le_refl _)))
    exact bodyPost_ret (res_lb rfl _ _ w.heap.size lb0 (.int .i64 150) rfl rfl ZD) rfl ⟨rfl, hbA⟩
theorem lparse_any {w : World} {p : Option Addr} {bs : List (BitVec 8)} (h : Rd w p bs) (n c : Nat) (hl : bs.length = n) (hc : n ≤ c) :
    Calls Tryz.prog 22 #[.slice p n c] w fun e w' => e = .returned (.tuple #[.agg (pL bs).2.cs, .int .i64 (pL bs).1]) ∧ Below w.heap.size w w' := by
  by_cases h31 : n = 31
  · subst h31
    rcases h with e | ⟨gb, go, e, hcc⟩
    · subst e; cases hl
    · subst e
      exact lparse_31 (.inr ⟨gb, go, rfl, hcc⟩) c hl hc
  · have e : pL bs = (150, lb0) := by unfold pL; rw [if_neg (by omega)]
    rw [e]
    exact lparse_len p n c h31
end
end Go.Proofs.YtjobaeopokfekaaGreat
