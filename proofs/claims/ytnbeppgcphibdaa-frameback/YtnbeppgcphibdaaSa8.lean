/-
  Heads compared.
-/
import Derived.Test.YtnbeppgcphibdaaPz8
import Derived.Laws.StructEq
import Derived.Deep.RegionHeld3
namespace Go.Proofs.Ytnbeppgcphibdaa
open Go.RowKit
theorem el_beq8 (a b : BitVec 8) : (el a == el b) = decide (a = b) := by
  by_cases h : a = b
  · subst h; simp
  · rw [decide_eq_false h]
    have : el a ≠ el b := fun e => h (by unfold el at e; exact BitVec.eq_of_toNat_eq (by omega))
    simp [this]
theorem pt0 (x : Nat → Int) (w : World) : (part 5 #[.int .u8 (x 0), .int .u8 (x 1), .int .u8 (x 2), .int .u8 (x 3), .int .u8 (x 4), .int .u8 (x 5), .int .u8 (x 6), .int .u8 (x 7)] 0).run Try.prog w = .ok (.int .u8 (x 0)) w := by kernel_rfl
theorem pt1 (x : Nat → Int) (w : World) : (part 5 #[.int .u8 (x 0), .int .u8 (x 1), .int .u8 (x 2), .int .u8 (x 3), .int .u8 (x 4), .int .u8 (x 5), .int .u8 (x 6), .int .u8 (x 7)] 1).run Try.prog w = .ok (.int .u8 (x 1)) w := by kernel_rfl
theorem pt2 (x : Nat → Int) (w : World) : (part 5 #[.int .u8 (x 0), .int .u8 (x 1), .int .u8 (x 2), .int .u8 (x 3), .int .u8 (x 4), .int .u8 (x 5), .int .u8 (x 6), .int .u8 (x 7)] 2).run Try.prog w = .ok (.int .u8 (x 2)) w := by kernel_rfl
theorem pt3 (x : Nat → Int) (w : World) : (part 5 #[.int .u8 (x 0), .int .u8 (x 1), .int .u8 (x 2), .int .u8 (x 3), .int .u8 (x 4), .int .u8 (x 5), .int .u8 (x 6), .int .u8 (x 7)] 3).run Try.prog w = .ok (.int .u8 (x 3)) w := by kernel_rfl
theorem pt4 (x : Nat → Int) (w : World) : (part 5 #[.int .u8 (x 0), .int .u8 (x 1), .int .u8 (x 2), .int .u8 (x 3), .int .u8 (x 4), .int .u8 (x 5), .int .u8 (x 6), .int .u8 (x 7)] 4).run Try.prog w = .ok (.int .u8 (x 4)) w := by kernel_rfl
theorem pt5 (x : Nat → Int) (w : World) : (part 5 #[.int .u8 (x 0), .int .u8 (x 1), .int .u8 (x 2), .int .u8 (x 3), .int .u8 (x 4), .int .u8 (x 5), .int .u8 (x 6), .int .u8 (x 7)] 5).run Try.prog w = .ok (.int .u8 (x 5)) w := by kernel_rfl
theorem pt6 (x : Nat → Int) (w : World) : (part 5 #[.int .u8 (x 0), .int .u8 (x 1), .int .u8 (x 2), .int .u8 (x 3), .int .u8 (x 4), .int .u8 (x 5), .int .u8 (x 6), .int .u8 (x 7)] 6).run Try.prog w = .ok (.int .u8 (x 6)) w := by kernel_rfl
theorem pt7 (x : Nat → Int) (w : World) : (part 5 #[.int .u8 (x 0), .int .u8 (x 1), .int .u8 (x 2), .int .u8 (x 3), .int .u8 (x 4), .int .u8 (x 5), .int .u8 (x 6), .int .u8 (x 7)] 7).run Try.prog w = .ok (.int .u8 (x 7)) w := by kernel_rfl
set_option maxRecDepth 100000 in
theorem eq_arr (x y : Nat → Int) (w : World) : (Op.equalIn 9999 22 (.agg #[.int .u8 (x 0), .int .u8 (x 1), .int .u8 (x 2), .int .u8 (x 3), .int .u8 (x 4), .int .u8 (x 5), .int .u8 (x 6), .int .u8 (x 7)]) (.agg #[.int .u8 (y 0), .int .u8 (y 1), .int .u8 (y 2), .int .u8 (y 3), .int .u8 (y 4), .int .u8 (y 5), .int .u8 (y 6), .int .u8 (y 7)])).run Try.prog w = .ok (x 0 == y 0 && (x 1 == y 1 && (x 2 == y 2 && (x 3 == y 3 && (x 4 == y 4 && (x 5 == y 5 && (x 6 == y 6 && x 7 == y 7))))))) w := by
  obtain ⟨i0, hi, hz0, hz1, hz2⟩ := info_parts info5
  have ei : ∀ (a b : Int) (w : World), (Op.equalIn 9998 5 (.int .u8 a) (.int .u8 b)).run Try.prog w = .ok (a == b) w := fun a b w => run_equalIn_int w 9997 5 .u8 .u8 a b Try.underlying5
  rw [Op.equalIn]
  simp only [Sem.run_bind, run_underlying Try.underlying22, Result.andThen_ok, sizeOf, typeInfo, run_program, hi]
  simp [List.range', hz1, pt0, pt1, pt2, pt3, pt4, pt5, pt6, pt7, ei]
  repeat' split
  all_goals simp [*]
def b8 (h : Hd) (i : Nat) : Int := el (h.st.getD i 0#8)
theorem st_eq (h g : Hd) : (b8 h 0 == b8 g 0 && (b8 h 1 == b8 g 1 && (b8 h 2 == b8 g 2 && (b8 h 3 == b8 g 3 && (b8 h 4 == b8 g 4 && (b8 h 5 == b8 g 5 && (b8 h 6 == b8 g 6 && b8 h 7 == b8 g 7))))))) = decide (h.st = g.st) := by
  unfold b8
  simp only [el_beq8]
  rw [Bool.eq_iff_iff]
  simp only [Bool.and_eq_true, decide_eq_true_eq]
  unfold Hd.st
  simp
def hq (h g : Hd) : Bool := decide (h.st = g.st) && (decide (h.k = g.k) && (decide (h.m = g.m) && (decide (h.b = g.b) && (decide (h.key = g.key) && (decide (h.sz = g.sz) && (decide (h.ix = g.ix) && (decide (h.ep = g.ep) && decide (h.ct = g.ct))))))))
theorem hq_iff (h g : Hd) : hq h g = true ↔ h = g := by
  unfold hq
  simp only [Bool.and_eq_true, decide_eq_true_eq]
  constructor
  · obtain ⟨⟩ := h
    obtain ⟨⟩ := g
    unfold Hd.st
    simp only [List.cons.injEq, Hd.mk.injEq]
    rintro ⟨⟨h0, h1, h2, h3, h4, h5, h6, h7, _⟩, hk, hm, hb, hy, hs, hi, he, hc⟩
    exact ⟨h0, h1, h2, h3, h4, h5, h6, h7, hk, hm, hb, hy, hs, hi, he, hc⟩
  · rintro rfl; simp
set_option maxHeartbeats 4000000 in
set_option maxRecDepth 100000 in
theorem eq_head (h g : Hd) (w : World) : (Op.equalIn 10000 28 (.agg h.cs) (.agg g.cs)).run Try.prog w = .ok (hq h g) w := by
  have ea : (Op.equalIn 9999 22 (.agg #[.int .u8 (el h.a0), .int .u8 (el h.a1), .int .u8 (el h.a2), .int .u8 (el h.a3), .int .u8 (el h.a4), .int .u8 (el h.a5), .int .u8 (el h.a6), .int .u8 (el h.a7)]) (.agg #[.int .u8 (el g.a0), .int .u8 (el g.a1), .int .u8 (el g.a2), .int .u8 (el g.a3), .int .u8 (el g.a4), .int .u8 (el g.a5), .int .u8 (el g.a6), .int .u8 (el g.a7)])).run Try.prog w = .ok (decide (h.st = g.st)) w := by
    rw [← st_eq]; exact eq_arr (b8 h) (b8 g) w
  have eb := bstr_beq h.key g.key
  unfold Hd.cs
  go_simp
  repeat' split
  all_goals simp [hq, *]
theorem neq_head (h g : Hd) (w : World) : (binOp .neq 28 (.agg h.cs) (.agg g.cs)).run Try.prog w = .ok (.bool (!hq h g)) w := by
  rw [run_neq_struct, eq_head]; rfl
theorem eql_head (h g : Hd) (w : World) : (binOp .eql 28 (.agg h.cs) (.agg g.cs)).run Try.prog w = .ok (.bool (hq h g)) w := by
  rw [run_eql_struct, eq_head]; rfl
end Go.Proofs.Ytnbeppgcphibdaa
/-
  'Same'.
-/
namespace Go.Proofs.Ytnbeppgcphibdaa
open Go.RowKit
theorem take_eq8 {α : Type} (d : α) (a b : List α) (i : Nat) (ha : i < a.length) (hb : i < b.length) (h : a.take i = b.take i) (e : a.getD i d = b.getD i d) : a.take (i + 1) = b.take (i + 1) := by
  rw [List.take_add_one, List.take_add_one, h]
  simp only [List.getD, List.getElem?_eq_getElem ha, List.getElem?_eq_getElem hb, Option.getD_some] at e
  rw [List.getElem?_eq_getElem ha, List.getElem?_eq_getElem hb, e]
section
attribute [local irreducible] Calls el Hd.cs Hd.sh cmo rg sm bsm
set_option maxHeartbeats 4000000 in
set_option maxRecDepth 1000000 in
theorem same_any (h g : Hd) {w : World} {p q : Option Addr} {xs ys : List (List (BitVec 8))} (hx : Rws w p xs) (hy : Rws w q ys) (n c m d : Nat) (hn : xs.length = n) (hm : ys.length = m) (hl : n ≤ 1099511627776) :
    Calls Try.prog 11 #[.agg (h.sh (.slice p n c)), .agg (g.sh (.slice q m d))] w fun e w' => e = .returned (.bool (hq h g && decide (xs = ys))) ∧ Below w.heap.size w w' := by
  have al : ∀ (W : World) (o : Obj), Below W.heap.size W (W.alloc o) := fun W o => (Below.refl _ _).alloc (Nat.le_refl _) o
  have H1 := (shIn_new w h (.slice p n c)).below (al _ (.cells (g.sh (.slice q m d)) 31))
  have H2 := shIn_new (w.alloc (.cells (h.sh (.slice p n c)) 31)) g (.slice q m d)
  have v1 := cell_below (shV_new w h (.slice p n c)) (al _ (.cells (g.sh (.slice q m d)) 31))
  have v2 := shV_new (w.alloc (.cells (h.sh (.slice p n c)) 31)) g (.slice q m d)
  rw [World.size_alloc] at H2 v2
  have nh := fun W => neq_head h g W
  have hbw := bt (al w (.cells (h.sh (.slice p n c)) 31)) (al _ (.cells (g.sh (.slice q m d)) 31))
  cases hh : hq h g with
  | false =>
    rw [hh] at nh
    go_enter Try.func11, Try.ntmps11
    go_wp2_with (first
    | (refine wpList_loadIn rfl _ rfl w.heap.size rfl H1 ?_)
    | (refine wpList_loadIn rfl _ rfl (w.heap.size + 1) rfl H2 ?_))
    go_ret
    exact ⟨rfl, hbw⟩
  | true =>
    rw [hh] at nh
    by_cases hnm : n = m
    · subst hnm
      have i0 : ((n : Int) != (n : Int)) = false := by simp
      go_enter Try.func11, Try.ntmps11
      go_wp2_with (first
    | (refine wpList_loadIn rfl _ rfl w.heap.size rfl H1 ?_)
    | (refine wpList_loadIn rfl _ rfl (w.heap.size + 1) rfl H2 ?_))
      clear nh H1 H2
      have HV1 := (show Hid _ from v1)
      have HV2 := (show Hid _ from v2)
      clear v1 v2
      go_loopw [5] (fun i wr => ∃ t : Nat, t ≤ n ∧ i = .int .i64 (t : Int) ∧ Hid (xs.take t = ys.take t) ∧ Below ((w.alloc (.cells (h.sh (.slice p n c)) 31)).alloc (.cells (g.sh (.slice q n d)) 31)).heap.size ((w.alloc (.cells (h.sh (.slice p n c)) 31)).alloc (.cells (g.sh (.slice q n d)) 31)) wr) (fun i _ => n - (intOf i).toNat)
      case atStart => exact ⟨0, Nat.zero_le _, rfl, rfl, Below.refl _ _⟩
      case round =>
        obtain ⟨t, ht, rfl, heq, hbr⟩ := hrel
        have hbwr := (show Hid (Below w.heap.size w wr) from hbw.trans (hbr.mono hbw.size))
        have v1 := cell_below HV1.out hbr
        by_cases hlt : t < n
        · obtain ⟨b1, o1, q1, c1, rfl, hc1, hl1, hr1⟩ := hx.row t (by omega)
          obtain ⟨b2, o2, q2, c2, rfl, hc2, hl2, hr2⟩ := hy.row t (by omega)
          have hi : (t : Int) < (n : Int) := by omega
          have hst : xs.getD t [] = ys.getD t [] → xs.take (t + 1) = ys.take (t + 1) := take_eq8 [] xs ys t (by omega) (by omega) heq.out
          have hne : ¬ xs.getD t [] = ys.getD t [] → ¬ xs = ys := fun h e => h (by rw [e])
          generalize xs.getD t [] = x at hc1 hl1 hr1 hst hne
          generalize ys.getD t [] = y at hc2 hl2 hr2 hst hne
          have v2 := cell_below HV2.out hbr
          have g1 := cell_below hc1 hbwr.out
          have g2 := cell_below hc2 hbwr.out
          have hdr : Below w.heap.size w wr.drew := hbwr.out.drew
          have hdr2 := hbr.drew
          have KS := (show Hid (_ ∧ _ ∧ _ ∧ _ ∧ _ ∧ _) from ⟨cell_below HV1.out hdr2, cell_below HV2.out hdr2, cell_below hc1 hdr, cell_below hc2 hdr, conv_rd (hr1.below hdr) x.length c1 rfl, conv_rd (hr2.below hdr) y.length c2 rfl⟩)
          have eq := bstr_beq x y
          clear hdr hdr2 hc1 hc2 hr1 hr2
          by_cases hxy : x = y
          · have HST := (show Hid _ from hst hxy)
            rw [decide_eq_true hxy] at eq
            have eq2 : ((bstr x).toList != (bstr y).toList) = false := by rw [bne, eq]; rfl
            clear hst hne hxy
            go_wp2
            go_region_held3 (fun X => X.cell? ⟨w.heap.size, 16, none⟩ = some (.slice (some ⟨b1, o1, none⟩) n c) ∧ X.cell? ⟨w.heap.size + 1, 16, none⟩ = some (.slice (some ⟨b2, o2, none⟩) n d) ∧ X.cell? ⟨b1, o1 + t, none⟩ = some (.slice q1 x.length c1) ∧ X.cell? ⟨b2, o2 + t, none⟩ = some (.slice q2 y.length c2) ∧ (convert 32 9 (.slice q1 x.length c1)).run Try.prog X = .ok (.string (bstr x)) X ∧ (convert 32 9 (.slice q2 y.length c2)).run Try.prog X = .ok (.string (bstr y)) X) (first | exact KS.out | go_keep) (fail)
            all_goals
              go_wp2
              go_roundw
              case rel => exact ⟨t + 1, hlt, by go_num, HST, hbr.drew⟩
              case measure => simp [intOf]; omega
          · have HNE := (show Hid _ from hne hxy)
            rw [decide_eq_false hxy] at eq
            have eq2 : ((bstr x).toList != (bstr y).toList) = true := by rw [bne, eq]; rfl
            clear hst hne hxy
            go_wp2
            go_region_held3 (fun X => X.cell? ⟨w.heap.size, 16, none⟩ = some (.slice (some ⟨b1, o1, none⟩) n c) ∧ X.cell? ⟨w.heap.size + 1, 16, none⟩ = some (.slice (some ⟨b2, o2, none⟩) n d) ∧ X.cell? ⟨b1, o1 + t, none⟩ = some (.slice q1 x.length c1) ∧ X.cell? ⟨b2, o2 + t, none⟩ = some (.slice q2 y.length c2) ∧ (convert 32 9 (.slice q1 x.length c1)).run Try.prog X = .ok (.string (bstr x)) X ∧ (convert 32 9 (.slice q2 y.length c2)).run Try.prog X = .ok (.string (bstr y)) X) (first | exact KS.out | go_keep) (fail)
            all_goals
              go_wp2
              go_ret
              exact ⟨by rw [decide_eq_false HNE.out]; rfl, hbwr.out.drew⟩
        · obtain rfl : t = n := by omega
          have he : Hid (xs = ys) := by
            have := heq.out
            rw [List.take_of_length_le (by omega), List.take_of_length_le (by omega)] at this
            exact this
          go_wp2
          go_ret
          exact ⟨by rw [decide_eq_true he.out]; rfl, hbwr.out⟩
    · have i0 : ((n : Int) != (m : Int)) = true := by simp; omega
      have hne : ¬ xs = ys := fun e => hnm (by rw [← hn, ← hm, e])
      rw [decide_eq_false hne]
      go_enter Try.func11, Try.ntmps11
      go_wp2_with (first
    | (refine wpList_loadIn rfl _ rfl w.heap.size rfl H1 ?_)
    | (refine wpList_loadIn rfl _ rfl (w.heap.size + 1) rfl H2 ?_))
      go_ret
      exact ⟨rfl, hbw⟩
end
end Go.Proofs.Ytnbeppgcphibdaa
