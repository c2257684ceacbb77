/-
  Heads compared.
-/
import Derived.Test.YtfcjkaigmlfjnaaPz8
import Derived.Laws.StructEq
import Derived.Deep.RegionHeld3
import Derived.Test.YtfcjkaigmlfjnaaM8
import Derived.Test.YtfcjkaigmlfjnaaEn9
import Derived.Test.YtfcjkaigmlfjnaaSi8
import Derived.Deep.RegionWith
namespace Go.Proofs.Ytfcjkaigmlfjnaa
open Go.RowKit
theorem el_beq8 (a b : BitVec 8) : (el a == el b) = decide (a = b) := by
  by_cases h : a = b
  · subst h; simp
  · rw [decide_eq_false h]
    have : el a ≠ el b := fun e => h (by unfold el at e; exact BitVec.eq_of_toNat_eq (by omega))
    simp [this]
theorem pt0 (x : Nat → Int) (w : World) : (part 5 #[.int .u8 (x 0), .int .u8 (x 1), .int .u8 (x 2), .int .u8 (x 3), .int .u8 (x 4), .int .u8 (x 5), .int .u8 (x 6), .int .u8 (x 7)] 0).run Try.prog w = .ok (.int .u8 (x 0)) w := by kernel_rfl
theorem pt1 (x : Nat → Int) (w : World) : (part 5 #[.int .u8 (x 0), .int .u8 (x 1), .int .u8 (x 2), .int .u8 (x 3), .int .u8 (x 4), .int .u8 (x 5), .int .u8 (x 6), .int .u8 (x 7)] 1).run Try.prog w = .ok (.int .u8 (x 1)) w := by kernel_rfl
theorem pt2 (x : Nat → Int) (w : World) : (part 5 #[.int .u8 (x 0), .int .u8 (x 1), .int .u8 (x 2), .int .u8 (x 3), .int .u8 (x 4), .int .u8 (x 5), .int .u8 (x 6), .int .u8 (x 7)] 2).run Try.prog w = .ok (.int .u8 (x 2)) w := by kernel_rfl
theorem pt3 (x : Nat → Int) (w : World) : (part 5 #[.int .u8 (x 0), .int .u8 (x 1), .int .u8 (x 2), .int .u8 (x 3), .int .u8 (x 4), .int .u8 (x 5), .int .u8 (x 6), .int .u8 (x 7)] 3).run Try.prog w = .ok (.int .u8 (x 3)) w := by kernel_rfl
theorem pt4 (x : Nat → Int) (w : World) : (part 5 #[.int .u8 (x 0), .int .u8 (x 1), .int .u8 (x 2), .int .u8 (x 3), .int .u8 (x 4), .int .u8 (x 5), .int .u8 (x 6), .int .u8 (x 7)] 4).run Try.prog w = .ok (.int .u8 (x 4)) w := by kernel_rfl
theorem pt5 (x : Nat → Int) (w : World) : (part 5 #[.int .u8 (x 0), .int .u8 (x 1), .int .u8 (x 2), .int .u8 (x 3), .int .u8 (x 4), .int .u8 (x 5), .int .u8 (x 6), .int .u8 (x 7)] 5).run Try.prog w = .ok (.int .u8 (x 5)) w := by kernel_rfl
theorem pt6 (x : Nat → Int) (w : World) : (part 5 #[.int .u8 (x 0), .int .u8 (x 1), .int .u8 (x 2), .int .u8 (x 3), .int .u8 (x 4), .int .u8 (x 5), .int .u8 (x 6), .int .u8 (x 7)] 6).run Try.prog w = .ok (.int .u8 (x 6)) w := by kernel_rfl
theorem pt7 (x : Nat → Int) (w : World) : (part 5 #[.int .u8 (x 0), .int .u8 (x 1), .int .u8 (x 2), .int .u8 (x 3), .int .u8 (x 4), .int .u8 (x 5), .int .u8 (x 6), .int .u8 (x 7)] 7).run Try.prog w = .ok (.int .u8 (x 7)) w := by kernel_rfl
set_option maxRecDepth 100000 in
theorem eq_arr (x y : Nat → Int) (w : World) : (Op.equalIn 9999 22 (.agg #[.int .u8 (x 0), .int .u8 (x 1), .int .u8 (x 2), .int .u8 (x 3), .int .u8 (x 4), .int .u8 (x 5), .int .u8 (x 6), .int .u8 (x 7)]) (.agg #[.int .u8 (y 0), .int .u8 (y 1), .int .u8 (y 2), .int .u8 (y 3), .int .u8 (y 4), .int .u8 (y 5), .int .u8 (y 6), .int .u8 (y 7)])).run Try.prog w = .ok (x 0 == y 0 && (x 1 == y 1 && (x 2 == y 2 && (x 3 == y 3 && (x 4 == y 4 && (x 5 == y 5 && (x 6 == y 6 && x 7 == y 7))))))) w := by
  obtain ⟨i0, hi, hz0, hz1, hz2⟩ := info_parts info5
  have ei : ∀ (a b : Int) (w : World), (Op.equalIn 9998 5 (.int .u8 a) (.int .u8 b)).run Try.prog w = .ok (a == b) w := fun a b w => run_equalIn_int w 9997 5 .u8 .u8 a b Try.underlying5
  rw [Op.equalIn]
  simp only [Sem.run_bind, run_underlying Try.underlying22, Result.andThen_ok, sizeOf, typeInfo, run_program, hi]
  simp [List.range', hz1, pt0, pt1, pt2, pt3, pt4, pt5, pt6, pt7, ei]
  repeat' split
  all_goals simp [*]
def b8 (h : Hd) (i : Nat) : Int := el (h.st.getD i 0#8)
theorem st_eq (h g : Hd) : (b8 h 0 == b8 g 0 && (b8 h 1 == b8 g 1 && (b8 h 2 == b8 g 2 && (b8 h 3 == b8 g 3 && (b8 h 4 == b8 g 4 && (b8 h 5 == b8 g 5 && (b8 h 6 == b8 g 6 && b8 h 7 == b8 g 7))))))) = decide (h.st = g.st) := by
  unfold b8
  simp only [el_beq8]
  rw [Bool.eq_iff_iff]
  simp only [Bool.and_eq_true, decide_eq_true_eq]
  unfold Hd.st
  simp
def hq (h g : Hd) : Bool := decide (h.st = g.st) && (decide (h.k = g.k) && (decide (h.m = g.m) && (decide (h.b = g.b) && (decide (h.key = g.key) && (decide (h.sz = g.sz) && (decide (h.ix = g.ix) && (decide (h.ep = g.ep) && decide (h.ct = g.ct))))))))
theorem hq_iff (h g : Hd) : hq h g = true ↔ h = g := by
  unfold hq
  simp only [Bool.and_eq_true, decide_eq_true_eq]
  constructor
  · obtain ⟨⟩ := h
    obtain ⟨⟩ := g
    unfold Hd.st
    simp only [List.cons.injEq, Hd.mk.injEq]
    rintro ⟨⟨h0, h1, h2, h3, h4, h5, h6, h7, _⟩, hk, hm, hb, hy, hs, hi, he, hc⟩
    exact ⟨h0, h1, h2, h3, h4, h5, h6, h7, hk, hm, hb, hy, hs, hi, he, hc⟩
  · rintro rfl; simp
set_option maxHeartbeats 4000000 in
set_option maxRecDepth 100000 in
theorem eq_head (h g : Hd) (w : World) : (Op.equalIn 10000 28 (.agg h.cs) (.agg g.cs)).run Try.prog w = .ok (hq h g) w := by
  have ea : (Op.equalIn 9999 22 (.agg #[.int .u8 (el h.a0), .int .u8 (el h.a1), .int .u8 (el h.a2), .int .u8 (el h.a3), .int .u8 (el h.a4), .int .u8 (el h.a5), .int .u8 (el h.a6), .int .u8 (el h.a7)]) (.agg #[.int .u8 (el g.a0), .int .u8 (el g.a1), .int .u8 (el g.a2), .int .u8 (el g.a3), .int .u8 (el g.a4), .int .u8 (el g.a5), .int .u8 (el g.a6), .int .u8 (el g.a7)])).run Try.prog w = .ok (decide (h.st = g.st)) w := by
    rw [← st_eq]; exact eq_arr (b8 h) (b8 g) w
  have eb := bstr_beq h.key g.key
  unfold Hd.cs
  go_simp
  repeat' split
  all_goals simp [hq, *]
theorem neq_head (h g : Hd) (w : World) : (binOp .neq 28 (.agg h.cs) (.agg g.cs)).run Try.prog w = .ok (.bool (!hq h g)) w := by
  rw [run_neq_struct, eq_head]; rfl
theorem eql_head (h g : Hd) (w : World) : (binOp .eql 28 (.agg h.cs) (.agg g.cs)).run Try.prog w = .ok (.bool (hq h g)) w := by
  rw [run_eql_struct, eq_head]; rfl
end Go.Proofs.Ytfcjkaigmlfjnaa
/-
  'Same'.
-/
namespace Go.Proofs.Ytfcjkaigmlfjnaa
open Go.RowKit
theorem take_eq8 {α : Type} (d : α) (a b : List α) (i : Nat) (ha : i < a.length) (hb : i < b.length) (h : a.take i = b.take i) (e : a.getD i d = b.getD i d) : a.take (i + 1) = b.take (i + 1) := by
  rw [List.take_add_one, List.take_add_one, h]
  simp only [List.getD, List.getElem?_eq_getElem ha, List.getElem?_eq_getElem hb, Option.getD_some] at e
  rw [List.getElem?_eq_getElem ha, List.getElem?_eq_getElem hb, e]
section
attribute [local irreducible] Calls el Hd.cs Hd.sh cmo rg sm bsm
set_option maxHeartbeats 4000000 in
set_option maxRecDepth 1000000 in
theorem same_any (h g : Hd) {w : World} {p q : Option Addr} {xs ys : List (List (BitVec 8))} (hx : Rws w p xs) (hy : Rws w q ys) (n c m d : Nat) (hn : xs.length = n) (hm : ys.length = m) (hl : n ≤ 1099511627776) :
    Calls Try.prog 11 #[.agg (h.sh (.slice p n c)), .agg (g.sh (.slice q m d))] w fun e w' => e = .returned (.bool (hq h g && decide (xs = ys))) ∧ Below w.heap.size w w' := by
  have al : ∀ (W : World) (o : Obj), Below W.heap.size W (W.alloc o) := fun W o => (Below.refl _ _).alloc (Nat.le_refl _) o
  have H1 := (shIn_new w h (.slice p n c)).below (al _ (.cells (g.sh (.slice q m d)) 31))
  have H2 := shIn_new (w.alloc (.cells (h.sh (.slice p n c)) 31)) g (.slice q m d)
  have v1 := cell_below (shV_new w h (.slice p n c)) (al _ (.cells (g.sh (.slice q m d)) 31))
  have v2 := shV_new (w.alloc (.cells (h.sh (.slice p n c)) 31)) g (.slice q m d)
  rw [World.size_alloc] at H2 v2
  have nh := fun W => neq_head h g W
  have hbw := bt (al w (.cells (h.sh (.slice p n c)) 31)) (al _ (.cells (g.sh (.slice q m d)) 31))
  cases hh : hq h g with
  | false =>
    rw [hh] at nh
    go_enter Try.func11, Try.ntmps11
    go_wp2_with (first
    | (refine wpList_loadIn rfl _ rfl w.heap.size rfl H1 ?_)
    | (refine wpList_loadIn rfl _ rfl (w.heap.size + 1) rfl H2 ?_))
    go_ret
    exact ⟨rfl, hbw⟩
  | true =>
    rw [hh] at nh
    by_cases hnm : n = m
    · subst hnm
      have i0 : ((n : Int) != (n : Int)) = false := by simp
      go_enter Try.func11, Try.ntmps11
      go_wp2_with (first
    | (refine wpList_loadIn rfl _ rfl w.heap.size rfl H1 ?_)
    | (refine wpList_loadIn rfl _ rfl (w.heap.size + 1) rfl H2 ?_))
      clear nh H1 H2
      have HV1 := (show Hid _ from v1)
      have HV2 := (show Hid _ from v2)
      clear v1 v2
      go_loopw [5] (fun i wr => ∃ t : Nat, t ≤ n ∧ i = .int .i64 (t : Int) ∧ Hid (xs.take t = ys.take t) ∧ Below ((w.alloc (.cells (h.sh (.slice p n c)) 31)).alloc (.cells (g.sh (.slice q n d)) 31)).heap.size ((w.alloc (.cells (h.sh (.slice p n c)) 31)).alloc (.cells (g.sh (.slice q n d)) 31)) wr) (fun i _ => n - (intOf i).toNat)
      case atStart => exact ⟨0, Nat.zero_le _, rfl, rfl, Below.refl _ _⟩
      case round =>
        obtain ⟨t, ht, rfl, heq, hbr⟩ := hrel
        have hbwr := (show Hid (Below w.heap.size w wr) from hbw.trans (hbr.mono hbw.size))
        have v1 := cell_below HV1.out hbr
        by_cases hlt : t < n
        · obtain ⟨b1, o1, q1, c1, rfl, hc1, hl1, hr1⟩ := hx.row t (by omega)
          obtain ⟨b2, o2, q2, c2, rfl, hc2, hl2, hr2⟩ := hy.row t (by omega)
          have hi : (t : Int) < (n : Int) := by omega
          have hst : xs.getD t [] = ys.getD t [] → xs.take (t + 1) = ys.take (t + 1) := take_eq8 [] xs ys t (by omega) (by omega) heq.out
          have hne : ¬ xs.getD t [] = ys.getD t [] → ¬ xs = ys := fun h e => h (by rw [e])
          generalize xs.getD t [] = x at hc1 hl1 hr1 hst hne
          generalize ys.getD t [] = y at hc2 hl2 hr2 hst hne
          have v2 := cell_below HV2.out hbr
          have g1 := cell_below hc1 hbwr.out
          have g2 := cell_below hc2 hbwr.out
          have hdr : Below w.heap.size w wr.drew := hbwr.out.drew
          have hdr2 := hbr.drew
          have KS := (show Hid (_ ∧ _ ∧ _ ∧ _ ∧ _ ∧ _) from ⟨cell_below HV1.out hdr2, cell_below HV2.out hdr2, cell_below hc1 hdr, cell_below hc2 hdr, conv_rd (hr1.below hdr) x.length c1 rfl, conv_rd (hr2.below hdr) y.length c2 rfl⟩)
          have eq := bstr_beq x y
          clear hdr hdr2 hc1 hc2 hr1 hr2
          by_cases hxy : x = y
          · have HST := (show Hid _ from hst hxy)
            rw [decide_eq_true hxy] at eq
            have eq2 : ((bstr x).toList != (bstr y).toList) = false := by rw [bne, eq]; rfl
            clear hst hne hxy
            go_wp2
            go_region_held3 (fun X => X.cell? ⟨w.heap.size, 16, none⟩ = some (.slice (some ⟨b1, o1, none⟩) n c) ∧ X.cell? ⟨w.heap.size + 1, 16, none⟩ = some (.slice (some ⟨b2, o2, none⟩) n d) ∧ X.cell? ⟨b1, o1 + t, none⟩ = some (.slice q1 x.length c1) ∧ X.cell? ⟨b2, o2 + t, none⟩ = some (.slice q2 y.length c2) ∧ (convert 35 9 (.slice q1 x.length c1)).run Try.prog X = .ok (.string (bstr x)) X ∧ (convert 35 9 (.slice q2 y.length c2)).run Try.prog X = .ok (.string (bstr y)) X) (first | exact KS.out | go_keep) (fail)
            all_goals
              go_wp2
              go_roundw
              case rel => exact ⟨t + 1, hlt, by go_num, HST, hbr.drew⟩
              case measure => simp [intOf]; omega
          · have HNE := (show Hid _ from hne hxy)
            rw [decide_eq_false hxy] at eq
            have eq2 : ((bstr x).toList != (bstr y).toList) = true := by rw [bne, eq]; rfl
            clear hst hne hxy
            go_wp2
            go_region_held3 (fun X => X.cell? ⟨w.heap.size, 16, none⟩ = some (.slice (some ⟨b1, o1, none⟩) n c) ∧ X.cell? ⟨w.heap.size + 1, 16, none⟩ = some (.slice (some ⟨b2, o2, none⟩) n d) ∧ X.cell? ⟨b1, o1 + t, none⟩ = some (.slice q1 x.length c1) ∧ X.cell? ⟨b2, o2 + t, none⟩ = some (.slice q2 y.length c2) ∧ (convert 35 9 (.slice q1 x.length c1)).run Try.prog X = .ok (.string (bstr x)) X ∧ (convert 35 9 (.slice q2 y.length c2)).run Try.prog X = .ok (.string (bstr y)) X) (first | exact KS.out | go_keep) (fail)
            all_goals
              go_wp2
              go_ret
              exact ⟨by rw [decide_eq_false HNE.out]; rfl, hbwr.out.drew⟩
        · obtain rfl : t = n := by omega
          have he : Hid (xs = ys) := by
            have := heq.out
            rw [List.take_of_length_le (by omega), List.take_of_length_le (by omega)] at this
            exact this
          go_wp2
          go_ret
          exact ⟨by rw [decide_eq_true he.out]; rfl, hbwr.out⟩
    · have i0 : ((n : Int) != (m : Int)) = true := by simp; omega
      have hne : ¬ xs = ys := fun e => hnm (by rw [← hn, ← hm, e])
      rw [decide_eq_false hne]
      go_enter Try.func11, Try.ntmps11
      go_wp2_with (first
    | (refine wpList_loadIn rfl _ rfl w.heap.size rfl H1 ?_)
    | (refine wpList_loadIn rfl _ rfl (w.heap.size + 1) rfl H2 ?_))
      go_ret
      exact ⟨rfl, hbw⟩
end
end Go.Proofs.Ytfcjkaigmlfjnaa
/-
  The plain shard's bytes, and with the last one turned.
-/
namespace Go.Proofs.Ytfcjkaigmlfjnaa
/-- The plain shard. -/
def plH : Hd := ⟨1#8, 1#8, 1#8, 1#8, 1#8, 1#8, 1#8, 1#8, 2, 1, 4, [97#8], 10, 2, 3, 5⟩
def plB : List (List (BitVec 8)) := [[9#8, 8#8, 7#8, 6#8], [5#8]]
theorem plH_ok : plH.Ok := ⟨by decide, by decide, by decide, by decide, by decide, by decide, by decide, by decide, by decide, by decide, by decide, by decide, by decide, by decide, by decide, by decide, by decide, by decide, by decide⟩
theorem plH_ls : plH.ls = [4, 1] := by decide
theorem pl_may : May plH plB := ⟨plH_ok, by rw [plH_ls]; rfl⟩
theorem pl_len : (plH.fm plB).length = 54 := by rw [plH.fm_tot plB pl_may.2]; unfold Hd.len; rw [plH_ls]; rfl
/-- The last byte turned. -/
def plF : List (BitVec 8) := (plH.fm plB).set 53 ((plH.fm plB).getD 53 0#8 ^^^ 1#8)
theorem sm4 (s : BitVec 32) : ∃ a b c d, sm s = [a, b, c, d] := ⟨_, _, _, _, rfl⟩
theorem plF_eq : ∃ a b c d, sm (bsm plH.s2 1 [5#8]) = [a, b, c, d] ∧ plF = plH.hb ++ ([9#8, 8#8, 7#8, 6#8] ++ (sm (bsm plH.s2 0 [9#8, 8#8, 7#8, 6#8]) ++ ([5#8] ++ [a, b, c, d ^^^ 1#8]))) := by
  obtain ⟨a, b, c, d, e⟩ := sm4 (bsm plH.s2 1 [5#8])
  refine ⟨a, b, c, d, e, ?_⟩
  have hf : plH.fm plB = (plH.hb ++ ([9#8, 8#8, 7#8, 6#8] ++ (sm (bsm plH.s2 0 [9#8, 8#8, 7#8, 6#8]) ++ ([5#8] ++ [a, b, c])))) ++ [d] := by
    show plH.hb ++ ([9#8, 8#8, 7#8, 6#8] ++ sm (bsm plH.s2 0 [9#8, 8#8, 7#8, 6#8]) ++ ([5#8] ++ sm (bsm plH.s2 1 [5#8]) ++ [])) = _
    rw [e]; simp
  have hl : (plH.hb ++ ([9#8, 8#8, 7#8, 6#8] ++ (sm (bsm plH.s2 0 [9#8, 8#8, 7#8, 6#8]) ++ ([5#8] ++ [a, b, c])))).length = 53 := by
    simp only [List.length_append, Hd.hb_len, sm_len]; rfl
  have hr : plH.hb ++ ([9#8, 8#8, 7#8, 6#8] ++ (sm (bsm plH.s2 0 [9#8, 8#8, 7#8, 6#8]) ++ ([5#8] ++ [a, b, c, d ^^^ 1#8]))) = (plH.hb ++ ([9#8, 8#8, 7#8, 6#8] ++ (sm (bsm plH.s2 0 [9#8, 8#8, 7#8, 6#8]) ++ ([5#8] ++ [a, b, c])))) ++ [d ^^^ 1#8] := by simp
  unfold plF
  rw [hr, hf]
  generalize plH.hb ++ ([9#8, 8#8, 7#8, 6#8] ++ (sm (bsm plH.s2 0 [9#8, 8#8, 7#8, 6#8]) ++ ([5#8] ++ [a, b, c]))) = X at hl
  rw [← hl]
  simp [List.getD]
theorem plF_bk : plH.bk plF = [some [9#8, 8#8, 7#8, 6#8], none] := by
  obtain ⟨a, b, c, d, e, hF⟩ := plF_eq
  have hs : BitVec.ofNat 32 (lv (cutl plF (36 + plH.key.length) 4)) = plH.s2 := by rw [hF]; exact plH.at_s2 _
  unfold Hd.bk
  rw [hs, plH_ls]
  have hy : plH.key.length = 1 := rfl
  have hhb : plH.hb.length = 41 := by rw [plH.hb_len, hy]
  rw [hy]
  have c1 : cutl plF 41 4 = [9#8, 8#8, 7#8, 6#8] := by rw [hF, ← List.append_assoc]; exact cutl_app _ _ _ _ _ hhb rfl
  have c2 : cutl plF 45 4 = sm (bsm plH.s2 0 [9#8, 8#8, 7#8, 6#8]) := by
    rw [hF, ← List.append_assoc, ← List.append_assoc]
    exact cutl_app _ _ _ _ _ (by rw [List.length_append, hhb]; rfl) (sm_len _)
  have c3 : cutl plF 49 1 = [5#8] := by
    rw [hF, ← List.append_assoc, ← List.append_assoc, ← List.append_assoc]
    exact cutl_app _ _ _ _ _ (by rw [List.length_append, List.length_append, hhb, sm_len]; rfl) rfl
  have c4 : cutl plF 50 4 = [a, b, c, d ^^^ 1#8] := by
    rw [hF, ← List.append_assoc, ← List.append_assoc, ← List.append_assoc]
    exact cutl_app' _ _ _ _ (by rw [List.length_append, List.length_append, List.length_append, hhb, sm_len]; rfl) rfl
  have hl : plF.length = 54 := by unfold plF; rw [List.length_set, pl_len]
  have r1 : rb plF 41 4 plH.s2 0 = some [9#8, 8#8, 7#8, 6#8] := by
    unfold rb
    rw [if_neg (by omega), c1, c2, lv_sm, if_neg (by simp)]
  have r2 : rb plF 49 1 plH.s2 1 = none := by
    unfold rb
    rw [if_neg (by omega), c3, c4, if_pos]
    intro h
    have := sm_lv _ _ rfl h
    rw [e] at this
    simp only [List.cons.injEq, and_true, true_and] at this
    have h2 : d ^^^ 1#8 = d := this
    have h3 : d ^^^ (d ^^^ 1#8) = d ^^^ d := by rw [h2]
    rw [← BitVec.xor_assoc, BitVec.xor_self, BitVec.zero_xor] at h3
    exact absurd h3 (by decide)
  show [rb plF 41 4 plH.s2 0, rb plF 49 1 plH.s2 1] = _
  rw [r1, r2]
theorem plF_pH : pH plF = (0, plH) := by
  obtain ⟨a, b, c, d, _, hF⟩ := plF_eq
  rw [hF]; exact pH_fm plH plH_ok _
theorem plF_pS : (pS plF).1 = 82 := by
  have hl : plF.length = 54 := by unfold plF; rw [List.length_set, pl_len]
  have hL : plH.len = 54 := by rw [← plH.fm_tot plB pl_may.2, pl_len]
  unfold pS
  rw [plF_pH]
  rw [if_neg (by simp), if_neg (by simp only [hl, hL]; omega), if_neg (by simp only [hl, hL]; omega)]
  simp only [plF_bk, alls]
theorem plF_sP : sP plF = (0, [1]) := by
  unfold sP
  rw [plF_pH]
  rw [if_neg (by simp)]
  simp only [plF_bk, spo]
end Go.Proofs.Ytfcjkaigmlfjnaa
/-
  The law's 'plain', 'awake'.
-/
namespace Go.Proofs.Ytfcjkaigmlfjnaa
open Go.RowKit
theorem plH_sh (v : Value) : plH.sh v = #[.int .u8 1, .int .u8 1, .int .u8 1, .int .u8 1, .int .u8 1, .int .u8 1, .int .u8 1, .int .u8 1, .int .i64 2, .int .i64 1, .int .i64 4, .string (bstr [97#8]), .int .i64 10, .int .i64 2, .int .i64 3, .int .i64 5, v] := rfl
theorem b97 : bstr [97#8] = ⟨#[97]⟩ := rfl
theorem five_new (w : World) (o1 o2 o3 o4 o5 : Obj) : Below w.heap.size w (((((w.alloc o1).alloc o2).alloc o3).alloc o4).alloc o5) ∧ (((((w.alloc o1).alloc o2).alloc o3).alloc o4).alloc o5).heap[w.heap.size]? = some o1 ∧ (((((w.alloc o1).alloc o2).alloc o3).alloc o4).alloc o5).heap[w.heap.size + 1 + 1]? = some o3 ∧ (((((w.alloc o1).alloc o2).alloc o3).alloc o4).alloc o5).heap[w.heap.size + 1 + 1 + 1]? = some o4 ∧ (((((w.alloc o1).alloc o2).alloc o3).alloc o4).alloc o5).heap[w.heap.size + 1 + 1 + 1 + 1]? = some o5 := by
  have al : ∀ (W : World) (o : Obj), Below W.heap.size W (W.alloc o) := fun W o => (Below.refl _ _).alloc (Nat.le_refl _) o
  have s1 : (w.alloc o1).heap.size = w.heap.size + 1 := alloc_size _ _
  have s2 : ((w.alloc o1).alloc o2).heap.size = w.heap.size + 1 + 1 := by rw [alloc_size, s1]
  have s3 : (((w.alloc o1).alloc o2).alloc o3).heap.size = w.heap.size + 1 + 1 + 1 := by rw [alloc_size, s2]
  have s4 : ((((w.alloc o1).alloc o2).alloc o3).alloc o4).heap.size = w.heap.size + 1 + 1 + 1 + 1 := by rw [alloc_size, s3]
  refine ⟨bt (bt (bt (bt (al _ _) (al _ _)) (al _ _)) (al _ _)) (al _ _), ?_, ?_, ?_, ?_⟩
  · rw [heap_alloc_old _ _ (by omega), heap_alloc_old _ _ (by omega), heap_alloc_old _ _ (by omega), heap_alloc_old _ _ (by omega)]; exact heap_alloc_new w o1
  · rw [heap_alloc_old _ _ (by omega), heap_alloc_old _ _ (by omega), ← s2]; exact heap_alloc_new _ o3
  · rw [heap_alloc_old _ _ (by omega), ← s3]; exact heap_alloc_new _ o4
  · rw [← s4]; exact heap_alloc_new _ o5
theorem row_rd {w : World} {g : Nat} {xs : List (BitVec 8)} {t : TypeId} (H : w.heap[g]? = some (.cells (xs.map fun x => Value.int .u8 (el x)).toArray t)) : Rd w (some ⟨g, 0, none⟩) xs := by
  refine .inr ⟨g, 0, rfl, fun i hi => ?_⟩
  rw [Nat.zero_add, cell_of_row _ _ _ _ _ (0, 0) H, List.getElem?_toArray, List.getElem?_map, List.getElem?_eq_getElem hi]
  simp [List.getD, List.getElem?_eq_getElem hi]
theorem pl_rws {w : World} {a b c : Nat} (h1 : w.heap[a]? = some (.cells #[.int .u8 9, .int .u8 8, .int .u8 7, .int .u8 6] 5)) (h2 : w.heap[b]? = some (.cells #[.int .u8 5] 5)) (h3 : w.heap[c]? = some (.cells #[.slice (some ⟨a, 0, none⟩) 4 4, .slice (some ⟨b, 0, none⟩) 1 1] 35)) : Rws w (some ⟨c, 0, none⟩) plB := by
  refine .inr ⟨c, 0, rfl, fun i hi => ?_⟩
  have r1 := row_rd (w := w) (g := a) (xs := [9#8, 8#8, 7#8, 6#8]) h1
  have r2 := row_rd (w := w) (g := b) (xs := [5#8]) h2
  have c3 := fun i => cell_of_row w c i _ _ (0, 0) h3
  match i, hi with
  | 0, _ => exact ⟨_, 4, c3 0, Nat.le_refl _, r1⟩
  | 1, _ => exact ⟨_, 1, c3 1, Nat.le_refl _, r2⟩
theorem sizeSd' (h : Hd) (v : Value) : (Try.prog.info? 31).map (·.size) = some (h.sh v).size := sizeSd
section
attribute [local irreducible] Calls el
set_option maxHeartbeats 4000000 in
set_option maxRecDepth 1000000 in
theorem plain_any (w : World) :
    Calls Try.prog 9 #[] w fun e w' => ∃ p c, e = .returned (.agg (plH.sh (.slice p 2 c))) ∧ Rws w' p plB ∧ Below w.heap.size w w' := by
  go_enter Try.func9, Try.ntmps9
  go_wp2
  obtain ⟨hb, e1, e3, e4, e5⟩ := five_new w _ _ _ _ _
  refine bodyPost_ret (v := .agg (plH.sh (.slice (some ⟨w.heap.size + 1 + 1 + 1 + 1, 0, none⟩) 2 2))) ?_ rfl ⟨_, _, rfl, pl_rws e3 e4 e5, hb⟩
  exact results_cell_row rfl _ _ w.heap.size 31 _ (0, 0) _ (by kernel_rfl) (by rw [plH_sh, b97]; exact e1) Try.underlying31 rfl (sizeSd' _ _)
end
end Go.Proofs.Ytfcjkaigmlfjnaa
/-
  The law's 'awake'.
-/
namespace Go.Proofs.Ytfcjkaigmlfjnaa
open Go.RowKit
theorem plH_in : plH.In := ⟨by unfold In64; decide, by unfold In64; decide, by unfold In64; decide, by unfold In64; decide, by unfold In64; decide, by unfold In64; decide, by unfold In64; decide⟩
theorem own54 {w : World} {B : Nat} {v : Value} {xs : List (BitVec 8)} (h : Ow w B v xs) (hl : xs.length = 54) : ∃ g cap, v = .slice (some ⟨g, 0, none⟩) 54 cap ∧ 54 ≤ cap ∧ cap ≤ 9223372036854775807 ∧ B ≤ g ∧ g < w.heap.size ∧ w.frozen? ⟨g, 53, none⟩ = false := by
  rcases h.2 with ⟨hv, h0⟩ | ⟨g, cap, c, hv, hg, hh, hc, hm, hs, ht⟩
  · omega
  · rw [hl] at hv hc
    exact ⟨g, cap, hv, hc, hm, hg, Hm.lt hh, frozen_of_row w g 53 _ _ hh⟩
theorem Rd.setAt {w : World} {g : Nat} {xs : List (BitVec 8)} (h : Rd w (some ⟨g, 0, none⟩) xs) (k : Nat) (hk : k < xs.length) (y : BitVec 8) : Rd (w.setCell ⟨g, k, none⟩ (.int .u8 (el y))) (some ⟨g, 0, none⟩) (xs.set k y) := by
  refine .inr ⟨g, 0, rfl, fun i hi => ?_⟩
  rw [List.length_set] at hi
  have hc := h.byte i hi
  rw [Nat.zero_add] at hc ⊢
  by_cases e : i = k
  · subst e
    rw [World.cell?_setCell_same (h := hc)]
    simp [List.getD, hi]
  · rw [World.cell?_setCell_other (h := fun e2 => e (by injection e2 with _ e2; exact e2.symm)), hc]
    simp [List.getD, Ne.symm e]
theorem sd_cells {w : World} {g : Nat} {v : Value} (H : SdAt w g plH v) : w.cell? ⟨g, 0, none⟩ = some (.int .u8 1) ∧ w.cell? ⟨g, 1, none⟩ = some (.int .u8 1) ∧ w.cell? ⟨g, 2, none⟩ = some (.int .u8 1) ∧ w.cell? ⟨g, 3, none⟩ = some (.int .u8 1) ∧ w.cell? ⟨g, 4, none⟩ = some (.int .u8 1) ∧ w.cell? ⟨g, 5, none⟩ = some (.int .u8 1) ∧ w.cell? ⟨g, 6, none⟩ = some (.int .u8 1) ∧ w.cell? ⟨g, 7, none⟩ = some (.int .u8 1) ∧ w.cell? ⟨g, 8, none⟩ = some (.int .i64 2) ∧ w.cell? ⟨g, 9, none⟩ = some (.int .i64 1) ∧ w.cell? ⟨g, 10, none⟩ = some (.int .i64 4) ∧ w.cell? ⟨g, 11, none⟩ = some (.string ⟨#[97]⟩) ∧ w.cell? ⟨g, 12, none⟩ = some (.int .i64 10) ∧ w.cell? ⟨g, 13, none⟩ = some (.int .i64 2) ∧ w.cell? ⟨g, 14, none⟩ = some (.int .i64 3) ∧ w.cell? ⟨g, 15, none⟩ = some (.int .i64 5) ∧ w.cell? ⟨g, 16, none⟩ = some v := by
  unfold SdAt at H
  rw [plH_sh, b97] at H
  have c := fun i => cell_of_row w g i _ _ (0, 0) H
  exact ⟨c 0, c 1, c 2, c 3, c 4, c 5, c 6, c 7, c 8, c 9, c 10, c 11, c 12, c 13, c 14, c 15, c 16⟩
theorem one_vr (w : World) : Vr (w.alloc (.cells #[.int .i64 1] 3)) (some ⟨w.heap.size, 0, none⟩) (ic [1]) := by
  refine .inr ⟨w.heap.size, 0, rfl, fun i u hu => ?_⟩
  match i, hu with
  | 0, hu =>
    rw [cell_of_row _ _ _ _ _ (0, 0) (heap_alloc_new w _), ← hu]; rfl
theorem frz {w w' : World} {g i : Nat} (hl : g < w.heap.size) (h : w.frozen? ⟨g, i, none⟩ = false) (hb : Below w.heap.size w w') : w'.frozen? ⟨g, i, none⟩ = false := by
  rw [← h]
  unfold World.frozen?
  simp only [hb.block g hl]
theorem rd54 {w : World} {B g n cap : Nat} {xs : List (BitVec 8)} (h : Ow w B (.slice (some ⟨g, 0, none⟩) n cap) xs) : Rd w (some ⟨g, 0, none⟩) xs := by
  obtain ⟨p, c, e, _, hr⟩ := h.rd
  injection e with e
  rw [e]; exact hr
theorem xor1 : ∀ x : BitVec 8, bits .xor .u8 (el x) 1 = el (x ^^^ 1#8) := by decide +kernel
theorem plF_len : plF.length = 54 := by unfold plF; rw [List.length_set, pl_len]
section
attribute [local irreducible] Calls el Hd.cs Hd.sh cmo rg sm bsm plH
set_option maxHeartbeats 4000000 in
set_option maxRecDepth 1000000 in
theorem awake_any (w : World) :
    Calls Try.prog 4 #[] w fun e w' => e = .returned (.bool true) ∧ Below w.heap.size w w' := by
  have al : ∀ (W : World) (o : Obj), Below W.heap.size W (W.alloc o) := fun W o => (Below.refl _ _).alloc (Nat.le_refl _) o
  have NU := (show Hid _ from fun z w => num_any z w)
  have PL := (show Hid _ from fun w => plain_any w)
  have hpS := pS_fm plH plB pl_may
  have EN := (show Hid (∀ (W : World) (p : Option Addr) (c : Nat), Rws W p plB → _) from fun W p c h => encode_ok plH plH_ok plH_in h 2 c rfl pl_may.2)
  have hfl := pl_len
  have PA := (show Hid (∀ (W : World) (p : Option Addr) (c : Nat), Rd W p (plH.fm plB) → 54 ≤ c → _) from fun W p c h h1 => parse_any h 54 c pl_len h1 (by omega))
  rw [hpS] at PA
  have PB := (show Hid (∀ (W : World) (p : Option Addr) (c : Nat), Rd W p plF → 54 ≤ c → _) from fun W p c h h1 => parse_any h 54 c plF_len h1 (by omega))
  rw [plF_pS] at PB
  generalize (pS plF).2.1 = hx at PB
  generalize (pS plF).2.2 = bx at PB
  have SP := (show Hid (∀ (W : World) (p : Option Addr) (c : Nat), Rd W p plF → 54 ≤ c → _) from fun W p c h h1 => spoilt_any rhd_ok h 54 c plF_len h1 (by omega))
  rw [plF_sP] at SP
  have hqq : hq plH plH = true := (hq_iff _ _).2 rfl
  have s0 : Hid (0 = 0) := rfl
  have hbw : Below w.heap.size w w := Below.refl _ _
  clear hpS
  go_enter Try.func4, Try.ntmps4
  go_wp2_with (first
    | (go_at_call 7; refine (NU.out _ _).mono ?_; rintro e w9 ⟨rfl, h9⟩; obtain rfl := h9.symm)
    | (go_at_call 9; first
        | (clear s0; have s1 : Hid (0 = 0) := rfl; refine (PL.out _).mono ?_; rintro e w1 ⟨p1, c1, rfl, hr1, hb⟩; replace hbw := bt hbw hb)
        | (refine (PL.out _).mono ?_; rintro e w4 ⟨p4, c4, rfl, hr4, hb⟩; replace hbw := bt hbw hb; replace hrb := hrb.below hb; replace hfz := frz hgl hfz hb; replace hgl := Nat.lt_of_lt_of_le hgl hb.size; replace hR3 := hR3.below hb))
    | (go_at_call 6; refine (EN.out _ _ _ hr1).mono ?_; rintro e w2 ⟨v2, rfl, ho2, hb⟩; obtain ⟨g, cap, rfl, hc1, hc2, hgB, hgl, hfz⟩ := own54 ho2 hfl; have hgw : w.heap.size ≤ g := Nat.le_trans hbw.size hgB; replace hbw := bt hbw hb; have hrb : Rd w2 (some ⟨g, 0, none⟩) (plH.fm plB) := rd54 ho2)
    | (go_at_call 10; first
        | (clear s1; have s2 : Hid (0 = 0) := rfl; refine (PA.out _ _ _ hrb hc1).mono ?_; rintro e w3 ⟨v3, rfl, hB3, hb⟩; obtain ⟨q3, d3, hv3, hd3, hR3⟩ := hB3.rws; replace hv3 : v3 = .slice q3 2 d3 := hv3; subst hv3; replace hbw := bt hbw hb; replace hrb := hrb.below hb; replace hfz := frz hgl hfz hb; replace hgl := Nat.lt_of_lt_of_le hgl hb.size)
        | (refine (PB.out _ _ _ hrF hc1).mono ?_; rintro e w6 ⟨v6, rfl, hB6, hb⟩; replace hbw := bt hbw hb; replace hrF := hrF.below hb))
    | (refine wpList_stS plH (.slice q3 2 d3) rfl rfl _ _ rfl rfl w3.heap.size rfl rfl (sz0 (heap_alloc_new w3 _)) ?_; intro wS HS hTS; have hb := hTS.2.1 _ _ (al w3 _) (Nat.le_refl _); replace hbw := bt hbw hb; replace hrb := hrb.below hb; replace hfz := frz hgl hfz hb; replace hgl := Nat.lt_of_lt_of_le hgl hb.size; replace hR3 := hR3.below hb))
  have hd : Below wS.heap.size wS wS.drew := (Below.refl _ _).drew
  replace hbw := bt hbw hd
  replace hrb := hrb.below hd
  replace hfz := frz hgl hfz hd
  replace hR3 := hR3.below hd
  replace HS := HS.below hd
  have hgl' : g < wS.drew.heap.size := hgl
  clear hgl hTS PA EN
  obtain ⟨k0, k1, k2, k3, k4, k5, k6, k7, k8, k9, k10, k11, k12, k13, k14, k15, k16⟩ := sd_cells HS
  have SM := (show Hid (∀ (W : World) (p : Option Addr) (c : Nat), Rws W q3 plB → Rws W p plB → Calls Try.prog 11 #[.agg #[.int .u8 1, .int .u8 1, .int .u8 1, .int .u8 1, .int .u8 1, .int .u8 1, .int .u8 1, .int .u8 1, .int .i64 2, .int .i64 1, .int .i64 4, .string ⟨#[97]⟩, .int .i64 10, .int .i64 2, .int .i64 3, .int .i64 5, .slice q3 2 d3], .agg (plH.sh (.slice p 2 c))] W fun e w' => e = .returned (.bool true) ∧ Below W.heap.size W w') from fun W p c h1 h2 => by
    have h := same_any plH plH h1 h2 2 d3 2 c rfl rfl (by omega)
    rw [hqq, decide_eq_true rfl, plH_sh (.slice q3 2 d3), b97] at h
    exact h)
  go_region_with (first
    | (go_at_call 7; refine (NU.out _ _).mono ?_; rintro e w9 ⟨rfl, h9⟩; obtain rfl := h9.symm)
    | (go_at_call 9; refine (PL.out _).mono ?_; rintro e w4 ⟨p4, c4, rfl, hr4, hb⟩; replace hbw := bt hbw hb; replace hrb := hrb.below hb; replace hfz := frz hgl' hfz hb; replace hgl' := Nat.lt_of_lt_of_le hgl' hb.size; replace hR3 := hR3.below hb; replace HS := HS.below hb; obtain ⟨l0, l1, l2, l3, l4, l5, l6, l7, l8, l9, l10, l11, l12, l13, l14, l15, l16⟩ := sd_cells HS)
    | (go_at_call 11; refine (SM.out _ _ _ hR3 hr4).mono ?_; rintro e w5 ⟨rfl, hb⟩; replace hbw := bt hbw hb; replace hrb := hrb.below hb; replace hfz := frz hgl' hfz hb; replace hgl' := Nat.lt_of_lt_of_le hgl' hb.size; have hbyte := hrb.byte 53 (by rw [hfl]; decide); rw [Nat.zero_add] at hbyte; have hxr := xor1 ((plH.fm plB).getD 53 0#8); have hrF : Rd (w5.setCell ⟨g, 53, none⟩ (.int .u8 (el ((plH.fm plB).getD 53 0#8 ^^^ 1#8)))) (some ⟨g, 0, none⟩) plF := hrb.setAt 53 (by rw [hfl]; decide) ((plH.fm plB).getD 53 0#8 ^^^ 1#8); have hbF := hbw.setCell (show w.heap.size ≤ (⟨g, 53, none⟩ : Addr).block from hgw) (.int .u8 (el ((plH.fm plB).getD 53 0#8 ^^^ 1#8)));
       generalize (plH.fm plB).getD 53 0#8 = z at hbyte hxr hrF hbF))
  all_goals
    go_wp2_with (first
      | (go_at_call 7; refine (NU.out _ _).mono ?_; rintro e w9 ⟨rfl, h9⟩; obtain rfl := h9.symm)
      | (go_at_call 10; refine (PB.out _ _ _ hrF hc1).mono ?_; rintro e w6 ⟨v6, rfl, hB6, hb⟩; obtain ⟨q6, d6, hv6, _, _⟩ := hB6.rws; subst hv6; replace hbF := bt hbF hb; replace hrF := hrF.below hb)
      | (refine wpList_stS hx (.slice q6 bx.length d6) rfl rfl _ _ rfl rfl w6.heap.size rfl rfl (sz0 (heap_alloc_new w6 _)) ?_; intro wT HT hTT; have hb := hTT.2.1 _ _ (al w6 _) (Nat.le_refl _); replace hbF := bt hbF hb; replace hrF := hrF.below hb)
      | (go_at_call 12; refine (SP.out _ _ _ hrF hc1).mono ?_; rintro e w7 ⟨v7, rfl, hO7, hb⟩; obtain ⟨p7, c7, rfl, hc7, hV7⟩ := hO7.rd; replace hbF := bt hbF hb)
      | (go_at_call 13; refine (sameInts_any (xs := [1]) (ys := [1]) (hV7.below (al _ _)) (one_vr w7) 1 1 c7 1 rfl rfl (by omega)).mono ?_; rintro e w8 ⟨rfl, hb⟩; rw [decide_eq_true rfl]; replace hbF := bt (bt hbF (al w7 (.cells #[.int .i64 1] 3))) hb))
    go_ret
    exact ⟨rfl, hbF⟩
end
end Go.Proofs.Ytfcjkaigmlfjnaa
