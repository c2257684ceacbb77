/-
  Package frame: 'Encode'.
-/
import Derived.Test.YtfcjkaigmlfjnaaW8c
import Derived.Deep.RegionHeld3
namespace Go.Proofs.Ytfcjkaigmlfjnaa
open Go.RowKit
/-- What Encode says. -/
def enE (h : Hd) (bl : List (List (BitVec 8))) : Int := if chk h ≠ 0 then chk h else if bl.map List.length = h.ls then 0 else 81
def enL (h : Hd) (bl : List (List (BitVec 8))) : List (BitVec 8) := if enE h bl = 0 then h.fm bl else []
theorem ls_tot (L : List Nat) : L.length ≤ tot L := by
  induction L with
  | nil => simp
  | cons n ns ih => simp only [List.length_cons, tot]; omega
theorem Hd.len_bd (h : Hd) (ok : h.Ok) : h.len ≤ 17592186044416 := by
  have hsh : shp h.k h.m h.b := by obtain ⟨⟩ := ok; unfold shp; omega
  have kb := kb_bd hsh
  have s2 := ok.s2
  have k2 := ok.k2
  have y2 := ok.y2
  have htot : tot h.ls ≤ 1048576 * (16711680 + 255 + 4) := Nat.le_trans (tot_bls _ _ _ _) (Nat.mul_le_mul (by omega) (by omega))
  unfold Hd.len
  omega
theorem Hd.ls_bd (h : Hd) (ok : h.Ok) : h.ls.length ≤ 1048576 := by
  have hsh : shp h.k h.m h.b := by obtain ⟨⟩ := ok; unfold shp; omega
  have kb := kb_bd hsh
  have s2 := ok.s2
  have : ∀ f l, (bls h.k.toNat (h.k * h.b).toNat f l).length ≤ f := by
    intro f
    induction f with
    | zero => intro l; exact Nat.le_refl _
    | succ f ih =>
      intro l
      unfold bls
      split
      · simp
      · have := ih (l - (h.k * h.b).toNat)
        rw [List.length_cons]; omega
  exact Nat.le_trans (this _ _) (by omega)
theorem frs_snoc (s : BitVec 32) (x : List (BitVec 8)) (l : List (List (BitVec 8))) : ∀ j, frs s j (l ++ [x]) = frs s j l ++ (x ++ sm (bsm s (j + l.length) x)) := by
  induction l with
  | nil => intro j; simp [frs]
  | cons y ys ih =>
    intro j
    simp only [List.cons_append, frs, ih, List.length_cons, List.append_assoc]
    rw [show j + 1 + ys.length = j + (ys.length + 1) by omega]
theorem frs_take (s : BitVec 32) (bl : List (List (BitVec 8))) (t : Nat) (h : t < bl.length) : frs s 0 (bl.take (t + 1)) = frs s 0 (bl.take t) ++ (bl.getD t [] ++ sm (bsm s t (bl.getD t []))) := by
  have e : bl.take (t + 1) = bl.take t ++ [bl.getD t []] := by
    rw [List.take_add_one, List.getElem?_eq_getElem h]
    simp [List.getD, h]
  rw [e, frs_snoc, List.length_take, Nat.zero_add, Nat.min_eq_left (by omega)]
theorem Hd.fm_bd (h : Hd) (bl : List (List (BitVec 8))) (hm : bl.map List.length = h.ls) (t : Nat) : (h.hb ++ frs h.s2 0 (bl.take t)).length ≤ h.len := by
  rw [List.length_append, h.hb_len, frs_len, List.map_take, hm]
  have := tot_take h.ls t
  unfold Hd.len
  omega
section
attribute [local irreducible] Calls el Hd.cs Hd.sh cmo rg sm
set_option maxHeartbeats 4000000 in
set_option maxRecDepth 1000000 in
theorem encode_ok (h : Hd) (ok : h.Ok) (hi : h.In) {w : World} {p : Option Addr} {bl : List (List (BitVec 8))} (HB : Rws w p bl) (n c : Nat) (hn : bl.length = n) (hm : bl.map List.length = h.ls) :
    Calls Try.prog 6 #[.agg (h.sh (.slice p n c))] w fun e w' => ∃ v, e = .returned (.tuple #[v, .int .i64 0]) ∧ Ow w' w.heap.size v (h.fm bl) ∧ Below w.heap.size w w' := by
  have al : ∀ (W : World) (o : Obj), Below W.heap.size W (W.alloc o) := fun W o => (Below.refl _ _).alloc (Nat.le_refl _) o
  have hc0 := (chk_ok h).2 ok
  have hsh : shp h.k h.m h.b := by obtain ⟨⟩ := ok; unfold shp; omega
  have BL := (show Hid _ from fun w => blens_int h.k h.m h.b h.sz hsh ((szE_ok _ _ _).2 ⟨ok.s1, ok.s2, ok.s3⟩) w)
  have LE := (show Hid _ from fun w => length_any h hi (by have := ok.y2; omega) w)
  rw [if_pos hc0, hc0] at LE
  unfold shC at BL
  have H1 := shIn_new w h (.slice p n c)
  have v1 := shV_new w h (.slice p n c)
  have hbw := al w (.cells (h.sh (.slice p n c)) 31)
  obtain ⟨q8, q9, q10, q11, q12, q13, q14, q15⟩ := H1.cells
  have FP := (show Hid _ from fun w => fixedPart_any h ok w)
  have hls : bls h.k.toNat (h.k * h.b).toNat h.sz.toNat h.sz.toNat = h.ls := rfl
  rw [hls] at BL
  clear hls hsh hc0
  go_enter Try.func6, Try.ntmps6
  go_wp2_with (first
    | (refine wpList_loadIn rfl _ rfl w.heap.size rfl H1 ?_)
    | (go_at_call 16; refine (LE.out _).mono ?_; rintro e w1 ⟨rfl, hb⟩; clear q8 q9 q10 q11 q12 q13 q14 q15; replace H1 := H1.below hb; replace v1 := cell_below v1 hb; replace hbw := bt hbw hb; obtain ⟨q8, q9, q10, q11, q12, q13, q14, q15⟩ := H1.cells))
  have hbd := (show Hid _ from hbw.drew)
  have H2 : Hid (HdIn w1.drew w.heap.size h) := HdIn.below H1 ((Below.refl w1.heap.size w1).drew)
  have V2 := (show Hid _ from cell_below v1 ((Below.refl w1.heap.size w1).drew))
  obtain ⟨r8, r9, r10, r11, r12, r13, r14, r15⟩ := HdIn.cells H2.out
  have KS := (show Hid (_ ∧ _ ∧ _ ∧ _ ∧ _) from ⟨V2.out, r8, r9, r10, r12⟩)
  clear r8 r9 r10 r11 r12 r13 r14 r15
  have hlL : h.ls.length ≤ 1099511627776 := Nat.le_trans (h.ls_bd ok) (by decide)
  have hLen : h.len ≤ 140737488355328 := by have := h.len_bd ok; omega
  go_region_held3 (fun X => X.cell? ⟨w.heap.size, 16, none⟩ = some (.slice p n c) ∧ X.cell? ⟨w.heap.size, 8, none⟩ = some (.int .i64 h.k) ∧ X.cell? ⟨w.heap.size, 9, none⟩ = some (.int .i64 h.m) ∧ X.cell? ⟨w.heap.size, 10, none⟩ = some (.int .i64 h.b) ∧ X.cell? ⟨w.heap.size, 12, none⟩ = some (.int .i64 h.sz)) (first | exact KJ.out | exact KH.out | exact KS.out | go_keep)
    (first
    | (go_at_call 18; refine (BL.out _).mono ?_; rintro e w2 ⟨vl, rfl, hO, hb2⟩; obtain ⟨pl, cl, rfl, hcl, hV⟩ := hO.rd; have KH := (show Hid (_ ∧ _ ∧ _ ∧ _ ∧ _) from ⟨cell_below KS.out.1 hb2, cell_below KS.out.2.1 hb2, cell_below KS.out.2.2.1 hb2, cell_below KS.out.2.2.2.1 hb2, cell_below KS.out.2.2.2.2 hb2⟩))
    | (go_at_call 17; refine (haveLengths_any (HB.below (bt hbd.out hb2)) hV n h.ls.length c cl hn rfl hlL).mono ?_; rintro e w3 ⟨rfl, hb3⟩; rw [decide_eq_true hm]; have KJ := (show Hid (_ ∧ _ ∧ _ ∧ _ ∧ _) from ⟨cell_below KH.out.1 hb3, cell_below KH.out.2.1 hb3, cell_below KH.out.2.2.1 hb3, cell_below KH.out.2.2.2.1 hb3, cell_below KH.out.2.2.2.2 hb3⟩)))
  replace H1 := HdIn.below (HdIn.below H2.out hb2) hb3
  replace v1 := cell_below (cell_below V2.out hb2) hb3
  replace hbw := bt (bt hbd.out hb2) hb3
  clear hbd H2 V2 KS KH KJ BL LE hV hO hb2 hb3
  have q11 := (HdIn.cells H1).2.2.2.1
  have y2 := ok.y2
  have hmk := make_room h.len hLen
  go_wp2_with (first
    | (refine wpList_loadIn rfl _ rfl w.heap.size rfl H1 ?_)
    | (refine wpList_cvS rfl _ rfl h.key rfl ?_; intro pk ck w6 hrk hb; have hb7 := hb; replace H1 := HdIn.below H1 hb; replace v1 := cell_below v1 hb; replace hbw := bt hbw hb; clear q11; have q11 := (HdIn.cells H1).2.2.2.1)
    | (go_at_call 19; refine (FP.out _).mono ?_; rintro e w4 ⟨vf, rfl, hof, hb⟩; obtain ⟨pf, cf, rfl, hcf, hrf⟩ := hof.rd; replace H1 := HdIn.below H1 hb; replace v1 := cell_below v1 hb; replace hbw := bt hbw hb; clear q11; have q11 := (HdIn.cells H1).2.2.2.1)
    | (go_at_call 20; refine (csum_any hrf _ cf rfl (by rw [h.fx_len]; omega)).mono ?_; rintro e w5 ⟨rfl, hb⟩; replace hrf := hrf.below hb; replace H1 := HdIn.below H1 hb; replace v1 := cell_below v1 hb; replace hbw := bt hbw hb; clear q11; have q11 := (HdIn.cells H1).2.2.2.1)
    | (go_at_call 21; refine (cmore_any hrk _ _ ck rfl (by omega)).mono ?_; rintro e w7 ⟨rfl, hb⟩; replace hrf := (hrf.below hb7).below hb; replace H1 := HdIn.below H1 hb; replace v1 := cell_below v1 hb; replace hbw := bt hbw hb; clear q11; have q11 := (HdIn.cells H1).2.2.2.1; have hb0 := hbw; have hbW := Below.refl w7.heap.size w7; have hF := Ow.made w7 h.len hLen; have al7 := al w7 (.cells (Array.replicate h.len (.int .u8 0)) 5); replace hrf := hrf.below al7; replace hbW := al7; clear hb hb7 hrk)
    | (at_builtin; refine wpList_apa rfl (.tmp 44) (.tmp 45) rfl w7.heap.size _ [] rfl hF pf _ cf h.fx rfl hrf rfl (by rw [h.fx_len]; simp) hbW.size ?_; intro v8 w8 ho hg hk; replace hbW := hF.below_append hbW hbW.size hg (Nat.le_refl _); replace hF := ho; rw [List.nil_append] at hF; clear ho hg hk hrf)
    | (at_builtin; refine wpList_apS rfl (.tmp 50) (.tmp 53) rfl w7.heap.size _ (h.fx ++ sm (cmo 0#32 h.fx)) rfl hF h.key rfl (by rw [List.length_append, h.fx_len, sm_len]; omega) hbW.size ?_; intro v10 w10 ho hg; replace hbW := hF.below_append hbW hbW.size hg (Nat.le_refl _); replace hF := ho; clear ho hg)
    | (go_at_call 22; refine (appendSum_any hF hbW.size (by first | (rw [h.fx_len]; decide) | (rw [List.length_append, List.length_append, h.fx_len, sm_len]; omega)) _).mono ?_; rintro e w9 ⟨v9, rfl, ho, hb⟩; replace hbW := hbW.trans hb; replace hF := ho; clear ho hb; have q11 := (HdIn.cells (HdIn.below H1 hbW)).2.2.2.1; have v1' := cell_below v1 hbW))
  have HR := (show Hid (Rws w7 p bl) from HB.below hb0)
  have hnl : n ≤ 1048576 := by rw [← hn, ← List.length_map (f := List.length), hm]; exact h.ls_bd ok
  have hLL := (show Hid _ from h.len_bd ok)
  have HM := (show Hid (bl.map List.length = h.ls) from hm)
  have HN := (show Hid (bl.length = n) from hn)
  clear hm hn H1 v1 v1' q11 hmk hlL FP HB ok hi
  go_loopw [9, 61] (fun o i wr => ∃ t : Nat, t ≤ n ∧ i = .int .i64 (t : Int) ∧ Ow wr w7.heap.size o (h.hb ++ frs h.s2 0 (bl.take t)) ∧ Below w7.heap.size w7 wr) (fun _ i _ => n - (intOf i).toNat)
  case atStart => exact ⟨0, Nat.zero_le _, rfl, by rw [List.take_zero]; show Ow _ _ _ (h.fx ++ sm h.s1 ++ h.key ++ sm h.s2 ++ []); rw [List.append_nil]; exact hF, hbW⟩
  case round =>
    clear hF hbW
    obtain ⟨t, ht, rfl, hO, hbr⟩ := hrel
    by_cases hlt : t < n
    · obtain ⟨gb, go, qb, cb, rfl, hc, hcap, hr⟩ := HR.out.row t (by rw [HN.out]; exact hlt)
      have hc' := cell_below hc hbr
      have hr' := hr.below hbr
      have hi : (t : Int) < (n : Int) := by omega
      have hsn := frs_take h.s2 bl t (by rw [HN.out]; exact hlt)
      have hbd := h.fm_bd bl HM.out t
      have hbd1 := h.fm_bd bl HM.out (t + 1)
      rw [hsn, ← List.append_assoc, ← List.append_assoc, List.length_append, List.length_append] at hbd1
      have hLL' := hLL.out
      have HX : h.hb ++ frs h.s2 0 (bl.take (t + 1)) = (h.hb ++ frs h.s2 0 (bl.take t)) ++ bl.getD t [] ++ sm (bsm h.s2 t (bl.getD t [])) := by rw [hsn]; simp only [List.append_assoc]
      generalize bl.getD t [] = x at hc hc' hr hr' hcap hsn hbd1 HX
      generalize h.hb ++ frs h.s2 0 (bl.take t) = ys at hO hbd hbd1 HX
      have HX' := (show Hid (_ = _) from HX)
      clear HX
      have HRx := (show Hid (∀ W, Below w7.heap.size w7 W → Rd W qb x) from fun W hW => hr.below hW)
      clear hsn hc hr
      go_wp2_with (first
        | (at_builtin; refine wpList_apa rfl (.tmp 66) (.tmp 67) rfl w7.heap.size u9 ys rfl hO qb x.length cb x rfl hr' rfl (by omega) hbr.size ?_; intro v2 w2 ho2 hg2 hk2; have hb2 := hO.below_append hbr hbr.size hg2 (Nat.le_refl _))
        | (go_at_call 23; refine (blockSum_any (HRx.out _ hb2) x.length cb rfl (by omega) h.s2 t (by omega)).mono ?_; rintro e w3 ⟨rfl, hb3⟩)
        | (go_at_call 22; refine (appendSum_any (ho2.below hb3) (Nat.le_trans hb2.size hb3.size) (by rw [List.length_append]; omega) _).mono ?_; rintro e w4 ⟨v4, rfl, ho4, hb4⟩))
      go_roundw
      case rel => exact ⟨t + 1, hlt, by go_num, by rw [HX'.out]; exact ho4, (hb2.trans (hb3.mono hb2.size)).trans hb4⟩
      case measure => simp [intOf]; omega
    · obtain rfl : t = n := by omega
      have htk : bl.take t = bl := List.take_of_length_le (by rw [HN.out]; exact Nat.le_refl _)
      rw [htk] at hO
      clear htk
      go_wp2
      go_ret2
      exact ⟨_, rfl, hO.mono hb0.size, hb0.trans (hbr.mono hb0.size)⟩
end
end Go.Proofs.Ytfcjkaigmlfjnaa
