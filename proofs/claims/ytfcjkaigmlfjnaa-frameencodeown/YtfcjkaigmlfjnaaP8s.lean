/-
  Package frame: 'rightBlocks'.
-/
import Derived.Test.YtfcjkaigmlfjnaaP8r
import Derived.Test.YtfcjkaigmlfjnaaEn8
namespace Go.Proofs.Ytfcjkaigmlfjnaa
open Go.RowKit
/-- The blocks as they are told. -/
def vbl (gb go c : Nat) (b : List (BitVec 8)) (s : BitVec 32) : Nat → Nat → List Nat → List Value
  | _, _, [] => []
  | a, j, n :: ns => vb gb (go + a) n (c - a) (rb b a n s j) :: vbl gb go c b s (a + n + 4) (j + 1) ns
theorem vbl_len (gb go c : Nat) (b : List (BitVec 8)) (s : BitVec 32) (ns : List Nat) : ∀ a j, (vbl gb go c b s a j ns).length = ns.length := by
  induction ns with
  | nil => intro a j; rfl
  | cons n ns ih => intro a j; simp [vbl, ih]
theorem vb_none (gb o n c : Nat) : vb gb o n c none = .slice none 0 0 := rfl
theorem vb_some (gb o n c : Nat) (x : List (BitVec 8)) : vb gb o n c (some x) = .slice (some ⟨gb, o, none⟩) n c := rfl
theorem vb_one (gb o n c : Nat) (x : Option (List (BitVec 8))) : (vb gb o n c x).oneCell' = true := by cases x <;> rfl
theorem bls_pos (k s : Nat) (hk : 1 ≤ k) (hs : 1 ≤ s) : ∀ f l, ∀ n ∈ bls k s f l, 1 ≤ n := by
  intro f
  induction f with
  | zero => intro l n hn; simp [bls] at hn
  | succ f ih =>
    intro l n hn
    unfold bls at hn
    split at hn
    · simp at hn
    · rcases List.mem_cons.1 hn with rfl | hn
      · exact (Nat.le_div_iff_mul_le (by omega)).2 (by omega)
      · exact ih _ n hn
theorem Hd.ls_pos (h : Hd) (ok : h.Ok) : ∀ n ∈ h.ls, 1 ≤ n := by
  have hsh : shp h.k h.m h.b := by obtain ⟨⟩ := ok; unfold shp; omega
  have kb := kb_bd hsh
  have k1 := ok.k1
  exact bls_pos _ _ (by omega) (by omega) _ _
/-- The head's sum as it stands there. -/
def Hd.at (h : Hd) (bs : List (BitVec 8)) : BitVec 32 := BitVec.ofNat 32 (lv (cutl bs (36 + h.key.length) 4))
theorem Hd.at_rg (h : Hd) (bs : List (BitVec 8)) : ((lv (cutl bs (36 + h.key.length) 4) : Nat) : Int) = rg (h.at bs) := by
  have := lv4 (cutl bs (36 + h.key.length) 4) (by unfold cutl; rw [List.length_take]; omega)
  unfold Hd.at
  rw [rg_nat _ this]
section
attribute [local irreducible] Calls el Hd.cs cmo rg sm bsm vb rb
set_option maxHeartbeats 4000000 in
set_option maxRecDepth 1000000 in
theorem rightBlocks_any (h : Hd) (ok : h.Ok) {w : World} {gb go : Nat} {bs : List (BitVec 8)} (hr : Rd w (some ⟨gb, go, none⟩) bs) (n c : Nat) (hn : bs.length = n) (hc : n ≤ c) (hcc : n ≤ 211106232532992) (hl : 40 + h.key.length ≤ n) :
    Calls Try.prog 25 #[.agg h.cs, .slice (some ⟨gb, go, none⟩) n c] w fun e w' => ∃ v, e = .returned v ∧ Or w' w.heap.size v (vbl gb go c bs (h.at bs) (40 + h.key.length) 0 h.ls) ∧ Below w.heap.size w w' := by
  have al : ∀ (W : World) (o : Obj), Below W.heap.size W (W.alloc o) := fun W o => (Below.refl _ _).alloc (Nat.le_refl _) o
  have hsh : shp h.k h.m h.b := by obtain ⟨⟩ := ok; unfold shp; omega
  have BL := (show Hid _ from fun w => blens_int h.k h.m h.b h.sz hsh ((szE_ok _ _ _).2 ⟨ok.s1, ok.s2, ok.s3⟩) w)
  have HL := (show Hid _ from fun w => headLength_any h (by have := ok.y2; omega) w)
  have SA := (show Hid _ from fun W (hW : Below w.heap.size w W) => sumAt_any (hr.below hW) n c (36 + h.key.length) hn hc (by omega) (by omega))
  have e36 : ((36 + h.key.length : Nat) : Int) = 40 + (h.key.length : Int) - 4 := by omega
  rw [h.at_rg, e36] at SA
  clear e36
  unfold shC at BL
  have hls : bls h.k.toNat (h.k * h.b).toNat h.sz.toNat h.sz.toNat = h.ls := rfl
  rw [hls] at BL
  have HA := HdAt.new w h
  have hy := ok.y2
  clear hls hsh
  have hbw := al w (.cells h.cs 28)
  go_enter Try.func25, Try.ntmps25
  go_wp2_with (first
    | (refine wpList_loadHd rfl _ rfl w.heap.size rfl HA ?_)
    | (go_at_call 29; refine (HL.out _).mono ?_; rintro e w1 ⟨rfl, hb⟩; replace HA := HA.below hb; replace hbw := bt hbw hb)
    | (go_at_call 35; (refine (SA.out _ hbw).mono ?_; rintro e w2 ⟨rfl, hb⟩; replace HA := HA.below hb; replace hbw := bt hbw hb; obtain ⟨z8, z9, z10, z11, z12, z13, z14, z15⟩ := HA.cells))
    | (go_at_call 18; refine (BL.out _).mono ?_; rintro e w4 ⟨v, rfl, hO, hb4⟩; obtain ⟨p, cap, rfl, hcap, hV⟩ := hO.rd))
  have hbd := h.len_bd ok
  have hpos := (show Hid _ from h.ls_pos ok)
  have hlb := h.ls_bd ok
  have hlen : h.len = 40 + h.key.length + tot h.ls := rfl
  have RBB := (show Hid (∀ (W : World) (a l j : Nat) (s : BitVec 32), Below w.heap.size w W → a + l ≤ 35184372088832 → 1 ≤ l → j < 4294967296 → _) from fun W a l j s hW h1 h2 h3 => rightBlock_any (hr.below hW) n c a l j s hn hc hcc h1 h2 h3)
  have hb0 := (show Hid (Below w.heap.size w w4) from bt hbw hb4)
  obtain ⟨sv, HSV⟩ : ∃ sv, Hid (h.at bs = sv) := ⟨_, rfl⟩
  obtain ⟨L, HLS⟩ : ∃ L, Hid (h.ls = L) := ⟨_, rfl⟩
  obtain ⟨yl, HYL⟩ : ∃ yl, Hid (h.key.length = yl) := ⟨_, rfl⟩
  rw [HSV.out]
  rw [HLS.out] at hV hcap hlen hpos hlb ⊢
  rw [HYL.out] at hlen hy ⊢
  clear BL HL SA HA hO hbw hb4 z8 z9 z10 z11 z12 z13 z14 z15 hr ok hl
  go_loopw [5, 6, 22] (fun o q i wr => ∃ (t a : Nat) (ys : List Value), t ≤ L.length ∧ i = .int .i64 (t : Int) ∧ q = .int .i64 (a : Int) ∧ Hid (a = 40 + yl + tot (L.take t)) ∧ ys.length = t ∧ ys ++ vbl gb go c bs sv a t (L.drop t) = vbl gb go c bs sv (40 + yl) 0 L ∧ Or wr w4.heap.size o ys ∧ Below w4.heap.size w4 wr) (fun _ _ i _ => L.length - (intOf i).toNat)
  case atStart => exact ⟨0, 40 + yl, [], Nat.zero_le _, rfl, by go_num, (show 40 + yl = 40 + yl + tot (L.take 0) by simp [tot]), rfl, rfl, Or.nil _ _, Below.refl _ _⟩
  case round =>
    obtain ⟨t, a, ys, ht, rfl, rfl, ha, hyl, he, hOr, hbr⟩ := hrel
    have htk := tot_take L t
    have hab : a ≤ h.len := by rw [ha.out, hlen]; omega
    by_cases hlt : t < L.length
    · obtain ⟨pb, po, rfl, hc0⟩ := hV.num t hlt
      have hc' := cell_below hc0 hbr
      have hsc := tot_snoc L t hlt
      have htk1 := tot_take L (t + 1)
      have hab1 : a + (L.getD t 0 + 4) ≤ h.len := by rw [ha.out, hlen]; omega
      have HS1 : Hid (a + L.getD t 0 + 4 = 40 + yl + tot (L.take (t + 1))) := by show _ = _; rw [ha.out, hsc]; omega
      have hi : (t : Int) < (L.length : Int) := by omega
      have hdr : L.drop t = L.getD t 0 :: L.drop (t + 1) := by
        rw [List.drop_eq_getElem_cons hlt]; simp [List.getD, hlt]
      have hd1 := hpos.out (L.getD t 0) (by simp [List.getD, hlt])
      generalize L.getD t 0 = d at hc0 hc' hsc hdr hd1 hab1 HS1
      rw [hdr] at he
      have hst : vbl gb go c bs sv a t (d :: L.drop (t + 1)) = vb gb (go + a) d (c - a) (rb bs a d sv t) :: vbl gb go c bs sv (a + d + 4) (t + 1) (L.drop (t + 1)) := rfl
      rw [hst, List.append_cons] at he
      clear hst hdr hc0 hsc htk1
      have RB := (show Hid _ from RBB.out wr a d t sv (hb0.out.trans (hbr.mono hb0.out.size)) (by omega) (by omega) (by omega))
      cases hx : rb bs a d sv t with
      | none =>
        rw [hx] at he RB
        rw [vb_none] at he RB
        have HE' := (show Hid (_ = _) from he)
        clear he
        have rc := fun W : World => cell_of_row (W.alloc (.cells #[.slice none 0 0] 35)) W.heap.size 0 _ _ (0, 0) (heap_alloc_new W _)
        go_wp2_with (first
          | (go_at_call 37; refine RB.out.mono ?_; rintro e w5 ⟨rfl, hb5⟩)
          | (at_builtin; refine wpList_apr rfl (.tmp 27) (.tmp 34) rfl w4.heap.size u5 ys rfl ((hOr.below hb5).below (al _ _)) ⟨w5.heap.size, 0, none⟩ 1 (.slice none 0 0) rfl rfl (rc w5) (by omega) (Nat.le_trans (Nat.le_trans hbr.size hb5.size) (al _ _).size) ?_; intro v6 w6 ho6 hg6))
        go_roundw
        case rel =>
          have hbA := below_append (t := 35) ((hbr.trans (hb5.mono hbr.size)).alloc (Nat.le_trans hbr.size hb5.size) _) (Nat.le_trans (Nat.le_trans hbr.size hb5.size) (al _ _).size) hg6 ((hOr.below hb5).below (al _ _)) (Nat.le_refl _)
          exact ⟨t + 1, a + d + 4, ys ++ [.slice none 0 0], hlt, by go_num, by go_num, HS1, by rw [List.length_append, hyl]; rfl, HE'.out, ho6, hbA⟩
        case measure => simp [intOf]; omega
      | some x =>
        rw [hx] at he RB
        rw [vb_some] at he RB
        have HE' := (show Hid (_ = _) from he)
        clear he
        have rc := fun W : World => cell_of_row (W.alloc (.cells #[.slice (some ⟨gb, go + a, none⟩) d (c - a)] 35)) W.heap.size 0 _ _ (0, 0) (heap_alloc_new W _)
        go_wp2_with (first
          | (go_at_call 37; refine RB.out.mono ?_; rintro e w5 ⟨rfl, hb5⟩)
          | (at_builtin; refine wpList_apr rfl (.tmp 27) (.tmp 34) rfl w4.heap.size u5 ys rfl ((hOr.below hb5).below (al _ _)) ⟨w5.heap.size, 0, none⟩ 1 (.slice (some ⟨gb, go + a, none⟩) d (c - a)) rfl rfl (rc w5) (by omega) (Nat.le_trans (Nat.le_trans hbr.size hb5.size) (al _ _).size) ?_; intro v6 w6 ho6 hg6))
        go_roundw
        case rel =>
          have hbA := below_append (t := 35) ((hbr.trans (hb5.mono hbr.size)).alloc (Nat.le_trans hbr.size hb5.size) _) (Nat.le_trans (Nat.le_trans hbr.size hb5.size) (al _ _).size) hg6 ((hOr.below hb5).below (al _ _)) (Nat.le_refl _)
          exact ⟨t + 1, a + d + 4, ys ++ [.slice (some ⟨gb, go + a, none⟩) d (c - a)], hlt, by go_num, by go_num, HS1, by rw [List.length_append, hyl]; rfl, HE'.out, ho6, hbA⟩
        case measure => simp [intOf]; omega
    · obtain rfl : t = L.length := by omega
      rw [List.drop_length] at he
      have he' : ys = vbl gb go c bs sv (40 + yl) 0 L := by rw [← he]; exact (List.append_nil _).symm
      subst he'
      clear he
      go_wp2
      go_ret
      exact ⟨_, rfl, by rw [HSV.out, HLS.out, HYL.out]; exact own_mono hOr hb0.out.size, hb0.out.trans (hbr.mono hb0.out.size)⟩
end
end Go.Proofs.Ytfcjkaigmlfjnaa
