/-
  What FrameForm asks, as mathematics.
-/
import Derived.Test.YtmfabocllkbbaaaPz8
import Derived.Test.YtmfabocllkbbaaaSa8
import Derived.Test.YtmfabocllkbbaaaEn9
import Derived.Test.YtmfabocllkbbaaaSi8
import Derived.Deep.RegionWith
namespace Go.Proofs.Ytmfabocllkbbaaa
theorem pS_no (b : List (BitVec 8)) (e : (pS b).1 ≠ 0) : (pS b).2 = (hd0, []) := by
  unfold pS at e ⊢
  split
  · rfl
  rename_i h1
  rw [if_neg h1] at e
  split
  · rfl
  rename_i h2
  rw [if_neg h2] at e
  split
  · rfl
  rename_i h3
  rw [if_neg h3] at e
  split
  · rfl
  · rename_i l hl
    rw [hl] at e
    exact absurd rfl e
theorem pS_head (b : List (BitVec 8)) (e : (pH b).1 ≠ 0) : (pS b).1 = (pH b).1 ∧ sP b = ((pH b).1, []) := by
  unfold pS sP
  rw [if_pos e, if_pos e]
  exact ⟨rfl, rfl⟩
/-- Which of the three ways a shard is refused whose head is right. -/
theorem pS_ways (b : List (BitVec 8)) (h0 : (pH b).1 = 0) (e : (pS b).1 ≠ 0) : (sP b).1 = 0 ∧ (((pS b).1 = 70 ∧ b.length < (pH b).2.len) ∨ ((pS b).1 = 72 ∧ (pH b).2.len < b.length) ∨ ((pS b).1 = 82 ∧ b.length = (pH b).2.len ∧ 0 < (sP b).2.length)) := by
  unfold pS sP at *
  rw [if_neg (not_not_intro h0)] at *
  rw [if_neg (not_not_intro h0)] at *
  refine ⟨rfl, ?_⟩
  by_cases h1 : b.length < (pH b).2.len
  · rw [if_pos h1]; exact .inl ⟨rfl, h1⟩
  · rw [if_neg h1] at *
    by_cases h2 : (pH b).2.len < b.length
    · rw [if_pos h2]; exact .inr (.inl ⟨rfl, h2⟩)
    · rw [if_neg h2] at *
      refine .inr (.inr ?_)
      cases ha : alls ((pH b).2.bk b) with
      | none =>
        refine ⟨rfl, by omega, ?_⟩
        show 0 < (spo 0 ((pH b).2.bk b)).length
        rcases Nat.eq_zero_or_pos (spo 0 ((pH b).2.bk b)).length with h | h
        · obtain ⟨bl, hbl⟩ := (spo_alls _ 0).1 (List.length_eq_zero_iff.1 h)
          rw [ha] at hbl; cases hbl
        · exact h
      | some l => rw [ha] at e; exact absurd rfl e
/-- A shard that is read: its head, its form, nothing spoilt. -/
theorem pS_yes (b : List (BitVec 8)) (e : (pS b).1 = 0) : pH b = (0, (pS b).2.1) ∧ May (pS b).2.1 (pS b).2.2 ∧ b = (pS b).2.1.fm (pS b).2.2 ∧ sP b = (0, []) := by
  obtain ⟨hm, hb⟩ := pS_inv b (pS b).2.1 (pS b).2.2 (by rw [← e])
  generalize (pS b).2.1 = h at *
  generalize (pS b).2.2 = bl at *
  have h1 := pH_form h hm.1 bl []
  have h2 := sP_fm h bl hm []
  rw [List.append_nil, ← hb] at h1 h2
  exact ⟨h1, hm, hb, h2⟩
end Go.Proofs.Ytmfabocllkbbaaa
/-
  FrameForm: the walk.
-/
namespace Go.Proofs.Ytmfabocllkbbaaa
open Go.RowKit
/-- What 'awake' says, as a premise. -/
def AWk : Prop := ∀ w : World, Calls Try.prog 4 #[] w fun e w' => e = .returned (.bool true) ∧ Below w.heap.size w w'
theorem HdIn.c16 {w : World} {g : Nat} {h : Hd} (H : HdIn w g h) : w.cell? ⟨g, 0, none⟩ = some (.int .u8 (el h.a0)) ∧ w.cell? ⟨g, 1, none⟩ = some (.int .u8 (el h.a1)) ∧ w.cell? ⟨g, 2, none⟩ = some (.int .u8 (el h.a2)) ∧ w.cell? ⟨g, 3, none⟩ = some (.int .u8 (el h.a3)) ∧ w.cell? ⟨g, 4, none⟩ = some (.int .u8 (el h.a4)) ∧ w.cell? ⟨g, 5, none⟩ = some (.int .u8 (el h.a5)) ∧ w.cell? ⟨g, 6, none⟩ = some (.int .u8 (el h.a6)) ∧ w.cell? ⟨g, 7, none⟩ = some (.int .u8 (el h.a7)) ∧ w.cell? ⟨g, 8, none⟩ = some (.int .i64 h.k) ∧ w.cell? ⟨g, 9, none⟩ = some (.int .i64 h.m) ∧ w.cell? ⟨g, 10, none⟩ = some (.int .i64 h.b) ∧ w.cell? ⟨g, 11, none⟩ = some (.string (bstr h.key)) ∧ w.cell? ⟨g, 12, none⟩ = some (.int .i64 h.sz) ∧ w.cell? ⟨g, 13, none⟩ = some (.int .i64 h.ix) ∧ w.cell? ⟨g, 14, none⟩ = some (.int .i64 h.ep) ∧ w.cell? ⟨g, 15, none⟩ = some (.int .i64 h.ct) :=
  ⟨H 0 _ rfl, H 1 _ rfl, H 2 _ rfl, H 3 _ rfl, H 4 _ rfl, H 5 _ rfl, H 6 _ rfl, H 7 _ rfl, H 8 _ rfl, H 9 _ rfl, H 10 _ rfl, H 11 _ rfl, H 12 _ rfl, H 13 _ rfl, H 14 _ rfl, H 15 _ rfl⟩
theorem HdAt.hin {w : World} {g : Nat} {h : Hd} (H : HdAt w g h) : HdIn w g h := by
  intro j v hj
  unfold HdAt at H
  rw [cell_of_row w g j _ _ (0, 0) H, ← Array.getElem?_toList]; exact hj
theorem cs16 (h : Hd) : h.cs = #[.int .u8 (el h.a0), .int .u8 (el h.a1), .int .u8 (el h.a2), .int .u8 (el h.a3), .int .u8 (el h.a4), .int .u8 (el h.a5), .int .u8 (el h.a6), .int .u8 (el h.a7), .int .i64 h.k, .int .i64 h.m, .int .i64 h.b, .string (bstr h.key), .int .i64 h.sz, .int .i64 h.ix, .int .i64 h.ep, .int .i64 h.ct] := rfl
section
attribute [local irreducible] Calls el Hd.cs Hd.sh cmo rg sm bsm
set_option maxHeartbeats 4000000 in
set_option maxRecDepth 1000000 in
theorem form_yes (AW : AWk) {w : World} {p : Option Addr} {bs : List (BitVec 8)} (hr : Rd w p bs) (n c : Nat) (hn : bs.length = n) (hc : n ≤ c) (hcc : n ≤ 140737488355328) (h0 : (pS bs).1 = 0) :
    Calls Try.prog 3 #[.slice p n c] w fun e w' => e = .returned (.bool true) ∧ Below w.heap.size w w' := by
  have al : ∀ (W : World) (o : Obj), Below W.heap.size W (W.alloc o) := fun W o => (Below.refl _ _).alloc (Nat.le_refl _) o
  obtain ⟨y1, y2, y3, y4⟩ := pS_yes bs h0
  have PA := (show Hid (∀ (W : World), Below w.heap.size w W → _) from fun W hW => parse_any (hr.below hW) n c hn hc hcc)
  have PH := (show Hid (∀ (W : World), Below w.heap.size w W → _) from fun W hW => pHead_any rhd_ok (hr.below hW) n c hn hc hcc)
  have SP := (show Hid (∀ (W : World), Below w.heap.size w W → _) from fun W hW => spoilt_any rhd_ok (hr.below hW) n c hn hc hcc)
  rw [h0] at PA
  rw [y1] at PH
  rw [y4] at SP
  have hin : (pS bs).2.1.In := by have := pH_in bs (by rw [y1]); rw [y1] at this; exact this
  generalize (pS bs).2.1 = hd at *
  generalize (pS bs).2.2 = bl at *
  have hck := (chk_ok hd).2 y2.1
  have NU := (show Hid _ from fun z w => num_any z w)
  have CK := (show Hid _ from fun w => check_any hd hin (by have := y2.1.y2; omega) w)
  rw [hck] at CK
  have EN := (show Hid (∀ (W : World) (p : Option Addr) (c : Nat), Rws W p bl → _) from fun W p c h => encode_ok hd y2.1 hin h bl.length c rfl y2.2)
  rw [← y3] at EN
  have KC := (show Hid (∀ (W : World), Below w.heap.size w W → (convert 22 9 (.slice p n c)).run Try.prog W = .ok (.string (bstr bs)) W) from fun W hW => conv_rd (hr.below hW) n c hn)
  have hqq : hq hd hd = true := (hq_iff _ _).2 rfl
  have hbw : Below w.heap.size w w := Below.refl _ _
  have eh := fun W => eql_head hd hd W
  rw [hqq] at eh
  have eb := bstr_beq bs bs
  rw [decide_eq_true rfl] at eb
  rw [cs16 hd] at CK eh
  clear h0 y1 y3 y4
  go_enter Try.func3, Try.ntmps3
  go_wp2_with (first
    | (go_at_call 4; refine (AW _).mono ?_; rintro e w1 ⟨rfl, hb⟩; replace hbw := bt hbw hb)
    | (go_at_call 8; refine (NU.out _ _).mono ?_; rintro e w9 ⟨rfl, h9⟩; obtain rfl := h9.symm)
    | (go_at_call 5; refine (PA.out _ hbw).mono ?_; rintro e w2 ⟨v2, rfl, hB2, hb⟩; obtain ⟨q2, d2, rfl, hd2, hR2⟩ := hB2.rws; replace hbw := bt hbw hb)
    | (refine wpList_stS hd (.slice q2 bl.length d2) rfl rfl _ _ rfl rfl w2.heap.size rfl rfl (sz0 (heap_alloc_new w2 _)) ?_; intro wS HS hTS; have hb := hTS.2.1 _ _ (al w2 _) (Nat.le_refl _); replace hbw := bt hbw hb; replace hR2 := hR2.below hb)
    | (go_at_call 6; refine (PH.out _ hbw).mono ?_; rintro e w3 ⟨rfl, hb⟩; replace hbw := bt hbw hb; replace hR2 := hR2.below hb; replace HS := HS.below hb)
    | (refine wpList_stH hd rfl _ _ rfl rfl w3.heap.size rfl rfl (hz0 (heap_alloc_new w3 _)) ?_; intro wH HH hTH; have hb := hTH.2.1 _ _ (al w3 _) (Nat.le_refl _); replace hbw := bt hbw hb; replace hR2 := hR2.below hb; replace HS := HS.below hb)
    | (go_at_call 7; refine (SP.out _ hbw).mono ?_; rintro e w4 ⟨v4, rfl, hO4, hb⟩; obtain ⟨p4, c4, rfl, hc4, hV4⟩ := hO4.rd; replace hbw := bt hbw hb; replace hR2 := hR2.below hb; replace HS := HS.below hb; replace HH := HH.below hb)
    | (refine wpList_ldS rfl _ rfl w2.heap.size rfl HS ?_)
    | (go_at_call 11; refine (EN.out _ _ _ hR2).mono ?_; rintro e w5 ⟨v5, rfl, hO5, hb⟩; obtain ⟨p5, c5, rfl, hc5, hr5⟩ := hO5.rd; replace hbw := bt hbw hb; replace HS := HS.below hb; replace HH := HH.below hb; have kc := KC.out _ hbw; have kd := conv_rd hr5 bs.length c5 rfl; rw [hn] at kd; obtain ⟨a0, a1, a2, a3, a4, a5, a6, a7, a8, a9, a10, a11, a12, a13, a14, a15⟩ := HdIn.c16 (HdAt.hin HH); obtain ⟨b0, b1, b2, b3, b4, b5, b6, b7, b8, b9, b10, b11, b12, b13, b14, b15⟩ := HdIn.c16 (SdAt.head HS))
    | (go_at_call 12; refine (CK.out _).mono ?_; rintro e w6 ⟨rfl, hb⟩; replace hbw := bt hbw hb))
  go_ret
  exact ⟨rfl, hbw⟩
end
end Go.Proofs.Ytmfabocllkbbaaa
/-
  FrameForm: the walk, where the bytes are refused.
-/
namespace Go.Proofs.Ytmfabocllkbbaaa
open Go.RowKit
section
attribute [local irreducible] Calls el Hd.cs Hd.sh cmo rg sm bsm
set_option maxHeartbeats 4000000 in
set_option maxRecDepth 1000000 in
theorem form_head (AW : AWk) {w : World} {p : Option Addr} {bs : List (BitVec 8)} (hr : Rd w p bs) (n c : Nat) (hn : bs.length = n) (hc : n ≤ c) (hcc : n ≤ 140737488355328) (h0 : (pH bs).1 ≠ 0) :
    Calls Try.prog 3 #[.slice p n c] w fun e w' => e = .returned (.bool true) ∧ Below w.heap.size w w' := by
  have al : ∀ (W : World) (o : Obj), Below W.heap.size W (W.alloc o) := fun W o => (Below.refl _ _).alloc (Nat.le_refl _) o
  obtain ⟨y1, y2⟩ := pS_head bs h0
  have y3 := pH_no bs h0
  have y4 := pS_no bs (by rw [y1]; exact h0)
  have PA := (show Hid (∀ (W : World), Below w.heap.size w W → _) from fun W hW => parse_any (hr.below hW) n c hn hc hcc)
  have PH := (show Hid (∀ (W : World), Below w.heap.size w W → _) from fun W hW => pHead_any rhd_ok (hr.below hW) n c hn hc hcc)
  have SP := (show Hid (∀ (W : World), Below w.heap.size w W → _) from fun W hW => spoilt_any rhd_ok (hr.below hW) n c hn hc hcc)
  rw [y1, y4] at PA
  rw [y3] at PH
  rw [y2] at SP
  generalize (pH bs).1 = z at *
  have NU := (show Hid _ from fun z w => num_any z w)
  have hqq : hq hd0 hd0 = true := (hq_iff _ _).2 rfl
  have SM := (show Hid (∀ (W : World) (q : Option Addr) (d : Nat), Rws W q [] → Calls Try.prog 9 #[.agg (hd0.sh (.slice q 0 d)), .agg #[.int .u8 0, .int .u8 0, .int .u8 0, .int .u8 0, .int .u8 0, .int .u8 0, .int .u8 0, .int .u8 0, .int .i64 0, .int .i64 0, .int .i64 0, .string ⟨#[]⟩, .int .i64 0, .int .i64 0, .int .i64 0, .int .i64 0, .slice none 0 0]] W fun e w' => e = .returned (.bool true) ∧ Below W.heap.size W w') from fun W q d h1 => by
    have h := same_any hd0 hd0 h1 (.inl rfl : Rws W none []) 0 d 0 0 rfl rfl (by omega)
    rw [hqq, decide_eq_true rfl, sh0_cs] at h
    exact h)
  have hbw : Below w.heap.size w w := Below.refl _ _
  have eh := fun W => eql_head hd0 hd0 W
  rw [hqq, hd0_cs] at eh
  clear y1 y2 y3 y4
  go_enter Try.func3, Try.ntmps3
  go_wp2_with (first
    | (go_at_call 4; refine (AW _).mono ?_; rintro e w1 ⟨rfl, hb⟩; replace hbw := bt hbw hb)
    | (go_at_call 8; refine (NU.out _ _).mono ?_; rintro e w9 ⟨rfl, h9⟩; obtain rfl := h9.symm)
    | (go_at_call 5; refine (PA.out _ hbw).mono ?_; rintro e w2 ⟨v2, rfl, hB2, hb⟩; obtain ⟨q2, d2, hv2, hd2, hR2⟩ := hB2.rws; replace hv2 : v2 = .slice q2 0 d2 := hv2; subst hv2; replace hR2 : Rws w2 q2 [] := hR2; replace hbw := bt hbw hb)
    | (refine wpList_stS hd0 (.slice q2 0 d2) rfl rfl _ _ rfl rfl w2.heap.size rfl rfl (sz0 (heap_alloc_new w2 _)) ?_; intro wS HS hTS; have hb := hTS.2.1 _ _ (al w2 _) (Nat.le_refl _); replace hbw := bt hbw hb; replace hR2 := hR2.below hb)
    | (go_at_call 6; refine (PH.out _ hbw).mono ?_; rintro e w3 ⟨rfl, hb⟩; replace hbw := bt hbw hb; replace hR2 := hR2.below hb; replace HS := HS.below hb)
    | (refine wpList_stH hd0 rfl _ _ rfl rfl w3.heap.size rfl rfl (hz0 (heap_alloc_new w3 _)) ?_; intro wH HH hTH; have hb := hTH.2.1 _ _ (al w3 _) (Nat.le_refl _); replace hbw := bt hbw hb; replace hR2 := hR2.below hb; replace HS := HS.below hb)
    | (go_at_call 7; refine (SP.out _ hbw).mono ?_; rintro e w4 ⟨v4, rfl, hO4, hb⟩; obtain ⟨p4, c4, rfl, hc4, hV4⟩ := hO4.rd; replace hbw := bt hbw hb; replace hR2 := hR2.below hb; replace HS := HS.below hb; replace HH := HH.below hb)
    | (refine wpList_ldS rfl _ rfl w2.heap.size rfl HS ?_)
    | (go_at_call 9; refine (SM.out _ _ _ hR2).mono ?_; rintro e w5 ⟨rfl, hb⟩; replace hbw := bt hbw hb; replace HH := HH.below hb; have HH2 := HH; unfold HdAt at HH2; rw [hd0_cs] at HH2; have a0 := cell_of_row w5 w3.heap.size 0 _ _ (0, 0) HH2; have a1 := cell_of_row w5 w3.heap.size 1 _ _ (0, 0) HH2; have a2 := cell_of_row w5 w3.heap.size 2 _ _ (0, 0) HH2; have a3 := cell_of_row w5 w3.heap.size 3 _ _ (0, 0) HH2; have a4 := cell_of_row w5 w3.heap.size 4 _ _ (0, 0) HH2; have a5 := cell_of_row w5 w3.heap.size 5 _ _ (0, 0) HH2; have a6 := cell_of_row w5 w3.heap.size 6 _ _ (0, 0) HH2; have a7 := cell_of_row w5 w3.heap.size 7 _ _ (0, 0) HH2; have a8 := cell_of_row w5 w3.heap.size 8 _ _ (0, 0) HH2; have a9 := cell_of_row w5 w3.heap.size 9 _ _ (0, 0) HH2; have a10 := cell_of_row w5 w3.heap.size 10 _ _ (0, 0) HH2; have a11 := cell_of_row w5 w3.heap.size 11 _ _ (0, 0) HH2; have a12 := cell_of_row w5 w3.heap.size 12 _ _ (0, 0) HH2; have a13 := cell_of_row w5 w3.heap.size 13 _ _ (0, 0) HH2; have a14 := cell_of_row w5 w3.heap.size 14 _ _ (0, 0) HH2; have a15 := cell_of_row w5 w3.heap.size 15 _ _ (0, 0) HH2))
  go_ret
  exact ⟨rfl, hbw⟩
end
end Go.Proofs.Ytmfabocllkbbaaa
/-
  FrameForm: the walk, where the head is right and the bytes are refused; the whole.
-/
namespace Go.Proofs.Ytmfabocllkbbaaa
open Go.RowKit
section
attribute [local irreducible] Calls el Hd.cs Hd.sh cmo rg sm bsm
set_option maxHeartbeats 4000000 in
set_option maxRecDepth 1000000 in
theorem form_cut (AW : AWk) {w : World} {p : Option Addr} {bs : List (BitVec 8)} (hr : Rd w p bs) (n c : Nat) (hn : bs.length = n) (hc : n ≤ c) (hcc : n ≤ 140737488355328) (h0 : (pH bs).1 = 0) (y1 : (pS bs).1 = 70) (h1 : n < (pH bs).2.len) :
    Calls Try.prog 3 #[.slice p n c] w fun e w' => e = .returned (.bool true) ∧ Below w.heap.size w w' := by
  have al : ∀ (W : World) (o : Obj), Below W.heap.size W (W.alloc o) := fun W o => (Below.refl _ _).alloc (Nat.le_refl _) o
  have y4 := pS_no bs (by rw [y1]; decide)
  have y2 := (pS_ways bs h0 (by rw [y1]; decide)).1
  have hin := pH_in bs h0
  have ok := (pH_at bs h0).1
  have PA := (show Hid (∀ (W : World), Below w.heap.size w W → _) from fun W hW => parse_any (hr.below hW) n c hn hc hcc)
  have PH := (show Hid (∀ (W : World), Below w.heap.size w W → _) from fun W hW => pHead_any rhd_ok (hr.below hW) n c hn hc hcc)
  have SP := (show Hid (∀ (W : World), Below w.heap.size w W → _) from fun W hW => spoilt_any rhd_ok (hr.below hW) n c hn hc hcc)
  rw [y1, y4] at PA
  rw [h0] at PH
  rw [y2] at SP
  have LE := (show Hid _ from fun w => length_any (pH bs).2 hin (by have := ok.y2; omega) w)
  rw [if_pos ((chk_ok _).2 ok), (chk_ok _).2 ok] at LE
  have hLb := (pH bs).2.len_bd ok
  have i1 : (n : Int) < ((pH bs).2.len : Int) := by omega
  generalize (pH bs).2 = hd at *
  generalize (sP bs).2 = sl at *
  have NU := (show Hid _ from fun z w => num_any z w)
  have hqq : hq hd0 hd0 = true := (hq_iff _ _).2 rfl
  have SM := (show Hid (∀ (W : World) (q : Option Addr) (d : Nat), Rws W q [] → Calls Try.prog 9 #[.agg (hd0.sh (.slice q 0 d)), .agg #[.int .u8 0, .int .u8 0, .int .u8 0, .int .u8 0, .int .u8 0, .int .u8 0, .int .u8 0, .int .u8 0, .int .i64 0, .int .i64 0, .int .i64 0, .string ⟨#[]⟩, .int .i64 0, .int .i64 0, .int .i64 0, .int .i64 0, .slice none 0 0]] W fun e w' => e = .returned (.bool true) ∧ Below W.heap.size W w') from fun W q d h1 => by
    have h := same_any hd0 hd0 h1 (.inl rfl : Rws W none []) 0 d 0 0 rfl rfl (by omega)
    rw [hqq, decide_eq_true rfl, sh0_cs] at h
    exact h)
  have hbw : Below w.heap.size w w := Below.refl _ _
  clear y1 y2 y4 ok hin
  go_enter Try.func3, Try.ntmps3
  go_wp2_with (first
    | (go_at_call 4; refine (AW _).mono ?_; rintro e w1 ⟨rfl, hb⟩; replace hbw := bt hbw hb)
    | (go_at_call 8; refine (NU.out _ _).mono ?_; rintro e w9 ⟨rfl, h9⟩; obtain rfl := h9.symm)
    | (go_at_call 5; refine (PA.out _ hbw).mono ?_; rintro e w2 ⟨v2, rfl, hB2, hb⟩; obtain ⟨q2, d2, hv2, hd2, hR2⟩ := hB2.rws; replace hv2 : v2 = .slice q2 0 d2 := hv2; subst hv2; replace hR2 : Rws w2 q2 [] := hR2; replace hbw := bt hbw hb)
    | (refine wpList_stS hd0 (.slice q2 0 d2) rfl rfl _ _ rfl rfl w2.heap.size rfl rfl (sz0 (heap_alloc_new w2 _)) ?_; intro wS HS hTS; have hb := hTS.2.1 _ _ (al w2 _) (Nat.le_refl _); replace hbw := bt hbw hb; replace hR2 := hR2.below hb)
    | (go_at_call 6; refine (PH.out _ hbw).mono ?_; rintro e w3 ⟨rfl, hb⟩; replace hbw := bt hbw hb; replace hR2 := hR2.below hb; replace HS := HS.below hb)
    | (refine wpList_stH hd rfl _ _ rfl rfl w3.heap.size rfl rfl (hz0 (heap_alloc_new w3 _)) ?_; intro wH HH hTH; have hb := hTH.2.1 _ _ (al w3 _) (Nat.le_refl _); replace hbw := bt hbw hb; replace hR2 := hR2.below hb; replace HS := HS.below hb)
    | (go_at_call 7; refine (SP.out _ hbw).mono ?_; rintro e w4 ⟨v4, rfl, hO4, hb⟩; obtain ⟨p4, c4, rfl, hc4, hV4⟩ := hO4.rd; replace hbw := bt hbw hb; replace hR2 := hR2.below hb; replace HS := HS.below hb; replace HH := HH.below hb)
    | (refine wpList_ldS rfl _ rfl w2.heap.size rfl HS ?_)
    | (go_at_call 9; refine (SM.out _ _ _ hR2).mono ?_; rintro e w5 ⟨rfl, hb⟩; replace hbw := bt hbw hb; replace HH := HH.below hb)
    | (refine wpList_loadHd rfl _ rfl w3.heap.size rfl HH ?_)
    | (go_at_call 10; refine (LE.out _).mono ?_; rintro e w7 ⟨rfl, hb⟩; replace hbw := bt hbw hb))
  go_ret
  exact ⟨rfl, hbw⟩
set_option maxHeartbeats 4000000 in
set_option maxRecDepth 1000000 in
theorem form_tail (AW : AWk) {w : World} {p : Option Addr} {bs : List (BitVec 8)} (hr : Rd w p bs) (n c : Nat) (hn : bs.length = n) (hc : n ≤ c) (hcc : n ≤ 140737488355328) (h0 : (pH bs).1 = 0) (y1 : (pS bs).1 = 72) (h1 : (pH bs).2.len < n) :
    Calls Try.prog 3 #[.slice p n c] w fun e w' => e = .returned (.bool true) ∧ Below w.heap.size w w' := by
  have al : ∀ (W : World) (o : Obj), Below W.heap.size W (W.alloc o) := fun W o => (Below.refl _ _).alloc (Nat.le_refl _) o
  have y4 := pS_no bs (by rw [y1]; decide)
  have y2 := (pS_ways bs h0 (by rw [y1]; decide)).1
  have hin := pH_in bs h0
  have ok := (pH_at bs h0).1
  have PA := (show Hid (∀ (W : World), Below w.heap.size w W → _) from fun W hW => parse_any (hr.below hW) n c hn hc hcc)
  have PH := (show Hid (∀ (W : World), Below w.heap.size w W → _) from fun W hW => pHead_any rhd_ok (hr.below hW) n c hn hc hcc)
  have SP := (show Hid (∀ (W : World), Below w.heap.size w W → _) from fun W hW => spoilt_any rhd_ok (hr.below hW) n c hn hc hcc)
  rw [y1, y4] at PA
  rw [h0] at PH
  rw [y2] at SP
  have LE := (show Hid _ from fun w => length_any (pH bs).2 hin (by have := ok.y2; omega) w)
  rw [if_pos ((chk_ok _).2 ok), (chk_ok _).2 ok] at LE
  have hLb := (pH bs).2.len_bd ok
  have i1 : ((pH bs).2.len : Int) < (n : Int) := by omega
  generalize (pH bs).2 = hd at *
  generalize (sP bs).2 = sl at *
  have NU := (show Hid _ from fun z w => num_any z w)
  have hqq : hq hd0 hd0 = true := (hq_iff _ _).2 rfl
  have SM := (show Hid (∀ (W : World) (q : Option Addr) (d : Nat), Rws W q [] → Calls Try.prog 9 #[.agg (hd0.sh (.slice q 0 d)), .agg #[.int .u8 0, .int .u8 0, .int .u8 0, .int .u8 0, .int .u8 0, .int .u8 0, .int .u8 0, .int .u8 0, .int .i64 0, .int .i64 0, .int .i64 0, .string ⟨#[]⟩, .int .i64 0, .int .i64 0, .int .i64 0, .int .i64 0, .slice none 0 0]] W fun e w' => e = .returned (.bool true) ∧ Below W.heap.size W w') from fun W q d h1 => by
    have h := same_any hd0 hd0 h1 (.inl rfl : Rws W none []) 0 d 0 0 rfl rfl (by omega)
    rw [hqq, decide_eq_true rfl, sh0_cs] at h
    exact h)
  have hbw : Below w.heap.size w w := Below.refl _ _
  clear y1 y2 y4 ok hin
  go_enter Try.func3, Try.ntmps3
  go_wp2_with (first
    | (go_at_call 4; refine (AW _).mono ?_; rintro e w1 ⟨rfl, hb⟩; replace hbw := bt hbw hb)
    | (go_at_call 8; refine (NU.out _ _).mono ?_; rintro e w9 ⟨rfl, h9⟩; obtain rfl := h9.symm)
    | (go_at_call 5; refine (PA.out _ hbw).mono ?_; rintro e w2 ⟨v2, rfl, hB2, hb⟩; obtain ⟨q2, d2, hv2, hd2, hR2⟩ := hB2.rws; replace hv2 : v2 = .slice q2 0 d2 := hv2; subst hv2; replace hR2 : Rws w2 q2 [] := hR2; replace hbw := bt hbw hb)
    | (refine wpList_stS hd0 (.slice q2 0 d2) rfl rfl _ _ rfl rfl w2.heap.size rfl rfl (sz0 (heap_alloc_new w2 _)) ?_; intro wS HS hTS; have hb := hTS.2.1 _ _ (al w2 _) (Nat.le_refl _); replace hbw := bt hbw hb; replace hR2 := hR2.below hb)
    | (go_at_call 6; refine (PH.out _ hbw).mono ?_; rintro e w3 ⟨rfl, hb⟩; replace hbw := bt hbw hb; replace hR2 := hR2.below hb; replace HS := HS.below hb)
    | (refine wpList_stH hd rfl _ _ rfl rfl w3.heap.size rfl rfl (hz0 (heap_alloc_new w3 _)) ?_; intro wH HH hTH; have hb := hTH.2.1 _ _ (al w3 _) (Nat.le_refl _); replace hbw := bt hbw hb; replace hR2 := hR2.below hb; replace HS := HS.below hb)
    | (go_at_call 7; refine (SP.out _ hbw).mono ?_; rintro e w4 ⟨v4, rfl, hO4, hb⟩; obtain ⟨p4, c4, rfl, hc4, hV4⟩ := hO4.rd; replace hbw := bt hbw hb; replace hR2 := hR2.below hb; replace HS := HS.below hb; replace HH := HH.below hb)
    | (refine wpList_ldS rfl _ rfl w2.heap.size rfl HS ?_)
    | (go_at_call 9; refine (SM.out _ _ _ hR2).mono ?_; rintro e w5 ⟨rfl, hb⟩; replace hbw := bt hbw hb; replace HH := HH.below hb)
    | (refine wpList_loadHd rfl _ rfl w3.heap.size rfl HH ?_)
    | (go_at_call 10; refine (LE.out _).mono ?_; rintro e w7 ⟨rfl, hb⟩; replace hbw := bt hbw hb))
  go_ret
  exact ⟨rfl, hbw⟩
set_option maxHeartbeats 4000000 in
set_option maxRecDepth 1000000 in
theorem form_sum (AW : AWk) {w : World} {p : Option Addr} {bs : List (BitVec 8)} (hr : Rd w p bs) (n c : Nat) (hn : bs.length = n) (hc : n ≤ c) (hcc : n ≤ 140737488355328) (h0 : (pH bs).1 = 0) (y1 : (pS bs).1 = 82) (h1 : n = (pH bs).2.len) (h2 : 0 < (sP bs).2.length) :
    Calls Try.prog 3 #[.slice p n c] w fun e w' => e = .returned (.bool true) ∧ Below w.heap.size w w' := by
  have al : ∀ (W : World) (o : Obj), Below W.heap.size W (W.alloc o) := fun W o => (Below.refl _ _).alloc (Nat.le_refl _) o
  have y4 := pS_no bs (by rw [y1]; decide)
  have y2 := (pS_ways bs h0 (by rw [y1]; decide)).1
  have hin := pH_in bs h0
  have ok := (pH_at bs h0).1
  have PA := (show Hid (∀ (W : World), Below w.heap.size w W → _) from fun W hW => parse_any (hr.below hW) n c hn hc hcc)
  have PH := (show Hid (∀ (W : World), Below w.heap.size w W → _) from fun W hW => pHead_any rhd_ok (hr.below hW) n c hn hc hcc)
  have SP := (show Hid (∀ (W : World), Below w.heap.size w W → _) from fun W hW => spoilt_any rhd_ok (hr.below hW) n c hn hc hcc)
  rw [y1, y4] at PA
  rw [h0] at PH
  rw [y2] at SP
  have LE := (show Hid _ from fun w => length_any (pH bs).2 hin (by have := ok.y2; omega) w)
  rw [if_pos ((chk_ok _).2 ok), (chk_ok _).2 ok] at LE
  have hLb := (pH bs).2.len_bd ok
  have i1 : ((n : Int) == ((pH bs).2.len : Int)) = true := by rw [← h1]; simp
  have i2 : (0 : Int) < ((sP bs).2.length : Int) := by omega
  clear h1
  generalize (pH bs).2 = hd at *
  generalize (sP bs).2 = sl at *
  have NU := (show Hid _ from fun z w => num_any z w)
  have hqq : hq hd0 hd0 = true := (hq_iff _ _).2 rfl
  have SM := (show Hid (∀ (W : World) (q : Option Addr) (d : Nat), Rws W q [] → Calls Try.prog 9 #[.agg (hd0.sh (.slice q 0 d)), .agg #[.int .u8 0, .int .u8 0, .int .u8 0, .int .u8 0, .int .u8 0, .int .u8 0, .int .u8 0, .int .u8 0, .int .i64 0, .int .i64 0, .int .i64 0, .string ⟨#[]⟩, .int .i64 0, .int .i64 0, .int .i64 0, .int .i64 0, .slice none 0 0]] W fun e w' => e = .returned (.bool true) ∧ Below W.heap.size W w') from fun W q d h1 => by
    have h := same_any hd0 hd0 h1 (.inl rfl : Rws W none []) 0 d 0 0 rfl rfl (by omega)
    rw [hqq, decide_eq_true rfl, sh0_cs] at h
    exact h)
  have hbw : Below w.heap.size w w := Below.refl _ _
  clear y1 y2 y4 ok hin
  go_enter Try.func3, Try.ntmps3
  go_wp2_with (first
    | (go_at_call 4; refine (AW _).mono ?_; rintro e w1 ⟨rfl, hb⟩; replace hbw := bt hbw hb)
    | (go_at_call 8; refine (NU.out _ _).mono ?_; rintro e w9 ⟨rfl, h9⟩; obtain rfl := h9.symm)
    | (go_at_call 5; refine (PA.out _ hbw).mono ?_; rintro e w2 ⟨v2, rfl, hB2, hb⟩; obtain ⟨q2, d2, hv2, hd2, hR2⟩ := hB2.rws; replace hv2 : v2 = .slice q2 0 d2 := hv2; subst hv2; replace hR2 : Rws w2 q2 [] := hR2; replace hbw := bt hbw hb)
    | (refine wpList_stS hd0 (.slice q2 0 d2) rfl rfl _ _ rfl rfl w2.heap.size rfl rfl (sz0 (heap_alloc_new w2 _)) ?_; intro wS HS hTS; have hb := hTS.2.1 _ _ (al w2 _) (Nat.le_refl _); replace hbw := bt hbw hb; replace hR2 := hR2.below hb)
    | (go_at_call 6; refine (PH.out _ hbw).mono ?_; rintro e w3 ⟨rfl, hb⟩; replace hbw := bt hbw hb; replace hR2 := hR2.below hb; replace HS := HS.below hb)
    | (refine wpList_stH hd rfl _ _ rfl rfl w3.heap.size rfl rfl (hz0 (heap_alloc_new w3 _)) ?_; intro wH HH hTH; have hb := hTH.2.1 _ _ (al w3 _) (Nat.le_refl _); replace hbw := bt hbw hb; replace hR2 := hR2.below hb; replace HS := HS.below hb)
    | (go_at_call 7; refine (SP.out _ hbw).mono ?_; rintro e w4 ⟨v4, rfl, hO4, hb⟩; obtain ⟨p4, c4, rfl, hc4, hV4⟩ := hO4.rd; replace hbw := bt hbw hb; replace hR2 := hR2.below hb; replace HS := HS.below hb; replace HH := HH.below hb)
    | (refine wpList_ldS rfl _ rfl w2.heap.size rfl HS ?_)
    | (go_at_call 9; refine (SM.out _ _ _ hR2).mono ?_; rintro e w5 ⟨rfl, hb⟩; replace hbw := bt hbw hb; replace HH := HH.below hb)
    | (refine wpList_loadHd rfl _ rfl w3.heap.size rfl HH ?_)
    | (go_at_call 10; refine (LE.out _).mono ?_; rintro e w7 ⟨rfl, hb⟩; replace hbw := bt hbw hb))
  go_ret
  exact ⟨rfl, hbw⟩
theorem frameForm_walk (AW : AWk) {w : World} {p : Option Addr} {bs : List (BitVec 8)} (hr : Rd w p bs) (n c : Nat) (hn : bs.length = n) (hc : n ≤ c) (hcc : n ≤ 140737488355328) :
    Calls Try.prog 3 #[.slice p n c] w fun e w' => e = .returned (.bool true) ∧ Below w.heap.size w w' := by
  by_cases h0 : (pS bs).1 = 0
  · exact form_yes AW hr n c hn hc hcc h0
  · by_cases h1 : (pH bs).1 = 0
    · rcases (pS_ways bs h1 h0).2 with ⟨a, b⟩ | ⟨a, b⟩ | ⟨a, b, d⟩
      · exact form_cut AW hr n c hn hc hcc h1 a (by omega)
      · exact form_tail AW hr n c hn hc hcc h1 a (by omega)
      · exact form_sum AW hr n c hn hc hcc h1 a (by omega) d
    · exact form_head AW hr n c hn hc hcc h1
end
end Go.Proofs.Ytmfabocllkbbaaa
