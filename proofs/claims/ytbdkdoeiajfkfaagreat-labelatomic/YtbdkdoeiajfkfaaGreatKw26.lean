/-
  LabelAtomic: the walk.
-/
import Derived.Test.YtbdkdoeiajfkfaaGreatJw26
import Derived.Deep.CutBlock
import Derived.Deep.RegionHeld3
namespace Go.Proofs.YtbdkdoeiajfkfaaGreat
open Go.RowKit Go.Maps Go.Sort
theorem wx_new {w : World} {db : Nat} {σ : Ds} (h : DrAt w db σ (· = db)) : Wx (w.alloc (.cells #[.pointer (some ⟨db, 0, none⟩), .bool false, .bool false, .map none, .int .i64 0, .int .i64 0, .bool false, .int .i64 0, .int .i64 0, .int .i64 0] 54)) w.heap.size db ⟨false, false, 0, 0, false, 0, 0, 0⟩ (.map []) σ (fun b => b = db ∨ b = w.heap.size) := by
  have hd := h.2.1 db rfl
  refine ⟨.inr rfl, fun b hb => ?_, none, (· = db), ⟨heap_alloc_new w _, .inl ⟨rfl, rfl⟩, h.below ((Below.refl _ _).alloc (Nat.le_refl _) _), fun e => ?_, fun b e => by cases e⟩, fun b hb => .inl hb, fun b e => by cases e⟩
  · show b < (w.alloc _).heap.size
    rcases hb with rfl | rfl
    · simp; omega
    · simp
  · have e' : w.heap.size = db := e
    omega
/-- What is kept from turn to turn, in memory. -/
def Lst (w0 : World) (wb db : Nat) (vm : Value) (L : List Lbl) (w : World) (g : Gt) (P : DataW Unit) (σ : Ds) : Prop :=
  ∃ G, Wx w wb db g P σ G ∧ (∀ b, G b → w0.heap.size ≤ b) ∧ OL w w0.heap.size vm L ∧ (∀ b, vm.ownBlock = some b → ¬ G b) ∧ Below w0.heap.size w0 w
theorem Lst.stt {w0 w w' : World} {wb db : Nat} {x : Tu} {vm : Value} {L : List Lbl} {g : Gt} {P : DataW Unit} {σ : Ds} (h : Lst w0 wb db vm L w g P σ) (hb : Below w.heap.size w w') (hx : XAt w' w.heap.size x) : Stt w0 wb db w.heap.size x vm L w' g P σ := by
  obtain ⟨G, h1, h2, h5, h6, h7⟩ := h
  exact ⟨G, h1.below hb, h2, fun hG => Nat.lt_irrefl _ (h1.2.1 _ hG), hx, h5.below hb, h6, h7.trans (hb.mono h7.size)⟩
theorem Stt.lst {w0 w : World} {wb db xb : Nat} {x : Tu} {vm : Value} {L : List Lbl} {g : Gt} {P : DataW Unit} {σ : Ds} (h : Stt w0 wb db xb x vm L w g P σ) : Lst w0 wb db vm L w g P σ := by
  obtain ⟨G, h1, h2, _, _, h5, h6, h7⟩ := h
  exact ⟨G, h1, h2, h5, h6, h7⟩
theorem Lst.bel {w0 w : World} {wb db : Nat} {vm : Value} {L : List Lbl} {g : Gt} {P : DataW Unit} {σ : Ds} (h : Lst w0 wb db vm L w g P σ) : Below w0.heap.size w0 w := by
  obtain ⟨G, h1, h2, h5, h6, h7⟩ := h
  exact h7
/-- What is kept from turn to turn. -/
def Rnd (w0 : World) (wb db t : Nat) (vm : Value) (L : List Lbl) (nb : Bool) (w : World) : Prop :=
  ∃ g P σ, Lst w0 wb db vm L w g P σ ∧ Gop false 2 g P ∧ Okk (41 * t) σ ∧ KpD (nb = true) L (62 * (t + 1)) σ ∧ L.length ≤ t
theorem gA_no {g : Gt} {x : Tu} (h : x.fu = false) : (⟨g.off, x.aw, 0, g.rc, decide ((-1 : Int) ≥ 0), -1, 0, 0⟩ : Gt) = gA g x := by
  unfold gA
  rw [h]; rfl
theorem gA_yes {g : Gt} {x : Tu} (h : x.fu = true) : (⟨g.off, x.aw, 0, g.rc, decide ((0 : Int) ≥ 0), 0, x.ca, x.ins⟩ : Gt) = gA g x := by
  unfold gA
  rw [h]; rfl
/-- The gate behind the round's end. -/
def gE (g : Gt) (u : Bool) : Gt := ⟨(rst g u).off, false, 0, (rst g u).rc, (rst g u).th, (rst g u).ro, (rst g u).ca, (rst g u).ins⟩
theorem open_gE {g g5 : Gt} {P : DataW Unit} {x : Tu} (h : Gop false 3 g P) (s : Gs 5 (gA g x) g5) : Gop x.fu 0 (gE g5 x.fu) (.map []) := open_gA h s
section
attribute [local irreducible] Calls el Lbl.cs cmo rg smL ar8 Tu.cs
set_option maxHeartbeats 8000000 in
set_option maxRecDepth 1000000 in
theorem labelAtomic_walk {w : World} (p : Option Addr) (n c : Nat) (f : Nat → Tu) (hT : ∀ i, i < n → ∃ b o, p = some ⟨b, o, none⟩ ∧ b < w.heap.size ∧ TuAt w b (o + i * 21) (f i)) (hin : ∀ i, i < n → TuIn w (f i)) (hn : n ≤ 140737488351232) :
    Calls Tryz.prog 3 #[.slice p n c] w fun e w' => e = .returned (.bool true) ∧ Below w.heap.size w w' := by
  have KN := (show Hid _ from fun w => known_any w)
  have ND := (show Hid _ from newD_any 1048576 (by decide) w)
  have HT := (show Hid (∀ i, i < n → ∃ b o, p = some ⟨b, o, none⟩ ∧ b < w.heap.size ∧ TuAt w b (o + i * 21) (f i)) from hT)
  have HI := (show Hid (∀ i, i < n → TuIn w (f i)) from hin)
  have HN := (show Hid (n ≤ 140737488351232) from hn)
  clear hT hin hn
  go_enter Tryz.func3, Tryz.ntmps3
  go_wp2_with (first
    | (go_at_call 5; refine ND.out.mono ?_; rintro e w1 ⟨rfl, hD, hb1⟩)
    | (go_at_call 4; refine (wnew_any _ _).mono ?_; rintro e w2 ⟨rfl, hw2⟩; have HX := (show Hid (Wx w2 w1.heap.size w.heap.size ⟨false, false, 0, 0, false, 0, 0, 0⟩ (.map []) (Ds.new 1048576) (fun b => b = w.heap.size ∨ b = w1.heap.size)) from by rw [hw2]; exact wx_new hD); have HB := (show Hid (Below w.heap.size w w2) from by rw [hw2]; exact hb1.alloc hb1.size _); have HS := (show Hid (w.heap.size ≤ w1.heap.size) from hb1.size); clear hw2 hb1)
    | (go_at_call 6; refine (KN.out _).mono ?_; rintro e w3 ⟨rfl, hb3⟩; have HX3 := (show Hid (Wx w3 w1.heap.size w.heap.size ⟨false, false, 0, 0, false, 0, 0, 0⟩ (.map []) (Ds.new 1048576) (fun b => b = w.heap.size ∨ b = w1.heap.size)) from Wx.below HX.out hb3); have HB3 := (show Hid (Below w.heap.size w w3) from btD HB.out hb3); clear hb3 hD))
  obtain ⟨db, hdb⟩ : ∃ db, db = w.heap.size := ⟨_, rfl⟩
  obtain ⟨wb, hwb⟩ : ∃ wb, wb = w1.heap.size := ⟨_, rfl⟩
  have HR := (show Hid (Rnd w wb db 0 (.slice none 0 0) [] true w3) from ⟨_, _, _, ⟨_, by rw [hdb, hwb]; exact HX3.out, fun b hb => by
    have := HS.out
    rcases hb with hb | hb
    · rw [hb]; exact Nat.le_refl _
    · rw [hb]; exact this, OL.nil _ _, fun b e => (by cases e), HB3.out⟩, ⟨rfl, rfl, rfl, rfl, Int.le_refl _, by show (0 : Int) ≤ 2; omega, Int.le_refl _, by show (0 : Int) ≤ 2; omega⟩, Okk.new _, ⟨KpD.new.la.mono (fun _ => rfl) (fun _ h => h), KpD.new.sm.mono (by omega), KpD.new.iv⟩, Nat.le_refl _⟩)
  have WB := (show Hid (w.heap.size ≤ wb) from by rw [hwb]; exact HS.out)
  rw [← hwb]
  clear HX HX3 HS KN ND hdb hwb
  go_loopw [4, 5, 6] (fun vm vn i wr => ∃ (t : Nat) (L : List Lbl) (nb : Bool), t ≤ n ∧ i = .int .i64 (t : Int) ∧ vn = .bool nb ∧ Hid (Rnd w wb db t vm L nb wr)) (fun _ _ i _ => n - (intOf i).toNat)
  case atStart => exact ⟨0, [], true, Nat.zero_le _, rfl, rfl, HR.out⟩
  case round =>
    obtain ⟨t, L, nb, ht, rfl, rfl, HR⟩ := hrel
    obtain ⟨vm, hvm⟩ : ∃ vm, vm = u4 := ⟨_, rfl⟩
    rw [← hvm] at HR ⊢
    clear hvm
    obtain ⟨w4, hw4⟩ : ∃ w4, w4 = wr := ⟨_, rfl⟩
    rw [← hw4] at HR ⊢
    clear hw4
    by_cases hlt : t < n
    case neg =>
      have hi : ¬ ((t : Int) < (n : Int)) := by omega
      have hi2 : decide ((t : Int) < (n : Int)) = false := decide_eq_false hi
      obtain ⟨g, P, σ, hL, _⟩ := HR.out
      have HB4 := (show Hid (Below w.heap.size w w4) from hL.bel)
      clear hlt ht hL
      go_wp2_with (fail)
      go_ret
      exact ⟨rfl, HB4.out⟩
    by_cases h2 : t < 2000
    case neg =>
      have hi : (t : Int) < (n : Int) := by omega
      have hj : ¬ ((t : Int) < 2000) := by omega
      have hj2 : decide ((t : Int) < 2000) = false := decide_eq_false hj
      obtain ⟨g, P, σ, hL, _⟩ := HR.out
      have HB4 := (show Hid (Below w.heap.size w w4) from hL.bel)
      clear hlt ht hL h2
      go_wp2_with (fail)
      go_ret
      exact ⟨rfl, HB4.out⟩
    have hi : (t : Int) < (n : Int) := by omega
    have hj : (t : Int) < 2000 := by omega
    have HT2 := (show Hid (t < n ∧ t < 2000) from ⟨hlt, h2⟩)
    have WT := (show Hid (wrap64 ((t : Int) + 1) = ((t + 1 : Nat) : Int)) from by have := HT2.out; show _ = _; unfold wrap64; omega)
    obtain ⟨tb, ofs, rfl, htb, hTu⟩ := HT.out t hlt
    obtain ⟨x, hx⟩ : ∃ x, x = f t := ⟨_, rfl⟩
    rw [← hx] at hTu
    have TI := (show Hid (TuIn w x) from by rw [hx]; exact HI.out t hlt)
    obtain ⟨g, P, σ, hL, hG, hO, hK, hl⟩ := HR.out
    have LS := (show Hid (Lst w wb db vm L w4 g P σ) from hL)
    have GO := (show Hid (Gop false 2 g P) from hG)
    have OK := (show Hid (Okk (41 * t) σ) from hO)
    have KD := (show Hid (KpD (nb = true) L (62 * (t + 1)) σ ∧ L.length ≤ t) from ⟨hK, hl⟩)
    have TU := (show Hid (∀ W, Below w.heap.size w W → (loadVar 40 ⟨tb, ofs + t * 21, none⟩).run Tryz.prog W = .ok (.agg x.cs) W) from fun W hb => TuAt.run (fun j u hj => cell_belowD (hTu j u hj) hb))
    obtain ⟨P1, hP1, hAR⟩ := s_arm (wb := wb) (db := db) (xb := w4.heap.size) TI.out WB.out
    have AR := (show Hid (∀ (vm : Value) (L : List Lbl) (w' : World) (g : Gt) (P : DataW Unit) (σ : Ds), Stt w wb db w4.heap.size x vm L w' g P σ → _) from hAR)
    have HP1 := (show Hid (x.np = 0 → P1 = .map []) from hP1)
    clear hL hG hO hK hl hTu hx hlt h2 ht htb HR hP1 hAR HI HT
    go_upto_if 44 with (first
      | (refine wpList_ldV rfl 40 _ rfl ⟨tb, ofs + t * 21, none⟩ x.cs rfl (TU.out _ LS.out.bel) ?_)
      | (refine wpList_alTu rfl rfl ?_; intro w5 ZA hbA hsA; clear hsA)
      | (refine wpList_storeTu rfl _ _ rfl rfl w4.heap.size rfl rfl ZA ?_; intro w6 ZC hTC; have S0 := (show Hid (Stt w wb db w4.heap.size x vm L w6 g P σ) from LS.out.stt (hTC.2.1 _ _ hbA (Nat.le_refl _)) ZC); clear ZA hbA hTC ZC; have c13 := S0.out.at_.cell.1)
      | (go_at_call 7; refine (AR.out _ _ _ _ _ _ S0.out).mono ?_; rintro e w7 ⟨⟨v7, rfl⟩, hS1⟩; have S1 := (show Hid (Stt w wb db w4.heap.size x vm L w7 { g with calls := 0 } P1 σ) from hS1); clear hS1 S0 c13; have c14 := S1.out.at_.cell.2.1)
      | (go_at_call 8; refine (s_off S1.out x.aw).mono ?_; rintro e w8 ⟨⟨v8, rfl⟩, hS2⟩; have S2 := (show Hid (Stt w wb db w4.heap.size x vm L w8 { g with calls := 0, offl := x.aw } P1 σ) from hS2); clear hS2 S1 c14)
      | (go_at_call 9; refine (s_fuse S2.out (-1) 0 0).mono ?_; rintro e w9 ⟨⟨v9, rfl⟩, hS3⟩; have S3 := (show Hid (Stt w wb db w4.heap.size x vm L w9 ⟨g.off, x.aw, 0, g.rc, decide ((-1 : Int) ≥ 0), -1, 0, 0⟩ P1 σ) from hS3); clear hS3 S2; have c15 := S3.out.at_.cell.2.2.1; have c16 := S3.out.at_.cell.2.2.2.1; have c17 := S3.out.at_.cell.2.2.2.2.1))
    go_cut [] from 19 to 136 (fun wx => Hid (Stt w wb db w4.heap.size x vm L wx (gA g x) P1 σ))
    case first =>
      have HF := (show Hid (∃ b, b = x.fu) from ⟨_, rfl⟩)
      obtain ⟨fu, hfu⟩ := HF.out
      rw [← hfu]
      have HFU := (show Hid (fu = x.fu) from hfu)
      clear hfu c15
      cases fu with
      | true =>
        go_wp2_with (go_at_call 9; refine (s_fuse S3.out 0 x.ca x.ins).mono ?_; rintro e w10 ⟨⟨v10, rfl⟩, hS4⟩; have S4 := (show Hid (Stt w wb db w4.heap.size x vm L w10 ⟨g.off, x.aw, 0, g.rc, decide ((0 : Int) ≥ 0), 0, x.ca, x.ins⟩ P1 σ) from hS4); clear hS4)
        go_meet
        case rel => show Stt _ _ _ _ _ _ _ _ _ _ _; rw [← gA_yes HFU.out.symm]; exact S4.out
      | false =>
        go_wp2_with (fail)
        go_meet
        case rel => show Stt _ _ _ _ _ _ _ _ _ _ _; rw [← gA_no HFU.out.symm]; exact S3.out
    case rest =>
    obtain ⟨y1, hy1⟩ : ∃ y1, y1 = wc := ⟨_, rfl⟩
    rw [← hy1] at hcut ⊢
    have S5 := (show Hid (Stt w wb db w4.heap.size x vm L y1 (gA g x) P1 σ) from hcut.out)
    clear hcut hy1 S3 c15 c16 c17
    obtain ⟨F5, hF5⟩ := S5.out.wnd.2.2
    have hwf := wfd_of hF5 OK.out
    have htd := (td_of hF5 OK.out).1
    have LG := (show Hid (Gs 5 (gA g x) (lkw (gA g x) P1 σ x.l).2.1) from lkw_gs _ _ _ _)
    have LO := (show Hid (Okk (41 * t + 41) (lkw (gA g x) P1 σ x.l).2.2) from lkw_ok OK.out (by have := HT2.out; omega))
    have LN := (show Hid (x.l.ck ≠ 0 → lkw (gA g x) P1 σ x.l = (x.l.ck, (gA g x, σ))) from fun h => lkw_no h)
    have LY := (show Hid (x.l.ck = 0 → ((lkw (gA g x) P1 σ x.l).1 = 0 ∧ KpD False [x.l] (62 * (t + 1) + 62) (lkw (gA g x) P1 σ x.l).2.2) ∨ ((lkw (gA g x) P1 σ x.l).1 ≠ 0 ∧ KpD (nb = true) (L ++ [x.l]) (62 * (t + 1) + 62) (lkw (gA g x) P1 σ x.l).2.2)) from fun h => lkw_yes h KD.out.1 hwf)
    have LF := (show Hid (x.l.ck = 0 → Fr (gA g x) P1 → (lkw (gA g x) P1 σ x.l).1 = 0) from fun h f => lkw_free h KD.out.1 hwf htd (by have := HT2.out; omega) f)
    have SW := (show Hid (Calls Tryz.prog 10 #[.iface 23 (.pointer (some ⟨wb, 0, none⟩)), .agg x.l.cs] y1 fun e w' => e = .returned (.int .i64 (lkw (gA g x) P1 σ x.l).1) ∧ Stt w wb db w4.heap.size x vm L w' (lkw (gA g x) P1 σ x.l).2.1 P1 (lkw (gA g x) P1 σ x.l).2.2) from s_write S5.out (gA_gok (GO.out.mono (by omega))) OK.out (by have := HT2.out; omega) x.l TI.out.li)
    generalize lkw (gA g x) P1 σ x.l = r at LG LO LN LY LF SW
    obtain ⟨e5, g5, σ5⟩ := r
    dsimp only at LG LO LN LY LF SW
    clear hF5 hwf htd
    obtain ⟨fu, hfu⟩ : ∃ fu, fu = x.fu := ⟨_, rfl⟩
    have HFU := (show Hid (fu = x.fu) from hfu)
    have SK := (show Hid (∀ W, Stt w wb db w4.heap.size x vm L W g5 P1 σ5 → Calls Tryz.prog 12 #[.pointer (some ⟨wb, 0, none⟩)] W fun e w' => e = .returned (.bool fu) ∧ Stt w wb db w4.heap.size x vm L w' g5 P1 σ5) from fun W h => by
      have h9 := s_struck h
      rw [struck_gA LG.out, ← hfu] at h9
      exact h9)
    have SR := (show Hid (∀ W, Stt w wb db w4.heap.size x vm L W g5 P1 σ5 → Calls Tryz.prog 13 #[.pointer (some ⟨wb, 0, none⟩), .bool fu] W fun e w' => (∃ v, e = .returned v) ∧ Stt w wb db w4.heap.size x vm L w' (rst g5 fu) P1 σ5) from fun W h => s_rest h fu (rest_gA LG.out))
    obtain ⟨gB, hgB⟩ : ∃ gB, gB = gE g5 fu := ⟨_, rfl⟩
    have GB := (show Hid (Gop fu 0 gB (.map [])) from by rw [hgB, hfu]; exact open_gE (GO.out.mono (by omega)) LG.out)
    have HGB := (show Hid (gB = gE g5 fu) from hgB)
    have FT := (show Hid _ from fun w => fit_any x.l TI.out.li w)
    clear hfu hgB
    go_upto_if 70 with (first
      | (revert S11; intro S11; refine wpList_ldV rfl 33 _ rfl ⟨w4.heap.size, 0, none⟩ x.l.cs rfl S11.out.at_.label ?_)
      | (revert S5; intro S5; refine wpList_ldV rfl 33 _ rfl ⟨w4.heap.size, 0, none⟩ x.l.cs rfl S5.out.at_.label ?_)
      | (go_at_call 10; refine SW.out.mono ?_; rintro e w11 ⟨rfl, hS⟩; have S6 := (show Hid (Stt w wb db w4.heap.size x vm L w11 g5 P1 σ5) from hS); clear hS S5 SW)
      | (go_at_call 11; refine (s_calls S6.out).mono ?_; rintro e w12 ⟨rfl, hS⟩; have S7 := (show Hid (Stt w wb db w4.heap.size x vm L w12 g5 P1 σ5) from hS); clear hS S6)
      | (go_at_call 12; refine (SK.out _ S7.out).mono ?_; rintro e w13 ⟨rfl, hS⟩; have S8 := (show Hid (Stt w wb db w4.heap.size x vm L w13 g5 P1 σ5) from hS); clear hS S7 SK)
      | (go_at_call 13; refine (SR.out _ S8.out).mono ?_; rintro e w14 ⟨⟨v14, rfl⟩, hS⟩; have S9 := (show Hid (Stt w wb db w4.heap.size x vm L w14 (rst g5 fu) P1 σ5) from hS); clear hS S8 SR)
      | (go_at_call 8; refine (s_off S9.out false).mono ?_; rintro e w15 ⟨⟨v15, rfl⟩, hS⟩; have S10 := (show Hid (Stt w wb db w4.heap.size x vm L w15 { rst g5 fu with offl := false } P1 σ5) from hS); clear hS S9)
      | (go_at_call 7; refine (s_arm0 S10.out).mono ?_; rintro e w16 ⟨⟨v16, rfl⟩, hS⟩; have S11 := (show Hid (Stt w wb db w4.heap.size x vm L w16 gB (.map []) σ5) from by rw [HGB.out]; exact hS); clear hS S10 HGB)
      | (go_at_call 14; refine (FT.out _).mono ?_; rintro e w17 ⟨rfl, hS⟩; have S12 := (show Hid (Stt w wb db w4.heap.size x vm L w17 gB (.map []) σ5) from S11.out.below hS); clear hS S11 FT))
    go_cut [4, 5] from 19 to 136 (fun v4 v5 wx => ∃ (p' : Option Addr) (c' : Nat) (L' : List Lbl) (nb' : Bool), v4 = .slice p' L'.length c' ∧ v5 = .bool nb' ∧ Hid (Stt w wb db w4.heap.size x (.slice p' L'.length c') L' wx gB (.map []) σ5 ∧ KpD (nb' = true) L' (62 * (t + 2)) σ5 ∧ L'.length ≤ t + 1 ∧ (e5 = 0 → KpD False [x.l] (62 * (t + 2)) σ5)))
    case first =>
      by_cases hck : x.l.ck = 0
      case neg =>
        have hfb : fitb x.l = false := decide_eq_false hck
        have hr := LN.out hck
        injection hr with hr1 hr2
        injection hr2 with hr2 hr3
        have z5 : (e5 == 0) = false := by rw [hr1]; simpa using hck
        have zc : (g5.calls != 0) = false := by rw [hr2]; rfl
        have HZ := (show Hid (e5 ≠ 0 ∧ σ5 = σ) from ⟨by rw [hr1]; exact hck, hr3⟩)
        rw [hfb]
        clear hck hfb hr1 hr2 hr3
        go_wp2_with (fail)
        go_meet
        case rel =>
          obtain ⟨G, _, _, _, _, h5, _⟩ := S12.out
          obtain ⟨p1, c1, ev, _, _⟩ := h5.rl
          exact ⟨p1, c1, L, nb, ev, rfl, by rw [← ev]; exact S12.out, by rw [HZ.out.2]; exact KD.out.1.mono (by omega), by have := KD.out.2; omega, fun h => absurd h HZ.out.1⟩
      case pos =>
        have hfb : fitb x.l = true := decide_eq_true hck
        rcases LY.out hck with ⟨h0, hk⟩ | ⟨h0, hk⟩
        · have HK := (show Hid (KpD False [x.l] (62 * (t + 1) + 62) σ5) from hk)
          subst h0
          rw [hfb]
          clear hck hfb hk LY LF LN
          go_wp2_with (first
            | (refine wpList_ldV rfl 33 _ rfl ⟨w4.heap.size, 0, none⟩ x.l.cs rfl S12.out.at_.label ?_)
            | (refine wpList_bsL1 rfl _ rfl x.l rfl ?_; intro w18 hLb hbb hsz; have S13 := (show Hid (Stt w wb db w4.heap.size x (.slice (some ⟨w17.heap.size, 0, none⟩) 1 1) [x.l] w18 gB (.map []) σ5) from S12.out.list1 hLb hbb); clear hLb hbb hsz))
          go_meet
          case rel => exact ⟨_, 1, [x.l], false, rfl, rfl, S13.out, ⟨HK.out.la.mono False.elim (fun _ h => h), HK.out.sm.mono (by omega), HK.out.iv⟩, by simp, fun _ => HK.out.mono (by omega)⟩
        · have z5 : (e5 == 0) = false := by simpa using h0
          have HK := (show Hid (KpD (nb = true) (L ++ [x.l]) (62 * (t + 1) + 62) σ5 ∧ e5 ≠ 0) from ⟨hk, h0⟩)
          have HF0 := (show Hid (¬ (x.np = 0 ∧ x.aw = false ∧ fu = false)) from fun ⟨q1, q2, q3⟩ => h0 (LF.out hck ⟨GO.out.of, q2, by show x.fu = false; rw [← HFU.out]; exact q3, HP1.out q1⟩))
          have c13 := S12.out.at_.cell.1
          have c14 := S12.out.at_.cell.2.1
          have c15 := S12.out.at_.cell.2.2.1
          rw [← HFU.out] at c15
          rw [hfb]
          clear hck hfb hk h0 LY LF LN
          obtain ⟨np, hnp⟩ : ∃ np, np = x.np := ⟨_, rfl⟩
          obtain ⟨aw, haw⟩ : ∃ aw, aw = x.aw := ⟨_, rfl⟩
          rw [← hnp] at c13 HF0
          rw [← haw] at c14 HF0
          clear hnp haw
          have AP := (show Hid (∀ (W : World), Below w17.heap.size w17 W → OL W w.heap.size vm L ∧ w.heap.size ≤ W.heap.size ∧ L.length ≤ 1000000000) from fun W hb => by
            have h9 := S12.out.below hb
            obtain ⟨G, _, _, _, _, h5, _, h7⟩ := h9
            exact ⟨h5, h7.size, by have := KD.out.2; have := HT2.out; omega⟩)
          have REL := (show Hid (∀ (W W' : World) (v' : Value), Below w17.heap.size w17 W → OL W' w.heap.size v' (L ++ [x.l]) → W.grownBy W' vm.ownBlock → (v'.ownBlock = vm.ownBlock ∨ v'.ownBlock = some W.heap.size) → ∃ (p' : Option Addr) (c' : Nat) (L' : List Lbl) (nb' : Bool), v' = .slice p' L'.length c' ∧ Value.bool nb = .bool nb' ∧ Hid (Stt w wb db w4.heap.size x (.slice p' L'.length c') L' W' gB (.map []) σ5 ∧ KpD (nb' = true) L' (62 * (t + 2)) σ5 ∧ L'.length ≤ t + 1 ∧ (e5 = 0 → KpD False [x.l] (62 * (t + 2)) σ5))) from fun W W' v' hb hO hg hv => by
            obtain ⟨p1, c1, ev, _, _⟩ := hO.rl
            refine ⟨p1, c1, L ++ [x.l], nb, ev, rfl, ?_, HK.out.1.mono (by omega), by have := KD.out.2; simp; omega, fun h => absurd h HK.out.2⟩
            rw [← ev]
            exact (S12.out.below hb).grow hO hg hv)
          by_cases hn0 : np = 0
          · subst hn0
            cases aw with
            | true =>
              go_wp2_with (first
                | (refine wpList_ldV rfl 33 _ rfl ⟨w4.heap.size, 0, none⟩ x.l.cs rfl S12.out.at_.label ?_)
                | (refine wpList_bsL1 rfl _ rfl x.l rfl ?_; intro w18 hLb hbb hsz; have B18 := (show Hid (LbAt w18 w17.heap.size x.l ∧ Below w17.heap.size w17 w18) from ⟨hLb, hbb⟩); clear hLb hbb hsz)
                | (at_builtin; refine wpList_apL rfl _ _ rfl w.heap.size vm L rfl (AP.out w18 B18.out.2).1 w17.heap.size 1 x.l rfl B18.out.1 (AP.out w18 B18.out.2).2.2 (AP.out w18 B18.out.2).2.1 ?_; intro v19 w19 hO hg hv; have R19 := (show Hid _ from REL.out w18 w19 v19 B18.out.2 hO hg hv); clear hO hg hv))
              go_meet
              case rel => exact R19.out
            | false =>
              have hfu1 : fu = true := by
                cases fu with
                | true => rfl
                | false => exact absurd ⟨rfl, rfl, rfl⟩ HF0.out
              rw [hfu1] at c15
              clear hfu1
              go_wp2_with (first
                | (refine wpList_ldV rfl 33 _ rfl ⟨w4.heap.size, 0, none⟩ x.l.cs rfl S12.out.at_.label ?_)
                | (refine wpList_bsL1 rfl _ rfl x.l rfl ?_; intro w18 hLb hbb hsz; have B18 := (show Hid (LbAt w18 w17.heap.size x.l ∧ Below w17.heap.size w17 w18) from ⟨hLb, hbb⟩); clear hLb hbb hsz)
                | (at_builtin; refine wpList_apL rfl _ _ rfl w.heap.size vm L rfl (AP.out w18 B18.out.2).1 w17.heap.size 1 x.l rfl B18.out.1 (AP.out w18 B18.out.2).2.2 (AP.out w18 B18.out.2).2.1 ?_; intro v19 w19 hO hg hv; have R19 := (show Hid _ from REL.out w18 w19 v19 B18.out.2 hO hg hv); clear hO hg hv))
              go_meet
              case rel => exact R19.out
          · have zn : ((np : Int) == 0) = false := by simp; omega
            clear hn0
            go_wp2_with (first
              | (refine wpList_ldV rfl 33 _ rfl ⟨w4.heap.size, 0, none⟩ x.l.cs rfl S12.out.at_.label ?_)
              | (refine wpList_bsL1 rfl _ rfl x.l rfl ?_; intro w18 hLb hbb hsz; have B18 := (show Hid (LbAt w18 w17.heap.size x.l ∧ Below w17.heap.size w17 w18) from ⟨hLb, hbb⟩); clear hLb hbb hsz)
              | (at_builtin; refine wpList_apL rfl _ _ rfl w.heap.size vm L rfl (AP.out w18 B18.out.2).1 w17.heap.size 1 x.l rfl B18.out.1 (AP.out w18 B18.out.2).2.2 (AP.out w18 B18.out.2).2.1 ?_; intro v19 w19 hO hg hv; have R19 := (show Hid _ from REL.out w18 w19 v19 B18.out.2 hO hg hv); clear hO hg hv))
            go_meet
            case rel => exact R19.out
    case rest =>
    obtain ⟨p2, c2, L2, nb2, rfl, rfl, hcw⟩ := hcut
    obtain ⟨y2, hy2⟩ : ∃ y2, y2 = wc := ⟨_, rfl⟩
    rw [← hy2] at hcw ⊢
    have S14 := (show Hid (Stt w wb db w4.heap.size x (.slice p2 L2.length c2) L2 y2 gB (.map []) σ5) from hcw.out.1)
    have K14 := (show Hid (KpD (nb2 = true) L2 (62 * (t + 2)) σ5 ∧ L2.length ≤ t + 1 ∧ (e5 = 0 → KpD False [x.l] (62 * (t + 2)) σ5)) from hcw.out.2)
    clear hcw hy2 S12
    go_upto_region 30 with fail
    go_cut [114] from 19 to 113 (fun v wx => v = .bool false ∧ Hid (∃ gC, Stt w wb db w4.heap.size x (.slice p2 L2.length c2) L2 wx gC (.map []) σ5 ∧ Gop fu 1 gC (.map [])))
    case first =>
      by_cases h0 : e5 = 0
      · subst h0
        cases fu with
        | true =>
          go_wp2_with (fail)
          go_meet
          case rel => exact ⟨rfl, gB, S14.out, GB.out.mono (by omega)⟩
        | false =>
          have AM := (show Hid (∀ (W : World) (b : Nat), Below y2.heap.size y2 W → LbAt W b x.l → y2.heap.size ≤ b → Calls Tryz.prog 15 #[.pointer (some ⟨wb, 0, none⟩), .slice (some ⟨b, 0, none⟩) 1 1, .bool false] W fun e w' => e = .returned (.bool true) ∧ Stt w wb db w4.heap.size x (.slice p2 L2.length c2) L2 w' (ahd gB (.map []) false).2 (.map []) σ5) from fun W b hb hl hbb => s_among S14.out hb (GB.out.gok (by omega)) GB.out.fr (K14.out.2.2 rfl).sm.bl (some ⟨b, 0, none⟩) 1 [x.l] hl.rl (fun a ea => by injection ea with ea; subst ea; exact ⟨.inr hbb, hl.lt⟩) (by simp) false ((K14.out.2.2 rfl).la.mono False.elim (fun _ h => h)))
          go_wp2_with (first
            | (refine wpList_ldV rfl 33 _ rfl ⟨w4.heap.size, 0, none⟩ x.l.cs rfl S14.out.at_.label ?_)
            | (refine wpList_bsL1 rfl _ rfl x.l rfl ?_; intro w20 hLb hbb hsz; have A20 := (show Hid (LbAt w20 y2.heap.size x.l ∧ Below y2.heap.size y2 w20) from ⟨hLb, hbb⟩); clear hLb hbb hsz)
            | (go_at_call 15; refine (AM.out _ _ A20.out.2 A20.out.1 (Nat.le_refl _)).mono ?_; rintro e w21 ⟨rfl, hS⟩; have S15 := (show Hid (Stt w wb db w4.heap.size x (.slice p2 L2.length c2) L2 w21 (ahd gB (.map []) false).2 (.map []) σ5) from hS); clear hS))
          go_meet
          case rel => exact ⟨rfl, _, S15.out, GB.out.ahd⟩
      · have z5 : (e5 == 0) = false := by simpa using h0
        clear h0
        go_wp2_with (fail)
        go_meet
        case rel => exact ⟨rfl, gB, S14.out, GB.out.mono (by omega)⟩
    case rest =>
    obtain ⟨rfl, hcw⟩ := hcut
    obtain ⟨y3, hy3⟩ : ∃ y3, y3 = wc := ⟨_, rfl⟩
    rw [← hy3] at hcw ⊢
    obtain ⟨gC, hS, hGc⟩ := hcw.out
    have S16 := (show Hid (Stt w wb db w4.heap.size x (.slice p2 L2.length c2) L2 y3 gC (.map []) σ5) from hS)
    have GC := (show Hid (Gop fu 1 gC (.map [])) from hGc)
    clear hcw hy3 S14 hS hGc GB LF LN LY LG
    have c18 := S16.out.at_.cell.2.2.2.2.2.1
    go_upto_region 32 with fail
    go_cut [119] from 19 to 118 (fun v wx => v = .bool (fu || x.lo) ∧ Hid (Stt w wb db w4.heap.size x (.slice p2 L2.length c2) L2 wx gC (.map []) σ5))
    case first =>
      cases fu with
      | true =>
        go_wp2_with (fail)
        go_meet
        case rel => exact ⟨rfl, S16.out⟩
      | false =>
        go_wp2_with (fail)
        go_meet
        case rel => exact ⟨rfl, S16.out⟩
    case rest =>
    obtain ⟨rfl, hcw⟩ := hcut
    obtain ⟨y4, hy4⟩ : ∃ y4, y4 = wc := ⟨_, rfl⟩
    rw [← hy4] at hcw ⊢
    have S17 := (show Hid (Stt w wb db w4.heap.size x (.slice p2 L2.length c2) L2 y4 gC (.map []) σ5) from hcw.out)
    clear hcw hy4 S16 c18
    go_upto_if 119 with fail
    go_cut [] from 19 to 136 (fun wx => Hid (∃ gD σ', Stt w wb db w4.heap.size x (.slice p2 L2.length c2) L2 wx gD (.map []) σ' ∧ Gop false 1 gD (.map []) ∧ KpD (nb2 = true) L2 (62 * (t + 2)) σ' ∧ Okk (41 * (t + 1)) σ'))
    case first =>
      obtain ⟨b, hb⟩ : ∃ b, b = (fu || x.lo) := ⟨_, rfl⟩
      rw [← hb]
      cases b with
      | false =>
        have hf : fu = false := by
          cases fu with
          | false => rfl
          | true => cases hb
        have GC2 := (show Hid (Gop false 1 gC (.map [])) from by rw [← hf]; exact GC.out)
        clear hb hf
        go_wp2_with (fail)
        go_meet
        case rel => exact ⟨gC, σ5, S17.out, GC2.out, K14.out.1, LO.out.mono (by omega)⟩
      | true =>
        clear hb
        go_upto_region 34 with (go_at_call 16; refine (s_power S17.out false).mono ?_; rintro e w22 ⟨⟨v22, rfl⟩, hS⟩; have S18 := (show Hid (Stt w wb db w4.heap.size x (.slice p2 L2.length c2) L2 w22 { gC with off := !false } (.map []) σ5) from hS); clear hS)
        obtain ⟨dirs, hdl, hdi⟩ := TI.out.di
        obtain ⟨cuts, hcl, hcu⟩ := TI.out.cu
        have FA := (show Hid (∀ (W : World), Below w.heap.size w W → Calls Tryz.prog 18 #[.agg #[.slice x.pd x.nd x.cd, .slice x.pc x.nc x.cc]] W fun e w' => ∃ p1 c1 p2 c2, e = .returned (.agg #[.slice p1 x.nd c1, .slice p2 x.nc c2]) ∧ Bls w' p1 dirs ∧ Ils w' p2 cuts ∧ (∀ b o, p2 = some ⟨b, o, none⟩ → W.heap.size ≤ b) ∧ Below W.heap.size W w') from fun W hb => fate_any x.pd x.nd x.cd dirs hdl (hdi.below hb) TI.out.dn x.pc x.nc x.cc cuts hcl (hcu.below hb) TI.out.cn TI.out.dl TI.out.cl)
        have CL := (show Hid (∀ (W1 : World) (p1 : Option Addr) (c1 : Nat) (p3 : Option Addr) (c3 : Nat), Below w22.heap.size w22 W1 → Bls W1 p1 dirs → Ils W1 p3 cuts → (∀ b o, p3 = some ⟨b, o, none⟩ → w22.heap.size ≤ b) → Calls Tryz.prog 17 #[.pointer (some ⟨db, 0, none⟩), .agg #[.slice p1 x.nd c1, .slice p3 x.nc c3]] W1 fun e w' => e = .returned (.int .i64 0) ∧ Stt w wb db w4.heap.size x (.slice p2 L2.length c2) L2 w' { gC with off := !false } (.map []) (σ5.crash dirs cuts)) from fun W1 p1 c1 p3 c3 hb h1 h2 h3 => s_crash S18.out hb LO.out (by have := HT2.out; omega) p1 x.nd c1 dirs hdl h1 p3 x.nc c3 cuts hcl h2 (by have := TI.out.dl; omega) (by have := TI.out.cl; omega) h3)
        obtain ⟨F8, hF8⟩ := S18.out.wnd.2.2
        have KZ := (show Hid (KpD (nb2 = true) L2 62 (σ5.crash dirs cuts) ∧ Okk (41 * t + 41) (σ5.crash dirs cuts)) from ⟨K14.out.1.crash (wfd_of hF8 LO.out) LO.out.sa dirs cuts, LO.out.crash (by have := HT2.out; omega) dirs cuts hF8⟩)
        have CE := (show Hid (∀ (W : World) g P σ, Stt w wb db w4.heap.size x (.slice p2 L2.length c2) L2 W g P σ → W.cell? ⟨wb, 0, none⟩ = some (.pointer (some ⟨db, 0, none⟩)) ∧ W.cell? ⟨w4.heap.size, 19, none⟩ = some (.slice x.pd x.nd x.cd) ∧ W.cell? ⟨w4.heap.size, 20, none⟩ = some (.slice x.pc x.nc x.cc)) from fun W g P σ h => ⟨h.wnd.2.1, h.at_.cell.2.2.2.2.2.2.1, h.at_.cell.2.2.2.2.2.2.2⟩)
        have S19 := (show Hid (Stt w wb db w4.heap.size x (.slice p2 L2.length c2) L2 w22.drew { gC with off := !false } (.map []) σ5) from S18.out.below (Below.refl _ _).drew)
        have KS := (show Hid (w22.drew.cell? ⟨wb, 0, none⟩ = some (.pointer (some ⟨db, 0, none⟩)) ∧ w22.drew.cell? ⟨w4.heap.size, 19, none⟩ = some (.slice x.pd x.nd x.cd) ∧ w22.drew.cell? ⟨w4.heap.size, 20, none⟩ = some (.slice x.pc x.nc x.cc)) from CE.out _ _ _ _ S19.out)
        clear hdl hdi hcl hcu hF8
        go_region_held3 (fun X => X.cell? ⟨wb, 0, none⟩ = some (.pointer (some ⟨db, 0, none⟩)) ∧ X.cell? ⟨w4.heap.size, 19, none⟩ = some (.slice x.pd x.nd x.cd) ∧ X.cell? ⟨w4.heap.size, 20, none⟩ = some (.slice x.pc x.nc x.cc)) (first | exact KS.out | exact KT.out | exact KU.out)
          (first
            | (go_at_call 18; refine (FA.out _ S19.out.bel).mono ?_; rintro e w23 ⟨p1, c1, p3, c3, rfl, hO1, hO2, hO3, hb2⟩; have KT := (show Hid (w23.cell? ⟨wb, 0, none⟩ = some (.pointer (some ⟨db, 0, none⟩)) ∧ w23.cell? ⟨w4.heap.size, 19, none⟩ = some (.slice x.pd x.nd x.cd) ∧ w23.cell? ⟨w4.heap.size, 20, none⟩ = some (.slice x.pc x.nc x.cc)) from CE.out _ _ _ _ (S19.out.below hb2)); have HO := (show Hid (Bls w23 p1 dirs ∧ Ils w23 p3 cuts ∧ (∀ b o, p3 = some ⟨b, o, none⟩ → w22.heap.size ≤ b) ∧ Below w22.heap.size w22 w23) from ⟨hO1, hO2, hO3, btD (Below.refl _ w22).drew hb2⟩); clear hO1 hO2 hO3 hb2)
            | (go_at_call 17; refine (CL.out w23 p1 c1 p3 c3 HO.out.2.2.2 HO.out.1 HO.out.2.1 HO.out.2.2.1).mono ?_; rintro e w24 ⟨rfl, hS⟩; have S20 := (show Hid (Stt w wb db w4.heap.size x (.slice p2 L2.length c2) L2 w24 { gC with off := !false } (.map []) (σ5.crash dirs cuts)) from hS); have KU := (show Hid (w24.cell? ⟨wb, 0, none⟩ = some (.pointer (some ⟨db, 0, none⟩)) ∧ w24.cell? ⟨w4.heap.size, 19, none⟩ = some (.slice x.pd x.nd x.cd) ∧ w24.cell? ⟨w4.heap.size, 20, none⟩ = some (.slice x.pc x.nc x.cc)) from CE.out _ _ _ _ S20.out); clear hS))
        all_goals
          go_wp2_with (go_at_call 16; refine (s_power S20.out true).mono ?_; rintro e w25 ⟨⟨v25, rfl⟩, hS⟩; have S21 := (show Hid (Stt w wb db w4.heap.size x (.slice p2 L2.length c2) L2 w25 { gC with off := !true } (.map []) (σ5.crash dirs cuts)) from hS); clear hS)
          go_meet
          case rel => exact ⟨_, _, S21.out, (GC.out.power false).power true, KZ.out.1.mono (by omega), KZ.out.2.mono (by omega)⟩
    case rest =>
    obtain ⟨y5, hy5⟩ : ∃ y5, y5 = wc := ⟨_, rfl⟩
    rw [← hy5] at hcut ⊢
    obtain ⟨gD, σD, hS, hGd, hKd, hOd⟩ := hcut.out
    have S30 := (show Hid (Stt w wb db w4.heap.size x (.slice p2 L2.length c2) L2 y5 gD (.map []) σD) from hS)
    have GD := (show Hid (Gop false 1 gD (.map []) ∧ KpD (nb2 = true) L2 (62 * (t + 2)) σD ∧ Okk (41 * (t + 1)) σD) from ⟨hGd, hKd, hOd⟩)
    have AM := (show Hid (Calls Tryz.prog 15 #[.pointer (some ⟨wb, 0, none⟩), .slice p2 L2.length c2, .bool nb2] y5 fun e w' => e = .returned (.bool true) ∧ Stt w wb db w4.heap.size x (.slice p2 L2.length c2) L2 w' (ahd gD (.map []) false).2 (.map []) σD) from by
      obtain ⟨G, _, _, _, _, h5, _⟩ := S30.out
      obtain ⟨p1, c1, ev, hr, hp⟩ := h5.rl
      injection ev with e1 _ _
      subst e1
      exact s_among S30.out (Below.refl _ _) (GD.out.1.gok (by omega)) GD.out.1.fr GD.out.2.1.sm.bl p2 c2 L2 hr (fun a ea => ⟨.inl (hp a ea), (h5.lt _ (hp a ea)).2⟩) (by have := K14.out.2.1; have := HT2.out; omega) nb2 GD.out.2.1.la)
    clear hcut hy5 hS hGd hKd hOd S17 GC
    go_wp2_with (go_at_call 15; refine AM.out.mono ?_; rintro e w31 ⟨rfl, hS⟩; have S31 := (show Hid (Stt w wb db w4.heap.size x (.slice p2 L2.length c2) L2 w31 (ahd gD (.map []) false).2 (.map []) σD) from hS); clear hS)
    go_roundw
    case rel => exact ⟨t + 1, L2, nb2, HT2.out.1, (by first | rw [WT.out] | go_num), rfl, ⟨_, _, _, S31.out.lst, GD.out.1.ahd, GD.out.2.2, GD.out.2.1, K14.out.2.1⟩⟩
    case measure => first | (rw [WT.out]; exact meas_ltL HT2.out.1) | exact meas_ltL HT2.out.1
end
end Go.Proofs.YtbdkdoeiajfkfaaGreat
