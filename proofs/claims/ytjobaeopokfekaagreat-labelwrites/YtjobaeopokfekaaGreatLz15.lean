/-
  Package label on a plain drive, and on none: 'Read', 'Write'; drive.New.
-/
import Derived.Test.YtjobaeopokfekaaGreatLu15
import Derived.Test.YtjobaeopokfekaaGreatAx15
import Derived.Laws.StructEq
namespace Go.Proofs.YtjobaeopokfekaaGreat
open Go.RowKit Go.Maps
/-- A text's bytes as numbers of eight bits. -/
def bvs (d : Tx) : List (BitVec 8) := d.map (fun u => BitVec.ofNat 8 u.toNat)
theorem bvs_len (d : Tx) : (bvs d).length = d.length := by simp [bvs]
theorem bvs_at (d : Tx) (i : Nat) : Value.int .u8 (el ((bvs d).getD i 0#8)) = u8v (d.getD i 0) := by
  unfold bvs u8v el
  congr 1
  by_cases h : i < d.length
  · simp [h]
  · have h1 : (d.map (fun u : UInt8 => BitVec.ofNat 8 u.toNat))[i]? = none := List.getElem?_eq_none (by simp; omega)
    have h2 : d[i]? = none := List.getElem?_eq_none (by omega)
    simp [h2]
theorem bvs_us (xs : List (BitVec 8)) : bvs (us xs) = xs := by
  unfold bvs us
  rw [List.map_map]
  conv => rhs; rw [← List.map_id xs]
  apply List.map_congr_left
  intro b _
  show BitVec.ofNat 8 (UInt8.ofNat b.toNat).toNat = b
  have := b.isLt
  apply BitVec.eq_of_toNat_eq
  simp
theorem Rx.rd {w : World} {p : Option Addr} {d : Tx} (h : Rx w p d) : Rd w p (bvs d) := by
  rcases h with h | ⟨b, off, ha, hc⟩
  · subst h; exact .inl rfl
  · exact .inr ⟨b, off, ha, fun i hi => by rw [bvs_at]; exact hc i (by rw [bvs_len] at hi; exact hi)⟩
theorem Rd.rx {w : World} {p : Option Addr} {xs : List (BitVec 8)} (h : Rd w p xs) : Rx w p (us xs) := by
  rcases h with h | ⟨b, off, ha, hc⟩
  · subst h; exact .inl rfl
  · exact .inr ⟨b, off, ha, fun i hi => by rw [← bvs_at, bvs_us]; exact hc i (by rw [us_len] at hi; exact hi)⟩
/-- What Read says of a drive. -/
def Ds.lread (σ : Ds) : Int × Lbl := if (σ.read [108]).1 = 0 then pL (bvs (σ.read [108]).2) else ((σ.read [108]).1, lb0)
/-- What Write does to a drive. -/
def Ds.lwrite (σ : Ds) (l : Lbl) : Int × Ds := if l.ck = 0 then ((σ.awrite [108] (us l.fm)).1, (σ.awrite [108] (us l.fm)).2) else (l.ck, σ)
theorem newD_dr (w : World) (n : Nat) : DrAt (w.alloc (.cells #[.int .i64 (n : Int), .int .i64 0, .map none, .map none, .slice none 0 0] 86)) w.heap.size (Ds.new n) (· = w.heap.size) := by
  refine ⟨rfl, fun b hb => ?_, [], fun _ => undef, none, none, .slice none 0 0, heap_alloc_new w _, ?_⟩
  · have : b = w.heap.size := hb
    simp [this]
  · exact ⟨.inl ⟨rfl, rfl, rfl, rfl, rfl⟩, rfl, List.nodup_nil, fun i hi => absurd hi (Nat.not_lt_zero _), fun i j g hi => absurd hi (Nat.not_lt_zero _), ⟨[], ⟨rfl, .inl ⟨rfl, rfl⟩⟩, rfl, fun j hj => absurd hj (Nat.not_lt_zero _)⟩, fun g hg => by cases hg⟩
section
attribute [local irreducible] Calls el Lbl.cs cmo rg smL ar8
set_option maxRecDepth 1000000 in
theorem newD_any (n : Nat) (hn : n ≤ 1073741824) (w : World) : Calls Tryz.prog 23 #[.int .i64 (n : Int)] w fun e w' => e = .returned (.pointer (some ⟨w.heap.size, 0, none⟩)) ∧ DrAt w' w.heap.size (Ds.new n) (· = w.heap.size) ∧ Below w.heap.size w w' := by
  have g1 : ¬ ((n : Int) < 0) := by omega
  have g2 : ¬ ((1073741824 : Int) < (n : Int)) := by omega
  have d1 : decide ((n : Int) < 0) = false := decide_eq_false g1
  have d2 : decide ((1073741824 : Int) < (n : Int)) = false := decide_eq_false g2
  go_enter Tryz.func23, Tryz.ntmps23
  go_wp2
  go_ret
  exact ⟨rfl, newD_dr w n, (Below.refl _ _).alloc (Nat.le_refl _) _⟩
set_option maxRecDepth 1000000 in
theorem lread_none (w : World) : Calls Tryz.prog 12 #[.nilIface] w fun e w' => e = .returned (.tuple #[.agg lb0.cs, .int .i64 1]) ∧ Below w.heap.size w w' := by
  go_enter Tryz.func12, Tryz.ntmps12
  go_wp2_with (first
    | (refine wpList_alLb rfl rfl ?_; intro wA ZA hbA hsA; clear hsA)
    | (refine wpList_bd0 rfl rfl ?_)
    | (refine wpList_storeLb rfl _ _ rfl rfl w.heap.size rfl rfl ZA ?_; intro wC ZC hTC; replace hbA := hTC.2.1 _ _ hbA (Nat.le_refl _)))
  exact bodyPost_ret (res_lb rfl _ _ w.heap.size lb0 (.int .i64 1) rfl rfl ZC) rfl ⟨rfl, hbA⟩
set_option maxRecDepth 1000000 in
theorem lwrite_none (l : Lbl) (w : World) : Calls Tryz.prog 16 #[.nilIface, .agg l.cs] w fun e w' => e = .returned (.int .i64 1) ∧ Below w.heap.size w w' := by
  go_enter Tryz.func16, Tryz.ntmps16
  go_wp2
  go_ret
  exact ⟨rfl, (Below.refl _ _).alloc (Nat.le_refl _) _⟩
set_option maxHeartbeats 4000000 in
set_option maxRecDepth 1000000 in
theorem lread_dr {w : World} {db : Nat} {σ : Ds} {F : Nat → Prop} (h : DrAt w db σ F) (hm : ∀ i, σ.find [108] = .inr i → (σ.body i).data.length ≤ 140737488355328) :
    Calls Tryz.prog 12 #[.iface 31 (.pointer (some ⟨db, 0, none⟩))] w fun e w' => e = .returned (.tuple #[.agg σ.lread.2.cs, .int .i64 σ.lread.1]) ∧ Below w.heap.size w w' := by
  have M1 := mt_read
  have RD := (show Hid _ from fun (W : World) (hb : Below w.heap.size w W) => read_any (h.below hb) [108] (by decide) hm)
  unfold Ds.lread
  generalize σ.read [108] = r1 at *
  obtain ⟨e1, d1⟩ := r1
  clear h hm
  by_cases he : e1 = 0
  · subst he
    rw [if_pos rfl]
    generalize hpl : pL (bvs d1) = q
    obtain ⟨e2, l2⟩ := q
    have PA := (show Hid (∀ (W : World) p c, Rx W p d1 → d1.length ≤ c → Calls Tryz.prog 22 #[.slice p d1.length c] W fun e w' => e = .returned (.tuple #[.agg l2.cs, .int .i64 e2]) ∧ Below W.heap.size W w') from fun W p c hx hc => by
      have := lparse_any (Rx.rd hx) d1.length c (bvs_len d1) hc
      rw [hpl] at this
      exact this)
    clear hpl
    go_enter Tryz.func12, Tryz.ntmps12
    go_wp2_with (first
      | (refine wpList_alLb rfl rfl ?_; intro wA ZA hbA hsA; clear hsA)
      | (go_at_call 26; refine (RD.out _ hbA).mono ?_; rintro e w1 ⟨v1, rfl, ho1, hb1⟩; obtain ⟨p1, c1, rfl, hc1, hx1⟩ := ho1.rx; replace ZA := ZA.below hb1; replace hbA := hbA.trans (hb1.mono hbA.size))
      | (go_at_call 22; refine (PA.out _ _ _ hx1 hc1).mono ?_; rintro e w2 ⟨rfl, hb2⟩; replace ZA := ZA.below hb2; replace hbA := hbA.trans (hb2.mono hbA.size))
      | (refine wpList_storeLb rfl _ _ rfl rfl w.heap.size rfl rfl ZA ?_; intro wC ZC hTC; replace hbA := hTC.2.1 _ _ hbA (Nat.le_refl _)))
    exact bodyPost_ret (res_lb rfl _ _ w.heap.size l2 (.int .i64 e2) rfl rfl ZC) rfl ⟨rfl, hbA⟩
  · rw [if_neg he]
    have hz : ((e1 : Int) != 0) = true := by simp; omega
    go_enter Tryz.func12, Tryz.ntmps12
    go_wp2_with (first
      | (refine wpList_alLb rfl rfl ?_; intro wA ZA hbA hsA; clear hsA)
      | (go_at_call 26; refine (RD.out _ hbA).mono ?_; rintro e w1 ⟨v1, rfl, ho1, hb1⟩; obtain ⟨p1, c1, rfl, hc1, hx1⟩ := ho1.rx; replace ZA := ZA.below hb1; replace hbA := hbA.trans (hb1.mono hbA.size))
      | (refine wpList_bd0 rfl rfl ?_)
      | (refine wpList_storeLb rfl _ _ rfl rfl w.heap.size rfl rfl ZA ?_; intro wC ZC hTC; replace hbA := hTC.2.1 _ _ hbA (Nat.le_refl _)))
    exact bodyPost_ret (res_lb rfl _ _ w.heap.size lb0 (.int .i64 (e1 : Int)) rfl rfl ZC) rfl ⟨rfl, hbA⟩
theorem ow31 {w : World} {base : Nat} {v : Value} {xs : List (BitVec 8)} (h : Ow w base v xs) (hl : xs.length = 31) : ∃ g cap, v = .slice (some ⟨g, 0, none⟩) 31 cap ∧ 31 ≤ cap ∧ base ≤ g ∧ g < w.heap.size ∧ Rd w (some ⟨g, 0, none⟩) xs := by
  rcases h.2 with ⟨hv, h0⟩ | ⟨g, cap, c, hv, hg, hh, hc, hm, hs, ht⟩
  · omega
  · have hb := h.lt (g := g) (by rw [hv]; rfl)
    obtain ⟨p, cap', hv', hc', hr⟩ := h.rd
    rw [hv] at hv'
    injection hv' with e1 e2 e3
    subst e1
    rw [hl] at hv hc
    exact ⟨g, cap, hv, hc, hg, hb.2, hr⟩
set_option maxHeartbeats 4000000 in
set_option maxRecDepth 1000000 in
theorem lwrite_dr {w : World} {db k : Nat} {σ : Ds} {F : Nat → Prop} (h : DrAt w db σ F) (ok : Okk k σ) (hk : k ≤ 134216000) (l : Lbl) (hi : l.In) :
    Calls Tryz.prog 16 #[.iface 31 (.pointer (some ⟨db, 0, none⟩)), .agg l.cs] w fun e w' => e = .returned (.int .i64 (σ.lwrite l).1) ∧ Sw w F db w' (σ.lwrite l).2 := by
  have EN := (show Hid _ from fun w => lencode_any l hi w)
  have HA := LbAt.new w l
  have hbw := (Below.refl _ w).alloc (Nat.le_refl _) (.cells l.cs 27)
  unfold Ds.lwrite
  by_cases h0 : l.ck = 0
  · rw [if_pos h0]
    unfold Lbl.enc at EN
    rw [if_pos h0, h0] at EN
    have WR := (show Hid (∀ (W : World) (hb : Below w.heap.size w W) (g c : Nat) (hr : Rd W (some ⟨g, 0, none⟩) l.fm) (hg : w.heap.size ≤ g) (hl : g < W.heap.size), Calls Tryz.prog 17 #[.iface 31 (.pointer (some ⟨db, 0, none⟩)), .string ⟨#[108]⟩, .slice (some ⟨g, 0, none⟩) 31 c] W fun e w' => e = .returned (.int .i64 (σ.awrite [108] (us l.fm)).1) ∧ Sw w F db w' (σ.awrite [108] (us l.fm)).2) from fun W hb g c hr hg hl => by
      have hD := h.below hb
      refine (awrite_dr hD ok [108] (by decide) g 0 31 c (us l.fm) hr.rx (fun hF => ?_) hl (by rw [us_len, l.fm_len]) (by omega)).mono ?_
      · have := h.2.1 g hF; omega
      · rintro e w' ⟨h1, h2, h3⟩
        refine ⟨h1, h2.more (fun b hb' => ?_) (fun b hb' => ?_), Tn.up hb h3 (fun _ _ h => h)⟩
        · rcases hb' with hb' | hb'
          · exact .inl hb'
          · exact .inr ⟨Nat.le_trans hb.size hb'.1, hb'.2⟩
        · rcases hb' with hb' | hb'
          · exact Nat.lt_of_lt_of_le (h.2.1 b hb') (Nat.le_trans hb.size h3.size)
          · exact hb'.2)
    generalize σ.awrite [108] (us l.fm) = r1 at *
    obtain ⟨e1, σ1⟩ := r1
    clear h ok
    go_enter Tryz.func16, Tryz.ntmps16
    go_wp2_with (first
      | (refine wpList_loadLb rfl _ rfl w.heap.size rfl HA ?_)
      | (go_at_call 20; refine (EN.out _).mono ?_; rintro e w1 ⟨v1, rfl, ho1, hb1⟩; obtain ⟨g1, c1, rfl, hc1, hg1, hg2, hr1⟩ := ow31 ho1 l.fm_len; have hbx := hbw.trans (hb1.mono hbw.size))
      | (go_at_call 17; refine (WR.out _ hbx g1 c1 hr1 (Nat.le_trans hbw.size hg1) hg2).mono ?_; rintro e w2 ⟨rfl, hS2⟩))
    go_ret
    exact ⟨rfl, hS2⟩
  · rw [if_neg h0]
    have S0 := (show Hid (∀ W, Below w.heap.size w W → Sw w F db W σ) from fun W hb => (Sw.start h).below hb)
    generalize l.ck = z at h0 EN ⊢
    have hz : (z != 0) = true := by simpa using h0
    go_enter Tryz.func16, Tryz.ntmps16
    go_wp2_with (first
      | (refine wpList_loadLb rfl _ rfl w.heap.size rfl HA ?_)
      | (go_at_call 20; refine (EN.out _).mono ?_; rintro e w1 ⟨v1, rfl, ho1, hb1⟩; obtain ⟨p1, c1, rfl, hc1, hr1⟩ := ho1.rd; have hbx := hbw.trans (hb1.mono hbw.size)))
    go_ret
    exact ⟨rfl, S0.out _ hbx⟩
end
end Go.Proofs.YtjobaeopokfekaaGreat
/-
  What a new drive reads behind a label's writing; labels compared; the chapter's own label.
-/
namespace Go.Proofs.YtjobaeopokfekaaGreat
open Go.RowKit Go.Maps
/-- The chapter's own label. -/
def smp : Lbl := ⟨1#8, 2#8, 3#8, 4#8, 5#8, 6#8, 7#8, 8#8, 2, 1, 4, 2, 258⟩
theorem smp_ck : smp.ck = 0 := (ck_ok _).2 ⟨by decide, by decide, by decide, by decide, by decide, by decide, by decide, by decide, by decide, by decide, by decide, by decide⟩
theorem smp_ok : smp.Ok := (ck_ok _).1 smp_ck
theorem smp_in : smp.In := ⟨⟨by decide, by decide⟩, ⟨by decide, by decide⟩, ⟨by decide, by decide⟩, ⟨by decide, by decide⟩, ⟨by decide, by decide⟩⟩
theorem new_lread (n : Nat) : (Ds.new n).lread = (110, lb0) := rfl
/-- A drive on which the first writing was done. -/
theorem new_awrite (n : Nat) (d : Tx) (h1 : d ≠ []) (h2 : d.length ≤ n) : ∃ τ, (Ds.new n).awrite [108] d = (0, τ) ∧ τ.read [108] = (0, d) ∧ ∀ i, (τ.body i).data.length ≤ d.length := by
  have m0 : IsMap (.map [] : Dir) := ⟨_, rfl⟩
  have n1 : isN [116] = true := rfl
  have n2 : isN [108] = true := rfl
  have l1 : lk ((.map [] : Dir).put (.string [116]) (ip 0)) [116] = some 0 := lk_put_same m0 _ _
  have m1 : IsMap ((.map [] : Dir).put (.string [116]) (ip 0)) := m0.put _ _
  have l2 : lk ((((.map [] : Dir).put (.string [116]) (ip 0)).del (.string [116])).put (.string [108]) (ip 0)) [108] = some 0 := lk_put_same (m1.del _) _ _
  have c1 : (Ds.new n).create [116] = (0, ⟨n, 0, (.map [] : Dir).put (.string [116]) (ip 0), .map [], [[([116], some 0)]], [⟨[], 0⟩]⟩) := by
    unfold Ds.create
    rw [if_pos n1, if_neg (by rintro ⟨_, h⟩; revert h; simp [Ds.new, Maps.size])]
    rfl
  have f1 : ∀ (u : Int) (b : Bd), Ds.find ⟨n, u, (.map [] : Dir).put (.string [116]) (ip 0), .map [], [[([116], some 0)]], [b]⟩ [116] = .inr 0 := by
    intro u b
    unfold Ds.find
    rw [if_pos n1]
    simp only [l1]
  have a1 : Ds.append ⟨n, 0, (.map [] : Dir).put (.string [116]) (ip 0), .map [], [[([116], some 0)]], [⟨[], 0⟩]⟩ [116] d = (0, ⟨n, d.length, (.map [] : Dir).put (.string [116]) (ip 0), .map [], [[([116], some 0)]], [⟨d, 0⟩]⟩) := by
    unfold Ds.append
    rw [f1]
    simp only [h1, if_false]
    rw [if_neg (by omega)]
    simp [Ds.setBody, Ds.body]
  have s1 : Ds.sync ⟨n, d.length, (.map [] : Dir).put (.string [116]) (ip 0), .map [], [[([116], some 0)]], [⟨d, 0⟩]⟩ [116] = (0, ⟨n, d.length, (.map [] : Dir).put (.string [116]) (ip 0), .map [], [[([116], some 0)]], [⟨d, d.length⟩]⟩) := by
    unfold Ds.sync
    rw [f1]
    simp [Ds.setBody, Ds.body]
  have w1 : (Ds.new n).afill d = (0, ⟨n, d.length, (.map [] : Dir).put (.string [116]) (ip 0), .map [], [[([116], some 0)]], [⟨d, d.length⟩]⟩) := by
    unfold Ds.afill
    rw [c1]
    simp only [if_true, a1, s1]
  have r1 : ∃ u, Ds.rename ⟨n, d.length, (.map [] : Dir).put (.string [116]) (ip 0), .map [], [[([116], some 0)]], [⟨d, d.length⟩]⟩ [116] [108] = (0, ⟨n, u, (((.map [] : Dir).put (.string [116]) (ip 0)).del (.string [116])).put (.string [108]) (ip 0), .map [], [[([116], some 0)], [([116], none), ([108], some 0)]], [⟨d, d.length⟩]⟩) := by
    unfold Ds.rename
    rw [if_pos n2, f1]
    simp only [if_neg (show ¬ ([116] : Tx) = [108] by decide)]
    exact ⟨_, rfl⟩
  obtain ⟨u, r1⟩ := r1
  refine ⟨Ds.syncDir ⟨n, u, (((.map [] : Dir).put (.string [116]) (ip 0)).del (.string [116])).put (.string [108]) (ip 0), .map [], [[([116], some 0)], [([116], none), ([108], some 0)]], [⟨d, d.length⟩]⟩, ?_, ?_, ?_⟩
  · unfold Ds.awrite
    rw [if_pos (show wN [108] = true from rfl), w1]
    simp only [if_true, r1]
  · unfold Ds.read Ds.find Ds.syncDir
    rw [if_pos n2]
    simp only [l2]
    rfl
  · intro i
    match i with
    | 0 => exact Nat.le_refl _
    | i + 1 => exact Nat.zero_le _
theorem smp_write (n : Nat) (hn : 31 ≤ n) : ∃ τ, (Ds.new n).lwrite smp = (0, τ) ∧ τ.lread = (0, smp) ∧ ∀ i, (τ.body i).data.length ≤ 31 := by
  obtain ⟨τ, h1, h2, h3⟩ := new_awrite n (us smp.fm) (fun e => by have := congrArg List.length e; rw [us_len, Lbl.fm_len] at this; cases this) (by rw [us_len, Lbl.fm_len]; exact hn)
  refine ⟨τ, ?_, ?_, fun i => by have := h3 i; rwa [us_len, Lbl.fm_len] at this⟩
  · unfold Ds.lwrite
    rw [if_pos smp_ck, h1]
    rfl
  · unfold Ds.lread
    rw [h2]
    simp only [if_true, bvs_us]
    exact pL_fm smp smp_ok
end Go.Proofs.YtjobaeopokfekaaGreat
/-
  Labels compared; 'sample'.
-/
namespace Go.Proofs.YtjobaeopokfekaaGreat
open Go.RowKit Go.Maps
theorem e80 (x : Nat → Int) (w : World) : (part 5 #[.int .u8 (x 0), .int .u8 (x 1), .int .u8 (x 2), .int .u8 (x 3), .int .u8 (x 4), .int .u8 (x 5), .int .u8 (x 6), .int .u8 (x 7)] 0).run Tryz.prog w = .ok (.int .u8 (x 0)) w := by kernel_rfl
theorem e81 (x : Nat → Int) (w : World) : (part 5 #[.int .u8 (x 0), .int .u8 (x 1), .int .u8 (x 2), .int .u8 (x 3), .int .u8 (x 4), .int .u8 (x 5), .int .u8 (x 6), .int .u8 (x 7)] 1).run Tryz.prog w = .ok (.int .u8 (x 1)) w := by kernel_rfl
theorem e82 (x : Nat → Int) (w : World) : (part 5 #[.int .u8 (x 0), .int .u8 (x 1), .int .u8 (x 2), .int .u8 (x 3), .int .u8 (x 4), .int .u8 (x 5), .int .u8 (x 6), .int .u8 (x 7)] 2).run Tryz.prog w = .ok (.int .u8 (x 2)) w := by kernel_rfl
theorem e83 (x : Nat → Int) (w : World) : (part 5 #[.int .u8 (x 0), .int .u8 (x 1), .int .u8 (x 2), .int .u8 (x 3), .int .u8 (x 4), .int .u8 (x 5), .int .u8 (x 6), .int .u8 (x 7)] 3).run Tryz.prog w = .ok (.int .u8 (x 3)) w := by kernel_rfl
theorem e84 (x : Nat → Int) (w : World) : (part 5 #[.int .u8 (x 0), .int .u8 (x 1), .int .u8 (x 2), .int .u8 (x 3), .int .u8 (x 4), .int .u8 (x 5), .int .u8 (x 6), .int .u8 (x 7)] 4).run Tryz.prog w = .ok (.int .u8 (x 4)) w := by kernel_rfl
theorem e85 (x : Nat → Int) (w : World) : (part 5 #[.int .u8 (x 0), .int .u8 (x 1), .int .u8 (x 2), .int .u8 (x 3), .int .u8 (x 4), .int .u8 (x 5), .int .u8 (x 6), .int .u8 (x 7)] 5).run Tryz.prog w = .ok (.int .u8 (x 5)) w := by kernel_rfl
theorem e86 (x : Nat → Int) (w : World) : (part 5 #[.int .u8 (x 0), .int .u8 (x 1), .int .u8 (x 2), .int .u8 (x 3), .int .u8 (x 4), .int .u8 (x 5), .int .u8 (x 6), .int .u8 (x 7)] 6).run Tryz.prog w = .ok (.int .u8 (x 6)) w := by kernel_rfl
theorem e87 (x : Nat → Int) (w : World) : (part 5 #[.int .u8 (x 0), .int .u8 (x 1), .int .u8 (x 2), .int .u8 (x 3), .int .u8 (x 4), .int .u8 (x 5), .int .u8 (x 6), .int .u8 (x 7)] 7).run Tryz.prog w = .ok (.int .u8 (x 7)) w := by kernel_rfl
set_option maxRecDepth 100000 in
theorem eq_arrL (x y : Nat → Int) (w : World) : (Op.equalIn 9999 23 (.agg #[.int .u8 (x 0), .int .u8 (x 1), .int .u8 (x 2), .int .u8 (x 3), .int .u8 (x 4), .int .u8 (x 5), .int .u8 (x 6), .int .u8 (x 7)]) (.agg #[.int .u8 (y 0), .int .u8 (y 1), .int .u8 (y 2), .int .u8 (y 3), .int .u8 (y 4), .int .u8 (y 5), .int .u8 (y 6), .int .u8 (y 7)])).run Tryz.prog w = .ok (x 0 == y 0 && (x 1 == y 1 && (x 2 == y 2 && (x 3 == y 3 && (x 4 == y 4 && (x 5 == y 5 && (x 6 == y 6 && x 7 == y 7))))))) w := by
  obtain ⟨i0, hi, hz0, hz1, hz2⟩ := info_parts info5
  have ei : ∀ (a b : Int) (w : World), (Op.equalIn 9998 5 (.int .u8 a) (.int .u8 b)).run Tryz.prog w = .ok (a == b) w := fun a b w => run_equalIn_int w 9997 5 .u8 .u8 a b Tryz.underlying5
  rw [Op.equalIn]
  simp only [Sem.run_bind, run_underlying Tryz.underlying23, Result.andThen_ok, sizeOf, typeInfo, run_program, hi]
  simp [List.range', hz1, e80, e81, e82, e83, e84, e85, e86, e87, ei]
  repeat' split
  all_goals simp [*]
def b8L (h : Lbl) (i : Nat) : Int := el (h.st.getD i 0#8)
theorem stL_eq (h g : Lbl) : (b8L h 0 == b8L g 0 && (b8L h 1 == b8L g 1 && (b8L h 2 == b8L g 2 && (b8L h 3 == b8L g 3 && (b8L h 4 == b8L g 4 && (b8L h 5 == b8L g 5 && (b8L h 6 == b8L g 6 && b8L h 7 == b8L g 7))))))) = decide (h.st = g.st) := by
  unfold b8L
  simp only [el_beqL]
  rw [Bool.eq_iff_iff]
  simp only [Bool.and_eq_true, decide_eq_true_eq]
  unfold Lbl.st
  simp
def lq (h g : Lbl) : Bool := decide (h.st = g.st) && (decide (h.k = g.k) && (decide (h.m = g.m) && (decide (h.b = g.b) && (decide (h.ix = g.ix) && decide (h.ep = g.ep)))))
theorem lq_iff (h g : Lbl) : lq h g = true ↔ h = g := by
  unfold lq
  simp only [Bool.and_eq_true, decide_eq_true_eq]
  constructor
  · obtain ⟨⟩ := h
    obtain ⟨⟩ := g
    unfold Lbl.st
    simp only [List.cons.injEq, Lbl.mk.injEq]
    rintro ⟨⟨h0, h1, h2, h3, h4, h5, h6, h7, _⟩, hk, hm, hb, hi, he⟩
    exact ⟨h0, h1, h2, h3, h4, h5, h6, h7, hk, hm, hb, hi, he⟩
  · rintro rfl; simp
set_option maxHeartbeats 4000000 in
set_option maxRecDepth 100000 in
theorem eq_lbl (h g : Lbl) (w : World) : (Op.equalIn 10000 27 (.agg h.cs) (.agg g.cs)).run Tryz.prog w = .ok (lq h g) w := by
  have ea : (Op.equalIn 9999 23 (.agg #[.int .u8 (el h.a0), .int .u8 (el h.a1), .int .u8 (el h.a2), .int .u8 (el h.a3), .int .u8 (el h.a4), .int .u8 (el h.a5), .int .u8 (el h.a6), .int .u8 (el h.a7)]) (.agg #[.int .u8 (el g.a0), .int .u8 (el g.a1), .int .u8 (el g.a2), .int .u8 (el g.a3), .int .u8 (el g.a4), .int .u8 (el g.a5), .int .u8 (el g.a6), .int .u8 (el g.a7)])).run Tryz.prog w = .ok (decide (h.st = g.st)) w := by
    rw [← stL_eq]; exact eq_arrL (b8L h) (b8L g) w
  unfold Lbl.cs
  go_simp
  repeat' split
  all_goals simp [lq, *]
theorem neq_lbl (h g : Lbl) (w : World) : (binOp .neq 27 (.agg h.cs) (.agg g.cs)).run Tryz.prog w = .ok (.bool (!lq h g)) w := by
  rw [run_neq_struct, eq_lbl]; rfl
theorem eql_lbl (h g : Lbl) (w : World) : (binOp .eql 27 (.agg h.cs) (.agg g.cs)).run Tryz.prog w = .ok (.bool (lq h g)) w := by
  rw [run_eql_struct, eq_lbl]; rfl
set_option maxRecDepth 100000 in
theorem sample_any (w : World) : Calls Tryz.prog 21 #[] w fun e w' => e = .returned (.agg smp.cs) ∧ Below w.heap.size w w' := by
  go_enter Tryz.func21, Tryz.ntmps21
  go_wp2_with (first
    | (refine wpList_alLb rfl rfl ?_; intro wA ZA hbA hsA; clear hsA)
    | (refine wpList_storeLb (h := smp) rfl _ _ rfl rfl w.heap.size rfl rfl ZA ?_; intro wC ZC hTC; replace hbA := hTC.2.1 _ _ hbA (Nat.le_refl _)))
  refine bodyPost_ret (v := .agg smp.cs) ?_ rfl ⟨rfl, hbA⟩
  unfold LbAt at ZC
  exact results_cell_row rfl _ _ w.heap.size 27 smp.cs (0, 0) _ (by kernel_rfl) ZC Tryz.underlying27 rfl (sizeLb' _)
end Go.Proofs.YtjobaeopokfekaaGreat
