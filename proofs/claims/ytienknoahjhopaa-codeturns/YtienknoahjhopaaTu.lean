/-
  'Turn'.
-/
import Derived.Test.YtienknoahjhopaaUn
namespace Go.Proofs.Ytienknoahjhopaa
open Go.RowKit
section
attribute [local irreducible] Calls el Ov clE NmE
set_option maxHeartbeats 8000000 in
set_option maxRecDepth 1000000 in
theorem copies_own (p : Option Addr) (r c n : Nat) (D : Nat → Nat → BitVec 8) (w : World) (hr : r ≤ 1000) (hn : n ≤ 140737488355328) (ND : Hid (NmE w (.slice p r c) r (fun _ => n) D)) :
    Calls Try.prog 42 #[.slice p r c] w fun e w' => ∃ B ρ, e = .returned (.slice (some ⟨B, 0, none⟩) r r) ∧ Gr w' 23 5 B r n n ρ (fun i => clE (D i)) ∧ w.heap.size ≤ B ∧ (∀ i, i < r → w.heap.size < ρ i) ∧ Below w.heap.size w w' := by
  have hm1 := makeY r (by omega)
  rw [Nat.mul_one] at hm1
  have HO0 : Hid (Ov (w.alloc (.cells (Array.replicate r (.slice none 0 0)) 23)) 23 w.heap.size (fun i => if i < 0 then .slice (some ⟨0, 0, none⟩) n n else .slice none 0 0) r) := (ov_new w 23 (.slice none 0 0) r).congr (fun i _ => by rw [if_neg (by omega)])
  have HB0 : Hid (Below w.heap.size w (w.alloc (.cells (Array.replicate r (.slice none 0 0)) 23))) := (Below.refl _ _).alloc (Nat.le_refl _) _
  have HS0 : Hid (w.heap.size < (w.alloc (.cells (Array.replicate r (.slice none 0 0)) 23)).heap.size) := by show _ < _; simp
  go_enter Try.func42, Try.ntmps42
  go_wp2
  clear hm1
  have hm2 := make_bytes n hn
  go_loopw [11] (fun i wr => ∃ (k : Nat) (ρ : Nat → Nat), k ≤ r ∧ i = .int .i64 k ∧ Ov wr 23 w.heap.size (fun i => if i < k then .slice (some ⟨ρ i, 0, none⟩) n n else .slice none 0 0) r ∧ Hid (∀ i, i < k → Ov wr 5 (ρ i) (clE (D i)) n) ∧ Hid (∀ i, i < k → w.heap.size < ρ i ∧ ρ i < wr.heap.size) ∧ Hid (∀ i, i < k → ∀ j, j < k → ρ i = ρ j → i = j) ∧ Hid (w.heap.size < wr.heap.size) ∧ Below w.heap.size w wr) (fun i _ => r - (intOf i).toNat)
  case atStart => exact ⟨0, fun _ => 0, Nat.zero_le _, rfl, HO0.out, fun i hi => by omega, fun i hi => by omega, fun i hi => by omega, HS0, HB0.out⟩
  case round =>
    clear HO0 HB0 HS0
    obtain ⟨k, ρ, hk, rfl, hO, hR, hP, hI, hS, hb⟩ := hrel
    by_cases hlt : k < r
    · have j1 : (k : Int) < (r : Int) := by omega
      obtain ⟨b2, o2, rows, e2, hc2, hrw⟩ := nm_at ND.out (by omega)
      subst e2
      obtain ⟨pr, cr, er, _⟩ := nr_un (hrw k hlt)
      have g0 := hc2 k hlt
      rw [er] at g0
      have g1 := cell_below g0 hb
      have B1 := (Below.refl wr.heap.size wr).alloc (Nat.le_refl _) (.cells (Array.replicate n (.int .u8 0)) 5)
      have hO1 := hO.below B1
      have g3 := hO1.cell hlt
      have g4 := hO1.frozen k
      have hsz := hS.out
      have hsz0 := hb.size
      have B2 := (Below.refl (wr.setCell ⟨w.heap.size, k, none⟩ (.slice (some ⟨wr.heap.size, 0, none⟩) n n)).heap.size (wr.setCell ⟨w.heap.size, k, none⟩ (.slice (some ⟨wr.heap.size, 0, none⟩) n n))).alloc (Nat.le_refl _) (.cells (Array.replicate n (.int .u8 0)) 5)
      have HO2 := (show Hid _ from (hO.set hlt (.slice (some ⟨wr.heap.size, 0, none⟩) n n)).below B2)
      have HN0 : Hid (Ov ((wr.setCell ⟨w.heap.size, k, none⟩ (.slice (some ⟨wr.heap.size, 0, none⟩) n n)).alloc (.cells (Array.replicate n (.int .u8 0)) 5)) 5 wr.heap.size (fun _ => .int .u8 0) n) := by
        have h := ov_new (wr.setCell ⟨w.heap.size, k, none⟩ (.slice (some ⟨wr.heap.size, 0, none⟩) n n)) 5 (.int .u8 0) n
        rw [← size_set] at h; exact h
      have HBk : Hid (Below w.heap.size w ((wr.setCell ⟨w.heap.size, k, none⟩ (.slice (some ⟨wr.heap.size, 0, none⟩) n n)).alloc (.cells (Array.replicate n (.int .u8 0)) 5))) := (hb.setCell (Nat.le_refl _) _).alloc (by rw [← size_set]; exact hb.size) _
      have HSV : Hid (Sv ((wr.setCell ⟨w.heap.size, k, none⟩ (.slice (some ⟨wr.heap.size, 0, none⟩) n n)).alloc (.cells (Array.replicate n (.int .u8 0)) 5)) (.slice pr n cr) n (clE (D k)) n) := by
        have h := NrE.below (hrw k hlt) HBk.out
        rw [er] at h
        exact h
      have HRk : Hid (∀ i, i < k → Ov ((wr.setCell ⟨w.heap.size, k, none⟩ (.slice (some ⟨wr.heap.size, 0, none⟩) n n)).alloc (.cells (Array.replicate n (.int .u8 0)) 5)) 5 (ρ i) (clE (D i)) n) := fun i hi => ((hR.out i hi).other (p := ⟨w.heap.size, k, none⟩) (by show ρ i ≠ w.heap.size; have := (hP.out i hi).1; omega) rfl).below B2
      have gx : ((wr.setCell ⟨w.heap.size, k, none⟩ (.slice (some ⟨wr.heap.size, 0, none⟩) n n)).alloc (.cells (Array.replicate n (.int .u8 0)) 5)).cell? ⟨w.heap.size, k, none⟩ = some (.slice (some ⟨wr.heap.size, 0, none⟩) n n) := by
        have h := HO2.out.cell hlt
        rw [if_pos rfl] at h; exact h
      have HSZ : Hid (wr.heap.size < ((wr.setCell ⟨w.heap.size, k, none⟩ (.slice (some ⟨wr.heap.size, 0, none⟩) n n)).alloc (.cells (Array.replicate n (.int .u8 0)) 5)).heap.size) := by show _ < _; simp
      clear hc2 hrw er hO hO1 hb hR B1 B2
      go_wp2_with (refine wpList_copy_all rfl _ _ 23 23 rfl 5 Try.underlying23 1 (by kernel_rfl) wr.heap.size n n _ _ rfl rfl 5 _ (clE (D k)) (by omega) (by omega) HN0.out HSV.out (clE_one _) ?_; intro w2 hO2 hB2)
      have hsz2 := hB2.sz
      have hsz3 := HSZ.out
      go_roundw
      case rel =>
        refine ⟨k + 1, fun i => if i = k then wr.heap.size else ρ i, by omega, by go_num, (hB2.ov HO2.out (by omega)).congr (fun i _ => ?_), fun i hi => ?_, fun i hi => ?_, fun i hi j hj => ?_, ?_, But.from HBk.out hB2 (by omega)⟩
        · dsimp only
          by_cases e : i = k
          · rw [if_pos e, if_pos (by omega), if_pos e]
          · rw [if_neg e]
            by_cases e2 : i < k
            · rw [if_pos e2, if_pos (by omega), if_neg e]
            · rw [if_neg e2, if_neg (by omega)]
        · show Ov w2 _ (if i = k then wr.heap.size else ρ i) _ _
          by_cases e : i = k
          · subst e; rw [if_pos rfl]; exact hO2
          · rw [if_neg e]; exact hB2.ov (HRk.out i (by omega)) (by have := (hP.out i (by omega)).2; omega)
        · show w.heap.size < (if i = k then wr.heap.size else ρ i) ∧ (if i = k then wr.heap.size else ρ i) < w2.heap.size
          by_cases e : i = k
          · rw [if_pos e]; omega
          · rw [if_neg e]; have := hP.out i (by omega); omega
        · show (if i = k then wr.heap.size else ρ i) = (if j = k then wr.heap.size else ρ j) → i = j
          by_cases e : i = k
          · rw [if_pos e]
            by_cases e2 : j = k
            · intro _; omega
            · rw [if_neg e2]; have := hP.out j (by omega); intro; omega
          · rw [if_neg e]
            by_cases e2 : j = k
            · rw [if_pos e2]; have := hP.out i (by omega); intro; omega
            · rw [if_neg e2]; exact hI.out i (by omega) j (by omega)
        · show _ < _
          omega
      case measure => simp [intOf]; omega
    · obtain rfl : k = r := by omega
      go_wp2
      go_ret
      exact ⟨_, ρ, rfl, ⟨hO.congr (fun i hi => by rw [if_pos hi]), hR.out, fun i hi => by have := hP.out i hi; omega, hI.out⟩, Nat.le_refl _, fun i hi => (hP.out i hi).1, hb⟩
end
theorem sum_nr {w : World} {v1 v2 : Value} {n : Nat} {x y : Nat → BitVec 8} (h1 : NrE w v1 n x) (h2 : NrE w v2 n y) (hn : n ≤ 140737488355328) :
    Calls Try.prog 41 #[v1, v2] w fun e w' => e = .returned (.tuple #[.slice (some ⟨w.heap.size, 0, none⟩) n n, .int .i64 0]) ∧ NrE w' (.slice (some ⟨w.heap.size, 0, none⟩) n n) n (fun i => x i ^^^ y i) ∧ Below w.heap.size w w' := by
  obtain ⟨p1, c1, rfl, k1⟩ := nr_un h1
  obtain ⟨p2, c2, rfl, k2⟩ := nr_un h2
  by_cases h0 : n = 0
  · subst h0
    refine (sum_nil p1 p2 c1 c2 w).mono ?_
    rintro e w' ⟨rfl, rfl⟩
    exact ⟨rfl, ⟨_, _, rfl, .inl rfl⟩, (Below.refl _ _).alloc (Nat.le_refl _) _⟩
  · obtain ⟨b1, o1, rfl, hc1⟩ := k1 (by omega)
    obtain ⟨b2, o2, rfl, hc2⟩ := k2 (by omega)
    exact (sum_core b1 o1 b2 o2 n c1 c2 x y w hn hc1 hc2).mono fun e w' ⟨he, hO, hb⟩ => ⟨he, ov_nr (own_ov hO), hb⟩
/-- What a turn makes: the row at, and the rows from k to t. -/
def tur (k at_ t : Nat) (F W : Nat → Nat → BitVec 8) (d : Nat → BitVec 8) (i c : Nat) : BitVec 8 := if i = at_ then d c else if k ≤ i ∧ i < t then plE (W i c) (tiE (F i at_) (W at_ c ^^^ d c)) else W i c
theorem tur_start {k a : Nat} {F W : Nat → Nat → BitVec 8} {d : Nat → BitVec 8} (i c : Nat) : (if i = a then d c else W i c) = tur k a k F W d i c := by
  unfold tur
  by_cases e : i = a
  · rw [if_pos e, if_pos e]
  · rw [if_neg e, if_neg e, if_neg (by omega)]
theorem tur_step {k a t : Nat} {F W : Nat → Nat → BitVec 8} {d : Nat → BitVec 8} (ha : a < k) (ht : k ≤ t) (i c : Nat) : (if i = t then plE (tur k a t F W d t c) (tiE (F t a) (W a c ^^^ d c)) else tur k a t F W d i c) = tur k a (t + 1) F W d i c := by
  unfold tur
  by_cases e : i = t
  · subst e
    rw [if_pos rfl, if_neg (by omega), if_neg (by omega), if_neg (by omega), if_pos (by omega)]
  · rw [if_neg e]
    by_cases e2 : i = a
    · rw [if_pos e2, if_pos e2]
    · rw [if_neg e2, if_neg e2]
      by_cases e3 : k ≤ i ∧ i < t
      · rw [if_pos e3, if_pos (by omega)]
      · rw [if_neg e3, if_neg (by omega)]
/-- One row of the call's own is another. -/
theorem gr_row {w w' : World} {B r n g : Nat} {ρ : Nat → Nat} {M M' : Nat → Nat → BitVec 8} {t : Nat} (h : Gr w 23 5 B r n n ρ (fun i => clE (M i))) (ht : t < r) (hg : g = ρ t) (hO : Ov w' 5 g (clE (M' t)) n) (hb : But g w w') (he : ∀ i, i < r → i ≠ t → ∀ c, M' i c = M i c) : Gr w' 23 5 B r n n ρ (fun i => clE (M' i)) := by
  subst hg
  refine ⟨hb.ov h.out (fun e => h.ne t ht e.symm), fun i hi => ?_, h.ne, h.inj⟩
  by_cases e : i = t
  · subst e; exact hO
  · exact ovE_congr (hb.ov (h.row i hi) (fun e2 => e (h.inj i hi t ht e2))) (fun c _ => (he i hi e c).symm)
theorem gr_at {w : World} {B r n : Nat} {ρ : Nat → Nat} {M : Nat → Nat → BitVec 8} (h : Gr w 23 5 B r n n ρ (fun i => clE (M i))) {t : Nat} (ht : t < r) : w.cell? ⟨B, t, none⟩ = some (.slice (some ⟨ρ t, 0, none⟩) n n) := h.out.cell ht
section
attribute [local irreducible] Calls el Ov clE NmE NrE Cd plE tiE tur
set_option maxHeartbeats 16000000 in
set_option maxRecDepth 1000000 in
theorem turn_core {w : World} {v vd : Value} {k m n a cR : Nat} {pR : Option Addr} {F W : Nat → Nat → BitVec 8} {d : Nat → BitVec 8} (hk : 1 ≤ k) (hm : 1 ≤ m) (hkm : k + m ≤ 255) (hn : n ≤ 140737488355328) (ha : a < k) (hC : Hid (Cd w v k m F)) (hR : Hid (NmE w (.slice pR (k + m) cR) (k + m) (fun _ => n) W)) (hd : Hid (NrE w vd n d)) :
    Calls Try.prog 20 #[v, .slice pR (k + m) cR, .int .i64 (a : Int), vd] w fun e w' => ∃ v', e = .returned (.tuple #[v', .int .i64 0]) ∧ NmE w' v' (k + m) (fun _ => n) (tur k a (k + m) F W d) ∧ Below w.heap.size w w' := by
  have NO := (show Hid _ from none_ok hC.out hk)
  obtain ⟨cb, pF, cF, ev, q1, q2, _, hNF⟩ := cd_open hC.out
  subst ev
  obtain ⟨bF, oF, rowsF, eF, hcF, hnF⟩ := nm_at hNF (by omega)
  subst eF
  obtain ⟨bR, oR, rowsR, eR, hcR, hnR⟩ := nm_at hR.out (by omega)
  subst eR
  have FA := (show Hid _ from fault_ok (some ⟨bR, oR, none⟩) (k + m) cR n w (by omega) (NmE.lm hR.out))
  rw [Int.natCast_add] at FA
  obtain ⟨pd, cd, ed, _⟩ := nr_un hd.out
  subst ed
  have r1 := hcR a (by omega)
  have SU := (show Hid _ from sum_nr (hnR a (by omega)) hd.out hn)
  have HCF := (show Hid _ from hcF)
  have HNF := (show Hid _ from hnF)
  have j1 : ¬ (a : Int) < 0 := by omega
  have j2 : ¬ (k : Int) ≤ (a : Int) := by omega
  have j3 : (a : Int) < (k : Int) + (m : Int) := by omega
  have j4 : (0 : Int) ≤ (a : Int) := by omega
  have j5 : ((k : Int) + (m : Int) != (k : Int) + (m : Int)) = false := by simp
  clear hcF hnF hcR hnR hNF
  go_enter Try.func20, Try.ntmps20
  go_wp2_with (first
    | (go_at_call 30; refine NO.out.mono ?_; rintro e w' ⟨rfl, h⟩; obtain rfl := h.symm)
    | (go_at_call 36; refine FA.out.mono ?_; rintro e w' ⟨rfl, h⟩; obtain rfl := h.symm)
    | (go_at_call 41; refine SU.out.mono ?_; rintro e w1 ⟨rfl, hS1, hb1⟩; have HS1 := (show Hid _ from hS1); have CO := (show Hid _ from copies_own (some ⟨bR, oR, none⟩) (k + m) cR n W w1 (by omega) hn (NmE.below hR.out hb1)); clear hS1 SU)
    | (go_at_call 42; refine CO.out.mono ?_; rintro e w2 ⟨B, ρ, rfl, hG2, hB2, hρ2, hb2⟩; have HG2 := (show Hid _ from hG2); have HB2 := (show Hid _ from bt hb1 hb2); have g2 := gr_at hG2 (t := a) (by omega); have HO2 := (show Hid _ from Gr.row hG2 a (by omega)); have HSV := (show Hid _ from un_sv (NrE.below hd.out HB2.out)); have hρa : w1.heap.size < ρ a := hρ2 a (by omega); have HR2 := (show Hid _ from hρ2); clear hG2 CO hρ2)
    | (refine wpList_copy_all rfl _ _ 23 23 rfl 5 Try.underlying23 1 (by kernel_rfl) (ρ a) n n _ _ rfl rfl 5 _ (clE d) (by omega) (by omega) HO2.out HSV.out (clE_one _) ?_; intro w3 hO3 hB3; have hcbl : cb < w.heap.size := block_lt_of_cell q1; have hs1 := hb1.size; have q13 := hB3.cell (cell_below q1 HB2.out) (show cb ≠ ρ a by omega)))
  have HG3 : Hid (Gr w3 23 5 B (k + m) n n ρ (fun i => clE (tur k a k F W d i))) := by
    refine gr_row HG2.out (t := a) (by omega) rfl (ovE_congr hO3 (fun c _ => ?_)) hB3 (fun i _ hne c => ?_)
    · rw [← tur_start, if_pos rfl]
    · rw [← tur_start, if_neg hne]
  have HB13 : Hid (Below w1.heap.size w1 w3) := But.from hb2 hB3 (by omega)
  have HB1 := (show Hid _ from hb1)
  clear hO3 hB3 HG2 HO2 HSV g2 hb1 hb2 q13
  go_loopw [14] (fun i wr => ∃ t : Nat, k ≤ t ∧ t ≤ k + m ∧ i = .int .i64 t ∧ Hid (Gr wr 23 5 B (k + m) n n ρ (fun i => clE (tur k a t F W d i))) ∧ Below w1.heap.size w1 wr) (fun i _ => k + m - (intOf i).toNat)
  case atStart => exact ⟨k, Nat.le_refl _, by omega, rfl, HG3, HB13.out⟩
  case round =>
    clear HG3 HB13
    obtain ⟨t, hkt, htm, rfl, hG, hb⟩ := hrel
    by_cases hlt : t < k + m
    · have j6 : (t : Int) < (k : Int) + (m : Int) := by omega
      have hbd := (show Hid _ from hb.drew)
      have hwd := (show Hid _ from bt HB1.out hbd.out)
      obtain ⟨pr, cr, er, hra⟩ := nr_un (HNF.out t hlt)
      obtain ⟨bx, ox, ex, hcx⟩ := hra (by omega)
      subst ex
      have f0 := HCF.out t hlt
      rw [er] at f0
      have f1 := hcx a (by omega)
      have k1 := gr_at hG.out hlt
      have hbl1 : bF < w.heap.size := block_lt_of_cell f0
      have hbl2 : bx < w.heap.size := block_lt_of_cell f1
      have hρt := HR2.out t hlt
      have hBt : B ≠ ρ t := fun e => (Gr.ne hG.out t hlt) e.symm
      have KS := (show Hid (_ ∧ _ ∧ _ ∧ _) from ⟨cell_below k1 (bdr wr), cell_below q2 hwd.out, cell_below f0 hwd.out, cell_below f1 hwd.out⟩)
      have AD := (show Hid _ from addTo_core (ρ t) n n (F t a) (tur k a t F W d t) _ _ w1 wr.drew hn ((Gr.row hG.out t hlt).below (bdr wr)) HS1 hbd)
      clear er hra hcx f0 f1 k1 hb
      go_wp2
      go_region_held3 (fun X => X.cell? ⟨B, t, none⟩ = some (.slice (some ⟨ρ t, 0, none⟩) n n) ∧ X.cell? ⟨cb, 1, none⟩ = some (.slice (some ⟨bF, oF, none⟩) (k + m) cF) ∧ X.cell? ⟨bF, oF + t, none⟩ = some (.slice (some ⟨bx, ox, none⟩) k cr) ∧ X.cell? ⟨bx, ox + a, none⟩ = some (.int .u8 (el (F t a)))) (first | exact KH.out | exact KS.out | go_keep)
        (first
        | (go_at_call 43; refine AD.out.mono ?_; rintro e w5 ⟨rfl, hO5, hB5⟩; have KH := (show Hid (_ ∧ _ ∧ _ ∧ _) from ⟨hB5.cell KS.out.1 (show B ≠ ρ t by omega), hB5.cell KS.out.2.1 (show cb ≠ ρ t by omega), hB5.cell KS.out.2.2.1 (show bF ≠ ρ t by omega), hB5.cell KS.out.2.2.2 (show bx ≠ ρ t by omega)⟩); have HO5 := (show Hid _ from hO5); have HB5 := (show Hid _ from hB5); clear hO5 hB5))
      all_goals
        go_wp2
        go_roundw
        case rel =>
          refine ⟨t + 1, by omega, by omega, by go_num, ?_, But.from hbd.out HB5.out (by omega)⟩
          refine gr_row (Gr.below hG.out (bdr wr)) hlt rfl (ovE_congr HO5.out (fun c _ => ?_)) HB5.out (fun i _ hne c => ?_)
          · rw [← tur_step ha hkt, if_pos rfl]
          · rw [← tur_step ha hkt, if_neg hne]
        case measure => simp [intOf]; omega
    · obtain rfl : t = k + m := by omega
      have j6 : ¬ (k : Int) + (m : Int) < (k : Int) + (m : Int) := by omega
      go_wp2
      go_ret2
      exact ⟨_, rfl, gr_nm hG.out, bt HB1.out hb⟩
end
end Go.Proofs.Ytienknoahjhopaa
