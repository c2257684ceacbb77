/-
  The code's rows: 'addMultiple', 'sum'.
-/
import Derived.Test.YtmjobnabnkiakaaCw
import Derived.Test.YtmjobnabnkiakaaScaleb
namespace Go.Proofs.Ytmjobnabnkiakaa
open Go.RowKit
theorem own_ov {w : World} {t : TypeId} {g n : Nat} {f : Nat → BitVec 8} (h : Own w t g f n) : Ov w t g (clE f) n := h
theorem ovE_congr {w : World} {t : TypeId} {g n : Nat} {f f' : Nat → BitVec 8} (h : Ov w t g (clE f) n) (e : ∀ j, j < n → f j = f' j) : Ov w t g (clE f') n := h.congr (fun j hj => by unfold clE; rw [e j hj])
theorem ovE_cell {w : World} {t : TypeId} {g n : Nat} {f : Nat → BitVec 8} (h : Ov w t g (clE f) n) {j : Nat} (hj : j < n) : w.cell? ⟨g, j, none⟩ = some (.int .u8 (el (f j))) := h.cell hj
theorem ovE_put {w : World} {t : TypeId} {g n : Nat} {f : Nat → BitVec 8} (h : Ov w t g (clE f) n) {j : Nat} (hj : j < n) (x : BitVec 8) : Ov (w.setCell ⟨g, j, none⟩ (.int .u8 (el x))) t g (clE (fun i => if i = j then x else f i)) n :=
  (h.set hj _).congr (fun i _ => by
    unfold clE
    by_cases e : i = j
    · simp [e]
    · simp [e])
theorem nr_un {w : World} {v : Value} {n : Nat} {f : Nat → BitVec 8} (h : NrE w v n f) : ∃ p c, v = .slice p n c ∧ (0 < n → ∃ b o, p = some ⟨b, o, none⟩ ∧ ∀ i, i < n → w.cell? ⟨b, o + i, none⟩ = some (.int .u8 (el (f i)))) := by
  obtain ⟨p, c, e, h⟩ := h
  refine ⟨p, c, e, fun h0 => ?_⟩
  rcases h with h | h
  · omega
  · exact h
/-- A scaled row. -/
theorem scale_nr {w : World} {v : Value} {n : Nat} {d : Nat → BitVec 8} (h : NrE w v n d) (x : BitVec 8) (hn : n ≤ 140737488355328) :
    Calls Try.prog 59 #[v, .int .u8 (el x)] w fun e w' => ∃ g, e = .returned (.slice (some ⟨g, 0, none⟩) n n) ∧ w.heap.size ≤ g ∧ Ov w' 5 g (clE (fun i => tiE (d i) x)) n ∧ Below w.heap.size w w' := by
  obtain ⟨p, c, rfl, h2⟩ := nr_un h
  by_cases h0 : n = 0
  · subst h0
    exact (scale_nil p c x w).mono fun e w' ⟨g, he, hg, ho, hb⟩ => ⟨g, he, hg, ovE_congr (own_ov ho) (fun j hj => by omega), hb⟩
  · obtain ⟨b, o, rfl, hc⟩ := h2 (by omega)
    exact (scale_core b o n c d x w hn hc).mono fun e w' ⟨g, he, hg, ho, hb⟩ => ⟨g, he, hg, own_ov ho, hb⟩
section
attribute [local irreducible] Calls el Ov clE tiE plE NrE
set_option maxHeartbeats 8000000 in
set_option maxRecDepth 1000000 in
theorem addTo_core (g n c1 : Nat) (x : BitVec 8) (f d : Nat → BitVec 8) (v2 : Value) (w0 w : World) (hn : n ≤ 140737488355328) (hO : Ov w 5 g (clE f) n) (hd : Hid (NrE w0 v2 n d)) (hb : Hid (Below w0.heap.size w0 w)) :
    Calls Try.prog 44 #[.slice (some ⟨g, 0, none⟩) n c1, .int .u8 (el x), v2] w fun e w' => e = .returned (.tuple #[]) ∧ Ov w' 5 g (clE (fun j => plE (f j) (tiE x (d j)))) n ∧ But g w w' := by
  have HZ := (show Hid _ from fun w => isZero_any x w)
  have glt := hO.lt
  have HO := (show Hid _ from hO)
  clear hO
  by_cases hx : x = 0#8
  · have ez : (x == 0#8) = true := by simpa using hx
    rw [ez] at HZ
    have HE : Hid (∀ j, f j = plE (f j) (tiE x (d j))) := fun j => by rw [hx, plE_o _ _ (by decide)]
    clear hx ez
    go_enter Try.func44, Try.ntmps44
    go_wp2_with (go_at_call 58; refine (HZ.out _).mono ?_; rintro e w' ⟨rfl, h⟩; obtain rfl := h.symm)
    refine bodyPost_ret (results_0 rfl _ _ _) rfl ?_
    exact ⟨rfl, ovE_congr HO.out (fun j _ => HE.out j), But.refl _ _⟩
  · have ez : (x == 0#8) = false := by simpa using hx
    rw [ez] at HZ
    have SC := (show Hid _ from scale_nr (NrE.below hd.out hb.out) x hn)
    clear hx ez
    go_enter Try.func44, Try.ntmps44
    go_wp2_with (first
      | (go_at_call 58; refine (HZ.out _).mono ?_; rintro e w' ⟨rfl, h⟩; obtain rfl := h.symm)
      | (go_at_call 59; refine SC.out.mono ?_; rintro e w1 ⟨g2, rfl, hg2, hO2, hb1⟩))
    have HO1 : Hid (Ov w1 5 g (clE (fun j => if j < 0 then plE (f j) (tiE (d j) x) else f j)) n) := ovE_congr (Ov.below HO.out hb1) (fun j _ => by rw [if_neg (by omega)])
    have HO2 := (show Hid _ from hO2)
    have HB1 := (show Hid _ from (But.refl g w).below (Nat.le_of_lt glt) hb1)
    have ng : ¬ g2 = g := by omega
    clear hO2 hb1 SC
    go_loopw [14] (fun i wr => ∃ k : Nat, k ≤ n ∧ i = .int .i64 k ∧ Ov wr 5 g (clE (fun j => if j < k then plE (f j) (tiE (d j) x) else f j)) n ∧ Ov wr 5 g2 (clE (fun i => tiE (d i) x)) n ∧ But g w wr) (fun i _ => n - (intOf i).toNat)
    case atStart => exact ⟨0, Nat.zero_le _, rfl, HO1.out, HO2.out, HB1.out⟩
    case round =>
      clear HO1 HO2 HB1
      obtain ⟨k, hk, rfl, hO, hO2, hB⟩ := hrel
      by_cases hlt : k < n
      · have j1 : (k : Int) < (n : Int) := by omega
        have g1 := ovE_cell hO hlt
        rw [if_neg (Nat.lt_irrefl k)] at g1
        have g3 := hO.frozen k
        have g4 := ovE_cell hO2 hlt
        have HP := (show Hid _ from ovE_put hO hlt (plE (f k) (tiE (d k) x)))
        have HQ := (show Hid _ from hO2.other (p := ⟨g, k, none⟩) (u := .int .u8 (el (plE (f k) (tiE (d k) x)))) (by show g2 ≠ g; exact ng) rfl)
        have HB := (show Hid _ from hB.set k (.int .u8 (el (plE (f k) (tiE (d k) x)))))
        clear hO hO2 hB
        go_wp2_with (go_at_call 57; refine (plusE (f k) (tiE (d k) x) _).mono ?_; rintro e w' ⟨rfl, h⟩; obtain rfl := h.symm)
        go_roundw
        case rel =>
          refine ⟨k + 1, by omega, by go_num, ovE_congr HP.out (fun j _ => ?_), HQ.out, HB.out⟩
          by_cases e : j = k
          · subst e; rw [if_pos rfl, if_pos (by omega)]
          · rw [if_neg e]
            by_cases e2 : j < k
            · rw [if_pos e2, if_pos (by omega)]
            · rw [if_neg e2, if_neg (by omega)]
        case measure => simp [intOf]; omega
      · obtain rfl : k = n := by omega
        go_wp2
        (try simp only [Exit.inBlock, Exit.then])
        refine bodyPost_end (results_0 rfl _ _ _) rfl ?_
        exact ⟨rfl, ovE_congr hO (fun j hj => by rw [if_pos hj, fdE.ti_comm x (d j) |> (show tiE x (d j) = tiE (d j) x from ·)]), hB⟩
end
theorem nm_at {w : World} {p : Option Addr} {r c : Nat} {l : Nat → Nat} {N : Nat → Nat → BitVec 8} (h : NmE w (.slice p r c) r l N) (h0 : 0 < r) : ∃ (b o : Nat) (rows : Nat → Value), p = some ⟨b, o, none⟩ ∧ (∀ i, i < r → w.cell? ⟨b, o + i, none⟩ = some (rows i)) ∧ ∀ i, i < r → NrE w (rows i) (l i) (N i) := by
  obtain ⟨rows, h1, h2⟩ := h
  obtain ⟨b, o, c', e, hc⟩ := h1.cells h0
  injection e with e _ _
  exact ⟨b, o, rows, e, hc, h2⟩
section
attribute [local irreducible] Calls el Ov clE tiE plE NrE skk NmE
set_option maxHeartbeats 8000000 in
set_option maxRecDepth 1000000 in
theorem codeSum_core (p1 p2 : Option Addr) (q c1 r c2 n : Nat) (x : Nat → BitVec 8) (D : Nat → Nat → BitVec 8) (w : World) (hq : q ≤ r) (hr0 : 0 < r) (hr : r ≤ 1000) (hn : n ≤ 140737488355328) (HX : Hid (0 < q → ∃ b o, p1 = some ⟨b, o, none⟩ ∧ ∀ i, i < q → w.cell? ⟨b, o + i, none⟩ = some (.int .u8 (el (x i))))) (ND : Hid (NmE w (.slice p2 r c2) r (fun _ => n) D)) :
    Calls Try.prog 42 #[.slice p1 q c1, .slice p2 r c2] w fun e w' => ∃ g, e = .returned (.slice (some ⟨g, 0, none⟩) n n) ∧ Ov w' 5 g (clE (fun c => skk plE oE (fun j => tiE (x j) (D j c)) q)) n ∧ w.heap.size ≤ g ∧ Below w.heap.size w w' := by
  obtain ⟨b2, o2, rows, e2, hc2, hrw⟩ := nm_at ND.out hr0
  subst e2
  obtain ⟨pr, cr, er, _⟩ := nr_un (hrw 0 hr0)
  have g0 : w.cell? ⟨b2, o2, none⟩ = some (.slice pr n cr) := by have h := hc2 0 hr0; rw [er] at h; exact h
  have HC2 : Hid (∀ i, i < r → w.cell? ⟨b2, o2 + i, none⟩ = some (rows i)) := hc2
  have HRW : Hid (∀ i, i < r → NrE w (rows i) n (D i)) := hrw
  have hm1 := make_bytes n hn
  have i0 : (0 : Int) < (r : Int) := by omega
  have HO0 : Hid (Ov (w.alloc (.cells (Array.replicate n (.int .u8 0)) 5)) 5 w.heap.size (clE (fun c => skk plE oE (fun j => tiE (x j) (D j c)) 0)) n) := (ov_new w 5 (.int .u8 0) n).congr (fun i _ => by unfold clE; dsimp only; rw [skk_zero, show oE = 0#8 from rfl, el_oo])
  have HB0 : Hid (Below w.heap.size w (w.alloc (.cells (Array.replicate n (.int .u8 0)) 5))) := (Below.refl _ _).alloc (Nat.le_refl _) _
  clear hc2 hrw er
  go_enter Try.func42, Try.ntmps42
  go_wp2
  clear hm1 g0
  go_loopw [15] (fun i wr => ∃ k : Nat, k ≤ q ∧ i = .int .i64 k ∧ Ov wr 5 w.heap.size (clE (fun c => skk plE oE (fun j => tiE (x j) (D j c)) k)) n ∧ Below w.heap.size w wr) (fun i _ => q - (intOf i).toNat)
  case atStart => exact ⟨0, Nat.zero_le _, rfl, HO0.out, HB0.out⟩
  case round =>
    clear HO0 HB0
    obtain ⟨k, hk, rfl, hO, hb⟩ := hrel
    by_cases hlt : k < q
    · have j1 : (k : Int) < (q : Int) := by omega
      have j2 : (k : Int) < (r : Int) := by omega
      obtain ⟨b1, o1, e1, hc1⟩ := HX.out (by omega)
      subst e1
      have g1 := cell_below (hc1 k hlt) hb
      have g2 := cell_below (HC2.out k (by omega)) hb
      have AD := (show Hid _ from addTo_core w.heap.size n n (x k) _ (D k) (rows k) w wr hn hO (HRW.out k (by omega)) hb)
      have HB := (show Hid _ from hb)
      clear hO hb hc1
      go_wp2_with (go_at_call 44; refine AD.out.mono ?_; rintro e w2 ⟨rfl, hO2, hB2⟩)
      go_roundw
      case rel => exact ⟨k + 1, by omega, by go_num, ovE_congr hO2 (fun c _ => by rw [skk_succ]), But.from HB.out hB2 (Nat.le_refl _)⟩
      case measure => simp [intOf]; omega
    · obtain rfl : k = q := by omega
      go_wp2
      go_ret
      exact ⟨_, rfl, hO, Nat.le_refl _, hb⟩
end
end Go.Proofs.Ytmjobnabnkiakaa
