/-
  Stripe: total, dataRows.
-/
import Derived.Test.YtgokkppojhokbaaCy10
import Derived.IntWalk
namespace Go.Proofs.Ytgokkppojhokbaa
open Go.RowKit
section
attribute [local irreducible] Calls
set_option maxHeartbeats 1000000 in
set_option maxRecDepth 1000000 in
theorem total_any {w : World} {p : Option Addr} {L : List Nat} (hL : Vr w p (icN L)) (c : Nat) (hS : L.sum ≤ 140737488355328) (hl : L.length ≤ 1099511627776) :
    Calls Try.prog 29 #[.slice p L.length c] w fun e w' => e = .returned (.int .i64 (L.sum : Int)) ∧ Below w.heap.size w w' := by
  go_enter Try.func29, Try.ntmps29
  go_wp2
  go_loopw [3, 8] (fun s i wr => ∃ t : Nat, t ≤ L.length ∧ i = .int .i64 (t : Int) ∧ s = .int .i64 (((L.take t).sum : Nat) : Int) ∧ Below w.heap.size w wr) (fun _ i _ => L.length - (intOf i).toNat)
  case atStart => exact ⟨0, Nat.zero_le _, rfl, rfl, Below.refl _ _⟩
  case round =>
    obtain ⟨t, ht, rfl, rfl, hbw⟩ := hrel
    by_cases hlt : t < L.length
    · obtain ⟨g1, o1, rfl, hc⟩ := hL.num t hlt
      have hc' := cell_below hc hbw
      have hi : (t : Int) < (L.length : Int) := by omega
      have h1 := sum_take_lt L t hlt
      have h2 := sum_take_succ L t hlt
      have e1 : wrap64 (((L.take t).sum : Nat) + ((L.getD t 0 : Nat) : Int)) = (((L.take (t + 1)).sum : Nat) : Int) := by rw [h2]; unfold wrap64; omega
      generalize (L.take t).sum = s0 at *
      generalize L.getD t 0 = x at *
      go_wp2
      go_roundw
      case rel => exact ⟨t + 1, hlt, by go_num, by rw [h2, Int.natCast_add], hbw⟩
      case measure => simp [intOf]; omega
    · obtain rfl : t = L.length := by omega
      have e1 : (L.take L.length).sum = L.sum := by rw [List.take_length]
      rw [e1]
      go_wp2
      go_ret
      exact ⟨rfl, hbw⟩
end
/-- The rows of the data while they are laid: t stripes, and of the next one i blocks. -/
def dmt (k : Nat) (L : List Nat) (g : Nat → BitVec 8) (t i : Nat) (r c : Nat) : BitVec 8 := if c < (L.take t).sum ∨ (c < (L.take t).sum + L.getD t 0 ∧ r < i) then dm k L g r c else 0#8
theorem dmt_step (k n : Nat) (L : List Nat) (d : Nat → BitVec 8) (t i pos q : Nat) (ht : t < L.length) (hp : pos = min n (k * (L.take t).sum + i * L.getD t 0)) (hq : q = min (n - pos) (L.getD t 0)) (r c : Nat) :
    (if r = i then ovl (clE (dmt k L (pad n d) t i r)) (clE (fun j => d (pos + j))) (L.take t).sum q c else clE (dmt k L (pad n d) t i r) c) = clE (dmt k L (pad n d) t (i + 1) r) c := by
  by_cases e : r = i
  · subst e
    rw [if_pos rfl]
    unfold ovl clE
    by_cases h1 : (L.take t).sum ≤ c ∧ c < (L.take t).sum + q
    · rw [if_pos h1]
      unfold dmt
      rw [if_pos (.inr ⟨by omega, by omega⟩)]
      have := dm_at k L (pad n d) t r (c - (L.take t).sum) ht (by omega)
      rw [show (L.take t).sum + (c - (L.take t).sum) = c by omega] at this
      rw [this]
      unfold pad
      rw [if_pos (by omega), show pos = k * (L.take t).sum + r * L.getD t 0 by omega]
    · rw [if_neg h1]
      unfold dmt
      by_cases h2 : c < (L.take t).sum
      · rw [if_pos (.inl h2), if_pos (.inl h2)]
      · by_cases h3 : c < (L.take t).sum + L.getD t 0
        · rw [if_neg (by omega), if_pos (.inr ⟨h3, by omega⟩)]
          have := dm_at k L (pad n d) t r (c - (L.take t).sum) ht (by omega)
          rw [show (L.take t).sum + (c - (L.take t).sum) = c by omega] at this
          rw [this]
          unfold pad
          rw [if_neg (by omega)]
        · rw [if_neg (by omega), if_neg (by omega)]
  · rw [if_neg e]
    unfold clE dmt
    by_cases h : c < (L.take t).sum ∨ (c < (L.take t).sum + L.getD t 0 ∧ r < i)
    · rw [if_pos h, if_pos (by omega)]
    · rw [if_neg h, if_neg (by omega)]
theorem dmt_next (k : Nat) (L : List Nat) (g : Nat → BitVec 8) (t r c : Nat) (ht : t < L.length) (hr : r < k) : dmt k L g t k r c = dmt k L g (t + 1) 0 r c := by
  unfold dmt
  rw [sum_take_succ L t ht]
  by_cases h : c < (L.take t).sum + L.getD t 0
  · rw [if_pos (by omega), if_pos (.inl h)]
  · rw [if_neg (by omega), if_neg (by omega)]
theorem dmt_end (k : Nat) (L : List Nat) (g : Nat → BitVec 8) (r c : Nat) (hc : c < L.sum) : dmt k L g L.length 0 r c = dm k L g r c := by
  unfold dmt
  rw [List.take_length, if_pos (.inl hc)]
theorem nr_sv {w : World} {v : Value} {n : Nat} {f : Nat → BitVec 8} (h : NrE w v n f) : Sv w v n (clE f) n := h
theorem i64_fits (A l : Nat) (h : A + l ≤ 140737488355328) : IntKind.i64.wrap ((A : Int) + (l : Int)) = (A : Int) + (l : Int) := IntWalk.i64_in _ ⟨by omega, by omega⟩
theorem el0z : el 0#8 = 0 := by decide +kernel
section
attribute [local irreducible] Calls el Ov clE NmE NrE dmt dm pad
set_option maxHeartbeats 8000000 in
set_option maxRecDepth 1000000 in
theorem dataRows_any {w : World} {p pd : Option Addr} {L : List Nat} {k n : Nat} {d : Nat → BitVec 8} (hL : Vr w p (icN L)) (c cd : Nat) (hS : L.sum ≤ 140737488355328) (hl : L.length ≤ 1099511627776) (hk : k ≤ 255) (hcd : n ≤ cd) (hD : NrE w (.slice pd n cd) n d) :
    Calls Try.prog 16 #[.int .i64 (k : Int), .slice p L.length c, .slice pd n cd] w fun e w' => ∃ B ρ, e = .returned (.slice (some ⟨B, 0, none⟩) k k) ∧ Gr w' 23 5 B k L.sum L.sum ρ (fun i => clE (dm k L (pad n d) i)) ∧ w.heap.size ≤ B ∧ Below w.heap.size w w' := by
  have hD0 : NrE w (.slice pd (n - 0) cd) (n - 0) (fun j => d (0 + j)) := by simpa using hD
  have hm1 := makeY k (by omega)
  rw [Nat.mul_one] at hm1
  have HO0 : Hid (Ov (w.alloc (.cells (Array.replicate k (.slice none 0 0)) 23)) 23 w.heap.size (fun i => if i < 0 then .slice (some ⟨0, 0, none⟩) L.sum L.sum else .slice none 0 0) k) := (ov_new w 23 (.slice none 0 0) k).congr (fun i _ => by rw [if_neg (by omega)])
  have HB0 : Hid (Below w.heap.size w (w.alloc (.cells (Array.replicate k (.slice none 0 0)) 23))) := (Below.refl _ _).alloc (Nat.le_refl _) _
  have HS0 : Hid (w.heap.size < (w.alloc (.cells (Array.replicate k (.slice none 0 0)) 23)).heap.size) := by show _ < _; simp
  have TO := (show Hid _ from fun (wr : World) (hb : Below w.heap.size w wr) => total_any (hL.below hb) c hS hl)
  go_enter Try.func16, Try.ntmps16
  go_wp2
  clear hm1
  have hm2 := make_bytes L.sum hS
  go_loopw [16] (fun i wr => ∃ (t : Nat) (ρ : Nat → Nat), t ≤ k ∧ i = .int .i64 t ∧ Ov wr 23 w.heap.size (fun i => if i < t then .slice (some ⟨ρ i, 0, none⟩) L.sum L.sum else .slice none 0 0) k ∧ Hid (∀ i, i < t → Ov wr 5 (ρ i) (fun _ => .int .u8 0) L.sum) ∧ Hid (∀ i, i < t → w.heap.size < ρ i ∧ ρ i < wr.heap.size) ∧ Hid (∀ i, i < t → ∀ j, j < t → ρ i = ρ j → i = j) ∧ Hid (w.heap.size < wr.heap.size) ∧ Below w.heap.size w wr) (fun i _ => k - (intOf i).toNat)
  case atStart => exact ⟨0, fun _ => 0, Nat.zero_le _, rfl, HO0.out, fun i hi => by omega, fun i hi => by omega, fun i hi => by omega, HS0, HB0.out⟩
  case round =>
    clear HO0 HB0 HS0
    obtain ⟨t, ρ, ht, rfl, hO, hR, hP, hI, hSz, hb⟩ := hrel
    by_cases hlt : t < k
    · have j1 : (t : Int) < (k : Int) := by omega
      go_wp2_with (go_at_call 29; refine (TO.out _ hb).mono ?_; rintro e w1 ⟨rfl, hb1⟩; have hO1 := hO.below hb1; have B1 := (Below.refl w1.heap.size w1).alloc (Nat.le_refl _) (.cells (Array.replicate L.sum (.int .u8 0)) 5); have hO2 := hO1.below B1; have g3 := hO2.cell hlt; have g4 := hO2.frozen t)
      go_roundw
      case rel =>
        have hs1 := hb1.size
        have hs2 := hSz.out
        have e0 : Ov ((w1.alloc (.cells (Array.replicate L.sum (.int .u8 0)) 5)).setCell ⟨w.heap.size, t, none⟩ (.slice (some ⟨w1.heap.size, 0, none⟩) L.sum L.sum)) 5 w1.heap.size (fun _ => .int .u8 0) L.sum := (ov_new w1 5 (.int .u8 0) L.sum).other (p := ⟨w.heap.size, t, none⟩) (by show w1.heap.size ≠ w.heap.size; omega) rfl
        refine ⟨t + 1, fun i => if i = t then w1.heap.size else ρ i, by omega, by go_num, (hO2.set hlt _).congr (fun i _ => ?_), fun i hi => ?_, fun i hi => ?_, fun i hi j hj => ?_, ?_, ((hb.trans (hb1.mono hb.size)).alloc (Nat.le_trans hb.size hs1) _).setCell (Nat.le_refl _) _⟩
        · dsimp only
          by_cases e : i = t
          · rw [if_pos e, if_pos (by omega), if_pos e]
          · rw [if_neg e]
            by_cases e2 : i < t
            · rw [if_pos e2, if_pos (by omega), if_neg e]
            · rw [if_neg e2, if_neg (by omega)]
        · show Ov _ _ (if i = t then w1.heap.size else ρ i) _ _
          by_cases e : i = t
          · subst e; rw [if_pos rfl]; exact e0
          · rw [if_neg e]
            have := hP.out i (by omega)
            exact (((hR.out i (by omega)).below hb1).below B1).other (p := ⟨w.heap.size, t, none⟩) (by show ρ i ≠ w.heap.size; omega) rfl
        · show w.heap.size < (if i = t then w1.heap.size else ρ i) ∧ (if i = t then w1.heap.size else ρ i) < _
          by_cases e : i = t
          · rw [if_pos e]; simp; omega
          · rw [if_neg e]; have := hP.out i (by omega); simp; omega
        · show (if i = t then w1.heap.size else ρ i) = (if j = t then w1.heap.size else ρ j) → i = j
          by_cases e : i = t
          · rw [if_pos e]
            by_cases e2 : j = t
            · intro _; omega
            · rw [if_neg e2]; have := hP.out j (by omega); intro; omega
          · rw [if_neg e]
            by_cases e2 : j = t
            · rw [if_pos e2]; have := hP.out i (by omega); intro; omega
            · rw [if_neg e2]; exact hI.out i (by omega) j (by omega)
        · show _ < _
          simp; omega
      case measure => simp [intOf]; omega
    · obtain rfl : t = k := by omega
      have HG : Hid (Gr wr 23 5 w.heap.size t L.sum L.sum ρ (fun i => clE (dmt t L (pad n d) 0 0 i))) :=
        ⟨hO.congr (fun i hi => by rw [if_pos hi]), fun i hi => (hR.out i hi).congr (fun j _ => by unfold clE dmt; rw [if_neg (by simp), el0z]), fun i hi => by have := hP.out i hi; omega, hI.out⟩
      have HP : Hid (∀ i, i < t → w.heap.size < ρ i) := fun i hi => (hP.out i hi).1
      have HB := (show Hid _ from hb)
      clear hO hR hP hI hSz hb TO hm2
      go_wp2
      go_loopw [2, 9, 28] (fun dv av jv wr => ∃ (u pos : Nat) (p' : Option Addr) (c' : Nat), u ≤ L.length ∧ jv = .int .i64 u ∧ av = .int .i64 (((L.take u).sum : Nat) : Int) ∧ dv = .slice p' (n - pos) c' ∧ n - pos ≤ c' ∧ Hid (pos = min n (t * (L.take u).sum)) ∧ Hid (NrE w (.slice p' (n - pos) c') (n - pos) (fun j => d (pos + j))) ∧ Hid (Gr wr 23 5 w.heap.size t L.sum L.sum ρ (fun i => clE (dmt t L (pad n d) u 0 i))) ∧ Below w.heap.size w wr) (fun _ _ j _ => L.length - (intOf j).toNat)
      case atStart => exact ⟨0, 0, pd, cd, Nat.zero_le _, rfl, rfl, rfl, hcd, by show _ = _; simp, hD0, HG, HB.out⟩
      case round =>
        clear HG HB
        obtain ⟨u, pos, p', c', hu, rfl, rfl, rfl, hc', hpos, hN, hG, hb⟩ := hrel
        by_cases hlu : u < L.length
        · have j1 : (u : Int) < (L.length : Int) := by omega
          obtain ⟨g1, o1, rfl, hc⟩ := hL.num u hlu
          have hA1 := sum_take_lt L u hlu
          have hA2 := sum_take_succ L u hlu
          obtain ⟨A, hA⟩ : ∃ A, A = (L.take u).sum := ⟨_, rfl⟩
          obtain ⟨l, hll⟩ : ∃ l, l = L.getD u 0 := ⟨_, rfl⟩
          rw [← hA] at hA1 hA2 hpos
          rw [← hA]
          rw [← hll] at hA1 hA2 hc
          have HA := (show Hid _ from hA)
          have Hll := (show Hid _ from hll)
          have e1 : wrap64 ((A : Int) + (l : Int)) = (A : Int) + (l : Int) := by unfold wrap64; omega
          have e2 : IntKind.i64.wrap ((A : Int) + (l : Int)) = (A : Int) + (l : Int) := i64_fits A l (Nat.le_trans hA1 hS)
          clear hA hll
          have HB := (show Hid _ from hb)
          go_wp2
          go_loopw [2, 32] (fun dv iv wr => ∃ (i pos : Nat) (p' : Option Addr) (c' : Nat), i ≤ t ∧ iv = .int .i64 i ∧ dv = .slice p' (n - pos) c' ∧ n - pos ≤ c' ∧ Hid (pos = min n (t * A + i * l)) ∧ Hid (NrE w (.slice p' (n - pos) c') (n - pos) (fun j => d (pos + j))) ∧ Hid (Gr wr 23 5 w.heap.size t L.sum L.sum ρ (fun r => clE (dmt t L (pad n d) u i r))) ∧ Below w.heap.size w wr) (fun _ i _ => t - (intOf i).toNat)
          case atStart => exact ⟨0, pos, p', c', Nat.zero_le _, rfl, rfl, hc', by show _ = _; rw [hpos.out]; simp, hN, hG, HB.out⟩
          case round =>
            clear hN hG hb HB hpos hc'
            obtain ⟨i, po, p2, c2, hi, rfl, rfl, hc2, hpo, hN, hG, hb⟩ := hrel
            by_cases hli : i < t
            · have j2 : (i : Int) < (t : Int) := by omega
              obtain ⟨q, hq⟩ : ∃ q, q = min (n - po) l := ⟨_, rfl⟩
              have Hq := (show Hid _ from hq)
              obtain ⟨dp, dc, hcut, hdp⟩ := cut_dst (ρ i) A l L.sum hA1
              obtain ⟨p3, c3, hcf, hc3, hN3⟩ := cut_from (lo := q) hN.out hc2 (by omega)
              have g2 := cell_below hc hb.drew
              have hGd : Hid (Gr wr.drew 23 5 w.heap.size t L.sum L.sum ρ (fun r => clE (dmt t L (pad n d) u i r))) := hG.out.below (bdr _)
              have g3 := hGd.out.out.cell hli
              have HOd := (show Hid _ from hGd.out.row i hli)
              have HSv : Hid (Sv wr.drew (.slice p2 (n - po) c2) (n - po) (clE (fun j => d (po + j))) (n - po)) := nr_sv (NrE.below hN.out (hb.drew))
              have HBd := (show Hid _ from hb.drew)
              have HN3 := (show Hid _ from hN3)
              have hq1 : q ≤ n - po := by omega
              have hq2 : q ≤ l := by omega
              clear hN hG hb hN3 hq hc
              go_wp2
              go_region_law (refine step_copy_at rfl _ _ 23 23 rfl 5 Try.underlying23 (by kernel_rfl) dp l dc _ rfl rfl (ρ i) A L.sum 5 _ (clE (fun j => d (po + j))) (n - po) q Hq.out HOd.out HSv.out (clE_one _) (fun h => hdp (by omega)) (by omega) ?_; intro w5 hO5 hB5)
              all_goals
                go_wp2
                go_roundw
                case rel =>
                  have en : n - (po + q) = n - po - q := by omega
                  refine ⟨i + 1, po + q, p3, c3, by omega, by go_num, by rw [en], by omega, ?_, ?_, ?_, But.from HBd.out hB5 (by have := HP.out i hli; omega)⟩
                  · have h1 := hpo.out
                    have h2 := Hq.out
                    show po + q = min n (t * A + (i + 1) * l)
                    rw [Nat.succ_mul]
                    generalize t * A = x1 at *
                    generalize i * l = x2 at *
                    omega
                  · have h := HN3.out
                    rw [en]
                    exact (show (fun j => d (po + (q + j))) = (fun j => d (po + q + j)) from funext fun j => by rw [Nat.add_assoc]) ▸ h
                  · refine (Gr.but hGd.out hli hB5 hO5).congr (fun r _ j _ => ?_)
                    have h := dmt_step t n L d u i po q hlu (by rw [← HA.out, ← Hll.out]; exact hpo.out) (by rw [← Hll.out]; exact Hq.out) r j
                    rw [← HA.out] at h
                    by_cases e : r = i
                    · rw [if_pos e] at h ⊢
                      subst e
                      exact h
                    · rw [if_neg e] at h ⊢
                      exact h
                case measure => simp [intOf]; omega
            · obtain rfl : i = t := by omega
              have g2 := cell_below hc hb
              go_wp2
              go_roundw
              case rel =>
                refine ⟨u + 1, po, p2, c2, hlu, by go_num, by rw [hA2]; go_num, rfl, hc2, ?_, hN, ?_, hb⟩
                · show po = min n (i * (L.take (u + 1)).sum)
                  rw [hA2, Nat.mul_add]; exact hpo.out
                · exact hG.out.congr (fun r hr j _ => by unfold clE; rw [dmt_next i L (pad n d) u r j hlu hr])
              case measure => simp [intOf]; omega
        · obtain rfl : u = L.length := by omega
          go_wp2
          go_ret
          exact ⟨_, ρ, rfl, hG.out.congr (fun r hr j hj => by unfold clE; rw [dmt_end t L (pad n d) r j hj]), Nat.le_refl _, hb⟩
end
end Go.Proofs.Ytgokkppojhokbaa
