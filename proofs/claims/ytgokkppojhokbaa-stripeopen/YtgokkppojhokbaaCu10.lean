/-
  Stripe: cut.
-/
import Derived.Test.YtgokkppojhokbaaDr10
import Derived.Test.YtgokkppojhokbaaWc10
namespace Go.Proofs.Ytgokkppojhokbaa
open Go.RowKit
theorem nmT_mk {w : World} {v : Value} {r : Nat} {l : Nat → Nat} {N : Nat → Nat → BitVec 8} {rows : Nat → Value} (h1 : St w 23 v r rows r) (h2 : ∀ i, i < r → St w 5 (rows i) (l i) (clE (N i)) (l i)) : NmT w v r l N := ⟨rows, h1, h2⟩
theorem makeYn (n : Nat) (hn : n ≤ 1000000000) (w : World) : (Instr.makeSlice 42 (.int .i64 (n : Int)) (.int .i64 (n : Int))).run Try.prog w = .ok (.slice (some ⟨w.heap.size, 0, none⟩) n n) (w.alloc (.cells (Array.replicate n (.slice none 0 0)) 23)) := by
  have h := make_any Try.underlying42 infoY rfl (by decide) n (by omega) (by omega) w
  rw [Nat.mul_one] at h
  exact h
section
attribute [local irreducible] Calls el Ov clE NmE NrE
set_option maxHeartbeats 8000000 in
set_option maxRecDepth 1000000 in
theorem cutb_any {w : World} {p pd : Option Addr} {L : List Nat} {n : Nat} {d : Nat → BitVec 8} (hL : Vr w p (icN L)) (c cd : Nat) (hS : L.sum = n) (hn : n ≤ 140737488355328) (hl : L.length ≤ 1000000000) (hcd : n ≤ cd) (hD : NrE w (.slice pd n cd) n d) :
    Calls Try.prog 17 #[.slice pd n cd, .slice p L.length c] w fun e w' => ∃ B, e = .returned (.slice (some ⟨B, 0, none⟩) L.length L.length) ∧ NmT w' (.slice (some ⟨B, 0, none⟩) L.length L.length) L.length (fun j => L.getD j 0) (fun j x => d ((L.take j).sum + x)) ∧ w.heap.size ≤ B ∧ Below w.heap.size w w' := by
  have hD0 : NrE w (.slice pd (n - 0) cd) (n - 0) (fun j => d (0 + j)) := by simpa using hD
  have hm1 := makeYn L.length hl
  have HO0 : Hid (Ov (w.alloc (.cells (Array.replicate L.length (.slice none 0 0)) 23)) 23 w.heap.size (fun i => if i < 0 then .slice (some ⟨0, 0, none⟩) (L.getD i 0) (L.getD i 0) else .slice none 0 0) L.length) := (ov_new w 23 (.slice none 0 0) L.length).congr (fun i _ => by rw [if_neg (by omega)])
  have HB0 : Hid (Below w.heap.size w (w.alloc (.cells (Array.replicate L.length (.slice none 0 0)) 23))) := (Below.refl _ _).alloc (Nat.le_refl _) _
  have HS0 : Hid (w.heap.size < (w.alloc (.cells (Array.replicate L.length (.slice none 0 0)) 23)).heap.size) := by show _ < _; simp
  go_enter Try.func17, Try.ntmps17
  go_wp2
  clear hm1
  go_loopw [0, 13] (fun dv i wr => ∃ (t : Nat) (ρ : Nat → Nat) (p' : Option Addr) (c' : Nat), t ≤ L.length ∧ i = .int .i64 t ∧ dv = .slice p' (n - (L.take t).sum) c' ∧ n - (L.take t).sum ≤ c' ∧ Hid (NrE w (.slice p' (n - (L.take t).sum) c') (n - (L.take t).sum) (fun j => d ((L.take t).sum + j))) ∧ Ov wr 23 w.heap.size (fun i => if i < t then .slice (some ⟨ρ i, 0, none⟩) (L.getD i 0) (L.getD i 0) else .slice none 0 0) L.length ∧ Hid (∀ i, i < t → Ov wr 5 (ρ i) (clE (fun x => d ((L.take i).sum + x))) (L.getD i 0)) ∧ Hid (∀ i, i < t → w.heap.size < ρ i ∧ ρ i < wr.heap.size) ∧ Hid (w.heap.size < wr.heap.size) ∧ Below w.heap.size w wr) (fun _ i _ => L.length - (intOf i).toNat)
  case atStart => exact ⟨0, fun _ => 0, pd, cd, Nat.zero_le _, rfl, rfl, hcd, hD0, HO0.out, fun i hi => by omega, fun i hi => by omega, HS0, HB0.out⟩
  case round =>
    clear HO0 HB0 HS0
    obtain ⟨t, ρ, p', c', ht, rfl, rfl, hc', hN, hO, hR, hP, hSz, hb⟩ := hrel
    by_cases hlt : t < L.length
    · have j1 : (t : Int) < (L.length : Int) := by omega
      obtain ⟨g1, o1, rfl, hc⟩ := hL.num t hlt
      have hA1 := sum_take_lt L t hlt
      have hA2 := sum_take_succ L t hlt
      obtain ⟨A, hA⟩ : ∃ A, A = (L.take t).sum := ⟨_, rfl⟩
      obtain ⟨l, hll⟩ : ∃ l, l = L.getD t 0 := ⟨_, rfl⟩
      rw [← hA] at hA1 hA2 hN hc'
      rw [← hll] at hA1 hA2 hc
      rw [← hA]
      have HA := (show Hid _ from hA)
      have Hll := (show Hid _ from hll)
      clear hA hll
      have hm2 := make_bytes l (by omega)
      obtain ⟨p3, c3, hcf, hc3, hN3⟩ := cut_from (lo := l) hN.out hc' (by omega)
      have g1' := cell_below hc hb
      have B1 := (Below.refl wr.heap.size wr).alloc (Nat.le_refl _) (.cells (Array.replicate l (.int .u8 0)) 5)
      have hO1 := hO.below B1
      have g3 := hO1.cell hlt
      have g4 := hO1.frozen t
      have hsz := hSz.out
      have B2 := (Below.refl (wr.setCell ⟨w.heap.size, t, none⟩ (.slice (some ⟨wr.heap.size, 0, none⟩) l l)).heap.size (wr.setCell ⟨w.heap.size, t, none⟩ (.slice (some ⟨wr.heap.size, 0, none⟩) l l))).alloc (Nat.le_refl _) (.cells (Array.replicate l (.int .u8 0)) 5)
      have HO2 := (show Hid _ from (hO.set hlt (.slice (some ⟨wr.heap.size, 0, none⟩) l l)).below B2)
      have HN0 : Hid (Ov ((wr.setCell ⟨w.heap.size, t, none⟩ (.slice (some ⟨wr.heap.size, 0, none⟩) l l)).alloc (.cells (Array.replicate l (.int .u8 0)) 5)) 5 wr.heap.size (fun _ => .int .u8 0) l) := by
        have h := ov_new (wr.setCell ⟨w.heap.size, t, none⟩ (.slice (some ⟨wr.heap.size, 0, none⟩) l l)) 5 (.int .u8 0) l
        rw [← size_set] at h; exact h
      have HBk : Hid (Below w.heap.size w ((wr.setCell ⟨w.heap.size, t, none⟩ (.slice (some ⟨wr.heap.size, 0, none⟩) l l)).alloc (.cells (Array.replicate l (.int .u8 0)) 5))) := (hb.setCell (Nat.le_refl _) _).alloc (by rw [← size_set]; exact hb.size) _
      have HSV : Hid (Sv ((wr.setCell ⟨w.heap.size, t, none⟩ (.slice (some ⟨wr.heap.size, 0, none⟩) l l)).alloc (.cells (Array.replicate l (.int .u8 0)) 5)) (.slice p' (n - A) c') (n - A) (clE (fun j => d (A + j))) (n - A)) := nr_sv (NrE.below hN.out HBk.out)
      have HRk : Hid (∀ i, i < t → Ov ((wr.setCell ⟨w.heap.size, t, none⟩ (.slice (some ⟨wr.heap.size, 0, none⟩) l l)).alloc (.cells (Array.replicate l (.int .u8 0)) 5)) 5 (ρ i) (clE (fun x => d ((L.take i).sum + x))) (L.getD i 0)) := fun i hi => ((hR.out i hi).other (p := ⟨w.heap.size, t, none⟩) (by show ρ i ≠ w.heap.size; have := (hP.out i hi).1; omega) rfl).below B2
      have gx : ((wr.setCell ⟨w.heap.size, t, none⟩ (.slice (some ⟨wr.heap.size, 0, none⟩) l l)).alloc (.cells (Array.replicate l (.int .u8 0)) 5)).cell? ⟨w.heap.size, t, none⟩ = some (.slice (some ⟨wr.heap.size, 0, none⟩) l l) := by
        have h := HO2.out.cell hlt
        rw [if_pos rfl] at h; exact h
      have HSZ : Hid (wr.heap.size < ((wr.setCell ⟨w.heap.size, t, none⟩ (.slice (some ⟨wr.heap.size, 0, none⟩) l l)).alloc (.cells (Array.replicate l (.int .u8 0)) 5)).heap.size) := by show _ < _; simp
      have HN3 := (show Hid _ from hN3)
      clear hO hO1 hb hR B1 B2 hN hc hN3
      go_wp2_with (refine wpList_copy_at rfl _ _ 23 23 rfl 5 Try.underlying23 (by kernel_rfl) (some ⟨wr.heap.size, 0, none⟩) l l _ rfl rfl wr.heap.size 0 l 5 _ (clE (fun j => d (A + j))) (n - A) l (by omega) HN0.out HSV.out (clE_one _) (fun _ => rfl) (by omega) ?_; intro w2 hO2 hB2)
      have hsz2 := hB2.sz
      have hsz3 := HSZ.out
      go_roundw
      case rel =>
        have eA : (L.take (t + 1)).sum = A + l := hA2
        have en : n - (A + l) = n - A - l := by omega
        refine ⟨t + 1, fun i => if i = t then wr.heap.size else ρ i, p3, c3, by omega, by go_num, by rw [eA, en], by rw [eA]; omega, ?_, (hB2.ov HO2.out (by omega)).congr (fun i _ => ?_), fun i hi => ?_, fun i hi => ?_, ?_, But.from HBk.out hB2 (by omega)⟩
        · have h := HN3.out
          rw [eA, en]
          exact (show (fun j => d (A + (l + j))) = (fun j => d (A + l + j)) from funext fun j => by rw [Nat.add_assoc]) ▸ h
        · dsimp only
          by_cases e : i = t
          · subst e
            rw [if_pos rfl, if_pos (by omega), if_pos rfl, ← Hll.out]
          · rw [if_neg e]
            by_cases e2 : i < t
            · rw [if_pos e2, if_pos (by omega), if_neg e]
            · rw [if_neg e2, if_neg (by omega)]
        · show Ov w2 _ (if i = t then wr.heap.size else ρ i) _ _
          by_cases e : i = t
          · subst e; rw [if_pos rfl, ← Hll.out, ← HA.out]
            exact hO2.congr (fun j hj => by unfold ovl; rw [if_pos (by omega), Nat.sub_zero])
          · rw [if_neg e]; exact hB2.ov (HRk.out i (by omega)) (by have := (hP.out i (by omega)).2; omega)
        · show w.heap.size < (if i = t then wr.heap.size else ρ i) ∧ (if i = t then wr.heap.size else ρ i) < w2.heap.size
          by_cases e : i = t
          · rw [if_pos e]; omega
          · rw [if_neg e]; have := hP.out i (by omega); omega
        · show _ < _
          omega
      case measure => simp [intOf]; omega
    · obtain rfl : t = L.length := by omega
      go_wp2
      go_ret
      refine ⟨_, rfl, nmT_mk (rows := fun j => .slice (some ⟨ρ j, 0, none⟩) (L.getD j 0) (L.getD j 0)) ((hO.congr (fun i hi => by rw [if_pos hi])).st _ _) (fun i hi => ?_), Nat.le_refl _, hb⟩
      exact (hR.out i hi).st _ _
end
end Go.Proofs.Ytgokkppojhokbaa
