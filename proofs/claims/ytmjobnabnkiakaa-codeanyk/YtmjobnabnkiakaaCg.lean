/-
  'Encode'.
-/
import Derived.Test.YtmjobnabnkiakaaCf
namespace Go.Proofs.Ytmjobnabnkiakaa
open Go.RowKit
theorem nm_congr {w : World} {v : Value} {r n : Nat} {N N' : Nat → Nat → BitVec 8} (h : NmE w v r (fun _ => n) N) (e : ∀ i, i < r → ∀ j, j < n → N i j = N' i j) : NmE w v r (fun _ => n) N' := by
  obtain ⟨rows, h1, h2⟩ := h
  exact ⟨rows, h1, fun i hi => Sv.congr (h2 i hi) (fun j hj => by unfold clE; rw [e i hi j hj])⟩
theorem cd_open {w : World} {v : Value} {k m : Nat} {F : Nat → Nat → BitVec 8} (h : Cd w v k m F) : ∃ cb p c, v = .pointer (some ⟨cb, 0, none⟩) ∧ w.cell? ⟨cb, 0, none⟩ = some (.int .i64 (k : Int)) ∧ w.cell? ⟨cb, 1, none⟩ = some (.slice p (k + m) c) ∧ k + m ≤ c ∧ NmE w (.slice p (k + m) c) (k + m) (fun _ => k) F := h
section
attribute [local irreducible] Calls el NmE Cd Fac mm skk
set_option maxHeartbeats 8000000 in
set_option maxRecDepth 1000000 in
theorem encode_core {w : World} {v vD : Value} {k m n : Nat} {F D : Nat → Nat → BitVec 8} (hk : 1 ≤ k) (hm : 1 ≤ m) (hkm : k + m ≤ 255) (hn : n ≤ 140737488355328) (hC : Hid (Cd w v k m F)) (hD : Hid (NmE w vD k (fun _ => n) D)) :
    Calls Try.prog 11 #[v, vD] w fun e w' => ∃ v', e = .returned (.tuple #[v', .int .i64 0]) ∧ NmE w' v' (k + m) (fun _ => n) (fun i c => if i < k then D i c else skk plE oE (fun j => tiE (F i j) (D j c)) k) ∧ Below w.heap.size w w' ∧ Capd v' (k + m) := by
  obtain ⟨cb, pF, cF, ev, c1, c2, _, _⟩ := cd_open hC.out
  subst ev
  obtain ⟨pD, cD, eD⟩ := nmE_form hD.out
  subst eD
  have HL := (show Hid _ from NmE.lm hD.out)
  have NO := (show Hid _ from none_ok hC.out hk)
  clear c2
  go_enter Try.func11, Try.ntmps11
  go_wp2_with (first
    | (go_at_call 34; refine NO.out.mono ?_; rintro e w' ⟨rfl, h⟩; obtain rfl := h.symm)
    | (go_at_call 35; refine (fault_ok pD k cD n w (by omega) HL).mono ?_; rintro e w' ⟨rfl, h⟩; obtain rfl := h.symm)
    | (go_at_call 37; refine (copies_core pD k cD n D w (by omega) hn hD).mono ?_; rintro e w1 ⟨B, ρ, rfl, hG, hB, hb1⟩)
    | (go_at_call 36; refine (word_core k m n B ρ _ F D w1 hk hm hkm hn (Cd.below hC.out hb1) hG).mono ?_; rintro e w2 ⟨v2, rfl, hN2, hb2, hcp⟩))
  go_ret2
  exact ⟨_, rfl, hN2, bt hb1 hb2, hcp⟩
end
/-- The word is the matrix times the data. -/
theorem encode_ok {w : World} {v vD : Value} {k m n : Nat} {F D : Nat → Nat → BitVec 8} (hC : Cd w v k m F) (hF : Fac k F) (hk : 1 ≤ k) (hm : 1 ≤ m) (hkm : k + m ≤ 255) (hn : n ≤ 140737488355328) (hD : NmE w vD k (fun _ => n) D) :
    Calls Try.prog 11 #[v, vD] w fun e w' => ∃ v', e = .returned (.tuple #[v', .int .i64 0]) ∧ NmE w' v' (k + m) (fun _ => n) (mm fdE k F D) ∧ Below w.heap.size w w' ∧ Capd v' (k + m) :=
  (encode_core hk hm hkm hn hC hD).mono fun e w' ⟨v', he, hN, hb, hcp⟩ => ⟨v', he, nm_congr hN (fun i _ j _ => by
    by_cases e : i < k
    · rw [if_pos e, mm_congr (A' := dl fdE) (B' := D) (fun t ht => hF.id e ht) (fun _ _ => rfl), mm_dl_l e]
    · rw [if_neg e, skk_mm]), hb, hcp⟩
end Go.Proofs.Ytmjobnabnkiakaa
