/-
  The document's 'spread', 'Encode'; the program's 'Encode' whatever it is handed.
-/
import Derived.Test.YtienknoahjhopaaByy
import Derived.Test.YtienknoahjhopaaUn
namespace Go.Proofs.Ytienknoahjhopaa
open Go.RowKit
theorem own_cells {w : World} {base r : Nat} {t : TypeId} {v : Value} {rows : Nat → Value} (h : w.ownsRow base t 1 v r (lv rows r)) (h0 : 0 < r) : ∃ b o c, v = .slice (some ⟨b, o, none⟩) r c ∧ ∀ i, i < r → w.cell? ⟨b, o + i, none⟩ = some (rows i) := (St.sv (owns_st1 h)).cells h0
section
attribute [local irreducible] Calls el NmE NrE Ir lv Br acc shr
set_option maxHeartbeats 4000000 in
set_option maxRecDepth 1000000 in
theorem spread_core (b o q c cR n N : Nat) (pR : Option Addr) (p : Nat → Nat) (D : Nat → Nat → BitVec 8) (w : World) (hq0 : 0 < q) (hq : q ≤ 255) (hN0 : 0 < N) (hN : N ≤ 255) (hn : n ≤ 140737488355328) (HP : Hid (∀ t, t < q → p t < 256)) (HD : Hid (∀ i, i < q → ∀ j, j < q → i ≠ j → p i ≠ p j)) (HC : Hid (∀ t, t < q → w.cell? ⟨b, o + t, none⟩ = some (.int .i64 (p t : Int)))) (HR : Hid (NmE w (.slice pR q cR) q (fun _ => n) D)) :
    Calls Try.prog 29 #[.int .i64 (N : Int), .slice (some ⟨b, o, none⟩) q c, .slice pR q cR] w fun e w' => ∃ v, e = .returned v ∧ NmE w' v N (fun _ => n) (fun i x => acc (shr p q) D i q x) ∧ Below w.heap.size w w' := by
  go_enter Try.func29, Try.ntmps29
  go_wp2_with (first
    | (go_at_call 51; refine (weights_core b o q c N p w hq0 hq hN HP HD HC).mono ?_; rintro e w1 ⟨v1, rows1, rfl, ho1, hI1, hb1⟩; obtain ⟨bW, oW, cW, eW, hcW⟩ := own_cells ho1 hN0; subst eW; have HCW := (show Hid _ from hcW); have HI1 := (show Hid _ from hI1); clear ho1 hcW hI1)
    | (go_at_call 50; refine (by_core bW oW N cW q cR n pR rows1 (shr p q) D w1 hq0 hq hN hn HCW HI1 (NmE.below HR.out hb1)).mono ?_; rintro e w2 ⟨v2, rows2, rfl, ho2, hR2, hb2⟩))
  go_ret
  exact ⟨_, rfl, Bm.nm (L := fun _ => n) ⟨rows2, ho2, hR2⟩, bt hb1 hb2⟩
end
theorem acc_fac {k : Nat} {F D : Nat → Nat → BitVec 8} (hF : Fac k F) (hk : k ≤ 255) (i c : Nat) : acc (shr (fun t => t) k) D i k c = mm fdE k F D i c := by
  unfold acc
  rw [skk_mm k (shr (fun t => t) k) D i c]
  exact mm_congr (fun t ht => (shr_id hF hk ht i).symm) (fun _ _ => rfl)
theorem ans_t {e : Ending} {Q : Prop} (h : Ans e Q) (q : Q) : e = .returned (.bool true) := by
  obtain ⟨b, he, hb⟩ := h
  rw [he, hb.2 q]
theorem ans_f {e : Ending} {Q : Prop} (h : Ans e Q) (q : ¬ Q) : e = .returned (.bool false) := by
  obtain ⟨b, he, hb⟩ := h
  cases b with
  | true => exact absurd (hb.1 rfl) q
  | false => exact he
section
attribute [local irreducible] Calls NmE NrE Cd Fac mm acc shr Lm
set_option maxHeartbeats 4000000 in
set_option maxRecDepth 1000000 in
theorem fault_rows (p : Option Addr) (r c k : Nat) (w : World) (h : ¬ r = k) : Calls Try.prog 36 #[.slice p r c, .int .i64 (k : Int)] w fun e w' => e = .returned (.int .i64 40) ∧ w' = w := by
  have e1 : ((r : Int) != (k : Int)) = true := by simp; omega
  go_enter Try.func36, Try.ntmps36
  go_wp2
  go_ret
  exact ⟨rfl, rfl⟩
set_option maxHeartbeats 4000000 in
set_option maxRecDepth 1000000 in
theorem fault_uneven (p : Option Addr) (k c : Nat) (L : Nat → Nat) (w : World) (hk2 : k ≤ 255) (HL : Hid (Lm w (.slice p k c) k L)) (h : ¬ ∀ i, i < k → L i = L 0) : Calls Try.prog 36 #[.slice p k c, .int .i64 (k : Int)] w fun e w' => e = .returned (.int .i64 41) ∧ w' = w := by
  have e1 : ((k : Int) != (k : Int)) = false := by simp
  have H : Hid (¬ ∀ i, i < k → L i = L 0) := h
  clear h
  go_enter Try.func36, Try.ntmps36
  go_wp2_with (go_at_call 32; refine (even_any p k c L w (by omega) HL).mono ?_; rintro e w' ⟨ha, h⟩; obtain rfl := h.symm; obtain rfl := ans_f ha H.out; clear ha)
  go_ret
  exact ⟨rfl, rfl⟩
set_option maxHeartbeats 4000000 in
set_option maxRecDepth 1000000 in
theorem encode_err {w : World} {v vD : Value} {k m : Nat} {F : Nat → Nat → BitVec 8} {x : Int} (hk : 1 ≤ k) (hx : x = 40 ∨ x = 41) (hC : Hid (Cd w v k m F)) (HF : Hid (Calls Try.prog 36 #[vD, .int .i64 (k : Int)] w fun e w' => e = .returned (.int .i64 x) ∧ w' = w)) :
    Calls Try.prog 24 #[v, vD] w fun e w' => e = .returned (.tuple #[.slice none 0 0, .int .i64 x]) ∧ w' = w := by
  have NO := (show Hid _ from none_ok hC.out hk)
  obtain ⟨cb, pF, cF, ev, c1, _⟩ := cd_open hC.out
  subst ev
  have e1 : (x != 0) = true := by rcases hx with rfl | rfl <;> rfl
  clear hx
  go_enter Try.func24, Try.ntmps24
  go_wp2_with (first
    | (go_at_call 30; refine NO.out.mono ?_; rintro e w' ⟨rfl, h⟩; obtain rfl := h.symm)
    | (go_at_call 36; refine HF.out.mono ?_; rintro e w' ⟨rfl, h⟩; obtain rfl := h.symm))
  go_ret2
  exact ⟨rfl, rfl⟩
end
end Go.Proofs.Ytienknoahjhopaa
