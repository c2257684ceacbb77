/-
  'put' and 'back' of any thing.
-/
import Derived.Test.YtmcbeikgdcgdcaaTp
import Derived.Test.YtmcbeikgdcgdcaaTd
import Derived.Test.YtmcbeikgdcgdcaaTm
namespace Go.Proofs.Ytmcbeikgdcgdcaa
open Go.RowKit
/-- A thing that lies in memory. -/
structure Tin (w : World) (kk : Int) (t : Th) (pB pT : Option Addr) : Prop where
  K : kk % 9 = (t.K : Int)
  U : t.U < 18446744073709551616
  S : -9223372036854775808 ≤ t.S ∧ t.S ≤ 9223372036854775807
  rB : Rd w pB t.B
  lB : t.B.length ≤ 1048576
  rT : Rs' w pT t.T
  lT : tz t.T ≤ 40000000000000
theorem Tin.below {w w' : World} {kk : Int} {t : Th} {pB pT : Option Addr} (h : Tin w kk t pB pT) (hb : Below w.heap.size w w') : Tin w' kk t pB pT :=
  ⟨h.K, h.U, h.S, h.rB.below hb, h.lB, h.rT.below hb, h.lT⟩
theorem Tin.lt {w : World} {kk : Int} {t : Th} {pB pT : Option Addr} (h : Tin w kk t pB pT) : t.K < 9 := by
  have h1 := Int.emod_lt_of_pos kk (by omega : (0 : Int) < 9)
  have := h.K
  omega
theorem put_any {w : World} {a : Option Addr} {bs : List (BitVec 8)} (h : Rd w a bs) (n c : Nat) (hn : bs.length = n) (hm : n ≤ 100000000000000) {kk : Int} {t : Th} {pB pT : Option Addr} (ht : Tin w kk t pB pT) (cB cT : Nat) :
    Calls Try.prog 38 #[.slice a n c, .agg #[.int .i64 kk, .int .u64 (t.U : Int), .int .i64 t.S, .slice pB t.B.length cB, .slice pT t.T.length cT]] w fun e' w' => ∃ o', e' = .returned o' ∧ Ow w' w.heap.size o' (bs ++ eth t) ∧ Below w.heap.size w w' := by
  have hlt := ht.lt
  obtain ⟨K, U, S, B, T⟩ := t
  match K, ht, hlt with
  | 0, ht, _ => exact tput0 h n c hn hm kk ht.K U S B T pB pT cB cT ht.U
  | 1, ht, _ => exact tput1 h n c hn hm kk ht.K U S B T pB pT cB cT ht.U
  | 2, ht, _ => exact tput2 h n c hn hm kk ht.K U S B T pB pT cB cT ht.U
  | 3, ht, _ => exact tput3 h n c hn hm kk ht.K U S B T pB pT cB cT ht.U
  | 4, ht, _ => exact tput4 h n c hn hm kk ht.K U S B T pB pT cB cT ht.U
  | 5, ht, _ => exact tput5 h n c hn hm kk ht.K U S B T pB pT cB cT ht.U
  | 6, ht, _ => exact tput6 h n c hn hm kk ht.K U S B T pB pT cB cT ht.S
  | 7, ht, _ => exact tput7 h n c hn hm kk ht.K U S B T pB pT cB cT ht.rB ht.lB
  | 8, ht, _ => exact tput8 h n c hn hm kk ht.K U S B T pB pT cB cT ht.rT ht.lT
theorem backs_ok {α : Type} [DecidableEq α] {w w' : World} {r : Nat} {x : α × List (BitVec 8) × Int} {y : α} {e : Ending} {l : List (BitVec 8)} (h : Backs w r x y e w') (hx : x = (y, l, 0)) : w.grownBy w' (some r) ∧ Rdr w' r l 0 ∧ e = .returned (.bool true) := by
  subst hx
  exact ⟨h.1, h.2.1, by rw [h.2.2, decide_eq_true rfl]⟩
theorem backs_no {α : Type} [DecidableEq α] {w w' : World} {r : Nat} {x : α × List (BitVec 8) × Int} {y z : α} {e : Ending} {l : List (BitVec 8)} (h : Backs w r x y e w') (hx : x = (z, l, 70)) : w.grownBy w' (some r) ∧ Rdr w' r l 70 ∧ ∃ b, e = .returned (.bool b) := by
  subst hx
  exact ⟨h.1, h.2.1, _, h.2.2⟩
theorem ge0_nat {α : Type} (n : Nat) (R : Ans α) : ge0 (n : Int) R = R := ge0_ok _ (by omega)
/-- What was put is read. -/
theorem back_put {w : World} {r : Nat} {l : List (BitVec 8)} {kk : Int} {t : Th} {pB pT : Option Addr} (ht : Tin w kk t pB pT) (h : Rdr w r (eth t ++ l) 0) (hl : (eth t ++ l).length ≤ 1099511627000) (cB cT : Nat) :
    Calls Try.prog 39 #[.pointer (some ⟨r, 0, none⟩), .agg #[.int .i64 kk, .int .u64 (t.U : Int), .int .i64 t.S, .slice pB t.B.length cB, .slice pT t.T.length cT]] w fun e' w' => w.grownBy w' (some r) ∧ Rdr w' r l 0 ∧ e' = .returned (.bool true) := by
  have hlt := ht.lt
  obtain ⟨K, U, S, B, T⟩ := t
  match K, ht, h, hl, hlt with
  | 0, ht, h, hl, _ => exact (back0 h hl kk ht.K U S B T pB pT cB cT).mono fun e w' hb => backs_ok hb (by show res 0 0 _ (fx 1 (lb 1 (U % 256) ++ l)) = _; rw [fx_put 1 _ (by omega)]; rfl)
  | 1, ht, h, hl, _ => exact (back1 h hl kk ht.K U S B T pB pT cB cT).mono fun e w' hb => backs_ok hb (by show res 0 0 _ (fx 2 (lb 2 (U % 65536) ++ l)) = _; rw [fx_put 2 _ (by omega)]; rfl)
  | 2, ht, h, hl, _ => exact (back2 h hl kk ht.K U S B T pB pT cB cT).mono fun e w' hb => backs_ok hb (by show res 0 0 _ (fx 4 (lb 4 (U % 4294967296) ++ l)) = _; rw [fx_put 4 _ (by omega)]; rfl)
  | 3, ht, h, hl, _ => exact (back3 h hl kk ht.K U S B T pB pT cB cT).mono fun e w' hb => backs_ok hb (by show res 0 0 _ (fx 8 (lb 8 U ++ l)) = _; rw [fx_put 8 _ (by have := ht.U; exact this)]; rfl)
  | 4, ht, h, hl, _ => exact (back4 h hl kk ht.K U S B T pB pT cB cT).mono fun e w' hb => backs_ok hb (by show res 0 0 _ (fx 2 (lb 2 (U % 65536) ++ l)) = _; rw [fx_put 2 _ (by omega)]; rfl)
  | 5, ht, h, hl, _ => exact (back5 h hl kk ht.K U S B T pB pT cB cT).mono fun e w' hb => backs_ok hb (by show res 0 0 _ (uv (sb 9 U ++ l)) = _; rw [uv_put U ht.U]; rfl)
  | 6, ht, h, hl, _ => exact (back6 h hl kk ht.K U S B T pB pT cB cT).mono fun e w' hb => backs_ok hb (by show res 0 0 _ (zv (sb 9 (zg S).toNat ++ l)) = _; rw [zv_put S ht.S]; rfl)
  | 7, ht, h, hl, _ => exact (back7 h hl kk ht.K U S B T pB pT cB cT ht.rB ht.lB).mono fun e w' hb => backs_ok hb (by
      have h2 : B.length ≤ 1048576 := ht.lB
      show res [] 0 _ (ge0 (B.length : Int) (bk (B.length : Int).toNat (bl B ++ l))) = _
      rw [ge0_nat, Int.toNat_natCast, bk_put _ B l (by omega) (Nat.le_refl _)]; rfl)
  | 8, ht, h, hl, _ => exact (back8 h hl kk ht.K U S B T pB pT cB cT ht.rT ht.lT).mono fun e w' hb => backs_ok hb (by
      have h2 : tz T ≤ 40000000000000 := ht.lT
      have h3 := tz_len T
      have h4 := lgt_le T
      show res [] 0 _ (ge0 (T.length : Int) (ge0 (lgt T : Int) (tx (T.length : Int).toNat (lgt T : Int).toNat ((sb 9 T.length ++ tl T) ++ l)))) = _
      rw [ge0_nat, ge0_nat, Int.toNat_natCast, Int.toNat_natCast, tx_put T l (by omega) (by omega)]; rfl)
/-- No shorter beginning is. -/
theorem back_cut {w : World} {r : Nat} {j : Nat} {kk : Int} {t : Th} {pB pT : Option Addr} (ht : Tin w kk t pB pT) (hj : j < (eth t).length) (h : Rdr w r ((eth t).take j) 0) (hl : (eth t).length ≤ 1099511627000) (cB cT : Nat) :
    Calls Try.prog 39 #[.pointer (some ⟨r, 0, none⟩), .agg #[.int .i64 kk, .int .u64 (t.U : Int), .int .i64 t.S, .slice pB t.B.length cB, .slice pT t.T.length cT]] w fun e' w' => w.grownBy w' (some r) ∧ Rdr w' r ((eth t).take j) 70 ∧ ∃ b, e' = .returned (.bool b) := by
  have hlt := ht.lt
  have hl' : ((eth t).take j).length ≤ 1099511627000 := by rw [List.length_take]; omega
  clear hl
  obtain ⟨K, U, S, B, T⟩ := t
  match K, ht, hj, h, hl', hlt with
  | 0, ht, hj, h, hl, _ => exact (back0 h hl kk ht.K U S B T pB pT cB cT).mono fun e w' hb => backs_no (z := 0) hb (by show res 0 0 _ (fx 1 ((lb 1 (U % 256)).take j)) = _; rw [fx_short 1 _ j (by have h9 : j < (lb 1 (U % 256)).length := hj; rw [lb_len] at h9; exact h9)]; rfl)
  | 1, ht, hj, h, hl, _ => exact (back1 h hl kk ht.K U S B T pB pT cB cT).mono fun e w' hb => backs_no (z := 0) hb (by show res 0 0 _ (fx 2 ((lb 2 (U % 65536)).take j)) = _; rw [fx_short 2 _ j (by have h9 : j < (lb 2 (U % 65536)).length := hj; rw [lb_len] at h9; exact h9)]; rfl)
  | 2, ht, hj, h, hl, _ => exact (back2 h hl kk ht.K U S B T pB pT cB cT).mono fun e w' hb => backs_no (z := 0) hb (by show res 0 0 _ (fx 4 ((lb 4 (U % 4294967296)).take j)) = _; rw [fx_short 4 _ j (by have h9 : j < (lb 4 (U % 4294967296)).length := hj; rw [lb_len] at h9; exact h9)]; rfl)
  | 3, ht, hj, h, hl, _ => exact (back3 h hl kk ht.K U S B T pB pT cB cT).mono fun e w' hb => backs_no (z := 0) hb (by show res 0 0 _ (fx 8 ((lb 8 U).take j)) = _; rw [fx_short 8 _ j (by have h9 : j < (lb 8 U).length := hj; rw [lb_len] at h9; exact h9)]; rfl)
  | 4, ht, hj, h, hl, _ => exact (back4 h hl kk ht.K U S B T pB pT cB cT).mono fun e w' hb => backs_no (z := 0) hb (by show res 0 0 _ (fx 2 ((lb 2 (U % 65536)).take j)) = _; rw [fx_short 2 _ j (by have h9 : j < (lb 2 (U % 65536)).length := hj; rw [lb_len] at h9; exact h9)]; rfl)
  | 5, ht, hj, h, hl, _ => exact (back5 h hl kk ht.K U S B T pB pT cB cT).mono fun e w' hb => backs_no (z := 0) hb (by show res 0 0 _ (uv ((sb 9 U).take j)) = _; rw [uv_short U j ht.U hj]; rfl)
  | 6, ht, hj, h, hl, _ => exact (back6 h hl kk ht.K U S B T pB pT cB cT).mono fun e w' hb => backs_no (z := 0) hb (by show res 0 0 _ (zv ((sb 9 (zg S).toNat).take j)) = _; rw [zv_short S j ht.S hj]; rfl)
  | 7, ht, hj, h, hl, _ => exact (back7 h hl kk ht.K U S B T pB pT cB cT ht.rB ht.lB).mono fun e w' hb => backs_no (z := []) hb (by
      have h2 : B.length ≤ 1048576 := ht.lB
      show res [] 0 _ (ge0 (B.length : Int) (bk (B.length : Int).toNat ((bl B).take j))) = _
      rw [ge0_nat, Int.toNat_natCast, bk_short _ j B (by omega) (Nat.le_refl _) hj]; rfl)
  | 8, ht, hj, h, hl, _ => exact (back8 h hl kk ht.K U S B T pB pT cB cT ht.rT ht.lT).mono fun e w' hb => backs_no (z := []) hb (by
      have h2 : tz T ≤ 40000000000000 := ht.lT
      have h3 := tz_len T
      have h4 := lgt_le T
      show res [] 0 _ (ge0 (T.length : Int) (ge0 (lgt T : Int) (tx (T.length : Int).toNat (lgt T : Int).toNat ((sb 9 T.length ++ tl T).take j)))) = _
      rw [ge0_nat, ge0_nat, Int.toNat_natCast, Int.toNat_natCast, tx_short T j (by omega) (by omega) hj]; rfl)
end Go.Proofs.Ytmcbeikgdcgdcaa
