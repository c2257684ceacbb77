/-
  'put' and 'back' of any thing.
-/
import Derived.Test.YtmcbeikgdcgdcaaTp
import Derived.Test.YtmcbeikgdcgdcaaTd
import Derived.Test.YtmcbeikgdcgdcaaTc
namespace Go.Proofs.Ytmcbeikgdcgdcaa
open Go.RowKit
theorem tk_put (x l : List (BitVec 8)) : tk x.length (x ++ l) = .ok (x, l) := by
  unfold tk
  rw [if_neg (by rw [List.length_append]; omega), List.take_left' rfl, List.drop_left' rfl]
theorem tk_short (n j : Nat) (x : List (BitVec 8)) (h : j < n) (hx : x.length = n) : tk n (x.take j) = .error 70 := by
  unfold tk
  rw [if_pos (by rw [List.length_take]; omega)]
theorem fx_put (n v : Nat) (h : v < 256 ^ n) (l : List (BitVec 8)) : fx n (lb n v ++ l) = .ok (v, l) := by
  unfold fx
  have := tk_put (lb n v) l
  rw [lb_len] at this
  rw [this]
  show Except.ok ((lv (lb n v)), l) = _
  rw [lv_lb n v h]
theorem fx_short (n v j : Nat) (h : j < n) : fx n ((lb n v).take j) = .error 70 := by
  unfold fx
  rw [tk_short n j (lb n v) h (lb_len n v)]
theorem nt_app (a b : List (BitVec 8)) : nt (a ++ b) = nt a ++ nt b := by unfold nt; rw [List.map_append]
theorem nt_sb (v : Nat) (h : v < 18446744073709551616) : nt (sb 9 v) = sfk 9 v := sb_nat 9 v h
theorem uv_put (v : Nat) (h : v < 18446744073709551616) (l : List (BitVec 8)) : uv (sb 9 v ++ l) = .ok (v, l) := by
  unfold uv
  rw [nt_app, nt_sb v h, rsk_sfk 9 v (nt l) (Nat.le_refl _) h (.inl rfl)]
  show Except.ok (v, ((sb 9 v ++ l).drop (sfk 9 v).length)) = _
  rw [← sb_sfl, List.drop_left' rfl]
theorem uv_short (v j : Nat) (h : v < 18446744073709551616) (hj : j < (sb 9 v).length) : uv ((sb 9 v).take j) = .error 70 := by
  unfold uv
  have e : nt ((sb 9 v).take j) = (sfk 9 v).take j := by rw [← nt_sb v h]; unfold nt; rw [List.map_take]
  rw [e, rsk_short 9 v j (by rw [← sb_sfl]; exact hj)]
theorem zv_put (s : Int) (h : -9223372036854775808 ≤ s ∧ s ≤ 9223372036854775807) (l : List (BitVec 8)) : zv (sb 9 (zg s).toNat ++ l) = .ok (s, l) := by
  have h0 := zg_nn s
  have h1 := zg_lt s 9223372036854775808 (by omega)
  unfold zv
  rw [uv_put _ (by omega)]
  show Except.ok ((ug (((zg s).toNat : Nat) : Int)), l) = _
  rw [Int.toNat_of_nonneg h0, ug_zg]
theorem zv_short (s : Int) (j : Nat) (h : -9223372036854775808 ≤ s ∧ s ≤ 9223372036854775807) (hj : j < (sb 9 (zg s).toNat).length) : zv ((sb 9 (zg s).toNat).take j) = .error 70 := by
  have h0 := zg_nn s
  have h1 := zg_lt s 9223372036854775808 (by omega)
  unfold zv
  rw [uv_short _ j (by omega) hj]
theorem ct_put (m v : Nat) (h : v < 18446744073709551616) (hm : v ≤ m) (l : List (BitVec 8)) : ct m (sb 9 v ++ l) = .ok (v, l) := by
  unfold ct
  rw [uv_put v h]
  exact if_neg (by omega)
theorem ct_short (m v j : Nat) (h : v < 18446744073709551616) (hj : j < (sb 9 v).length) : ct m ((sb 9 v).take j) = .error 70 := by
  unfold ct
  rw [uv_short v j h hj]
theorem bk_put (m : Nat) (x l : List (BitVec 8)) (h : x.length < 18446744073709551616) (hm : x.length ≤ m) : bk m (bl x ++ l) = .ok (x, l) := by
  unfold bk bl
  rw [List.append_assoc, ct_put m x.length h hm]
  exact tk_put x l
theorem bk_short (m j : Nat) (x : List (BitVec 8)) (h : x.length < 18446744073709551616) (hm : x.length ≤ m) (hj : j < (bl x).length) : bk m ((bl x).take j) = .error 70 := by
  unfold bk bl
  unfold bl at hj
  rw [List.length_append] at hj
  rw [List.take_append]
  by_cases e : j < (sb 9 x.length).length
  · rw [show j - (sb 9 x.length).length = 0 by omega, List.take_zero, List.append_nil, ct_short m _ j h e]
  · rw [List.take_of_length_le (by omega), ct_put m x.length h hm]
    exact tk_short x.length _ x (by omega) rfl
/-- Texts that fit: none longer than so much. -/
theorem txs_put (k : Nat) (ts : List (List (BitVec 8))) (l : List (BitVec 8)) (h : ∀ t ∈ ts, t.length ≤ k ∧ t.length < 18446744073709551616) : txs k ts.length (tl ts ++ l) = .ok (ts, l) := by
  induction ts with
  | nil => rfl
  | cons t ts ih =>
    have h1 := h t (List.mem_cons_self ..)
    show (match bk k ((bl t ++ tl ts) ++ l) with
      | .error e => Except.error e
      | .ok (x, l) => match txs k ts.length l with
        | .error e => .error e
        | .ok (xs, l') => .ok ((x :: xs), l')) = _
    rw [List.append_assoc, bk_put k t _ h1.2 h1.1]
    simp only
    rw [ih (fun t ht => h t (List.mem_cons_of_mem _ ht))]
theorem txs_short (k : Nat) (ts : List (List (BitVec 8))) (j : Nat) (h : ∀ t ∈ ts, t.length ≤ k ∧ t.length < 18446744073709551616) (hj : j < (tl ts).length) : txs k ts.length ((tl ts).take j) = .error 70 := by
  induction ts generalizing j with
  | nil => simp [tl] at hj
  | cons t ts ih =>
    have h1 := h t (List.mem_cons_self ..)
    have e0 : tl (t :: ts) = bl t ++ tl ts := rfl
    rw [e0] at hj ⊢
    rw [List.length_append] at hj
    show (match bk k ((bl t ++ tl ts).take j) with
      | .error e => Except.error e
      | .ok (x, l) => match txs k ts.length l with
        | .error e => .error e
        | .ok (xs, l') => .ok ((x :: xs), l')) = _
    rw [List.take_append]
    by_cases e : j < (bl t).length
    · rw [show j - (bl t).length = 0 by omega, List.take_zero, List.append_nil, bk_short k j t h1.2 h1.1 e]
    · rw [List.take_of_length_le (by omega), bk_put k t _ h1.2 h1.1]
      simp only
      rw [ih (j - (bl t).length) (fun t ht => h t (List.mem_cons_of_mem _ ht)) (by omega)]
theorem lgt_mem (ts : List (List (BitVec 8))) : ∀ t ∈ ts, t.length ≤ lgt ts := by
  have key : ∀ (l : List (List (BitVec 8))) (n : Nat), n ≤ l.foldl (fun n t => max n t.length) n ∧ ∀ t ∈ l, t.length ≤ l.foldl (fun n t => max n t.length) n := by
    intro l
    induction l with
    | nil => intro n; exact ⟨Nat.le_refl _, fun t ht => by cases ht⟩
    | cons a l ih =>
      intro n
      rw [List.foldl_cons]
      obtain ⟨q1, q2⟩ := ih (max n a.length)
      refine ⟨by omega, fun t ht => ?_⟩
      rcases List.mem_cons.1 ht with rfl | ht
      · omega
      · exact q2 t ht
  exact (key ts 0).2
theorem tx_put (ts : List (List (BitVec 8))) (l : List (BitVec 8)) (hl : ts.length < 18446744073709551616) (hg : lgt ts < 18446744073709551616) : tx ts.length (lgt ts) ((sb 9 ts.length ++ tl ts) ++ l) = .ok (ts, l) := by
  unfold tx
  rw [List.append_assoc, ct_put _ _ hl (Nat.le_refl _)]
  exact txs_put _ ts l (fun t ht => ⟨lgt_mem ts t ht, Nat.lt_of_le_of_lt (lgt_mem ts t ht) hg⟩)
theorem tx_short (ts : List (List (BitVec 8))) (j : Nat) (hl : ts.length < 18446744073709551616) (hg : lgt ts < 18446744073709551616) (hj : j < (sb 9 ts.length ++ tl ts).length) : tx ts.length (lgt ts) ((sb 9 ts.length ++ tl ts).take j) = .error 70 := by
  unfold tx
  rw [List.length_append] at hj
  rw [List.take_append]
  by_cases e : j < (sb 9 ts.length).length
  · rw [show j - (sb 9 ts.length).length = 0 by omega, List.take_zero, List.append_nil, ct_short _ _ j hl e]
  · rw [List.take_of_length_le (by omega), ct_put _ _ hl (Nat.le_refl _)]
    exact txs_short _ ts _ (fun t ht => ⟨lgt_mem ts t ht, Nat.lt_of_le_of_lt (lgt_mem ts t ht) hg⟩) (by omega)
/-- A thing that lies in memory. -/
structure Tin (w : World) (kk : Int) (t : Th) (pB pT : Option Addr) : Prop where
  K : kk % 9 = (t.K : Int)
  U : t.U < 18446744073709551616
  S : -9223372036854775808 ≤ t.S ∧ t.S ≤ 9223372036854775807
  rB : Rd w pB t.B
  lB : t.B.length ≤ 1048576
  rT : Rs' w pT t.T
  lT : tz t.T ≤ 40000000000000
theorem Tin.below {w w' : World} {kk : Int} {t : Th} {pB pT : Option Addr} (h : Tin w kk t pB pT) (hb : Below w.heap.size w w') : Tin w' kk t pB pT :=
  ⟨h.K, h.U, h.S, h.rB.below hb, h.lB, h.rT.below hb, h.lT⟩
theorem Tin.lt {w : World} {kk : Int} {t : Th} {pB pT : Option Addr} (h : Tin w kk t pB pT) : t.K < 9 := by
  have h1 := Int.emod_lt_of_pos kk (by omega : (0 : Int) < 9)
  have := h.K
  omega
theorem put_any {w : World} {a : Option Addr} {bs : List (BitVec 8)} (h : Rd w a bs) (n c : Nat) (hn : bs.length = n) (hm : n ≤ 100000000000000) {kk : Int} {t : Th} {pB pT : Option Addr} (ht : Tin w kk t pB pT) (cB cT : Nat) :
    Calls Try.prog 38 #[.slice a n c, .agg #[.int .i64 kk, .int .u64 (t.U : Int), .int .i64 t.S, .slice pB t.B.length cB, .slice pT t.T.length cT]] w fun e' w' => ∃ o', e' = .returned o' ∧ Ow w' w.heap.size o' (bs ++ eth t) ∧ Below w.heap.size w w' := by
  have hlt := ht.lt
  obtain ⟨K, U, S, B, T⟩ := t
  match K, ht, hlt with
  | 0, ht, _ => exact tput0 h n c hn hm kk ht.K U S B T pB pT cB cT ht.U
  | 1, ht, _ => exact tput1 h n c hn hm kk ht.K U S B T pB pT cB cT ht.U
  | 2, ht, _ => exact tput2 h n c hn hm kk ht.K U S B T pB pT cB cT ht.U
  | 3, ht, _ => exact tput3 h n c hn hm kk ht.K U S B T pB pT cB cT ht.U
  | 4, ht, _ => exact tput4 h n c hn hm kk ht.K U S B T pB pT cB cT ht.U
  | 5, ht, _ => exact tput5 h n c hn hm kk ht.K U S B T pB pT cB cT ht.U
  | 6, ht, _ => exact tput6 h n c hn hm kk ht.K U S B T pB pT cB cT ht.S
  | 7, ht, _ => exact tput7 h n c hn hm kk ht.K U S B T pB pT cB cT ht.rB ht.lB
  | 8, ht, _ => exact tput8 h n c hn hm kk ht.K U S B T pB pT cB cT ht.rT ht.lT
theorem backs_ok {α : Type} [DecidableEq α] {w w' : World} {r : Nat} {x : α × List (BitVec 8) × Int} {y : α} {e : Ending} {l : List (BitVec 8)} (h : Backs w r x y e w') (hx : x = (y, l, 0)) : w.grownBy w' (some r) ∧ Rdr w' r l 0 ∧ e = .returned (.bool true) := by
  subst hx
  exact ⟨h.1, h.2.1, by rw [h.2.2, decide_eq_true rfl]⟩
theorem backs_no {α : Type} [DecidableEq α] {w w' : World} {r : Nat} {x : α × List (BitVec 8) × Int} {y z : α} {e : Ending} {l : List (BitVec 8)} (h : Backs w r x y e w') (hx : x = (z, l, 70)) : w.grownBy w' (some r) ∧ Rdr w' r l 70 ∧ ∃ b, e = .returned (.bool b) := by
  subst hx
  exact ⟨h.1, h.2.1, _, h.2.2⟩
theorem ge0_nat {α : Type} (n : Nat) (R : Ans α) : ge0 (n : Int) R = R := ge0_ok _ (by omega)
/-- What was put is read. -/
theorem back_put {w : World} {r : Nat} {l : List (BitVec 8)} {kk : Int} {t : Th} {pB pT : Option Addr} (ht : Tin w kk t pB pT) (h : Rdr w r (eth t ++ l) 0) (hl : (eth t ++ l).length ≤ 1099511627000) (cB cT : Nat) :
    Calls Try.prog 39 #[.pointer (some ⟨r, 0, none⟩), .agg #[.int .i64 kk, .int .u64 (t.U : Int), .int .i64 t.S, .slice pB t.B.length cB, .slice pT t.T.length cT]] w fun e' w' => w.grownBy w' (some r) ∧ Rdr w' r l 0 ∧ e' = .returned (.bool true) := by
  have hlt := ht.lt
  obtain ⟨K, U, S, B, T⟩ := t
  match K, ht, h, hl, hlt with
  | 0, ht, h, hl, _ => exact (back0 h hl kk ht.K U S B T pB pT cB cT).mono fun e w' hb => backs_ok hb (by show res 0 0 _ (fx 1 (lb 1 (U % 256) ++ l)) = _; rw [fx_put 1 _ (by omega)]; rfl)
  | 1, ht, h, hl, _ => exact (back1 h hl kk ht.K U S B T pB pT cB cT).mono fun e w' hb => backs_ok hb (by show res 0 0 _ (fx 2 (lb 2 (U % 65536) ++ l)) = _; rw [fx_put 2 _ (by omega)]; rfl)
  | 2, ht, h, hl, _ => exact (back2 h hl kk ht.K U S B T pB pT cB cT).mono fun e w' hb => backs_ok hb (by show res 0 0 _ (fx 4 (lb 4 (U % 4294967296) ++ l)) = _; rw [fx_put 4 _ (by omega)]; rfl)
  | 3, ht, h, hl, _ => exact (back3 h hl kk ht.K U S B T pB pT cB cT).mono fun e w' hb => backs_ok hb (by show res 0 0 _ (fx 8 (lb 8 U ++ l)) = _; rw [fx_put 8 _ (by have := ht.U; exact this)]; rfl)
  | 4, ht, h, hl, _ => exact (back4 h hl kk ht.K U S B T pB pT cB cT).mono fun e w' hb => backs_ok hb (by show res 0 0 _ (fx 2 (lb 2 (U % 65536) ++ l)) = _; rw [fx_put 2 _ (by omega)]; rfl)
  | 5, ht, h, hl, _ => exact (back5 h hl kk ht.K U S B T pB pT cB cT).mono fun e w' hb => backs_ok hb (by show res 0 0 _ (uv (sb 9 U ++ l)) = _; rw [uv_put U ht.U]; rfl)
  | 6, ht, h, hl, _ => exact (back6 h hl kk ht.K U S B T pB pT cB cT).mono fun e w' hb => backs_ok hb (by show res 0 0 _ (zv (sb 9 (zg S).toNat ++ l)) = _; rw [zv_put S ht.S]; rfl)
  | 7, ht, h, hl, _ => exact (back7 h hl kk ht.K U S B T pB pT cB cT ht.rB ht.lB).mono fun e w' hb => backs_ok hb (by
      have h2 : B.length ≤ 1048576 := ht.lB
      show res [] 0 _ (ge0 (B.length : Int) (bk (B.length : Int).toNat (bl B ++ l))) = _
      rw [ge0_nat, Int.toNat_natCast, bk_put _ B l (by omega) (Nat.le_refl _)]; rfl)
  | 8, ht, h, hl, _ => exact (back8 h hl kk ht.K U S B T pB pT cB cT ht.rT ht.lT).mono fun e w' hb => backs_ok hb (by
      have h2 : tz T ≤ 40000000000000 := ht.lT
      have h3 := tz_len T
      have h4 := lgt_le T
      show res [] 0 _ (ge0 (T.length : Int) (ge0 (lgt T : Int) (tx (T.length : Int).toNat (lgt T : Int).toNat ((sb 9 T.length ++ tl T) ++ l)))) = _
      rw [ge0_nat, ge0_nat, Int.toNat_natCast, Int.toNat_natCast, tx_put T l (by omega) (by omega)]; rfl)
/-- No shorter beginning is. -/
theorem back_cut {w : World} {r : Nat} {j : Nat} {kk : Int} {t : Th} {pB pT : Option Addr} (ht : Tin w kk t pB pT) (hj : j < (eth t).length) (h : Rdr w r ((eth t).take j) 0) (hl : (eth t).length ≤ 1099511627000) (cB cT : Nat) :
    Calls Try.prog 39 #[.pointer (some ⟨r, 0, none⟩), .agg #[.int .i64 kk, .int .u64 (t.U : Int), .int .i64 t.S, .slice pB t.B.length cB, .slice pT t.T.length cT]] w fun e' w' => w.grownBy w' (some r) ∧ Rdr w' r ((eth t).take j) 70 ∧ ∃ b, e' = .returned (.bool b) := by
  have hlt := ht.lt
  have hl' : ((eth t).take j).length ≤ 1099511627000 := by rw [List.length_take]; omega
  clear hl
  obtain ⟨K, U, S, B, T⟩ := t
  match K, ht, hj, h, hl', hlt with
  | 0, ht, hj, h, hl, _ => exact (back0 h hl kk ht.K U S B T pB pT cB cT).mono fun e w' hb => backs_no (z := 0) hb (by show res 0 0 _ (fx 1 ((lb 1 (U % 256)).take j)) = _; rw [fx_short 1 _ j (by have h9 : j < (lb 1 (U % 256)).length := hj; rw [lb_len] at h9; exact h9)]; rfl)
  | 1, ht, hj, h, hl, _ => exact (back1 h hl kk ht.K U S B T pB pT cB cT).mono fun e w' hb => backs_no (z := 0) hb (by show res 0 0 _ (fx 2 ((lb 2 (U % 65536)).take j)) = _; rw [fx_short 2 _ j (by have h9 : j < (lb 2 (U % 65536)).length := hj; rw [lb_len] at h9; exact h9)]; rfl)
  | 2, ht, hj, h, hl, _ => exact (back2 h hl kk ht.K U S B T pB pT cB cT).mono fun e w' hb => backs_no (z := 0) hb (by show res 0 0 _ (fx 4 ((lb 4 (U % 4294967296)).take j)) = _; rw [fx_short 4 _ j (by have h9 : j < (lb 4 (U % 4294967296)).length := hj; rw [lb_len] at h9; exact h9)]; rfl)
  | 3, ht, hj, h, hl, _ => exact (back3 h hl kk ht.K U S B T pB pT cB cT).mono fun e w' hb => backs_no (z := 0) hb (by show res 0 0 _ (fx 8 ((lb 8 U).take j)) = _; rw [fx_short 8 _ j (by have h9 : j < (lb 8 U).length := hj; rw [lb_len] at h9; exact h9)]; rfl)
  | 4, ht, hj, h, hl, _ => exact (back4 h hl kk ht.K U S B T pB pT cB cT).mono fun e w' hb => backs_no (z := 0) hb (by show res 0 0 _ (fx 2 ((lb 2 (U % 65536)).take j)) = _; rw [fx_short 2 _ j (by have h9 : j < (lb 2 (U % 65536)).length := hj; rw [lb_len] at h9; exact h9)]; rfl)
  | 5, ht, hj, h, hl, _ => exact (back5 h hl kk ht.K U S B T pB pT cB cT).mono fun e w' hb => backs_no (z := 0) hb (by show res 0 0 _ (uv ((sb 9 U).take j)) = _; rw [uv_short U j ht.U hj]; rfl)
  | 6, ht, hj, h, hl, _ => exact (back6 h hl kk ht.K U S B T pB pT cB cT).mono fun e w' hb => backs_no (z := 0) hb (by show res 0 0 _ (zv ((sb 9 (zg S).toNat).take j)) = _; rw [zv_short S j ht.S hj]; rfl)
  | 7, ht, hj, h, hl, _ => exact (back7 h hl kk ht.K U S B T pB pT cB cT ht.rB ht.lB).mono fun e w' hb => backs_no (z := []) hb (by
      have h2 : B.length ≤ 1048576 := ht.lB
      show res [] 0 _ (ge0 (B.length : Int) (bk (B.length : Int).toNat ((bl B).take j))) = _
      rw [ge0_nat, Int.toNat_natCast, bk_short _ j B (by omega) (Nat.le_refl _) hj]; rfl)
  | 8, ht, hj, h, hl, _ => exact (back8 h hl kk ht.K U S B T pB pT cB cT ht.rT ht.lT).mono fun e w' hb => backs_no (z := []) hb (by
      have h2 : tz T ≤ 40000000000000 := ht.lT
      have h3 := tz_len T
      have h4 := lgt_le T
      show res [] 0 _ (ge0 (T.length : Int) (ge0 (lgt T : Int) (tx (T.length : Int).toNat (lgt T : Int).toNat ((sb 9 T.length ++ tl T).take j)))) = _
      rw [ge0_nat, ge0_nat, Int.toNat_natCast, Int.toNat_natCast, tx_short T j (by omega) (by omega) hj]; rfl)
end Go.Proofs.Ytmcbeikgdcgdcaa
