/-
  Things: what was put is read, and no shorter beginning is.
-/
import Derived.Test.YtmcbeikgdcgdcaaTc
namespace Go.Proofs.Ytmcbeikgdcgdcaa
open Go.RowKit
theorem tk_put (x l : List (BitVec 8)) : tk x.length (x ++ l) = .ok x l := by
  unfold tk
  rw [if_neg (by rw [List.length_append]; omega), List.take_left' rfl, List.drop_left' rfl]
theorem tk_short (n j : Nat) (x : List (BitVec 8)) (h : j < n) (hx : x.length = n) : tk n (x.take j) = .no 70 := by
  unfold tk
  rw [if_pos (by rw [List.length_take]; omega)]
theorem fx_put (n v : Nat) (h : v < 256 ^ n) (l : List (BitVec 8)) : fx n (lb n v ++ l) = .ok v l := by
  unfold fx
  have := tk_put (lb n v) l
  rw [lb_len] at this
  rw [this]
  show Ans.ok (lv (lb n v)) l = _
  rw [lv_lb n v h]
theorem fx_short (n v j : Nat) (h : j < n) : fx n ((lb n v).take j) = .no 70 := by
  unfold fx
  rw [tk_short n j (lb n v) h (lb_len n v)]
theorem nt_app (a b : List (BitVec 8)) : nt (a ++ b) = nt a ++ nt b := by unfold nt; rw [List.map_append]
theorem nt_sb (v : Nat) (h : v < 18446744073709551616) : nt (sb 9 v) = sfk 9 v := sb_nat 9 v h
theorem uv_put (v : Nat) (h : v < 18446744073709551616) (l : List (BitVec 8)) : uv (sb 9 v ++ l) = .ok v l := by
  unfold uv
  rw [nt_app, nt_sb v h, rsk_sfk 9 v (nt l) (Nat.le_refl _) h (.inl rfl)]
  show Ans.ok v ((sb 9 v ++ l).drop (sfk 9 v).length) = _
  rw [← sb_sfl, List.drop_left' rfl]
theorem uv_short (v j : Nat) (h : v < 18446744073709551616) (hj : j < (sb 9 v).length) : uv ((sb 9 v).take j) = .no 70 := by
  unfold uv
  have e : nt ((sb 9 v).take j) = (sfk 9 v).take j := by rw [← nt_sb v h]; unfold nt; rw [List.map_take]
  rw [e, rsk_short 9 v j (by rw [← sb_sfl]; exact hj)]
theorem zv_put (s : Int) (h : -9223372036854775808 ≤ s ∧ s ≤ 9223372036854775807) (l : List (BitVec 8)) : zv (sb 9 (zg s).toNat ++ l) = .ok s l := by
  have h0 := zg_nn s
  have h1 := zg_lt s 9223372036854775808 (by omega)
  unfold zv
  rw [uv_put _ (by omega)]
  show Ans.ok (ug (((zg s).toNat : Nat) : Int)) l = _
  rw [Int.toNat_of_nonneg h0, ug_zg]
theorem zv_short (s : Int) (j : Nat) (h : -9223372036854775808 ≤ s ∧ s ≤ 9223372036854775807) (hj : j < (sb 9 (zg s).toNat).length) : zv ((sb 9 (zg s).toNat).take j) = .no 70 := by
  have h0 := zg_nn s
  have h1 := zg_lt s 9223372036854775808 (by omega)
  unfold zv
  rw [uv_short _ j (by omega) hj]
theorem ct_put (m v : Nat) (h : v < 18446744073709551616) (hm : v ≤ m) (l : List (BitVec 8)) : ct m (sb 9 v ++ l) = .ok v l := by
  unfold ct
  rw [uv_put v h]
  exact if_neg (by omega)
theorem ct_short (m v j : Nat) (h : v < 18446744073709551616) (hj : j < (sb 9 v).length) : ct m ((sb 9 v).take j) = .no 70 := by
  unfold ct
  rw [uv_short v j h hj]
theorem bk_put (m : Nat) (x l : List (BitVec 8)) (h : x.length < 18446744073709551616) (hm : x.length ≤ m) : bk m (bl x ++ l) = .ok x l := by
  unfold bk bl
  rw [List.append_assoc, ct_put m x.length h hm]
  exact tk_put x l
theorem bk_short (m j : Nat) (x : List (BitVec 8)) (h : x.length < 18446744073709551616) (hm : x.length ≤ m) (hj : j < (bl x).length) : bk m ((bl x).take j) = .no 70 := by
  unfold bk bl
  unfold bl at hj
  rw [List.length_append] at hj
  rw [List.take_append]
  by_cases e : j < (sb 9 x.length).length
  · rw [show j - (sb 9 x.length).length = 0 by omega, List.take_zero, List.append_nil, ct_short m _ j h e]
  · rw [List.take_of_length_le (by omega), ct_put m x.length h hm]
    exact tk_short x.length _ x (by omega) rfl
/-- Texts that fit: none longer than so much. -/
theorem txs_put (k : Nat) (ts : List (List (BitVec 8))) (l : List (BitVec 8)) (h : ∀ t ∈ ts, t.length ≤ k ∧ t.length < 18446744073709551616) : txs k ts.length (tl ts ++ l) = .ok ts l := by
  induction ts with
  | nil => rfl
  | cons t ts ih =>
    have h1 := h t (List.mem_cons_self ..)
    show (match bk k ((bl t ++ tl ts) ++ l) with
      | .no e => Ans.no e
      | .ok x l => match txs k ts.length l with
        | .no e => .no e
        | .ok xs l' => .ok (x :: xs) l') = _
    rw [List.append_assoc, bk_put k t _ h1.2 h1.1]
    simp only
    rw [ih (fun t ht => h t (List.mem_cons_of_mem _ ht))]
theorem txs_short (k : Nat) (ts : List (List (BitVec 8))) (j : Nat) (h : ∀ t ∈ ts, t.length ≤ k ∧ t.length < 18446744073709551616) (hj : j < (tl ts).length) : txs k ts.length ((tl ts).take j) = .no 70 := by
  induction ts generalizing j with
  | nil => simp [tl] at hj
  | cons t ts ih =>
    have h1 := h t (List.mem_cons_self ..)
    have e0 : tl (t :: ts) = bl t ++ tl ts := rfl
    rw [e0] at hj ⊢
    rw [List.length_append] at hj
    show (match bk k ((bl t ++ tl ts).take j) with
      | .no e => Ans.no e
      | .ok x l => match txs k ts.length l with
        | .no e => .no e
        | .ok xs l' => .ok (x :: xs) l') = _
    rw [List.take_append]
    by_cases e : j < (bl t).length
    · rw [show j - (bl t).length = 0 by omega, List.take_zero, List.append_nil, bk_short k j t h1.2 h1.1 e]
    · rw [List.take_of_length_le (by omega), bk_put k t _ h1.2 h1.1]
      simp only
      rw [ih (j - (bl t).length) (fun t ht => h t (List.mem_cons_of_mem _ ht)) (by omega)]
theorem lgt_mem (ts : List (List (BitVec 8))) : ∀ t ∈ ts, t.length ≤ lgt ts := by
  have key : ∀ (l : List (List (BitVec 8))) (n : Nat), n ≤ l.foldl (fun n t => max n t.length) n ∧ ∀ t ∈ l, t.length ≤ l.foldl (fun n t => max n t.length) n := by
    intro l
    induction l with
    | nil => intro n; exact ⟨Nat.le_refl _, fun t ht => by cases ht⟩
    | cons a l ih =>
      intro n
      rw [List.foldl_cons]
      obtain ⟨q1, q2⟩ := ih (max n a.length)
      refine ⟨by omega, fun t ht => ?_⟩
      rcases List.mem_cons.1 ht with rfl | ht
      · omega
      · exact q2 t ht
  exact (key ts 0).2
theorem tx_put (ts : List (List (BitVec 8))) (l : List (BitVec 8)) (hl : ts.length < 18446744073709551616) (hg : lgt ts < 18446744073709551616) : tx ts.length (lgt ts) ((sb 9 ts.length ++ tl ts) ++ l) = .ok ts l := by
  unfold tx
  rw [List.append_assoc, ct_put _ _ hl (Nat.le_refl _)]
  exact txs_put _ ts l (fun t ht => ⟨lgt_mem ts t ht, Nat.lt_of_le_of_lt (lgt_mem ts t ht) hg⟩)
theorem tx_short (ts : List (List (BitVec 8))) (j : Nat) (hl : ts.length < 18446744073709551616) (hg : lgt ts < 18446744073709551616) (hj : j < (sb 9 ts.length ++ tl ts).length) : tx ts.length (lgt ts) ((sb 9 ts.length ++ tl ts).take j) = .no 70 := by
  unfold tx
  rw [List.length_append] at hj
  rw [List.take_append]
  by_cases e : j < (sb 9 ts.length).length
  · rw [show j - (sb 9 ts.length).length = 0 by omega, List.take_zero, List.append_nil, ct_short _ _ j hl e]
  · rw [List.take_of_length_le (by omega), ct_put _ _ hl (Nat.le_refl _)]
    exact txs_short _ ts _ (fun t ht => ⟨lgt_mem ts t ht, Nat.lt_of_le_of_lt (lgt_mem ts t ht) hg⟩) (by omega)
end Go.Proofs.Ytmcbeikgdcgdcaa
