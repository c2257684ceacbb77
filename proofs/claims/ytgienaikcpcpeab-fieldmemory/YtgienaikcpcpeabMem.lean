/-
  What FieldMemory's walk wants besides.
-/
import Derived.Test.YtgienaikcpcpeabApart
import Derived.Test.YtgienaikcpcpeabRefRows
import Derived.Test.YtgienaikcpcpeabScaleb
import Derived.Laws.AppendOwnNone
namespace Go.Proofs.Ytgienaikcpcpeab
open Go.RowKit

theorem bt {u v x : World} (h : Below u.heap.size u v) (k : Below v.heap.size v x) : Below u.heap.size u x := h.trans (k.mono h.size)
theorem rd_new {w : World} {base n : Nat} {v : Value} {x : Nat → BitVec 8} (h : w.ownsRow base 5 1 v n (vs x n)) : ∃ p cap, v = .slice p n cap ∧ Rd w p (ls x n) ∧ ∀ b off, p = some ⟨b, off, none⟩ → base ≤ b := by
  obtain ⟨p, cap, hv, _, hr⟩ := rd_owns h
  refine ⟨p, cap, hv, hr, fun b off hp => ?_⟩
  rcases h.2 with ⟨hv', _⟩ | ⟨g, cap', c, hv', hg, _⟩
  · rw [hv', hp] at hv; cases hv
  · rw [hv', hp] at hv; cases hv; exact hg
theorem wpList_clone {w : World} {ops : Array Oper} {rest : List Oper} {o : Oper} {a : Act} {Q : Exit → Act → World → Prop} (hgd : o.guard = none) (x : Operand) (ho : o.op = .call { callee := .builtin .append, args := #[.const (.slice none 0 0), x], argTypes := #[22, 22] })
    (ao : Option Addr) (n c : Nat) (xs : List (BitVec 8)) (hx : a.eval x = .slice ao n c) (hr : Rd w ao xs) (hn : xs.length = n) (hm : n ≤ 140737488355328) (h0 : ao = none → c = 0)
    (h : ∀ p k w', Rd w' p xs → (∀ b off, p = some ⟨b, off, none⟩ → w.heap.size ≤ b) → Below w.heap.size w w' → wpList Try.prog ops Q rest (a.put o.dst (.slice p n k)) w') : wpList Try.prog ops Q (o :: rest) a w := by
  obtain ⟨i0, hi, hz0, hz1, hz2⟩ := info_parts info5
  cases ao with
  | none =>
    obtain rfl := h0 rfl
    have hxs : xs = [] := by
      rcases hr with e | ⟨b, off, e, _⟩
      · exact e
      · cases e
    subst hxs
    obtain rfl : n = 0 := hn.symm
    refine wpList_append_own_none hgd _ _ 22 ho w.heap.size 5 i0 1 Try.underlying22 hi (.slice none 0 0) 0 [] rfl (World.ownsRow_nil _ _ _ _) hx ?_
    exact h none 0 w (.inl rfl) (fun b off e => by cases e) (Below.refl _ _)
  | some ad =>
    have S : ∀ j u, (vals (fun i => xs.getD i 0#8) n)[j]? = some u → w.cell? (ad.add j) = some u := by
      intro j u hu
      obtain ⟨hj, rfl⟩ := vals_get hu
      rcases hr with e | ⟨b, off, e, hc⟩
      · subst e; simp at hn; omega
      · cases e
        rw [add_plain]; exact hc j (by omega)
    refine wpList_append_own _ hgd _ _ 22 ho w.heap.size 5 i0 (.int .u8 0) 1 1 Try.underlying22 hi hz0 hz1 hz2 rfl (by decide) (.slice none 0 0) 0 [] rfl (World.ownsRow_nil _ _ _ _) ad n c (vals (fun i => xs.getD i 0#8) n) hx (by rw [vals_len, Nat.mul_one]) S (vals_one _ _) (by unfold maxLen; omega) (by omega) (Nat.le_refl _) ?_
    intro v' w' ho' hg _
    have ho2 : w'.ownsRow w.heap.size 5 1 v' n (vs (fun i => xs.getD i 0#8) n) := by
      have e : vs (fun i => xs.getD i 0#8) n = vals (fun i => xs.getD i 0#8) n := rfl
      rw [e]; simpa using ho'
    obtain ⟨p, k, hv, hr', hnew⟩ := rd_new ho2
    rw [hv]
    refine h p k w' ?_ hnew (below_append (Below.refl _ _) (Nat.le_refl _) hg (World.ownsRow_nil _ _ _ _) (Nat.le_refl _))
    have e := ls_self xs
    rw [hn] at e
    rw [e] at hr'
    exact hr'
/-- What stood before the six rows were made is kept. -/
theorem Rd.kept {w0 w w' : World} {gs : Nat → Nat} {a : Option Addr} {xs : List (BitVec 8)} (h : Rd w0 a xs) (hb : Below w0.heap.size w0 w) (hk : Kept6 w w' gs) (hg : ∀ m, m < 6 → w0.heap.size ≤ gs m) : Rd w' a xs := by
  rcases h with e | ⟨b, off, ha, hc⟩
  · exact .inl e
  · refine .inr ⟨b, off, ha, fun i hi => ?_⟩
    have h1 := hc i hi
    have hl := block_lt_of_cell h1
    exact hk.cell (cell_below h1 hb) (fun m hm e => by have := hg m hm; simp only at hl; omega)
/-- What was made behind them, too. -/
theorem Rd.keptNew {w w' : World} {gs : Nat → Nat} {a : Option Addr} {xs : List (BitVec 8)} {B : Nat} (h : Rd w a xs) (hn : ∀ b off, a = some ⟨b, off, none⟩ → B ≤ b) (hk : Kept6 w w' gs) (hg : ∀ m, m < 6 → gs m < B) : Rd w' a xs := by
  rcases h with e | ⟨b, off, ha, hc⟩
  · exact .inl e
  · refine .inr ⟨b, off, ha, fun i hi => ?_⟩
    exact hk.cell (hc i hi) (fun m hm e => by have := hg m hm; have := hn b off ha; omega)
theorem Kept6.under {w0 w w' : World} {gs : Nat → Nat} (hb : Below w0.heap.size w0 w) (hk : Kept6 w w' gs) (hg : ∀ m, m < 6 → w0.heap.size ≤ gs m) : Below w0.heap.size w0 w' :=
  ⟨hk.os.trans hb.os, hk.tape.trans hb.tape, hk.output.trans hb.output, Nat.le_trans hb.size hk.size, fun k hk' => by rw [hk.block k (Nat.lt_of_lt_of_le hk' hb.size) (fun m hm e => by have := hg m hm; omega)]; exact hb.block k hk'⟩
theorem even_any' {w : World} {a1 a2 : Option Addr} {xs ys : List (BitVec 8)} (h1 : Rd w a1 xs) (h2 : Rd w a2 ys) (n1 c1 n2 c2 m : Nat) (hx : xs.length = n1) (hy : ys.length = n2) (hn1 : n1 ≤ c1) (hn2 : n2 ≤ c2) (hl1 : n1 ≤ 140737488355328) (hl2 : n2 ≤ 140737488355328) (hm : min n1 n2 = m) (X Y : List (BitVec 8)) (hX : xs.take m = X) (hY : ys.take m = Y) :
    Calls Try.prog 6 #[.slice a1 n1 c1, .slice a2 n2 c2] w fun e w' => ∃ p1 k1 p2 k2, e = .returned (.tuple #[.slice p1 m k1, .slice p2 m k2]) ∧ (p1 = none → k1 = 0) ∧ Rd w' p1 X ∧ Rd w' p2 Y ∧ Below w.heap.size w w' := by
  subst hX hY
  have nil : m = 0 → ∀ e w', (e = Ending.returned (.tuple #[.slice none 0 0, .slice none 0 0]) ∧ Below w.heap.size w w') → ∃ p1 k1 p2 k2, e = .returned (.tuple #[.slice p1 m k1, .slice p2 m k2]) ∧ (p1 = none → k1 = 0) ∧ Rd w' p1 (xs.take m) ∧ Rd w' p2 (ys.take m) ∧ Below w.heap.size w w' := by
    rintro rfl e w' ⟨rfl, hb⟩
    exact ⟨none, 0, none, 0, rfl, fun _ => rfl, .inl rfl, .inl rfl, hb⟩
  by_cases z1 : n1 = 0
  · subst z1
    exact (even_nil_l a1 a2 c1 n2 c2 w hl2).mono (nil (by omega))
  · by_cases z2 : n2 = 0
    · subst z2
      exact (even_nil_r a1 a2 n1 c1 c2 w (by omega)).mono (nil (by omega))
    · rcases h1 with h1 | ⟨b1, o1, rfl, hc1⟩
      · subst h1; simp at hx; omega
      · rcases h2 with h2 | ⟨b2, o2, rfl, hc2⟩
        · subst h2; simp at hy; omega
        · by_cases hlt : n2 < n1
          · obtain rfl : m = n2 := by omega
            refine (even_r b1 o1 n1 c1 b2 o2 m c2 _ _ w hn1 hn2 hlt (by omega) hl2 (src_of hc1 hx (by omega)) (src_of hc2 hy (by omega))).mono ?_
            rintro e w' ⟨g1, k1, g2, k2, rfl, _, _, _, hM1, hM2, hb⟩
            exact ⟨_, k1, _, k2, rfl, (fun e => by cases e), by rw [← range_getD (xs := xs) (m := m) (by omega)]; exact hM1.rd, by rw [← range_getD (xs := ys) (m := m) (by omega)]; exact hM2.rd, hb⟩
          · obtain rfl : m = n1 := by omega
            refine (even_l b1 o1 m c1 b2 o2 n2 c2 _ _ w hn1 hn2 hlt (by omega) hl1 (src_of hc1 hx (by omega)) (src_of hc2 hy (by omega))).mono ?_
            rintro e w' ⟨g1, k1, g2, k2, rfl, _, _, _, hM1, hM2, hb⟩
            exact ⟨_, k1, _, k2, rfl, (fun e => by cases e), by rw [← range_getD (xs := xs) (m := m) (by omega)]; exact hM1.rd, by rw [← range_getD (xs := ys) (m := m) (by omega)]; exact hM2.rd, hb⟩
end Go.Proofs.Ytgienaikcpcpeab
