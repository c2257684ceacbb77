/-
  Stripe: copying onto a part of a row; the data's rows as mathematics.
-/
import Derived.Test.YtgokkppojhokbaaCm
import Derived.Test.YtgokkppojhokbaaQ8e
import Derived.Laws.CopyOwn
namespace Go.Proofs.Ytgokkppojhokbaa
open Go.RowKit
/-- f laid over f0 from place o on, q values. -/
def ovl (f0 f : Nat → Value) (o q : Nat) (j : Nat) : Value := if o ≤ j ∧ j < o + q then f (j - o) else f0 j
theorem ovl_rv (f0 f : Nat → Value) (m o q : Nat) (h : o + q ≤ m) : ((rv f0 m).toList.take o ++ lv f q ++ (rv f0 m).toList.drop (o + q)).toArray = rv (ovl f0 f o q) m := by
  unfold rv lv
  congr 1
  apply List.ext_getElem?
  intro j
  rw [List.toList_toArray, List.append_assoc, List.getElem?_append, List.length_take, List.length_map, List.length_range]
  by_cases h1 : j < o
  · rw [if_pos (by omega), List.getElem?_take, if_pos h1, List.getElem?_map, List.getElem?_map, List.getElem?_range (by omega)]
    show some (f0 j) = some (ovl f0 f o q j)
    unfold ovl
    rw [if_neg (by omega)]
  · rw [if_neg (by omega), List.getElem?_append, List.length_map, List.length_range]
    by_cases h2 : j < o + q
    · rw [if_pos (by omega), List.getElem?_map, List.getElem?_map, List.getElem?_range (by omega), List.getElem?_range (by omega)]
      show some (f _) = some (ovl f0 f o q j)
      unfold ovl
      rw [if_pos ⟨by omega, h2⟩]
      congr 2
      omega
    · rw [if_neg (by omega), List.getElem?_drop, List.getElem?_map, List.getElem?_map]
      have e : o + q + (j - min o m - q) = j := by omega
      rw [e]
      by_cases h3 : j < m
      · rw [List.getElem?_range h3]
        show some (f0 j) = some (ovl f0 f o q j)
        unfold ovl
        rw [if_neg (by omega)]
      · rw [List.getElem?_eq_none (by simp; omega)]; rfl
theorem oper_copy_at {P : Program} {w : World} {o : Oper} {a : Act} {K : Act → World → Prop} {Q : Exit → Act → World → Prop} (d s : Operand) (dT sT : TypeId)
    (ho : o.op = .call { callee := .builtin .copy, args := #[d, s], argTypes := #[dT, sT] }) (elem : TypeId) (hu : P.underlying dT = some (.slice elem)) (hsz : (P.info? elem).map (·.size) = some 1)
    (dp : Option Addr) (dLen dCap : Nat) (v : Value) (hd : a.eval d = .slice dp dLen dCap) (hs : a.eval s = v) (g off m : Nat) (t : TypeId) (f0 f : Nat → Value) (sLen q : Nat) (hq : q = min sLen dLen) (hO : Ov w t g f0 m) (hv : Sv w v sLen f sLen) (h1 : ∀ i, (f i).oneCell' = true)
    (hpos : 0 < q → dp = some ⟨g, off, none⟩) (hfit : off + q ≤ m)
    (h : ∀ w', Ov w' t g (ovl f0 f off q) m → But g w w' → K (a.put o.dst (goInt q)) w') : Oper.wp P o a w K Q := by
  obtain ⟨p, c, rfl, hv⟩ := hv
  by_cases h0 : q = 0
  · have hrun := run_copy_none (P := P) w dT sT o.type elem dp p dLen dCap sLen c hu hsz (by show min sLen dLen = 0; omega)
    unfold Oper.wp
    simp [execOp, ho, resolve, invoke, builtin, hd, hs, hrun, Result.andThen]
    have := h w (hO.congr (fun i hi => by unfold ovl; rw [if_neg (by omega)])) (But.refl _ _)
    rw [h0] at this
    exact this
  · obtain rfl := hpos (by omega)
    rcases hv with hv | ⟨b, off2, rfl, hc⟩
    · omega
    · have hrun := run_copy_row (P := P) w dT sT o.type elem g off dLen dCap ⟨b, off2, none⟩ sLen c (rv f0 m) t (lv f q) hu hsz hO (by rw [lv_len, hq])
        (fun j u hj => by
          have hjn : j < q := by
            rcases Nat.lt_or_ge j q with h | h
            · exact h
            · rw [List.getElem?_eq_none (by rw [lv_len]; exact h)] at hj; cases hj
          rw [lv_at f q j hjn] at hj
          injection hj with hj
          rw [add_pl, hc j (by omega), hj])
        (by rw [lv_len, rv_size]; exact hfit) (fun u hu => by
          unfold lv at hu
          obtain ⟨i, _, rfl⟩ := List.mem_map.1 hu
          exact h1 i)
      unfold Oper.wp
      simp [execOp, ho, resolve, invoke, builtin, hd, hs, hrun, Result.andThen]
      rw [lv_len]
      refine h _ ?_ (But.setRow _)
      unfold Ov
      rw [setRow_heap w g _ _ t _ hO]
      congr 2
      rw [← ovl_rv f0 f m off q hfit]
      simp
theorem wpList_copy_at {P : Program} {w : World} {ops : Array Oper} {rest : List Oper} {o : Oper} {a : Act} {Q : Exit → Act → World → Prop} (hgd : o.guard = none) (d s : Operand) (dT sT : TypeId)
    (ho : o.op = .call { callee := .builtin .copy, args := #[d, s], argTypes := #[dT, sT] }) (elem : TypeId) (hu : P.underlying dT = some (.slice elem)) (hsz : (P.info? elem).map (·.size) = some 1)
    (dp : Option Addr) (dLen dCap : Nat) (v : Value) (hd : a.eval d = .slice dp dLen dCap) (hs : a.eval s = v) (g off m : Nat) (t : TypeId) (f0 f : Nat → Value) (sLen q : Nat) (hq : q = min sLen dLen) (hO : Ov w t g f0 m) (hv : Sv w v sLen f sLen) (h1 : ∀ i, (f i).oneCell' = true)
    (hpos : 0 < q → dp = some ⟨g, off, none⟩) (hfit : off + q ≤ m)
    (h : ∀ w', Ov w' t g (ovl f0 f off q) m → But g w w' → wpList P ops Q rest (a.put o.dst (goInt q)) w') : wpList P ops Q (o :: rest) a w :=
  wpList_plain hgd fun _ hK => oper_copy_at d s dT sT ho elem hu hsz dp dLen dCap v hd hs g off m t f0 f sLen q hq hO hv h1 hpos hfit (fun w' h1 h2 => hK _ _ (h w' h1 h2))
theorem step_copy_at {P : Program} {ops : Array Oper} {o : Oper} {a : Act} {w : World} {K : Act → World → Prop} {Q : Exit → Act → World → Prop} {E : Prop} (hgd : o.guard = none) (d s : Operand) (dT sT : TypeId)
    (ho : o.op = .call { callee := .builtin .copy, args := #[d, s], argTypes := #[dT, sT] }) (elem : TypeId) (hu : P.underlying dT = some (.slice elem)) (hsz : (P.info? elem).map (·.size) = some 1)
    (dp : Option Addr) (dLen dCap : Nat) (v : Value) (hd : a.eval d = .slice dp dLen dCap) (hs : a.eval s = v) (g off m : Nat) (t : TypeId) (f0 f : Nat → Value) (sLen q : Nat) (hq : q = min sLen dLen) (hO : Ov w t g f0 m) (hv : Sv w v sLen f sLen) (h1 : ∀ i, (f i).oneCell' = true)
    (hpos : 0 < q → dp = some ⟨g, off, none⟩) (hfit : off + q ≤ m)
    (h : ∀ w', Ov w' t g (ovl f0 f off q) m → But g w w' → K (a.put o.dst (goInt q)) w') : if Region.wanted o (yielded ops a.tmps) = true then Oper.wp P o a w K Q else E := by
  have hw : Region.wanted o (yielded ops a.tmps) = true := by simp [Region.wanted, hgd]
  rw [if_pos hw]
  exact oper_copy_at d s dT sT ho elem hu hsz dp dLen dCap v hd hs g off m t f0 f sLen q hq hO hv h1 hpos hfit h
/-- A slice's end. -/
theorem cut_from {w : World} {p : Option Addr} {nb cb lo : Nat} {x : Nat → BitVec 8} (h : NrE w (.slice p nb cb) nb x) (hc : nb ≤ cb) (hl : lo ≤ nb) : ∃ p' c', (∀ w', (Instr.slice 23 (.slice p nb cb) (some (.int .i64 (lo : Int))) none none).run Try.prog w' = .ok (.slice p' (nb - lo) c') w') ∧ nb - lo ≤ c' ∧ NrE w (.slice p' (nb - lo) c') (nb - lo) (fun j => x (lo + j)) := by
  have hu : Try.prog.underlying 23 = some (.slice (Try.prog.elem 23)) := by kernel_rfl
  have hz : ∀ w', (sizeOf (Try.prog.elem 23)).run Try.prog w' = .ok 1 w' := fun w' => by
    obtain ⟨i0, hi, hz0, hz1, hz2⟩ := info_parts info5
    have e : Try.prog.elem 23 = 5 := by kernel_rfl
    rw [e]
    simp [sizeOf, typeInfo, hi, hz1]
  obtain ⟨p', c', e', hc', hs⟩ : ∃ p' c', sliced p lo nb cb 1 = .slice p' (nb - lo) c' ∧ nb - lo ≤ c' ∧ (0 < nb - lo → ∀ b o, p = some ⟨b, o, none⟩ → lo < cb → p' = some ⟨b, o + lo, none⟩) := by
    unfold sliced
    refine ⟨_, _, rfl, by omega, fun _ b o e hlc => ?_⟩
    subst e
    rw [if_neg (by omega), Nat.mul_one]
    exact congrArg some (add_pl b o lo)
  refine ⟨p', c', fun w' => ?_, hc', ?_⟩
  · rw [run_slice_l w' 23 p nb cb hu .i64 (lo : Int) (by omega) (by omega), hz]
    exact congrArg (fun v => Result.ok v w') e'
  · obtain ⟨p2, c2, e, h⟩ := nr_un h
    injection e with e1 e2 e3
    subst e1
    refine ⟨_, _, rfl, ?_⟩
    by_cases h0 : nb - lo = 0
    · exact .inl h0
    · obtain ⟨b, o, e, hcell⟩ := h (by omega)
      refine .inr ⟨b, o + lo, hs (by omega) b o e (by omega), fun i hi => ?_⟩
      have := hcell (lo + i) (by omega)
      rw [Nat.add_assoc]; exact this
/-- A part of a row that is written. -/
theorem cut_dst (g at0 l T : Nat) (h : at0 + l ≤ T) : ∃ p' c', (∀ w', (Instr.slice 23 (.slice (some ⟨g, 0, none⟩) T T) (some (.int .i64 (at0 : Int))) (some (.int .i64 ((at0 : Int) + (l : Int)))) none).run Try.prog w' = .ok (.slice p' l c') w') ∧ (0 < l → p' = some ⟨g, at0, none⟩) := by
  have hu : Try.prog.underlying 23 = some (.slice (Try.prog.elem 23)) := by kernel_rfl
  have hz : ∀ w', (sizeOf (Try.prog.elem 23)).run Try.prog w' = .ok 1 w' := fun w' => by
    obtain ⟨i0, hi, hz0, hz1, hz2⟩ := info_parts info5
    have e : Try.prog.elem 23 = 5 := by kernel_rfl
    rw [e]
    simp [sizeOf, typeInfo, hi, hz1]
  obtain ⟨p', c', e', hs⟩ : ∃ p' c', sliced (some ⟨g, 0, none⟩) at0 (at0 + l) T 1 = .slice p' l c' ∧ (0 < l → p' = some ⟨g, at0, none⟩) := by
    unfold sliced
    refine ⟨_, _, by rw [Nat.add_sub_cancel_left], fun _ => ?_⟩
    rw [if_neg (by omega), Nat.mul_one]
    exact congrArg some ((add_pl g 0 at0).trans (by rw [Nat.zero_add]))
  refine ⟨p', c', fun w' => ?_, hs⟩
  rw [run_slice_lh w' 23 _ T T hu .i64 .i64 (at0 : Int) ((at0 : Int) + (l : Int)) (by omega) (by omega) (by omega), hz]
  exact congrArg (fun v => Result.ok v w') e'
/-- The data's rows: the bytes g of an object, laid down in stripes of k blocks of these lengths. -/
def dm (k : Nat) : List Nat → (Nat → BitVec 8) → Nat → Nat → BitVec 8
  | [], _, _, _ => 0#8
  | l :: ls, g, i, c => if c < l then g (i * l + c) else dm k ls (fun p => g (k * l + p)) i (c - l)
theorem dm_at (k : Nat) : ∀ (L : List Nat) (g : Nat → BitVec 8) (t i c : Nat), t < L.length → c < L.getD t 0 → dm k L g i ((L.take t).sum + c) = g (k * (L.take t).sum + i * L.getD t 0 + c)
  | [], _, t, _, _, h, _ => by simp at h
  | l :: ls, g, 0, i, c, _, hc => by
    have hc' : c < l := hc
    simp only [List.take_zero, List.sum_nil, Nat.zero_add, Nat.mul_zero]
    show (if c < l then _ else _) = _
    rw [if_pos hc']
    rfl
  | l :: ls, g, t + 1, i, c, ht, hc => by
    have ih := dm_at k ls (fun p => g (k * l + p)) t i c (by simpa using ht) (by simpa using hc)
    rw [List.take_succ_cons, List.sum_cons]
    show (if l + (ls.take t).sum + c < l then _ else _) = _
    rw [if_neg (by omega), show l + (ls.take t).sum + c - l = (ls.take t).sum + c by omega, ih, Nat.mul_add]
    show g _ = g _
    congr 1
    show _ = k * l + k * (ls.take t).sum + i * (ls.getD t 0) + c
    omega
/-- The bytes, and zeros behind them. -/
def pad (n : Nat) (d : Nat → BitVec 8) (p : Nat) : BitVec 8 := if p < n then d p else 0#8
theorem sum_take_succ (L : List Nat) (t : Nat) (h : t < L.length) : (L.take (t + 1)).sum = (L.take t).sum + L.getD t 0 := by
  rw [List.take_add_one, List.sum_append]
  simp [List.getD, h]
theorem sum_take_le (L : List Nat) (t : Nat) : (L.take t).sum ≤ L.sum := by
  have h := List.take_append_drop t L
  have := congrArg List.sum h
  rw [List.sum_append] at this
  omega
theorem sum_take_lt (L : List Nat) (t : Nat) (h : t < L.length) : (L.take t).sum + L.getD t 0 ≤ L.sum := by
  rw [← sum_take_succ L t h]; exact sum_take_le L (t + 1)
end Go.Proofs.Ytgokkppojhokbaa
