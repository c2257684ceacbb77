/-
  Rows of the law's own, of elements of any number of cells (out of Ok16); the document's caches: lists of entries.
-/
import Derived.Test.YtjefciioaebbeaaNw28
import Derived.Test.YtjefciioaebbeaaTx28
import Derived.Laws.Rows
import Derived.Deep.Cut
namespace Go.Proofs.Ytjefciioaebbeaa
open Go.RowKit
theorem run_append_nix {P : Program} {w : World} (t ty e : TypeId) (i : TypeInfo) (ht : P.underlying t = some (.slice e)) (hi : P.info? e = some i) (p : Option Addr) (n cap c : Nat) (h : n ≤ cap) :
    (Builtin.append_ #[t, t] ty #[.slice p n cap, .slice none 0 c]).run P w = .ok (.slice p n cap) w := by
  cases p <;> simp [Builtin.append_, run_underlying ht, sizeOf, typeInfo, hi, Builtin.lenOf, Builtin.firstCells, h, storeCells]
theorem own_form {w : World} {base : Nat} {te : TypeId} {sz : Nat} {v : Value} {n : Nat} {xs : List Value} (h : w.ownsRow base te sz v n xs) : ∃ p cap, v = .slice p n cap ∧ n ≤ cap := by
  rcases h.2 with ⟨hv, h1⟩ | ⟨g, cap, cur, hv, _, _, hn, _⟩
  · exact ⟨none, 0, by rw [hv, h1], by omega⟩
  · exact ⟨_, cap, hv, hn⟩
theorem own_some {w : World} {base : Nat} {te : TypeId} {sz : Nat} {v : Value} {n : Nat} {xs : List Value} (h : w.ownsRow base te sz v n xs) (h0 : 0 < n) : ∃ g cap, v = .slice (some ⟨g, 0, none⟩) n cap ∧ n ≤ cap ∧ base ≤ g := by
  rcases h.2 with ⟨hv, h1⟩ | ⟨g, cap, cur, hv, hb, _, hn, _⟩
  · omega
  · exact ⟨g, cap, hv, hn, hb⟩
theorem own_below {w w' : World} {base n k : Nat} {t : TypeId} {v : Value} {xs : List Value} (h : w.ownsRow base t k v n xs) (hb : Below w.heap.size w w') : w'.ownsRow base t k v n xs := by
  refine ⟨h.1, ?_⟩
  rcases h.2 with h1 | ⟨g, cap, c, hv, hg, hh, hc⟩
  · exact .inl h1
  · refine .inr ⟨g, cap, c, hv, hg, ?_, hc⟩
    rw [hb.block g (Array.getElem?_eq_some_iff.1 hh).1]; exact hh
theorem own_type {t t' : TypeId} {k k' : Nat} {w w' : World} {B B' n n' : Nat} {u v : Value} {xs ys : List Value} (h : w.ownsRow B t k u n xs) (hv : w.ownsRow B' t' k' v n' ys) (hne : t ≠ t') (hg : w.grownBy w' v.ownBlock) : w'.ownsRow B t k u n xs := by
  refine World.ownsRow.kept h hg ?_
  cases hb : u.ownBlock with
  | none => exact .inl rfl
  | some g =>
    refine .inr (fun e => ?_)
    rcases h.2 with ⟨h1, _⟩ | ⟨g1, c1, cur1, h1, _, hh1, _⟩
    · rw [h1] at hb; cases hb
    · rcases hv.2 with ⟨h2, _⟩ | ⟨g2, c2, cur2, h2, _, hh2, _⟩
      · rw [h2] at e; cases e
      · rw [h1] at hb
        rw [h2] at e
        simp [Value.ownBlock] at hb e
        subst hb
        subst e
        rw [hh1] at hh2
        injection hh2 with hh2
        injection hh2 with _ hh2 _
        exact hne hh2
theorem own_grown {t : TypeId} {k : Nat} {w w' : World} {base n : Nat} {v : Value} {xs : List Value} {B : Nat} {a : World} (ho : w.ownsRow base t k v n xs) (hb : Below B a w) (hB : B ≤ w.heap.size) (hg : w.grownBy w' v.ownBlock) (hbase : B ≤ base) : Below B a w' :=
  hb.grown hg hB (fun k hk => Nat.le_trans hbase (ho.lt k hk).1)
theorem own_mono {t : TypeId} {k : Nat} {w : World} {base base' n : Nat} {v : Value} {xs : List Value} (h : w.ownsRow base t k v n xs) (hb : base' ≤ base) : w.ownsRow base' t k v n xs := by
  refine ⟨h.1, ?_⟩
  rcases h.2 with h1 | ⟨g, cap, c, hv, hg, hh, hc⟩
  · exact .inl h1
  · exact .inr ⟨g, cap, c, hv, Nat.le_trans hb hg, hh, hc⟩
/-- A slice whose cells read so. -/
def Rw (w : World) (p : Option Addr) (m : Nat) (ys : List Value) : Prop := (ys = [] ∧ m = 0) ∨ ∃ b o, p = some ⟨b, o, none⟩ ∧ ∀ j, j < ys.length → w.cell? ⟨b, o + j, none⟩ = ys[j]?
/-- append(v, x..) where v is a row of its own, x any row. -/
theorem wpList_apR {w : World} {ops : Array Oper} {rest : List Oper} {o : Oper} {a : Act} {Q : Exit → Act → World → Prop} (hgd : o.guard = none) (s x : Operand) (t te : TypeId) (ho : o.op = .call { callee := .builtin .append, args := #[s, x], argTypes := #[t, t] })
    (ht : Try.prog.underlying t = some (.slice te)) {z : Value} {k by' : Nat} (hi : (Try.prog.info? te).map (fun i => (i.zero, i.size, i.bytes)) = some (some z, k, by')) (hz : z.cells.size = k) (hk : 0 < k)
    (base : Nat) (v : Value) (n : Nat) (xs : List Value) (hs : a.eval s = v) (hown : w.ownsRow base te k v n xs) (p : Option Addr) (m c : Nat) (ys : List Value) (hx : a.eval x = .slice p m c) (hr : Rw w p m ys) (hm : ys.length = m * k) (h1 : ∀ u ∈ ys, u.oneCell' = true)
    (hl : n + m ≤ maxLen) (hby : (n + m) * by' ≤ 140737488355328) (hbase : base ≤ w.heap.size)
    (h : ∀ v' w', w'.ownsRow base te k v' (n + m) (xs ++ ys) → w.grownBy w' v.ownBlock → wpList Try.prog ops Q rest (a.put o.dst v') w') : wpList Try.prog ops Q (o :: rest) a w := by
  obtain ⟨i0, hi0, hz0, hz1, hz2⟩ := info_parts hi
  cases p with
  | some ad =>
    rcases hr with ⟨hr, hr2⟩ | ⟨b, of, e, hr⟩
    · subst hr
      subst hr2
      refine wpList_append_own _ hgd s x t ho base te i0 z k by' ht hi0 hz0 hz1 hz2 hz hk v n xs hs hown ad 0 c [] hx (by rw [hm]) (fun j u hj => by simp at hj) h1 hl hby hbase ?_
      intro v' w' h2 h3 _
      exact h v' w' h2 h3
    · injection e with e
      subst e
      refine wpList_append_own _ hgd s x t ho base te i0 z k by' ht hi0 hz0 hz1 hz2 hz hk v n xs hs hown ⟨b, of, none⟩ m c ys hx hm (fun j u hj => ?_) h1 hl hby hbase ?_
      · have hl : j < ys.length := (List.getElem?_eq_some_iff.1 hj).1
        rw [add_pl, hr j hl, ← hj]
      · intro v' w' h2 h3 _
        exact h v' w' h2 h3
  | none =>
    obtain ⟨rfl, rfl⟩ : ys = [] ∧ m = 0 := by
      rcases hr with e | ⟨b, off, e, _⟩
      · exact e
      · cases e
    obtain ⟨q, cap, rfl, hcap⟩ := own_form hown
    refine wpList_plain hgd fun K hK => ?_
    have hrun := run_append_nix (P := Try.prog) (w := w) t o.type te i0 ht hi0 q n cap c hcap
    unfold Oper.wp
    simp [execOp, ho, resolve, invoke, builtin, hs, hx, hrun, Result.andThen]
    exact hK _ _ (h _ w (by rw [List.append_nil]; exact hown) ⟨rfl, rfl, rfl, Nat.le_refl _, fun _ _ _ => rfl⟩)
/-- An entry's cells. -/
def enC (e : SS.Ent) : List Value := [encStr e.key, encStr e.val, .int .i64 e.wt]
def flE (S : List SS.Ent) : List Value := S.flatMap enC
theorem flE_len (S : List SS.Ent) : (flE S).length = S.length * 3 := by
  induction S with
  | nil => rfl
  | cons e S ih => show (enC e ++ flE S).length = _; rw [List.length_append, ih, List.length_cons]; simp [enC]; omega
theorem flE_app (S T : List SS.Ent) : flE (S ++ T) = flE S ++ flE T := by simp [flE]
theorem flE_one (e : SS.Ent) : flE [e] = enC e := by simp [flE]
theorem flE_at {S : List SS.Ent} : ∀ {i : Nat} {e : SS.Ent}, S[i]? = some e → ∀ {j : Nat} {u : Value}, (enC e)[j]? = some u → (flE S)[i * 3 + j]? = some u := by
  induction S with
  | nil => intro i e h; simp at h
  | cons a S ih =>
    intro i e h j u hj
    have hj3 : j < 3 := by have := (List.getElem?_eq_some_iff.1 hj).1; simpa [enC] using this
    show (enC a ++ flE S)[i * 3 + j]? = some u
    cases i with
    | zero =>
      simp at h
      subst h
      rw [List.getElem?_append_left (by simp [enC]; omega), Nat.zero_mul, Nat.zero_add]
      exact hj
    | succ i =>
      rw [List.getElem?_append_right (by simp [enC]; omega), show (i + 1) * 3 + j - (enC a).length = i * 3 + j from by simp [enC]; omega]
      exact ih (by simpa using h) hj
theorem flE_prefix {S T : List SS.Ent} (h : S <+: T) : (flE T).take (S.length * 3) = flE S := by
  obtain ⟨U, rfl⟩ := h
  rw [flE_app, List.take_append_of_le_length (by rw [flE_len]; exact Nat.le_refl _), List.take_of_length_le (by rw [flE_len]; exact Nat.le_refl _)]
/-- A list of entries of the law's own. -/
def Le (w : World) (base : Nat) (v : Value) (S : List SS.Ent) : Prop := w.ownsRow base 75 3 v S.length (flE S)
/-- A list of entries, read. -/
def RdE (w : World) (p : Option Addr) (S : List SS.Ent) : Prop := S = [] ∨ ∃ b o, p = some ⟨b, o, none⟩ ∧ ∀ i e, S[i]? = some e → w.cell? ⟨b, o + i * 3, none⟩ = some (encStr e.key) ∧ w.cell? ⟨b, o + i * 3 + 1, none⟩ = some (encStr e.val) ∧ w.cell? ⟨b, o + i * 3 + 2, none⟩ = some (.int .i64 e.wt)
theorem Le.read {w : World} {base : Nat} {v : Value} {S : List SS.Ent} (h : Le w base v S) : ∃ p c, v = .slice p S.length c ∧ S.length ≤ c ∧ RdE w p S := by
  rcases h.2 with ⟨hv, h1⟩ | ⟨g, cap, cur, hv, hg, hb, h1, h2, h3, h4⟩
  · have : S = [] := List.length_eq_zero_iff.1 h1
    subst this
    exact ⟨none, 0, hv, Nat.le_refl _, .inl rfl⟩
  · refine ⟨_, cap, hv, h1, .inr ⟨g, 0, rfl, fun i e he => ?_⟩⟩
    have hi : i < S.length := (List.getElem?_eq_some_iff.1 he).1
    have rd : ∀ j u, (enC e)[j]? = some u → w.cell? ⟨g, i * 3 + j, none⟩ = some u := by
      intro j u hj
      have hj3 : j < 3 := by have := (List.getElem?_eq_some_iff.1 hj).1; simpa [enC] using this
      rw [cell_of_row w g _ _ _ _ hb]
      have h5 := flE_at he hj
      rw [← h4, List.getElem?_take_of_lt (by omega)] at h5
      simpa using h5
    rw [Nat.zero_add]
    exact ⟨rd 0 _ rfl, rd 1 _ rfl, rd 2 _ rfl⟩
theorem RdE.below {w w' : World} {p : Option Addr} {S : List SS.Ent} (h : RdE w p S) (hb : Below w.heap.size w w') : RdE w' p S := by
  rcases h with h | ⟨b, o, e, h⟩
  · exact .inl h
  · refine .inr ⟨b, o, e, fun i x hx => ?_⟩
    obtain ⟨h1, h2, h3⟩ := h i x hx
    exact ⟨by rw [hb.cell (p := ⟨b, o + i * 3, none⟩) (block_lt_of_cell h1)]; exact h1, by rw [hb.cell (p := ⟨b, o + i * 3 + 1, none⟩) (block_lt_of_cell h2)]; exact h2, by rw [hb.cell (p := ⟨b, o + i * 3 + 2, none⟩) (block_lt_of_cell h3)]; exact h3⟩
theorem RdE.rw {w : World} {p : Option Addr} {S : List SS.Ent} (h : RdE w p S) : Rw w p S.length (flE S) := by
  rcases h with h | ⟨b, o, e, h⟩
  · subst h; exact .inl ⟨rfl, rfl⟩
  · refine .inr ⟨b, o, e, fun j hj => ?_⟩
    rw [flE_len] at hj
    obtain ⟨x, hx⟩ : ∃ x, S[j / 3]? = some x := ⟨S[j / 3]'(by omega), List.getElem?_eq_getElem _⟩
    obtain ⟨h1, h2, h3⟩ := h _ _ hx
    have hj2 : j = j / 3 * 3 + j % 3 := by omega
    have hm : j % 3 < 3 := Nat.mod_lt _ (by decide)
    generalize hq : j / 3 = q at *
    generalize ht : j % 3 = t at *
    subst hj2
    have hk : ∀ u, (enC x)[t]? = some u → (flE S)[q * 3 + t]? = some u := fun u hu => flE_at hx hu
    rcases (show t = 0 ∨ t = 1 ∨ t = 2 by omega) with rfl | rfl | rfl
    · rw [hk _ rfl]; rw [← Nat.add_assoc]; exact h1
    · rw [hk _ rfl]; rw [← Nat.add_assoc]; exact h2
    · rw [hk _ rfl]; rw [← Nat.add_assoc]; exact h3
theorem flE_cell (S : List SS.Ent) : ∀ u ∈ flE S, u.oneCell' = true := by
  intro u hu
  obtain ⟨e, _, he⟩ := List.mem_flatMap.1 hu
  simp [enC] at he
  rcases he with rfl | rfl | rfl <;> rfl
theorem info_en : (Try.prog.info? 75).map (fun i => (i.zero, i.size, i.bytes)) = some (some (.agg #[.string ⟨#[]⟩, .string ⟨#[]⟩, .int .i64 0]), 3, 40) := by kernel_rfl
theorem three_new (w : World) (x y z : Value) (t : TypeId) : Rw (w.alloc (.cells #[x, y, z] t)) (some ⟨w.heap.size, 0, none⟩) 1 [x, y, z] := by
  refine .inr ⟨_, 0, rfl, fun j hj => ?_⟩
  rw [Nat.zero_add, cell_of_row _ _ _ _ _ (0, 0) (heap_alloc_new w _)]
  simp
end Go.Proofs.Ytjefciioaebbeaa
