/-
  A map that counts: keys compared by a test that is symmetric and transitive.
-/
import Derived.Test.YtgconfcijmemmaaFa16
import Derived.Maps.Own
namespace Go.Proofs.Ytgconfcijmemmaa
open Go.RowKit
/-- An entry. -/
def ent {α : Type} (kv : α → Value) (e : α × Nat × Nat) : MapEntry := { key := kv e.1, val := .int .i64 (e.2.1 : Int), born := e.2.2 }
/-- A kind of keys: their values, the test by which they are compared, as the model has them. -/
structure KindOf (kt : TypeId) {α : Type} (kv : α → Value) (q : α → α → Bool) : Prop where
  per : Per q
  chk : ∀ (b : Bool) (x : α) (w : World), (Instr.checkKey b 10000 kt (kv x)).run Try.prog w = .ok () w
  find : ∀ (x : α) (es : List (α × Nat × Nat)) (w : World), ((∀ e ∈ es, q x e.1 = false) ∧ (Instr.findKey kt (kv x) (es.map (ent kv))).run Try.prog w = .ok none w) ∨
    ∃ pre e post, es = pre ++ e :: post ∧ (∀ p ∈ pre, q x p.1 = false) ∧ q x e.1 = true ∧ (Instr.findKey kt (kv x) (es.map (ent kv))).run Try.prog w = .ok (some (pre.length, .int .i64 (e.2.1 : Int))) w
/-- What is told of a key. -/
def lkc {α : Type} (q : α → α → Bool) (x : α) (es : List (α × Nat × Nat)) : Nat := ((es.find? fun e => q x e.1).map fun e => e.2.1).getD 0
theorem find_none {α : Type} {q : α → α → Bool} {x : α} {es : List (α × Nat × Nat)} (h : ∀ e ∈ es, q x e.1 = false) : (es.find? fun e => q x e.1) = none := List.find?_eq_none.2 fun e he => by simp [h e he]
theorem lkc_none {α : Type} {q : α → α → Bool} {x : α} {es : List (α × Nat × Nat)} (h : ∀ e ∈ es, q x e.1 = false) : lkc q x es = 0 := by
  unfold lkc; rw [find_none h]; rfl
theorem lkc_at {α : Type} {q : α → α → Bool} {x : α} {pre post : List (α × Nat × Nat)} {e : α × Nat × Nat} (h : ∀ p ∈ pre, q x p.1 = false) (he : q x e.1 = true) : lkc q x (pre ++ e :: post) = e.2.1 := by
  unfold lkc
  rw [List.find?_append, find_none h]
  simp [he]
theorem lkc_skip {α : Type} {q : α → α → Bool} {x : α} {pre post : List (α × Nat × Nat)} {e e' : α × Nat × Nat} (h : q x e.1 = false) (h' : q x e'.1 = false) : lkc q x (pre ++ e :: post) = lkc q x (pre ++ e' :: post) := by
  unfold lkc
  rw [List.find?_append, List.find?_append, List.find?_cons_of_neg (by simp [h]), List.find?_cons_of_neg (by simp [h'])]
/-- A map that has counted L. -/
def CmAt {α : Type} (kv : α → Value) (q : α → α → Bool) (w : World) (b : Nat) (L : List α) : Prop :=
  ∃ (es : List (α × Nat × Nat)) (clock : Nat), w.heap[b]? = some (.map (es.map (ent kv)).toArray clock) ∧ ∀ y, lkc q y es = L.countP (q y)
theorem CmAt.new {α : Type} {kv : α → Value} {q : α → α → Bool} {w : World} {b : Nat} (h : w.heap[b]? = some (.map #[] 0)) : CmAt kv q w b [] := ⟨[], 0, h, fun _ => rfl⟩
theorem CmAt.at {α : Type} {kv : α → Value} {q : α → α → Bool} {w w' : World} {b : Nat} {L : List α} (h : CmAt kv q w b L) (e : w'.heap[b]? = w.heap[b]?) : CmAt kv q w' b L := by
  obtain ⟨es, c, h1, h2⟩ := h
  exact ⟨es, c, e.trans h1, h2⟩
theorem CmAt.lt {α : Type} {kv : α → Value} {q : α → α → Bool} {w : World} {b : Nat} {L : List α} (h : CmAt kv q w b L) : b < w.heap.size := by
  obtain ⟨es, c, h1, _⟩ := h
  exact (Array.getElem?_eq_some_iff.1 h1).1
/-- What is asked of such a map. -/
theorem CmAt.look {α : Type} {kv : α → Value} {q : α → α → Bool} {kt t : TypeId} (K : KindOf kt kv q) (ht : Try.prog.underlying t = some (.map kt 3)) {w : World} {b : Nat} {L : List α} (h : CmAt kv q w b L) (x : α) :
    (Instr.lookup t (.map (some b)) (kv x) false).run Try.prog w = .ok (.int .i64 (L.countP (q x) : Int)) w := by
  obtain ⟨es, c, h1, h2⟩ := h
  have hz : (zeroValue 3).run Try.prog w = .ok (.int .i64 0) w := by kernel_rfl
  rw [← h2 x]
  rcases K.find x es w with ⟨hn, hr⟩ | ⟨pre, e, post, rfl, hp, he, hr⟩
  · rw [lkc_none hn]
    simp [Instr.lookup, run_underlying ht, MapKept.run_getObj_map h1, K.chk, hr, hz, Result.andThen]
  · rw [lkc_at hp he]
    simp only [List.map_append, List.map_cons] at hr h1
    simp [Instr.lookup, run_underlying ht, MapKept.run_getObj_map h1, K.chk, hr, Result.andThen]
theorem stays_run (old new : Value) (w : World) : ∃ v w', (Instr.keyThatStays old new).run Try.prog w = .ok v w' ∧ (v = old ∨ v = new) ∧ (w' = w ∨ w' = w.drew) := by
  unfold Instr.keyThatStays
  by_cases hs : Instr.sameBits 10000 old new = true
  · exact ⟨new, w, by rw [if_pos hs]; rfl, .inr rfl, .inl rfl⟩
  · rw [if_neg hs]
    simp only [Sem.run_bind, run_choose_drew]
    split
    · simp only [Result.andThen_ok]
      exact ⟨new, w, rfl, .inr rfl, .inl rfl⟩
    · simp only [Result.andThen_ok]
      split
      · exact ⟨new, w.drew, rfl, .inr rfl, .inr rfl⟩
      · exact ⟨old, w.drew, rfl, .inl rfl, .inr rfl⟩
theorem set_same {w : World} {b : Nat} {o0 : Obj} (h : w.heap[b]? = some o0) (o : Obj) : ({ w with heap := w.heap.setIfInBounds b o } : World).heap[b]? = some o := by
  have := (Array.getElem?_eq_some_iff.1 h).1
  simp [this]
theorem set_grown (w : World) (b : Nat) (o : Obj) : w.grownBy { w with heap := w.heap.setIfInBounds b o } (some b) :=
  ⟨rfl, rfl, rfl, by simp, fun i _ hi => by
    have : b ≠ i := fun e => hi (by rw [e])
    simp [this]⟩
theorem lkc_more {α : Type} {q : α → α → Bool} (P : Per q) {x k : α} {pre post : List (α × Nat × Nat)} {e : α × Nat × Nat} {n : Nat} {c : Nat} (hp : ∀ p ∈ pre, q x p.1 = false) (he : q x e.1 = true) (hk : k = e.1 ∨ k = x) (hn : n = e.2.1 + 1) (y : α) :
    lkc q y (pre ++ (k, n, c) :: post) = lkc q y (pre ++ e :: post) + (if q y x = true then 1 else 0) := by
  by_cases hy : q y x = true
  · have hy2 : ∀ p ∈ pre, q y p.1 = false := fun p hp' => by rw [P.same hy]; exact hp p hp'
    have hy3 : q y e.1 = true := by rw [P.same hy]; exact he
    have hy4 : q y k = true := by rcases hk with rfl | rfl; exact hy3; exact hy
    rw [lkc_at hy2 hy3, lkc_at (e := (k, n, c)) hy2 hy4, if_pos hy, hn]
  · have hy3 : q y e.1 = false := by
      cases h : q y e.1 with
      | false => rfl
      | true => exact absurd (P.trans _ _ _ h (P.symm _ _ he)) hy
    have hy4 : q y k = false := by rcases hk with rfl | rfl; exact hy3; simpa using hy
    rw [lkc_skip (e := (k, n, c)) (e' := e) hy4 hy3, if_neg hy]
    rfl
theorem modify_at {α : Type} (pre : List α) (e : α) (post : List α) (f : α → α) : (pre ++ e :: post).toArray.modify pre.length f = (pre ++ f e :: post).toArray := by
  rw [← Array.toList_inj]
  simp only [Array.toList_modify]
  induction pre with
  | nil => rfl
  | cons a pre ih => simpa [List.modify_cons] using ih
/-- One more is counted. -/
theorem CmAt.more {α : Type} {kv : α → Value} {q : α → α → Bool} {kt t : TypeId} (K : KindOf kt kv q) (ht : Try.prog.underlying t = some (.map kt 3)) {w : World} {b : Nat} {L : List α} (h : CmAt kv q w b L) (x : α) :
    ∃ w', (Instr.mapUpdate t (.map (some b)) (kv x) (.int .i64 ((L.countP (q x) + 1 : Nat) : Int))).run Try.prog w = .ok () w' ∧ CmAt kv q w' b (x :: L) ∧ w.grownBy w' (some b) := by
  obtain ⟨es, c, h1, h2⟩ := h
  have hx := h2 x
  rcases K.find x es w with ⟨hn, hr⟩ | ⟨pre, e, post, rfl, hp, he, hr⟩
  · refine ⟨{ w with heap := w.heap.setIfInBounds b (.map ((es ++ [(x, L.countP (q x) + 1, c)]).map (ent kv)).toArray (c + 1)) }, ?_, ⟨_, _, set_same h1 _, fun y => ?_⟩, set_grown _ _ _⟩
    · simp [Instr.mapUpdate, run_underlying ht, MapKept.run_getObj_map h1, K.chk, hr, MapKept.run_setObj_map _ h1, Result.andThen, ent]
    · rw [lkc_none hn] at hx
      by_cases hy : q y x = true
      · have hy2 : ∀ e ∈ es, q y e.1 = false := fun e he => by rw [K.per.same hy]; exact hn e he
        rw [lkc_at hy2 hy, List.countP_cons_of_pos hy, K.per.countP hy]
      · rw [List.countP_cons_of_neg hy, ← h2 y]
        unfold lkc
        rw [List.find?_append]
        simp [hy]
  · have hxe : L.countP (q x) = e.2.1 := by rw [← hx, lkc_at hp he]
    obtain ⟨v, w1, hs, hv, hw⟩ := stays_run (kv e.1) (kv x) w
    obtain ⟨k', rfl, hk'⟩ : ∃ k', v = kv k' ∧ (k' = e.1 ∨ k' = x) := by
      rcases hv with rfl | rfl
      · exact ⟨e.1, rfl, .inl rfl⟩
      · exact ⟨x, rfl, .inr rfl⟩
    have h1' : w1.heap[b]? = some (.map ((pre ++ e :: post).map (ent kv)).toArray c) := by rcases hw with rfl | rfl <;> exact h1
    have hg : w.grownBy w1 (some b) := by rcases hw with rfl | rfl <;> exact ⟨rfl, rfl, rfl, Nat.le_refl _, fun _ _ _ => rfl⟩
    refine ⟨{ w1 with heap := w1.heap.setIfInBounds b (.map ((pre ++ (k', L.countP (q x) + 1, e.2.2) :: post).map (ent kv)).toArray c) }, ?_, ⟨_, _, set_same h1' _, fun y => ?_⟩, ?_⟩
    · have hat : (((pre ++ e :: post).map (ent kv)).toArray[pre.length]?).map (·.key) = some (kv e.1) := by simp [ent]
      have hm := modify_at (pre.map (ent kv)) (ent kv e) (post.map (ent kv)) (fun e => { e with key := kv k', val := .int .i64 ((L.countP (q x) + 1 : Nat) : Int) })
      rw [List.length_map] at hm
      simp only [List.map_append, List.map_cons] at hr h1 h1' hat
      have hat2 : ((((pre.map (ent kv) ++ ent kv e :: post.map (ent kv)).toArray)[pre.length]?).map (·.key)).getD (kv x) = kv e.1 := by rw [hat]; rfl
      unfold Instr.mapUpdate
      simp only [Sem.run_bind, run_underlying ht, MapKept.run_getObj_map h1, K.chk, hr, Result.andThen_ok, hat2, hs, MapKept.run_setObj_map _ h1', hm]
      simp [ent]
    · rw [lkc_more K.per hp he hk' (by rw [hxe]), h2 y, List.countP_cons]
    · have hg2 := set_grown w1 b (.map ((pre ++ (k', L.countP (q x) + 1, e.2.2) :: post).map (ent kv)).toArray c)
      exact ⟨hg2.os.trans hg.os, hg2.tape.trans hg.tape, hg2.output.trans hg.output, Nat.le_trans hg.size hg2.size, fun i hi hb => (hg2.block i (Nat.lt_of_lt_of_le hi hg.size) hb).trans (hg.block i hi hb)⟩
end Go.Proofs.Ytgconfcijmemmaa
