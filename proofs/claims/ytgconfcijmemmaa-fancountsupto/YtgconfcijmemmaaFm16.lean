/-
  A map that counts, by its entries: 'm[k]++' where the entry is asked for first and stored behind.
-/
import Derived.Test.YtgconfcijmemmaaFc16
import Derived.Deep.Draws
namespace Go.Proofs.Ytgconfcijmemmaa
open Go.RowKit
/-- A world whose block b is o. -/
def setB (w : World) (b : Nat) (o : Obj) : World := { w with heap := w.heap.setIfInBounds b o }
theorem setB_at {w : World} {b : Nat} {o0 : Obj} (h : w.heap[b]? = some o0) (o : Obj) : (setB w b o).heap[b]? = some o := set_same h o
theorem setB_grown (w : World) (b : Nat) (o : Obj) : w.grownBy (setB w b o) (some b) := set_grown w b o
theorem setB_drewN (w : World) (b n : Nat) (o : Obj) : setB (w.drewN n) b o = (setB w b o).drewN n := rfl
/-- The entries are told apart by their stamps. -/
structure Stp {α : Type} (es : List (α × Nat × Nat)) (clock N : Nat) : Prop where
  lt : ∀ e ∈ es, e.2.2 < clock
  nd : (es.map (·.2.2)).Nodup
  le : clock ≤ N
/-- A map that has counted L. -/
def MpO {α : Type} (kv : α → Value) (q : α → α → Bool) (L : List α) (N : Nat) (o : Obj) : Prop :=
  ∃ (es : List (α × Nat × Nat)) (clock : Nat), o = .map (es.map (ent kv)).toArray clock ∧ (∀ y, lkc q y es = L.countP (q y)) ∧ Stp es clock N
/-- .. with an entry for x under way. -/
def MpE {α : Type} (kv : α → Value) (q : α → α → Bool) (L : List α) (N : Nat) (x : α) (st : Nat) (o : Obj) : Prop :=
  ∃ (pre : List (α × Nat × Nat)) (e : α × Nat × Nat) (post : List (α × Nat × Nat)) (clock : Nat), o = .map ((pre ++ e :: post).map (ent kv)).toArray clock ∧ (∀ y, lkc q y (pre ++ e :: post) = L.countP (q y)) ∧ Stp (pre ++ e :: post) clock N ∧ (∀ p ∈ pre, q x p.1 = false) ∧ q x e.1 = true ∧ e.2.2 = st
theorem MpO.new {α : Type} (kv : α → Value) (q : α → α → Bool) (N : Nat) : MpO kv q [] N (.map #[] 0) := ⟨[], 0, rfl, fun _ => rfl, ⟨(fun _ h => (by cases h)), List.nodup_nil, Nat.zero_le _⟩⟩
theorem MpO.cm {α : Type} {kv : α → Value} {q : α → α → Bool} {L : List α} {N : Nat} {o : Obj} (h : MpO kv q L N o) {w : World} {b : Nat} (hb : w.heap[b]? = some o) : CmAt kv q w b L := by
  obtain ⟨es, c, rfl, h2, _⟩ := h
  exact ⟨es, c, hb, h2⟩
theorem MpE.cm {α : Type} {kv : α → Value} {q : α → α → Bool} {L : List α} {N st : Nat} {x : α} {o : Obj} (h : MpE kv q L N x st o) {w : World} {b : Nat} (hb : w.heap[b]? = some o) : CmAt kv q w b L := by
  obtain ⟨pre, e, post, c, rfl, h2, _⟩ := h
  exact ⟨_, c, hb, h2⟩
theorem lkc_keep {α : Type} {q : α → α → Bool} (P : Per q) {x k : α} {pre post : List (α × Nat × Nat)} {e : α × Nat × Nat} {n c : Nat} (hp : ∀ p ∈ pre, q x p.1 = false) (he : q x e.1 = true) (hk : k = x) (hxx : q x x = true) (hn : n = e.2.1) (y : α) :
    lkc q y (pre ++ (k, n, c) :: post) = lkc q y (pre ++ e :: post) := by
  subst hk
  by_cases hy : q y k = true
  · have hy2 : ∀ p ∈ pre, q y p.1 = false := fun p hp' => by rw [P.same hy]; exact hp p hp'
    have hy3 : q y e.1 = true := by rw [P.same hy]; exact he
    rw [lkc_at hy2 hy3, lkc_at (e := (k, n, c)) hy2 hy, hn]
  · have hy3 : q y e.1 = false := by
      cases h : q y e.1 with
      | false => rfl
      | true => exact absurd (P.trans _ _ _ h (P.symm _ _ he)) hy
    exact lkc_skip (e := (k, n, c)) (e' := e) (by simpa using hy) hy3
theorem MpO.entry {α : Type} {kv : α → Value} {q : α → α → Bool} {kt t : TypeId} (K : KindOf kt kv q) (ht : Try.prog.underlying t = some (.map kt 3)) {L : List α} {N : Nat} {o : Obj} (h : MpO kv q L N o) (x : α) (hxx : q x x = true)
    (hst : ∀ y, q x y = true → ∀ w, (Instr.keyThatStays (kv y) (kv x)).run Try.prog w = .ok (kv x) w) (b : Nat) :
    ∃ (v0 : Value) (st : Nat) (o' : Obj), (∀ w : World, w.heap[b]? = some o → (Instr.mapEntry t (.map (some b)) (kv x)).run Try.prog w = .ok (.tuple #[v0, .int .i64 (st : Int)]) (setB w b o')) ∧ MpE kv q L (N + 1) x st o' := by
  obtain ⟨es, c, rfl, h2, h3⟩ := h
  have hx := h2 x
  have dec : (∀ e ∈ es, q x e.1 = false) ∨ ∃ pre e post, es = pre ++ e :: post ∧ (∀ p ∈ pre, q x p.1 = false) ∧ q x e.1 = true := by
    rcases K.find x es default with ⟨hn, _⟩ | ⟨pre, e, post, he, hp, hq, _⟩
    · exact .inl hn
    · exact .inr ⟨pre, e, post, he, hp, hq⟩
  rcases dec with hn | ⟨pre, e, post, rfl, hp, he⟩
  · refine ⟨.int .i64 0, c, .map ((es ++ [(x, 0, c)]).map (ent kv)).toArray (c + 1), fun w hb => ?_, ⟨es, (x, 0, c), [], c + 1, rfl, fun y => ?_, ⟨fun e he => ?_, ?_, by have := h3.le; omega⟩, hn, hxx, rfl⟩⟩
    · have hz : (zeroValue 3).run Try.prog w = .ok (.int .i64 0) w := by kernel_rfl
      have hr : (Instr.findKey kt (kv x) (es.map (ent kv))).run Try.prog w = .ok none w := by
        rcases K.find x es w with ⟨_, hr⟩ | ⟨pre, e, post, rfl, hp, he, hr⟩
        · exact hr
        · rw [hn e (by simp)] at he; cases he
      simp [Instr.mapEntry, run_underlying ht, MapKept.run_getObj_map hb, K.chk, hr, hz, MapKept.run_setObj_map _ hb, Result.andThen, ent, setB, goInt]
    · rw [lkc_none hn] at hx
      by_cases hy : q y x = true
      · have hy2 : ∀ e ∈ es, q y e.1 = false := fun e he => by rw [K.per.same hy]; exact hn e he
        rw [lkc_at (e := (x, 0, c)) hy2 hy, K.per.countP hy, ← hx]
      · rw [← h2 y]
        unfold lkc
        rw [List.find?_append]
        simp [hy]
    · rcases List.mem_append.1 he with he | he
      · have := h3.lt e he; omega
      · rw [List.mem_singleton.1 he]; exact Nat.lt_succ_self _
    · rw [List.map_append, List.nodup_append]
      refine ⟨h3.nd, by simp, fun a ha b hb => ?_⟩
      obtain ⟨e, he, rfl⟩ := List.mem_map.1 ha
      have := h3.lt e he
      simp at hb
      omega
  · refine ⟨.int .i64 (e.2.1 : Int), e.2.2, .map ((pre ++ (x, e.2.1, e.2.2) :: post).map (ent kv)).toArray c, fun w hb => ?_, ⟨pre, (x, e.2.1, e.2.2), post, c, rfl, fun y => ?_, ⟨fun e' he' => ?_, ?_, by have := h3.le; omega⟩, hp, hxx, rfl⟩⟩
    · have hr : (Instr.findKey kt (kv x) ((pre ++ e :: post).map (ent kv))).run Try.prog w = .ok (some (pre.length, .int .i64 (e.2.1 : Int))) w := by
        rcases K.find x (pre ++ e :: post) w with ⟨hn, _⟩ | ⟨pre', e', post', heq, hp', he', hr⟩
        · rw [hn e (by simp)] at he; cases he
        · have : pre = pre' ∧ e = e' := by
            have key : ∀ (a c : List (α × Nat × Nat)) (u v : α × Nat × Nat) (b d : List (α × Nat × Nat)), a ++ u :: b = c ++ v :: d → (∀ p ∈ a, q x p.1 = false) → (∀ p ∈ c, q x p.1 = false) → q x u.1 = true → q x v.1 = true → a = c ∧ u = v := by
              intro a
              induction a with
              | nil =>
                intro c u v b d h1 _ h3 h4 _
                cases c with
                | nil => simp at h1; exact ⟨rfl, h1.1⟩
                | cons z c => simp at h1; rw [h1.1] at h4; rw [h3 z (by simp)] at h4; cases h4
              | cons z a ih =>
                intro c u v b d h1 h2 h3 h4 h5
                cases c with
                | nil => simp at h1; rw [← h1.1] at h5; rw [h2 z (by simp)] at h5; cases h5
                | cons z' c =>
                  simp at h1
                  obtain ⟨e1, e2⟩ := ih c u v b d h1.2 (fun p hp => h2 p (by simp [hp])) (fun p hp => h3 p (by simp [hp])) h4 h5
                  exact ⟨by rw [h1.1, e1], e2⟩
            exact key pre pre' e e' post post' heq hp hp' he he'
          obtain ⟨rfl, rfl⟩ := this
          exact hr
      have hat : ((((pre.map (ent kv) ++ ent kv e :: post.map (ent kv)).toArray)[pre.length]?).map (·.key)).getD (kv x) = kv e.1 := by simp [ent]
      have hm := modify_at (pre.map (ent kv)) (ent kv e) (post.map (ent kv)) (fun e => { e with key := kv x })
      rw [List.length_map] at hm
      simp only [List.map_append, List.map_cons] at hr hb
      unfold Instr.mapEntry
      simp only [Sem.run_bind, run_underlying ht, MapKept.run_getObj_map hb, K.chk, hr, Result.andThen_ok, hat, hst e.1 he, MapKept.run_setObj_map _ hb, hm]
      simp [ent, setB, goInt]
    · rw [lkc_keep K.per hp he rfl hxx rfl, h2 y]
    · rcases List.mem_append.1 he' with h | h
      · exact h3.lt e' (by simp [h])
      · rcases List.mem_cons.1 h with h | h
        · rw [h]; exact h3.lt e (by simp)
        · exact h3.lt e' (by simp [h])
    · have := h3.nd
      simpa using this
theorem MpE.store {α : Type} {kv : α → Value} {q : α → α → Bool} (P : Per q) (t : TypeId) {L : List α} {N st : Nat} {x : α} {o : Obj} (h : MpE kv q L N x st o) (b : Nat) :
    ∃ o' : Obj, (∀ w : World, w.heap[b]? = some o → (Instr.entryStore t (.map (some b)) (.int .i64 (st : Int)) (.int .i64 ((L.countP (q x) + 1 : Nat) : Int))).run Try.prog w = .ok () (setB w b o')) ∧ MpO kv q (x :: L) N o' := by
  obtain ⟨pre, e, post, c, rfl, h2, h3, hp, he, rfl⟩ := h
  have hxe : L.countP (q x) = e.2.1 := by rw [← h2 x, lkc_at hp he]
  refine ⟨.map ((pre ++ (e.1, L.countP (q x) + 1, e.2.2) :: post).map (ent kv)).toArray c, fun w hb => ?_, ⟨_, c, rfl, fun y => ?_, ⟨fun e' he' => ?_, ?_, h3.le⟩⟩⟩
  · have hf : ((pre ++ e :: post).map (ent kv)).toArray.findIdx? (fun e' => (e'.born : Int) == (e.2.2 : Int)) = some pre.length := by
      rw [List.findIdx?_toArray]
      have hnd := h3.nd
      rw [List.map_append, List.nodup_append] at hnd
      have hne : ∀ p ∈ pre, p.2.2 ≠ e.2.2 := fun p hp' => hnd.2.2 _ (List.mem_map.2 ⟨p, hp', rfl⟩) _ (by simp)
      clear hnd
      revert hne
      clear hb h3 h2 hp hxe
      induction pre with
      | nil => intro _; simp [ent, List.findIdx?_cons]
      | cons z pre ih =>
        intro hne
        have h1 : ¬ ((z.2.2 : Int) == (e.2.2 : Int)) = true := by
          have := hne z (by simp)
          simp; omega
        have h2 := ih (fun p hp => hne p (by simp [hp]))
        rw [List.cons_append, List.map_cons, List.findIdx?_cons, h2]
        simp only [ent]
        simp [h1]
    have hm := modify_at (pre.map (ent kv)) (ent kv e) (post.map (ent kv)) (fun e => { e with val := .int .i64 ((L.countP (q x) + 1 : Nat) : Int) })
    rw [List.length_map] at hm
    have hmm : ((pre ++ e :: post).map (ent kv)).toArray.modify pre.length (fun e => { e with val := .int .i64 ((L.countP (q x) + 1 : Nat) : Int) }) = ((pre ++ (e.1, L.countP (q x) + 1, e.2.2) :: post).map (ent kv)).toArray := by
      rw [List.map_append, List.map_cons, hm, List.map_append, List.map_cons]; rfl
    unfold Instr.entryStore
    simp only [Sem.run_bind, MapKept.run_getObj_map hb, Result.andThen_ok, asInt, asIntOf, Sem.run_pure, hf, MapKept.run_setObj_map _ hb, hmm]
    rfl
  · rw [lkc_more P hp he (.inl rfl) (by rw [hxe]), h2 y, List.countP_cons]
  · rcases List.mem_append.1 he' with h | h
    · exact h3.lt e' (by simp [h])
    · rcases List.mem_cons.1 h with h | h
      · rw [h]; exact h3.lt e (by simp)
      · exact h3.lt e' (by simp [h])
  · have := h3.nd
    simpa using this
end Go.Proofs.Ytgconfcijmemmaa
