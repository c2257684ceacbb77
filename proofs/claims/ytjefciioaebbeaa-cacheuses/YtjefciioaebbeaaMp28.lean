/-
  A map from keys to nodes: keys compared by a test that is symmetric and transitive.
-/
import Derived.Test.YtjefciioaebbeaaPu28
import Derived.Maps.Own
import Derived.Deep.Draws
import Derived.WalkLawsBesides
namespace Go.Proofs.Ytjefciioaebbeaa
open Go.RowKit
/-- An entry of a map: a key, a node, its stamp. -/
def ent {α : Type} (kv : α → Value) (e : α × Nat × Nat) : MapEntry := { key := kv e.1, val := .pointer (some ⟨e.2.1, 0, none⟩), born := e.2.2 }
/-- A kind of keys: their values, the test by which they are compared, as the model has them. -/
structure KindOf (kt : TypeId) {α : Type} (kv : α → Value) (q : α → α → Bool) : Prop where
  per : Per q
  chk : ∀ (b : Bool) (x : α) (w : World), (Instr.checkKey b 10000 kt (kv x)).run Try.prog w = .ok () w
  find : ∀ (x : α) (es : List (α × Nat × Nat)) (w : World), ((∀ e ∈ es, q x e.1 = false) ∧ (Instr.findKey kt (kv x) (es.map (ent kv))).run Try.prog w = .ok none w) ∨
    ∃ pre e post, es = pre ++ e :: post ∧ (∀ p ∈ pre, q x p.1 = false) ∧ q x e.1 = true ∧ (Instr.findKey kt (kv x) (es.map (ent kv))).run Try.prog w = .ok (some (pre.length, .pointer (some ⟨e.2.1, 0, none⟩))) w
theorem find_asking {kt : TypeId} {α : Type} {kv : α → Value} {q : α → α → Bool} (hq : ∀ (a b : α) (w : World), (Op.equal kt (kv a) (kv b)).run Try.prog w = .ok (q a b) w) (x : α) (w : World) : ∀ (es : List (α × Nat × Nat)) (i : Nat),
    ((∀ e ∈ es, q x e.1 = false) ∧ (Instr.findAsking kt (kv x) (es.map (ent kv)) i).run Try.prog w = .ok none w) ∨
    ∃ pre e post, es = pre ++ e :: post ∧ (∀ p ∈ pre, q x p.1 = false) ∧ q x e.1 = true ∧ (Instr.findAsking kt (kv x) (es.map (ent kv)) i).run Try.prog w = .ok (some (i + pre.length, .pointer (some ⟨e.2.1, 0, none⟩))) w
  | [], i => .inl ⟨fun _ h => (by cases h), rfl⟩
  | e :: es, i => by
    have step : (Instr.findAsking kt (kv x) ((e :: es).map (ent kv)) i).run Try.prog w = if q x e.1 = true then .ok (some (i, .pointer (some ⟨e.2.1, 0, none⟩))) w else (Instr.findAsking kt (kv x) (es.map (ent kv)) (i + 1)).run Try.prog w := by
      rw [List.map_cons, Instr.findAsking, Sem.run_bind, show (ent kv e).key = kv e.1 from rfl, hq]
      simp only [Result.andThen_ok]
      split <;> rfl
    rw [step]
    by_cases h : q x e.1 = true
    · exact .inr ⟨[], e, es, rfl, fun _ h => (by cases h), h, by rw [if_pos h]; rfl⟩
    · rw [if_neg h]
      rcases find_asking hq x w es (i + 1) with ⟨h1, h2⟩ | ⟨pre, e', post, rfl, h1, h2, h3⟩
      · refine .inl ⟨fun p hp => ?_, h2⟩
        rcases List.mem_cons.1 hp with rfl | hp
        · simpa using h
        · exact h1 p hp
      · refine .inr ⟨e :: pre, e', post, rfl, fun p hp => ?_, h2, ?_⟩
        · rcases List.mem_cons.1 hp with rfl | hp
          · simpa using h
          · exact h1 p hp
        · rw [h3, show i + 1 + pre.length = i + (e :: pre).length from by simp; omega]
theorem find_now {d : TypeDesc} {α : Type} {kv : α → Value} {q : α → α → Bool} (hq : ∀ (a b : α), Instr.sameNow d (kv a) (kv b) = some (q a b)) (x : α) : ∀ (es : List (α × Nat × Nat)) (i : Nat),
    ((∀ e ∈ es, q x e.1 = false) ∧ Instr.findNow d (kv x) (es.map (ent kv)) i = some none) ∨
    ∃ pre e post, es = pre ++ e :: post ∧ (∀ p ∈ pre, q x p.1 = false) ∧ q x e.1 = true ∧ Instr.findNow d (kv x) (es.map (ent kv)) i = some (some (i + pre.length, .pointer (some ⟨e.2.1, 0, none⟩)))
  | [], i => .inl ⟨fun _ h => (by cases h), rfl⟩
  | e :: es, i => by
    have step : Instr.findNow d (kv x) ((e :: es).map (ent kv)) i = if q x e.1 = true then some (some (i, .pointer (some ⟨e.2.1, 0, none⟩))) else Instr.findNow d (kv x) (es.map (ent kv)) (i + 1) := by
      rw [List.map_cons, Instr.findNow, show (ent kv e).key = kv e.1 from rfl, hq]
      cases q x e.1 <;> rfl
    rw [step]
    by_cases h : q x e.1 = true
    · exact .inr ⟨[], e, es, rfl, fun _ h => (by cases h), h, by rw [if_pos h]; rfl⟩
    · rw [if_neg h]
      rcases find_now hq x es (i + 1) with ⟨h1, h2⟩ | ⟨pre, e', post, rfl, h1, h2, h3⟩
      · refine .inl ⟨fun p hp => ?_, h2⟩
        rcases List.mem_cons.1 hp with rfl | hp
        · simpa using h
        · exact h1 p hp
      · refine .inr ⟨e :: pre, e', post, rfl, fun p hp => ?_, h2, ?_⟩
        · rcases List.mem_cons.1 hp with rfl | hp
          · simpa using h
          · exact h1 p hp
        · rw [h3, show i + 1 + pre.length = i + (e :: pre).length from by simp; omega]
/-- A kind whose keys are asked. -/
theorem KindOf.asks {kt : TypeId} {d : TypeDesc} {α : Type} {kv : α → Value} {q : α → α → Bool} (hd : Try.prog.underlying kt = some d) (P : Per q) (hc : ∀ (b : Bool) (x : α) (w : World), (Instr.checkKey b 10000 kt (kv x)).run Try.prog w = .ok () w)
    (hn : ∀ a b, Instr.sameNow d (kv a) (kv b) = none) (hq : ∀ (a b : α) (w : World), (Op.equal kt (kv a) (kv b)).run Try.prog w = .ok (q a b) w) : KindOf kt kv q := ⟨P, hc, fun x es w => by
  have e1 : (Instr.findKey kt (kv x) (es.map (ent kv))).run Try.prog w = (Instr.findAsking kt (kv x) (es.map (ent kv))).run Try.prog w := by
    unfold Instr.findKey
    rw [Sem.run_bind, run_underlying hd]
    simp only [Result.andThen_ok]
    cases es with
    | nil => rfl
    | cons e es =>
      rw [List.map_cons, Instr.findNow, show (ent kv e).key = kv e.1 from rfl, hn]
  rw [e1]
  rcases find_asking hq x w es 0 with h | ⟨pre, e, post, h1, h2, h3, h4⟩
  · exact .inl h
  · exact .inr ⟨pre, e, post, h1, h2, h3, by rw [h4, Nat.zero_add]⟩⟩
/-- A kind whose keys are seen at once. -/
theorem KindOf.sees {kt : TypeId} {d : TypeDesc} {α : Type} {kv : α → Value} {q : α → α → Bool} (hd : Try.prog.underlying kt = some d) (P : Per q) (hc : ∀ (b : Bool) (x : α) (w : World), (Instr.checkKey b 10000 kt (kv x)).run Try.prog w = .ok () w)
    (hq : ∀ a b, Instr.sameNow d (kv a) (kv b) = some (q a b)) : KindOf kt kv q := ⟨P, hc, fun x es w => by
  have e1 : ∀ r, Instr.findNow d (kv x) (es.map (ent kv)) 0 = some r → (Instr.findKey kt (kv x) (es.map (ent kv))).run Try.prog w = .ok r w := by
    intro r hr
    unfold Instr.findKey
    rw [Sem.run_bind, run_underlying hd]
    simp only [Result.andThen_ok, hr]
    rfl
  rcases find_now hq x es 0 with ⟨h, h2⟩ | ⟨pre, e, post, h1, h2, h3, h4⟩
  · exact .inl ⟨h, e1 _ h2⟩
  · exact .inr ⟨pre, e, post, h1, h2, h3, by rw [e1 _ h4, Nat.zero_add]⟩⟩
/-- A world whose block b is o. -/
def setB (w : World) (b : Nat) (o : Obj) : World := { w with heap := w.heap.setIfInBounds b o }
theorem setB_at {w : World} {b : Nat} {o0 : Obj} (h : w.heap[b]? = some o0) (o : Obj) : (setB w b o).heap[b]? = some o := by
  have := (Array.getElem?_eq_some_iff.1 h).1
  simp [setB, this]
theorem setB_other (w : World) {b k : Nat} (o : Obj) (h : k ≠ b) : (setB w b o).heap[k]? = w.heap[k]? := by
  simp [setB, Ne.symm h]
theorem setB_size (w : World) (b : Nat) (o : Obj) : (setB w b o).heap.size = w.heap.size := by simp [setB]
theorem setB_drewN (w : World) (b n : Nat) (o : Obj) : setB (w.drewN n) b o = (setB w b o).drewN n := rfl
/-- A map that holds these. -/
def MpO {α : Type} (kv : α → Value) (o : Obj) (M : List (α × Nat)) : Prop :=
  ∃ (es : List (α × Nat × Nat)) (clock : Nat), o = .map (es.map (ent kv)).toArray clock ∧ (es.map fun e => (e.1, e.2.1)).Perm M
theorem MpO.new {α : Type} (kv : α → Value) : MpO kv (.map #[] 0) [] := ⟨[], 0, rfl, List.Perm.nil⟩
theorem MpO.perm {α : Type} {kv : α → Value} {o : Obj} {M N : List (α × Nat)} (h : MpO kv o M) (hp : M.Perm N) : MpO kv o N := by
  obtain ⟨es, c, e, h⟩ := h
  exact ⟨es, c, e, h.trans hp⟩
/-- What a map answers. -/
def mpv (o : Option Nat) : Value := .pointer (o.map fun n => ⟨n, 0, none⟩)
def mfn {α : Type} (q : α → α → Bool) (x : α) (M : List (α × Nat)) : Option Nat := (M.find? fun m => q x m.1).map (·.2)
theorem MpO.look {α : Type} {kv : α → Value} {q : α → α → Bool} {kt t et : TypeId} (K : KindOf kt kv q) (ht : Try.prog.underlying t = some (.map kt et)) (hz : ∀ w : World, (zeroValue et).run Try.prog w = .ok (.pointer none) w)
    {o : Obj} {M : List (α × Nat)} (h : MpO kv o M) (hu : Unl q (M.map (·.1))) (x : α) (b : Nat) (w : World) (hb : w.heap[b]? = some o) :
    (Instr.lookup t (.map (some b)) (kv x) false).run Try.prog w = .ok (mpv (mfn q x M)) w := by
  obtain ⟨es, c, rfl, hp⟩ := h
  rcases K.find x es w with ⟨hn, hr⟩ | ⟨pre, e, post, rfl, hpre, he, hr⟩
  · have : mfn q x M = none := by
      unfold mfn
      rw [List.find?_eq_none.2, Option.map_none]
      intro m hm
      obtain ⟨e, he, rfl⟩ := List.mem_map.1 (hp.mem_iff.2 hm)
      simp [hn e he]
    rw [this]
    simp [Instr.lookup, run_underlying ht, MapKept.run_getObj_map hb, K.chk, hr, hz, Result.andThen, mpv]
  · have : mfn q x M = some e.2.1 := by
      have hm : (e.1, e.2.1) ∈ M := hp.mem_iff.1 (List.mem_map.2 ⟨e, by simp, rfl⟩)
      unfold mfn
      cases hf : M.find? (fun m => q x m.1) with
      | none => have := List.find?_eq_none.1 hf _ hm; simp [he] at this
      | some m =>
        have h1 := List.mem_of_find?_eq_some hf
        have h2 : q x m.1 = true := by have := List.find?_some hf; simpa using this
        have h3 : q m.1 e.1 = true := K.per.trans _ _ _ (K.per.symm _ _ h2) he
        have h4 : m = (e.1, e.2.1) := by
          have hu2 : Unl (fun a b : α × Nat => q a.1 b.1) M := List.pairwise_map.1 hu
          have P2 : Per (fun a b : α × Nat => q a.1 b.1) := ⟨fun a b h => K.per.symm _ _ h, fun a b c h k => K.per.trans _ _ _ h k⟩
          exact Unl.one P2 hu2 h1 hm h3
        rw [h4]; rfl
    rw [this]
    simp only [List.map_append, List.map_cons] at hr hb
    simp [Instr.lookup, run_underlying ht, MapKept.run_getObj_map hb, K.chk, hr, Result.andThen, mpv]
theorem MpO.len {α : Type} {kv : α → Value} {kt t et : TypeId} (ht : Try.prog.underlying t = some (.map kt et)) {o : Obj} {M : List (α × Nat)} (h : MpO kv o M) (b : Nat) (ty : TypeId) (w : World) (hb : w.heap[b]? = some o) :
    (Builtin.len_ #[t] ty #[.map (some b)]).run Try.prog w = .ok (.int .i64 (M.length : Int)) w := by
  obtain ⟨es, c, rfl, hp⟩ := h
  have hl := hp.length_eq
  simp at hl
  simp [Builtin.len_, run_underlying ht, MapKept.run_getObj_map hb, Result.andThen, goInt, hl]
theorem MpO.update {α : Type} {kv : α → Value} {q : α → α → Bool} {kt t et : TypeId} (K : KindOf kt kv q) (ht : Try.prog.underlying t = some (.map kt et)) {o : Obj} {M : List (α × Nat)} (h : MpO kv o M) (x : α) (n : Nat) (hx : ∀ m ∈ M, q x m.1 = false) (b : Nat) :
    ∃ o', (∀ w : World, w.heap[b]? = some o → (Instr.mapUpdate t (.map (some b)) (kv x) (.pointer (some ⟨n, 0, none⟩))).run Try.prog w = .ok () (setB w b o')) ∧ MpO kv o' ((x, n) :: M) := by
  obtain ⟨es, c, rfl, hp⟩ := h
  refine ⟨.map ((es ++ [(x, n, c)]).map (ent kv)).toArray (c + 1), fun w hb => ?_, _, _, rfl, ?_⟩
  · have hr : (Instr.findKey kt (kv x) (es.map (ent kv))).run Try.prog w = .ok none w := by
      rcases K.find x es w with ⟨_, hr⟩ | ⟨pre, e, post, rfl, _, he, _⟩
      · exact hr
      · have := hx (e.1, e.2.1) (hp.mem_iff.1 (List.mem_map.2 ⟨e, by simp, rfl⟩))
        rw [this] at he; cases he
    simp [Instr.mapUpdate, run_underlying ht, MapKept.run_getObj_map hb, K.chk, hr, MapKept.run_setObj_map _ hb, Result.andThen, ent, setB]
  · rw [List.map_append]
    exact (List.perm_append_singleton _ _).trans (hp.cons _)
theorem MpO.delete {α : Type} {kv : α → Value} {q : α → α → Bool} {kt t et : TypeId} (K : KindOf kt kv q) (ht : Try.prog.underlying t = some (.map kt et)) {o : Obj} {A B : List (α × Nat)} {x : α} {n : Nat} (h : MpO kv o (A ++ (x, n) :: B)) (hu : Unl q ((A ++ (x, n) :: B).map (·.1))) (hx : q x x = true) (b : Nat) :
    ∃ o', (∀ (w : World) (ty : TypeId), w.heap[b]? = some o → (Builtin.delete_ #[t, kt] ty #[.map (some b), kv x]).run Try.prog w = .ok (.tuple #[]) (setB w b o')) ∧ MpO kv o' (A ++ B) := by
  obtain ⟨es, c, rfl, hp⟩ := h
  have dec : ∃ pre e post, es = pre ++ e :: post ∧ q x e.1 = true ∧ ∀ w : World, (Instr.findKey kt (kv x) (es.map (ent kv))).run Try.prog w = .ok (some (pre.length, .pointer (some ⟨e.2.1, 0, none⟩))) w := by
    have hm : (x, n) ∈ es.map (fun e => (e.1, e.2.1)) := hp.mem_iff.2 (by simp)
    obtain ⟨e0, h0, h1⟩ := List.mem_map.1 hm
    rcases K.find x es default with ⟨hn, _⟩ | ⟨pre, e, post, he, hpre, hq, _⟩
    · have h2 := hn e0 h0
      rw [show e0.1 = x from by rw [Prod.mk.injEq] at h1; exact h1.1, hx] at h2
      cases h2
    · refine ⟨pre, e, post, he, hq, fun w => ?_⟩
      subst he
      rcases K.find x (pre ++ e :: post) w with ⟨hn, _⟩ | ⟨pre', e', post', he', hpre', hq', hr⟩
      · rw [hn e (by simp)] at hq; cases hq
      · have hl : pre.length = pre'.length := by
          rcases Nat.lt_trichotomy pre.length pre'.length with h | h | h
          · exfalso
            have : e ∈ pre' := by
              have : (pre' ++ e' :: post')[pre.length]? = some e := by rw [← he']; simp
              rw [List.getElem?_append_left h] at this
              exact List.mem_of_getElem? this
            rw [hpre' e this] at hq; cases hq
          · exact h
          · exfalso
            have : e' ∈ pre := by
              have : (pre ++ e :: post)[pre'.length]? = some e' := by rw [he']; simp
              rw [List.getElem?_append_left h] at this
              exact List.mem_of_getElem? this
            rw [hpre e' this] at hq'; cases hq'
        have hee : e = e' := by
          have h1 : (pre ++ e :: post)[pre.length]? = some e := by simp
          rw [he', hl] at h1
          simpa using h1.symm
        rw [hr, hl, hee]
  obtain ⟨pre, e, post, rfl, hq, hr⟩ := dec
  have hee : (e.1, e.2.1) = (x, n) := by
    have hu2 : Unl (fun a b : α × Nat => q a.1 b.1) (A ++ (x, n) :: B) := List.pairwise_map.1 hu
    have P2 : Per (fun a b : α × Nat => q a.1 b.1) := ⟨fun a b h => K.per.symm _ _ h, fun a b c h k => K.per.trans _ _ _ h k⟩
    exact Unl.one P2 hu2 (hp.mem_iff.1 (List.mem_map.2 ⟨e, by simp, rfl⟩)) (by simp) (K.per.symm _ _ hq)
  refine ⟨.map ((pre ++ post).map (ent kv)).toArray c, fun w ty hb => ?_, _, _, rfl, ?_⟩
  · have hr' := hr w
    have he2 : (((pre ++ e :: post).map (ent kv)).toArray).eraseIdxIfInBounds pre.length = ((pre ++ post).map (ent kv)).toArray := by
      rw [← Array.toList_inj, Array.eraseIdxIfInBounds, dif_pos (by simp)]
      simp [List.eraseIdx_append_of_length_le]
    have hb' : w.heap[b]? = some (.map ((pre ++ e :: post).map (ent kv)).toArray c) := hb
    unfold Builtin.delete_
    simp only [Sem.run_bind, List.getElem?_toArray, List.getElem?_cons_zero, List.getElem?_cons_succ, run_underlying ht, Result.andThen_ok, MapKept.run_getObj_map hb', K.chk, hr', MapKept.run_setObj_map _ hb', he2]
    rfl
  · have h1 : ((pre ++ e :: post).map fun e => (e.1, e.2.1)).Perm ((x, n) :: (pre ++ post).map fun e => (e.1, e.2.1)) := by
      rw [← hee, List.map_append, List.map_cons, List.map_append]
      exact List.perm_middle
    exact (List.perm_cons _).1 (h1.symm.trans (hp.trans List.perm_middle))
section
variable {w : World} {ops : Array Oper} {rest : List Oper} {o : Oper} {a : Act} {Q : Exit → Act → World → Prop}
theorem wpList_delO (hg : o.guard = none) (m x : Operand) (t k : TypeId) (hop : o.op = Op.call { callee := Callee.builtin Builtin.delete, args := #[m, x], argTypes := #[t, k] }) (b : Nat) (hm : a.eval m = .map (some b)) (key : Value) (hx : a.eval x = key) (ob o' : Obj)
    (hr : ∀ (w : World) (ty : TypeId), w.heap[b]? = some ob → (Builtin.delete_ #[t, k] ty #[.map (some b), key]).run Try.prog w = .ok (.tuple #[]) (setB w b o')) (hb : w.heap[b]? = some ob)
    (hK : ∀ w', Hid (w' = setB w b o') → wpList Try.prog ops Q rest (a.put o.dst (.tuple #[])) w') : wpList Try.prog ops Q (o :: rest) a w := by
  refine wpList_plain hg fun K' hK' => ?_
  have hrun := hr w o.type hb
  unfold Oper.wp
  simp [execOp, hop, resolve, invoke, builtin, hm, hx, hrun, Result.andThen]
  exact hK' _ _ (hK _ (show _ = _ from rfl))
theorem wpList_updO (hg : o.guard = none) (m x v : Operand) (t : TypeId) (hop : o.op = Op.mapUpdate t m x v) (b : Nat) (hm : a.eval m = .map (some b)) (key val : Value) (hx : a.eval x = key) (hv : a.eval v = val) (ob o' : Obj)
    (hr : ∀ w : World, w.heap[b]? = some ob → (Instr.mapUpdate t (.map (some b)) key val).run Try.prog w = .ok () (setB w b o')) (hb : w.heap[b]? = some ob)
    (hK : ∀ w', Hid (w' = setB w b o') → wpList Try.prog ops Q rest (a.put o.dst undef) w') : wpList Try.prog ops Q (o :: rest) a w := by
  refine wpList_plain hg fun K' hK' => ?_
  have hrun := hr w hb
  unfold Oper.wp
  simp [execOp, hop, hm, hx, hv, hrun, Result.andThen]
  exact hK' _ _ (hK _ (show _ = _ from rfl))
end
end Go.Proofs.Ytjefciioaebbeaa
