/-
  The kinds of keys.
-/
import Derived.Test.YtgconfcijmemmaaFb16
namespace Go.Proofs.Ytgconfcijmemmaa
open Go.RowKit
theorem find_asking {kt : TypeId} {α : Type} {kv : α → Value} {q : α → α → Bool} (hq : ∀ (a b : α) (w : World), (Op.equal kt (kv a) (kv b)).run Try.prog w = .ok (q a b) w) (x : α) (w : World) : ∀ (es : List (α × Nat × Nat)) (i : Nat),
    ((∀ e ∈ es, q x e.1 = false) ∧ (Instr.findAsking kt (kv x) (es.map (ent kv)) i).run Try.prog w = .ok none w) ∨
    ∃ pre e post, es = pre ++ e :: post ∧ (∀ p ∈ pre, q x p.1 = false) ∧ q x e.1 = true ∧ (Instr.findAsking kt (kv x) (es.map (ent kv)) i).run Try.prog w = .ok (some (i + pre.length, .int .i64 (e.2.1 : Int))) w
  | [], i => .inl ⟨fun _ h => (by cases h), rfl⟩
  | e :: es, i => by
    have step : (Instr.findAsking kt (kv x) ((e :: es).map (ent kv)) i).run Try.prog w = if q x e.1 = true then .ok (some (i, .int .i64 (e.2.1 : Int))) w else (Instr.findAsking kt (kv x) (es.map (ent kv)) (i + 1)).run Try.prog w := by
      rw [List.map_cons, Instr.findAsking, Sem.run_bind, show (ent kv e).key = kv e.1 from rfl, hq]
      simp only [Result.andThen_ok]
      split <;> rfl
    rw [step]
    by_cases h : q x e.1 = true
    · exact .inr ⟨[], e, es, rfl, fun _ h => (by cases h), h, by rw [if_pos h]; rfl⟩
    · rw [if_neg h]
      rcases find_asking hq x w es (i + 1) with ⟨h1, h2⟩ | ⟨pre, e', post, rfl, h1, h2, h3⟩
      · refine .inl ⟨fun p hp => ?_, h2⟩
        rcases List.mem_cons.1 hp with rfl | hp
        · simpa using h
        · exact h1 p hp
      · refine .inr ⟨e :: pre, e', post, rfl, fun p hp => ?_, h2, ?_⟩
        · rcases List.mem_cons.1 hp with rfl | hp
          · simpa using h
          · exact h1 p hp
        · rw [h3]; congr 3; simp; omega
theorem find_now {d : TypeDesc} {α : Type} {kv : α → Value} {q : α → α → Bool} (hq : ∀ (a b : α), Instr.sameNow d (kv a) (kv b) = some (q a b)) (x : α) : ∀ (es : List (α × Nat × Nat)) (i : Nat),
    ((∀ e ∈ es, q x e.1 = false) ∧ Instr.findNow d (kv x) (es.map (ent kv)) i = some none) ∨
    ∃ pre e post, es = pre ++ e :: post ∧ (∀ p ∈ pre, q x p.1 = false) ∧ q x e.1 = true ∧ Instr.findNow d (kv x) (es.map (ent kv)) i = some (some (i + pre.length, .int .i64 (e.2.1 : Int)))
  | [], i => .inl ⟨fun _ h => (by cases h), rfl⟩
  | e :: es, i => by
    have step : Instr.findNow d (kv x) ((e :: es).map (ent kv)) i = if q x e.1 = true then some (some (i, .int .i64 (e.2.1 : Int))) else Instr.findNow d (kv x) (es.map (ent kv)) (i + 1) := by
      rw [List.map_cons, Instr.findNow, show (ent kv e).key = kv e.1 from rfl, hq]
      cases q x e.1 <;> rfl
    rw [step]
    by_cases h : q x e.1 = true
    · exact .inr ⟨[], e, es, rfl, fun _ h => (by cases h), h, by rw [if_pos h]; rfl⟩
    · rw [if_neg h]
      rcases find_now hq x es (i + 1) with ⟨h1, h2⟩ | ⟨pre, e', post, rfl, h1, h2, h3⟩
      · refine .inl ⟨fun p hp => ?_, h2⟩
        rcases List.mem_cons.1 hp with rfl | hp
        · simpa using h
        · exact h1 p hp
      · refine .inr ⟨e :: pre, e', post, rfl, fun p hp => ?_, h2, ?_⟩
        · rcases List.mem_cons.1 hp with rfl | hp
          · simpa using h
          · exact h1 p hp
        · rw [h3]; congr 3; simp; omega
/-- A kind whose keys are asked. -/
theorem KindOf.asks {kt : TypeId} {d : TypeDesc} {α : Type} {kv : α → Value} {q : α → α → Bool} (hd : Try.prog.underlying kt = some d) (P : Per q) (hc : ∀ (b : Bool) (x : α) (w : World), (Instr.checkKey b 10000 kt (kv x)).run Try.prog w = .ok () w)
    (hn : ∀ a b, Instr.sameNow d (kv a) (kv b) = none) (hq : ∀ (a b : α) (w : World), (Op.equal kt (kv a) (kv b)).run Try.prog w = .ok (q a b) w) : KindOf kt kv q := ⟨P, hc, fun x es w => by
  have e1 : (Instr.findKey kt (kv x) (es.map (ent kv))).run Try.prog w = (Instr.findAsking kt (kv x) (es.map (ent kv))).run Try.prog w := by
    unfold Instr.findKey
    rw [Sem.run_bind, run_underlying hd]
    simp only [Result.andThen_ok]
    cases es with
    | nil => rfl
    | cons e es =>
      rw [List.map_cons, Instr.findNow, show (ent kv e).key = kv e.1 from rfl, hn]
  rw [e1]
  rcases find_asking hq x w es 0 with h | ⟨pre, e, post, h1, h2, h3, h4⟩
  · exact .inl h
  · exact .inr ⟨pre, e, post, h1, h2, h3, by rw [h4, Nat.zero_add]⟩⟩
/-- A kind whose keys are seen at once. -/
theorem KindOf.sees {kt : TypeId} {d : TypeDesc} {α : Type} {kv : α → Value} {q : α → α → Bool} (hd : Try.prog.underlying kt = some d) (P : Per q) (hc : ∀ (b : Bool) (x : α) (w : World), (Instr.checkKey b 10000 kt (kv x)).run Try.prog w = .ok () w)
    (hq : ∀ a b, Instr.sameNow d (kv a) (kv b) = some (q a b)) : KindOf kt kv q := ⟨P, hc, fun x es w => by
  have e1 : ∀ r, Instr.findNow d (kv x) (es.map (ent kv)) 0 = some r → (Instr.findKey kt (kv x) (es.map (ent kv))).run Try.prog w = .ok r w := by
    intro r hr
    unfold Instr.findKey
    rw [Sem.run_bind, run_underlying hd]
    simp only [Result.andThen_ok, hr]
    rfl
  rcases find_now hq x es 0 with ⟨h, h2⟩ | ⟨pre, e, post, h1, h2, h3, h4⟩
  · exact .inl ⟨h, e1 _ h2⟩
  · exact .inr ⟨pre, e, post, h1, h2, h3, by rw [e1 _ h4, Nat.zero_add]⟩⟩
theorem per_eq {α : Type} [BEq α] [LawfulBEq α] : Per (fun a b : α => a == b) := ⟨fun a b h => by simp at h ⊢; exact h.symm, fun a b c h k => by simp at h k ⊢; exact h.trans k⟩
/-- Numbers. -/
def ivl (x : Int) : Value := .int .i64 x
def ieq (a b : Int) : Bool := a == b
theorem ikind : KindOf 3 ivl ieq := KindOf.sees (d := .int .i64) (by kernel_rfl) (per_eq (α := Int)) (fun _ _ _ => rfl) (fun _ _ => rfl)
/-- Texts of one byte, and the one that is empty. -/
def stx : Option UInt8 → ByteArray
  | none => ⟨#[]⟩
  | some b => ⟨#[b]⟩
def svl (x : Option UInt8) : Value := .string (stx x)
def seq (a b : Option UInt8) : Bool := a == b
theorem stx_inj {a b : Option UInt8} (h : stx a = stx b) : a = b := by
  rcases a with _ | a <;> rcases b with _ | b <;> simp [stx] at h ⊢
  exact h
theorem bytes_eq (a b : ByteArray) : (a == b) = decide (a = b) := by
  have e : (a == b) = (a.data == b.data) := rfl
  rw [e]
  by_cases h : a = b
  · subst h; simp
  · have : a.data ≠ b.data := fun h2 => h (by cases a; cases b; simpa using h2)
    simp [h, this]
theorem stx_eq (a b : Option UInt8) : (stx a == stx b) = seq a b := by
  unfold seq
  rw [bytes_eq]
  by_cases h : a = b
  · subst h; simp
  · have : stx a ≠ stx b := fun h2 => h (stx_inj h2)
    simp [h, this]
theorem skind : KindOf 9 svl seq := KindOf.sees (d := .string) (by kernel_rfl) (per_eq (α := Option UInt8)) (fun _ _ _ => rfl) (fun a b => congrArg some (stx_eq a b))
/-- Words with the text "x", and the one that is zero. -/
def wnu : Option Int → Int
  | none => 0
  | some a => a
def wtx : Option Int → ByteArray
  | none => ⟨#[]⟩
  | some _ => ⟨#[120]⟩
def wcs (x : Option Int) : Array Value := #[.int .i64 (wnu x), .string (wtx x)]
abbrev wvl (x : Option Int) : Value := .agg (wcs x)
def weq (a b : Option Int) : Bool := a == b
theorem weq_two (a b : Option Int) : (wnu a == wnu b && wtx a == wtx b) = weq a b := by
  unfold weq
  rw [bytes_eq]
  rcases a with _ | a <;> rcases b with _ | b <;> simp [wnu, wtx]
set_option maxRecDepth 100000 in
set_option maxHeartbeats 1000000 in
theorem weq_run (a b : Option Int) (w : World) : (Op.equal 27 (wvl a) (wvl b)).run Try.prog w = .ok (weq a b) w := by
  rw [← weq_two]
  unfold wvl
  show (Op.equalIn 10000 27 (.agg #[.int .i64 (wnu a), .string (wtx a)]) (.agg #[.int .i64 (wnu b), .string (wtx b)])).run Try.prog w = _
  go_simp
  rw [bytes_eq]
  have e : ((wtx a).toList = (wtx b).toList) = (wtx a = wtx b) := propext ⟨fun h => by
    rw [ByteArray.toList_eq, ByteArray.toList_eq] at h
    generalize wtx a = x at *
    generalize wtx b = y at *
    cases x; cases y
    simpa using h, fun h => by rw [h]⟩
  simp only [e]
  by_cases h1 : wnu a = wnu b <;> by_cases h2 : wtx a = wtx b <;> simp [h1, h2]
theorem wkind : KindOf 27 wvl weq := KindOf.asks (d := _) Try.underlying27 (per_eq (α := Option Int)) (fun _ _ _ => rfl) (fun _ _ => rfl) weq_run
end Go.Proofs.Ytgconfcijmemmaa
