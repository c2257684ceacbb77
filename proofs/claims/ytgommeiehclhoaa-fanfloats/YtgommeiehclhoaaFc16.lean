/-
  The kinds of keys.
-/
import Derived.Test.YtgommeiehclhoaaFb16
namespace Go.Proofs.Ytgommeiehclhoaa
open Go.RowKit
theorem find_asking {kt : TypeId} {α : Type} {kv : α → Value} {q : α → α → Bool} (hq : ∀ (a b : α) (w : World), (Op.equal kt (kv a) (kv b)).run Try.prog w = .ok (q a b) w) (x : α) (w : World) : ∀ (es : List (α × Nat × Nat)) (i : Nat),
    ((∀ e ∈ es, q x e.1 = false) ∧ (Instr.findAsking kt (kv x) (es.map (ent kv)) i).run Try.prog w = .ok none w) ∨
    ∃ pre e post, es = pre ++ e :: post ∧ (∀ p ∈ pre, q x p.1 = false) ∧ q x e.1 = true ∧ (Instr.findAsking kt (kv x) (es.map (ent kv)) i).run Try.prog w = .ok (some (i + pre.length, .int .i64 (e.2.1 : Int))) w
  | [], i => .inl ⟨fun _ h => (by cases h), rfl⟩
  | e :: es, i => by
    have step : (Instr.findAsking kt (kv x) ((e :: es).map (ent kv)) i).run Try.prog w = if q x e.1 = true then .ok (some (i, .int .i64 (e.2.1 : Int))) w else (Instr.findAsking kt (kv x) (es.map (ent kv)) (i + 1)).run Try.prog w := by
      rw [List.map_cons, Instr.findAsking, Sem.run_bind, show (ent kv e).key = kv e.1 from rfl, hq]
      simp only [Result.andThen_ok]
      split <;> rfl
    rw [step]
    by_cases h : q x e.1 = true
    · exact .inr ⟨[], e, es, rfl, fun _ h => (by cases h), h, by rw [if_pos h]; rfl⟩
    · rw [if_neg h]
      rcases find_asking hq x w es (i + 1) with ⟨h1, h2⟩ | ⟨pre, e', post, rfl, h1, h2, h3⟩
      · refine .inl ⟨fun p hp => ?_, h2⟩
        rcases List.mem_cons.1 hp with rfl | hp
        · simpa using h
        · exact h1 p hp
      · refine .inr ⟨e :: pre, e', post, rfl, fun p hp => ?_, h2, ?_⟩
        · rcases List.mem_cons.1 hp with rfl | hp
          · simpa using h
          · exact h1 p hp
        · rw [h3]; congr 3; simp; omega
theorem find_now {d : TypeDesc} {α : Type} {kv : α → Value} {q : α → α → Bool} (hq : ∀ (a b : α), Instr.sameNow d (kv a) (kv b) = some (q a b)) (x : α) : ∀ (es : List (α × Nat × Nat)) (i : Nat),
    ((∀ e ∈ es, q x e.1 = false) ∧ Instr.findNow d (kv x) (es.map (ent kv)) i = some none) ∨
    ∃ pre e post, es = pre ++ e :: post ∧ (∀ p ∈ pre, q x p.1 = false) ∧ q x e.1 = true ∧ Instr.findNow d (kv x) (es.map (ent kv)) i = some (some (i + pre.length, .int .i64 (e.2.1 : Int)))
  | [], i => .inl ⟨fun _ h => (by cases h), rfl⟩
  | e :: es, i => by
    have step : Instr.findNow d (kv x) ((e :: es).map (ent kv)) i = if q x e.1 = true then some (some (i, .int .i64 (e.2.1 : Int))) else Instr.findNow d (kv x) (es.map (ent kv)) (i + 1) := by
      rw [List.map_cons, Instr.findNow, show (ent kv e).key = kv e.1 from rfl, hq]
      cases q x e.1 <;> rfl
    rw [step]
    by_cases h : q x e.1 = true
    · exact .inr ⟨[], e, es, rfl, fun _ h => (by cases h), h, by rw [if_pos h]; rfl⟩
    · rw [if_neg h]
      rcases find_now hq x es (i + 1) with ⟨h1, h2⟩ | ⟨pre, e', post, rfl, h1, h2, h3⟩
      · refine .inl ⟨fun p hp => ?_, h2⟩
        rcases List.mem_cons.1 hp with rfl | hp
        · simpa using h
        · exact h1 p hp
      · refine .inr ⟨e :: pre, e', post, rfl, fun p hp => ?_, h2, ?_⟩
        · rcases List.mem_cons.1 hp with rfl | hp
          · simpa using h
          · exact h1 p hp
        · rw [h3]; congr 3; simp; omega
/-- A kind whose keys are asked. -/
theorem KindOf.asks {kt : TypeId} {d : TypeDesc} {α : Type} {kv : α → Value} {q : α → α → Bool} (hd : Try.prog.underlying kt = some d) (P : Per q) (hc : ∀ (b : Bool) (x : α) (w : World), (Instr.checkKey b 10000 kt (kv x)).run Try.prog w = .ok () w)
    (hn : ∀ a b, Instr.sameNow d (kv a) (kv b) = none) (hq : ∀ (a b : α) (w : World), (Op.equal kt (kv a) (kv b)).run Try.prog w = .ok (q a b) w) : KindOf kt kv q := ⟨P, hc, fun x es w => by
  have e1 : (Instr.findKey kt (kv x) (es.map (ent kv))).run Try.prog w = (Instr.findAsking kt (kv x) (es.map (ent kv))).run Try.prog w := by
    unfold Instr.findKey
    rw [Sem.run_bind, run_underlying hd]
    simp only [Result.andThen_ok]
    cases es with
    | nil => rfl
    | cons e es =>
      rw [List.map_cons, Instr.findNow, show (ent kv e).key = kv e.1 from rfl, hn]
  rw [e1]
  rcases find_asking hq x w es 0 with h | ⟨pre, e, post, h1, h2, h3, h4⟩
  · exact .inl h
  · exact .inr ⟨pre, e, post, h1, h2, h3, by rw [h4, Nat.zero_add]⟩⟩
/-- A kind whose keys are seen at once. -/
theorem KindOf.sees {kt : TypeId} {d : TypeDesc} {α : Type} {kv : α → Value} {q : α → α → Bool} (hd : Try.prog.underlying kt = some d) (P : Per q) (hc : ∀ (b : Bool) (x : α) (w : World), (Instr.checkKey b 10000 kt (kv x)).run Try.prog w = .ok () w)
    (hq : ∀ a b, Instr.sameNow d (kv a) (kv b) = some (q a b)) : KindOf kt kv q := ⟨P, hc, fun x es w => by
  have e1 : ∀ r, Instr.findNow d (kv x) (es.map (ent kv)) 0 = some r → (Instr.findKey kt (kv x) (es.map (ent kv))).run Try.prog w = .ok r w := by
    intro r hr
    unfold Instr.findKey
    rw [Sem.run_bind, run_underlying hd]
    simp only [Result.andThen_ok, hr]
    rfl
  rcases find_now hq x es 0 with ⟨h, h2⟩ | ⟨pre, e, post, h1, h2, h3, h4⟩
  · exact .inl ⟨h, e1 _ h2⟩
  · exact .inr ⟨pre, e, post, h1, h2, h3, by rw [e1 _ h4, Nat.zero_add]⟩⟩
theorem per_eq {α : Type} [BEq α] [LawfulBEq α] : Per (fun a b : α => a == b) := ⟨fun a b h => by simp at h ⊢; exact h.symm, fun a b c h k => by simp at h k ⊢; exact h.trans k⟩
/-- Floating-point numbers. -/
def fvl (x : Nat) : Value := .float .f64 x
theorem fkind : KindOf 38 fvl feq := KindOf.asks (d := .float .f64) (by kernel_rfl) feq_per (fun _ _ _ => rfl) (fun _ _ => rfl) (fun _ _ _ => rfl)
/-- Numbers. -/
def ivl (x : Int) : Value := .int .i64 x
theorem ikind : KindOf 3 ivl (fun a b => a == b) := KindOf.sees (d := .int .i64) (by kernel_rfl) per_eq (fun _ _ _ => rfl) (fun _ _ => rfl)
end Go.Proofs.Ytgommeiehclhoaa
