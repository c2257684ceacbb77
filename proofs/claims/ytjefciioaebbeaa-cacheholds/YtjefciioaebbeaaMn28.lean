/-
  The law's own map from texts to notes.
-/
import Derived.Test.YtjefciioaebbeaaUs28
namespace Go.Proofs.Ytjefciioaebbeaa
open Go.RowKit
/-- A note: a value, a weight, is it there. -/
structure Nt where
  val : Tx
  wt : Int
  there : Bool
def nt0 : Nt := ⟨[], 0, false⟩
def Nt.cs (x : Nt) : Array Value := #[encStr x.val, .int .i64 x.wt, .bool x.there]
def Nt.v (x : Nt) : Value := .agg x.cs
/-- An entry. -/
def entN (e : Tx × Nt × Nat) : MapEntry := { key := encStr e.1, val := e.2.1.v, born := e.2.2 }
theorem findn_now (x : Tx) : ∀ (es : List (Tx × Nt × Nat)) (i : Nat),
    ((∀ e ∈ es, txq x e.1 = false) ∧ Instr.findNow .string (encStr x) (es.map entN) i = some none) ∨
    ∃ pre e post, es = pre ++ e :: post ∧ (∀ p ∈ pre, txq x p.1 = false) ∧ txq x e.1 = true ∧ Instr.findNow .string (encStr x) (es.map entN) i = some (some (i + pre.length, e.2.1.v))
  | [], i => .inl ⟨fun _ h => (by cases h), rfl⟩
  | e :: es, i => by
    have step : Instr.findNow .string (encStr x) ((e :: es).map entN) i = if txq x e.1 = true then some (some (i, e.2.1.v)) else Instr.findNow .string (encStr x) (es.map entN) (i + 1) := by
      rw [List.map_cons, Instr.findNow, show (entN e).key = encStr e.1 from rfl, (now_str _ _).trans (congrArg some (enc_eq x e.1))]
      cases txq x e.1 <;> rfl
    rw [step]
    by_cases h : txq x e.1 = true
    · exact .inr ⟨[], e, es, rfl, fun _ h => (by cases h), h, by rw [if_pos h]; rfl⟩
    · rw [if_neg h]
      rcases findn_now x es (i + 1) with ⟨h1, h2⟩ | ⟨pre, e', post, rfl, h1, h2, h3⟩
      · refine .inl ⟨fun p hp => ?_, h2⟩
        rcases List.mem_cons.1 hp with rfl | hp
        · simpa using h
        · exact h1 p hp
      · refine .inr ⟨e :: pre, e', post, rfl, fun p hp => ?_, h2, ?_⟩
        · rcases List.mem_cons.1 hp with rfl | hp
          · simpa using h
          · exact h1 p hp
        · rw [h3, show i + 1 + pre.length = i + (e :: pre).length from by simp; omega]
theorem findn (x : Tx) (es : List (Tx × Nt × Nat)) (w : World) : ((∀ e ∈ es, txq x e.1 = false) ∧ (Instr.findKey 9 (encStr x) (es.map entN)).run Try.prog w = .ok none w) ∨
    ∃ pre e post, es = pre ++ e :: post ∧ (∀ p ∈ pre, txq x p.1 = false) ∧ txq x e.1 = true ∧ (Instr.findKey 9 (encStr x) (es.map entN)).run Try.prog w = .ok (some (pre.length, e.2.1.v)) w := by
  have e1 : ∀ r, Instr.findNow .string (encStr x) (es.map entN) 0 = some r → (Instr.findKey 9 (encStr x) (es.map entN)).run Try.prog w = .ok r w := by
    intro r hr
    unfold Instr.findKey
    rw [Sem.run_bind, run_underlying Try.underlying9]
    simp only [Result.andThen_ok, hr]
    rfl
  rcases findn_now x es 0 with ⟨h, h2⟩ | ⟨pre, e, post, h1, h2, h3, h4⟩
  · exact .inl ⟨h, e1 _ h2⟩
  · exact .inr ⟨pre, e, post, h1, h2, h3, by rw [e1 _ h4, Nat.zero_add]⟩
/-- A map that answers so. -/
def MnO (o : Obj) (φ : Tx → Option Nt) : Prop := ∃ (es : List (Tx × Nt × Nat)) (clock : Nat), o = .map (es.map entN).toArray clock ∧ ∀ y, (es.find? fun e => txq y e.1).map (·.2.1) = φ y
theorem MnO.new : MnO (.map #[] 0) (fun _ => none) := ⟨[], 0, rfl, fun _ => rfl⟩
def updn (φ : Tx → Option Nt) (x : Tx) (n : Nt) : Tx → Option Nt := fun y => if y = x then some n else φ y
theorem und_map : Try.prog.underlying 63 = some (.map 9 65) := Try.underlying63
theorem nt_zero (w : World) : (zeroValue 65).run Try.prog w = .ok nt0.v w := by kernel_rfl
theorem nt_size : (Try.prog.info? 65).map (·.size) = some 3 := by kernel_rfl
theorem nt_one (x : Nt) : (x.cs.all fun v => v.oneCell') = true := by simp [Nt.cs, Value.oneCell']
theorem MnO.look {o : Obj} {φ : Tx → Option Nt} (h : MnO o φ) (x : Tx) (b : Nat) (w : World) (hb : w.heap[b]? = some o) :
    (Instr.lookup 63 (.map (some b)) (encStr x) false).run Try.prog w = .ok ((φ x).getD nt0).v w := by
  obtain ⟨es, c, rfl, hp⟩ := h
  rw [← hp x]
  rcases findn x es w with ⟨hn, hr⟩ | ⟨pre, e, post, rfl, hpre, he, hr⟩
  · rw [List.find?_eq_none.2 (fun e he => by simp [hn e he])]
    simp [Instr.lookup, run_underlying und_map, MapKept.run_getObj_map hb, chk_str, hr, Result.andThen]
    rfl
  · have : ((pre ++ e :: post).find? fun e => txq x e.1) = some e := by
      rw [List.find?_append, List.find?_eq_none.2 (fun e he => by simp [hpre e he])]
      simp [he]
    rw [this]
    simp only [List.map_append, List.map_cons] at hr hb
    simp [Instr.lookup, run_underlying und_map, MapKept.run_getObj_map hb, chk_str, hr, Result.andThen]
theorem stays_str (x : Tx) (w : World) : (Instr.keyThatStays (encStr x) (encStr x)).run Try.prog w = .ok (encStr x) w := by
  unfold Instr.keyThatStays
  rw [if_pos (by simp only [Instr.sameBits]; rw [enc_eq]; simp [txq])]
  rfl
theorem modify_at {α : Type} (pre : List α) (e : α) (post : List α) (f : α → α) : (pre ++ e :: post).toArray.modify pre.length f = (pre ++ f e :: post).toArray := by
  rw [← Array.toList_inj]
  simp only [Array.toList_modify]
  induction pre with
  | nil => rfl
  | cons a pre ih => simpa [List.modify_cons] using ih
theorem MnO.update {o : Obj} {φ : Tx → Option Nt} (h : MnO o φ) (x : Tx) (n : Nt) (b : Nat) :
    ∃ o', (∀ w : World, w.heap[b]? = some o → (Instr.mapUpdate 63 (.map (some b)) (encStr x) n.v).run Try.prog w = .ok () (setB w b o')) ∧ MnO o' (updn φ x n) := by
  obtain ⟨es, c, rfl, hp⟩ := h
  have dec : (∀ e ∈ es, txq x e.1 = false) ∨ ∃ pre e post, es = pre ++ e :: post ∧ (∀ p ∈ pre, txq x p.1 = false) ∧ txq x e.1 = true := by
    rcases findn x es default with ⟨hn, _⟩ | ⟨pre, e, post, he, hp, hq, _⟩
    · exact .inl hn
    · exact .inr ⟨pre, e, post, he, hp, hq⟩
  rcases dec with hn | ⟨pre, e, post, rfl, hpre, he⟩
  · refine ⟨.map ((es ++ [(x, n, c)]).map entN).toArray (c + 1), fun w hb => ?_, _, _, rfl, fun y => ?_⟩
    · have hr : (Instr.findKey 9 (encStr x) (es.map entN)).run Try.prog w = .ok none w := by
        rcases findn x es w with ⟨_, hr⟩ | ⟨pre, e, post, rfl, _, he, _⟩
        · exact hr
        · rw [hn e (by simp)] at he; cases he
      simp [Instr.mapUpdate, run_underlying und_map, MapKept.run_getObj_map hb, chk_str, hr, MapKept.run_setObj_map _ hb, Result.andThen, entN, setB]
    · unfold updn
      rw [← hp y, List.find?_append]
      by_cases hy : y = x
      · subst hy
        rw [if_pos rfl, List.find?_eq_none.2 (fun e he => by simp [hn e he])]
        simp [txq]
      · rw [if_neg hy]
        have : txq y x = false := by cases h : txq y x with
          | false => rfl
          | true => exact absurd (txq_iff.1 h) hy
        cases List.find? (fun e => txq y e.1) es <;> simp [this]
  · have hk : e.1 = x := (txq_iff.1 he).symm
    refine ⟨.map ((pre ++ (x, n, e.2.2) :: post).map entN).toArray c, fun w hb => ?_, _, _, rfl, fun y => ?_⟩
    · have hr : (Instr.findKey 9 (encStr x) ((pre ++ e :: post).map entN)).run Try.prog w = .ok (some (pre.length, e.2.1.v)) w := by
        rcases findn x (pre ++ e :: post) w with ⟨hn, _⟩ | ⟨pre', e', post', he', hpre', hq', hr⟩
        · rw [hn e (by simp)] at he; cases he
        · have hl : pre.length = pre'.length := by
            rcases Nat.lt_trichotomy pre.length pre'.length with h | h | h
            · exfalso
              have : e ∈ pre' := by
                have : (pre' ++ e' :: post')[pre.length]? = some e := by rw [← he']; simp
                rw [List.getElem?_append_left h] at this
                exact List.mem_of_getElem? this
              rw [hpre' e this] at he; cases he
            · exact h
            · exfalso
              have : e' ∈ pre := by
                have : (pre ++ e :: post)[pre'.length]? = some e' := by rw [he']; simp
                rw [List.getElem?_append_left h] at this
                exact List.mem_of_getElem? this
              rw [hpre e' this] at hq'; cases hq'
          have hee : e = e' := by
            have h1 : (pre ++ e :: post)[pre.length]? = some e := by simp
            rw [he', hl] at h1
            simpa using h1.symm
          rw [hr, hl, hee]
      have hat : (((pre ++ e :: post).map entN).toArray[pre.length]?).map (·.key) = some (encStr x) := by simp [entN, hk]
      have hm := modify_at (pre.map entN) (entN e) (post.map entN) (fun e => { e with key := encStr x, val := n.v })
      rw [List.length_map] at hm
      simp only [List.map_append, List.map_cons] at hr hb hat
      have hat2 : ((((pre.map entN ++ entN e :: post.map entN).toArray)[pre.length]?).map (·.key)).getD (encStr x) = encStr x := by rw [hat]; rfl
      unfold Instr.mapUpdate
      simp only [Sem.run_bind, run_underlying und_map, MapKept.run_getObj_map hb, chk_str, hr, Result.andThen_ok, hat2, stays_str, MapKept.run_setObj_map _ hb, hm]
      simp [entN, setB]
    · unfold updn
      rw [← hp y]
      rw [List.find?_append, List.find?_append]
      by_cases hy : y = x
      · subst hy
        rw [if_pos rfl, List.find?_eq_none.2 (fun e he => by simp [hpre e he])]
        simp [txq]
      · rw [if_neg hy]
        have : txq y x = false := by cases h : txq y x with
          | false => rfl
          | true => exact absurd (txq_iff.1 h) hy
        cases List.find? (fun e => txq y e.1) pre <;> simp [this, hk]
end Go.Proofs.Ytjefciioaebbeaa
