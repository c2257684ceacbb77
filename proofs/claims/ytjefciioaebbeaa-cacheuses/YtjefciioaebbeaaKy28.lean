/-
  The kinds of keys and values of the caches.
-/
import Derived.Test.YtjefciioaebbeaaMp28
import Derived.Test.YtjefciioaebbeaaGb20
import Derived.WalkLawsBesides
import Derived.Outline
import Derived.OwnWalk
import Derived.Laws.MakeOwn
import Derived.Laws.IdiomStrings
import Derived.Laws.Strings
import Derived.Lib.AppendStr
import Derived.WalkSpells
import Derived.Deep.QuietTactic
import Derived.BigQuiet
import Derived.Deep.RegionWith
import Derived.Deep.RegionLaw
import Derived.StillTailTactics
import Derived.LaidEqlPtr
import Derived.Sort.EncStr
namespace Go.Proofs.Ytjefciioaebbeaa
open Go.RowKit
/-- A text: its bytes. -/
abbrev Tx := List UInt8
def txq (a b : Tx) : Bool := a == b
theorem txq_iff {a b : Tx} : txq a b = true ↔ a = b := by unfold txq; simp
theorem bytes_eq (a b : ByteArray) : (a == b) = decide (a = b) := by
  have e : (a == b) = (a.data == b.data) := rfl
  rw [e]
  by_cases h : a = b
  · subst h; simp
  · have : a.data ≠ b.data := fun h2 => h (by cases a; cases b; simpa using h2)
    simp [h, this]
theorem enc_eq (a b : Tx) : ((⟨a.toArray⟩ : ByteArray) == ⟨b.toArray⟩) = txq a b := by
  unfold txq
  rw [bytes_eq]
  by_cases h : a = b
  · subst h; simp
  · have : (⟨a.toArray⟩ : ByteArray) ≠ ⟨b.toArray⟩ := fun h2 => h (by simpa using h2)
    simp [h, this]
set_option maxRecDepth 1000000 in
theorem chk_str (b : Bool) (s : ByteArray) (w : World) : (Instr.checkKey b 10000 9 (.string s)).run Try.prog w = .ok () w := rfl
theorem now_str (a b : ByteArray) : Instr.sameNow .string (.string a) (.string b) = some (a == b) := rfl
theorem tkind : KindOf 9 encStr txq := KindOf.sees (d := .string) (by kernel_rfl) (per_eq (α := Tx)) (fun b x w => chk_str b ⟨x.toArray⟩ w) (fun a b => (now_str _ _).trans (congrArg some (enc_eq a b)))
abbrev ivl (x : Int) : Value := .int .i64 x
theorem blt {w : World} {g : Nat} {o : Obj} (h : w.heap[g]? = some o) : g < w.heap.size := (Array.getElem?_eq_some_iff.1 h).1
/-- What a call does to memory: these blocks and new ones alone turn. -/
structure Tn (F : Nat → Prop) (w w' : World) : Prop where
  os : w'.os = w.os
  tape : w'.tape = w.tape
  output : w'.output = w.output
  size : w.heap.size ≤ w'.heap.size
  block : ∀ k, k < w.heap.size → ¬ F k → w'.heap[k]? = w.heap[k]?
theorem Tn.refl (F : Nat → Prop) (w : World) : Tn F w w := ⟨rfl, rfl, rfl, Nat.le_refl _, fun _ _ _ => rfl⟩
theorem Tn.trans {F : Nat → Prop} {a b c : World} (h : Tn F a b) (k : Tn F b c) : Tn F a c :=
  ⟨k.os.trans h.os, k.tape.trans h.tape, k.output.trans h.output, Nat.le_trans h.size k.size, fun i hi hF => (k.block i (Nat.lt_of_lt_of_le hi h.size) hF).trans (h.block i hi hF)⟩
theorem Tn.of_below {F : Nat → Prop} {w w' : World} (h : Below w.heap.size w w') : Tn F w w' := ⟨h.os, h.tape, h.output, h.size, fun k hk _ => h.block k hk⟩
theorem Tn.setCell {F : Nat → Prop} (w : World) (a : Addr) (h : F a.block) (u : Value) : Tn F w (w.setCell a u) := ⟨rfl, rfl, rfl, by simp [World.setCell], fun k _ hF => Below.heap_setCell _ _ _ _ (fun e => hF (e ▸ h))⟩
theorem Tn.setB {F : Nat → Prop} (w : World) (b : Nat) (o : Obj) (h : F b) : Tn F w (setB w b o) := ⟨rfl, rfl, rfl, by rw [setB_size]; exact Nat.le_refl _, fun k _ hF => setB_other w o (fun e => hF (e ▸ h))⟩
theorem Tn.more {F G : Nat → Prop} {w w' : World} (h : Tn F w w') (hs : ∀ b, b < w.heap.size → F b → G b) : Tn G w w' := ⟨h.os, h.tape, h.output, h.size, fun k hk hG => h.block k hk (fun hF => hG (hs k hk hF))⟩
theorem Tn.drewN {F : Nat → Prop} {w w' : World} (h : Tn F w w') (n : Nat) : Tn F w (w'.drewN n) := ⟨h.os, h.tape, h.output, h.size, h.block⟩
/-- What lies behind when new blocks are its own too. -/
def Fn (F : Nat → Prop) (w w' : World) (b : Nat) : Prop := F b ∨ (w.heap.size ≤ b ∧ b < w'.heap.size)
end Go.Proofs.Ytjefciioaebbeaa
