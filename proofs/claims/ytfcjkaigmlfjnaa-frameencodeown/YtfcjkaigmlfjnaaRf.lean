/-
  The reader's face: what its methods share; 'Open'.
-/
import Derived.Test.YtfcjkaigmlfjnaaRt
import Derived.Test.YtfcjkaigmlfjnaaRc
namespace Go.Proofs.Ytfcjkaigmlfjnaa
open Go.RowKit
/-- A reading's answer, and what is left, and the fault behind it. -/
def res {α : Type} (z : α) (f : Int) (bs : List (BitVec 8)) (R : Ans α) : α × List (BitVec 8) × Int :=
  if f = 0 then (match R with
    | .error c => (z, bs, c)
    | .ok (a, l) => (a, l, 0)) else (z, bs, f)
theorem res_fault {α : Type} (z : α) {f : Int} (bs : List (BitVec 8)) (R : Ans α) (h : f ≠ 0) : res z f bs R = (z, bs, f) := if_neg h
theorem res_no {α : Type} (z : α) (bs : List (BitVec 8)) (c : Int) : res z 0 bs (.error c) = (z, bs, c) := rfl
theorem res_ok {α : Type} (z : α) (bs l : List (BitVec 8)) (a : α) : res z 0 bs (.ok (a, l)) = (a, l, 0) := rfl
/-- What a method of a reader comes to. -/
def Says {α : Type} (w : World) (r : Nat) (p : α → World → Value → Prop) (x : α × List (BitVec 8) × Int) (e : Ending) (w' : World) : Prop :=
  w.grownBy w' (some r) ∧ Rdr w' r x.2.1 x.2.2 ∧ ∃ v, e = .returned v ∧ p x.1 w' v
theorem Tell.mono {α : Type} {B : Nat} {w : World} {g : Nat} {f f' : α → World → Value → Prop} {R : Ans α} {e : Ending} {w' : World} (h : Tell B w g f R e w') (hf : ∀ a W v, f a W v → f' a W v) : Tell B w g f' R e w' := by
  refine ⟨h.1, ?_⟩
  have h2 := h.2
  cases R with
  | error c => exact h2
  | ok al =>
    obtain ⟨a, l⟩ := al
    obtain ⟨v, he, hv, hW⟩ := h2
    exact ⟨v, he, hf _ _ _ hv, hW⟩
theorem Face.says {α : Type} {w0 w : World} {r : Nat} {bs : List (BitVec 8)} {z : Value} {p : α → World → Value → Prop} {R : Ans α} {e : Ending} {w' : World} (h : Face w r bs z p R e w') (z0 : α) (hz : ∀ W, p z0 W z) (hb : Below w0.heap.size w0 w) : Says w0 r p (res z0 0 bs R) e w' := by
  obtain ⟨hg, h2⟩ := h
  have hg' : w0.grownBy w' (some r) := gtrans (grown_below (grefl w0 _) hb) hg
  cases R with
  | error c => exact ⟨hg', h2.2, z, h2.1, hz _⟩
  | ok al =>
    obtain ⟨a, l⟩ := al
    obtain ⟨v, he, hv, hR⟩ := h2
    exact ⟨hg', hR, v, he, hv⟩
theorem says_fault {α : Type} {w0 w w' : World} {r : Nat} {bs : List (BitVec 8)} {f : Int} {z : Value} {p : α → World → Value → Prop} (h : Rdr w r bs f) (hf : f ≠ 0) (z0 : α) (R : Ans α) (hz : p z0 w' z) (hb0 : Below w0.heap.size w0 w) (hb : Below w.heap.size w w') : Says w0 r p (res z0 f bs R) (.returned z) w' := by
  rw [res_fault z0 bs R hf]
  exact ⟨grown_below (grown_below (grefl w0 _) hb0) hb, h.below hb, z, rfl, hz⟩
theorem ow_kept {w w' : World} {base r : Nat} {v : Value} {xs : List (BitVec 8)} (h : Ow w base v xs) (hr : r < base) (hg : w.grownBy w' (some r)) : Ow w' base v xs :=
  World.ownsRow.kept h hg (.inr (fun e => by have := h.lt e; omega))
theorem os_kept {w w' : World} {base r : Nat} {v : Value} {ts : List (List (BitVec 8))} (h : Ot w base v ts) (hr : r < base) (hg : w.grownBy w' (some r)) : Ot w' base v ts :=
  World.ownsRow.kept h hg (.inr (fun e => by have := own_lt h e; omega))
section
attribute [local irreducible] Calls el
set_option maxRecDepth 1000000 in
theorem open_any {w : World} {a : Option Addr} {bs : List (BitVec 8)} (h : Rd w a bs) (n c : Nat) (hn : bs.length = n) (hm : n ≤ 140737488355328) :
    Calls Try.prog 47 #[.slice a n c] w fun e w' => ∃ r, e = .returned (.pointer (some ⟨r, 0, none⟩)) ∧ w.heap.size ≤ r ∧ Rdr w' r bs 0 ∧ Below w.heap.size w w' := by
  have al : ∀ (W : World) (o : Obj), Below W.heap.size W (W.alloc o) := fun W o => (Below.refl _ _).alloc (Nat.le_refl _) o
  subst hn
  have A1 := (show Hid _ from anew0 h bs.length c rfl hm)
  go_enter Try.func47, Try.ntmps47
  go_wp2_with (go_at_call 42; refine A1.out.mono ?_; rintro e w1 ⟨v1, rfl, ho1, hb1⟩; obtain ⟨p1, c1, rfl, hc1, hr1⟩ := ho1.rd)
  go_ret
  refine ⟨w1.heap.size, rfl, hb1.size, ⟨_, heap_alloc_new w1 _, ho1.sq.below (al _ _), fun b hb => ?_⟩, bt hb1 (al _ _)⟩
  exact (ho1.lt hb).2
end
end Go.Proofs.Ytfcjkaigmlfjnaa
