/-
  The state of 'apart' while slices grow and are kept.
-/
import Derived.Test.YtgienaikcpcpeabEnt
namespace Go.Proofs.Ytgienaikcpcpeab
open Go.RowKit

structure St (ns : Nat → Nat) (w1 w : World) (i n B C : Nat) (Kl Kw : List Ent) (vl vw : Value) : Prop where
  long : w.ownsRow w1.heap.size 22 1 vl Kl.length (Kl.map Ent.V)
  whose : w.ownsRow w1.heap.size 3 1 vw Kw.length (Kw.map Ent.I)
  good : ∀ e ∈ Kl, Good ns w1.heap.size w e
  below : Below w1.heap.size w1 w
  made : Made w B C n (mf ns i)
  cap : C = n ∨ w1.heap.size ≤ B
  own : ∀ e ∈ Kl, e.B = B → e.i = i ∧ e.L ≤ n ∧ e.C = C
theorem owns_below {w w' : World} {base T n : Nat} {v : Value} {xs : List Value} (h : w.ownsRow base T 1 v n xs) (hb : Below w.heap.size w w') : w'.ownsRow base T 1 v n xs := by
  rcases h.2 with ⟨hv, h0⟩ | ⟨g, cap, c, hv, hg, hh, hc⟩
  · exact ⟨h.1, .inl ⟨hv, h0⟩⟩
  · refine ⟨h.1, .inr ⟨g, cap, c, hv, hg, ?_, hc⟩⟩
    have hl : g < w.heap.size := (Array.getElem?_eq_some_iff.1 hh).1
    rw [hb.block g hl]; exact hh
theorem St.next {ns : Nat → Nat} {w1 w w' : World} {i n B C : Nat} {Kl Kw : List Ent} {vl vw : Value} (h : St ns w1 w i n B C Kl Kw vl vw) (hb : Below w.heap.size w w') : St ns w1 w' i n B C Kl Kw vl vw :=
  ⟨owns_below h.long hb, owns_below h.whose hb, fun e he => (h.good e he).below hb, h.below.trans (hb.mono h.below.size), h.made.below hb, h.cap, h.own⟩
theorem St.alloc {ns : Nat → Nat} {w1 w : World} {i n B C : Nat} {Kl Kw : List Ent} {vl vw : Value} (h : St ns w1 w i n B C Kl Kw vl vw) (o : Obj) : St ns w1 (w.alloc o) i n B C Kl Kw vl vw :=
  h.next ((Below.refl _ _).alloc (Nat.le_refl _) o)
theorem mf_ge {ns : Nat → Nat} {i n : Nat} (h : ns i ≤ n) : mf ns i n = tn 100 i := by unfold mf; rw [if_neg (by omega)]
theorem St.room {ns : Nat → Nat} {w1 w w2 : World} {i n B C : Nat} {Kl Kw : List Ent} {vl vw : Value} (h : St ns w1 w i n B C Kl Kw vl vw) (hn : n < C) (hi : ns i ≤ n)
    (ho : w2.ownsRow 0 5 1 (.slice (some ⟨B, 0, none⟩) (n + 1) C) (n + 1) (vals (mf ns i) n ++ [.int .u8 (el (tn 100 i))])) (hg : w.grownBy w2 (some B)) : St ns w1 w2 i (n + 1) B C Kl Kw vl vw ∧ w1.heap.size ≤ B := by
  have hB : w1.heap.size ≤ B := by rcases h.cap with e | e <;> omega
  have hM : Made w2 B C (n + 1) (mf ns i) := made_owns (by rw [vals_succ, mf_ge hi]; exact ho)
  refine ⟨⟨owns_byte h.long h.made (by decide) hg, owns_byte h.whose h.made (by decide) hg, fun e he => (h.good e he).room hg hM (h.own e he), ?_, hM, .inr hB, fun e he eb => ?_⟩, hB⟩
  · exact h.below.grown hg h.below.size (fun k hk => by cases hk; exact hB)
  · obtain ⟨h1, h2, h3⟩ := h.own e he eb
    exact ⟨h1, by omega, h3⟩
theorem St.grow {ns : Nat → Nat} {w1 w w2 : World} {i n B C : Nat} {Kl Kw : List Ent} {vl vw v2 : Value} (h : St ns w1 w i n B C Kl Kw vl vw) (hi : ns i ≤ n)
    (ho : w2.ownsRow w.heap.size 5 1 v2 (n + 1) (vals (mf ns i) n ++ [.int .u8 (el (tn 100 i))])) (hg : w.grownBy w2 none) : ∃ B2 C2, v2 = .slice (some ⟨B2, 0, none⟩) (n + 1) C2 ∧ St ns w1 w2 i (n + 1) B2 C2 Kl Kw vl vw ∧ w1.heap.size ≤ B2 := by
  have ho' : w2.ownsRow w.heap.size 5 1 v2 (n + 1) (vals (mf ns i) (n + 1)) := by rw [vals_succ, mf_ge hi]; exact ho
  obtain ⟨B2, C2, hv, hB2, hM⟩ := made_of ho' (by omega)
  have hb := below_of_grown hg
  have hB : w1.heap.size ≤ B2 := Nat.le_trans h.below.size hB2
  refine ⟨B2, C2, hv, ⟨owns_below h.long hb, owns_below h.whose hb, fun e he => (h.good e he).below hb, h.below.trans (hb.mono h.below.size), hM, .inr hB, fun e he eb => ?_⟩, hB⟩
  have := (h.good e he).made.lt
  omega
theorem St.keepL {ns : Nat → Nat} {w1 w w2 : World} {i n B C : Nat} {Kl Kw : List Ent} {vl vw v2 : Value} (h : St ns w1 w i n B C Kl Kw vl vw) (h6 : i < 6) (hi : ns i ≤ n) (hh : n ≤ ns i + 64) (hB : w1.heap.size ≤ B)
    (ho : w2.ownsRow w1.heap.size 22 1 v2 (Kl.length + 1) (Kl.map Ent.V ++ [.slice (some ⟨B, 0, none⟩) n C])) (hg : w.grownBy w2 vl.ownBlock) : St ns w1 w2 i n B C (Kl ++ [⟨i, B, C, n⟩]) Kw v2 vw := by
  have hM := made_type h.made h.long (by decide) hg
  refine ⟨by simpa [Ent.V] using ho, owns_type h.whose h.long (by decide) hg, fun e he => ?_, ?_, hM, h.cap, fun e he eb => ?_⟩
  · rcases List.mem_append.1 he with he | he
    · exact (h.good e he).other h.long (by decide) hg
    · simp at he; subst he
      exact ⟨h6, hi, hh, hB, hM⟩
  · exact h.below.grown hg h.below.size (fun k hk => (h.long.lt k hk).1)
  · rcases List.mem_append.1 he with he | he
    · exact h.own e he eb
    · simp at he; subst he
      exact ⟨rfl, Nat.le_refl _, rfl⟩
theorem St.keepW {ns : Nat → Nat} {w1 w w2 : World} {i n B C : Nat} {Kl Kw : List Ent} {vl vw v2 : Value} (h : St ns w1 w i n B C Kl Kw vl vw) (e0 : Ent) (h0 : e0.i = i)
    (ho : w2.ownsRow w1.heap.size 3 1 v2 (Kw.length + 1) (Kw.map Ent.I ++ [.int .i64 (i : Int)])) (hg : w.grownBy w2 vw.ownBlock) : St ns w1 w2 i n B C Kl (Kw ++ [e0]) vl v2 := by
  have hM := made_type h.made h.whose (by decide) hg
  refine ⟨owns_type h.long h.whose (by decide) hg, by simpa [Ent.I, h0] using ho, fun e he => (h.good e he).other h.whose (by decide) hg, ?_, hM, h.cap, h.own⟩
  exact h.below.grown hg h.below.size (fun k hk => (h.whose.lt k hk).1)
theorem one_val (v : Value) (h : v.oneCell' = true) : ∀ u ∈ ([v] : List Value), u.oneCell' = true := by
  intro u hu; simp at hu; subst hu; exact h
end Go.Proofs.Ytgienaikcpcpeab
