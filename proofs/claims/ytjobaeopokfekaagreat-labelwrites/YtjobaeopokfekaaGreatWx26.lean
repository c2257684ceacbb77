/-
  A wound with all that is its own.
-/
import Derived.Test.YtjobaeopokfekaaGreatDsH
import Derived.Test.YtjobaeopokfekaaGreatWo
namespace Go.Proofs.YtjobaeopokfekaaGreat
open Go.RowKit Go.Maps Go.Sort
/-- A wound on its drive; all its blocks are among G. -/
def Wx (w : World) (wb db : Nat) (g : Gt) (P : DataW Unit) (σ : Ds) (G : Nat → Prop) : Prop := G wb ∧ (∀ b, G b → b < w.heap.size) ∧ ∃ pl F, Kw w wb db pl g P σ F ∧ (∀ b, F b → G b) ∧ ∀ b, pl = some b → G b
theorem Wx.same {w w' : World} {wb db : Nat} {g : Gt} {P : DataW Unit} {σ : Ds} {G : Nat → Prop} (h : Wx w wb db g P σ G) (hz : w.heap.size ≤ w'.heap.size) (hk : ∀ b, G b → w'.heap[b]? = w.heap[b]?) : Wx w' wb db g P σ G := by
  obtain ⟨h1, h2, pl, F, ⟨k1, k2, k3, k4, k5⟩, h4, h5⟩ := h
  exact ⟨h1, fun b hb => Nat.lt_of_lt_of_le (h2 b hb) hz, pl, F, ⟨(hk wb h1).trans k1, k2.sameAt (fun b e _ => hk b (h5 b e)), k3.same hz (fun b hb => hk b (h4 b hb)), k4, k5⟩, h4, h5⟩
theorem Wx.below {w w' : World} {wb db : Nat} {g : Gt} {P : DataW Unit} {σ : Ds} {G : Nat → Prop} (h : Wx w wb db g P σ G) (hb : Below w.heap.size w w') : Wx w' wb db g P σ G := h.same hb.size (fun b hG => hb.block b (h.2.1 b hG))
theorem Wx.tn {w w' : World} {wb db : Nat} {g : Gt} {P : DataW Unit} {σ : Ds} {G H : Nat → Prop} (h : Wx w wb db g P σ G) (ht : Tn H w w') (hd : ∀ b, G b → ¬ H b) : Wx w' wb db g P σ G := h.same ht.size (fun b hG => ht.block b (h.2.1 b hG) (hd b hG))
theorem Wx.more {w : World} {wb db : Nat} {g : Gt} {P : DataW Unit} {σ : Ds} {G H : Nat → Prop} (h : Wx w wb db g P σ G) (hs : ∀ b, G b → H b) (hH : ∀ b, H b → b < w.heap.size) : Wx w wb db g P σ H := by
  obtain ⟨h1, h2, pl, F, h3, h4, h5⟩ := h
  exact ⟨hs _ h1, hH, pl, F, h3, fun b hb => hs b (h4 b hb), fun b hb => hs b (h5 b hb)⟩
theorem Wx.wat {w : World} {wb db : Nat} {g : Gt} {P : DataW Unit} {σ : Ds} {G : Nat → Prop} (h : Wx w wb db g P σ G) : ∃ pl, WAt w wb (some ⟨db, 0, none⟩) pl g := by
  obtain ⟨h1, h2, pl, F, h3, h4, h5⟩ := h
  exact ⟨pl, h3.1⟩
theorem Wx.dr {w : World} {wb db : Nat} {g : Gt} {P : DataW Unit} {σ : Ds} {G : Nat → Prop} (h : Wx w wb db g P σ G) : ∃ F, DrAt w db σ F ∧ ∀ b, F b → G b := by
  obtain ⟨h1, h2, pl, F, h3, h4, h5⟩ := h
  exact ⟨F, h3.2.2.1, h4⟩
theorem fn_lt {w w' : World} {G : Nat → Prop} (hG : ∀ b, G b → b < w.heap.size) (hs : w.heap.size ≤ w'.heap.size) : ∀ b, Fn G w w' b → b < w'.heap.size := by
  rintro b (h | h)
  · have := hG b h; omega
  · exact h.2
/-- The drive alone has turned. -/
theorem Wx.drive {w : World} {wb db : Nat} {g : Gt} {P : DataW Unit} {σ : Ds} {G : Nat → Prop} {f : Nat} {args : Array Value} {Q : Ending → World → Prop} {σ' : Ds} (h : Wx w wb db g P σ G) (C : ∀ F, DrAt w db σ F → (∀ b, F b → G b) → Calls Tryz.prog f args w fun e w' => Q e w' ∧ DrAt w' db σ' (Fn F w w') ∧ Tn F w w') : Calls Tryz.prog f args w fun e w' => Q e w' ∧ Wx w' wb db g P σ' (Fn G w w') ∧ Tn G w w' := by
  obtain ⟨h1, h2, pl, F, ⟨k1, k2, k3, k4, k5⟩, h4, h5⟩ := h
  refine (C F k3 h4).mono ?_
  rintro e w' ⟨q1, q2, q3⟩
  have hs := q3.size
  refine ⟨q1, ⟨.inl h1, fn_lt h2 hs, pl, Fn F w w', ⟨(q3.block wb (h2 wb h1) k4).trans k1, k2.sameAt (fun b e hb => q3.block b hb (k5 b e)), q2, ?_, ?_⟩, ?_, fun b e => .inl (h5 b e)⟩, q3.more h4⟩
  · rintro (h9 | h9)
    · exact k4 h9
    · have := h2 wb h1; omega
  · rintro b e (h9 | h9)
    · exact k5 b e h9
    · have := h2 b (h5 b e); omega
  · rintro b (h9 | h9)
    · exact .inl (h4 b h9)
    · exact .inr h9
/-- The wound's own block has turned. -/
theorem Wx.own {w : World} {wb db : Nat} {g g' : Gt} {P P' : DataW Unit} {σ : Ds} {G : Nat → Prop} {f : Nat} {args : Array Value} {Q : Ending → World → Prop} (h : Wx w wb db g P σ G) (C : ∀ pl, WAt w wb (some ⟨db, 0, none⟩) pl g → PlAt w pl P → db ≠ wb → db < w.heap.size → Calls Tryz.prog f args w fun e w' => Q e w' ∧ ∃ pl', WAt w' wb (some ⟨db, 0, none⟩) pl' g' ∧ PlAt w' pl' P' ∧ (pl' = pl ∨ ∃ b, pl' = some b ∧ w.heap.size ≤ b) ∧ Tn (· = wb) w w') : Calls Tryz.prog f args w fun e w' => Q e w' ∧ Wx w' wb db g' P' σ (Fn G w w') ∧ Tn G w w' := by
  obtain ⟨h1, h2, pl, F, ⟨k1, k2, k3, k4, k5⟩, h4, h5⟩ := h
  refine (C pl k1 k2 (fun e => k4 (e ▸ k3.1)) (k3.2.1 db k3.1)).mono ?_
  rintro e w' ⟨q1, pl', q2, q3, q4, q5⟩
  have hs := q5.size
  refine ⟨q1, ⟨.inl h1, fn_lt h2 hs, pl', F, ⟨q2, q3, k3.tn q5 (fun b hb e => k4 (e ▸ hb)), k4, ?_⟩, fun b hb => .inl (h4 b hb), ?_⟩, q5.more (fun b e => by have : b = wb := e; rw [this]; exact h1)⟩
  · intro b e hb
    rcases q4 with q4 | ⟨b', q4, q6⟩
    · exact k5 b (q4 ▸ e) hb
    · rw [q4] at e
      injection e with e
      have := k3.2.1 b hb
      omega
  · intro b e
    rcases q4 with q4 | ⟨b', q4, q6⟩
    · exact .inl (h5 b (q4 ▸ e))
    · rw [q4] at e
      injection e with e
      subst e
      refine .inr ⟨q6, ?_⟩
      rcases q3 with ⟨e9, _⟩ | ⟨b9, n9, e9, h9⟩
      · rw [q4] at e9; cases e9
      · rw [q4] at e9
        injection e9 with e9
        subst e9
        obtain ⟨es, ck, hb, _⟩ := h9
        exact blt hb
theorem Wx.arm {w : World} {wb db : Nat} {g : Gt} {P : DataW Unit} {σ : Ds} {G : Nat → Prop} (h : Wx w wb db g P σ G) (pa : Option Addr) (n cap : Nat) (fs : List Ft) (hn : fs.length = n) (hr : n ≤ 10000000000000) (hI : 0 < n → ∃ b o, pa = some ⟨b, o, none⟩ ∧ FtO w b o fs ∧ b < w.heap.size ∧ b ≠ wb) : Calls Tryz.prog 8 #[.pointer (some ⟨wb, 0, none⟩), .slice pa n cap] w fun e w' => (∃ v, e = .returned v) ∧ Wx w' wb db { g with calls := 0 } (plD (dnto fs n)) σ (Fn G w w') ∧ Tn G w w' := by
  subst hn
  refine h.own (fun pl hW hP hne hdb => ?_)
  by_cases h0 : 0 < fs.length
  · obtain ⟨b, o, e, h1, h2, h3⟩ := hI h0
    refine (oarm_any hW b o cap pa fs (fun _ => e) hr h1 h2 h3).mono ?_
    rintro e w' ⟨q1, ⟨pb, q2, q3, q4⟩, q5⟩
    exact ⟨q1, some pb, q3, q4, .inr ⟨pb, rfl, q2⟩, q5⟩
  · refine (oarm_any hW db 0 cap pa fs (fun h9 => absurd h9 h0) hr (fun j hj => absurd hj (by omega)) hdb hne).mono ?_
    rintro e w' ⟨q1, ⟨pb, q2, q3, q4⟩, q5⟩
    exact ⟨q1, some pb, q3, q4, .inr ⟨pb, rfl, q2⟩, q5⟩
theorem Wx.set {w : World} {wb db : Nat} {g g' : Gt} {P : DataW Unit} {σ : Ds} {G : Nat → Prop} {f : Nat} {args : Array Value} (h : Wx w wb db g P σ G) (C : ∀ pl, WAt w wb (some ⟨db, 0, none⟩) pl g → Calls Tryz.prog f args w fun e w' => (∃ v, e = .returned v) ∧ WAt w' wb (some ⟨db, 0, none⟩) pl g' ∧ Tn (· = wb) w w') : Calls Tryz.prog f args w fun e w' => (∃ v, e = .returned v) ∧ Wx w' wb db g' P σ (Fn G w w') ∧ Tn G w w' := by
  refine h.own (fun pl hW hP _ _ => ?_)
  refine (C pl hW).mono ?_
  rintro e w' ⟨q1, q2, q3⟩
  exact ⟨q1, pl, q2, hP.tn hW q3, .inl rfl, q3⟩
theorem Wx.ask {w : World} {wb db : Nat} {g : Gt} {P : DataW Unit} {σ : Ds} {G : Nat → Prop} {f : Nat} {args : Array Value} {u : Value} (h : Wx w wb db g P σ G) (C : ∀ pl, WAt w wb (some ⟨db, 0, none⟩) pl g → Calls Tryz.prog f args w fun e w' => e = .returned u ∧ w' = w) : Calls Tryz.prog f args w fun e w' => e = .returned u ∧ Wx w' wb db g P σ (Fn G w w') ∧ Tn G w w' := by
  obtain ⟨pl, hW⟩ := h.wat
  refine (C pl hW).mono ?_
  rintro e w' ⟨q1, q2⟩
  obtain rfl := q2.symm
  exact ⟨q1, h.more (fun _ h => .inl h) (fn_lt h.2.1 (Nat.le_refl _)), Tn.refl _ _⟩
theorem Wx.fn {w w' : World} {wb db : Nat} {g : Gt} {P : DataW Unit} {σ : Ds} {G : Nat → Prop} (h : Wx w wb db g P σ G) (hb : Below w.heap.size w w') : Wx w' wb db g P σ (Fn G w w') ∧ Tn G w w' := ⟨(h.below hb).more (fun _ h => .inl h) (fn_lt h.2.1 hb.size), Tn.of_below hb⟩
end Go.Proofs.YtjobaeopokfekaaGreat
