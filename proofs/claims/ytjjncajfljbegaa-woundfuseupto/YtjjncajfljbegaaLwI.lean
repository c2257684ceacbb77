/-
  A call of a wound and of a plain drive, held against one another.
-/
import Derived.Test.YtjjncajfljbegaaLwH
namespace Go.Proofs.Ytjjncajfljbegaa
open Go.RowKit Go.Maps Go.Sort
/-- Both drives hold the same. -/
def Eqd (W : World) (wb db tb m : Nat) (g : Gt) (Y : World) : Prop := ∃ σ F G, Mid W wb db tb g σ σ F G Y ∧ Okk m σ
theorem Eqd.below {W Y Z : World} {wb db tb m : Nat} {g : Gt} (h : Eqd W wb db tb m g Y) (hb : Below Y.heap.size Y Z) : Eqd W wb db tb m g Z := by
  obtain ⟨σ, F, G, h1, h2⟩ := h
  exact ⟨σ, F, G, h1.below hb, h2⟩
theorem Eqd.mono {W Y : World} {wb db tb m m' : Nat} {g : Gt} (h : Eqd W wb db tb m g Y) (hm : m ≤ m') : Eqd W wb db tb m' g Y := by
  obtain ⟨σ, F, G, h1, h2⟩ := h
  exact ⟨σ, F, G, h1, h2.mono hm⟩
theorem Eqd.bl {W Y : World} {wb db tb m : Nat} {g : Gt} (h : Eqd W wb db tb m g Y) : Below W.heap.size W Y := by
  obtain ⟨σ, F, G, h1, h2⟩ := h
  exact h1.bl
theorem Eqd.wat {W Y : World} {wb db tb m : Nat} {g : Gt} (h : Eqd W wb db tb m g Y) : WAt Y wb (some ⟨db, 0, none⟩) none g := by
  obtain ⟨σ, F, G, h1, h2⟩ := h
  exact h1.K.1
/-- Both drives hold the same, and lie below N. -/
def EqdN (W : World) (wb db tb m : Nat) (g : Gt) (N : Nat) (Y : World) : Prop := ∃ σ F G, Mid W wb db tb g σ σ F G Y ∧ Okk m σ ∧ (∀ b, F b → b < N) ∧ (∀ b, G b → b < N) ∧ wb < N
theorem Eqd.n {W Y : World} {wb db tb m : Nat} {g : Gt} (h : Eqd W wb db tb m g Y) : EqdN W wb db tb m g Y.heap.size Y := by
  obtain ⟨σ, F, G, h1, h2⟩ := h
  exact ⟨σ, F, G, h1, h2, h1.K.dlt, h1.D.2.1, h1.K.lt⟩
theorem EqdN.below {W Y Z : World} {wb db tb m N : Nat} {g : Gt} (h : EqdN W wb db tb m g N Y) (hb : Below Y.heap.size Y Z) : EqdN W wb db tb m g N Z := by
  obtain ⟨σ, F, G, h1, h2⟩ := h
  exact ⟨σ, F, G, h1.below hb, h2⟩
theorem EqdN.bl {W Y : World} {wb db tb m N : Nat} {g : Gt} (h : EqdN W wb db tb m g N Y) : Below W.heap.size W Y := by
  obtain ⟨σ, F, G, h1, h2⟩ := h
  exact h1.bl
theorem sdv_up {w : World} {a b : Nat} {v : Value} {x : An} (h : SdV w b v x) (hb : a ≤ b) : SdV w a v x := by
  obtain ⟨dv, nv, e, h1, h2⟩ := h
  exact ⟨dv, nv, e, ob_up h1 hb, ownsRow_base_a h2 hb⟩
/-- The wound has answered. -/
structure Hv (W : World) (wb db tb m : Nat) (g : Gt) (c : Nat) (s : Sp) (d : Tx) (v : Value) (N : Nat) (Y : World) : Prop where
  ex : ∃ σ F G, SdV Y N v (hans c g (.map []) σ s.x s.y d) ∧ (∀ b, G b → b < N) ∧ Mid W wb db tb (ahd g (.map []) (hrm c)).2 (hnxt c g (.map []) σ s.x s.y d) σ F G Y ∧ Okk m σ
  dt : Dt W Y s d
theorem Hv.below {W Y Z : World} {wb db tb m : Nat} {g : Gt} {c : Nat} {s : Sp} {d : Tx} {v : Value} {N : Nat} (h : Hv W wb db tb m g c s d v N Y) (hb : Below Y.heap.size Y Z) : Hv W wb db tb m g c s d v N Z := by
  obtain ⟨⟨σ, F, G, h1, h2, h3, h4⟩, h5⟩ := h
  exact ⟨⟨σ, F, G, h1.below hb, h2, h3.below hb, h4⟩, h5.below hb⟩
theorem Hv.bl {W Y : World} {wb db tb m : Nat} {g : Gt} {c : Nat} {s : Sp} {d : Tx} {v : Value} {N : Nat} (h : Hv W wb db tb m g c s d v N Y) : Below W.heap.size W Y := by
  obtain ⟨⟨σ, F, G, h1, h2, h3, h4⟩, h5⟩ := h
  exact h3.bl
theorem Hv.wat {W Y : World} {wb db tb m : Nat} {g : Gt} {c : Nat} {s : Sp} {d : Tx} {v : Value} {N : Nat} (h : Hv W wb db tb m g c s d v N Y) : WAt Y wb (some ⟨db, 0, none⟩) none (ahd g (.map []) (hrm c)).2 := by
  obtain ⟨⟨σ, F, G, h1, h2, h3, h4⟩, h5⟩ := h
  exact h3.K.1
theorem EqdN.hurt {W Y : World} {wb db tb m N : Nat} {g : Gt} (h : EqdN W wb db tb m g N Y) (hN : N ≤ Y.heap.size) (gok : Gok g) (hm : m ≤ 134217728) {s : Sp} {d : Tx} (hd : Dt W Y s d) (c : Int) (hc : 1 ≤ c ∧ c ≤ 8) : Calls Try.prog 14 #[.pointer (some ⟨wb, 0, none⟩), .agg (s.v c)] Y fun e Z => ∃ v, e = .returned v ∧ Hv W wb db tb m g c.toNat s d v N Z ∧ ∀ b, N ≤ b → b < Y.heap.size → Z.heap[b]? = Y.heap[b]? := by
  obtain ⟨σ, F, G, h1, h2, h7, h8, h9⟩ := h
  refine (h1.hurt gok h2 hm hd c hc).mono ?_
  rintro e Z ⟨v, e1, h3, h4, h5, h6⟩
  refine ⟨v, e1, ⟨⟨σ, _, G, sdv_up h3 hN, h8, h4, h2⟩, h6⟩, fun b h0 hb => h5.block b hb ?_⟩
  rintro (e | e)
  · omega
  · have := h7 b e; omega
theorem Eqd.hurt {W Y : World} {wb db tb m : Nat} {g : Gt} (h : Eqd W wb db tb m g Y) (gok : Gok g) (hm : m ≤ 134217728) {s : Sp} {d : Tx} (hd : Dt W Y s d) (c : Int) (hc : 1 ≤ c ∧ c ≤ 8) : Calls Try.prog 14 #[.pointer (some ⟨wb, 0, none⟩), .agg (s.v c)] Y fun e Z => ∃ v, e = .returned v ∧ Hv W wb db tb m g c.toNat s d v Y.heap.size Z := by
  refine (h.n.hurt (Nat.le_refl _) gok hm hd c hc).mono ?_
  rintro e Z ⟨v, h1, h2, _⟩
  exact ⟨v, h1, h2⟩
theorem Hv.shape {W Y : World} {wb db tb m : Nat} {g : Gt} {c : Nat} {s : Sp} {d : Tx} {v : Value} {N : Nat} (h : Hv W wb db tb m g c s d v N Y) : ∃ er p1 n1 c1 p2 n2 c2, v = .agg #[.int .i64 er, .slice p1 n1 c1, .slice p2 n2 c2, .slice none 0 0, .int .i64 0, .bool false] := by
  obtain ⟨⟨σ, F, G, ⟨dv, nv, e, h1, h2⟩, _⟩, _⟩ := h
  obtain ⟨p1, c1, e1⟩ := h1.len
  obtain ⟨p2, c2, e2⟩ := own_len h2
  exact ⟨_, p1, _, c1, p2, _, c2, by rw [e, e1, e2]⟩
/-- Both have answered the same. -/
structure Bv (W : World) (wb db tb m : Nat) (g : Gt) (a : An) (v u : Value) (Y : World) : Prop where
  S1 : ∃ b, SdV Y b v a
  S2 : ∃ b, SdV Y b u a
  E : Eqd W wb db tb m g Y
  few : a.2.2.length ≤ 1000000000
theorem Bv.alike {W Y : World} {wb db tb m : Nat} {g : Gt} {a : An} {v u : Value} (h : Bv W wb db tb m g a v u Y) : Calls Try.prog 13 #[v, u] Y fun e Z => e = .returned (.bool true) ∧ Eqd W wb db tb m g Z ∧ Below Y.heap.size Y Z := by
  obtain ⟨b1, h1⟩ := h.S1
  obtain ⟨b2, h2⟩ := h.S2
  refine (alike_same h1 h2 h.few).mono ?_
  rintro e Z ⟨e1, hb⟩
  exact ⟨e1, h.E.below hb, hb⟩
theorem Bv.below {W Y Z : World} {wb db tb m : Nat} {g : Gt} {a : An} {v u : Value} (h : Bv W wb db tb m g a v u Y) (hb : Below Y.heap.size Y Z) : Bv W wb db tb m g a v u Z := by
  obtain ⟨⟨b1, h1⟩, ⟨b2, h2⟩, h3, h4⟩ := h
  exact ⟨⟨b1, h1.below hb⟩, ⟨b2, h2.below hb⟩, h3.below hb, h4⟩
/-- The call went through: the plain drive answers it too. -/
theorem Hv.plain {W Y : World} {wb db tb m : Nat} {g : Gt} {s : Sp} {d : Tx} {v : Value} {c : Int} {N : Nat} (h : Hv W wb db tb m g c.toNat s d v N Y) (he : (ahd g (.map []) (hrm c.toNat)).1.2 = 0) (hm : m ≤ 134217728) (hc : 1 ≤ c ∧ c ≤ 8) : Calls Try.prog 15 #[.pointer (some ⟨tb, 0, none⟩), .agg (s.v c)] Y fun e Z => ∃ u a, e = .returned u ∧ Bv W wb db tb (m + 1 + d.length) (ahd g (.map []) (hrm c.toNat)).2 a v u Z ∧ ∀ b, N ≤ b → b < Y.heap.size → Z.heap[b]? = Y.heap[b]? := by
  obtain ⟨⟨σ, F, G, h1, h2, h3, h4⟩, h5⟩ := h
  have e1 : hans c.toNat g (.map []) σ s.x s.y d = ans c.toNat σ s.x s.y d := if_pos he
  have e2 : hnxt c.toNat g (.map []) σ s.x s.y d = nxt c.toNat σ s.x s.y d := if_pos he
  rw [e1] at h1
  rw [e2] at h3
  refine (h3.plain h4 hm h5 c hc).mono ?_
  rintro e Z ⟨u, e3, h6, h7, h8, h9⟩
  exact ⟨u, _, e3, ⟨⟨_, h1.tn h8 (fun b hb hg => by have := h2 b hg; omega)⟩, ⟨_, h6⟩, ⟨_, _, _, h7, okk_nxt h4 hm _ _ _ _⟩, ans_few h4 hm _ _ _ _⟩, fun b h0 hb => h8.block b hb (fun hg => by have := h2 b hg; omega)⟩
/-- The call was refused, and nothing passed. -/
theorem Hv.down {W Y : World} {wb db tb m : Nat} {g : Gt} {s : Sp} {d : Tx} {v : Value} {c N : Nat} (h : Hv W wb db tb m g c s d v N Y) (he : (ahd g (.map []) (hrm c)).1.2 = 122) (hb : c = 2 ∧ (ahd g (.map []) (hrm c)).1.1 = true → d.take (max g.ins 0).toNat = []) : (∃ b, SdV Y b v (122, [], [])) ∧ Eqd W wb db tb m (ahd g (.map []) (hrm c)).2 Y := by
  obtain ⟨⟨σ, F, G, h1, h2, h3, h4⟩, h5⟩ := h
  have hne : ¬ (ahd g (.map []) (hrm c)).1.2 = 0 := by rw [he]; decide
  have e1 : hans c g (.map []) σ s.x s.y d = (122, [], []) := by unfold hans; rw [if_neg hne, he]
  have e2 : hnxt c g (.map []) σ s.x s.y d = σ := by
    unfold hnxt
    rw [if_neg hne]
    split
    · rename_i h9
      rw [hb h9]
      unfold Ds.append
      split
      · rfl
      · rw [if_pos rfl]
    · rfl
  rw [e1] at h1
  rw [e2] at h3
  exact ⟨⟨_, h1⟩, ⟨_, _, _, h3, h4⟩⟩
/-- The power goes in an Append: its first bytes pass. -/
theorem Hv.passes {W Y : World} {wb db tb m : Nat} {g : Gt} {s : Sp} {d : Tx} {v : Value} {N : Nat} (h : Hv W wb db tb m g 2 s d v N Y) (he : (ahd g (.map []) true).1 = (true, 122)) (hm : m ≤ 134217728) (p : Option Addr) (n cp : Nat) (d2 : Tx) (hd2 : d2 = d.take (max g.ins 0).toNat) (hn : d2.length = n) (hr : Rx Y p d2) (hnl : n ≤ 134217728) : Calls Try.prog 21 #[.pointer (some ⟨tb, 0, none⟩), encStr s.x, .slice p n cp] Y fun e Z => (∃ u, e = .returned u) ∧ (∃ b, SdV Z b v (122, [], [])) ∧ Eqd W wb db tb (m + 1 + d2.length) (ahd g (.map []) true).2 Z ∧ ∀ b, N ≤ b → b < Y.heap.size → Z.heap[b]? = Y.heap[b]? := by
  obtain ⟨⟨σ, F, G, h1, h2, h3, h4⟩, h5⟩ := h
  have hne : ¬ (ahd g (.map []) (hrm 2)).1.2 = 0 := by show ¬ (ahd g (.map []) true).1.2 = 0; rw [he]; decide
  have e1 : hans 2 g (.map []) σ s.x s.y d = (122, [], []) := by
    unfold hans
    rw [if_neg hne]
    show ((ahd g (.map []) true).1.2, _) = _
    rw [he]
  have e2 : hnxt 2 g (.map []) σ s.x s.y d = (σ.append s.x d2).2 := by
    unfold hnxt
    rw [if_neg hne, if_pos ⟨rfl, by show (ahd g (.map []) true).1.1 = true; rw [he]⟩, hd2]
  rw [e1] at h1
  rw [e2] at h3
  refine (append_any h3.D (h4.okd hm) s.x (by have := h5.hx; omega) p n cp d2 hr hn (by omega) (fun i _ _ => by have := h4.bl i; omega)).mono ?_
  rintro e Z ⟨e3, h6, h7⟩
  exact ⟨⟨_, e3⟩, ⟨_, h1.tn h7 (fun b hb hg => by have := h2 b hg; omega)⟩, ⟨_, _, _, h3.right h6 h7, h4.append _ _⟩, fun b h0 hb => h7.block b hb (fun hg => by have := h2 b hg; omega)⟩
theorem ahd_live {c r ca ins : Int} (rm : Bool) (h : ca ≠ r) : ahd ⟨false, false, c, r, true, 0, ca, ins⟩ (.map []) rm = ((false, 0), ⟨false, false, c + 1, r + 1, true, 0, ca, ins⟩) := by
  simp [ahd, plnd, pat_nil, h]
theorem ahd_burn {c r ins : Int} (rm : Bool) : ahd ⟨false, false, c, r, true, 0, r, ins⟩ (.map []) rm = ((true, 122), ⟨true, false, c + 1, r + 1, true, 0, r, ins⟩) := by
  simp [ahd]
theorem ahd_off {g : Gt} (rm : Bool) (h : g.off = true) : ahd g (.map []) rm = ((false, 122), g) := by
  simp [ahd, h]
end Go.Proofs.Ytjjncajfljbegaa
