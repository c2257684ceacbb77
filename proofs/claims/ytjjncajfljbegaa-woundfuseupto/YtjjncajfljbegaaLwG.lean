/-
  A wound on a drive, and a plain drive beside it.
-/
import Derived.Test.YtjjncajfljbegaaLwF
import Derived.Test.YtjjncajfljbegaaDsH
namespace Go.Proofs.Ytjjncajfljbegaa
open Go.RowKit Go.Maps Go.Sort
/-- A wound on a drive, a plain drive beside it; all of the call's own. -/
structure Mid (w : World) (wb db tb : Nat) (g : Gt) (σ τ : Ds) (F G : Nat → Prop) (Y : World) : Prop where
  K : Kw Y wb db none g (.map []) σ F
  D : DrAt Y tb τ G
  FG : ∀ b, F b → ¬ G b
  Gw : ¬ G wb
  F0 : ∀ b, F b → w.heap.size ≤ b
  G0 : ∀ b, G b → w.heap.size ≤ b
  w0 : w.heap.size ≤ wb
  bl : Below w.heap.size w Y
theorem Mid.below {w Y Z : World} {wb db tb : Nat} {g : Gt} {σ τ : Ds} {F G : Nat → Prop} (h : Mid w wb db tb g σ τ F G Y) (hb : Below Y.heap.size Y Z) : Mid w wb db tb g σ τ F G Z :=
  ⟨h.K.below hb, h.D.below hb, h.FG, h.Gw, h.F0, h.G0, h.w0, bt h.bl hb⟩
/-- The wound's side has turned. -/
theorem Mid.left {w Y Z : World} {wb db tb : Nat} {g g' : Gt} {σ σ' τ : Ds} {F G : Nat → Prop} (h : Mid w wb db tb g σ τ F G Y) (hK : Kw Z wb db none g' (.map []) σ' (Fn F Y Z)) (hT : Tn (fun b => b = wb ∨ F b) Y Z) : Mid w wb db tb g' σ' τ (Fn F Y Z) G Z := by
  have s1 := hT.size
  have s0 := h.bl.size
  refine ⟨hK, h.D.tn hT (fun b hb e => e.elim (fun e => h.Gw (e ▸ hb)) (fun e => h.FG b e hb)), ?_, h.Gw, ?_, h.G0, h.w0, tn_below h.bl hT ?_⟩
  · rintro b (h9 | h9) h8
    · exact h.FG b h9 h8
    · have := h.D.2.1 b h8; omega
  · rintro b (h9 | h9)
    · exact h.F0 b h9
    · omega
  · rintro b (rfl | h9)
    · exact h.w0
    · exact h.F0 b h9
/-- The plain drive's side has turned. -/
theorem Mid.right {w Y Z : World} {wb db tb : Nat} {g : Gt} {σ τ τ' : Ds} {F G : Nat → Prop} (h : Mid w wb db tb g σ τ F G Y) (hD : DrAt Z tb τ' (Fn G Y Z)) (hT : Tn G Y Z) : Mid w wb db tb g σ τ' F (Fn G Y Z) Z := by
  have s1 := hT.size
  have s0 := h.bl.size
  refine ⟨h.K.tn hT h.FG h.Gw (fun b e => by cases e), hD, ?_, ?_, h.F0, ?_, h.w0, tn_below h.bl hT h.G0⟩
  · rintro b h9 (h8 | h8)
    · exact h.FG b h9 h8
    · have := h.K.dlt b h9; omega
  · rintro (h8 | h8)
    · exact h.Gw h8
    · have := h.K.lt; omega
  · rintro b (h8 | h8)
    · exact h.G0 b h8
    · omega
/-- The wound's own block has turned. -/
theorem Mid.own {w Y Z : World} {wb db tb : Nat} {g g' : Gt} {σ τ : Ds} {F G : Nat → Prop} (h : Mid w wb db tb g σ τ F G Y) (hK : Kw Z wb db none g' (.map []) σ F) (hT : Tn (· = wb) Y Z) : Mid w wb db tb g' σ τ F G Z :=
  ⟨hK, h.D.tn hT (fun b hb e => h.Gw (e ▸ hb)), h.FG, h.Gw, h.F0, h.G0, h.w0, tn_below h.bl hT (fun b e => by have : b = wb := e; have := h.w0; omega)⟩
/-- A step's data, as far as the calls want it. -/
structure Dt (w Y : World) (s : Sp) (d : Tx) : Prop where
  rx : Rx Y s.pd d
  lo : ∀ a, s.pd = some a → d ≠ [] → a.block < w.heap.size
  ln : d.length = s.nd
  nd : s.nd ≤ 134217728
  hx : s.x.length ≤ 140737488355328
  hy : s.y.length ≤ 140737488355328
theorem Dt.below {w Y Z : World} {s : Sp} {d : Tx} (h : Dt w Y s d) (hb : Below Y.heap.size Y Z) : Dt w Z s d := ⟨h.rx.below hb, h.lo, h.ln, h.nd, h.hx, h.hy⟩
theorem Dt.tn {w Y Z : World} {s : Sp} {d : Tx} {G : Nat → Prop} (h : Dt w Y s d) (hT : Tn G Y Z) (hG : ∀ b, G b → w.heap.size ≤ b) (hs : w.heap.size ≤ Y.heap.size) : Dt w Z s d :=
  ⟨rx_tn h.rx hT (fun a e hd => by have := h.lo a e hd; exact ⟨fun h9 => by have := hG _ h9; omega, by omega⟩), h.lo, h.ln, h.nd, h.hx, h.hy⟩
theorem Mid.hurt {w Y : World} {wb db tb m : Nat} {g : Gt} {σ τ : Ds} {F G : Nat → Prop} (h : Mid w wb db tb g σ τ F G Y) (gok : Gok g) (ok : Okk m σ) (hm : m ≤ 134217728) {s : Sp} {d : Tx} (hd : Dt w Y s d) (c : Int) (hc : 1 ≤ c ∧ c ≤ 8) : Calls Try.prog 14 #[.pointer (some ⟨wb, 0, none⟩), .agg (s.v c)] Y fun e Z => ∃ v, e = .returned v ∧ SdV Z Y.heap.size v (hans c.toNat g (.map []) σ s.x s.y d) ∧ Mid w wb db tb (ahd g (.map []) (hrm c.toNat)).2 (hnxt c.toNat g (.map []) σ s.x s.y d) τ (Fn F Y Z) G Z ∧ Tn (fun b => b = wb ∨ F b) Y Z ∧ Dt w Z s d := by
  refine (hurt_all h.K gok ok hm s d hd.rx hd.ln hd.nd hd.hx hd.hy c hc).mono ?_
  rintro e Z ⟨v, h1, h2, h3, h4⟩
  exact ⟨v, h1, h2, h.left h3 h4, h4, hd.tn h4 (fun b e => e.elim (fun e => e ▸ h.w0) (h.F0 b)) h.bl.size⟩
theorem Mid.plain {w Y : World} {wb db tb m : Nat} {g : Gt} {σ τ : Ds} {F G : Nat → Prop} (h : Mid w wb db tb g σ τ F G Y) (ok : Okk m τ) (hm : m ≤ 134217728) {s : Sp} {d : Tx} (hd : Dt w Y s d) (c : Int) (hc : 1 ≤ c ∧ c ≤ 8) : Calls Try.prog 15 #[.pointer (some ⟨tb, 0, none⟩), .agg (s.v c)] Y fun e Z => ∃ v, e = .returned v ∧ SdV Z Y.heap.size v (ans c.toNat τ s.x s.y d) ∧ Mid w wb db tb g σ (nxt c.toNat τ s.x s.y d) F (Fn G Y Z) Z ∧ Tn G Y Z ∧ Dt w Z s d := by
  refine (plain_all h.D ok hm s d hd.rx hd.ln hd.nd hd.hx hd.hy c hc).mono ?_
  rintro e Z ⟨v, h1, h2, h3, h4⟩
  exact ⟨v, h1, h2, h.right h3 h4, h4, hd.tn h4 h.G0 h.bl.size⟩
theorem SdV.below {Y Z : World} {base : Nat} {v : Value} {a : An} (h : SdV Y base v a) (hb : Below Y.heap.size Y Z) : SdV Z base v a := by
  obtain ⟨dv, nv, e, h1, h2⟩ := h
  exact ⟨dv, nv, e, own_below h1 hb, own_below h2 hb⟩
theorem Mid.level {w Y : World} {wb db tb m : Nat} {g : Gt} {σ : Ds} {F G : Nat → Prop} (h : Mid w wb db tb g σ σ F G Y) (ok : Okk m σ) (hm : m ≤ 134217728) : Calls Try.prog 19 #[.pointer (some ⟨db, 0, none⟩), .pointer (some ⟨tb, 0, none⟩)] Y fun e Z => e = .returned (.bool true) ∧ Mid w wb db tb g σ σ F G Z ∧ Below Y.heap.size Y Z := by
  refine (level_same h.K.2.2.1 h.D ok hm).mono ?_
  rintro e Z ⟨h1, h2⟩
  exact ⟨h1, h.below h2, h2⟩
theorem Mid.wcrash {w Y : World} {wb db tb m : Nat} {g : Gt} {σ τ : Ds} {F G : Nat → Prop} (h : Mid w wb db tb g σ τ F G Y) (ok : Okk m σ) (hm : m ≤ 134217728) (pd : Option Addr) (nd cd : Nat) (dirs : List Bool) (hdl : dirs.length = nd) (hd : Bls Y pd dirs) (pc : Option Addr) (nc cc : Nat) (cuts : List Int) (hcl : cuts.length = nc) (hc : Ils Y pc cuts) (hnd : nd ≤ 1000000000) (hnc : nc ≤ 1000000000) (hcF : ∀ b o, pc = some ⟨b, o, none⟩ → ¬ F b) : Calls Try.prog 23 #[.pointer (some ⟨db, 0, none⟩), .agg #[.slice pd nd cd, .slice pc nc cc]] Y fun e Z => e = .returned (.int .i64 0) ∧ Mid w wb db tb g (σ.crash dirs cuts) τ (Fn F Y Z) G Z ∧ Tn F Y Z := by
  refine (crash_any h.K.2.2.1 ok hm pd nd cd dirs hdl hd pc nc cc cuts hcl hc hnd hnc hcF).mono ?_
  rintro e Z ⟨h1, h2, h3⟩
  refine ⟨h1, h.left ⟨h.K.1.tn h3 h.K.2.2.2.1, .inl ⟨rfl, rfl⟩, h2, ?_, fun b e => by cases e⟩ (h3.more (fun _ h => .inr h)), h3⟩
  rintro (h9 | h9)
  · exact h.K.2.2.2.1 h9
  · have := h.K.lt; omega
theorem Mid.tcrash {w Y : World} {wb db tb m : Nat} {g : Gt} {σ τ : Ds} {F G : Nat → Prop} (h : Mid w wb db tb g σ τ F G Y) (ok : Okk m τ) (hm : m ≤ 134217728) (pd : Option Addr) (nd cd : Nat) (dirs : List Bool) (hdl : dirs.length = nd) (hd : Bls Y pd dirs) (pc : Option Addr) (nc cc : Nat) (cuts : List Int) (hcl : cuts.length = nc) (hc : Ils Y pc cuts) (hnd : nd ≤ 1000000000) (hnc : nc ≤ 1000000000) (hcG : ∀ b o, pc = some ⟨b, o, none⟩ → ¬ G b) : Calls Try.prog 23 #[.pointer (some ⟨tb, 0, none⟩), .agg #[.slice pd nd cd, .slice pc nc cc]] Y fun e Z => e = .returned (.int .i64 0) ∧ Mid w wb db tb g σ (τ.crash dirs cuts) F (Fn G Y Z) Z ∧ Tn G Y Z := by
  refine (crash_any h.D ok hm pd nd cd dirs hdl hd pc nc cc cuts hcl hc hnd hnc hcG).mono ?_
  rintro e Z ⟨h1, h2, h3⟩
  exact ⟨h1, h.right h2 h3, h3⟩
/-- All names are texts. -/
def SK (D : Dir) : Prop := ∃ es, D = .map es ∧ ∀ p ∈ es, ∃ x : Tx, p.1 = .string x
theorem ins_mem {x p : Lit × DataW Unit} : ∀ l : List (Lit × DataW Unit), p ∈ DataW.insert x l → p = x ∨ p ∈ l
  | [], h => by simp [DataW.insert] at h; exact .inl h
  | y :: r, h => by
    unfold DataW.insert at h
    split at h
    · rcases List.mem_cons.1 h with h | h
      · exact .inl h
      · exact .inr h
    · rcases List.mem_cons.1 h with h | h
      · exact .inr (by simp [h])
      · rcases ins_mem r h with h | h
        · exact .inl h
        · exact .inr (by simp [h])
theorem SK.fol1 {D : Dir} (h : SK D) (l : Ld) : SK (fol1 D l) := by
  obtain ⟨es, rfl, hk⟩ := h
  unfold Go.Proofs.Ytjjncajfljbegaa.fol1
  split
  · exact ⟨_, rfl, fun p hp => hk p (List.mem_filter.1 hp).1⟩
  · refine ⟨_, rfl, fun p hp => ?_⟩
    rcases ins_mem _ hp with h | h
    · exact ⟨l.1, by rw [h]⟩
    · exact hk p (List.mem_filter.1 h).1
theorem SK.fol {D : Dir} (h : SK D) (c : List Ld) : SK (fol D c) := by
  unfold Go.Proofs.Ytjjncajfljbegaa.fol
  induction c generalizing D with
  | nil => exact h
  | cons l c ih => exact ih (h.fol1 l)
theorem SK.crf {σ : Ds} (h : SK σ.sf) (dirs : List Bool) : ∀ k, SK (crf σ dirs k)
  | 0 => h
  | k + 1 => by
    rw [crf_succ]
    split
    · exact (SK.crf h dirs k).fol _
    · exact SK.crf h dirs k
theorem SK.has {D : Dir} (h : SK D) : ∀ x ∈ nms D, has D (.string x) = true := by
  intro x hx
  obtain ⟨es, rfl, hk⟩ := h
  obtain ⟨p, hp, rfl⟩ := List.mem_map.1 (nms_mem.1 hx)
  obtain ⟨y, hy⟩ := hk p hp
  rw [has_eq, List.any_eq_true]
  refine ⟨p, hp, ?_⟩
  rw [hy]
  simp [strOf, Lit.sameKey]
theorem SK.of {w : World} {m : List Nat} {s : Nat} {D : Dir} (h : MpAt w m s D) : SK D := by
  obtain ⟨es, e, hko⟩ := World.ownsMap.keysOf h
  refine ⟨es, e, fun p hp => ?_⟩
  obtain ⟨v, hv⟩ := hko p hp
  obtain ⟨y, _, hy, _⟩ := Maps.keyOf_str undS hv
  exact ⟨y, hy⟩
/-- A drive behind a loss of power. -/
theorem crn_ci {K Z : Nat} {τ : Ds} (cuts : List Int) (h : CI K 0 Z τ) (hk : ∀ x ∈ nms τ.sf, has τ.sf (.string x) = true) : ∀ k, k ≤ (nms τ.sf).length → CI K k Z (crn τ cuts k) ∧ ∀ y, has τ.sf (.string y) = true → has (crn τ cuts k).sf (.string y) = true
  | 0, _ => ⟨h, fun _ h => h⟩
  | k + 1, hle => by
    obtain ⟨h1, h2⟩ := crn_ci cuts h hk k (by omega)
    have hx := hk ((nms τ.sf).getD k []) (by simp [show k < (nms τ.sf).length by omega])
    rw [crn_succ]
    exact ⟨h1.step (h2 _ hx) _, fun y hy => has_crs h1.ti _ (h2 y hy)⟩
theorem crn_pend (τ : Ds) (cuts : List Int) : ∀ k, (crn τ cuts k).pend = τ.pend
  | 0 => rfl
  | k + 1 => by rw [crn_succ]; exact crn_pend τ cuts k
theorem Okk.crash {m : Nat} {σ : Ds} {w : World} {db : Nat} {F : Nat → Prop} (h : Okk m σ) (hm : m ≤ 134217728) (dirs : List Bool) (cuts : List Int) (hD : DrAt w db σ F) : Okk m (σ.crash dirs cuts) := by
  obtain ⟨_, _, mm, rv, st, sf, pv, S, R⟩ := hD
  have h1 := cr1_ci h (h.okp hm) R dirs
  have hsk : SK σ.sf := by
    rcases R.dirs with ⟨_, _, _, e, _⟩ | ⟨s, f, _, _, _, _, _, _, hM⟩
    · exact ⟨[], e, fun p hp => by simp at hp⟩
    · exact SK.of hM
  have hk : ∀ x ∈ nms (cr1 σ dirs).sf, has (cr1 σ dirs).sf (.string x) = true := (hsk.crf dirs σ.pend.length).has
  obtain ⟨h2, _⟩ := crn_ci cuts h1 hk _ (Nat.le_refl _)
  have hl : (nms (cr1 σ dirs).sf).length ≤ 2 * m := by
    have h9 := h1.sz
    rw [nms_len]
    obtain ⟨es, e, _⟩ := h1.ti
    rw [e] at h9 ⊢
    simpa [strKeys, Maps.size] using h9
  have hu := h2.u1
  have hmul : (nms (cr1 σ dirs).sf).length * m ≤ m * 268435456 := by
    have : (nms (cr1 σ dirs).sf).length * m ≤ 268435456 * m := Nat.mul_le_mul_right m (by omega)
    rw [Nat.mul_comm m 268435456]
    exact this
  have hp : (crn (cr1 σ dirs) cuts (nms (cr1 σ dirs).sf).length).pend = [] := crn_pend _ _ _
  unfold Ds.crash
  refine ⟨?_, ?_, fun i => (h2.bo i).2, fun i => (h2.bo i).1, h2.ti, h2.ti, h2.sz, ?_, ?_, h2.nn, h2.nn⟩
  · have := h2.u0
    show _ ≤ (crn (cr1 σ dirs) cuts (nms (cr1 σ dirs).sf).length).used
    omega
  · show (crn (cr1 σ dirs) cuts (nms (cr1 σ dirs).sf).length).used ≤ _
    omega
  · show Maps.size (crn (cr1 σ dirs) cuts (nms (cr1 σ dirs).sf).length).sf + 2 * (crn (cr1 σ dirs) cuts (nms (cr1 σ dirs).sf).length).pend.length ≤ _
    rw [hp]
    have := h2.sz
    simp only [List.length_nil]
    omega
  · intro c hc
    have hc' : c ∈ (crn (cr1 σ dirs) cuts (nms (cr1 σ dirs).sf).length).pend := hc
    rw [hp] at hc'
    simp at hc'
end Go.Proofs.Ytjjncajfljbegaa
