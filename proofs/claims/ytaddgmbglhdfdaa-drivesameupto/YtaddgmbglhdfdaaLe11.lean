/-
  Layer 11's laws: 'twin'.
-/
import Derived.Test.YtaddgmbglhdfdaaLd11
import Derived.Test.YtaddgmbglhdfdaaLa11
namespace Go.Proofs.Ytaddgmbglhdfdaa
open Go.RowKit Go.Maps Go.Sort
/-- append(v, x..) as a step of a region that draws its order. -/
theorem step_apS {w : World} {ops : Array Oper} {o : Oper} {a : Act} {K : Act → World → Prop} {Q : Exit → Act → World → Prop} {E : Prop} (hgd : o.guard = none) (s x : Operand) (t te : TypeId) (ho : o.op = .call { callee := .builtin .append, args := #[s, x], argTypes := #[t, t] })
    (ht : Try.prog.underlying t = some (.slice te)) {z : Value} {by' : Nat} (hi : (Try.prog.info? te).map (fun i => (i.zero, i.size, i.bytes)) = some (some z, 1, by')) (hz : z.cells.size = 1)
    (base : Nat) (v : Value) (n : Nat) (xs : List Value) (hs : a.eval s = v) (hown : w.ownsRow base te 1 v n xs) (p : Option Addr) (m c : Nat) (ys : List Value) (hx : a.eval x = .slice p m c) (hr : Sr w p ys) (hm : ys.length = m) (h1 : ∀ u ∈ ys, u.oneCell' = true)
    (hl : n + m ≤ 1000000000000) (hb : by' ≤ 64) (hbase : base ≤ w.heap.size)
    (h : ∀ v' w', w'.ownsRow base te 1 v' (n + m) (xs ++ ys) → w.grownBy w' v.ownBlock → K (a.put o.dst v') w') : if Region.wanted o (yielded ops a.tmps) = true then Oper.wp Try.prog o a w K Q else E := by
  have hw : Region.wanted o (yielded ops a.tmps) = true := by simp [Region.wanted, hgd]
  rw [if_pos hw]
  obtain ⟨i0, hi0, hz0, hz1, hz2⟩ := info_parts hi
  have hby : (n + m) * by' ≤ 140737488355328 := by
    have := Nat.mul_le_mul hl hb
    omega
  cases p with
  | some ad =>
    rcases hr with hr | ⟨b, of, e, hr⟩
    · subst hr
      exact wp_append_own w s x t ho base te i0 z 1 by' ht hi0 hz0 hz1 hz2 hz (by decide) v n xs hs hown ad m c [] hx (by rw [← hm]; rfl) (fun j u hj => by simp at hj) h1 (by unfold maxLen; omega) hby hbase (fun v' w' a b _ => h v' w' a b)
    · injection e with e
      subst e
      refine wp_append_own w s x t ho base te i0 z 1 by' ht hi0 hz0 hz1 hz2 hz (by decide) v n xs hs hown ⟨b, of, none⟩ m c ys hx (by rw [hm]; omega) (fun j u hj => ?_) h1 (by unfold maxLen; omega) hby hbase (fun v' w' a b _ => h v' w' a b)
      have hl : j < ys.length := (List.getElem?_eq_some_iff.1 hj).1
      rw [add_pl, hr j hl, ← hj]
      simp [hl]
  | none =>
    have hys : ys = [] := by
      rcases hr with e | ⟨b, off, e, _⟩
      · exact e
      · cases e
    subst hys
    obtain rfl : 0 = m := hm
    obtain ⟨q, cap, rfl, hcap⟩ := own_form hown
    have hrun := run_append_nix (P := Try.prog) (w := w) t o.type te i0 ht hi0 q n cap c hcap
    unfold Oper.wp
    simp [execOp, ho, resolve, invoke, builtin, hs, hx, hrun, Result.andThen]
    exact h _ w (by rw [List.append_nil]; exact hown) ⟨rfl, rfl, rfl, Nat.le_refl _, fun _ _ _ => rfl⟩
theorem own_new0 (w : World) (te : TypeId) (B : Nat) (hB : B ≤ w.heap.size) : (w.alloc (.cells #[] te)).ownsRow B te 1 (.slice (some ⟨w.heap.size, 0, none⟩) 0 0) 0 [] := own_up (own_empty w te) hB
/-- An act whose lists were copied. -/
structure TwR (w w' : World) (s s' : Ac) (l : Al) : Prop where
  x : s'.x = s.x ∧ s'.y = s.y ∧ s'.n = s.n
  at' : AcAt w' s' l
  pn : ∀ b o, s'.pd = some ⟨b, o, none⟩ → w.heap.size ≤ b ∧ b < w'.heap.size
  qn : ∀ b o, s'.qd = some ⟨b, o, none⟩ → w.heap.size ≤ b ∧ b < w'.heap.size
  rn : ∀ b o, s'.rd = some ⟨b, o, none⟩ → w.heap.size ≤ b ∧ b < w'.heap.size
theorem own_rx {w : World} {base : Nat} {p : Option Addr} {c n : Nat} {d : Tx} (h : w.ownsRow base 5 1 (.slice p n c) n (d.map u8v)) (hn : d.length = n) : Rx w p d := by
  by_cases h0 : d = []
  · exact .inl h0
  · have hp : 0 < n := by
      cases d with
      | nil => exact absurd rfl h0
      | cons a l => rw [← hn]; simp
    obtain ⟨g, cg, cur, hp', _, hc0⟩ := own_cell h 0 hp
    injection hp' with hp'
    refine .inr ⟨g, 0, hp', fun i hi => ?_⟩
    obtain ⟨g2, cg2, cur2, hp2, _, hc⟩ := own_cell h i (by omega)
    injection hp2 with hp2
    rw [hp'] at hp2
    injection hp2 with hp2
    injection hp2 with hp2
    subst hp2
    rw [Nat.zero_add, hc]
    simp only [List.getD, List.getElem?_map, List.getElem?_eq_getElem hi]
    rfl
theorem own_drew {w : World} {base : Nat} {te : TypeId} {sz n : Nat} {v : Value} {xs : List Value} (h : w.ownsRow base te sz v n xs) : w.drew.ownsRow base te sz v n xs := h
theorem sr_drew {w : World} {p : Option Addr} {xs : List Value} (h : Sr w p xs) : Sr w.drew p xs := h
theorem own_sep {w : World} {b1 b2 : Nat} {t1 t2 : TypeId} {n1 n2 s1 s2 : Nat} {u v : Value} {xs ys : List Value} (h1 : w.ownsRow b1 t1 s1 u n1 xs) (h2 : w.ownsRow b2 t2 s2 v n2 ys) (ht : t1 ≠ t2) : ∀ g, u.ownBlock = some g → v.ownBlock ≠ some g := by
  intro g e1 e2
  obtain ⟨_, _, cs, k1⟩ := own_lt h1 e1
  obtain ⟨_, _, cs', k2⟩ := own_lt h2 e2
  rw [k1] at k2
  injection k2 with k2
  injection k2 with _ k3
  exact ht k3
def acZ : Array Value := #[.int .i64 0, .string ⟨#[]⟩, .string ⟨#[]⟩, .int .i64 0, .slice none 0 0, .slice none 0 0, .slice none 0 0]
theorem ac0 (w : World) : (zeroValue 46).run Try.prog w = .ok (.agg acZ) w := by unfold acZ; kernel_rfl
theorem bs0U (w : World) : (Instr.buildSlice 26 0 #[]).run Try.prog w = .ok (.slice (some ⟨w.heap.size, 0, none⟩) 0 0) (w.alloc (.cells #[] 5)) := by kernel_rfl
theorem ac_set4 {Y : World} {g : Nat} {t : TypeId} {s : Ac} {k : Int} (h : GB Y g t (s.v k)) (p : Option Addr) (n c : Nat) : GB (Y.setCell ⟨g, 4, none⟩ (.slice p n c)) g t ((⟨s.x, s.y, s.n, p, n, c, s.qd, s.nq, s.cq, s.rd, s.nr, s.cr⟩ : Ac).v k) := by
  unfold GB Ac.v at *
  exact heap_setCell_same _ _ 4 _ _ _ h
theorem ac_set56 {Y : World} {g : Nat} {t : TypeId} {s : Ac} {k : Int} (h : GB Y g t (s.v k)) (p : Option Addr) (n c : Nat) (q : Option Addr) (m d : Nat) : GB ((Y.setCell ⟨g, 5, none⟩ (.slice p n c)).setCell ⟨g, 6, none⟩ (.slice q m d)) g t ((⟨s.x, s.y, s.n, s.pd, s.nd, s.cd, p, n, c, q, m, d⟩ : Ac).v k) := by
  unfold GB Ac.v at *
  exact heap_setCell_same _ _ 6 _ _ _ (heap_setCell_same _ _ 5 _ _ _ h)
theorem ac_one {s : Ac} {k : Int} : ((s.v k).all fun x => x.oneCell') = true := by unfold Ac.v; simp [Value.oneCell', encStr]
theorem ac_sz {s : Ac} {k : Int} : (s.v k).size = acZ.size := by unfold Ac.v acZ; rfl
theorem acv_sz {s : Ac} {k : Int} : (Try.prog.info? 46).map (·.size) = some (s.v k).size := by unfold Ac.v; exact size_Ac
/-- An act in the box whose lists are the call's own. -/
structure TwS (w w1 w2 w5 : World) (s5 : Ac) (k : Int) (l : Al) (p7 : Option Addr) (d7 n7 : Nat) (p8 : Option Addr) (d8 n8 : Nat) (X : World) : Prop where
  g : GB X w.heap.size 46 ((⟨s5.x, s5.y, s5.n, s5.pd, s5.nd, s5.cd, p7, n7, d7, p8, n8, d8⟩ : Ac).v k)
  b : X.ownsRow w5.heap.size 4 1 (.slice p7 n7 d7) n7 (l.dirs.map bov)
  i : X.ownsRow w5.heap.size 3 1 (.slice p8 n8 d8) n8 (l.cuts.map inv6)
  u : X.ownsRow w2.heap.size 5 1 (.slice s5.pd s5.nd s5.cd) s5.nd (l.d.map u8v)
  z : GB X w1.heap.size 46 acZ
  bl : Below w.heap.size w X
  sz : w5.heap.size ≤ X.heap.size
theorem own_set {w : World} {g i : Nat} {t te : TypeId} {cs : Array Value} {base sz n : Nat} {v u : Value} {xs : List Value} (G : GB w g t cs) (h : w.ownsRow base te sz v n xs) (ht : t ≠ te) : (w.setCell ⟨g, i, none⟩ u).ownsRow base te sz v n xs := ob_same h (fun _ e => Below.heap_setCell _ _ _ _ (fun e2 => G.ne h e ht e2))
theorem gb_other {w : World} {g g' i : Nat} {t : TypeId} {cs : Array Value} {u : Value} (h : GB w g' t cs) (hne : g' ≠ g) : GB (w.setCell ⟨g, i, none⟩ u) g' t cs := by
  unfold GB at h ⊢
  rw [Below.heap_setCell _ _ _ _ hne]
  exact h
theorem tw_end {w w1 w2 w5 z8 : World} {s5 : Ac} {k : Int} {l : Al} {p7 : Option Addr} {d7 n7 : Nat} {p8 : Option Addr} {d8 n8 : Nat} (G : GB z8 w.heap.size 46 (s5.v k)) (hb : z8.ownsRow w5.heap.size 4 1 (.slice p7 n7 d7) n7 (l.dirs.map bov)) (hi : z8.ownsRow w5.heap.size 3 1 (.slice p8 n8 d8) n8 (l.cuts.map inv6)) (hu : z8.ownsRow w2.heap.size 5 1 (.slice s5.pd s5.nd s5.cd) s5.nd (l.d.map u8v)) (hz : GB z8 w1.heap.size 46 acZ) (bl : Below w.heap.size w z8) (sz : w5.heap.size ≤ z8.heap.size) (hne : w.heap.size < w1.heap.size) : TwS w w1 w2 w5 s5 k l p7 d7 n7 p8 d8 n8 ((z8.setCell ⟨w.heap.size, 5, none⟩ (.slice p7 n7 d7)).setCell ⟨w.heap.size, 6, none⟩ (.slice p8 n8 d8)) := by
  have G1 : ∃ cs, GB (z8.setCell ⟨w.heap.size, 5, none⟩ (.slice p7 n7 d7)) w.heap.size 46 cs := by
    unfold GB at G ⊢
    exact ⟨_, heap_setCell_same _ _ 5 _ _ _ G⟩
  obtain ⟨cs, G1⟩ := G1
  exact ⟨ac_set56 G p7 n7 d7 p8 n8 d8, own_set G1 (own_set G hb (by decide)) (by decide), own_set G1 (own_set G hi (by decide)) (by decide), own_set G1 (own_set G hu (by decide)) (by decide), gb_other (gb_other hz (by omega)) (by omega), (bl.setCell (Nat.le_refl _) _).setCell (Nat.le_refl _) _, by simp [World.setCell]; exact sz⟩
theorem tw_done {w w1 w2 w5 w6 w7 : World} {s s5 s6 : Ac} {k : Int} {l : Al} {p4 : Option Addr} {q4 : Nat} {p7 : Option Addr} {d7 : Nat} {p8 : Option Addr} {d8 : Nat} (h : TwS w w1 w2 w5 s5 k l p7 d7 s.nq p8 d8 s.nr w6) (h6 : s6 = ⟨s5.x, s5.y, s5.n, s5.pd, s5.nd, s5.cd, p7, s.nq, d7, p8, s.nr, d8⟩) (h5 : s5 = ⟨s.x, s.y, s.n, p4, s.nd, q4, s.qd, s.nq, s.cq, s.rd, s.nr, s.cr⟩) (hg : w6.grownBy w7 (some w1.heap.size)) (hs : w7.heap.size = w6.heap.size) (hA : AcAt w s l) (n1 : w.heap.size < w1.heap.size) (n2 : w1.heap.size < w2.heap.size) (n5 : w2.heap.size ≤ w5.heap.size) : TwR w w7 s s6 l ∧ Below w.heap.size w w7 := by
  have hb := own_kept h.b hg (fun g e e2 => h.z.ne h.b e (by decide) (by injection e2 with e2; exact e2.symm))
  have hi := own_kept h.i hg (fun g e e2 => h.z.ne h.i e (by decide) (by injection e2 with e2; exact e2.symm))
  have hu := own_kept h.u hg (fun g e e2 => h.z.ne h.u e (by decide) (by injection e2 with e2; exact e2.symm))
  subst h6
  subst h5
  refine ⟨⟨⟨rfl, rfl, rfl⟩, ⟨own_rx hu hA.dl, hA.dl, ?_, hA.ql, own_ils hi hA.rl, hA.rl, hA.nx, hA.ny, hA.nd, hA.nq, hA.nr⟩, fun b o e => ?_, fun b o e => ?_, fun b o e => ?_⟩, grown_below h.bl hg h.bl.size (by omega)⟩
  · have h9 := own_bls hb hA.ql l.dirs.length
    rw [List.take_length] at h9
    exact h9
  · have := own_base hu e
    omega
  · have := own_base hb e
    omega
  · have := own_base hi e
    omega
section
attribute [local irreducible] Calls GB ftC Ac.v acZ
set_option maxHeartbeats 4000000 in
set_option maxRecDepth 1000000 in
theorem twin_any {w : World} (k : Int) (s : Ac) (l : Al) (hA : AcAt w s l) : Calls Try.prog 33 #[.agg (s.v k)] w fun e w' => ∃ s', e = .returned (.agg (s'.v k)) ∧ TwR w w' s s' l ∧ Below w.heap.size w w' := by
  have HA := (show Hid (AcAt w s l) from hA)
  clear hA
  go_enter Try.func33, Try.ntmps33
  go_upto_region 1 with (first
    | (refine wpList_bxB (cs := s.v k) rfl _ rfl rfl ?_; intro w1 hG1 hb1 hs1)
    | (refine wpList_alB (cs := acZ) rfl rfl ac0 ?_; intro w2 hG2 hb2 hs2))
  have G2 := (show Hid (GB w2 w.heap.size 46 (s.v k) ∧ GB w2 w1.heap.size 46 acZ) from ⟨hG1.below hb2, hG2⟩)
  have B2 := (show Hid (Below w.heap.size w w2) from bt hb1 hb2)
  have N2 := (show Hid (w.heap.size < w1.heap.size ∧ w1.heap.size < w2.heap.size) from ⟨by have := hs1.out; omega, by have := hs2.out; omega⟩)
  clear hG1 hb1 hs1 hG2 hb2 hs2
  have LU := (show Hid ((l.d.map u8v).length = s.nd ∧ s.nd ≤ 134217728) from ⟨by rw [List.length_map, HA.out.dl], HA.out.nd⟩)
  go_upto_region 2 with (first
    | (refine wpList_bsH (len := 0) (t := 26) (te := 5) (ps := #[]) (cs := #[]) rfl rfl (by simp) (bs0U w2) ?_; intro w3 hG3 hb3 hs3; have G3 := (show Hid (GB w3 w.heap.size 46 (s.v k)) from G2.out.1.below hb3); obtain ⟨_, _, _, _, c4, _, _⟩ := ac_c G3.out)
    | (at_builtin; refine wpList_apS rfl (.tmp 3) (.tmp 5) 26 5 rfl Try.underlying26 info5 rfl w2.heap.size _ 0 [] rfl hG3.own0 s.pd s.nd s.cd (l.d.map u8v) rfl (HA.out.rx.sr.below (bt B2.out hb3)) LU.out.1 (u8s_one l.d) (by have := LU.out.2; omega) (by decide) hb3.size ?_; intro v4 w4 ho4 hg4 hk4; rw [Nat.zero_add, List.nil_append] at ho4; obtain ⟨p4, q4, hv4, _⟩ := own_form ho4; subst hv4; have G4 := (show Hid (GB w4 w.heap.size 46 (s.v k)) from G3.out.kept hg4 (fun e => G3.out.ne hG3.own0 e (by decide) rfl)); obtain ⟨_, _, _, _, d4, _, _⟩ := ac_c G4.out; have f4 := G4.out.frozen 4))
  have G5 := (show Hid (GB (w4.setCell ⟨w.heap.size, 4, none⟩ (.slice p4 s.nd q4)) w.heap.size 46 ((⟨s.x, s.y, s.n, p4, s.nd, q4, s.qd, s.nq, s.cq, s.rd, s.nr, s.cr⟩ : Ac).v k)) from ac_set4 G4.out p4 s.nd q4)
  have O5 := (show Hid ((w4.setCell ⟨w.heap.size, 4, none⟩ (.slice p4 s.nd q4)).ownsRow w2.heap.size 5 1 (.slice p4 s.nd q4) s.nd (l.d.map u8v)) from ob_same ho4 (fun g e => Below.heap_setCell _ _ _ _ (fun e2 => G4.out.ne ho4 e (by decide) e2)))
  have Z5 := (show Hid (GB (w4.setCell ⟨w.heap.size, 4, none⟩ (.slice p4 s.nd q4)) w1.heap.size 46 acZ) from by
    have h1 := (G2.out.2.below hb3).kept hg4 (fun e => (G2.out.2.below hb3).ne hG3.own0 e (by decide) rfl)
    have h2 := N2.out
    unfold GB at h1 ⊢
    rw [Below.heap_setCell _ _ _ _ (by show w1.heap.size ≠ w.heap.size; omega)]
    exact h1)
  have B5 := (show Hid (Below w.heap.size w (w4.setCell ⟨w.heap.size, 4, none⟩ (.slice p4 s.nd q4)) ∧ w2.heap.size ≤ (w4.setCell ⟨w.heap.size, 4, none⟩ (.slice p4 s.nd q4)).heap.size) from by
    have h1 := grown_own hb3 hG3.own0 hg4 hb3.size
    exact ⟨(bt B2.out h1).setCell (Nat.le_refl _) _, by have := h1.size; simp [World.setCell]; exact this⟩)
  generalize w4.setCell ⟨w.heap.size, 4, none⟩ (.slice p4 s.nd q4) = w5 at *
  clear G4 ho4 hg4 hk4 d4 f4 c4 G3 hG3 hb3 hs3 G2
  obtain ⟨s5, hs5⟩ : ∃ s5 : Ac, s5 = ⟨s.x, s.y, s.n, p4, s.nd, q4, s.qd, s.nq, s.cq, s.rd, s.nr, s.cr⟩ := ⟨_, rfl⟩
  rw [← hs5] at G5
  have HS5 := (show Hid (s5 = ⟨s.x, s.y, s.n, p4, s.nd, q4, s.qd, s.nq, s.cq, s.rd, s.nr, s.cr⟩) from hs5)
  have h56 := (show w5.cell? ⟨w.heap.size, 5, none⟩ = some (.slice s.qd s.nq s.cq) ∧ w5.cell? ⟨w.heap.size, 6, none⟩ = some (.slice s.rd s.nr s.cr) from by
    obtain ⟨_, _, _, _, _, c5, c6⟩ := ac_c G5.out
    rw [hs5] at c5 c6
    exact ⟨c5, c6⟩)
  clear hs5
  have SB := (show Hid (Sr w5 s.qd (l.dirs.map bov) ∧ (l.dirs.map bov).length = s.nq ∧ s.nq ≤ 134217728) from ⟨HA.out.bl.sr.below B5.out.1, by rw [List.length_map, HA.out.ql], HA.out.nq⟩)
  have SI := (show Hid (Sr w5 s.rd (l.cuts.map inv6) ∧ (l.cuts.map inv6).length = s.nr ∧ s.nr ≤ 134217728) from ⟨HA.out.il.sr.below B5.out.1, by rw [List.length_map, HA.out.rl], HA.out.nr⟩)
  have O5a := (show Hid ((∀ X, Below w5.heap.size w5 X → X.ownsRow w2.heap.size 5 1 (.slice s5.pd s5.nd s5.cd) s5.nd (l.d.map u8v)) ∧ (∀ X, Below w5.heap.size w5 X → GB X w1.heap.size 46 acZ)) from ⟨fun X hb => by rw [HS5.out]; exact own_below O5.out hb, fun X hb => Z5.out.below hb⟩)
  have SBn := (show Hid (0 + s.nq ≤ 1000000000000) from by have := SB.out.2.2; show _ ≤ _; omega)
  have SIn := (show Hid (0 + s.nr ≤ 1000000000000) from by have := SI.out.2.2; show _ ≤ _; omega)
  have OB1 := (show Hid ((w5.alloc (.cells #[] 4)).drew.ownsRow w5.heap.size 4 1 (.slice (some ⟨w5.heap.size, 0, none⟩) 0 0) 0 [] ∧ Sr (w5.alloc (.cells #[] 4)).drew s.qd (l.dirs.map bov) ∧ w5.heap.size ≤ (w5.alloc (.cells #[] 4)).drew.heap.size) from ⟨own_drew (own_new0 w5 _ _ (Nat.le_refl _)), sr_drew (SB.out.1.below (alb _ _)), (alb w5 _).size⟩)
  have OB2 := (show Hid (((w5.alloc (.cells #[] 4)).alloc (.cells #[] 3)).drew.ownsRow w5.heap.size 4 1 (.slice (some ⟨w5.heap.size, 0, none⟩) 0 0) 0 [] ∧ Sr ((w5.alloc (.cells #[] 4)).alloc (.cells #[] 3)).drew s.qd (l.dirs.map bov) ∧ w5.heap.size ≤ ((w5.alloc (.cells #[] 4)).alloc (.cells #[] 3)).drew.heap.size) from ⟨own_drew (own_below (own_new0 w5 _ _ (Nat.le_refl _)) (alb _ _)), sr_drew (SB.out.1.below (bt (alb _ _) (alb _ _))), (bt (alb w5 _) (alb _ _)).size⟩)
  have OI2 := (show Hid (((w5.alloc (.cells #[] 4)).alloc (.cells #[] 3)).drew.ownsRow w5.heap.size 3 1 (.slice (some ⟨w5.heap.size + 1, 0, none⟩) 0 0) 0 []) from by have h9 := own_new0 (w5.alloc (.cells #[] 4)) 3 w5.heap.size (alb w5 _).size; simp at h9; exact own_drew h9)
  have OB3 := (show Hid (((w5.alloc (.cells #[] 3)).alloc (.cells #[] 4)).drew.ownsRow w5.heap.size 4 1 (.slice (some ⟨w5.heap.size + 1, 0, none⟩) 0 0) 0 [] ∧ Sr ((w5.alloc (.cells #[] 3)).alloc (.cells #[] 4)).drew s.qd (l.dirs.map bov) ∧ w5.heap.size ≤ ((w5.alloc (.cells #[] 3)).alloc (.cells #[] 4)).drew.heap.size) from ⟨by have h9 := own_new0 (w5.alloc (.cells #[] 3)) 4 w5.heap.size (alb w5 _).size; simp at h9; exact own_drew h9, sr_drew (SB.out.1.below (bt (alb _ _) (alb _ _))), (bt (alb w5 _) (alb _ _)).size⟩)
  have OI3 := (show Hid (((w5.alloc (.cells #[] 3)).alloc (.cells #[] 4)).drew.ownsRow w5.heap.size 3 1 (.slice (some ⟨w5.heap.size, 0, none⟩) 0 0) 0 []) from own_drew (own_below (own_new0 w5 _ _ (Nat.le_refl _)) (alb _ _)))
  obtain ⟨t5, t6⟩ := h56
  have h56 := (show w5.cell? ⟨w.heap.size, 5, none⟩ = some (.slice s.qd s.nq s.cq) ∧ w5.cell? ⟨w.heap.size, 6, none⟩ = some (.slice s.rd s.nr s.cr) from ⟨t5, t6⟩)
  have tb5 := cell_below t5 (alb w5 (.cells #[] 4)).drew
  have tb6 := cell_below t6 (alb w5 (.cells #[] 4)).drew
  have ti5 := cell_below t5 (alb w5 (.cells #[] 3)).drew
  have ti6 := cell_below t6 (alb w5 (.cells #[] 3)).drew
  have tbi5 := cell_below t5 (bt (alb w5 (.cells #[] 4)) (alb _ (.cells #[] 3))).drew
  have tbi6 := cell_below t6 (bt (alb w5 (.cells #[] 4)) (alb _ (.cells #[] 3))).drew
  have tib5 := cell_below t5 (bt (alb w5 (.cells #[] 3)) (alb _ (.cells #[] 4))).drew
  have tib6 := cell_below t6 (bt (alb w5 (.cells #[] 3)) (alb _ (.cells #[] 4))).drew
  go_cut [] from 8 to 19 (fun wx => Hid (∃ (p7 : Option Addr) (d7 : Nat) (p8 : Option Addr) (d8 : Nat), TwS w w1 w2 w5 s5 k l p7 d7 s.nq p8 d8 s.nr wx))
  case first =>
    go_region_law (first
      | (refine step_apS rfl (.tmp 8) (.tmp 11) 27 4 rfl Try.underlying27 infoB rfl w5.heap.size (.slice (some ⟨w5.heap.size, 0, none⟩) 0 0) 0 [] (by first | (simp [Act.eval]; done) | simp [Act.eval, Act.put]) OB1.out.1 s.qd s.nq s.cq (l.dirs.map bov) (by first | (simp [Act.eval]; done) | simp [Act.eval, Act.put]) OB1.out.2.1 SB.out.2.1 (bov_one l.dirs) SBn.out (by decide) OB1.out.2.2 ?_; intro v7 z7 ho7 hg7; rw [Nat.zero_add, List.nil_append] at ho7; obtain ⟨p7, d7, hv7, _⟩ := own_form ho7; subst hv7; have Z7 := (show Hid (Below w5.heap.size w5 z7 ∧ z7.ownsRow w5.heap.size 4 1 (.slice p7 s.nq d7) s.nq (l.dirs.map bov)) from ⟨grown_own (alb w5 _).drew OB1.out.1 hg7 OB1.out.2.2, ho7⟩); have e6 := cell_below h56.2 Z7.out.1; have e5 := cell_below h56.1 Z7.out.1; have g6 := cell_below e6 (alb z7 (.cells #[] 3)); have OI := (show Hid ((z7.alloc (.cells #[] 3)).ownsRow w5.heap.size 3 1 (.slice (some ⟨z7.heap.size, 0, none⟩) 0 0) 0 [] ∧ Sr (z7.alloc (.cells #[] 3)) s.rd (l.cuts.map inv6) ∧ w5.heap.size ≤ (z7.alloc (.cells #[] 3)).heap.size ∧ Below w5.heap.size w5 (z7.alloc (.cells #[] 3)) ∧ (z7.alloc (.cells #[] 3)).ownsRow w5.heap.size 4 1 (.slice p7 s.nq d7) s.nq (l.dirs.map bov)) from ⟨own_new0 z7 _ _ Z7.out.1.size, SI.out.1.below (bt Z7.out.1 (alb _ _)), (bt Z7.out.1 (alb z7 _)).size, bt Z7.out.1 (alb _ _), own_below Z7.out.2 (alb _ _)⟩))
      | (refine step_apS rfl (.tmp 8) (.tmp 11) 27 4 rfl Try.underlying27 infoB rfl w5.heap.size (.slice (some ⟨w5.heap.size, 0, none⟩) 0 0) 0 [] (by first | (simp [Act.eval]; done) | simp [Act.eval, Act.put]) OB2.out.1 s.qd s.nq s.cq (l.dirs.map bov) (by first | (simp [Act.eval]; done) | simp [Act.eval, Act.put]) OB2.out.2.1 SB.out.2.1 (bov_one l.dirs) SBn.out (by decide) OB2.out.2.2 ?_; intro v7 z7 ho7 hg7; rw [Nat.zero_add, List.nil_append] at ho7; obtain ⟨p7, d7, hv7, _⟩ := own_form ho7; subst hv7; have Z7 := (show Hid (Below w5.heap.size w5 z7 ∧ z7.ownsRow w5.heap.size 4 1 (.slice p7 s.nq d7) s.nq (l.dirs.map bov)) from ⟨grown_own ((bt (alb w5 _) (alb _ _)).drew) OB2.out.1 hg7 OB2.out.2.2, ho7⟩); have e6 := cell_below h56.2 Z7.out.1; have e5 := cell_below h56.1 Z7.out.1; have g6 := cell_below e6 (alb z7 (.cells #[] 3)); have OI := (show Hid (z7.ownsRow w5.heap.size 3 1 (.slice (some ⟨w5.heap.size + 1, 0, none⟩) 0 0) 0 [] ∧ Sr z7 s.rd (l.cuts.map inv6) ∧ w5.heap.size ≤ z7.heap.size ∧ Below w5.heap.size w5 z7 ∧ z7.ownsRow w5.heap.size 4 1 (.slice p7 s.nq d7) s.nq (l.dirs.map bov)) from ⟨own_kept OI2.out hg7 (own_sep OI2.out OB2.out.1 (by decide)), SI.out.1.below Z7.out.1, Z7.out.1.size, Z7.out.1, Z7.out.2⟩))
      | (refine step_apS rfl (.tmp 8) (.tmp 11) 27 4 rfl Try.underlying27 infoB rfl w5.heap.size (.slice (some ⟨w5.heap.size + 1, 0, none⟩) 0 0) 0 [] (by first | (simp [Act.eval]; done) | simp [Act.eval, Act.put]) OB3.out.1 s.qd s.nq s.cq (l.dirs.map bov) (by first | (simp [Act.eval]; done) | simp [Act.eval, Act.put]) OB3.out.2.1 SB.out.2.1 (bov_one l.dirs) SBn.out (by decide) OB3.out.2.2 ?_; intro v7 z7 ho7 hg7; rw [Nat.zero_add, List.nil_append] at ho7; obtain ⟨p7, d7, hv7, _⟩ := own_form ho7; subst hv7; have Z7 := (show Hid (Below w5.heap.size w5 z7 ∧ z7.ownsRow w5.heap.size 4 1 (.slice p7 s.nq d7) s.nq (l.dirs.map bov)) from ⟨grown_own ((bt (alb w5 _) (alb _ _)).drew) OB3.out.1 hg7 OB3.out.2.2, ho7⟩); have e6 := cell_below h56.2 Z7.out.1; have e5 := cell_below h56.1 Z7.out.1; have g6 := cell_below e6 (alb z7 (.cells #[] 3)); have OI := (show Hid (z7.ownsRow w5.heap.size 3 1 (.slice (some ⟨w5.heap.size, 0, none⟩) 0 0) 0 [] ∧ Sr z7 s.rd (l.cuts.map inv6) ∧ w5.heap.size ≤ z7.heap.size ∧ Below w5.heap.size w5 z7 ∧ z7.ownsRow w5.heap.size 4 1 (.slice p7 s.nq d7) s.nq (l.dirs.map bov)) from ⟨own_kept OI3.out hg7 (own_sep OI3.out OB3.out.1 (by decide)), SI.out.1.below Z7.out.1, Z7.out.1.size, Z7.out.1, Z7.out.2⟩))
      | (refine step_apS rfl (.tmp 13) (.tmp 16) 28 3 rfl Try.underlying28 infoI rfl w5.heap.size _ 0 [] rfl OI.out.1 s.rd s.nr s.cr (l.cuts.map inv6) rfl OI.out.2.1 SI.out.2.1 (inv_one l.cuts) SIn.out (by decide) OI.out.2.2.1 ?_; intro v8 z8 ho8 hg8; rw [Nat.zero_add, List.nil_append] at ho8; obtain ⟨p8, d8, hv8, _⟩ := own_form ho8; subst hv8; have R8 := (show Hid (z8.ownsRow w5.heap.size 4 1 (.slice p7 s.nq d7) s.nq (l.dirs.map bov) ∧ z8.ownsRow w5.heap.size 3 1 (.slice p8 s.nr d8) s.nr (l.cuts.map inv6) ∧ Below w5.heap.size w5 z8) from ⟨own_kept OI.out.2.2.2.2 hg8 (own_sep OI.out.2.2.2.2 OI.out.1 (by decide)), ho8, grown_own OI.out.2.2.2.1 OI.out.1 hg8 OI.out.2.2.1⟩); have G8 := (show Hid (GB z8 w.heap.size 46 (s5.v k)) from G5.out.below R8.out.2.2); obtain ⟨_, _, _, _, _, k5, k6⟩ := ac_c G8.out; have x5 := G8.out.frozen 5; have x6 := G8.out.frozen 6))
    all_goals
      go_wp2_with fail
      go_meet
      case rel => exact ⟨p7, d7, p8, d8, tw_end G8.out R8.out.1 R8.out.2.1 (O5a.out.1 z8 R8.out.2.2) (O5a.out.2 z8 R8.out.2.2) (bt B5.out.1 R8.out.2.2) R8.out.2.2.size N2.out.1⟩
  case rest =>
  clear OB1 OB2 OI2 OB3 OI3 t5 t6 h56 tb5 tb6 ti5 ti6 tbi5 tbi6 tib5 tib6 SBn SIn
  obtain ⟨p7, d7, p8, d8, hTw⟩ := hcut.out
  obtain ⟨w6, hw6⟩ : ∃ w6, w6 = wc := ⟨_, rfl⟩
  rw [← hw6] at hTw ⊢
  have TW := (show Hid (TwS w w1 w2 w5 s5 k l p7 d7 s.nq p8 d8 s.nr w6) from hTw)
  clear hw6 hTw hcut
  obtain ⟨s6, hs6⟩ : ∃ s6 : Ac, s6 = ⟨s5.x, s5.y, s5.n, s5.pd, s5.nd, s5.cd, p7, s.nq, d7, p8, s.nr, d8⟩ := ⟨_, rfl⟩
  have G6 := (show Hid (GB w6 w.heap.size 46 (s6.v k)) from by rw [hs6]; exact TW.out.g)
  have HS6 := (show Hid (s6 = ⟨s5.x, s5.y, s5.n, s5.pd, s5.nd, s5.cd, p7, s.nq, d7, p8, s.nr, d8⟩) from hs6)
  clear hs6
  go_wp2_with (first
    | (refine wpList_ldB rfl _ rfl w.heap.size rfl G6.out Try.underlying46 acv_sz ?_)
    | (refine wpList_stB (cs := s6.v k) rfl _ _ rfl rfl w1.heap.size rfl rfl TW.out.z acv_sz ac_sz ac_one ?_; intro w7 hG7 hg7 hs7))
  refine bodyPost_ret (res_B rfl _ _ w1.heap.size rfl hG7 Try.underlying46 acv_sz) rfl ?_
  have h7 := tw_done TW.out HS6.out HS5.out hg7 hs7.out HA.out N2.out.1 N2.out.2 B5.out.2
  exact ⟨s6, rfl, h7.1, h7.2⟩
end
end Go.Proofs.Ytaddgmbglhdfdaa
