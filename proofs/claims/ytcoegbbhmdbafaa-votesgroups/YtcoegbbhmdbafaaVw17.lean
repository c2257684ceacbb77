/-
  The document's own functions of layer 17: Groups.
-/
import Derived.Test.YtcoegbbhmdbafaaVu17
namespace Go.Proofs.Ytcoegbbhmdbafaa
open Go.RowKit
theorem Bst.first {s : Shs} {l : List Grp} {t : Nat} (hN : ∀ i, i < t → ¬ Cnd s l i) (hc : Cnd s l t) : Bst s l (t + 1) t :=
  ⟨Nat.lt_succ_self t, hc, fun i hi h => by
    by_cases e : i = t
    · subst e; exact older_irrefl _
    · exact absurd h (hN i (by omega))⟩
theorem Bst.next {s : Shs} {l : List Grp} {t j : Nat} (h : Bst s l t j) (hc : Cnd s l t) (ho : older (s j).2 (s t).2 = true) : Bst s l (t + 1) t :=
  ⟨Nat.lt_succ_self t, hc, fun i hi hi2 => by
    by_cases e : i = t
    · subst e; exact older_irrefl _
    · cases h1 : older (s t).2 (s i).2 with
      | false => rfl
      | true =>
        have h2 := h.max i (by omega) hi2
        rw [older_trans ho h1] at h2
        cases h2⟩
theorem Bst.keep {s : Shs} {l : List Grp} {t j : Nat} (h : Bst s l t j) (ho : older (s j).2 (s t).2 = false) : Bst s l (t + 1) j :=
  ⟨Nat.lt_succ_of_lt h.lt, h.cnd, fun i hi hi2 => by
    by_cases e : i = t
    · subst e; exact ho
    · exact h.max i (by omega) hi2⟩
theorem Bst.skip {s : Shs} {l : List Grp} {t j : Nat} (h : Bst s l t j) (hn : ¬ Cnd s l t) : Bst s l (t + 1) j :=
  ⟨Nat.lt_succ_of_lt h.lt, h.cnd, fun i hi hi2 => by
    by_cases e : i = t
    · subst e; exact absurd hi2 hn
    · exact h.max i (by omega) hi2⟩
theorem Bst.noskip {s : Shs} {l : List Grp} {t : Nat} (h : ∀ i, i < t → ¬ Cnd s l i) (hn : ¬ Cnd s l t) : ∀ i, i < t + 1 → ¬ Cnd s l i := fun i hi => by
  by_cases e : i = t
  · subst e; exact hn
  · exact h i (by omega)
theorem Ax.len {w : World} {B : Nat} {es : List (Wg × Sl3)} {L : List Grp} (h : Ax w B es L) : es.length = L.length := h.1
theorem Ax.key {w : World} {B : Nat} {es : List (Wg × Sl3)} {L : List Grp} (h : Ax w B es L) {i : Nat} (hi : i < L.length) : (es.getD i ((0, 0, 0), (0, 0, 0))).1 = (L.getD i ((0, 0, 0), [])).1 := (h.2 i hi).1
theorem Ox.grown {w w' w0 : World} {base B : Nat} {v : Value} {es : List (Wg × Sl3)} (h : Ox w base v es) (hb : Below B w0 w) (hB : B ≤ w.heap.size) (hg : w.grownBy w' v.ownBlock) (hbase : B ≤ base) : Below B w0 w' := own_grown h hb hB hg hbase
def lenV : Value → Nat
  | .slice _ n _ => n
  | _ => 0
theorem lenV_lt {w : World} {B n q cv : Nat} {pv : Option Addr} {v : Value} {es : List (Wg × Sl3)} {e : Wg × Sl3} (h : Ox w B v (es ++ [e])) (hq : es.length = q) (hn : q ≤ n) : n + 1 - lenV v < n + 1 - lenV (.slice pv q cv) := by
  obtain ⟨p, cap, rfl, _⟩ := h.sm
  show n + 1 - (es ++ [e]).length < n + 1 - q
  rw [List.length_append, List.length_singleton]
  omega
theorem ex_bdX {o : Oper} {a : Act} {X : World} (k : Wg) (b : Sl3) (x0 x1 x2 : Operand) (ho : o.op = .build 68 #[(0, x0), (1, x1), (2, x2)]) (hx : #[a.eval x0, a.eval x1, a.eval x2] = #[.agg #[.int .i64 k.1, .int .i64 k.2.1], .int .i64 k.2.2, slv b]) : (execOp a.eval o).run Try.prog X = .ok (.value (.agg (grE (k, b)).toArray)) X := by
  unfold slv at hx
  simp at hx
  obtain ⟨h0, h1, h2⟩ := hx
  have e : (Instr.build 68 #[(0, .agg #[.int .i64 k.1, .int .i64 k.2.1]), (1, .int .i64 k.2.2), (2, .slice (some ⟨b.1, 0, none⟩) b.2.1 b.2.2)]).run Try.prog X = .ok (.agg (grE (k, b)).toArray) X := by kernel_rfl
  unfold execOp
  simp only [ho, List.map_toArray, List.map_cons, List.map_nil, h0, h1, h2, Sem.run_bind, e, Sem.run_pure, Result.andThen_ok]
theorem step_bsX {ops : Array Oper} {o : Oper} {a : Act} {w : World} {K : Act → World → Prop} {Q : Exit → Act → World → Prop} {E : Prop} (hgd : o.guard = none) (x : Operand) (ho : o.op = .buildSlice 25 1 #[(0, x)]) (e : Wg × Sl3) (hx : a.eval x = .agg (grE e).toArray)
    (h : K (a.put o.dst (.slice (some ⟨w.heap.size, 0, none⟩) 1 1)) (w.alloc (.cells (grE e).toArray 68))) : if Region.wanted o (yielded ops a.tmps) = true then Oper.wp Try.prog o a w K Q else E := by
  have hw : Region.wanted o (yielded ops a.tmps) = true := by simp [Region.wanted, hgd]
  rw [if_pos hw]
  have hr : (Instr.buildSlice 25 1 #[(0, .agg (grE e).toArray)]).run Try.prog w = .ok (.slice (some ⟨w.heap.size, 0, none⟩) 1 1) (w.alloc (.cells (grE e).toArray 68)) := by
    unfold grE
    go_simp
  unfold Oper.wp execOp
  simp only [ho, List.map_toArray, List.map_cons, List.map_nil, hx, Sem.run_bind, hr, Sem.run_pure, Result.andThen_ok]
  exact h
theorem wr_m1 {q r : Nat} (h : q = r + 1) (hn : q ≤ 1172812402943) : wrap64 ((q : Int) - 1) = (r : Int) := by unfold wrap64; omega
theorem wr_m1' {q r : Nat} (h : q = r + 1) (hn : q ≤ 1172812402943) : IntKind.i64.wrap ((q : Int) - 1) = (r : Int) := by rw [IntKind.wrap_i64]; omega
section
attribute [local irreducible] Calls GB On Ox Ax slv grE Hd.cs plc grps Cnd
set_option maxHeartbeats 16000000 in
set_option maxRecDepth 1000000 in
theorem rgroups_any {w : World} {p : Option Addr} {n c : Nat} {ss : Nat → Sn} (HS : SnL w p n ss) (hn : n ≤ 1172812402943) :
    Calls Try.prog 9 #[.slice p n c] w fun e w' => ∃ v es, e = .returned v ∧ Ox w' w.heap.size v es ∧ Ax w' w.heap.size es (grps (shs ss) n) ∧ Below w.heap.size w w' := by
  have HL := (show Hid (SnL w p n ss) from HS)
  have HN := (show Hid (n ≤ 1172812402943) from hn)
  have al : ∀ (W : World) (o : Obj), Below W.heap.size W (W.alloc o) := fun W o => (Below.refl _ _).alloc (Nat.le_refl _) o
  clear HS hn
  go_enter Try.func9, Try.ntmps9
  go_wp2_with (fail)
  go_loopw [3] (fun v wr => ∃ (es : List (Wg × Sl3)) (l : List Grp), Hid (Ox wr w.heap.size v es) ∧ Hid (Ax wr w.heap.size es l) ∧ Hid (Pf (shs ss) n l) ∧ Hid (Below w.heap.size w wr)) (fun v _ => n + 1 - lenV v)
  case atStart => exact ⟨[], [], Ox.nil _ _, Ax.nil _ _, Pf.nil _ _, Below.refl _ _⟩
  case round =>
    obtain ⟨es, l, hO, hA, hP, hB⟩ := hrel
    obtain ⟨W0, hW0⟩ : ∃ W0, W0 = wr := ⟨_, rfl⟩
    subst hW0
    obtain ⟨pv, cv, ev, hcv, hrow⟩ := hO.out.sm
    subst ev
    have HR := (show Hid (_ ∨ _) from hrow)
    have HEL := (show Hid (es.length = l.length) from hA.out.len)
    have HPL := (show Hid (l.length ≤ n) from hP.out.len)
    obtain ⟨q, hq⟩ : ∃ q, es.length = q := ⟨_, rfl⟩
    rw [hq] at hO hcv
    have HQ := (show Hid (es.length = q) from hq)
    have HQn := (show Hid (q ≤ n) from by have := HEL.out; have := HPL.out; show _ ≤ _; omega)
    have HCV := (show Hid (q ≤ cv) from hcv)
    rw [hq]
    clear hrow hcv hq
    go_wp2_with (fail)
    go_loopw [4, 5] (fun bv i wr2 => ∃ t : Nat, t ≤ n ∧ i = .int .i64 (t : Int) ∧ Hid (Below W0.heap.size W0 wr2) ∧ Hid ((bv = .int .i64 (-1) ∧ Hid (∀ i, i < t → ¬ Cnd (shs ss) l i)) ∨ ∃ j : Nat, bv = .int .i64 (j : Int) ∧ Hid (Bst (shs ss) l t j))) (fun _ i _ => n - (intOf i).toNat)
    case atStart => exact ⟨0, Nat.zero_le _, rfl, Below.refl _ _, (show Hid _ from .inl ⟨rfl, fun i hi => absurd hi (Nat.not_lt_zero i)⟩)⟩
    case round =>
      obtain ⟨t, ht, rfl, hB2, hbest⟩ := hrel
      obtain ⟨W2, hW2⟩ : ∃ W2, W2 = wr := ⟨_, rfl⟩
      subst hW2
      by_cases hlt : t < n
      · have hi : (t : Int) < (n : Int) := by omega
        obtain ⟨b, o, rfl, hAt⟩ := (HL.out.below (bt hB.out hB2.out)).at hlt
        have c0 := hAt.cells.kd
        have hrun := hAt.hrunAt
        have WT := (show Hid (wrap64 ((t : Int) + 1) = ((t + 1 : Nat) : Int)) from by have := HN.out; show _ = _; unfold wrap64; omega)
        have HT := (show Hid (t < n) from hlt)
        clear hAt hlt ht
        by_cases h2 : (ss t).kd = 2
        · rw [h2] at c0
          have HK := (show Hid ((shs ss t).1 = 2) from h2)
          clear h2
          go_wp2_with (first
            | (refine wpList_ldAt rfl _ _ rfl b (o + t * 19 + 1) rfl _ hrun ?_)
            | (refine wpList_alB rfl rfl zero_Hd ?_; intro w4 hG4 hb4 hs4)
            | (refine wpList_stB (cs := (ss t).hd.cs) rfl _ _ rfl rfl W2.heap.size rfl rfl hG4 (size_Hd _) (hdC_same _ _) (hdC_one _) ?_; intro w5 hG5 hg5 hs5; have HB5 := (show Hid (Below W2.heap.size W2 w5) from grown_below hb4 hg5 hb4.size (Nat.le_refl _)); have HH5 := (show Hid (GB w5 W2.heap.size 52 (ss t).hd.cs) from hG5); clear hG5 hG4))
          clear c0 hrun
          by_cases hq0 : q = 0
          · subst hq0
            have HC := (show Hid (Cnd (shs ss) l t) from by
              show Cnd _ _ _
              unfold Cnd
              refine ⟨HK.out, fun p hp => ?_⟩
              rw [List.length_eq_zero_iff.1 (HEL.out.symm.trans HQ.out)] at hp
              exact absurd hp List.not_mem_nil)
            have bd5 : Below w5.heap.size w5 w5.drew := (Below.refl _ _).drew
            refine wp_region_held_drew (S := fun _ => True) (by kernel_rfl) trivial (fun _ => ?_)
            refine takeHr (i := 0) (d := some 26) (v := ?v27) rfl rfl (by kernel_rfl) (by kernel_rfl) (by kernel_rfl) (fun _ _ _ h => h) (Or.inl ⟨by rfl, ?hy27⟩) trivial ?rest27
            case hy27 => intro X hSw; clear hSw; go_simp <;> with_reducible rfl
            try simp only [Act.put, List.setIfInBounds_toArray, List.set_cons_zero, List.set_cons_succ]
            refine takeHr (i := 1) (d := some 27) (v := .int .i64 0) rfl rfl (by kernel_rfl) (by kernel_rfl) (by kernel_rfl) (fun _ _ _ h => h) (Or.inl ⟨by rfl, ?hy29⟩) trivial ?rest29
            case hy29 => intro X hSw; clear hSw; go_simp <;> with_reducible rfl
            try simp only [Act.put, List.setIfInBounds_toArray, List.set_cons_zero, List.set_cons_succ]
            refine takeHr (i := 2) (d := some 28) (v := .bool false) rfl rfl (by kernel_rfl) (by kernel_rfl) (by kernel_rfl) (fun _ _ _ h => h) (Or.inl ⟨by rfl, ?hy31⟩) trivial ?rest31
            case hy31 => intro X hSw; clear hSw; go_simp <;> with_reducible rfl
            try simp only [Act.put, List.setIfInBounds_toArray, List.set_cons_zero, List.set_cons_succ]
            refine takeHr (i := 3) (d := some 29) (v := ?v33) rfl rfl (by kernel_rfl) (by kernel_rfl) (by kernel_rfl) (fun _ _ _ h => h) (Or.inl ⟨by rfl, ?hy33⟩) trivial ?rest33
            case hy33 => intro X hSw; clear hSw; go_simp <;> with_reducible rfl
            try simp only [Act.put, List.setIfInBounds_toArray, List.set_cons_zero, List.set_cons_succ]
            refine takeHr (i := 4) (d := some 30) (v := undef) rfl rfl (by kernel_rfl) (by kernel_rfl) (by kernel_rfl) (fun _ _ _ h => h) (Or.inr ⟨by rfl, rfl⟩) trivial ?_
            try simp only [Act.put, List.setIfInBounds_toArray, List.set_cons_zero, List.set_cons_succ]
            refine takeHr (i := 5) (d := some 31) (v := undef) rfl rfl (by kernel_rfl) (by kernel_rfl) (by kernel_rfl) (fun _ _ _ h => h) (Or.inr ⟨by rfl, rfl⟩) trivial ?_
            try simp only [Act.put, List.setIfInBounds_toArray, List.set_cons_zero, List.set_cons_succ]
            refine takeHr (i := 6) (d := some 32) (v := undef) rfl rfl (by kernel_rfl) (by kernel_rfl) (by kernel_rfl) (fun _ _ _ h => h) (Or.inr ⟨by rfl, rfl⟩) trivial ?_
            try simp only [Act.put, List.setIfInBounds_toArray, List.set_cons_zero, List.set_cons_succ]
            refine takeHr (i := 7) (d := some 33) (v := undef) rfl rfl (by kernel_rfl) (by kernel_rfl) (by kernel_rfl) (fun _ _ _ h => h) (Or.inr ⟨by rfl, rfl⟩) trivial ?_
            try simp only [Act.put, List.setIfInBounds_toArray, List.set_cons_zero, List.set_cons_succ]
            refine takeHr (i := 8) (d := some 34) (v := undef) rfl rfl (by kernel_rfl) (by kernel_rfl) (by kernel_rfl) (fun _ _ _ h => h) (Or.inr ⟨by rfl, rfl⟩) trivial ?_
            try simp only [Act.put, List.setIfInBounds_toArray, List.set_cons_zero, List.set_cons_succ]
            refine takeHr (i := 9) (d := some 35) (v := undef) rfl rfl (by kernel_rfl) (by kernel_rfl) (by kernel_rfl) (fun _ _ _ h => h) (Or.inr ⟨by rfl, rfl⟩) trivial ?_
            try simp only [Act.put, List.setIfInBounds_toArray, List.set_cons_zero, List.set_cons_succ]
            refine takeHr (i := 10) (d := some 36) (v := undef) rfl rfl (by kernel_rfl) (by kernel_rfl) (by kernel_rfl) (fun _ _ _ h => h) (Or.inr ⟨by rfl, rfl⟩) trivial ?_
            try simp only [Act.put, List.setIfInBounds_toArray, List.set_cons_zero, List.set_cons_succ]
            refine takeHr (i := 11) (d := some 37) (v := undef) rfl rfl (by kernel_rfl) (by kernel_rfl) (by kernel_rfl) (fun _ _ _ h => h) (Or.inr ⟨by rfl, rfl⟩) trivial ?_
            try simp only [Act.put, List.setIfInBounds_toArray, List.set_cons_zero, List.set_cons_succ]
            refine takeHr (i := 12) (d := some 38) (v := undef) rfl rfl (by kernel_rfl) (by kernel_rfl) (by kernel_rfl) (fun _ _ _ h => h) (Or.inr ⟨by rfl, rfl⟩) trivial ?_
            try simp only [Act.put, List.setIfInBounds_toArray, List.set_cons_zero, List.set_cons_succ]
            refine takeHr (i := 13) (d := some 39) (v := undef) rfl rfl (by kernel_rfl) (by kernel_rfl) (by kernel_rfl) (fun _ _ _ h => h) (Or.inr ⟨by rfl, rfl⟩) trivial ?_
            try simp only [Act.put, List.setIfInBounds_toArray, List.set_cons_zero, List.set_cons_succ]
            refine takeHr (i := 14) (d := some 40) (v := undef) rfl rfl (by kernel_rfl) (by kernel_rfl) (by kernel_rfl) (fun _ _ _ h => h) (Or.inr ⟨by rfl, rfl⟩) trivial ?_
            try simp only [Act.put, List.setIfInBounds_toArray, List.set_cons_zero, List.set_cons_succ]
            refine takeHr (i := 15) (d := some 41) (v := undef) rfl rfl (by kernel_rfl) (by kernel_rfl) (by kernel_rfl) (fun _ _ _ h => h) (Or.inr ⟨by rfl, rfl⟩) trivial ?_
            try simp only [Act.put, List.setIfInBounds_toArray, List.set_cons_zero, List.set_cons_succ]
            refine takeHr (i := 16) (d := some 42) (v := undef) rfl rfl (by kernel_rfl) (by kernel_rfl) (by kernel_rfl) (fun _ _ _ h => h) (Or.inr ⟨by rfl, rfl⟩) trivial ?_
            try simp only [Act.put, List.setIfInBounds_toArray, List.set_cons_zero, List.set_cons_succ]
            refine takeHr (i := 17) (d := some 43) (v := undef) rfl rfl (by kernel_rfl) (by kernel_rfl) (by kernel_rfl) (fun _ _ _ h => h) (Or.inr ⟨by rfl, rfl⟩) trivial ?_
            try simp only [Act.put, List.setIfInBounds_toArray, List.set_cons_zero, List.set_cons_succ]
            refine takeHr (i := 18) (d := some 44) (v := undef) rfl rfl (by kernel_rfl) (by kernel_rfl) (by kernel_rfl) (fun _ _ _ h => h) (Or.inr ⟨by rfl, rfl⟩) trivial ?_
            try simp only [Act.put, List.setIfInBounds_toArray, List.set_cons_zero, List.set_cons_succ]
            refine takeHr (i := 19) (d := some 45) (v := undef) rfl rfl (by kernel_rfl) (by kernel_rfl) (by kernel_rfl) (fun _ _ _ h => h) (Or.inr ⟨by rfl, rfl⟩) trivial ?_
            try simp only [Act.put, List.setIfInBounds_toArray, List.set_cons_zero, List.set_cons_succ]
            refine takeHr (i := 20) (d := some 46) (v := undef) rfl rfl (by kernel_rfl) (by kernel_rfl) (by kernel_rfl) (fun _ _ _ h => h) (Or.inr ⟨by rfl, rfl⟩) trivial ?_
            try simp only [Act.put, List.setIfInBounds_toArray, List.set_cons_zero, List.set_cons_succ]
            refine takeHr (i := 21) (d := some 47) (v := undef) rfl rfl (by kernel_rfl) (by kernel_rfl) (by kernel_rfl) (fun _ _ _ h => h) (Or.inr ⟨by rfl, rfl⟩) trivial ?_
            try simp only [Act.put, List.setIfInBounds_toArray, List.set_cons_zero, List.set_cons_succ]
            refine takeHr (i := 22) (d := some 48) (v := undef) rfl rfl (by kernel_rfl) (by kernel_rfl) (by kernel_rfl) (fun _ _ _ h => h) (Or.inr ⟨by rfl, rfl⟩) trivial ?_
            try simp only [Act.put, List.setIfInBounds_toArray, List.set_cons_zero, List.set_cons_succ]
            refine takeHr (i := 23) (d := some 49) (v := undef) rfl rfl (by kernel_rfl) (by kernel_rfl) (by kernel_rfl) (fun _ _ _ h => h) (Or.inr ⟨by rfl, rfl⟩) trivial ?_
            try simp only [Act.put, List.setIfInBounds_toArray, List.set_cons_zero, List.set_cons_succ]
            refine takeHr (i := 24) (d := some 50) (v := .bool false) rfl rfl (by kernel_rfl) (by kernel_rfl) (by kernel_rfl) (fun _ _ _ h => h) (Or.inl ⟨by rfl, ?hy55⟩) trivial ?rest55
            case hy55 => intro X hSw; clear hSw; go_simp <;> with_reducible rfl
            try simp only [Act.put, List.setIfInBounds_toArray, List.set_cons_zero, List.set_cons_succ]
            refine wpAnyH_done (by kernel_rfl) ?_ _
            have HB6 := (show Hid (Below W2.heap.size W2 w5.drew) from bt HB5.out bd5)
            have HH6 := (show Hid (GB w5.drew W2.heap.size 52 (ss t).hd.cs) from HH5.out.below bd5)
            generalize w5.drew = w6 at *
            go_wp2_with (fail)
            have bd6 : Below w6.heap.size w6 w6.drew := (Below.refl _ _).drew
            obtain ⟨x12, x14, x15⟩ := gb_hd HH6.out
            rcases hbest.out with ⟨rfl, hNo⟩ | ⟨j, rfl, hBs⟩
            · clear x12 x14 x15
              refine wp_region_held_drew (S := fun _ => True) (by kernel_rfl) trivial (fun _ => ?_)
              refine takeHr (i := 0) (d := some 51) (v := ?v80) rfl rfl (by kernel_rfl) (by kernel_rfl) (by kernel_rfl) (fun _ _ _ h => h) (Or.inl ⟨by rfl, ?hy80⟩) trivial ?rest80
              case hy80 => intro X hSw; clear hSw; go_simp <;> with_reducible rfl
              try simp only [Act.put, List.setIfInBounds_toArray, List.set_cons_zero, List.set_cons_succ]
              refine takeHr (i := 1) (d := some 52) (v := .bool true) rfl rfl (by kernel_rfl) (by kernel_rfl) (by kernel_rfl) (fun _ _ _ h => h) (Or.inl ⟨by rfl, ?hy82⟩) trivial ?rest82
              case hy82 => intro X hSw; clear hSw; go_simp <;> with_reducible rfl
              try simp only [Act.put, List.setIfInBounds_toArray, List.set_cons_zero, List.set_cons_succ]
              refine takeHr (i := 2) (d := some 53) (v := ?v84) rfl rfl (by kernel_rfl) (by kernel_rfl) (by kernel_rfl) (fun _ _ _ h => h) (Or.inl ⟨by rfl, ?hy84⟩) trivial ?rest84
              case hy84 => intro X hSw; clear hSw; go_simp <;> with_reducible rfl
              try simp only [Act.put, List.setIfInBounds_toArray, List.set_cons_zero, List.set_cons_succ]
              refine takeHr (i := 3) (d := some 54) (v := undef) rfl rfl (by kernel_rfl) (by kernel_rfl) (by kernel_rfl) (fun _ _ _ h => h) (Or.inr ⟨by rfl, rfl⟩) trivial ?_
              try simp only [Act.put, List.setIfInBounds_toArray, List.set_cons_zero, List.set_cons_succ]
              refine takeHr (i := 4) (d := some 55) (v := undef) rfl rfl (by kernel_rfl) (by kernel_rfl) (by kernel_rfl) (fun _ _ _ h => h) (Or.inr ⟨by rfl, rfl⟩) trivial ?_
              try simp only [Act.put, List.setIfInBounds_toArray, List.set_cons_zero, List.set_cons_succ]
              refine takeHr (i := 5) (d := some 56) (v := undef) rfl rfl (by kernel_rfl) (by kernel_rfl) (by kernel_rfl) (fun _ _ _ h => h) (Or.inr ⟨by rfl, rfl⟩) trivial ?_
              try simp only [Act.put, List.setIfInBounds_toArray, List.set_cons_zero, List.set_cons_succ]
              refine takeHr (i := 6) (d := some 57) (v := undef) rfl rfl (by kernel_rfl) (by kernel_rfl) (by kernel_rfl) (fun _ _ _ h => h) (Or.inr ⟨by rfl, rfl⟩) trivial ?_
              try simp only [Act.put, List.setIfInBounds_toArray, List.set_cons_zero, List.set_cons_succ]
              refine takeHr (i := 7) (d := some 58) (v := undef) rfl rfl (by kernel_rfl) (by kernel_rfl) (by kernel_rfl) (fun _ _ _ h => h) (Or.inr ⟨by rfl, rfl⟩) trivial ?_
              try simp only [Act.put, List.setIfInBounds_toArray, List.set_cons_zero, List.set_cons_succ]
              refine takeHr (i := 8) (d := some 59) (v := undef) rfl rfl (by kernel_rfl) (by kernel_rfl) (by kernel_rfl) (fun _ _ _ h => h) (Or.inr ⟨by rfl, rfl⟩) trivial ?_
              try simp only [Act.put, List.setIfInBounds_toArray, List.set_cons_zero, List.set_cons_succ]
              refine takeHr (i := 9) (d := some 60) (v := undef) rfl rfl (by kernel_rfl) (by kernel_rfl) (by kernel_rfl) (fun _ _ _ h => h) (Or.inr ⟨by rfl, rfl⟩) trivial ?_
              try simp only [Act.put, List.setIfInBounds_toArray, List.set_cons_zero, List.set_cons_succ]
              refine takeHr (i := 10) (d := some 61) (v := undef) rfl rfl (by kernel_rfl) (by kernel_rfl) (by kernel_rfl) (fun _ _ _ h => h) (Or.inr ⟨by rfl, rfl⟩) trivial ?_
              try simp only [Act.put, List.setIfInBounds_toArray, List.set_cons_zero, List.set_cons_succ]
              refine takeHr (i := 11) (d := some 62) (v := undef) rfl rfl (by kernel_rfl) (by kernel_rfl) (by kernel_rfl) (fun _ _ _ h => h) (Or.inr ⟨by rfl, rfl⟩) trivial ?_
              try simp only [Act.put, List.setIfInBounds_toArray, List.set_cons_zero, List.set_cons_succ]
              refine takeHr (i := 12) (d := some 63) (v := undef) rfl rfl (by kernel_rfl) (by kernel_rfl) (by kernel_rfl) (fun _ _ _ h => h) (Or.inr ⟨by rfl, rfl⟩) trivial ?_
              try simp only [Act.put, List.setIfInBounds_toArray, List.set_cons_zero, List.set_cons_succ]
              refine takeHr (i := 13) (d := some 64) (v := undef) rfl rfl (by kernel_rfl) (by kernel_rfl) (by kernel_rfl) (fun _ _ _ h => h) (Or.inr ⟨by rfl, rfl⟩) trivial ?_
              try simp only [Act.put, List.setIfInBounds_toArray, List.set_cons_zero, List.set_cons_succ]
              refine takeHr (i := 14) (d := some 65) (v := undef) rfl rfl (by kernel_rfl) (by kernel_rfl) (by kernel_rfl) (fun _ _ _ h => h) (Or.inr ⟨by rfl, rfl⟩) trivial ?_
              try simp only [Act.put, List.setIfInBounds_toArray, List.set_cons_zero, List.set_cons_succ]
              refine takeHr (i := 15) (d := some 66) (v := undef) rfl rfl (by kernel_rfl) (by kernel_rfl) (by kernel_rfl) (fun _ _ _ h => h) (Or.inr ⟨by rfl, rfl⟩) trivial ?_
              try simp only [Act.put, List.setIfInBounds_toArray, List.set_cons_zero, List.set_cons_succ]
              refine takeHr (i := 16) (d := some 67) (v := undef) rfl rfl (by kernel_rfl) (by kernel_rfl) (by kernel_rfl) (fun _ _ _ h => h) (Or.inr ⟨by rfl, rfl⟩) trivial ?_
              try simp only [Act.put, List.setIfInBounds_toArray, List.set_cons_zero, List.set_cons_succ]
              refine takeHr (i := 17) (d := some 68) (v := undef) rfl rfl (by kernel_rfl) (by kernel_rfl) (by kernel_rfl) (fun _ _ _ h => h) (Or.inr ⟨by rfl, rfl⟩) trivial ?_
              try simp only [Act.put, List.setIfInBounds_toArray, List.set_cons_zero, List.set_cons_succ]
              refine takeHr (i := 18) (d := some 69) (v := undef) rfl rfl (by kernel_rfl) (by kernel_rfl) (by kernel_rfl) (fun _ _ _ h => h) (Or.inr ⟨by rfl, rfl⟩) trivial ?_
              try simp only [Act.put, List.setIfInBounds_toArray, List.set_cons_zero, List.set_cons_succ]
              refine takeHr (i := 19) (d := some 70) (v := undef) rfl rfl (by kernel_rfl) (by kernel_rfl) (by kernel_rfl) (fun _ _ _ h => h) (Or.inr ⟨by rfl, rfl⟩) trivial ?_
              try simp only [Act.put, List.setIfInBounds_toArray, List.set_cons_zero, List.set_cons_succ]
              refine takeHr (i := 20) (d := some 71) (v := undef) rfl rfl (by kernel_rfl) (by kernel_rfl) (by kernel_rfl) (fun _ _ _ h => h) (Or.inr ⟨by rfl, rfl⟩) trivial ?_
              try simp only [Act.put, List.setIfInBounds_toArray, List.set_cons_zero, List.set_cons_succ]
              refine takeHr (i := 21) (d := some 72) (v := undef) rfl rfl (by kernel_rfl) (by kernel_rfl) (by kernel_rfl) (fun _ _ _ h => h) (Or.inr ⟨by rfl, rfl⟩) trivial ?_
              try simp only [Act.put, List.setIfInBounds_toArray, List.set_cons_zero, List.set_cons_succ]
              refine takeHr (i := 22) (d := some 73) (v := .bool true) rfl rfl (by kernel_rfl) (by kernel_rfl) (by kernel_rfl) (fun _ _ _ h => h) (Or.inl ⟨by rfl, ?hy105⟩) trivial ?rest105
              case hy105 => intro X hSw; clear hSw; go_simp <;> with_reducible rfl
              try simp only [Act.put, List.setIfInBounds_toArray, List.set_cons_zero, List.set_cons_succ]
              refine wpAnyH_done (by kernel_rfl) ?_ _
              go_wp2_with (fail)
              go_roundw
              case rel => exact ⟨t + 1, HT.out, by first | rw [WT.out] | go_num, bt hB2.out (bt HB6.out bd6), .inr ⟨t, rfl, Bst.first hNo.out HC.out⟩⟩
              case measure => first | (rw [WT.out]; exact meas_v17 HT.out) | exact meas_v17 HT.out
            · have hjn : j < n := by have := hBs.out.lt; have := HT.out; omega
              obtain ⟨b', o', ebo, hAj⟩ := (HL.out.below (bt hB.out (bt hB2.out HB6.out))).at hjn
              obtain ⟨rfl, rfl⟩ : b = b' ∧ o = o' := by injection ebo with e; injection e with e1 e2; exact ⟨e1, e2⟩
              have hcj := hAj.cells
              have j1 := cell_below hcj.ep bd6
              have j2 := cell_below hcj.ct bd6
              have j3 := cell_below hcj.sz bd6
              have hji : (j : Int) < (n : Int) := by omega
              have hj0 : ¬ ((j : Int) < 0) := by omega
              have hj1 : (0 : Int) ≤ (j : Int) := Int.natCast_nonneg _
              obtain ⟨bm, hbm⟩ : ∃ bm, older (ss j).wg (ss t).wg = bm := ⟨_, rfl⟩
              have HBM := (show Hid (older (shs ss j).2 (shs ss t).2 = bm) from hbm)
              have OM := (show Hid (∀ W : World, Calls Try.prog 26 #[.agg #[.int .i64 (ss j).hd.ep, .int .i64 (ss j).hd.ct], .int .i64 (ss j).hd.sz, .agg #[.int .i64 (ss t).hd.ep, .int .i64 (ss t).hd.ct], .int .i64 (ss t).hd.sz] W fun e w' => e = .returned (.bool bm) ∧ Below W.heap.size W w') from fun W => hbm ▸ rolder_any (ss j).wg (ss t).wg W)
              clear ebo hAj hcj hbm hjn
              refine wp_region_held_drew (S := fun X => X.cell? ⟨W2.heap.size, 12, none⟩ = some (.int .i64 (ss t).hd.sz) ∧ X.cell? ⟨W2.heap.size, 14, none⟩ = some (.int .i64 (ss t).hd.ep) ∧ X.cell? ⟨W2.heap.size, 15, none⟩ = some (.int .i64 (ss t).hd.ct) ∧ X.cell? ⟨b, o + j * 19 + 13, none⟩ = some (.int .i64 (ss j).hd.sz) ∧ X.cell? ⟨b, o + j * 19 + 15, none⟩ = some (.int .i64 (ss j).hd.ep) ∧ X.cell? ⟨b, o + j * 19 + 16, none⟩ = some (.int .i64 (ss j).hd.ct)) (by kernel_rfl) ⟨cell_below x12 bd6, cell_below x14 bd6, cell_below x15 bd6, j3, j1, j2⟩ (fun hHeld => ?_)
              clear x12 x14 x15 j1 j2 j3
              refine takeHr (i := 0) (d := some 51) (v := ?v56) rfl rfl (by kernel_rfl) (by kernel_rfl) (by kernel_rfl) (fun _ _ _ h => h) (Or.inl ⟨by rfl, ?hy56⟩) hHeld ?rest56
              case hy56 => intro X hSw; obtain ⟨g0, g1, g2, g3, g4, g5⟩ := hSw; go_simp <;> with_reducible rfl
              try simp only [Act.put, List.setIfInBounds_toArray, List.set_cons_zero, List.set_cons_succ]
              refine takeHr (i := 1) (d := some 52) (v := .bool false) rfl rfl (by kernel_rfl) (by kernel_rfl) (by kernel_rfl) (fun _ _ _ h => h) (Or.inl ⟨by rfl, ?hy57⟩) hHeld ?rest57
              case hy57 => intro X hSw; obtain ⟨g0, g1, g2, g3, g4, g5⟩ := hSw; go_simp <;> with_reducible rfl
              try simp only [Act.put, List.setIfInBounds_toArray, List.set_cons_zero, List.set_cons_succ]
              refine takeHr (i := 2) (d := some 53) (v := ?v58) rfl rfl (by kernel_rfl) (by kernel_rfl) (by kernel_rfl) (fun _ _ _ h => h) (Or.inl ⟨by rfl, ?hy58⟩) hHeld ?rest58
              case hy58 => intro X hSw; obtain ⟨g0, g1, g2, g3, g4, g5⟩ := hSw; go_simp <;> with_reducible rfl
              try simp only [Act.put, List.setIfInBounds_toArray, List.set_cons_zero, List.set_cons_succ]
              refine takeHr (i := 3) (d := some 54) (v := ?v59) rfl rfl (by kernel_rfl) (by kernel_rfl) (by kernel_rfl) (fun _ _ _ h => h) (Or.inl ⟨by rfl, ?hy59⟩) hHeld ?rest59
              case hy59 => intro X hSw; obtain ⟨g0, g1, g2, g3, g4, g5⟩ := hSw; go_simp <;> with_reducible rfl
              try simp only [Act.put, List.setIfInBounds_toArray, List.set_cons_zero, List.set_cons_succ]
              refine takeHr (i := 4) (d := some 55) (v := ?v60) rfl rfl (by kernel_rfl) (by kernel_rfl) (by kernel_rfl) (fun _ _ _ h => h) (Or.inl ⟨by rfl, ?hy60⟩) hHeld ?rest60
              case hy60 => intro X hSw; obtain ⟨g0, g1, g2, g3, g4, g5⟩ := hSw; go_simp <;> with_reducible rfl
              try simp only [Act.put, List.setIfInBounds_toArray, List.set_cons_zero, List.set_cons_succ]
              refine takeHr (i := 5) (d := some 56) (v := .pointer (some ⟨b, o + j * 19, none⟩)) rfl rfl (by kernel_rfl) (by kernel_rfl) (by kernel_rfl) (fun _ _ _ h => h) (Or.inl ⟨by rfl, ?hy61⟩) hHeld ?rest61
              case hy61 => intro X hSw; obtain ⟨g0, g1, g2, g3, g4, g5⟩ := hSw; go_simp <;> with_reducible rfl
              try simp only [Act.put, List.setIfInBounds_toArray, List.set_cons_zero, List.set_cons_succ]
              refine takeHr (i := 6) (d := some 57) (v := ?v62) rfl rfl (by kernel_rfl) (by kernel_rfl) (by kernel_rfl) (fun _ _ _ h => h) (Or.inl ⟨by rfl, ?hy62⟩) hHeld ?rest62
              case hy62 => intro X hSw; obtain ⟨g0, g1, g2, g3, g4, g5⟩ := hSw; go_simp <;> with_reducible rfl
              try simp only [Act.put, List.setIfInBounds_toArray, List.set_cons_zero, List.set_cons_succ]
              refine takeHr (i := 7) (d := some 58) (v := ?v63) rfl rfl (by kernel_rfl) (by kernel_rfl) (by kernel_rfl) (fun _ _ _ h => h) (Or.inl ⟨by rfl, ?hy63⟩) hHeld ?rest63
              case hy63 => intro X hSw; obtain ⟨g0, g1, g2, g3, g4, g5⟩ := hSw; go_simp <;> with_reducible rfl
              try simp only [Act.put, List.setIfInBounds_toArray, List.set_cons_zero, List.set_cons_succ]
              refine takeHr (i := 8) (d := some 59) (v := ?v64) rfl rfl (by kernel_rfl) (by kernel_rfl) (by kernel_rfl) (fun _ _ _ h => h) (Or.inl ⟨by rfl, ?hy64⟩) hHeld ?rest64
              case hy64 => intro X hSw; obtain ⟨g0, g1, g2, g3, g4, g5⟩ := hSw; go_simp <;> with_reducible rfl
              try simp only [Act.put, List.setIfInBounds_toArray, List.set_cons_zero, List.set_cons_succ]
              refine takeHr (i := 9) (d := some 60) (v := ?v65) rfl rfl (by kernel_rfl) (by kernel_rfl) (by kernel_rfl) (fun _ _ _ h => h) (Or.inl ⟨by rfl, ?hy65⟩) hHeld ?rest65
              case hy65 => intro X hSw; obtain ⟨g0, g1, g2, g3, g4, g5⟩ := hSw; go_simp <;> with_reducible rfl
              try simp only [Act.put, List.setIfInBounds_toArray, List.set_cons_zero, List.set_cons_succ]
              refine takeHr (i := 10) (d := some 61) (v := ?v66) rfl rfl (by kernel_rfl) (by kernel_rfl) (by kernel_rfl) (fun _ _ _ h => h) (Or.inl ⟨by rfl, ?hy66⟩) hHeld ?rest66
              case hy66 => intro X hSw; obtain ⟨g0, g1, g2, g3, g4, g5⟩ := hSw; go_simp <;> with_reducible rfl
              try simp only [Act.put, List.setIfInBounds_toArray, List.set_cons_zero, List.set_cons_succ]
              refine takeHr (i := 11) (d := some 62) (v := ?v67) rfl rfl (by kernel_rfl) (by kernel_rfl) (by kernel_rfl) (fun _ _ _ h => h) (Or.inl ⟨by rfl, ?hy67⟩) hHeld ?rest67
              case hy67 => intro X hSw; obtain ⟨g0, g1, g2, g3, g4, g5⟩ := hSw; go_simp <;> with_reducible rfl
              try simp only [Act.put, List.setIfInBounds_toArray, List.set_cons_zero, List.set_cons_succ]
              refine takeHr (i := 12) (d := some 63) (v := .pointer (some ⟨b, o + j * 19, none⟩)) rfl rfl (by kernel_rfl) (by kernel_rfl) (by kernel_rfl) (fun _ _ _ h => h) (Or.inl ⟨by rfl, ?hy68⟩) hHeld ?rest68
              case hy68 => intro X hSw; obtain ⟨g0, g1, g2, g3, g4, g5⟩ := hSw; go_simp <;> with_reducible rfl
              try simp only [Act.put, List.setIfInBounds_toArray, List.set_cons_zero, List.set_cons_succ]
              refine takeHr (i := 13) (d := some 64) (v := ?v69) rfl rfl (by kernel_rfl) (by kernel_rfl) (by kernel_rfl) (fun _ _ _ h => h) (Or.inl ⟨by rfl, ?hy69⟩) hHeld ?rest69
              case hy69 => intro X hSw; obtain ⟨g0, g1, g2, g3, g4, g5⟩ := hSw; go_simp <;> with_reducible rfl
              try simp only [Act.put, List.setIfInBounds_toArray, List.set_cons_zero, List.set_cons_succ]
              refine takeHr (i := 14) (d := some 65) (v := ?v70) rfl rfl (by kernel_rfl) (by kernel_rfl) (by kernel_rfl) (fun _ _ _ h => h) (Or.inl ⟨by rfl, ?hy70⟩) hHeld ?rest70
              case hy70 => intro X hSw; obtain ⟨g0, g1, g2, g3, g4, g5⟩ := hSw; go_simp <;> with_reducible rfl
              try simp only [Act.put, List.setIfInBounds_toArray, List.set_cons_zero, List.set_cons_succ]
              refine takeHr (i := 15) (d := some 66) (v := ?v71) rfl rfl (by kernel_rfl) (by kernel_rfl) (by kernel_rfl) (fun _ _ _ h => h) (Or.inl ⟨by rfl, ?hy71⟩) hHeld ?rest71
              case hy71 => intro X hSw; obtain ⟨g0, g1, g2, g3, g4, g5⟩ := hSw; go_simp <;> with_reducible rfl
              try simp only [Act.put, List.setIfInBounds_toArray, List.set_cons_zero, List.set_cons_succ]
              refine takeHr (i := 16) (d := some 67) (v := ?v72) rfl rfl (by kernel_rfl) (by kernel_rfl) (by kernel_rfl) (fun _ _ _ h => h) (Or.inl ⟨by rfl, ?hy72⟩) hHeld ?rest72
              case hy72 => intro X hSw; obtain ⟨g0, g1, g2, g3, g4, g5⟩ := hSw; go_simp <;> with_reducible rfl
              try simp only [Act.put, List.setIfInBounds_toArray, List.set_cons_zero, List.set_cons_succ]
              refine takeHr (i := 17) (d := some 68) (v := ?v73) rfl rfl (by kernel_rfl) (by kernel_rfl) (by kernel_rfl) (fun _ _ _ h => h) (Or.inl ⟨by rfl, ?hy73⟩) hHeld ?rest73
              case hy73 => intro X hSw; obtain ⟨g0, g1, g2, g3, g4, g5⟩ := hSw; go_simp <;> with_reducible rfl
              try simp only [Act.put, List.setIfInBounds_toArray, List.set_cons_zero, List.set_cons_succ]
              refine takeHr (i := 18) (d := some 69) (v := ?v74) rfl rfl (by kernel_rfl) (by kernel_rfl) (by kernel_rfl) (fun _ _ _ h => h) (Or.inl ⟨by rfl, ?hy74⟩) hHeld ?rest74
              case hy74 => intro X hSw; obtain ⟨g0, g1, g2, g3, g4, g5⟩ := hSw; go_simp <;> with_reducible rfl
              try simp only [Act.put, List.setIfInBounds_toArray, List.set_cons_zero, List.set_cons_succ]
              refine takeHr (i := 19) (d := some 70) (v := ?v75) rfl rfl (by kernel_rfl) (by kernel_rfl) (by kernel_rfl) (fun _ _ _ h => h) (Or.inl ⟨by rfl, ?hy75⟩) hHeld ?rest75
              case hy75 => intro X hSw; obtain ⟨g0, g1, g2, g3, g4, g5⟩ := hSw; go_simp <;> with_reducible rfl
              try simp only [Act.put, List.setIfInBounds_toArray, List.set_cons_zero, List.set_cons_succ]
              refine takeHr (i := 20) (d := some 71) (v := ?v76) rfl rfl (by kernel_rfl) (by kernel_rfl) (by kernel_rfl) (fun _ _ _ h => h) (Or.inl ⟨by rfl, ?hy76⟩) hHeld ?rest76
              case hy76 => intro X hSw; obtain ⟨g0, g1, g2, g3, g4, g5⟩ := hSw; go_simp <;> with_reducible rfl
              try simp only [Act.put, List.setIfInBounds_toArray, List.set_cons_zero, List.set_cons_succ]
              refine wpAnyH_ready (rs := [21]) (by kernel_rfl) (by simp) ?_
              refine AllReadyH.cons (o := { dst := some 72, op := Op.call { callee := Callee.value (Operand.func 26), args := #[Operand.tmp 60, Operand.tmp 67, Operand.tmp 69, Operand.tmp 71], argTypes := #[38, 3, 38, 3] }, type := 4, pos := "votes.go:62", after := #[{ on := 9, ground := Ground.data }, { on := 16, ground := Ground.data }, { on := 18, ground := Ground.data }, { on := 20, ground := Ground.data }, { on := 2, ground := Ground.chain }, { on := 2, ground := Ground.guard }], guard := some (2, false) }) rfl (fun Kq hKq => ?_) AllReadyH.nil
              · go_simp
                refine (OM.out _).mono ?_
                rintro e w7 ⟨rfl, hb7⟩
                refine hKq.out _ _ ⟨cell_below hHeld.1 hb7, cell_below hHeld.2.1 hb7, cell_below hHeld.2.2.1 hb7, cell_below hHeld.2.2.2.1 hb7, cell_below hHeld.2.2.2.2.1 hb7, cell_below hHeld.2.2.2.2.2 hb7⟩ (fun hHeld => ?_)
                clear hKq Kq
                try simp only [Act.put, List.setIfInBounds_toArray, List.set_cons_zero, List.set_cons_succ]
                refine takeHr (i := 22) (d := some 73) (v := ?v78) rfl rfl (by kernel_rfl) (by kernel_rfl) (by kernel_rfl) (fun _ _ _ h => h) (Or.inl ⟨by rfl, ?hy78⟩) hHeld ?rest78
                case hy78 => intro X hSw; obtain ⟨g0, g1, g2, g3, g4, g5⟩ := hSw; go_simp <;> with_reducible rfl
                try simp only [Act.put, List.setIfInBounds_toArray, List.set_cons_zero, List.set_cons_succ]
                refine wpAnyH_done (by kernel_rfl) ?_ _
                have HB7 := (show Hid (Below W2.heap.size W2 w7) from bt HB6.out (bt bd6 hb7))
                cases bm with
                | true =>
                  go_wp2_with (fail)
                  go_roundw
                  case rel => exact ⟨t + 1, HT.out, by first | rw [WT.out] | go_num, bt hB2.out HB7.out, .inr ⟨t, rfl, hBs.out.next HC.out HBM.out⟩⟩
                  case measure => first | (rw [WT.out]; exact meas_v17 HT.out) | exact meas_v17 HT.out
                | false =>
                  go_wp2_with (fail)
                  go_roundw
                  case rel => exact ⟨t + 1, HT.out, by first | rw [WT.out] | go_num, bt hB2.out HB7.out, .inr ⟨j, rfl, hBs.out.keep HBM.out⟩⟩
                  case measure => first | (rw [WT.out]; exact meas_v17 HT.out) | exact meas_v17 HT.out
          · obtain ⟨r, hr⟩ : ∃ r, q = r + 1 := ⟨q - 1, by omega⟩
            obtain ⟨g, epv, hrow⟩ : ∃ g, pv = some ⟨g, 0, none⟩ ∧ ∀ i, i < es.length → ∀ j u, (grE (es.getD i ((0, 0, 0), (0, 0, 0))))[j]? = some u → W0.cell? ⟨g, i * 4 + j, none⟩ = some u := by
              rcases HR.out with h | h
              · have := HQ.out; rw [h] at this; simp at this; omega
              · exact h
            subst epv
            have hrl : r < es.length := by have := HQ.out; omega
            have hk := hA.out.key (i := r) (by have := HEL.out; have := HQ.out; omega)
            have HBO' := hP.out.last (r := r) (by have := HEL.out; have := HQ.out; omega) (shs ss t).2
            rw [← hk] at HBO'
            have y0 := hrow r hrl 0
            have y1 := hrow r hrl 1
            have y2 := hrow r hrl 2
            generalize es.getD r ((0, 0, 0), (0, 0, 0)) = x at *
            unfold grE at y0 y1 y2
            replace y0 := y0 _ rfl
            replace y1 := y1 _ rfl
            replace y2 := y2 _ rfl
            rw [Nat.add_zero] at y0
            have bd5 : Below w5.heap.size w5 w5.drew := (Below.refl _ _).drew
            have B05 : Below W0.heap.size W0 w5.drew := bt hB2.out (bt HB5.out bd5)
            replace y0 := cell_below y0 B05
            replace y1 := cell_below y1 B05
            replace y2 := cell_below y2 B05
            obtain ⟨x12, x14, x15⟩ := gb_hd (HH5.out.below bd5)
            obtain ⟨bo, hbo⟩ : ∃ bo, older (ss t).wg x.1 = bo := ⟨_, rfl⟩
            have HBO := (show Hid (Cnd (shs ss) l t ↔ bo = true) from by
              show _ ↔ _
              rw [← hbo]
              unfold Cnd
              exact ⟨fun h => HBO'.1 h.2, fun h => ⟨HK.out, HBO'.2 h⟩⟩)
            have OL := (show Hid (∀ W : World, Calls Try.prog 26 #[.agg #[.int .i64 (ss t).hd.ep, .int .i64 (ss t).hd.ct], .int .i64 (ss t).hd.sz, .agg #[.int .i64 x.1.1, .int .i64 x.1.2.1], .int .i64 x.1.2.2] W fun e w' => e = .returned (.bool bo) ∧ Below W.heap.size W w') from fun W => hbo ▸ rolder_any (ss t).wg x.1 W)
            have wq := wr_m1 hr (Nat.le_trans HQn.out HN.out)
            have wq' := wr_m1' hr (Nat.le_trans HQn.out HN.out)
            have hq1 : (q : Int) > 0 := by omega
            have hq2 : (0 : Int) < (q : Int) := hq1
            have hq3 : 0 < q := by omega
            have hr1 : (r : Int) < (q : Int) := by omega
            have hr2 : (0 : Int) ≤ (r : Int) := Int.natCast_nonneg _
            clear hrow hrl hk HBO' hbo hq0 hr B05 HR
            refine wp_region_held_drew (S := fun X => X.cell? ⟨W2.heap.size, 12, none⟩ = some (.int .i64 (ss t).hd.sz) ∧ X.cell? ⟨W2.heap.size, 14, none⟩ = some (.int .i64 (ss t).hd.ep) ∧ X.cell? ⟨W2.heap.size, 15, none⟩ = some (.int .i64 (ss t).hd.ct) ∧ X.cell? ⟨g, r * 4, none⟩ = some (.int .i64 x.1.1) ∧ X.cell? ⟨g, r * 4 + 1, none⟩ = some (.int .i64 x.1.2.1) ∧ X.cell? ⟨g, r * 4 + 2, none⟩ = some (.int .i64 x.1.2.2)) (by kernel_rfl) ⟨x12, x14, x15, y0, y1, y2⟩ (fun hHeld => ?_)
            clear x12 x14 x15 y0 y1 y2
            refine takeHr (i := 0) (d := some 26) (v := ?v1) rfl rfl (by kernel_rfl) (by kernel_rfl) (by kernel_rfl) (fun _ _ _ h => h) (Or.inl ⟨by rfl, ?hy1⟩) hHeld ?rest1
            case hy1 => intro X hSw; obtain ⟨g0, g1, g2, g3, g4, g5⟩ := hSw; go_simp <;> with_reducible rfl
            try simp only [Act.put, List.setIfInBounds_toArray, List.set_cons_zero, List.set_cons_succ]
            refine takeHr (i := 1) (d := some 27) (v := .int .i64 (q : Int)) rfl rfl (by kernel_rfl) (by kernel_rfl) (by kernel_rfl) (fun _ _ _ h => h) (Or.inl ⟨by rfl, ?hy2⟩) hHeld ?rest2
            case hy2 => intro X hSw; obtain ⟨g0, g1, g2, g3, g4, g5⟩ := hSw; go_simp <;> with_reducible rfl
            try simp only [Act.put, List.setIfInBounds_toArray, List.set_cons_zero, List.set_cons_succ]
            refine takeHr (i := 2) (d := some 28) (v := .bool true) rfl rfl (by kernel_rfl) (by kernel_rfl) (by kernel_rfl) (fun _ _ _ h => h) (Or.inl ⟨by rfl, ?hy3⟩) hHeld ?rest3
            case hy3 => intro X hSw; obtain ⟨g0, g1, g2, g3, g4, g5⟩ := hSw; go_simp <;> with_reducible rfl
            try simp only [Act.put, List.setIfInBounds_toArray, List.set_cons_zero, List.set_cons_succ]
            refine takeHr (i := 3) (d := some 29) (v := ?v4) rfl rfl (by kernel_rfl) (by kernel_rfl) (by kernel_rfl) (fun _ _ _ h => h) (Or.inl ⟨by rfl, ?hy4⟩) hHeld ?rest4
            case hy4 => intro X hSw; obtain ⟨g0, g1, g2, g3, g4, g5⟩ := hSw; go_simp <;> with_reducible rfl
            try simp only [Act.put, List.setIfInBounds_toArray, List.set_cons_zero, List.set_cons_succ]
            refine takeHr (i := 4) (d := some 30) (v := ?v5) rfl rfl (by kernel_rfl) (by kernel_rfl) (by kernel_rfl) (fun _ _ _ h => h) (Or.inl ⟨by rfl, ?hy5⟩) hHeld ?rest5
            case hy5 => intro X hSw; obtain ⟨g0, g1, g2, g3, g4, g5⟩ := hSw; go_simp <;> with_reducible rfl
            try simp only [Act.put, List.setIfInBounds_toArray, List.set_cons_zero, List.set_cons_succ]
            refine takeHr (i := 5) (d := some 31) (v := ?v6) rfl rfl (by kernel_rfl) (by kernel_rfl) (by kernel_rfl) (fun _ _ _ h => h) (Or.inl ⟨by rfl, ?hy6⟩) hHeld ?rest6
            case hy6 => intro X hSw; obtain ⟨g0, g1, g2, g3, g4, g5⟩ := hSw; go_simp <;> with_reducible rfl
            try simp only [Act.put, List.setIfInBounds_toArray, List.set_cons_zero, List.set_cons_succ]
            refine takeHr (i := 6) (d := some 32) (v := ?v7) rfl rfl (by kernel_rfl) (by kernel_rfl) (by kernel_rfl) (fun _ _ _ h => h) (Or.inl ⟨by rfl, ?hy7⟩) hHeld ?rest7
            case hy7 => intro X hSw; obtain ⟨g0, g1, g2, g3, g4, g5⟩ := hSw; go_simp <;> with_reducible rfl
            try simp only [Act.put, List.setIfInBounds_toArray, List.set_cons_zero, List.set_cons_succ]
            refine takeHr (i := 7) (d := some 33) (v := ?v8) rfl rfl (by kernel_rfl) (by kernel_rfl) (by kernel_rfl) (fun _ _ _ h => h) (Or.inl ⟨by rfl, ?hy8⟩) hHeld ?rest8
            case hy8 => intro X hSw; obtain ⟨g0, g1, g2, g3, g4, g5⟩ := hSw; go_simp <;> with_reducible rfl
            try simp only [Act.put, List.setIfInBounds_toArray, List.set_cons_zero, List.set_cons_succ]
            refine takeHr (i := 8) (d := some 34) (v := ?v9) rfl rfl (by kernel_rfl) (by kernel_rfl) (by kernel_rfl) (fun _ _ _ h => h) (Or.inl ⟨by rfl, ?hy9⟩) hHeld ?rest9
            case hy9 => intro X hSw; obtain ⟨g0, g1, g2, g3, g4, g5⟩ := hSw; go_simp <;> with_reducible rfl
            try simp only [Act.put, List.setIfInBounds_toArray, List.set_cons_zero, List.set_cons_succ]
            refine takeHr (i := 9) (d := some 35) (v := ?v10) rfl rfl (by kernel_rfl) (by kernel_rfl) (by kernel_rfl) (fun _ _ _ h => h) (Or.inl ⟨by rfl, ?hy10⟩) hHeld ?rest10
            case hy10 => intro X hSw; obtain ⟨g0, g1, g2, g3, g4, g5⟩ := hSw; go_simp <;> with_reducible rfl
            try simp only [Act.put, List.setIfInBounds_toArray, List.set_cons_zero, List.set_cons_succ]
            refine takeHr (i := 10) (d := some 36) (v := .int .i64 (q : Int)) rfl rfl (by kernel_rfl) (by kernel_rfl) (by kernel_rfl) (fun _ _ _ h => h) (Or.inl ⟨by rfl, ?hy11⟩) hHeld ?rest11
            case hy11 => intro X hSw; obtain ⟨g0, g1, g2, g3, g4, g5⟩ := hSw; go_simp <;> with_reducible rfl
            try simp only [Act.put, List.setIfInBounds_toArray, List.set_cons_zero, List.set_cons_succ]
            refine takeHr (i := 11) (d := some 37) (v := .int .i64 (r : Int)) rfl rfl (by kernel_rfl) (by kernel_rfl) (by kernel_rfl) (fun _ _ _ h => h) (Or.inl ⟨by rfl, ?hy12⟩) hHeld ?rest12
            case hy12 => intro X hSw; obtain ⟨g0, g1, g2, g3, g4, g5⟩ := hSw; go_simp <;> with_reducible rfl
            try simp only [Act.put, List.setIfInBounds_toArray, List.set_cons_zero, List.set_cons_succ]
            refine takeHr (i := 12) (d := some 38) (v := .pointer (some ⟨g, r * 4, none⟩)) rfl rfl (by kernel_rfl) (by kernel_rfl) (by kernel_rfl) (fun _ _ _ h => h) (Or.inl ⟨by rfl, ?hy13⟩) hHeld ?rest13
            case hy13 => intro X hSw; obtain ⟨g0, g1, g2, g3, g4, g5⟩ := hSw; go_simp <;> with_reducible rfl
            try simp only [Act.put, List.setIfInBounds_toArray, List.set_cons_zero, List.set_cons_succ]
            refine takeHr (i := 13) (d := some 39) (v := ?v14) rfl rfl (by kernel_rfl) (by kernel_rfl) (by kernel_rfl) (fun _ _ _ h => h) (Or.inl ⟨by rfl, ?hy14⟩) hHeld ?rest14
            case hy14 => intro X hSw; obtain ⟨g0, g1, g2, g3, g4, g5⟩ := hSw; go_simp <;> with_reducible rfl
            try simp only [Act.put, List.setIfInBounds_toArray, List.set_cons_zero, List.set_cons_succ]
            refine takeHr (i := 14) (d := some 40) (v := ?v15) rfl rfl (by kernel_rfl) (by kernel_rfl) (by kernel_rfl) (fun _ _ _ h => h) (Or.inl ⟨by rfl, ?hy15⟩) hHeld ?rest15
            case hy15 => intro X hSw; obtain ⟨g0, g1, g2, g3, g4, g5⟩ := hSw; go_simp <;> with_reducible rfl
            try simp only [Act.put, List.setIfInBounds_toArray, List.set_cons_zero, List.set_cons_succ]
            refine takeHr (i := 15) (d := some 41) (v := ?v16) rfl rfl (by kernel_rfl) (by kernel_rfl) (by kernel_rfl) (fun _ _ _ h => h) (Or.inl ⟨by rfl, ?hy16⟩) hHeld ?rest16
            case hy16 => intro X hSw; obtain ⟨g0, g1, g2, g3, g4, g5⟩ := hSw; go_simp <;> with_reducible rfl
            try simp only [Act.put, List.setIfInBounds_toArray, List.set_cons_zero, List.set_cons_succ]
            refine takeHr (i := 16) (d := some 42) (v := ?v17) rfl rfl (by kernel_rfl) (by kernel_rfl) (by kernel_rfl) (fun _ _ _ h => h) (Or.inl ⟨by rfl, ?hy17⟩) hHeld ?rest17
            case hy17 => intro X hSw; obtain ⟨g0, g1, g2, g3, g4, g5⟩ := hSw; go_simp <;> with_reducible rfl
            try simp only [Act.put, List.setIfInBounds_toArray, List.set_cons_zero, List.set_cons_succ]
            refine takeHr (i := 17) (d := some 43) (v := .int .i64 (q : Int)) rfl rfl (by kernel_rfl) (by kernel_rfl) (by kernel_rfl) (fun _ _ _ h => h) (Or.inl ⟨by rfl, ?hy18⟩) hHeld ?rest18
            case hy18 => intro X hSw; obtain ⟨g0, g1, g2, g3, g4, g5⟩ := hSw; go_simp <;> with_reducible rfl
            try simp only [Act.put, List.setIfInBounds_toArray, List.set_cons_zero, List.set_cons_succ]
            refine takeHr (i := 18) (d := some 44) (v := .int .i64 (r : Int)) rfl rfl (by kernel_rfl) (by kernel_rfl) (by kernel_rfl) (fun _ _ _ h => h) (Or.inl ⟨by rfl, ?hy19⟩) hHeld ?rest19
            case hy19 => intro X hSw; obtain ⟨g0, g1, g2, g3, g4, g5⟩ := hSw; go_simp <;> with_reducible rfl
            try simp only [Act.put, List.setIfInBounds_toArray, List.set_cons_zero, List.set_cons_succ]
            refine takeHr (i := 19) (d := some 45) (v := .pointer (some ⟨g, r * 4, none⟩)) rfl rfl (by kernel_rfl) (by kernel_rfl) (by kernel_rfl) (fun _ _ _ h => h) (Or.inl ⟨by rfl, ?hy20⟩) hHeld ?rest20
            case hy20 => intro X hSw; obtain ⟨g0, g1, g2, g3, g4, g5⟩ := hSw; go_simp <;> with_reducible rfl
            try simp only [Act.put, List.setIfInBounds_toArray, List.set_cons_zero, List.set_cons_succ]
            refine takeHr (i := 20) (d := some 46) (v := ?v21) rfl rfl (by kernel_rfl) (by kernel_rfl) (by kernel_rfl) (fun _ _ _ h => h) (Or.inl ⟨by rfl, ?hy21⟩) hHeld ?rest21
            case hy21 => intro X hSw; obtain ⟨g0, g1, g2, g3, g4, g5⟩ := hSw; go_simp <;> with_reducible rfl
            try simp only [Act.put, List.setIfInBounds_toArray, List.set_cons_zero, List.set_cons_succ]
            refine takeHr (i := 21) (d := some 47) (v := ?v22) rfl rfl (by kernel_rfl) (by kernel_rfl) (by kernel_rfl) (fun _ _ _ h => h) (Or.inl ⟨by rfl, ?hy22⟩) hHeld ?rest22
            case hy22 => intro X hSw; obtain ⟨g0, g1, g2, g3, g4, g5⟩ := hSw; go_simp <;> with_reducible rfl
            try simp only [Act.put, List.setIfInBounds_toArray, List.set_cons_zero, List.set_cons_succ]
            refine wpAnyH_ready (rs := [22]) (by kernel_rfl) (by simp) ?_
            refine AllReadyH.cons (o := { dst := some 48, op := Op.call { callee := Callee.value (Operand.func 26), args := #[Operand.tmp 31, Operand.tmp 33, Operand.tmp 40, Operand.tmp 47], argTypes := #[38, 3, 38, 3] }, type := 4, pos := "votes.go:59", after := #[{ on := 5, ground := Ground.data }, { on := 7, ground := Ground.data }, { on := 14, ground := Ground.data }, { on := 21, ground := Ground.data }, { on := 3, ground := Ground.chain }, { on := 3, ground := Ground.guard }], guard := some (3, true) }) rfl (fun Kq hKq => ?_) AllReadyH.nil
            · go_simp
              refine (OL.out _).mono ?_
              rintro e w6 ⟨rfl, hb6⟩
              refine hKq.out _ _ ⟨cell_below hHeld.1 hb6, cell_below hHeld.2.1 hb6, cell_below hHeld.2.2.1 hb6, cell_below hHeld.2.2.2.1 hb6, cell_below hHeld.2.2.2.2.1 hb6, cell_below hHeld.2.2.2.2.2 hb6⟩ (fun hHeld => ?_)
              clear hKq Kq
              try simp only [Act.put, List.setIfInBounds_toArray, List.set_cons_zero, List.set_cons_succ]
              refine takeHr (i := 23) (d := some 49) (v := ?v24) rfl rfl (by kernel_rfl) (by kernel_rfl) (by kernel_rfl) (fun _ _ _ h => h) (Or.inl ⟨by rfl, ?hy24⟩) hHeld ?rest24
              case hy24 => intro X hSw; obtain ⟨g0, g1, g2, g3, g4, g5⟩ := hSw; go_simp <;> with_reducible rfl
              try simp only [Act.put, List.setIfInBounds_toArray, List.set_cons_zero, List.set_cons_succ]
              refine takeHr (i := 24) (d := some 50) (v := ?v25) rfl rfl (by kernel_rfl) (by kernel_rfl) (by kernel_rfl) (fun _ _ _ h => h) (Or.inl ⟨by rfl, ?hy25⟩) hHeld ?rest25
              case hy25 => intro X hSw; obtain ⟨g0, g1, g2, g3, g4, g5⟩ := hSw; go_simp <;> with_reducible rfl
              try simp only [Act.put, List.setIfInBounds_toArray, List.set_cons_zero, List.set_cons_succ]
              refine wpAnyH_done (by kernel_rfl) ?_ _
              have HB6 := (show Hid (Below W2.heap.size W2 w6) from bt HB5.out (bt bd5 hb6))
              have HH6 := (show Hid (GB w6 W2.heap.size 52 (ss t).hd.cs) from (HH5.out.below bd5).below hb6)
              cases bo with
              | false =>
                have HNC := (show Hid (¬ Cnd (shs ss) l t) from fun h => by have := HBO.out.1 h; cases this)
                go_wp2_with (fail)
                go_roundw
                case rel => exact ⟨t + 1, HT.out, by first | rw [WT.out] | go_num, bt hB2.out HB6.out, hbest.out.imp (fun ⟨e, h⟩ => ⟨e, Bst.noskip h.out HNC.out⟩) (fun ⟨j, e, h⟩ => ⟨j, e, h.out.skip HNC.out⟩)⟩
                case measure => first | (rw [WT.out]; exact meas_v17 HT.out) | exact meas_v17 HT.out
              | true =>
                have HC := (show Hid (Cnd (shs ss) l t) from HBO.out.2 rfl)
                clear HBO OL hHeld
                go_wp2_with (fail)
                have bd6 : Below w6.heap.size w6 w6.drew := (Below.refl _ _).drew
                obtain ⟨x12, x14, x15⟩ := gb_hd HH6.out
                rcases hbest.out with ⟨rfl, hNo⟩ | ⟨j, rfl, hBs⟩
                · clear x12 x14 x15
                  refine wp_region_held_drew (S := fun _ => True) (by kernel_rfl) trivial (fun _ => ?_)
                  refine takeHr (i := 0) (d := some 51) (v := ?v130) rfl rfl (by kernel_rfl) (by kernel_rfl) (by kernel_rfl) (fun _ _ _ h => h) (Or.inl ⟨by rfl, ?hy130⟩) trivial ?rest130
                  case hy130 => intro X hSw; clear hSw; go_simp <;> with_reducible rfl
                  try simp only [Act.put, List.setIfInBounds_toArray, List.set_cons_zero, List.set_cons_succ]
                  refine takeHr (i := 1) (d := some 52) (v := .bool true) rfl rfl (by kernel_rfl) (by kernel_rfl) (by kernel_rfl) (fun _ _ _ h => h) (Or.inl ⟨by rfl, ?hy132⟩) trivial ?rest132
                  case hy132 => intro X hSw; clear hSw; go_simp <;> with_reducible rfl
                  try simp only [Act.put, List.setIfInBounds_toArray, List.set_cons_zero, List.set_cons_succ]
                  refine takeHr (i := 2) (d := some 53) (v := ?v134) rfl rfl (by kernel_rfl) (by kernel_rfl) (by kernel_rfl) (fun _ _ _ h => h) (Or.inl ⟨by rfl, ?hy134⟩) trivial ?rest134
                  case hy134 => intro X hSw; clear hSw; go_simp <;> with_reducible rfl
                  try simp only [Act.put, List.setIfInBounds_toArray, List.set_cons_zero, List.set_cons_succ]
                  refine takeHr (i := 3) (d := some 54) (v := undef) rfl rfl (by kernel_rfl) (by kernel_rfl) (by kernel_rfl) (fun _ _ _ h => h) (Or.inr ⟨by rfl, rfl⟩) trivial ?_
                  try simp only [Act.put, List.setIfInBounds_toArray, List.set_cons_zero, List.set_cons_succ]
                  refine takeHr (i := 4) (d := some 55) (v := undef) rfl rfl (by kernel_rfl) (by kernel_rfl) (by kernel_rfl) (fun _ _ _ h => h) (Or.inr ⟨by rfl, rfl⟩) trivial ?_
                  try simp only [Act.put, List.setIfInBounds_toArray, List.set_cons_zero, List.set_cons_succ]
                  refine takeHr (i := 5) (d := some 56) (v := undef) rfl rfl (by kernel_rfl) (by kernel_rfl) (by kernel_rfl) (fun _ _ _ h => h) (Or.inr ⟨by rfl, rfl⟩) trivial ?_
                  try simp only [Act.put, List.setIfInBounds_toArray, List.set_cons_zero, List.set_cons_succ]
                  refine takeHr (i := 6) (d := some 57) (v := undef) rfl rfl (by kernel_rfl) (by kernel_rfl) (by kernel_rfl) (fun _ _ _ h => h) (Or.inr ⟨by rfl, rfl⟩) trivial ?_
                  try simp only [Act.put, List.setIfInBounds_toArray, List.set_cons_zero, List.set_cons_succ]
                  refine takeHr (i := 7) (d := some 58) (v := undef) rfl rfl (by kernel_rfl) (by kernel_rfl) (by kernel_rfl) (fun _ _ _ h => h) (Or.inr ⟨by rfl, rfl⟩) trivial ?_
                  try simp only [Act.put, List.setIfInBounds_toArray, List.set_cons_zero, List.set_cons_succ]
                  refine takeHr (i := 8) (d := some 59) (v := undef) rfl rfl (by kernel_rfl) (by kernel_rfl) (by kernel_rfl) (fun _ _ _ h => h) (Or.inr ⟨by rfl, rfl⟩) trivial ?_
                  try simp only [Act.put, List.setIfInBounds_toArray, List.set_cons_zero, List.set_cons_succ]
                  refine takeHr (i := 9) (d := some 60) (v := undef) rfl rfl (by kernel_rfl) (by kernel_rfl) (by kernel_rfl) (fun _ _ _ h => h) (Or.inr ⟨by rfl, rfl⟩) trivial ?_
                  try simp only [Act.put, List.setIfInBounds_toArray, List.set_cons_zero, List.set_cons_succ]
                  refine takeHr (i := 10) (d := some 61) (v := undef) rfl rfl (by kernel_rfl) (by kernel_rfl) (by kernel_rfl) (fun _ _ _ h => h) (Or.inr ⟨by rfl, rfl⟩) trivial ?_
                  try simp only [Act.put, List.setIfInBounds_toArray, List.set_cons_zero, List.set_cons_succ]
                  refine takeHr (i := 11) (d := some 62) (v := undef) rfl rfl (by kernel_rfl) (by kernel_rfl) (by kernel_rfl) (fun _ _ _ h => h) (Or.inr ⟨by rfl, rfl⟩) trivial ?_
                  try simp only [Act.put, List.setIfInBounds_toArray, List.set_cons_zero, List.set_cons_succ]
                  refine takeHr (i := 12) (d := some 63) (v := undef) rfl rfl (by kernel_rfl) (by kernel_rfl) (by kernel_rfl) (fun _ _ _ h => h) (Or.inr ⟨by rfl, rfl⟩) trivial ?_
                  try simp only [Act.put, List.setIfInBounds_toArray, List.set_cons_zero, List.set_cons_succ]
                  refine takeHr (i := 13) (d := some 64) (v := undef) rfl rfl (by kernel_rfl) (by kernel_rfl) (by kernel_rfl) (fun _ _ _ h => h) (Or.inr ⟨by rfl, rfl⟩) trivial ?_
                  try simp only [Act.put, List.setIfInBounds_toArray, List.set_cons_zero, List.set_cons_succ]
                  refine takeHr (i := 14) (d := some 65) (v := undef) rfl rfl (by kernel_rfl) (by kernel_rfl) (by kernel_rfl) (fun _ _ _ h => h) (Or.inr ⟨by rfl, rfl⟩) trivial ?_
                  try simp only [Act.put, List.setIfInBounds_toArray, List.set_cons_zero, List.set_cons_succ]
                  refine takeHr (i := 15) (d := some 66) (v := undef) rfl rfl (by kernel_rfl) (by kernel_rfl) (by kernel_rfl) (fun _ _ _ h => h) (Or.inr ⟨by rfl, rfl⟩) trivial ?_
                  try simp only [Act.put, List.setIfInBounds_toArray, List.set_cons_zero, List.set_cons_succ]
                  refine takeHr (i := 16) (d := some 67) (v := undef) rfl rfl (by kernel_rfl) (by kernel_rfl) (by kernel_rfl) (fun _ _ _ h => h) (Or.inr ⟨by rfl, rfl⟩) trivial ?_
                  try simp only [Act.put, List.setIfInBounds_toArray, List.set_cons_zero, List.set_cons_succ]
                  refine takeHr (i := 17) (d := some 68) (v := undef) rfl rfl (by kernel_rfl) (by kernel_rfl) (by kernel_rfl) (fun _ _ _ h => h) (Or.inr ⟨by rfl, rfl⟩) trivial ?_
                  try simp only [Act.put, List.setIfInBounds_toArray, List.set_cons_zero, List.set_cons_succ]
                  refine takeHr (i := 18) (d := some 69) (v := undef) rfl rfl (by kernel_rfl) (by kernel_rfl) (by kernel_rfl) (fun _ _ _ h => h) (Or.inr ⟨by rfl, rfl⟩) trivial ?_
                  try simp only [Act.put, List.setIfInBounds_toArray, List.set_cons_zero, List.set_cons_succ]
                  refine takeHr (i := 19) (d := some 70) (v := undef) rfl rfl (by kernel_rfl) (by kernel_rfl) (by kernel_rfl) (fun _ _ _ h => h) (Or.inr ⟨by rfl, rfl⟩) trivial ?_
                  try simp only [Act.put, List.setIfInBounds_toArray, List.set_cons_zero, List.set_cons_succ]
                  refine takeHr (i := 20) (d := some 71) (v := undef) rfl rfl (by kernel_rfl) (by kernel_rfl) (by kernel_rfl) (fun _ _ _ h => h) (Or.inr ⟨by rfl, rfl⟩) trivial ?_
                  try simp only [Act.put, List.setIfInBounds_toArray, List.set_cons_zero, List.set_cons_succ]
                  refine takeHr (i := 21) (d := some 72) (v := undef) rfl rfl (by kernel_rfl) (by kernel_rfl) (by kernel_rfl) (fun _ _ _ h => h) (Or.inr ⟨by rfl, rfl⟩) trivial ?_
                  try simp only [Act.put, List.setIfInBounds_toArray, List.set_cons_zero, List.set_cons_succ]
                  refine takeHr (i := 22) (d := some 73) (v := .bool true) rfl rfl (by kernel_rfl) (by kernel_rfl) (by kernel_rfl) (fun _ _ _ h => h) (Or.inl ⟨by rfl, ?hy155⟩) trivial ?rest155
                  case hy155 => intro X hSw; clear hSw; go_simp <;> with_reducible rfl
                  try simp only [Act.put, List.setIfInBounds_toArray, List.set_cons_zero, List.set_cons_succ]
                  refine wpAnyH_done (by kernel_rfl) ?_ _
                  go_wp2_with (fail)
                  go_roundw
                  case rel => exact ⟨t + 1, HT.out, by first | rw [WT.out] | go_num, bt hB2.out (bt HB6.out bd6), .inr ⟨t, rfl, Bst.first hNo.out HC.out⟩⟩
                  case measure => first | (rw [WT.out]; exact meas_v17 HT.out) | exact meas_v17 HT.out
                · have hjn : j < n := by have := hBs.out.lt; have := HT.out; omega
                  obtain ⟨b', o', ebo, hAj⟩ := (HL.out.below (bt hB.out (bt hB2.out HB6.out))).at hjn
                  obtain ⟨rfl, rfl⟩ : b = b' ∧ o = o' := by injection ebo with e; injection e with e1 e2; exact ⟨e1, e2⟩
                  have hcj := hAj.cells
                  have j1 := cell_below hcj.ep bd6
                  have j2 := cell_below hcj.ct bd6
                  have j3 := cell_below hcj.sz bd6
                  have hji : (j : Int) < (n : Int) := by omega
                  have hj0 : ¬ ((j : Int) < 0) := by omega
                  have hj1 : (0 : Int) ≤ (j : Int) := Int.natCast_nonneg _
                  obtain ⟨bm, hbm⟩ : ∃ bm, older (ss j).wg (ss t).wg = bm := ⟨_, rfl⟩
                  have HBM := (show Hid (older (shs ss j).2 (shs ss t).2 = bm) from hbm)
                  have OM := (show Hid (∀ W : World, Calls Try.prog 26 #[.agg #[.int .i64 (ss j).hd.ep, .int .i64 (ss j).hd.ct], .int .i64 (ss j).hd.sz, .agg #[.int .i64 (ss t).hd.ep, .int .i64 (ss t).hd.ct], .int .i64 (ss t).hd.sz] W fun e w' => e = .returned (.bool bm) ∧ Below W.heap.size W w') from fun W => hbm ▸ rolder_any (ss j).wg (ss t).wg W)
                  clear ebo hAj hcj hbm hjn
                  refine wp_region_held_drew (S := fun X => X.cell? ⟨W2.heap.size, 12, none⟩ = some (.int .i64 (ss t).hd.sz) ∧ X.cell? ⟨W2.heap.size, 14, none⟩ = some (.int .i64 (ss t).hd.ep) ∧ X.cell? ⟨W2.heap.size, 15, none⟩ = some (.int .i64 (ss t).hd.ct) ∧ X.cell? ⟨b, o + j * 19 + 13, none⟩ = some (.int .i64 (ss j).hd.sz) ∧ X.cell? ⟨b, o + j * 19 + 15, none⟩ = some (.int .i64 (ss j).hd.ep) ∧ X.cell? ⟨b, o + j * 19 + 16, none⟩ = some (.int .i64 (ss j).hd.ct)) (by kernel_rfl) ⟨cell_below x12 bd6, cell_below x14 bd6, cell_below x15 bd6, j3, j1, j2⟩ (fun hHeld => ?_)
                  clear x12 x14 x15 j1 j2 j3
                  refine takeHr (i := 0) (d := some 51) (v := ?v106) rfl rfl (by kernel_rfl) (by kernel_rfl) (by kernel_rfl) (fun _ _ _ h => h) (Or.inl ⟨by rfl, ?hy106⟩) hHeld ?rest106
                  case hy106 => intro X hSw; obtain ⟨g0, g1, g2, g3, g4, g5⟩ := hSw; go_simp <;> with_reducible rfl
                  try simp only [Act.put, List.setIfInBounds_toArray, List.set_cons_zero, List.set_cons_succ]
                  refine takeHr (i := 1) (d := some 52) (v := .bool false) rfl rfl (by kernel_rfl) (by kernel_rfl) (by kernel_rfl) (fun _ _ _ h => h) (Or.inl ⟨by rfl, ?hy107⟩) hHeld ?rest107
                  case hy107 => intro X hSw; obtain ⟨g0, g1, g2, g3, g4, g5⟩ := hSw; go_simp <;> with_reducible rfl
                  try simp only [Act.put, List.setIfInBounds_toArray, List.set_cons_zero, List.set_cons_succ]
                  refine takeHr (i := 2) (d := some 53) (v := ?v108) rfl rfl (by kernel_rfl) (by kernel_rfl) (by kernel_rfl) (fun _ _ _ h => h) (Or.inl ⟨by rfl, ?hy108⟩) hHeld ?rest108
                  case hy108 => intro X hSw; obtain ⟨g0, g1, g2, g3, g4, g5⟩ := hSw; go_simp <;> with_reducible rfl
                  try simp only [Act.put, List.setIfInBounds_toArray, List.set_cons_zero, List.set_cons_succ]
                  refine takeHr (i := 3) (d := some 54) (v := ?v109) rfl rfl (by kernel_rfl) (by kernel_rfl) (by kernel_rfl) (fun _ _ _ h => h) (Or.inl ⟨by rfl, ?hy109⟩) hHeld ?rest109
                  case hy109 => intro X hSw; obtain ⟨g0, g1, g2, g3, g4, g5⟩ := hSw; go_simp <;> with_reducible rfl
                  try simp only [Act.put, List.setIfInBounds_toArray, List.set_cons_zero, List.set_cons_succ]
                  refine takeHr (i := 4) (d := some 55) (v := ?v110) rfl rfl (by kernel_rfl) (by kernel_rfl) (by kernel_rfl) (fun _ _ _ h => h) (Or.inl ⟨by rfl, ?hy110⟩) hHeld ?rest110
                  case hy110 => intro X hSw; obtain ⟨g0, g1, g2, g3, g4, g5⟩ := hSw; go_simp <;> with_reducible rfl
                  try simp only [Act.put, List.setIfInBounds_toArray, List.set_cons_zero, List.set_cons_succ]
                  refine takeHr (i := 5) (d := some 56) (v := .pointer (some ⟨b, o + j * 19, none⟩)) rfl rfl (by kernel_rfl) (by kernel_rfl) (by kernel_rfl) (fun _ _ _ h => h) (Or.inl ⟨by rfl, ?hy111⟩) hHeld ?rest111
                  case hy111 => intro X hSw; obtain ⟨g0, g1, g2, g3, g4, g5⟩ := hSw; go_simp <;> with_reducible rfl
                  try simp only [Act.put, List.setIfInBounds_toArray, List.set_cons_zero, List.set_cons_succ]
                  refine takeHr (i := 6) (d := some 57) (v := ?v112) rfl rfl (by kernel_rfl) (by kernel_rfl) (by kernel_rfl) (fun _ _ _ h => h) (Or.inl ⟨by rfl, ?hy112⟩) hHeld ?rest112
                  case hy112 => intro X hSw; obtain ⟨g0, g1, g2, g3, g4, g5⟩ := hSw; go_simp <;> with_reducible rfl
                  try simp only [Act.put, List.setIfInBounds_toArray, List.set_cons_zero, List.set_cons_succ]
                  refine takeHr (i := 7) (d := some 58) (v := ?v113) rfl rfl (by kernel_rfl) (by kernel_rfl) (by kernel_rfl) (fun _ _ _ h => h) (Or.inl ⟨by rfl, ?hy113⟩) hHeld ?rest113
                  case hy113 => intro X hSw; obtain ⟨g0, g1, g2, g3, g4, g5⟩ := hSw; go_simp <;> with_reducible rfl
                  try simp only [Act.put, List.setIfInBounds_toArray, List.set_cons_zero, List.set_cons_succ]
                  refine takeHr (i := 8) (d := some 59) (v := ?v114) rfl rfl (by kernel_rfl) (by kernel_rfl) (by kernel_rfl) (fun _ _ _ h => h) (Or.inl ⟨by rfl, ?hy114⟩) hHeld ?rest114
                  case hy114 => intro X hSw; obtain ⟨g0, g1, g2, g3, g4, g5⟩ := hSw; go_simp <;> with_reducible rfl
                  try simp only [Act.put, List.setIfInBounds_toArray, List.set_cons_zero, List.set_cons_succ]
                  refine takeHr (i := 9) (d := some 60) (v := ?v115) rfl rfl (by kernel_rfl) (by kernel_rfl) (by kernel_rfl) (fun _ _ _ h => h) (Or.inl ⟨by rfl, ?hy115⟩) hHeld ?rest115
                  case hy115 => intro X hSw; obtain ⟨g0, g1, g2, g3, g4, g5⟩ := hSw; go_simp <;> with_reducible rfl
                  try simp only [Act.put, List.setIfInBounds_toArray, List.set_cons_zero, List.set_cons_succ]
                  refine takeHr (i := 10) (d := some 61) (v := ?v116) rfl rfl (by kernel_rfl) (by kernel_rfl) (by kernel_rfl) (fun _ _ _ h => h) (Or.inl ⟨by rfl, ?hy116⟩) hHeld ?rest116
                  case hy116 => intro X hSw; obtain ⟨g0, g1, g2, g3, g4, g5⟩ := hSw; go_simp <;> with_reducible rfl
                  try simp only [Act.put, List.setIfInBounds_toArray, List.set_cons_zero, List.set_cons_succ]
                  refine takeHr (i := 11) (d := some 62) (v := ?v117) rfl rfl (by kernel_rfl) (by kernel_rfl) (by kernel_rfl) (fun _ _ _ h => h) (Or.inl ⟨by rfl, ?hy117⟩) hHeld ?rest117
                  case hy117 => intro X hSw; obtain ⟨g0, g1, g2, g3, g4, g5⟩ := hSw; go_simp <;> with_reducible rfl
                  try simp only [Act.put, List.setIfInBounds_toArray, List.set_cons_zero, List.set_cons_succ]
                  refine takeHr (i := 12) (d := some 63) (v := .pointer (some ⟨b, o + j * 19, none⟩)) rfl rfl (by kernel_rfl) (by kernel_rfl) (by kernel_rfl) (fun _ _ _ h => h) (Or.inl ⟨by rfl, ?hy118⟩) hHeld ?rest118
                  case hy118 => intro X hSw; obtain ⟨g0, g1, g2, g3, g4, g5⟩ := hSw; go_simp <;> with_reducible rfl
                  try simp only [Act.put, List.setIfInBounds_toArray, List.set_cons_zero, List.set_cons_succ]
                  refine takeHr (i := 13) (d := some 64) (v := ?v119) rfl rfl (by kernel_rfl) (by kernel_rfl) (by kernel_rfl) (fun _ _ _ h => h) (Or.inl ⟨by rfl, ?hy119⟩) hHeld ?rest119
                  case hy119 => intro X hSw; obtain ⟨g0, g1, g2, g3, g4, g5⟩ := hSw; go_simp <;> with_reducible rfl
                  try simp only [Act.put, List.setIfInBounds_toArray, List.set_cons_zero, List.set_cons_succ]
                  refine takeHr (i := 14) (d := some 65) (v := ?v120) rfl rfl (by kernel_rfl) (by kernel_rfl) (by kernel_rfl) (fun _ _ _ h => h) (Or.inl ⟨by rfl, ?hy120⟩) hHeld ?rest120
                  case hy120 => intro X hSw; obtain ⟨g0, g1, g2, g3, g4, g5⟩ := hSw; go_simp <;> with_reducible rfl
                  try simp only [Act.put, List.setIfInBounds_toArray, List.set_cons_zero, List.set_cons_succ]
                  refine takeHr (i := 15) (d := some 66) (v := ?v121) rfl rfl (by kernel_rfl) (by kernel_rfl) (by kernel_rfl) (fun _ _ _ h => h) (Or.inl ⟨by rfl, ?hy121⟩) hHeld ?rest121
                  case hy121 => intro X hSw; obtain ⟨g0, g1, g2, g3, g4, g5⟩ := hSw; go_simp <;> with_reducible rfl
                  try simp only [Act.put, List.setIfInBounds_toArray, List.set_cons_zero, List.set_cons_succ]
                  refine takeHr (i := 16) (d := some 67) (v := ?v122) rfl rfl (by kernel_rfl) (by kernel_rfl) (by kernel_rfl) (fun _ _ _ h => h) (Or.inl ⟨by rfl, ?hy122⟩) hHeld ?rest122
                  case hy122 => intro X hSw; obtain ⟨g0, g1, g2, g3, g4, g5⟩ := hSw; go_simp <;> with_reducible rfl
                  try simp only [Act.put, List.setIfInBounds_toArray, List.set_cons_zero, List.set_cons_succ]
                  refine takeHr (i := 17) (d := some 68) (v := ?v123) rfl rfl (by kernel_rfl) (by kernel_rfl) (by kernel_rfl) (fun _ _ _ h => h) (Or.inl ⟨by rfl, ?hy123⟩) hHeld ?rest123
                  case hy123 => intro X hSw; obtain ⟨g0, g1, g2, g3, g4, g5⟩ := hSw; go_simp <;> with_reducible rfl
                  try simp only [Act.put, List.setIfInBounds_toArray, List.set_cons_zero, List.set_cons_succ]
                  refine takeHr (i := 18) (d := some 69) (v := ?v124) rfl rfl (by kernel_rfl) (by kernel_rfl) (by kernel_rfl) (fun _ _ _ h => h) (Or.inl ⟨by rfl, ?hy124⟩) hHeld ?rest124
                  case hy124 => intro X hSw; obtain ⟨g0, g1, g2, g3, g4, g5⟩ := hSw; go_simp <;> with_reducible rfl
                  try simp only [Act.put, List.setIfInBounds_toArray, List.set_cons_zero, List.set_cons_succ]
                  refine takeHr (i := 19) (d := some 70) (v := ?v125) rfl rfl (by kernel_rfl) (by kernel_rfl) (by kernel_rfl) (fun _ _ _ h => h) (Or.inl ⟨by rfl, ?hy125⟩) hHeld ?rest125
                  case hy125 => intro X hSw; obtain ⟨g0, g1, g2, g3, g4, g5⟩ := hSw; go_simp <;> with_reducible rfl
                  try simp only [Act.put, List.setIfInBounds_toArray, List.set_cons_zero, List.set_cons_succ]
                  refine takeHr (i := 20) (d := some 71) (v := ?v126) rfl rfl (by kernel_rfl) (by kernel_rfl) (by kernel_rfl) (fun _ _ _ h => h) (Or.inl ⟨by rfl, ?hy126⟩) hHeld ?rest126
                  case hy126 => intro X hSw; obtain ⟨g0, g1, g2, g3, g4, g5⟩ := hSw; go_simp <;> with_reducible rfl
                  try simp only [Act.put, List.setIfInBounds_toArray, List.set_cons_zero, List.set_cons_succ]
                  refine wpAnyH_ready (rs := [21]) (by kernel_rfl) (by simp) ?_
                  refine AllReadyH.cons (o := { dst := some 72, op := Op.call { callee := Callee.value (Operand.func 26), args := #[Operand.tmp 60, Operand.tmp 67, Operand.tmp 69, Operand.tmp 71], argTypes := #[38, 3, 38, 3] }, type := 4, pos := "votes.go:62", after := #[{ on := 9, ground := Ground.data }, { on := 16, ground := Ground.data }, { on := 18, ground := Ground.data }, { on := 20, ground := Ground.data }, { on := 2, ground := Ground.chain }, { on := 2, ground := Ground.guard }], guard := some (2, false) }) rfl (fun Kq hKq => ?_) AllReadyH.nil
                  · go_simp
                    refine (OM.out _).mono ?_
                    rintro e w7 ⟨rfl, hb7⟩
                    refine hKq.out _ _ ⟨cell_below hHeld.1 hb7, cell_below hHeld.2.1 hb7, cell_below hHeld.2.2.1 hb7, cell_below hHeld.2.2.2.1 hb7, cell_below hHeld.2.2.2.2.1 hb7, cell_below hHeld.2.2.2.2.2 hb7⟩ (fun hHeld => ?_)
                    clear hKq Kq
                    try simp only [Act.put, List.setIfInBounds_toArray, List.set_cons_zero, List.set_cons_succ]
                    refine takeHr (i := 22) (d := some 73) (v := ?v128) rfl rfl (by kernel_rfl) (by kernel_rfl) (by kernel_rfl) (fun _ _ _ h => h) (Or.inl ⟨by rfl, ?hy128⟩) hHeld ?rest128
                    case hy128 => intro X hSw; obtain ⟨g0, g1, g2, g3, g4, g5⟩ := hSw; go_simp <;> with_reducible rfl
                    try simp only [Act.put, List.setIfInBounds_toArray, List.set_cons_zero, List.set_cons_succ]
                    refine wpAnyH_done (by kernel_rfl) ?_ _
                    have HB7 := (show Hid (Below W2.heap.size W2 w7) from bt HB6.out (bt bd6 hb7))
                    cases bm with
                    | true =>
                      go_wp2_with (fail)
                      go_roundw
                      case rel => exact ⟨t + 1, HT.out, by first | rw [WT.out] | go_num, bt hB2.out HB7.out, .inr ⟨t, rfl, hBs.out.next HC.out HBM.out⟩⟩
                      case measure => first | (rw [WT.out]; exact meas_v17 HT.out) | exact meas_v17 HT.out
                    | false =>
                      go_wp2_with (fail)
                      go_roundw
                      case rel => exact ⟨t + 1, HT.out, by first | rw [WT.out] | go_num, bt hB2.out HB7.out, .inr ⟨j, rfl, hBs.out.keep HBM.out⟩⟩
                      case measure => first | (rw [WT.out]; exact meas_v17 HT.out) | exact meas_v17 HT.out
        · have HNC := (show Hid (¬ Cnd (shs ss) l t) from fun h => by unfold Cnd at h; exact h2 h.1)
          have d2 : ((ss t).kd != 2) = true := by simp [h2]
          go_wp2_with (fail)
          go_roundw
          case rel => exact ⟨t + 1, HT.out, by first | rw [WT.out] | go_num, hB2, hbest.out.imp (fun ⟨e, h⟩ => ⟨e, Bst.noskip h.out HNC.out⟩) (fun ⟨j, e, h⟩ => ⟨j, e, h.out.skip HNC.out⟩)⟩
          case measure => first | (rw [WT.out]; exact meas_v17 HT.out) | exact meas_v17 HT.out
      · obtain rfl : t = n := by omega
        have hnn : ¬ ((t : Int) < (t : Int)) := by omega
        rcases hbest.out with ⟨rfl, hNo⟩ | ⟨j, rfl, hBs⟩
        · have HI := (show Hid (IsG (shs ss) t l) from hP.out.full hNo.out)
          go_wp2_with (fail)
          go_ret
          have h1 := hA.out.below hB2.out
          rw [HI.out.eq (isG_grps _ _)] at h1
          have h2 := hO.out.below hB2.out
          have h3 := bt hB.out hB2.out
          first | exact ⟨_, rfl, ⟨_, h2, h1⟩, h3⟩ | exact ⟨_, rfl, _, h2, h1, h3⟩ | exact ⟨_, _, rfl, h2, h1, h3⟩
        · have HPS := (show Hid (Pf (shs ss) t (l ++ [((ss j).wg, plc (shs ss) t (ss j).wg)])) from hP.out.step hBs.out)
          have HPN := (show Hid (plc (shs ss) t (ss j).wg ≠ []) from plc_pos ⟨j, hBs.out.lt, (sh_iff _ _ _).2 ⟨by have := hBs.out.cnd; unfold Cnd at this; exact this.1, rfl⟩⟩)
          obtain ⟨b, o, rfl, hAj⟩ := (HL.out.below (bt hB.out hB2.out)).at hBs.out.lt
          have hrun := hAj.hrunAt
          have hji : (j : Int) < (t : Int) := by have := hBs.out.lt; omega
          have hj0 : ¬ ((j : Int) < 0) := by omega
          have hj1 : (0 : Int) ≤ (j : Int) := Int.natCast_nonneg _
          clear hAj
          go_wp2_with (first
            | (refine wpList_ldAt rfl _ _ rfl b (o + j * 19 + 1) rfl _ hrun ?_)
            | (refine wpList_alB rfl rfl zero_Hd ?_; intro w4 hG4 hb4 hs4)
            | (refine wpList_stB (cs := (ss j).hd.cs) rfl _ _ rfl rfl W2.heap.size rfl rfl hG4 (size_Hd _) (hdC_same _ _) (hdC_one _) ?_; intro w5 hG5 hg5 hs5; have HB5 := (show Hid (Below W2.heap.size W2 w5) from grown_below hb4 hg5 hb4.size (Nat.le_refl _)); have HH5 := (show Hid (GB w5 W2.heap.size 52 (ss j).hd.cs) from hG5); clear hG5 hG4))
          have bd5 : Below w5.heap.size w5 w5.drew := (Below.refl _ _).drew
          have B05 := (show Hid (Below W0.heap.size W0 w5.drew) from bt hB2.out (bt HB5.out bd5))
          have HBw5 := (show Hid (Below w.heap.size w w5.drew) from bt hB.out B05.out)
          have OX5 := (show Hid (Ox w5.drew w.heap.size (.slice pv q cv) es) from hO.out.below B05.out)
          have HA5 := (show Hid (Ax w5.drew w.heap.size es l) from hA.out.below B05.out)
          have HS5 := (show Hid (w.heap.size ≤ w5.drew.heap.size) from HBw5.out.size)
          have HLE := (show Hid (es.length + 1 ≤ 2932031007402) from by have := HQ.out; have := HQn.out; have := HN.out; show _ ≤ _; omega)
          have HNB := (show Hid ((Value.slice pv q cv).ownBlock ≠ some W2.heap.size) from fun e => by
            have h1 := hO.out
            unfold Ox at h1
            have h2 := (h1.lt _ e).2
            have h3 := hB2.out.size
            omega)
          have PL := (show Hid _ from rplaces_any (c := c) (HL.out.below HBw5.out) HN.out (ss j).wg)
          obtain ⟨x12, x14, x15⟩ := gb_hd (HH5.out.below bd5)
          clear hrun
          refine wp_region_held_drew (S := fun X => X.cell? ⟨W2.heap.size, 12, none⟩ = some (.int .i64 (ss j).hd.sz) ∧ X.cell? ⟨W2.heap.size, 14, none⟩ = some (.int .i64 (ss j).hd.ep) ∧ X.cell? ⟨W2.heap.size, 15, none⟩ = some (.int .i64 (ss j).hd.ct)) (by kernel_rfl) ⟨x12, x14, x15⟩ (fun hHeld => ?_)
          clear x12 x14 x15
          refine takeHr (i := 0) (d := some 84) (v := ?v156) rfl rfl (by kernel_rfl) (by kernel_rfl) (by kernel_rfl) (fun _ _ _ h => h) (Or.inl ⟨by rfl, ?hy156⟩) hHeld ?rest156
          case hy156 => intro X hSw; obtain ⟨g0, g1, g2⟩ := hSw; go_simp <;> with_reducible rfl
          try simp only [Act.put, List.setIfInBounds_toArray, List.set_cons_zero, List.set_cons_succ]
          refine takeHr (i := 1) (d := some 85) (v := ?v157) rfl rfl (by kernel_rfl) (by kernel_rfl) (by kernel_rfl) (fun _ _ _ h => h) (Or.inl ⟨by rfl, ?hy157⟩) hHeld ?rest157
          case hy157 => intro X hSw; obtain ⟨g0, g1, g2⟩ := hSw; go_simp <;> with_reducible rfl
          try simp only [Act.put, List.setIfInBounds_toArray, List.set_cons_zero, List.set_cons_succ]
          refine takeHr (i := 2) (d := some 86) (v := ?v158) rfl rfl (by kernel_rfl) (by kernel_rfl) (by kernel_rfl) (fun _ _ _ h => h) (Or.inl ⟨by rfl, ?hy158⟩) hHeld ?rest158
          case hy158 => intro X hSw; obtain ⟨g0, g1, g2⟩ := hSw; go_simp <;> with_reducible rfl
          try simp only [Act.put, List.setIfInBounds_toArray, List.set_cons_zero, List.set_cons_succ]
          refine takeHr (i := 3) (d := some 87) (v := ?v159) rfl rfl (by kernel_rfl) (by kernel_rfl) (by kernel_rfl) (fun _ _ _ h => h) (Or.inl ⟨by rfl, ?hy159⟩) hHeld ?rest159
          case hy159 => intro X hSw; obtain ⟨g0, g1, g2⟩ := hSw; go_simp <;> with_reducible rfl
          try simp only [Act.put, List.setIfInBounds_toArray, List.set_cons_zero, List.set_cons_succ]
          refine takeHr (i := 4) (d := some 88) (v := ?v160) rfl rfl (by kernel_rfl) (by kernel_rfl) (by kernel_rfl) (fun _ _ _ h => h) (Or.inl ⟨by rfl, ?hy160⟩) hHeld ?rest160
          case hy160 => intro X hSw; obtain ⟨g0, g1, g2⟩ := hSw; go_simp <;> with_reducible rfl
          try simp only [Act.put, List.setIfInBounds_toArray, List.set_cons_zero, List.set_cons_succ]
          refine takeHr (i := 5) (d := some 89) (v := ?v161) rfl rfl (by kernel_rfl) (by kernel_rfl) (by kernel_rfl) (fun _ _ _ h => h) (Or.inl ⟨by rfl, ?hy161⟩) hHeld ?rest161
          case hy161 => intro X hSw; obtain ⟨g0, g1, g2⟩ := hSw; go_simp <;> with_reducible rfl
          try simp only [Act.put, List.setIfInBounds_toArray, List.set_cons_zero, List.set_cons_succ]
          refine takeHr (i := 6) (d := some 90) (v := ?v162) rfl rfl (by kernel_rfl) (by kernel_rfl) (by kernel_rfl) (fun _ _ _ h => h) (Or.inl ⟨by rfl, ?hy162⟩) hHeld ?rest162
          case hy162 => intro X hSw; obtain ⟨g0, g1, g2⟩ := hSw; go_simp <;> with_reducible rfl
          try simp only [Act.put, List.setIfInBounds_toArray, List.set_cons_zero, List.set_cons_succ]
          refine takeHr (i := 7) (d := some 91) (v := ?v163) rfl rfl (by kernel_rfl) (by kernel_rfl) (by kernel_rfl) (fun _ _ _ h => h) (Or.inl ⟨by rfl, ?hy163⟩) hHeld ?rest163
          case hy163 => intro X hSw; obtain ⟨g0, g1, g2⟩ := hSw; go_simp <;> with_reducible rfl
          try simp only [Act.put, List.setIfInBounds_toArray, List.set_cons_zero, List.set_cons_succ]
          refine takeHr (i := 8) (d := some 92) (v := ?v164) rfl rfl (by kernel_rfl) (by kernel_rfl) (by kernel_rfl) (fun _ _ _ h => h) (Or.inl ⟨by rfl, ?hy164⟩) hHeld ?rest164
          case hy164 => intro X hSw; obtain ⟨g0, g1, g2⟩ := hSw; go_simp <;> with_reducible rfl
          try simp only [Act.put, List.setIfInBounds_toArray, List.set_cons_zero, List.set_cons_succ]
          refine takeHr (i := 9) (d := some 93) (v := ?v165) rfl rfl (by kernel_rfl) (by kernel_rfl) (by kernel_rfl) (fun _ _ _ h => h) (Or.inl ⟨by rfl, ?hy165⟩) hHeld ?rest165
          case hy165 => intro X hSw; obtain ⟨g0, g1, g2⟩ := hSw; go_simp <;> with_reducible rfl
          try simp only [Act.put, List.setIfInBounds_toArray, List.set_cons_zero, List.set_cons_succ]
          refine wpAnyH_ready (rs := [10]) (by kernel_rfl) (by simp) ?_
          refine AllReadyH.cons (o := { dst := some 94, op := Op.call { callee := Callee.value (Operand.func 29), args := #[Operand.tmp 89, Operand.tmp 91, Operand.tmp 93], argTypes := #[24, 38, 3] }, type := 39, pos := "votes.go:70", after := #[{ on := 5, ground := Ground.data }, { on := 7, ground := Ground.data }, { on := 9, ground := Ground.data }], guard := none }) rfl (fun Kq hKq => ?_) AllReadyH.nil
          · go_simp
            refine (PL.out).mono ?_
            rintro e w6 ⟨v6, rfl, hO6, hb6⟩
            obtain ⟨b9, rfl⟩ := on_slv hO6 HPN.out
            refine hKq.out _ _ ⟨cell_below hHeld.1 hb6, cell_below hHeld.2.1 hb6, cell_below hHeld.2.2 hb6⟩ (fun hHeld => ?_)
            clear hKq Kq
            try simp only [Act.put, List.setIfInBounds_toArray, List.set_cons_zero, List.set_cons_succ]
            refine takeHr (i := 11) (d := some 95) (v := .agg (grE ((ss j).wg, b9)).toArray) rfl rfl (by kernel_rfl) (by kernel_rfl) (by kernel_rfl) (fun _ _ _ h => h) (Or.inl ⟨by rfl, ?hy167⟩) hHeld ?rest167
            case hy167 => intro X hSw; exact ex_bdX _ _ _ _ _ rfl rfl
            try simp only [Act.put, List.setIfInBounds_toArray, List.set_cons_zero, List.set_cons_succ]
            refine wpAnyH_ready (rs := [12]) (by kernel_rfl) (by simp) ?_
            refine AllReadyH.cons (o := { dst := some 96, op := Op.buildSlice 25 1 #[(0, Operand.tmp 95)], type := 25, pos := "votes.go:70", after := #[{ on := 11, ground := Ground.data }], guard := none }) rfl (fun Kq hKq => ?_) AllReadyH.nil
            · skip
              refine step_bsX rfl (.tmp 95) rfl ((ss j).wg, b9) rfl ?_
              refine hKq.out _ _ ⟨cell_below hHeld.1 (al _ _), cell_below hHeld.2.1 (al _ _), cell_below hHeld.2.2 (al _ _)⟩ (fun hHeld => ?_)
              clear hKq Kq
              try simp only [Act.put, List.setIfInBounds_toArray, List.set_cons_zero, List.set_cons_succ]
              refine wpAnyH_ready (rs := [13]) (by kernel_rfl) (by simp) ?_
              refine AllReadyH.cons (o := { dst := some 97, op := Op.call { callee := Callee.builtin Builtin.append, args := #[Operand.tmp 84, Operand.tmp 96], argTypes := #[25, 25] }, type := 25, pos := "votes.go:70", after := #[{ on := 0, ground := Ground.data }, { on := 12, ground := Ground.data }, { on := 10, ground := Ground.chain }], guard := none }) rfl (fun Kq hKq => ?_) AllReadyH.nil
              · skip
                refine step_apX rfl (.tmp 84) (.tmp 96) rfl w.heap.size (.slice pv q cv) es ((ss j).wg, b9) rfl ((OX5.out.below hb6).below (al _ _)) w6.heap.size 1 rfl (GB.new w6 _ _) HLE.out (Nat.le_trans HS5.out (Nat.le_trans hb6.size (al _ _).size)) ?_
                intro v9 w9 hO9 hg9
                refine hKq.out _ _ ⟨cell_grown hHeld.1 hg9 (HNB.out), cell_grown hHeld.2.1 hg9 (HNB.out), cell_grown hHeld.2.2 hg9 (HNB.out)⟩ (fun hHeld => ?_)
                clear hKq Kq
                try simp only [Act.put, List.setIfInBounds_toArray, List.set_cons_zero, List.set_cons_succ]
                refine takeHr (i := 14) (d := some 3) (v := ?v170) rfl rfl (by kernel_rfl) (by kernel_rfl) (by kernel_rfl) (fun _ _ _ h => h) (Or.inl ⟨by rfl, ?hy170⟩) hHeld ?rest170
                case hy170 => intro X hSw; obtain ⟨g0, g1, g2⟩ := hSw; go_simp <;> with_reducible rfl
                try simp only [Act.put, List.setIfInBounds_toArray, List.set_cons_zero, List.set_cons_succ]
                refine wpAnyH_done (by kernel_rfl) ?_ _
                have OX7 := (show Hid (Ox (w6.alloc (.cells (grE ((ss j).wg, b9)).toArray 68)) w.heap.size (.slice pv q cv) es) from (OX5.out.below hb6).below (al _ _))
                have HB7 := (show Hid (Below w.heap.size w (w6.alloc (.cells (grE ((ss j).wg, b9)).toArray 68))) from bt (bt HBw5.out hb6) (al _ _))
                have HB9 := (show Hid (Below w.heap.size w w9) from OX7.out.grown HB7.out HB7.out.size hg9 (Nat.le_refl _))
                have HA9 := (show Hid (Ax w9 w.heap.size (es ++ [((ss j).wg, b9)]) (l ++ [((ss j).wg, plc (shs ss) t (ss j).wg)])) from Ax.young (Ax.add ((HA5.out.below hb6).below (al _ _)) rfl ((hO6.mono HS5.out).below (al _ _))) OX7.out hg9)
                clear hHeld
                go_wp2_with (fail)
                go_roundw
                case rel => exact ⟨_, _, hO9, HA9, HPS, HB9⟩
                case measure => exact lenV_lt hO9 HQ.out HQn.out
end
end Go.Proofs.Ytcoegbbhmdbafaa
