/-
  StripeOpen: one shard's blocks are written over; places that are emptied.
-/
import Derived.Test.YtgokkppojhokbaaOa10
import Derived.Test.YtgokkppojhokbaaPo10
import Derived.Deep.RegionHeld3
import Derived.Laws.StructEq
namespace Go.Proofs.Ytgokkppojhokbaa
open Go.RowKit Go.ChangeShapes Go.WideShapes Go.ChangeAt
theorem bm_in10 {P : List Nat} {t : Nat} (h : t ∈ P) : bm P t = .bool true := by unfold bm; simp [h]
theorem bm_out10 {P : List Nat} {t : Nat} (h : t ∉ P) : bm P t = .bool false := by unfold bm; simp [h]
theorem lo_pos {P : List Nat} {n i : Nat} (h : ¬ i ∈ P) (hn : 0 < n) : 0 < lo P n i := by unfold lo; rw [if_neg h]; exact hn
theorem lsp_add (h : Hd) (n : Nat) (vs : Nat → Value) (Q : List Nat) (T os : Nat) (ho : os < T) : (fun r => if r = os then shc hd0 (.slice none 0 0) else lsp h n vs Q T r) = lsp h n vs (Q ++ [os]) T := by
  funext r
  unfold lsp
  by_cases e : r = os
  · subst e; rw [if_pos rfl, if_pos ⟨ho, by simp⟩]
  · rw [if_neg e]
    by_cases e2 : r < T ∧ r ∈ Q
    · rw [if_pos e2, if_pos ⟨e2.1, by simp [e2.2]⟩]
    · rw [if_neg e2, if_neg (fun h => e2 ⟨h.1, by have := h.2; simp [e] at this; exact this⟩)]
theorem lsp_nil (h : Hd) (n : Nat) (vs : Nat → Value) (T : Nat) : lsp h n vs [] T = lsp h n vs [] 0 := by
  funext r
  unfold lsp
  rw [if_neg (by simp), if_neg (by simp)]
theorem obs_of2 {w : World} {g n K M B : Nat} {h : Hd} {L : List Nat} {F D : Nat → Nat → BitVec 8} {vs : Nat → Value} {P : List Nat} (hi : h.In) (hy : h.key.length ≤ 9223372036854775807) (hn : n ≤ 140737488355328) (hc : chk (h.of n) = 0) (hu : h.Nu n K M B L) (hz1 : szC h.k h.m h.b n = 0) (hz2 : szL h.k h.m h.b n = L) (hF : Fac K F)
    (hO : Ov w 44 g (flat (lsp h n vs P (K + M))) ((K + M) * 17)) (hR : ∀ i, i < K + M → ∃ b, vs i = .slice (some ⟨b, 0, none⟩) L.length L.length) (hN : ∀ i, i < K + M → i ∉ P → NmT w (vs i) L.length (fun j => L.getD j 0) (fun j x => mm fdE K F D i ((L.take j).sum + x))) (hP : P.length ≤ M) :
    ∃ m, Obs w (.slice (some ⟨g, 0, none⟩) (K + M) (K + M)) (lsH h n P) (lsV vs P) m n K M B L F D := by
  have hk := hu.k1
  have hct := cnth_ls hu P (K + M)
  have hhit := hit_le P (K + M)
  obtain ⟨i0, hi0, ht0⟩ := cnth_some (lsH h n P) (K + M) (by omega)
  obtain ⟨f, hf, htf, hj⟩ := least (fun i => thr? (lsH h n P i)) i0 ht0
  have hfP : f ∉ P := by
    have h1 := thr_ls hu P f
    rw [htf] at h1
    simpa using h1.symm
  have hin : ({ h.of n with ix := (f : Int) } : Hd).In := by
    have h2 := Hd.of_in hi hn
    exact ⟨h2.k, h2.m, h2.b, h2.sz, ⟨by show (_ : Int) ≤ (f : Int); omega, by show (f : Int) ≤ _; have := hu.km; omega⟩, h2.ep, h2.ct⟩
  refine ⟨{ h.of n with ix := (f : Int) }, ov_sds hO (fun i hi => lsp_end h n vs P _ i hi), hin, hy, Hd.at_ok hu hc (by omega), rfl, ⟨hu.k, hu.m, hu.b, hu.k1, hu.m1, hu.mle, hu.km, hu.b1, hu.b2, hu.n1, hu.l, hu.s, hu.c, hu.r⟩, hz1, hz2, hF, fun i hi ht => ?_, fun i hi => ?_, by omega, ⟨f, by omega, htf, hj, by unfold lsH; rw [if_neg hfP]⟩⟩
  · have hiP : i ∉ P := by
      have h1 := thr_ls hu P i
      rw [ht] at h1
      simpa using h1.symm
    obtain ⟨b, hb⟩ := hR i hi
    refine ⟨by unfold lsH; rw [if_neg hiP], some ⟨b, 0, none⟩, L.length, ?_, Nat.le_refl _, ?_⟩
    · unfold lsV; rw [if_neg hiP]; exact hb
    · rw [← hb]; exact (hN i hi hiP).nm
  · unfold lsV
    by_cases e : i ∈ P
    · rw [if_pos e]; exact ⟨_, _, _, rfl⟩
    · rw [if_neg e]
      obtain ⟨b, hb⟩ := hR i hi
      exact ⟨_, _, _, hb⟩
/-- All blocks but those from lo on and below hi are as they were. -/
structure Kp (lo hi : Nat) (w w' : World) : Prop where
  bl : Below lo w w'
  ot : ∀ k, k < w.heap.size → ¬ (lo ≤ k ∧ k < hi) → w'.heap[k]? = w.heap[k]?
  sz : w.heap.size ≤ w'.heap.size
theorem Kp.refl (lo hi : Nat) (w : World) : Kp lo hi w w := ⟨Below.refl _ _, fun _ _ _ => rfl, Nat.le_refl _⟩
theorem Kp.drewN {lo hi : Nat} {w w' : World} (h : Kp lo hi w w') (n : Nat) : Kp lo hi w (w'.drewN n) := ⟨below_drewN h.bl n, h.ot, h.sz⟩
theorem Kp.drew {lo hi : Nat} {w w' : World} (h : Kp lo hi w w') : Kp lo hi w w'.drew := ⟨h.bl.drew, h.ot, h.sz⟩
theorem Kp.set {lo hi : Nat} {w w' : World} (h : Kp lo hi w w') {g : Nat} (h1 : lo ≤ g) (h2 : g < hi) (j : Nat) (v : Value) : Kp lo hi w (w'.setCell ⟨g, j, none⟩ v) :=
  ⟨h.bl.setCell h1 _, fun k hk hne => by rw [heap_setCell_other _ _ _ _ (fun e => hne (by rw [e]; exact ⟨h1, h2⟩)), h.ot k hk hne], by simpa using h.sz⟩
theorem Kp.ov {lo hi : Nat} {w w' : World} (h : Kp lo hi w w') {t : TypeId} {k n : Nat} {f : Nat → Value} (ho : Ov w t k f n) (hne : ¬ (lo ≤ k ∧ k < hi)) : Ov w' t k f n := by
  unfold Ov; rw [h.ot k ho.lt hne]; exact ho
theorem ShO.kp {w w' : World} {v : Value} {L : List Nat} {N : Nat → Nat → BitVec 8} {a b lo hi : Nat} (h : ShO w v L N a b) (hk : Kp lo hi w w') (hd : b ≤ lo ∨ hi ≤ a) : ShO w' v L N a b := by
  obtain ⟨B, ρ, h1, h2, h3, h4, h5, h6, h7⟩ := h
  exact ⟨B, ρ, h1, hk.ov h2 (by omega), fun j hj => hk.ov (h3 j hj) (by have := h4 j hj; omega), h4, h5, h6, h7⟩
theorem ShO.nmt {w : World} {v : Value} {L : List Nat} {N : Nat → Nat → BitVec 8} {a b : Nat} (h : ShO w v L N a b) : NmT w v L.length (fun j => L.getD j 0) N := by
  obtain ⟨B, ρ, h1, h2, h3, _⟩ := h
  exact ⟨fun j => .slice (some ⟨ρ j, 0, none⟩) (L.getD j 0) (L.getD j 0), by rw [h1]; exact h2.st _ _, fun j hj => (h3 j hj).st _ _⟩
theorem ShO.form {w : World} {v : Value} {L : List Nat} {N : Nat → Nat → BitVec 8} {a b : Nat} (h : ShO w v L N a b) : ∃ B, v = .slice (some ⟨B, 0, none⟩) L.length L.length := by
  obtain ⟨B, ρ, h1, _⟩ := h
  exact ⟨B, h1⟩
theorem ShO.lt {w : World} {v : Value} {L : List Nat} {N : Nat → Nat → BitVec 8} {a b : Nat} (h : ShO w v L N a b) : a < b := by
  obtain ⟨B, ρ, _, _, _, _, _, h6, h7⟩ := h
  omega
/-- The bounds rise. -/
theorem bd_up {w : World} {vs : Nat → Value} {L : List Nat} {N : Nat → Nat → Nat → BitVec 8} {bd : Nat → Nat} {T : Nat} (h : ∀ i, i < T → ShO w (vs i) L (N i) (bd i) (bd (i + 1))) : ∀ {i j : Nat}, i ≤ j → j ≤ T → bd i ≤ bd j := by
  intro i j hij
  induction j with
  | zero => intro _; have e : i = 0 := by omega
            rw [e]; exact Nat.le_refl _
  | succ j ih =>
    intro hj
    by_cases e : i = j + 1
    · rw [e]; exact Nat.le_refl _
    · have h1 := ih (by omega) (by omega)
      have h2 := (h j (by omega)).lt
      omega
theorem take_up (L : List Nat) {t : Nat} : ∀ {j : Nat}, t ≤ j → (L.take t).sum ≤ (L.take j).sum
  | 0, h => by
    have e : t = 0 := by omega
    rw [e]; exact Nat.le_refl _
  | j + 1, h => by
    by_cases e : t = j + 1
    · rw [e]; exact Nat.le_refl _
    · refine Nat.le_trans (take_up L (j := j) (by omega)) ?_
      rcases Nat.lt_or_ge j L.length with hl | hl
      · rw [sum_take_succ L j hl]; omega
      · rw [List.take_of_length_le (by omega), List.take_of_length_le (by omega)]; exact Nat.le_refl _
theorem lin_ne (L : List Nat) {t j k x : Nat} (ht : t < L.length) (hj : j < L.length) (h : t ≠ j) (hk : k < L.getD t 0) (hx : x < L.getD j 0) : (L.take t).sum + k ≠ (L.take j).sum + x := by
  rcases Nat.lt_or_ge t j with h1 | h1
  · have h2 := take_up L (t := t + 1) (j := j) h1
    rw [sum_take_succ L t ht] at h2
    omega
  · have h2 := take_up L (t := j + 1) (j := t) (by omega)
    rw [sum_take_succ L j hj] at h2
    omega
/-- A shard's blocks, written over: what they hold by its place in the row. -/
structure Wb (w : World) (L : List Nat) (B : Nat) (ρ : Nat → Nat) (C : Nat → BitVec 8) : Prop where
  arr : Ov w 23 B (fun j => .slice (some ⟨ρ j, 0, none⟩) (L.getD j 0) (L.getD j 0)) L.length
  row : ∀ j, j < L.length → Ov w 5 (ρ j) (clE (fun x => C ((L.take j).sum + x))) (L.getD j 0)
  fst : ∀ j, j < L.length → B < ρ j
  up : ∀ i i', i < i' → i' < L.length → ρ i < ρ i'
theorem Wb.below {w w' : World} {L : List Nat} {B : Nat} {ρ : Nat → Nat} {C : Nat → BitVec 8} (h : Wb w L B ρ C) (hb : Below w.heap.size w w') : Wb w' L B ρ C := ⟨h.arr.below hb, fun j hj => (h.row j hj).below hb, h.fst, h.up⟩
theorem Wb.set {w : World} {L : List Nat} {B : Nat} {ρ : Nat → Nat} {C : Nat → BitVec 8} (h : Wb w L B ρ C) {t k : Nat} (ht : t < L.length) (hk : k < L.getD t 0) (b : BitVec 8) : Wb (w.setCell ⟨ρ t, k, none⟩ (.int .u8 (el b))) L B ρ (fun c => if c = (L.take t).sum + k then b else C c) := by
  refine ⟨h.arr.other (p := ⟨ρ t, k, none⟩) (Nat.ne_of_lt (h.fst t ht)) rfl, fun j hj => ?_, h.fst, h.up⟩
  by_cases e : j = t
  · subst e
    refine ((h.row j hj).set hk (.int .u8 (el b))).congr (fun i _ => ?_)
    unfold clE
    dsimp only
    by_cases e2 : i = k
    · subst e2; rw [if_pos rfl, if_pos rfl]
    · rw [if_neg e2, if_neg (by omega)]
  · have hne : ρ j ≠ ρ t := by
      rcases Nat.lt_or_ge j t with h1 | h1
      · exact Nat.ne_of_lt (h.up j t h1 ht)
      · exact (Nat.ne_of_lt (h.up t j (by omega) hj)).symm
    refine ((h.row j hj).other (p := ⟨ρ t, k, none⟩) hne rfl).congr (fun i hi => ?_)
    unfold clE
    dsimp only
    rw [if_neg (lin_ne L hj ht e hi hk)]
theorem Wb.nmt {w : World} {L : List Nat} {B : Nat} {ρ : Nat → Nat} {C : Nat → BitVec 8} (h : Wb w L B ρ C) : NmT w (.slice (some ⟨B, 0, none⟩) L.length L.length) L.length (fun j => L.getD j 0) (fun j x => C ((L.take j).sum + x)) :=
  ⟨fun j => .slice (some ⟨ρ j, 0, none⟩) (L.getD j 0) (L.getD j 0), h.arr.st _ _, fun j hj => (h.row j hj).st _ _⟩
/-- The order behind so many turns. -/
def ot (P : List Nat) (N : Nat) : Nat → List Nat
  | 0 => []
  | 1 => [] ++ sel P true N
  | _ => sel P true N ++ sel P false N
theorem ot_two (P : List Nat) (N : Nat) : ot P N 2 = ord P N := rfl
theorem ord_own {w : World} {b : Nat} {v : Value} {P : List Nat} {N : Nat} (h : w.ownsRow b 3 1 v (ord P N).length (pvs (ord P N))) (h0 : 0 < N) : ∃ g c, v = .slice (some ⟨g, 0, none⟩) N c ∧ b ≤ g ∧ ∀ i, i < N → w.cell? ⟨g, i, none⟩ = some (.int .i64 (od P N i : Nat)) := by
  have hl := ord_len P N
  have h2 := h
  rw [pvs_lv] at h2
  have st := owns_st1 h2
  rcases h.2 with ⟨_, h1⟩ | ⟨g, cap, c, hv, hg, _⟩
  · omega
  · subst hv
    refine ⟨g, cap, by rw [hl], hg, fun i hi => ?_⟩
    obtain ⟨b', o', c', e, hc⟩ := (St.sv st).cells (by omega)
    injection e with e1 e2 e3
    injection e1 with e1
    injection e1 with e1 e4 e5
    subst e1 e4
    have := hc i (by omega)
    rw [Nat.zero_add] at this
    exact this
theorem qo_step (P : List Nat) (N s : Nat) (h : 1 ≤ s) : qo P N s = qo P N (s - 1) ++ [od P N s] := by
  obtain ⟨t, rfl⟩ : ∃ t, s = t + 1 := ⟨s - 1, by omega⟩
  exact qo_succ P N t
theorem qo_zero (P : List Nat) (N : Nat) : qo P N 0 = [] := rfl
theorem len_bd {h : Hd} {n K M B : Nat} {L : List Nat} (hu : h.Nu n K M B L) : L.length ≤ 1000000000 ∧ ∀ j, L.getD j 0 ≤ 140737488355328 := by
  have h1 := hu.s
  have h2 := hu.r
  have h3 := hu.n1
  refine ⟨by omega, fun j => ?_⟩
  rcases Nat.lt_or_ge j L.length with h4 | h4
  · have := sum_take_lt L j h4
    omega
  · rw [List.getD_eq_getElem?_getD, List.getElem?_eq_none h4]
    simp
theorem Kp.cell {lo hi : Nat} {w w' : World} (h : Kp lo hi w w') {p : Addr} {v : Value} (hc : w.cell? p = some v) (hne : ¬ (lo ≤ p.block ∧ p.block < hi)) : w'.cell? p = some v := by
  rw [World.cell?_of_block (w := w) (h.ot p.block (block_lt_of_cell hc) hne)]; exact hc
theorem meas10 {t N : Nat} (h : t < N) : N - (intOf (.int .i64 ((t + 1 : Nat) : Int))).toNat < N - (intOf (.int .i64 (t : Int))).toNat := by
  simp only [intOf, Int.toNat_natCast]; omega
theorem nr_un10 {w : World} {p : Option Addr} {c n : Nat} {f : Nat → BitVec 8} (h : NrE w (.slice p n c) n f) : 0 < n → ∃ b o, p = some ⟨b, o, none⟩ ∧ ∀ i, i < n → w.cell? ⟨b, o + i, none⟩ = some (clE f i) := by
  obtain ⟨p', c', e, h⟩ := nr_un h
  injection e with e1 e2 e3
  subst e1
  exact h
/-- Fits for less bytes. -/
theorem Fits.less {K M B N N' ep ct : Nat} {key : List (BitVec 8)} (h : Fits K M B N ep ct key) (hn : N' ≤ N) : Fits K M B N' ep ct key := ⟨h.k1, h.m1, h.mlk, h.km, h.b1, h.b2, Nat.le_trans hn h.n1, Nat.le_trans hn h.n2, h.e1, h.e2, h.c1, h.c2, h.y1, h.y2⟩
theorem bytes_ofM {H : Type} {enc : TypeId × Value → H} {W : World} {n : Nat} {v : Value} {y : DataW H × List MemPlace} (h : DataW.trod enc Try.prog W 0 (fun _ => true) true n 23 [v] = some y) : ∃ (p : Option Addr) (n c : Nat) (d : Nat → BitVec 8), v = .slice p n c ∧ n ≤ 9223372036854775807 ∧ NrE W (.slice p n c) n d := by
  rcases open_ints Try.underlying23 Try.underlying5 (by kernel_rfl) h with ⟨hcs, _⟩ | ⟨x, l, c, zs, hcs, _, hl, hm, hz, hx, hcell, hwz⟩
  · simp at hcs
    subst hcs
    exact ⟨none, 0, 0, fun _ => 0#8, rfl, by omega, ⟨none, 0, rfl, .inl rfl⟩⟩
  · simp at hcs
    subst hcs
    simp only [if_true] at hz
    unfold maxLen at hm
    exact ⟨some x, l, c, _, rfl, by omega, row_of hl (fun i hi => hcell i (by rw [hz]; exact hi)) hwz⟩
theorem fits_T {K M B N ep ct T : Nat} {key : List (BitVec 8)} (h : Fits K M B N ep ct key) (e : K + M = T) : T ≤ 255 ∧ 1 ≤ T ∧ M < T := by
  have h1 := h.km
  have h2 := h.k1
  subst e
  exact ⟨h1, by omega, by omega⟩
theorem bd_out {g lo hi S gO : Nat} (h : g < lo ∧ hi ≤ S) (hg : S ≤ gO) : ¬ (lo ≤ gO ∧ gO < hi) := by omega
theorem bd_in {g lo hi S : Nat} (h : g < lo ∧ hi ≤ S) : ¬ (lo ≤ g ∧ g < hi) := by omega
theorem bd_low {b S g lo hi : Nat} (h1 : b < S) (h2 : S ≤ g) (h3 : g < lo) : ¬ (lo ≤ b ∧ b < hi) := by omega
theorem bd_low2 {b g lo hi : Nat} (h1 : b < g) (h3 : g < lo) : ¬ (lo ≤ b ∧ b < hi) := by omega
theorem HdAt.kp {lo hi g : Nat} {w w' : World} {h : Hd} (H : HdAt w g h) (hb : Kp lo hi w w') (hg : ¬ (lo ≤ g ∧ g < hi)) : HdAt w' g h := by
  have hl := H.lt
  unfold HdAt at H ⊢
  rw [hb.ot g hl hg]; exact H
theorem w_succ {t L : Nat} (h : t < L) (hL : L ≤ 9223372036854775807) : wrap64 ((t : Int) + 1) = ((t + 1 : Nat) : Int) := by unfold wrap64; omega
theorem nr_cut {w : World} {p : Option Addr} {n c q : Nat} {f : Nat → BitVec 8} (h : NrE w (.slice p n c) n f) (hq : q ≤ n) : NrE w (.slice p q c) q f := by
  obtain ⟨p', c', e, h⟩ := nr_un h
  injection e with e1 e2 e3
  subst e1 e3
  refine ⟨_, _, rfl, ?_⟩
  by_cases h0 : q = 0
  · exact .inl h0
  · obtain ⟨b, o, e, hc⟩ := h (by omega)
    exact .inr ⟨b, o, e, fun i hi => hc i (by omega)⟩
/-- The numbers of the cutting. -/
theorem cut_nums (N K : Nat) (hN : N ≤ 1048576) : ∃ m, N % K = m ∧ (N : Int).tmod (K : Int) = (m : Int) ∧ wrap64 ((N : Int) - (m : Int)) = ((N - m : Nat) : Int) ∧ m ≤ N ∧ (N - m) % K = 0 := by
  refine ⟨N % K, rfl, by rw [← Int.ofNat_tmod], ?_, Nat.mod_le _ _, ?_⟩
  · have := Nat.mod_le N K
    unfold wrap64
    omega
  · have := Nat.div_add_mod N K
    have e : N - N % K = K * (N / K) := by omega
    rw [e]; exact Nat.mul_mod_right _ _
theorem ex_ldR {o : Oper} {a : Act} {X : World} {t : TypeId} {x : Operand} {p : Addr} {cs : Array Value} (ho : o.op = .load t x) (hx : a.eval x = .pointer (some p)) (hr : (loadVar t p).run Try.prog X = .ok (.agg cs) X) : (execOp a.eval o).run Try.prog X = .ok (.value (.agg cs)) X := by
  unfold execOp
  simp only [ho, hx, Instr.loadAt, Instr.sureAddr, Sem.run_bind, Sem.run_pure, Result.andThen_ok, hr]
theorem ex_bin {o : Oper} {a : Act} {X : World} {op : BinOp} {t t2 : TypeId} {x y : Operand} {u v r : Value} (ho : o.op = .binOp op t x y t2) (hx : a.eval x = u) (hy : a.eval y = v) (hg : (eqGuard op t x y u v).run Try.prog X = .ok () X) (h : (binOp op t u v).run Try.prog X = .ok r X) : (execOp a.eval o).run Try.prog X = .ok (.value r) X := by
  unfold execOp
  simp only [ho, hx, hy, Sem.run_bind, hg, h, Sem.run_pure, Result.andThen_ok]
theorem takeHr {P : Program} {ops : Array Oper} {Q : Exit → Act → World → Prop} {md : Region.Mode} {S : World → Prop} {i : Nat} {oi : Oper} {d : Option Tmp} {v : Value} {fuel : Nat} {listed : Array Bool} {a : Act} {w : World} (hi : ops[i]? = some oi) (hd : oi.dst = d)
    (hs : Region.noSelect ops = true) (hf : Region.free md ops listed i = true) (hr : (Region.ready md ops listed).contains i = true)
    (hQ : ∀ c a w, Q (.panic c) (a.put oi.dst v) w → Q (.panic c) a w) (hy : YieldsIf P ops S oi v a) (hS : S w)
    (h : wpAnyH P md ops Q S fuel (listed.setIfInBounds i true) (a.put d v) w) : wpAnyH P md ops Q S (fuel + 1) listed a w := by
  subst hd; exact wpAnyH_take hi hs hf hr hQ hy hS h
theorem sd_of {w : World} {t : TypeId} {g n : Nat} {S : Nat → Array Value} {h : Hd} {v : Value} (hO : Ov w t g (flat S) (n * 17)) {i : Nat} (hi : i < n) (e : S i = shc h v) : Sd w g (i * 17) h v := by
  intro j u hj
  have hj' : j < 17 := by
    rcases Nat.lt_or_ge j 17 with h9 | h9
    · exact h9
    · rw [List.getElem?_eq_none (by exact h9)] at hj; cases hj
  rw [flat_at hO i j hi hj', e]
  rw [Array.getElem?_toList] at hj
  simp [Array.getD]
  have := (Array.getElem?_eq_some_iff.1 hj)
  obtain ⟨h1, h2⟩ := this
  simp [h1, h2]
theorem Sd.runH {w : World} {b o : Nat} {h : Hd} {v : Value} (H : Sd w b o h v) : (loadVar 33 ⟨b, o, none⟩).run Try.prog w = .ok (.agg h.cs) w :=
  run_loadVar_at w b o 33 h.cs _ (fun j u hj => H j u (shc_at h v j u hj)) Try.underlying33 rfl sizeHd
theorem size_Shp : (Try.prog.info? 29).map (·.size) = some 3 := by kernel_rfl
theorem Sd.runS {w : World} {b o : Nat} {h : Hd} {v : Value} (H : Sd w b o h v) : (loadVar 29 ⟨b, o + 8, none⟩).run Try.prog w = .ok (.agg #[.int .i64 h.k, .int .i64 h.m, .int .i64 h.b]) w := by
  obtain ⟨c8, c9, c10, _⟩ := H.cells
  refine run_loadVar_at w b (o + 8) 29 #[.int .i64 h.k, .int .i64 h.m, .int .i64 h.b] _ (fun j u hj => ?_) Try.underlying29 rfl size_Shp
  match j with
  | 0 => simp at hj; subst hj; exact c8
  | 1 => simp at hj; subst hj; exact c9
  | 2 => simp at hj; subst hj; exact c10
  | j + 3 => simp at hj
theorem lsp_in {h : Hd} {n : Nat} {vs : Nat → Value} {Q : List Nat} {T t : Nat} (ht : t < T) (hq : t ∈ Q) : lsp h n vs Q T t = shc hd0 (.slice none 0 0) := by unfold lsp; rw [if_pos ⟨ht, hq⟩]
theorem lsp_out {h : Hd} {n : Nat} {vs : Nat → Value} {Q : List Nat} {T t : Nat} (hq : ¬ t ∈ Q) : lsp h n vs Q T t = shc { h.of n with ix := (t : Int) } (vs t) := by unfold lsp; rw [if_neg (fun h => hq h.2)]
theorem spc_at {h : Hd} {vs : Nat → Value} {T t : Nat} (ht : t < T) : spc h T vs t = shc { h with ix := (t : Int) } (vs t) := by unfold spc; rw [if_pos ht]
theorem neq_shp0 {K : Nat} (hK : 1 ≤ K) (m b : Int) (w : World) : (binOp .neq 29 (.agg #[.int .i64 (K : Int), .int .i64 m, .int .i64 b]) (.agg #[.int .i64 0, .int .i64 0, .int .i64 0])).run Try.prog w = .ok (.bool true) w := by
  have h0 : ((K : Int) == 0) = false := by rw [beq_eq_false_iff_ne]; omega
  have hk : ¬ K = 0 := by omega
  rw [run_neq_struct]
  go_simp
  repeat' split
  all_goals simp_all
theorem neq_head_self (h : Hd) (w : World) : (binOp .neq 33 (.agg h.cs) (.agg h.cs)).run Try.prog w = .ok (.bool false) w := by
  have := neq_head h h w
  rw [(hq_iff h h).2 rfl] at this
  exact this
end Go.Proofs.Ytgokkppojhokbaa
