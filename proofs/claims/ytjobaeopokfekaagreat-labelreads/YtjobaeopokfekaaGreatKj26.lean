/-
  A drive that is loaded: what Load leans on.
-/
import Derived.Test.YtjobaeopokfekaaGreatWx26
import Derived.Test.YtjobaeopokfekaaGreatAm26
import Derived.Deep.RegionHeld3
import Derived.Laws.Tables
import Derived.Laws.Rows
import Derived.Great.BuildSlice
import Derived.Deep.CutBlock
import Derived.RegionTactic
import Derived.BigRegion
namespace Go.Proofs.YtjobaeopokfekaaGreat
open Go.RowKit Go.Maps Go.Sort
/-- A struct in a block of its own. -/
def GB (w : World) (g : Nat) (t : TypeId) (cs : Array Value) : Prop := w.heap[g]? = some (.cells cs t)
theorem GB.lt {w : World} {g : Nat} {t : TypeId} {cs : Array Value} (H : GB w g t cs) : g < w.heap.size := by
  rcases Nat.lt_or_ge g w.heap.size with h1 | h1
  · exact h1
  · unfold GB at H; rw [Array.getElem?_eq_none h1] at H; cases H
theorem GB.below {w w' : World} {g : Nat} {t : TypeId} {cs : Array Value} (H : GB w g t cs) (hb : Below w.heap.size w w') : GB w' g t cs := by
  have hl := H.lt
  unfold GB at H ⊢
  rw [hb.block g hl]; exact H
theorem GB.new (w : World) (t : TypeId) (cs : Array Value) : GB (w.alloc (.cells cs t)) w.heap.size t cs := heap_alloc_new w _
theorem GB.cell {w : World} {g : Nat} {t : TypeId} {cs : Array Value} (H : GB w g t cs) (i : Nat) : w.cell? ⟨g, i, none⟩ = cs[i]? := cell_of_row w g i _ _ (0, 0) H
theorem run_loadVar_at {P : Program} (w : World) (g o : Nat) (ty : TypeId) (cs : Array Value) (d : TypeDesc) (hc : ∀ j v, cs.toList[j]? = some v → w.cell? ⟨g, o + j, none⟩ = some v)
    (hu : P.underlying ty = some d) (hd : (match d with | .struct _ | .array _ _ => true | _ => false) = true) (hi : (P.info? ty).map (·.size) = some cs.size) :
    (loadVar ty ⟨g, o, none⟩).run P w = .ok (.agg cs) w := by
  have hl : (loadCells ⟨g, o, none⟩ cs.toList.length).run P w = .ok cs.toList.toArray w :=
    run_loadCells_list (P := P) w ⟨g, o, none⟩ cs.toList (fun j v hv => by
      rw [add_plD]
      exact hc j v hv)
  cases hq : P.info? ty with
  | none => simp [hq] at hi
  | some i =>
    have hs : i.size = cs.size := by simpa [hq] using hi
    have hagg : (isAgg ty).run P w = .ok true w := by
      unfold isAgg
      rw [Sem.run_bind, run_underlying hu w]
      cases d <;> simp_all
    simp only [Array.length_toList, Array.toArray_toList] at hl
    simp [loadVar, Sem.run_bind, hagg, sizeOf, typeInfo, hq, hs, hl]
section
variable {w : World} {ops : Array Oper} {rest : List Oper} {o : Oper} {a : Act} {Q : Exit → Act → World → Prop}
theorem wpList_ldAt (hgd : o.guard = none) (ty : TypeId) (x : Operand) (ho : o.op = .load ty x) (g of : Nat) (hx : a.eval x = .pointer (some ⟨g, of, none⟩)) (cs : Array Value) (hr : (loadVar ty ⟨g, of, none⟩).run Tryz.prog w = .ok (.agg cs) w)
    (k : wpList Tryz.prog ops Q rest (a.put o.dst (.agg cs)) w) : wpList Tryz.prog ops Q (o :: rest) a w := by
  refine wpList_plain hgd fun K hK => ?_
  unfold Oper.wp execOp
  simp only [ho, hx, Instr.loadAt, Instr.sureAddr, Sem.run_bind, Sem.run_pure, Result.andThen_ok, hr]
  exact hK _ _ k
theorem wpList_alB {t : TypeId} {cs : Array Value} (hgd : o.guard = none) (ho : o.op = .alloc t) (hz : ∀ w : World, (zeroValue t).run Tryz.prog w = .ok (.agg cs) w)
    (h : ∀ w', GB w' w.heap.size t cs → Below w.heap.size w w' → Hid (w'.heap.size = w.heap.size + 1) → wpList Tryz.prog ops Q rest (a.put o.dst (.pointer (some ⟨w.heap.size, 0, none⟩))) w') : wpList Tryz.prog ops Q (o :: rest) a w := by
  refine wpList_plain hgd fun K hK => ?_
  have h2 := h (w.alloc (.cells cs t)) (GB.new w t cs) ((Below.refl _ _).alloc (Nat.le_refl _) _) (by show _ = _; simp)
  unfold Oper.wp execOp
  simp only [ho, Sem.run_bind, Instr.alloc, newVar, newRow, hz, run_newObj_alloc, Sem.run_pure, Result.andThen_ok, Value.cells]
  exact hK _ _ h2
theorem wpList_stB {t : TypeId} {cs cs0 : Array Value} (hgd : o.guard = none) (x y : Operand) (ho : o.op = .store t x y) (hd : o.dst = none) (g : Nat) (hx : a.eval x = .pointer (some ⟨g, 0, none⟩)) (hy : a.eval y = .agg cs) (H : GB w g t cs0) (hs : (Tryz.prog.info? t).map (·.size) = some cs.size) (he : cs.size = cs0.size) (h1 : (cs.all fun x => x.oneCell') = true)
    (k : ∀ w', GB w' g t cs → w.grownBy w' (some g) → Hid (w'.heap.size = w.heap.size) → wpList Tryz.prog ops Q rest a w') : wpList Tryz.prog ops Q (o :: rest) a w := by
  refine wpList_store_rowTo hgd t x y ho hd g cs hx hy t cs0 H hs (by rw [he]) h1 ?_
  refine k _ ?_ ⟨rfl, rfl, rfl, by simp, fun k _ hk => setRow_other w g k _ (fun e => hk (by rw [e]))⟩ (by show _ = _; simp)
  unfold GB at H ⊢
  exact setRow_heap w g _ _ _ _ H
end
/-- A whole world is there still, and new memory. -/
theorem grown_belowG {w w' w0 : World} {g B : Nat} (h : Below B w0 w) (hg : w.grownBy w' (some g)) (hB : B ≤ w.heap.size) (hgB : B ≤ g) : Below B w0 w' := h.grown hg hB (fun j hj => by cases hj; exact hgB)
theorem own_form {w : World} {base : Nat} {te : TypeId} {sz : Nat} {v : Value} {n : Nat} {xs : List Value} (h : w.ownsRow base te sz v n xs) : ∃ p cap, v = .slice p n cap ∧ n ≤ cap := by
  rcases h.2 with ⟨hv, h1⟩ | ⟨g, cap, cur, hv, _, _, hn, _⟩
  · exact ⟨none, 0, by rw [hv, h1], by omega⟩
  · exact ⟨_, cap, hv, hn⟩
def ftC (u v : Value) : Array Value := #[u, v]
theorem ft_c0 {w : World} {g : Nat} {t : TypeId} {u v : Value} (h : GB w g t (ftC u v)) : w.cell? ⟨g, 0, none⟩ = some u := h.cell 0
theorem ft_c1 {w : World} {g : Nat} {t : TypeId} {u v : Value} (h : GB w g t (ftC u v)) : w.cell? ⟨g, 1, none⟩ = some v := h.cell 1
theorem own_ltG {w : World} {base : Nat} {te : TypeId} {sz n : Nat} {v : Value} {xs : List Value} (h : w.ownsRow base te sz v n xs) {g : Nat} (e : v.ownBlock = some g) : base ≤ g ∧ g < w.heap.size ∧ ∃ cs, w.heap[g]? = some (.cells cs te (0, 0)) := by
  rcases h.2 with ⟨hv, _⟩ | ⟨g', cap, c, hv, h1, hh, _⟩
  · rw [hv] at e; cases e
  · rw [hv] at e
    simp [Value.ownBlock] at e
    subst e
    exact ⟨h1, blt hh, c, hh⟩
theorem GB.frozen {w : World} {g : Nat} {t : TypeId} {cs : Array Value} (h : GB w g t cs) (i : Nat) : w.frozen? ⟨g, i, none⟩ = false := frozen_of_row w g i _ _ h
theorem ftC_one {u v : Value} (h1 : u.oneCell' = true) (h2 : v.oneCell' = true) : ((ftC u v).all fun x => x.oneCell') = true := by simp [ftC, h1, h2]
theorem GB.run {w : World} {g : Nat} {t : TypeId} {cs : Array Value} (H : GB w g t cs) {fs : Array Field} (hu : Tryz.prog.underlying t = some (.struct fs)) (hs : (Tryz.prog.info? t).map (·.size) = some cs.size) : (loadVar t ⟨g, 0, none⟩).run Tryz.prog w = .ok (.agg cs) w :=
  run_loadVar_at (P := Tryz.prog) w g 0 t cs _ (fun j v hv => by rw [Nat.zero_add, H.cell]; simpa using hv) hu rfl hs
/-- A file is laid on a drive that is being loaded. -/
def ld1 (σ : Ds) (f : Tx × Tx) : Ds := { σ with st := σ.st.put (.string f.1) (ip σ.bs.length), bs := σ.bs ++ [⟨f.2, f.2.length⟩], used := σ.used + f.2.length }
/-- What is loaded, or that it is refused. -/
def ldr (σ : Ds) : List (Tx × Tx) → Option Ds
  | [] => some { σ with sf := σ.st }
  | f :: L => if isN f.1 = true ∧ lk σ.st f.1 = none then ldr (ld1 σ f) L else none
def Ds.load (room : Int) (L : List (Tx × Tx)) : Option Ds := if 0 ≤ room ∧ room ≤ 1073741824 then ldr (Ds.new room.toNat) L else none
/-- Behind the first k files. -/
def ldn (r : Nat) (L : List (Tx × Tx)) (k : Nat) : Ds := (L.take k).foldl ld1 (Ds.new r)
theorem ldn_succ (r : Nat) (L : List (Tx × Tx)) (k : Nat) (h : k < L.length) : ldn r L (k + 1) = ld1 (ldn r L k) (L.getD k ([], [])) := by
  unfold ldn
  rw [List.take_add_one, List.getElem?_eq_getElem h, List.foldl_append]
  simp [List.getD, h]
theorem ldr_step {σ : Ds} {L : List (Tx × Tx)} {k : Nat} (h : k < L.length) : ldr σ (L.drop k) = if isN (L.getD k ([], [])).1 = true ∧ lk σ.st (L.getD k ([], [])).1 = none then ldr (ld1 σ (L.getD k ([], []))) (L.drop (k + 1)) else none := by
  rw [List.drop_eq_getElem_cons h]
  simp [ldr, List.getD, h]
theorem ld_keeps : ∀ (l : List (Tx × Tx)) (σ : Ds), (l.foldl ld1 σ).room = σ.room ∧ (l.foldl ld1 σ).sf = σ.sf ∧ (l.foldl ld1 σ).pend = σ.pend
  | [], _ => ⟨rfl, rfl, rfl⟩
  | f :: l, σ => ld_keeps l (ld1 σ f)
theorem ldn_room (r : Nat) (L : List (Tx × Tx)) (k : Nat) : (ldn r L k).room = r ∧ (ldn r L k).sf = .map [] ∧ (ldn r L k).pend = [] := ld_keeps (L.take k) (Ds.new r)
/-- How much files hold. -/
def fsz (L : List (Tx × Tx)) : Nat := (L.map fun f => 1 + f.2.length).sum
theorem fsz_take (L : List (Tx × Tx)) (k : Nat) (h : k < L.length) : fsz (L.take (k + 1)) = fsz (L.take k) + 1 + (L.getD k ([], [])).2.length := by
  unfold fsz
  rw [List.take_add_one, List.getElem?_eq_getElem h, List.map_append, List.sum_append]
  simp [List.getD, h, Nat.add_assoc]
theorem fsz_le (L : List (Tx × Tx)) (k : Nat) : fsz (L.take k) ≤ fsz L := by
  unfold fsz
  conv => rhs; rw [← List.take_append_drop k L]
  rw [List.map_append, List.sum_append]
  omega
theorem body_app (σ : Ds) (b : Bd) (i : Nat) : Ds.body { σ with bs := σ.bs ++ [b] } i = if i = σ.bs.length then b else σ.body i := by
  simp only [Ds.body, List.getD]
  rcases Nat.lt_trichotomy i σ.bs.length with h | h | h
  · rw [List.getElem?_append_left h, if_neg (by omega)]
  · subst h; simp
  · rw [if_neg (by omega), List.getElem?_eq_none (by simp; omega), List.getElem?_eq_none (by omega)]
/-- How much a drive that is being loaded may have come to. -/
structure Okl (k : Nat) (σ : Ds) : Prop where
  u0 : 0 ≤ σ.used
  u1 : σ.used ≤ (k : Int)
  bl : ∀ i, (σ.body i).data.length ≤ k
  sa : ∀ i, (σ.body i).safe ≤ (σ.body i).data.length
  ts : Tidy σ.st
  ss : Maps.size σ.st ≤ k
  nn : NN σ.st
theorem nn_put {D : Dir} (ht : Tidy D) (h : NN D) (x : Tx) (i : Nat) : NN (D.put (.string x) (ip i)) := fol1_nn ht h (x, some i)
theorem tidy_put {D : Dir} (ht : Tidy D) (x : Tx) (i : Nat) : Tidy (D.put (.string x) (ip i)) ∧ Maps.size (D.put (.string x) (ip i)) ≤ Maps.size D + 1 := fol1_tidy ht (x, some i)
theorem Okl.new (r : Nat) : Okl 0 (Ds.new r) := ⟨Int.le_refl _, Int.le_refl _, fun i => by simp [Ds.new, Ds.body], fun i => by simp [Ds.new, Ds.body], tidy_empty, Nat.le_refl _, nn_nil⟩
theorem Okl.step {k : Nat} {σ : Ds} (h : Okl k σ) (f : Tx × Tx) : Okl (k + 1 + f.2.length) (ld1 σ f) := by
  obtain ⟨t1, t2⟩ := tidy_put h.ts f.1 σ.bs.length
  have h0 := h.u0
  have h1 := h.u1
  have h2 := h.ss
  refine ⟨?_, ?_, fun i => ?_, fun i => ?_, t1, ?_, nn_put h.ts h.nn _ _⟩
  · show 0 ≤ σ.used + (f.2.length : Int); omega
  · show σ.used + (f.2.length : Int) ≤ _; omega
  · show (Ds.body { σ with bs := σ.bs ++ [⟨f.2, f.2.length⟩] } i).data.length ≤ _
    rw [body_app]
    split
    · show f.2.length ≤ k + 1 + f.2.length; omega
    · have := h.bl i; omega
  · show (Ds.body { σ with bs := σ.bs ++ [⟨f.2, f.2.length⟩] } i).safe ≤ (Ds.body { σ with bs := σ.bs ++ [⟨f.2, f.2.length⟩] } i).data.length
    rw [body_app]
    split
    · exact Nat.le_refl _
    · exact h.sa i
  · show Maps.size (σ.st.put _ _) ≤ _; omega
theorem ldn_okl (r : Nat) (L : List (Tx × Tx)) : ∀ k, k ≤ L.length → Okl (fsz (L.take k)) (ldn r L k)
  | 0, _ => by
    have := Okl.new r
    simpa [fsz, ldn] using this
  | k + 1, h => by
    rw [ldn_succ r L k h, fsz_take L k h]
    exact (ldn_okl r L k (by omega)).step _
theorem Okl.okk {k : Nat} {σ : Ds} (h : Okl k σ) (hp : σ.pend = []) : Okk k { σ with sf := σ.st } := by
  have h0 := h.u0
  have h1 := h.u1
  have h2 := h.ss
  refine ⟨?_, ?_, h.bl, h.sa, h.ts, h.ts, ?_, ?_, fun c hc => ?_, h.nn, h.nn⟩
  · show _ ≤ σ.used; omega
  · show σ.used ≤ _; omega
  · show Maps.size σ.st ≤ _; omega
  · show Maps.size σ.st + 2 * σ.pend.length ≤ _; rw [hp]; simp; omega
  · have : c ∈ σ.pend := hc
    rw [hp] at this; cases this
/-- What is loaded is in bounds. -/
theorem ldr_okk (r : Nat) (L : List (Tx × Tx)) : ∀ k, k ≤ L.length → ∀ σ, ldr (ldn r L k) (L.drop k) = some σ → Okk (fsz L) σ ∧ σ.room = r := by
  intro k hk
  induction h : L.length - k generalizing k with
  | zero =>
    intro σ e
    have hk' : k = L.length := by omega
    subst hk'
    rw [List.drop_length] at e
    simp only [ldr, Option.some.injEq] at e
    subst e
    have ho := ldn_okl r L L.length (Nat.le_refl _)
    rw [List.take_length] at ho
    exact ⟨ho.okk (ldn_room r L _).2.2, (ldn_room r L _).1⟩
  | succ n ih =>
    intro σ e
    have hlt : k < L.length := by omega
    rw [ldr_step hlt] at e
    split at e
    · rw [← ldn_succ r L k hlt] at e
      exact ih (k + 1) (by omega) (by omega) σ e
    · cases e
theorem load_okk {room : Int} {L : List (Tx × Tx)} {σ : Ds} (h : Ds.load room L = some σ) : Okk (fsz L) σ ∧ σ.room ≤ 1073741824 := by
  unfold Ds.load at h
  split at h
  · obtain ⟨h1, h2⟩ := ldr_okk room.toNat L 0 (Nat.zero_le _) σ (by simpa [ldn] using h)
    exact ⟨h1, by omega⟩
  · cases h
/-- A body that came to be somewhere in new memory. -/
theorem Rest.addBody3 {w Y : World} {F : Nat → Prop} {σ : Ds} {m : List Nat} {rv : Nat → Value} {st sf : Option Nat} {pv : Value} (h : Rest w F σ m rv st sf pv) (hFw : ∀ b, F b → b < w.heap.size) (hb : Below w.heap.size w Y) (v : Value) (x : Bd) (gb : Nat) (hrow : Ob Y w.heap.size v x.data) (hgb : w.heap.size ≤ gb) (hblk : Y.heap[gb]? = some (.cells #[v, .int .i64 (x.safe : Int)] 103 (0, 0))) :
    Rest Y (fun b => F b ∨ (w.heap.size ≤ b ∧ b < Y.heap.size)) { σ with bs := σ.bs ++ [x] } (m ++ [gb]) (fun i => if i < σ.bs.length then rv i else v) st sf pv := by
  have h1 := (h.below hb).more (G := fun b => F b ∨ (w.heap.size ≤ b ∧ b < Y.heap.size)) (fun b hb => .inl hb)
  have hvg : ∀ g, v.ownBlock = some g → w.heap.size ≤ g ∧ g < Y.heap.size := fun g hg => by
    obtain ⟨h2, h3, _⟩ := own_ltG hrow hg
    exact ⟨h2, h3⟩
  refine ⟨?_, by simp [h1.len], ?_, fun i hi => ?_, ?_, ?_, h1.pvF⟩
  · rcases h1.dirs with h2 | ⟨s, f, e1, e2, hne, f1, f2, m1, m2⟩
    · exact .inl h2
    · exact .inr ⟨s, f, e1, e2, hne, f1, f2, om_more m1 _, om_more m2 _⟩
  · rw [List.nodup_append]
    refine ⟨h1.nodup, by simp, fun a ha b hb e => ?_⟩
    obtain ⟨i, hi, rfl⟩ := List.getElem_of_mem ha
    have hb' : b = gb := by simpa using hb
    have hi' : i < σ.bs.length := by rw [← h.len]; exact hi
    have := hFw _ (h.bod i hi').inF
    have e3 : m.getD i 0 = m[i] := by simp [hi]
    omega
  · by_cases hlt : i < σ.bs.length
    · have hb := h1.bod i hlt
      have e1 : (m ++ [gb]).getD i 0 = m.getD i 0 := getD_app _ _ _ (by rw [h.len]; exact hlt)
      have e2 : Ds.body { σ with bs := σ.bs ++ [x] } i = σ.body i := by unfold Ds.body; exact getD_app _ _ _ hlt
      simp only [e1, e2, if_pos hlt]
      exact hb
    · have hi' : i = σ.bs.length := by simp at hi; omega
      subst hi'
      have e1 : (m ++ [gb]).getD σ.bs.length 0 = gb := by rw [← h.len]; simp
      have e2 : Ds.body { σ with bs := σ.bs ++ [x] } σ.bs.length = x := by simp [Ds.body]
      simp only [e1, e2, if_neg hlt]
      refine ⟨hblk, ob_up hrow (Nat.zero_le _), .inr ⟨hgb, blt hblk⟩, fun g hg => .inr (hvg g hg)⟩
  · intro i j g hi hj hne e1 e2
    by_cases h3 : i < σ.bs.length
    · rw [if_pos h3] at e1
      by_cases h4 : j < σ.bs.length
      · rw [if_pos h4] at e2
        exact h.sep i j g h3 h4 hne e1 e2
      · rw [if_neg h4] at e2
        have g1 := (hvg g e2).1
        have g2 := hFw g ((h.bod i h3).rowF g e1)
        omega
    · rw [if_neg h3] at e1
      by_cases h4 : j < σ.bs.length
      · rw [if_pos h4] at e2
        have g1 := (hvg g e1).1
        have g2 := hFw g ((h.bod j h4).rowF g e2)
        omega
      · simp at hi hj; omega
  · obtain ⟨cv, p1, p2, p3⟩ := h1.pnd
    refine ⟨cv, p1, p2, fun j hj => ?_⟩
    obtain ⟨⟨g, cap, e1, hF, hg⟩, i1, i2⟩ := p3 j hj
    refine ⟨⟨g, cap, e1, hF, ?_⟩, fun l hl i e => ?_, i2⟩
    · rw [ldc_more i1]; exact hg
    · have := i1 l hl i e
      simp; omega
/-- All but the names. -/
def bareD (σ : Ds) : Ds := { σ with st := .map [], sf := .map [], pend := [] }
/-- A drive that is being loaded: all its memory is from B on; s is what stands. -/
structure LdM (B db s : Nat) (σ : Ds) (wr : World) : Prop where
  ex : ∃ m rv, StAt wr db σ.room σ.used (some s) none (.slice none 0 0) ∧ Rest wr (fun b => B ≤ b ∧ b < wr.heap.size ∧ b ≠ s) (bareD σ) m rv none none (.slice none 0 0) ∧ MpAt wr m s σ.st
  hs : B ≤ s ∧ s < wr.heap.size
  hd : B ≤ db
theorem LdM.below {B db s : Nat} {σ : Ds} {wr w' : World} (h : LdM B db s σ wr) (hb : Below wr.heap.size wr w') : LdM B db s σ w' := by
  obtain ⟨⟨m, rv, h1, h2, h3⟩, h4, h5⟩ := h
  have hz := hb.size
  refine ⟨⟨m, rv, h1.below hb, (h2.below hb).more (fun b h => ⟨h.1, by omega, h.2.2⟩), om_upto h3 hb⟩, ⟨h4.1, by omega⟩, h5⟩
theorem LdM.cells {B db s : Nat} {σ : Ds} {wr : World} (h : LdM B db s σ wr) : wr.cell? ⟨db, 1, none⟩ = some (.int .i64 σ.used) ∧ wr.cell? ⟨db, 2, none⟩ = some (.map (some s)) ∧ wr.frozen? ⟨db, 1, none⟩ = false ∧ wr.frozen? ⟨db, 3, none⟩ = false ∧ (∃ v, wr.cell? ⟨db, 3, none⟩ = some v) ∧ db < wr.heap.size := by
  obtain ⟨⟨m, rv, h1, h2, h3⟩, h4, h5⟩ := h
  exact ⟨h1.cell.2.1, h1.cell.2.2.1, h1.frozen 1, h1.frozen 3, ⟨_, h1.cell.2.2.2.1⟩, blt h1⟩
theorem LdM.look {B db s : Nat} {σ : Ds} {wr : World} (h : LdM B db s σ wr) {x : Tx} (hx : x.length ≤ maxLen) : ∃ p, (Instr.lookup 83 (.map (some s)) (encStr x) false).run Tryz.prog wr = .ok (.pointer p) wr ∧ (p = none ↔ lk σ.st x = none) := by
  obtain ⟨⟨m, rv, h1, h2, h3⟩, h4, h5⟩ := h
  obtain ⟨e1, e2⟩ := look_dir h3 hx
  refine ⟨pta m (lk σ.st x), e1, ?_⟩
  cases lk σ.st x <;> simp [pta]
theorem sd_ne {w : World} {db room s : Nat} {used : Int} {st sf : Option Nat} {pv : Value} {m : List Nat} {D : Dir} (S : StAt w db room used st sf pv) (M : MpAt w m s D) : s ≠ db := fun e => by
  obtain ⟨es, ck, ho, _⟩ := M
  unfold StAt at S
  rw [← e, ho] at S
  cases S
/-- The map is written: a name more. -/
theorem LdM.put {B db s : Nat} {σ : Ds} {W Y : World} (h : LdM B db s σ W) (_hB : B ≤ W.heap.size) (hb : Below W.heap.size W Y) (f : Tx × Tx) (p : Option Addr) (c gb : Nat) (hrow : Ob Y W.heap.size (.slice p f.2.length c) f.2) (hgb : W.heap.size ≤ gb) (hblk : Y.heap[gb]? = some (.cells #[.slice p f.2.length c, .int .i64 (f.2.length : Int)] 103 (0, 0))) (hx : f.1.length ≤ maxLen) (hs : Maps.size σ.st < maxLen) :
    ∃ w6, (Instr.mapUpdate 83 (.map (some s)) (encStr f.1) (.pointer (some ⟨gb, 0, none⟩))).run Tryz.prog Y = .ok () w6 ∧ Below B W w6 ∧ LdM B db s { (ld1 σ f) with used := σ.used } w6 ∧ Y.grownBy w6 (some s) ∧ s ≠ db ∧ s < W.heap.size := by
  obtain ⟨⟨m, rv, h1, h2, h3⟩, h4, h5⟩ := h
  have hz := hb.size
  have R3 := h2.addBody3 (fun b h => h.2.1) hb (.slice p f.2.length c) ⟨f.2, f.2.length⟩ gb hrow hgb hblk
  have hlen : m.length = σ.bs.length := h2.len
  have hM5 : Y.ownsMap Tryz.prog 9 (ptR (m ++ [gb])) s (Maps.size σ.st) σ.st := om_more (om_upto h3 hb) [gb]
  have hv := ptR_some R3.nodup (i := m.length) (by simp)
  rw [show ptv (m ++ [gb]) (some m.length) = .pointer (some ⟨gb, 0, none⟩) by simp [ptv, pta], hlen] at hv
  obtain ⟨w6, e1, e2, e3⟩ := hM5.update lawS Tryz.underlying83 hs (key_enc hx) hv
  have hz6 := e3.size
  have hsd := sd_ne h1 h3
  refine ⟨w6, e1, ?_, ⟨⟨m ++ [gb], (fun i => if i < (bareD σ).bs.length then rv i else .slice p f.2.length c), ?_, ?_, om_tight e2⟩, ⟨h4.1, by omega⟩, h5⟩, e3, hsd, h4.2⟩
  · refine ⟨e3.os.trans hb.os, e3.tape.trans hb.tape, e3.output.trans hb.output, by omega, fun k hk => ?_⟩
    rw [e3.block k (by omega) (fun e => by injection e with e; omega), hb.block k (by omega)]
  · have S' := h1.below hb
    unfold StAt at S' ⊢
    rw [e3.block db (blt S') (fun e => by injection e with e; exact hsd e.symm)]
    exact S'
  · refine (R3.same (w' := w6) (fun b o hF ho _ => e3.block b (blt ho) (fun e => ?_))).more (fun b h => ?_)
    · injection e with e
      subst e
      rcases hF with hF | hF
      · exact hF.2.2 rfl
      · omega
    · rcases h with h | h
      · exact ⟨h.1, by omega, h.2.2⟩
      · exact ⟨by omega, by omega, by omega⟩
/-- What is used is written. -/
theorem LdM.use {B db s : Nat} {σ : Ds} {W : World} (h : LdM B db s σ W) (u : Int) : LdM B db s { σ with used := u } (W.setCell ⟨db, 1, none⟩ (.int .i64 u)) := by
  obtain ⟨⟨m, rv, h1, h2, h3⟩, h4, h5⟩ := h
  have hsd := sd_ne h1 h3
  refine ⟨⟨m, rv, h1.set1 u, ?_, om_same h3 (Below.heap_setCell _ _ _ _ hsd)⟩, ⟨h4.1, by simp [World.setCell]; exact h4.2⟩, h5⟩
  have hz : (W.setCell ⟨db, 1, none⟩ (.int .i64 u)).heap.size = W.heap.size := by simp [World.setCell]
  rw [hz]
  exact (h2.setSt h1 1 (.int .i64 u)).used u
/-- All is loaded: what is safe is what stands. -/
theorem LdM.done {B db s f : Nat} {σ : Ds} {W Y : World} (h : LdM B db s σ W) (hp : σ.pend = []) (hb : Below W.heap.size W Y) (hf : f = W.heap.size) (hM : ∃ m rv, StAt W db σ.room σ.used (some s) none (.slice none 0 0) ∧ Rest W (fun b => B ≤ b ∧ b < W.heap.size ∧ b ≠ s) (bareD σ) m rv none none (.slice none 0 0) ∧ MpAt W m s σ.st ∧ MpAt Y m f σ.st) : DrAt (Y.setCell ⟨db, 3, none⟩ (.map (some f))) db { σ with sf := σ.st } (fun b => B ≤ b ∧ b < (Y.setCell ⟨db, 3, none⟩ (.map (some f))).heap.size) := by
  obtain ⟨_, h4, h5⟩ := h
  obtain ⟨m, rv, h1, h2, h3, M8⟩ := hM
  have hz := hb.size
  have hsd := sd_ne h1 h3
  have S8 := h1.below hb
  have hdb : db < W.heap.size := blt h1
  have hfs : f < Y.heap.size := by
    obtain ⟨es, ck, ho, _⟩ := M8
    exact blt ho
  have hsz : (Y.setCell ⟨db, 3, none⟩ (.map (some f))).heap.size = Y.heap.size := by simp [World.setCell]
  rw [hsz]
  have S' : StAt (Y.setCell ⟨db, 3, none⟩ (.map (some f))) db σ.room σ.used (some s) (some f) (.slice none 0 0) := by
    unfold StAt at S8 ⊢
    rw [heap_setCell_same Y db 3 _ _ _ S8]
    rfl
  have R' := ((h2.below hb).setSt S8 3 (.map (some f))).more (G := fun b => B ≤ b ∧ b < Y.heap.size) (fun b h => ⟨h.1, by omega⟩)
  refine ⟨⟨h5, by omega⟩, fun b h => by rw [hsz]; exact h.2, m, rv, some s, some f, .slice none 0 0, S', ?_⟩
  refine ⟨.inr ⟨s, f, rfl, rfl, by omega, ⟨h4.1, by omega⟩, ⟨by omega, hfs⟩, om_same (om_upto h3 hb) (Below.heap_setCell _ _ _ _ hsd), om_same M8 (Below.heap_setCell _ _ _ _ (fun e => by have e' : f = db := e; omega))⟩, R'.len, R'.nodup, R'.bod, R'.sep, ?_, R'.pvF⟩
  obtain ⟨cv, p1, p2, p3⟩ := R'.pnd
  show ∃ cv : List Value, World.ownsRow _ 0 _ 1 _ σ.pend.length cv ∧ cv.length = σ.pend.length ∧ _
  rw [hp]
  exact ⟨cv, p1, p2, p3⟩
theorem cell_grown {w w' : World} {b o s : Nat} {v : Value} (h : w.cell? ⟨b, o, none⟩ = some v) (hg : w.grownBy w' (some s)) (hne : b ≠ s) : w'.cell? ⟨b, o, none⟩ = some v := by
  have hl := block_lt_of_cell h
  have e := hg.block b hl (fun e => by injection e with e; exact hne e)
  rw [← h]
  unfold World.cell?
  simp only [e]
theorem takeHr {P : Program} {ops : Array Oper} {Q : Exit → Act → World → Prop} {md : Region.Mode} {S : World → Prop} {i : Nat} {oi : Oper} {d : Option Tmp} {v : Value} {fuel : Nat} {listed : Array Bool} {a : Act} {w : World} (hi : ops[i]? = some oi) (hd : oi.dst = d)
    (hs : Region.noSelect ops = true) (hf : Region.free md ops listed i = true) (hr : (Region.ready md ops listed).contains i = true)
    (hQ : ∀ c a w, Q (.panic c) (a.put oi.dst v) w → Q (.panic c) a w) (hy : YieldsIf P ops S oi v a) (hS : S w)
    (h : wpAnyH P md ops Q S fuel (listed.setIfInBounds i true) (a.put d v) w) : wpAnyH P md ops Q S (fuel + 1) listed a w := by
  subst hd; exact wpAnyH_take hi hs hf hr hQ hy hS h
end Go.Proofs.YtjobaeopokfekaaGreat
/-
  drive.New, drive.Load.
-/
namespace Go.Proofs.YtjobaeopokfekaaGreat
open Go.RowKit Go.Maps Go.Sort
/-- Files in memory. -/
def FlAt (w : World) (p : Option Addr) (L : List (Tx × Tx)) : Prop := ∀ i, i < L.length → ∃ b o v, p = some ⟨b, o, none⟩ ∧ w.cell? ⟨b, o + i * 2, none⟩ = some (encStr (L.getD i ([], [])).1) ∧ w.cell? ⟨b, o + i * 2 + 1, none⟩ = some v ∧ Tv w v (L.getD i ([], [])).2
theorem FlAt.below {w w' : World} {p : Option Addr} {L : List (Tx × Tx)} (h : FlAt w p L) (hb : Below w.heap.size w w') : FlAt w' p L := fun i hi => by
  obtain ⟨b, o, v, h1, h2, h3, h4⟩ := h i hi
  exact ⟨b, o, v, h1, cell_belowD h2 hb, cell_belowD h3 hb, h4.below hb⟩
theorem new_dr (w : World) (n : Nat) : DrAt (w.alloc (.cells #[.int .i64 (n : Int), .int .i64 0, .map none, .map none, .slice none 0 0] 86)) w.heap.size (Ds.new n) (· = w.heap.size) := by
  refine ⟨rfl, fun b hb => ?_, [], fun _ => undef, none, none, .slice none 0 0, heap_alloc_new w _, ?_⟩
  · have : b = w.heap.size := hb
    simp [this]
  · exact ⟨.inl ⟨rfl, rfl, rfl, rfl, rfl⟩, rfl, List.nodup_nil, fun i hi => absurd hi (Nat.not_lt_zero _), fun i j g hi => absurd hi (Nat.not_lt_zero _), ⟨[], ⟨rfl, .inl ⟨rfl, rfl⟩⟩, rfl, fun j hj => absurd hj (Nat.not_lt_zero _)⟩, fun g hg => by cases hg⟩
def drC (r : Int) : Array Value := #[.int .i64 r, .int .i64 0, .map none, .map none, .slice none 0 0]
theorem fl_two {w : World} {b o : Nat} {u v : Value} (h1 : w.cell? ⟨b, o, none⟩ = some u) (h2 : w.cell? ⟨b, o + 1, none⟩ = some v) : (loadVar 58 ⟨b, o, none⟩).run Tryz.prog w = .ok (.agg (ftC u v)) w := by
  refine run_loadVar_at (P := Tryz.prog) w b o 58 (ftC u v) _ (fun j x hj => ?_) Tryz.underlying58 rfl (by unfold ftC; kernel_rfl)
  unfold ftC at hj
  match j, hj with
  | 0, hj => simp at hj; subst hj; exact h1
  | 1, hj => simp at hj; subst hj; exact h2
  | j + 2, hj => simp at hj
theorem fl0 (w : World) : (zeroValue 58).run Tryz.prog w = .ok (.agg #[.string ⟨#[]⟩, .slice none 0 0]) w := by kernel_rfl
theorem size_Fl : (Tryz.prog.info? 58).map (·.size) = some 2 := by kernel_rfl
theorem tv_form {w : World} {v : Value} {d : Tx} (h : Tv w v d) : ∃ p c, v = .slice p d.length c := by
  rcases h with ⟨rfl, rfl⟩ | ⟨g, c, rfl, _⟩
  · exact ⟨none, 0, rfl⟩
  · exact ⟨_, c, rfl⟩
theorem frz_below {w w' : World} {a : Addr} (h : w.frozen? a = false) (hl : a.block < w.heap.size) (hb : Below w.heap.size w w') : w'.frozen? a = false := by
  rw [← h]
  unfold World.frozen?
  rw [hb.block a.block hl]
/-- The names are copied. -/
theorem ldm_clone {B db s : Nat} {σ : Ds} {wr : World} (h : LdM B db s σ wr) : Calls Tryz.prog 42 #[.map (some s)] wr fun e w' => e = .returned (.map (some wr.heap.size)) ∧ (∃ m rv, StAt wr db σ.room σ.used (some s) none (.slice none 0 0) ∧ Rest wr (fun b => B ≤ b ∧ b < wr.heap.size ∧ b ≠ s) (bareD σ) m rv none none (.slice none 0 0) ∧ MpAt wr m s σ.st ∧ MpAt w' m wr.heap.size σ.st) ∧ Below wr.heap.size wr w' := by
  obtain ⟨⟨m0, rv, h1, h2, h3⟩, h4, h5⟩ := h
  refine (AnyW.maps_Clone_owns Tryz.mclone 9 (ptR m0) s (Maps.size σ.st) σ.st wr h3).mono ?_
  rintro e w' ⟨e1, e2, e3, e4⟩
  exact ⟨e1, ⟨m0, rv, h1, h2, h3, e2⟩, e4⟩
theorem bt4 {w a b c : World} (h : Below w.heap.size w a) (h1 : Below a.heap.size a b) (h2 : Below b.heap.size b c) : Below w.heap.size w c := btD (btD h h1) h2
theorem ob_len {w : World} {base n c : Nat} {p : Option Addr} {d : Tx} (h : Ob w base (.slice p n c) d) : n = d.length := by
  obtain ⟨p', c', e, _⟩ := own_form h
  injection e
section
attribute [local irreducible] Calls
theorem safeBody_gb (p : Option Addr) (n c : Nat) (w : World) : Calls Tryz.prog 39 #[.slice p n c] w fun e w' => e = .returned (.pointer (some ⟨w.heap.size, 0, none⟩)) ∧ w'.heap[w.heap.size]? = some (.cells #[.slice p n c, .int .i64 (n : Int)] 103 (0, 0)) ∧ Below w.heap.size w w' := by
  refine (safeBody_any p n c w).mono ?_
  rintro e w' ⟨rfl, rfl⟩
  exact ⟨rfl, heap_alloc_new w _, alb w _⟩
set_option maxRecDepth 1000000 in
theorem new_ok (n : Nat) (hn : n ≤ 1073741824) (w : World) : Calls Tryz.prog 23 #[.int .i64 (n : Int)] w fun e w' => e = .returned (.pointer (some ⟨w.heap.size, 0, none⟩)) ∧ GB w' w.heap.size 86 (drC n) ∧ Below w.heap.size w w' ∧ Hid (w'.heap.size = w.heap.size + 1) := by
  have g1 : ¬ (n : Int) < 0 := by omega
  have g2 : decide ((n : Int) < 0) = false := by simp
  have g3 : ¬ (1073741824 : Int) < (n : Int) := by omega
  go_enter Tryz.func23, Tryz.ntmps23
  go_wp2
  go_ret
  exact ⟨rfl, GB.new w _ _, alb _ _, by show _ = _; simp⟩
set_option maxRecDepth 1000000 in
theorem new_bad (r : Int) (hr : ¬ (0 ≤ r ∧ r ≤ 1073741824)) (w : World) : Calls Tryz.prog 23 #[.int .i64 r] w fun e w' => e = .returned (.pointer none) ∧ w' = w := by
  by_cases h : r < 0
  · have g2 : decide (r < 0) = true := by simp [h]
    clear hr
    go_enter Tryz.func23, Tryz.ntmps23
    go_wp2
    go_ret
    exact ⟨rfl, rfl⟩
  · have g2 : decide (r < 0) = false := by simp [h]
    have g3 : 1073741824 < r := by omega
    clear hr
    go_enter Tryz.func23, Tryz.ntmps23
    go_wp2
    go_ret
    exact ⟨rfl, rfl⟩
end
theorem mkmap (n : Nat) (w : World) : (Instr.makeMap 83 (some (.int .i64 (n : Int)))).run Tryz.prog w = .ok (.map (some w.heap.size)) (w.alloc (.map #[] 0)) := by
  simp [Instr.makeMap, run_underlying Tryz.underlying83, asInt, asIntOf]
theorem ldm_new {w1 : World} {B db r : Nat} (h : GB w1 db 86 (drC r)) (hB : B ≤ db) : LdM B db w1.heap.size (Ds.new r) ((w1.alloc (.map #[] 0)).setCell ⟨db, 2, none⟩ (.map (some w1.heap.size))) ∧ (B ≤ w1.heap.size → Below B w1 ((w1.alloc (.map #[] 0)).setCell ⟨db, 2, none⟩ (.map (some w1.heap.size)))) := by
  have hl := h.lt
  have h2 : (w1.alloc (.map #[] 0)).heap[db]? = some (.cells (drC r) 86 (0, 0)) := by rw [Below.heap_alloc _ _ _ hl]; exact h
  have hz : ((w1.alloc (.map #[] 0)).setCell ⟨db, 2, none⟩ (.map (some w1.heap.size))).heap.size = w1.heap.size + 1 := by simp [World.setCell]
  refine ⟨⟨⟨[], fun _ => undef, ?_, ?_, ?_⟩, ⟨by omega, by omega⟩, hB⟩, fun hB' => ((Below.refl _ _).alloc hB' _).setCell hB _⟩
  · unfold StAt
    rw [heap_setCell_same _ db 2 _ _ _ h2]
    rfl
  · exact ⟨.inl ⟨rfl, rfl, rfl, rfl, rfl⟩, rfl, List.nodup_nil, fun i hi => absurd hi (Nat.not_lt_zero _), fun i j g hi => absurd hi (Nat.not_lt_zero _), ⟨[], ⟨rfl, .inl ⟨rfl, rfl⟩⟩, rfl, fun j hj => absurd hj (Nat.not_lt_zero _)⟩, fun g hg => by cases hg⟩
  · exact om_same (om_tight (World.ownsMap_made w1 Tryz.prog 9 (ptR []))) (Below.heap_setCell _ _ _ _ (fun e => by have e' : w1.heap.size = db := e; omega))
section
attribute [local irreducible] Calls GB ftC drC Tv
set_option maxHeartbeats 8000000 in
set_option maxRecDepth 1000000 in
theorem load_any {w : World} (room : Int) (p : Option Addr) (n c : Nat) (L : List (Tx × Tx)) (hL : FlAt w p L) (hn : L.length = n) (hz : fsz L ≤ 140737488355328) (hx : ∀ f ∈ L, f.1.length ≤ 134217728) (hnn : n ≤ 134217728) :
    Calls Tryz.prog 19 #[.int .i64 room, .slice p n c] w fun e w' => ((Ds.load room L = none ∧ e = .returned (.pointer none)) ∨ ∃ σ db, Ds.load room L = some σ ∧ e = .returned (.pointer (some ⟨db, 0, none⟩)) ∧ DrAt w' db σ (fun b => w.heap.size ≤ b ∧ b < w'.heap.size)) ∧ Below w.heap.size w w' := by
  by_cases hr : 0 ≤ room ∧ room ≤ 1073741824
  · obtain ⟨r, rfl⟩ : ∃ r : Nat, room = (r : Int) := ⟨room.toNat, by omega⟩
    have hr' : r ≤ 1073741824 := by omega
    have HE := (show Hid (Ds.load (r : Int) L = ldr (ldn r L 0) (L.drop 0)) from by show _ = _; unfold Ds.load; rw [if_pos hr]; simp [ldn])
    clear hr
    go_enter Tryz.func19, Tryz.ntmps19
    go_upto_region 4 with (go_at_call 23; refine (new_ok r hr' _).mono ?_; rintro e w1 ⟨rfl, hG1, hb1, hs1⟩)
    obtain ⟨d2, e2⟩ : ∃ v, w1.cell? ⟨w.heap.size, 2, none⟩ = some v := ⟨_, by have := hG1.cell 2; unfold drC at this; exact this⟩
    replace e2 := cell_belowD e2 (alb w1 (.map #[] 0))
    have f2 := (hG1.below (alb w1 (.map #[] 0))).frozen 2
    have hmm := mkmap n
    go_wp2
    obtain ⟨hM2, hB2⟩ := ldm_new (B := w.heap.size) hG1 (Nat.le_refl _)
    have hB2' := hB2 hb1.size
    clear e2 f2 hmm hB2
    generalize (w1.alloc (.map #[] 0)).setCell ⟨w.heap.size, 2, none⟩ (.map (some w1.heap.size)) = W at *
    have M0 := (show Hid (LdM w.heap.size w.heap.size w1.heap.size (ldn r L 0) W) from hM2)
    have B0 := (show Hid (Below w.heap.size w W) from hb1.trans hB2')
    clear hM2 hB2' hG1 hb1 hs1 d2
    go_loopw [20] (fun i wr => ∃ k : Nat, k ≤ n ∧ i = .int .i64 (k : Int) ∧ Hid (LdM w.heap.size w.heap.size w1.heap.size (ldn r L k) wr) ∧ Hid (Below w.heap.size w wr) ∧ Hid (Ds.load (r : Int) L = ldr (ldn r L k) (L.drop k))) (fun i _ => n - (intOf i).toNat)
    case atStart => exact ⟨0, Nat.zero_le _, rfl, M0, B0, HE⟩
    case round =>
      obtain ⟨k, hk, rfl, hM, hB, hE⟩ := hrel
      by_cases hlt : k < n
      · have hi : (k : Int) < (n : Int) := by omega
        obtain ⟨b, o, v, rfl, d1, d2, hT⟩ := hL.below hB.out k (by omega)
        obtain ⟨x, hx'⟩ : ∃ x, x = L.getD k ([], []) := ⟨_, rfl⟩
        rw [← hx'] at d1 hT
        obtain ⟨pv, cv, rfl⟩ := tv_form hT
        have hld := fl_two d1 d2
        have hxl : x.1.length ≤ 134217728 := hx x (by rw [hx']; have hkl : k < L.length := by omega
                                                      rw [List.getD, List.getElem?_eq_getElem hkl]; exact List.getElem_mem _)
        have HX := (show Hid (x = L.getD k ([], [])) from hx')
        clear hx'
        go_upto_region 8 with (first
          | (refine wpList_ldAt rfl _ _ rfl b (o + k * 2) rfl _ hld ?_)
          | (refine wpList_alB (cs := ftC (.string ⟨#[]⟩) (.slice none 0 0)) rfl rfl (by unfold ftC; exact fl0) ?_; intro w3 hG3 hb3 hs3)
          | (refine wpList_stB (cs := ftC (encStr x.1) (.slice pv x.2.length cv)) rfl _ _ rfl rfl wr.heap.size rfl rfl hG3 (by unfold ftC; exact size_Fl) (by unfold ftC; rfl) (ftC_one rfl rfl) ?_; intro w4 hG4 hg4 hs4))
        have B4 := (show Hid (Below wr.heap.size wr w4) from grown_belowG hb3 hg4 hb3.size (Nat.le_refl _))
        have M4 := (show Hid (LdM w.heap.size w.heap.size w1.heap.size (ldn r L k) w4) from hM.out.below B4.out)
        have G4 := (show Hid (GB w4 wr.heap.size 58 (ftC (encStr x.1) (.slice pv x.2.length cv))) from hG4)
        have T4 := (show Hid (Tv w4 (.slice pv x.2.length cv) x.2) from hT.below B4.out)
        have E4 := (show Hid (ldr (ldn r L k) (L.drop k) = if isN x.1 = true ∧ lk (ldn r L k).st x.1 = none then ldr (ld1 (ldn r L k) x) (L.drop (k + 1)) else none) from by rw [HX.out]; exact ldr_step (by omega))
        clear hld hG3 hb3 hs3 hG4 hg4 hs4 hT d1 d2
        have x0 := ft_c0 G4.out
        have x1 := ft_c1 G4.out
        obtain ⟨u1, u2, fz1, fz3, ⟨v3, u3⟩, hdl⟩ := M4.out.cells
        have hIN := (show Hid _ from fun W => isName_any x.1 (by omega) W)
        have HZ := (show Hid (x.2.length ≤ 140737488355328) from by
          have h1 := fsz_take L k (by omega)
          have h2 := fsz_le L (k + 1)
          rw [← HX.out] at h1
          show _ ≤ _
          omega)
        have SNE := (show Hid (w1.heap.size < wr.heap.size) from hM.out.hs.2)
        have MS := (show Hid (Maps.size (ldn r L k).st < maxLen) from by
          have h1 := (ldn_okl r L k (by omega)).ss
          have h2 := fsz_le L k
          show _ < _
          unfold maxLen
          omega)
        obtain ⟨wd, hwd⟩ : ∃ wq, wq = w4.drew := ⟨_, rfl⟩
        have bd : Below w4.heap.size w4 wd := by rw [hwd]; exact (Below.refl _ _).drew
        have HBd := (show Hid (Below w4.heap.size w4 wd) from bd)
        obtain ⟨q, hlq, hqn⟩ := (M4.out.below bd).look (x := x.1) (by unfold maxLen; omega)
        have LKd := (show Hid ((Instr.lookup 83 (.map (some w1.heap.size)) (encStr x.1) false).run Tryz.prog wd = .ok (.pointer q) wd) from hlq)
        clear hlq
        cases hN : isN x.1 with
        | false =>
          rw [hN] at hIN
          have HNO := (show Hid (¬ (isN x.1 = true ∧ lk (ldn r L k).st x.1 = none)) from fun h => by rw [hN] at h; exact absurd h.1 (by decide))
          clear hN
          refine wp_region_held_drew (S := fun X => X.cell? ⟨wr.heap.size, 0, none⟩ = some (encStr x.1) ∧ X.cell? ⟨w.heap.size, 2, none⟩ = some (.map (some w1.heap.size)) ∧ X = wd) (by kernel_rfl) (by rw [← hwd]; exact ⟨cell_belowD x0 bd, cell_belowD u2 bd, rfl⟩) (fun hHeld => ?_)
          rw [← hwd] at hHeld ⊢
          clear hwd bd
          refine takeHr (i := 0) (d := some 24) (v := ?v1) rfl rfl (by kernel_rfl) (by kernel_rfl) (by kernel_rfl) (fun _ _ _ h => h) (Or.inl ⟨by rfl, ?hy1⟩) hHeld ?rest1
          case hy1 => intro X hSw; obtain ⟨g1, g2, rfl⟩ := hSw; (try have lkd := LKd.out); go_simp <;> with_reducible rfl
          try simp only [Act.put, List.setIfInBounds_toArray, List.set_cons_zero, List.set_cons_succ]
          refine takeHr (i := 1) (d := some 25) (v := ?v2) rfl rfl (by kernel_rfl) (by kernel_rfl) (by kernel_rfl) (fun _ _ _ h => h) (Or.inl ⟨by rfl, ?hy2⟩) hHeld ?rest2
          case hy2 => intro X hSw; obtain ⟨g1, g2, rfl⟩ := hSw; (try have lkd := LKd.out); go_simp <;> with_reducible rfl
          try simp only [Act.put, List.setIfInBounds_toArray, List.set_cons_zero, List.set_cons_succ]
          refine wpAnyH_ready (rs := [2]) (by kernel_rfl) (by simp) ?_
          refine AllReadyH.cons (o := { dst := some 26, op := Op.call { callee := Callee.value (Operand.func 38), args := #[Operand.tmp 25], argTypes := #[9] }, type := 4, pos := "drive.go:56", after := #[{ on := 1, ground := Ground.data }], guard := none }) rfl (fun Kq hKq => ?_) AllReadyH.nil
          · go_simp
            refine (hIN.out _).mono ?_
            rintro e w3x ⟨rfl, h9⟩
            obtain rfl := h9.symm
            refine hKq.out _ _ hHeld (fun hHeld => ?_)
            clear hKq Kq
            try simp only [Act.put, List.setIfInBounds_toArray, List.set_cons_zero, List.set_cons_succ]
            refine takeHr (i := 3) (d := some 27) (v := .bool true) rfl rfl (by kernel_rfl) (by kernel_rfl) (by kernel_rfl) (fun _ _ _ h => h) (Or.inl ⟨by rfl, ?hy4⟩) hHeld ?rest4
            case hy4 => intro X hSw; obtain ⟨g1, g2, rfl⟩ := hSw; (try have lkd := LKd.out); go_simp <;> with_reducible rfl
            try simp only [Act.put, List.setIfInBounds_toArray, List.set_cons_zero, List.set_cons_succ]
            refine takeHr (i := 4) (d := some 28) (v := .bool true) rfl rfl (by kernel_rfl) (by kernel_rfl) (by kernel_rfl) (fun _ _ _ h => h) (Or.inl ⟨by rfl, ?hy5⟩) hHeld ?rest5
            case hy5 => intro X hSw; obtain ⟨g1, g2, rfl⟩ := hSw; (try have lkd := LKd.out); go_simp <;> with_reducible rfl
            try simp only [Act.put, List.setIfInBounds_toArray, List.set_cons_zero, List.set_cons_succ]
            refine takeHr (i := 5) (d := some 29) (v := undef) rfl rfl (by kernel_rfl) (by kernel_rfl) (by kernel_rfl) (fun _ _ _ h => h) (Or.inr ⟨by rfl, rfl⟩) hHeld ?_
            try simp only [Act.put, List.setIfInBounds_toArray, List.set_cons_zero, List.set_cons_succ]
            refine takeHr (i := 6) (d := some 30) (v := undef) rfl rfl (by kernel_rfl) (by kernel_rfl) (by kernel_rfl) (fun _ _ _ h => h) (Or.inr ⟨by rfl, rfl⟩) hHeld ?_
            try simp only [Act.put, List.setIfInBounds_toArray, List.set_cons_zero, List.set_cons_succ]
            refine takeHr (i := 7) (d := some 31) (v := undef) rfl rfl (by kernel_rfl) (by kernel_rfl) (by kernel_rfl) (fun _ _ _ h => h) (Or.inr ⟨by rfl, rfl⟩) hHeld ?_
            try simp only [Act.put, List.setIfInBounds_toArray, List.set_cons_zero, List.set_cons_succ]
            refine takeHr (i := 8) (d := some 32) (v := undef) rfl rfl (by kernel_rfl) (by kernel_rfl) (by kernel_rfl) (fun _ _ _ h => h) (Or.inr ⟨by rfl, rfl⟩) hHeld ?_
            try simp only [Act.put, List.setIfInBounds_toArray, List.set_cons_zero, List.set_cons_succ]
            refine takeHr (i := 9) (d := some 33) (v := undef) rfl rfl (by kernel_rfl) (by kernel_rfl) (by kernel_rfl) (fun _ _ _ h => h) (Or.inr ⟨by rfl, rfl⟩) hHeld ?_
            try simp only [Act.put, List.setIfInBounds_toArray, List.set_cons_zero, List.set_cons_succ]
            refine takeHr (i := 10) (d := some 34) (v := undef) rfl rfl (by kernel_rfl) (by kernel_rfl) (by kernel_rfl) (fun _ _ _ h => h) (Or.inr ⟨by rfl, rfl⟩) hHeld ?_
            try simp only [Act.put, List.setIfInBounds_toArray, List.set_cons_zero, List.set_cons_succ]
            refine takeHr (i := 11) (d := some 35) (v := undef) rfl rfl (by kernel_rfl) (by kernel_rfl) (by kernel_rfl) (fun _ _ _ h => h) (Or.inr ⟨by rfl, rfl⟩) hHeld ?_
            try simp only [Act.put, List.setIfInBounds_toArray, List.set_cons_zero, List.set_cons_succ]
            refine takeHr (i := 12) (d := some 36) (v := undef) rfl rfl (by kernel_rfl) (by kernel_rfl) (by kernel_rfl) (fun _ _ _ h => h) (Or.inr ⟨by rfl, rfl⟩) hHeld ?_
            try simp only [Act.put, List.setIfInBounds_toArray, List.set_cons_zero, List.set_cons_succ]
            refine takeHr (i := 13) (d := some 37) (v := .bool true) rfl rfl (by kernel_rfl) (by kernel_rfl) (by kernel_rfl) (fun _ _ _ h => h) (Or.inl ⟨by rfl, ?hy14⟩) hHeld ?rest14
            case hy14 => intro X hSw; obtain ⟨g1, g2, rfl⟩ := hSw; (try have lkd := LKd.out); go_simp <;> with_reducible rfl
            try simp only [Act.put, List.setIfInBounds_toArray, List.set_cons_zero, List.set_cons_succ]
            refine wpAnyH_done (by kernel_rfl) ?_ _
            clear hHeld
            go_wp2_with (fail)
            go_ret
            refine ⟨.inl ⟨?_, rfl⟩, bt4 hB.out B4.out HBd.out⟩
            rw [hE.out, E4.out, if_neg HNO.out]
        | true =>
          rw [hN] at hIN
          cases hlk : lk (ldn r L k).st x.1 with
          | some i =>
            obtain ⟨qa, rfl⟩ : ∃ a, q = some a := by
              cases q with
              | none => rw [hqn.1 rfl] at hlk; cases hlk
              | some a => exact ⟨a, rfl⟩
            have HNO := (show Hid (¬ (isN x.1 = true ∧ lk (ldn r L k).st x.1 = none)) from fun h => by rw [hlk] at h; cases h.2)
            clear hN hlk hqn
            refine wp_region_held_drew (S := fun X => X.cell? ⟨wr.heap.size, 0, none⟩ = some (encStr x.1) ∧ X.cell? ⟨w.heap.size, 2, none⟩ = some (.map (some w1.heap.size)) ∧ X = wd) (by kernel_rfl) (by rw [← hwd]; exact ⟨cell_belowD x0 bd, cell_belowD u2 bd, rfl⟩) (fun hHeld => ?_)
            rw [← hwd] at hHeld ⊢
            clear hwd bd
            refine takeHr (i := 0) (d := some 24) (v := ?v15) rfl rfl (by kernel_rfl) (by kernel_rfl) (by kernel_rfl) (fun _ _ _ h => h) (Or.inl ⟨by rfl, ?hy15⟩) hHeld ?rest15
            case hy15 => intro X hSw; obtain ⟨g1, g2, rfl⟩ := hSw; (try have lkd := LKd.out); go_simp <;> with_reducible rfl
            try simp only [Act.put, List.setIfInBounds_toArray, List.set_cons_zero, List.set_cons_succ]
            refine takeHr (i := 1) (d := some 25) (v := ?v16) rfl rfl (by kernel_rfl) (by kernel_rfl) (by kernel_rfl) (fun _ _ _ h => h) (Or.inl ⟨by rfl, ?hy16⟩) hHeld ?rest16
            case hy16 => intro X hSw; obtain ⟨g1, g2, rfl⟩ := hSw; (try have lkd := LKd.out); go_simp <;> with_reducible rfl
            try simp only [Act.put, List.setIfInBounds_toArray, List.set_cons_zero, List.set_cons_succ]
            refine wpAnyH_ready (rs := [2]) (by kernel_rfl) (by simp) ?_
            refine AllReadyH.cons (o := { dst := some 26, op := Op.call { callee := Callee.value (Operand.func 38), args := #[Operand.tmp 25], argTypes := #[9] }, type := 4, pos := "drive.go:56", after := #[{ on := 1, ground := Ground.data }], guard := none }) rfl (fun Kq hKq => ?_) AllReadyH.nil
            · go_simp
              refine (hIN.out _).mono ?_
              rintro e w17x ⟨rfl, h9⟩
              obtain rfl := h9.symm
              refine hKq.out _ _ hHeld (fun hHeld => ?_)
              clear hKq Kq
              try simp only [Act.put, List.setIfInBounds_toArray, List.set_cons_zero, List.set_cons_succ]
              refine takeHr (i := 3) (d := some 27) (v := .bool false) rfl rfl (by kernel_rfl) (by kernel_rfl) (by kernel_rfl) (fun _ _ _ h => h) (Or.inl ⟨by rfl, ?hy18⟩) hHeld ?rest18
              case hy18 => intro X hSw; obtain ⟨g1, g2, rfl⟩ := hSw; (try have lkd := LKd.out); go_simp <;> with_reducible rfl
              try simp only [Act.put, List.setIfInBounds_toArray, List.set_cons_zero, List.set_cons_succ]
              refine takeHr (i := 4) (d := some 28) (v := .bool false) rfl rfl (by kernel_rfl) (by kernel_rfl) (by kernel_rfl) (fun _ _ _ h => h) (Or.inl ⟨by rfl, ?hy19⟩) hHeld ?rest19
              case hy19 => intro X hSw; obtain ⟨g1, g2, rfl⟩ := hSw; (try have lkd := LKd.out); go_simp <;> with_reducible rfl
              try simp only [Act.put, List.setIfInBounds_toArray, List.set_cons_zero, List.set_cons_succ]
              refine takeHr (i := 5) (d := some 29) (v := ?v20) rfl rfl (by kernel_rfl) (by kernel_rfl) (by kernel_rfl) (fun _ _ _ h => h) (Or.inl ⟨by rfl, ?hy20⟩) hHeld ?rest20
              case hy20 => intro X hSw; obtain ⟨g1, g2, rfl⟩ := hSw; (try have lkd := LKd.out); go_simp <;> with_reducible rfl
              try simp only [Act.put, List.setIfInBounds_toArray, List.set_cons_zero, List.set_cons_succ]
              refine takeHr (i := 6) (d := some 30) (v := ?v21) rfl rfl (by kernel_rfl) (by kernel_rfl) (by kernel_rfl) (fun _ _ _ h => h) (Or.inl ⟨by rfl, ?hy21⟩) hHeld ?rest21
              case hy21 => intro X hSw; obtain ⟨g1, g2, rfl⟩ := hSw; (try have lkd := LKd.out); go_simp <;> with_reducible rfl
              try simp only [Act.put, List.setIfInBounds_toArray, List.set_cons_zero, List.set_cons_succ]
              refine takeHr (i := 7) (d := some 31) (v := ?v22) rfl rfl (by kernel_rfl) (by kernel_rfl) (by kernel_rfl) (fun _ _ _ h => h) (Or.inl ⟨by rfl, ?hy22⟩) hHeld ?rest22
              case hy22 => intro X hSw; obtain ⟨g1, g2, rfl⟩ := hSw; (try have lkd := LKd.out); go_simp <;> with_reducible rfl
              try simp only [Act.put, List.setIfInBounds_toArray, List.set_cons_zero, List.set_cons_succ]
              refine takeHr (i := 8) (d := some 32) (v := ?v23) rfl rfl (by kernel_rfl) (by kernel_rfl) (by kernel_rfl) (fun _ _ _ h => h) (Or.inl ⟨by rfl, ?hy23⟩) hHeld ?rest23
              case hy23 => intro X hSw; obtain ⟨g1, g2, rfl⟩ := hSw; (try have lkd := LKd.out); go_simp <;> with_reducible rfl
              try simp only [Act.put, List.setIfInBounds_toArray, List.set_cons_zero, List.set_cons_succ]
              refine takeHr (i := 9) (d := some 33) (v := ?v24) rfl rfl (by kernel_rfl) (by kernel_rfl) (by kernel_rfl) (fun _ _ _ h => h) (Or.inl ⟨by rfl, ?hy24⟩) hHeld ?rest24
              case hy24 => intro X hSw; obtain ⟨g1, g2, rfl⟩ := hSw; (try have lkd := LKd.out); go_simp <;> with_reducible rfl
              try simp only [Act.put, List.setIfInBounds_toArray, List.set_cons_zero, List.set_cons_succ]
              refine takeHr (i := 10) (d := some 34) (v := ?v25) rfl rfl (by kernel_rfl) (by kernel_rfl) (by kernel_rfl) (fun _ _ _ h => h) (Or.inl ⟨by rfl, ?hy25⟩) hHeld ?rest25
              case hy25 => intro X hSw; obtain ⟨g1, g2, rfl⟩ := hSw; (try have lkd := LKd.out); go_simp <;> with_reducible rfl
              try simp only [Act.put, List.setIfInBounds_toArray, List.set_cons_zero, List.set_cons_succ]
              refine takeHr (i := 11) (d := some 35) (v := ?v26) rfl rfl (by kernel_rfl) (by kernel_rfl) (by kernel_rfl) (fun _ _ _ h => h) (Or.inl ⟨by rfl, ?hy26⟩) hHeld ?rest26
              case hy26 => intro X hSw; obtain ⟨g1, g2, rfl⟩ := hSw; (try have lkd := LKd.out); go_simp <;> with_reducible rfl
              try simp only [Act.put, List.setIfInBounds_toArray, List.set_cons_zero, List.set_cons_succ]
              refine takeHr (i := 12) (d := some 36) (v := .bool true) rfl rfl (by kernel_rfl) (by kernel_rfl) (by kernel_rfl) (fun _ _ _ h => h) (Or.inl ⟨by rfl, ?hy27⟩) hHeld ?rest27
              case hy27 => intro X hSw; obtain ⟨g1, g2, rfl⟩ := hSw; (try have lkd := LKd.out); go_simp <;> with_reducible rfl
              try simp only [Act.put, List.setIfInBounds_toArray, List.set_cons_zero, List.set_cons_succ]
              refine takeHr (i := 13) (d := some 37) (v := .bool true) rfl rfl (by kernel_rfl) (by kernel_rfl) (by kernel_rfl) (fun _ _ _ h => h) (Or.inl ⟨by rfl, ?hy28⟩) hHeld ?rest28
              case hy28 => intro X hSw; obtain ⟨g1, g2, rfl⟩ := hSw; (try have lkd := LKd.out); go_simp <;> with_reducible rfl
              try simp only [Act.put, List.setIfInBounds_toArray, List.set_cons_zero, List.set_cons_succ]
              refine wpAnyH_done (by kernel_rfl) ?_ _
              clear hHeld
              go_wp2_with (fail)
              go_ret
              refine ⟨.inl ⟨?_, rfl⟩, bt4 hB.out B4.out HBd.out⟩
              rw [hE.out, E4.out, if_neg HNO.out]
          | none =>
            obtain rfl : q = none := hqn.2 hlk
            have EK := (show Hid (Ds.load (r : Int) L = ldr (ldn r L (k + 1)) (L.drop (k + 1))) from by show _ = _; rw [hE.out, E4.out, if_pos ⟨hN, hlk⟩, ldn_succ r L k (by omega), ← HX.out])
            clear hN hlk hqn
            refine wp_region_held_drew (S := fun X => X.cell? ⟨wr.heap.size, 0, none⟩ = some (encStr x.1) ∧ X.cell? ⟨w.heap.size, 2, none⟩ = some (.map (some w1.heap.size)) ∧ X = wd) (by kernel_rfl) (by rw [← hwd]; exact ⟨cell_belowD x0 bd, cell_belowD u2 bd, rfl⟩) (fun hHeld => ?_)
            rw [← hwd] at hHeld ⊢
            clear hwd bd
            refine takeHr (i := 0) (d := some 24) (v := ?v29) rfl rfl (by kernel_rfl) (by kernel_rfl) (by kernel_rfl) (fun _ _ _ h => h) (Or.inl ⟨by rfl, ?hy29⟩) hHeld ?rest29
            case hy29 => intro X hSw; obtain ⟨g1, g2, rfl⟩ := hSw; (try have lkd := LKd.out); go_simp <;> with_reducible rfl
            try simp only [Act.put, List.setIfInBounds_toArray, List.set_cons_zero, List.set_cons_succ]
            refine takeHr (i := 1) (d := some 25) (v := ?v30) rfl rfl (by kernel_rfl) (by kernel_rfl) (by kernel_rfl) (fun _ _ _ h => h) (Or.inl ⟨by rfl, ?hy30⟩) hHeld ?rest30
            case hy30 => intro X hSw; obtain ⟨g1, g2, rfl⟩ := hSw; (try have lkd := LKd.out); go_simp <;> with_reducible rfl
            try simp only [Act.put, List.setIfInBounds_toArray, List.set_cons_zero, List.set_cons_succ]
            refine wpAnyH_ready (rs := [2]) (by kernel_rfl) (by simp) ?_
            refine AllReadyH.cons (o := { dst := some 26, op := Op.call { callee := Callee.value (Operand.func 38), args := #[Operand.tmp 25], argTypes := #[9] }, type := 4, pos := "drive.go:56", after := #[{ on := 1, ground := Ground.data }], guard := none }) rfl (fun Kq hKq => ?_) AllReadyH.nil
            · go_simp
              refine (hIN.out _).mono ?_
              rintro e w31x ⟨rfl, h9⟩
              obtain rfl := h9.symm
              refine hKq.out _ _ hHeld (fun hHeld => ?_)
              clear hKq Kq
              try simp only [Act.put, List.setIfInBounds_toArray, List.set_cons_zero, List.set_cons_succ]
              refine takeHr (i := 3) (d := some 27) (v := .bool false) rfl rfl (by kernel_rfl) (by kernel_rfl) (by kernel_rfl) (fun _ _ _ h => h) (Or.inl ⟨by rfl, ?hy32⟩) hHeld ?rest32
              case hy32 => intro X hSw; obtain ⟨g1, g2, rfl⟩ := hSw; (try have lkd := LKd.out); go_simp <;> with_reducible rfl
              try simp only [Act.put, List.setIfInBounds_toArray, List.set_cons_zero, List.set_cons_succ]
              refine takeHr (i := 4) (d := some 28) (v := .bool false) rfl rfl (by kernel_rfl) (by kernel_rfl) (by kernel_rfl) (fun _ _ _ h => h) (Or.inl ⟨by rfl, ?hy33⟩) hHeld ?rest33
              case hy33 => intro X hSw; obtain ⟨g1, g2, rfl⟩ := hSw; (try have lkd := LKd.out); go_simp <;> with_reducible rfl
              try simp only [Act.put, List.setIfInBounds_toArray, List.set_cons_zero, List.set_cons_succ]
              refine takeHr (i := 5) (d := some 29) (v := ?v34) rfl rfl (by kernel_rfl) (by kernel_rfl) (by kernel_rfl) (fun _ _ _ h => h) (Or.inl ⟨by rfl, ?hy34⟩) hHeld ?rest34
              case hy34 => intro X hSw; obtain ⟨g1, g2, rfl⟩ := hSw; (try have lkd := LKd.out); go_simp <;> with_reducible rfl
              try simp only [Act.put, List.setIfInBounds_toArray, List.set_cons_zero, List.set_cons_succ]
              refine takeHr (i := 6) (d := some 30) (v := ?v35) rfl rfl (by kernel_rfl) (by kernel_rfl) (by kernel_rfl) (fun _ _ _ h => h) (Or.inl ⟨by rfl, ?hy35⟩) hHeld ?rest35
              case hy35 => intro X hSw; obtain ⟨g1, g2, rfl⟩ := hSw; (try have lkd := LKd.out); go_simp <;> with_reducible rfl
              try simp only [Act.put, List.setIfInBounds_toArray, List.set_cons_zero, List.set_cons_succ]
              refine takeHr (i := 7) (d := some 31) (v := ?v36) rfl rfl (by kernel_rfl) (by kernel_rfl) (by kernel_rfl) (fun _ _ _ h => h) (Or.inl ⟨by rfl, ?hy36⟩) hHeld ?rest36
              case hy36 => intro X hSw; obtain ⟨g1, g2, rfl⟩ := hSw; (try have lkd := LKd.out); go_simp <;> with_reducible rfl
              try simp only [Act.put, List.setIfInBounds_toArray, List.set_cons_zero, List.set_cons_succ]
              refine takeHr (i := 8) (d := some 32) (v := ?v37) rfl rfl (by kernel_rfl) (by kernel_rfl) (by kernel_rfl) (fun _ _ _ h => h) (Or.inl ⟨by rfl, ?hy37⟩) hHeld ?rest37
              case hy37 => intro X hSw; obtain ⟨g1, g2, rfl⟩ := hSw; (try have lkd := LKd.out); go_simp <;> with_reducible rfl
              try simp only [Act.put, List.setIfInBounds_toArray, List.set_cons_zero, List.set_cons_succ]
              refine takeHr (i := 9) (d := some 33) (v := ?v38) rfl rfl (by kernel_rfl) (by kernel_rfl) (by kernel_rfl) (fun _ _ _ h => h) (Or.inl ⟨by rfl, ?hy38⟩) hHeld ?rest38
              case hy38 => intro X hSw; obtain ⟨g1, g2, rfl⟩ := hSw; (try have lkd := LKd.out); go_simp <;> with_reducible rfl
              try simp only [Act.put, List.setIfInBounds_toArray, List.set_cons_zero, List.set_cons_succ]
              refine takeHr (i := 10) (d := some 34) (v := ?v39) rfl rfl (by kernel_rfl) (by kernel_rfl) (by kernel_rfl) (fun _ _ _ h => h) (Or.inl ⟨by rfl, ?hy39⟩) hHeld ?rest39
              case hy39 => intro X hSw; obtain ⟨g1, g2, rfl⟩ := hSw; (try have lkd := LKd.out); go_simp <;> with_reducible rfl
              try simp only [Act.put, List.setIfInBounds_toArray, List.set_cons_zero, List.set_cons_succ]
              refine takeHr (i := 11) (d := some 35) (v := ?v40) rfl rfl (by kernel_rfl) (by kernel_rfl) (by kernel_rfl) (fun _ _ _ h => h) (Or.inl ⟨by rfl, ?hy40⟩) hHeld ?rest40
              case hy40 => intro X hSw; obtain ⟨g1, g2, rfl⟩ := hSw; (try have lkd := LKd.out); go_simp <;> with_reducible rfl
              try simp only [Act.put, List.setIfInBounds_toArray, List.set_cons_zero, List.set_cons_succ]
              refine takeHr (i := 12) (d := some 36) (v := .bool false) rfl rfl (by kernel_rfl) (by kernel_rfl) (by kernel_rfl) (fun _ _ _ h => h) (Or.inl ⟨by rfl, ?hy41⟩) hHeld ?rest41
              case hy41 => intro X hSw; obtain ⟨g1, g2, rfl⟩ := hSw; (try have lkd := LKd.out); go_simp <;> with_reducible rfl
              try simp only [Act.put, List.setIfInBounds_toArray, List.set_cons_zero, List.set_cons_succ]
              refine takeHr (i := 13) (d := some 37) (v := .bool false) rfl rfl (by kernel_rfl) (by kernel_rfl) (by kernel_rfl) (fun _ _ _ h => h) (Or.inl ⟨by rfl, ?hy42⟩) hHeld ?rest42
              case hy42 => intro X hSw; obtain ⟨g1, g2, rfl⟩ := hSw; (try have lkd := LKd.out); go_simp <;> with_reducible rfl
              try simp only [Act.put, List.setIfInBounds_toArray, List.set_cons_zero, List.set_cons_succ]
              refine wpAnyH_done (by kernel_rfl) ?_ _
              clear hHeld
              go_upto_region 10 with fail
              have y0 := cell_belowD x0 HBd.out
              have y1 := cell_belowD x1 HBd.out
              have y2 := cell_belowD u2 HBd.out
              obtain ⟨we, hwe⟩ : ∃ wq, wq = wd.drew := ⟨_, rfl⟩
              have be : Below wd.heap.size wd we := by rw [hwe]; exact (Below.refl _ _).drew
              have HBc := (show Hid (Below w4.heap.size w4 we) from btD HBd.out be)
              refine wp_region_held_drew (S := fun X => X.cell? ⟨wr.heap.size, 0, none⟩ = some (encStr x.1) ∧ X.cell? ⟨wr.heap.size, 1, none⟩ = some (.slice pv x.2.length cv) ∧ X.cell? ⟨w.heap.size, 2, none⟩ = some (.map (some w1.heap.size))) (by kernel_rfl) (by rw [← hwe]; exact ⟨cell_belowD y0 be, cell_belowD y1 be, cell_belowD y2 be⟩) (fun hHeld => ?_)
              rw [← hwe] at hHeld ⊢
              clear hwe be y0 y1 y2
              refine takeHr (i := 0) (d := some 38) (v := ?v43) rfl rfl (by kernel_rfl) (by kernel_rfl) (by kernel_rfl) (fun _ _ _ h => h) (Or.inl ⟨by rfl, ?hy43⟩) hHeld ?rest43
              case hy43 => intro X hSw; obtain ⟨g1, g2, g3⟩ := hSw; go_simp <;> with_reducible rfl
              try simp only [Act.put, List.setIfInBounds_toArray, List.set_cons_zero, List.set_cons_succ]
              refine takeHr (i := 1) (d := some 39) (v := ?v44) rfl rfl (by kernel_rfl) (by kernel_rfl) (by kernel_rfl) (fun _ _ _ h => h) (Or.inl ⟨by rfl, ?hy44⟩) hHeld ?rest44
              case hy44 => intro X hSw; obtain ⟨g1, g2, g3⟩ := hSw; go_simp <;> with_reducible rfl
              try simp only [Act.put, List.setIfInBounds_toArray, List.set_cons_zero, List.set_cons_succ]
              refine takeHr (i := 2) (d := some 40) (v := ?v45) rfl rfl (by kernel_rfl) (by kernel_rfl) (by kernel_rfl) (fun _ _ _ h => h) (Or.inl ⟨by rfl, ?hy45⟩) hHeld ?rest45
              case hy45 => intro X hSw; obtain ⟨g1, g2, g3⟩ := hSw; go_simp <;> with_reducible rfl
              try simp only [Act.put, List.setIfInBounds_toArray, List.set_cons_zero, List.set_cons_succ]
              refine takeHr (i := 3) (d := some 41) (v := ?v46) rfl rfl (by kernel_rfl) (by kernel_rfl) (by kernel_rfl) (fun _ _ _ h => h) (Or.inl ⟨by rfl, ?hy46⟩) hHeld ?rest46
              case hy46 => intro X hSw; obtain ⟨g1, g2, g3⟩ := hSw; go_simp <;> with_reducible rfl
              try simp only [Act.put, List.setIfInBounds_toArray, List.set_cons_zero, List.set_cons_succ]
              refine takeHr (i := 4) (d := some 42) (v := ?v47) rfl rfl (by kernel_rfl) (by kernel_rfl) (by kernel_rfl) (fun _ _ _ h => h) (Or.inl ⟨by rfl, ?hy47⟩) hHeld ?rest47
              case hy47 => intro X hSw; obtain ⟨g1, g2, g3⟩ := hSw; go_simp <;> with_reducible rfl
              try simp only [Act.put, List.setIfInBounds_toArray, List.set_cons_zero, List.set_cons_succ]
              refine takeHr (i := 5) (d := some 43) (v := ?v48) rfl rfl (by kernel_rfl) (by kernel_rfl) (by kernel_rfl) (fun _ _ _ h => h) (Or.inl ⟨by rfl, ?hy48⟩) hHeld ?rest48
              case hy48 => intro X hSw; obtain ⟨g1, g2, g3⟩ := hSw; go_simp <;> with_reducible rfl
              try simp only [Act.put, List.setIfInBounds_toArray, List.set_cons_zero, List.set_cons_succ]
              refine takeHr (i := 7) (d := some 45) (v := ?v49) rfl rfl (by kernel_rfl) (by kernel_rfl) (by kernel_rfl) (fun _ _ _ h => h) (Or.inl ⟨by rfl, ?hy49⟩) hHeld ?rest49
              case hy49 => intro X hSw; obtain ⟨g1, g2, g3⟩ := hSw; go_simp <;> with_reducible rfl
              try simp only [Act.put, List.setIfInBounds_toArray, List.set_cons_zero, List.set_cons_succ]
              refine takeHr (i := 8) (d := some 46) (v := ?v50) rfl rfl (by kernel_rfl) (by kernel_rfl) (by kernel_rfl) (fun _ _ _ h => h) (Or.inl ⟨by rfl, ?hy50⟩) hHeld ?rest50
              case hy50 => intro X hSw; obtain ⟨g1, g2, g3⟩ := hSw; go_simp <;> with_reducible rfl
              try simp only [Act.put, List.setIfInBounds_toArray, List.set_cons_zero, List.set_cons_succ]
              refine wpAnyH_ready (rs := [6]) (by kernel_rfl) (by simp) ?_
              refine AllReadyH.cons (o := { dst := some 44, op := Op.call { callee := Callee.value (Operand.func 41), args := #[Operand.tmp 43], argTypes := #[9] }, type := 9, pos := "drive.go:59", after := #[{ on := 5, ground := Ground.data }], guard := none }) rfl (fun Kq hKq => ?_) AllReadyH.nil
              · go_simp
                refine (clone_any x.1 (by omega) _).mono ?_
                rintro e w51x ⟨rfl, hb51⟩
                replace HBc := (show Hid _ from btD HBc.out hb51)
                refine hKq.out _ _ ⟨cell_belowD hHeld.1 hb51, cell_belowD hHeld.2.1 hb51, cell_belowD hHeld.2.2 hb51⟩ (fun hHeld => ?_)
                clear hKq Kq
                try simp only [Act.put, List.setIfInBounds_toArray, List.set_cons_zero, List.set_cons_succ]
                refine wpAnyH_ready (rs := [9]) (by kernel_rfl) (by simp) ?_
                refine AllReadyH.cons (o := { dst := some 47, op := Op.call { callee := Callee.value (Operand.func 40), args := #[Operand.tmp 46], argTypes := #[22] }, type := 22, pos := "drive.go:59", after := #[{ on := 8, ground := Ground.data }, { on := 6, ground := Ground.chain }], guard := none }) rfl (fun Kq hKq => ?_) AllReadyH.nil
                · go_simp
                  refine (cloneTv (T4.out.below HBc.out) HZ.out).mono ?_
                  rintro e w52x ⟨p9, n9, c9, rfl, hO9, hb52⟩
                  obtain rfl : n9 = x.2.length := ob_len hO9
                  have HO := (show Hid (Ob w52x w4.heap.size (.slice p9 x.2.length c9) x.2) from ob_up hO9 HBc.out.size)
                  replace HBc := (show Hid _ from btD HBc.out hb52)
                  clear hO9
                  refine hKq.out _ _ ⟨cell_belowD hHeld.1 hb52, cell_belowD hHeld.2.1 hb52, cell_belowD hHeld.2.2 hb52⟩ (fun hHeld => ?_)
                  clear hKq Kq
                  try simp only [Act.put, List.setIfInBounds_toArray, List.set_cons_zero, List.set_cons_succ]
                  refine wpAnyH_ready (rs := [10]) (by kernel_rfl) (by simp) ?_
                  refine AllReadyH.cons (o := { dst := some 48, op := Op.call { callee := Callee.value (Operand.func 39), args := #[Operand.tmp 47], argTypes := #[22] }, type := 88, pos := "drive.go:59", after := #[{ on := 9, ground := Ground.data }, { on := 9, ground := Ground.chain }], guard := none }) rfl (fun Kq hKq => ?_) AllReadyH.nil
                  · go_simp
                    refine (safeBody_gb _ _ _ _).mono ?_
                    rintro e w53x ⟨rfl, hG9, hb53⟩
                    have HG9 := (show Hid (_ = _ ∧ w4.heap.size ≤ w52x.heap.size) from ⟨hG9, HBc.out.size⟩)
                    replace HO := (show Hid (Ob w53x w4.heap.size (.slice p9 x.2.length c9) x.2) from own_belowD HO.out hb53)
                    replace HBc := (show Hid _ from btD HBc.out hb53)
                    clear hG9
                    refine hKq.out _ _ ⟨cell_belowD hHeld.1 hb53, cell_belowD hHeld.2.1 hb53, cell_belowD hHeld.2.2 hb53⟩ (fun hHeld => ?_)
                    clear hKq Kq
                    try simp only [Act.put, List.setIfInBounds_toArray, List.set_cons_zero, List.set_cons_succ]
                    refine wpAnyH_ready (rs := [11]) (by kernel_rfl) (by simp) ?_
                    refine AllReadyH.cons (o := { dst := none, op := Op.mapUpdate 83 (Operand.tmp 41) (Operand.tmp 44) (Operand.tmp 48), type := 0, pos := "drive.go:59", after := #[{ on := 3, ground := Ground.data }, { on := 6, ground := Ground.data }, { on := 10, ground := Ground.data }, { on := 10, ground := Ground.chain }, { on := 0, ground := Ground.phase }, { on := 1, ground := Ground.phase }, { on := 2, ground := Ground.phase }, { on := 3, ground := Ground.phase }, { on := 4, ground := Ground.phase }, { on := 5, ground := Ground.phase }, { on := 6, ground := Ground.phase }, { on := 7, ground := Ground.phase }, { on := 8, ground := Ground.phase }, { on := 9, ground := Ground.phase }, { on := 10, ground := Ground.phase }], guard := none }) rfl (fun Kq hKq => ?_) AllReadyH.nil
                    · skip
                      obtain ⟨w54x, hrun, hB6, hM6, hg6, hsd, hsw⟩ := M4.out.put (by have := hB.out.size; have := B4.out.size; omega) HBc.out x p9 c9 _ HO.out HG9.out.2 HG9.out.1 (by unfold maxLen; omega) MS.out
                      go_simp
                      have HM6 := (show Hid (_ ∧ _) from ⟨hB6, hM6⟩)
                      clear hB6 hM6 hrun
                      refine hKq.out _ _ ⟨cell_grown hHeld.1 hg6 (by have := SNE.out; omega), cell_grown hHeld.2.1 hg6 (by have := SNE.out; omega), cell_grown hHeld.2.2 hg6 (fun e => hsd e.symm)⟩ (fun hHeld => ?_)
                      clear hKq Kq
                      try simp only [Act.put, List.setIfInBounds_toArray, List.set_cons_zero, List.set_cons_succ]
                      refine wpAnyH_done (by kernel_rfl) ?_ _
                      obtain ⟨hd0, hd1, hd2⟩ := hHeld
                      obtain ⟨k1, k2, k3, k4, _, _⟩ := HM6.out.2.cells
                      have WU := (show Hid (0 ≤ (ldn r L k).used ∧ (ldn r L k).used ≤ 140737488355328) from by
                        have h1 := ldn_okl r L k (by omega)
                        have h2 := fsz_le L k
                        have h3 := h1.u0
                        have h4 := h1.u1
                        constructor <;> omega)
                      have WL := (show Hid (x.2.length ≤ 140737488355328) from by
                        have h1 := fsz_take L k (by omega)
                        have h2 := fsz_le L (k + 1)
                        rw [← HX.out] at h1
                        show _ ≤ _
                        omega)
                      have K1 : w54x.cell? ⟨w.heap.size, 1, none⟩ = some (.int .i64 (ldn r L k).used) := k1
                      obtain ⟨us, hus⟩ : ∃ us, us = (ldn r L k).used := ⟨_, rfl⟩
                      rw [← hus] at K1
                      have HU := (show Hid (us = (ldn r L k).used) from hus)
                      obtain ⟨ln, hln⟩ : ∃ ln, ln = x.2.length := ⟨_, rfl⟩
                      rw [← hln] at hd1
                      have HLn := (show Hid (ln = x.2.length) from hln)
                      have wU : wrap64 (us + (ln : Int)) = us + (ln : Int) := by have := WU.out; have := WL.out; rw [hus, hln]; unfold wrap64; omega
                      have H9 := (show Hid _ from HM6.out)
                      clear hus hln k1 k2 k4 hd0 hd2 hg6 hsd hsw
                      go_upto_region 11 with fail
                      go_region
                      go_wp2
                      go_roundw
                      case rel =>
                        refine ⟨k + 1, by omega, by go_num, ?_, ?_, EK⟩
                        · have h9 := (HM6.out.2.use (us + (ln : Int))).below (w' := (w54x.setCell ⟨w.heap.size, 1, none⟩ (.int .i64 (us + (ln : Int)))).drew) ((Below.refl _ _).drew)
                          show LdM _ _ _ _ _
                          rw [ldn_succ r L k (by omega), ← HX.out]
                          rw [HU.out, HLn.out] at h9 ⊢
                          exact h9
                        · have hB6 := HM6.out.1
                          show Below _ _ _
                          exact (((hB.out.trans (B4.out.mono hB.out.size)).trans hB6).setCell (Nat.le_refl _) _).drew
                      case measure => simp [intOf]; omega
      · obtain rfl : n = k := by omega
        have HM := (show Hid (LdM w.heap.size w.heap.size w1.heap.size (ldn r L n) wr) from hM.out)
        obtain ⟨u1, u2, fz1, fz3, ⟨v3, u3⟩, hdl⟩ := hM.out.cells
        have CM := (show Hid (Calls Tryz.prog 42 #[.map (some w1.heap.size)] wr fun e w' => e = .returned (.map (some wr.heap.size)) ∧ Hid (∃ m rv, StAt wr w.heap.size (ldn r L n).room (ldn r L n).used (some w1.heap.size) none (.slice none 0 0) ∧ Rest wr (fun b => w.heap.size ≤ b ∧ b < wr.heap.size ∧ b ≠ w1.heap.size) (bareD (ldn r L n)) m rv none none (.slice none 0 0) ∧ MpAt wr m w1.heap.size (ldn r L n).st ∧ MpAt w' m wr.heap.size (ldn r L n).st) ∧ Below wr.heap.size wr w') from ldm_clone hM.out)
        have NF := (show Hid (ldr (ldn r L n) (L.drop n) = some { (ldn r L n) with sf := (ldn r L n).st }) from by
          have e : L.drop n = [] := List.drop_eq_nil_of_le (by omega)
          show _ = _
          rw [e]; rfl)
        go_wp2_with (go_at_call 42; refine CM.out.mono ?_; rintro e Y ⟨rfl, hMY, hbY⟩; have y3 := cell_belowD u3 hbY; have z3 := frz_below fz3 hdl hbY)
        go_ret
        have hD := HM.out.done (ldn_room r L n).2.2 hbY rfl hMY.out
        refine ⟨.inr ⟨_, _, hE.out.trans NF.out, rfl, hD⟩, ?_⟩
        exact (hB.out.trans (hbY.mono hB.out.size)).setCell (Nat.le_refl _) _
  · have hl : Ds.load room L = none := by unfold Ds.load; rw [if_neg hr]
    have NB := (show Hid _ from fun W => new_bad room hr W)
    clear hr
    go_enter Tryz.func19, Tryz.ntmps19
    go_wp2_with (go_at_call 23; refine (NB.out _).mono ?_; rintro e w1 ⟨rfl, h9⟩; obtain rfl := h9.symm)
    go_ret
    exact ⟨.inl ⟨hl, rfl⟩, Below.refl _ _⟩
end
end Go.Proofs.YtjobaeopokfekaaGreat
