/-
  Acts of a drive: what they do, as mathematics; an act in memory.
-/
import Derived.Test.YtaddgmbglhdfdaaKd11
import Derived.Test.YtaddgmbglhdfdaaDsH
import Derived.Test.YtaddgmbglhdfdaaDsK
namespace Go.Proofs.Ytaddgmbglhdfdaa
open Go.RowKit Go.Maps
/-- An act, but for its kind. -/
structure Ac where
  x : Tx
  y : Tx
  n : Int
  pd : Option Addr
  nd : Nat
  cd : Nat
  qd : Option Addr
  nq : Nat
  cq : Nat
  rd : Option Addr
  nr : Nat
  cr : Nat
def Ac.v (s : Ac) (k : Int) : Array Value := #[.int .i64 k, encStr s.x, encStr s.y, .int .i64 s.n, .slice s.pd s.nd s.cd, .slice s.qd s.nq s.cq, .slice s.rd s.nr s.cr]
/-- What an act's lists hold. -/
structure Al where
  d : Tx
  dirs : List Bool
  cuts : List Int
/-- An act's lists in memory. -/
structure AcAt (w : World) (s : Ac) (l : Al) : Prop where
  rx : Rx w s.pd l.d
  dl : l.d.length = s.nd
  bl : Bls w s.qd l.dirs
  ql : l.dirs.length = s.nq
  il : Ils w s.rd l.cuts
  rl : l.cuts.length = s.nr
  nx : s.x.length ≤ 134217728
  ny : s.y.length ≤ 134217728
  nd : s.nd ≤ 134217728
  nq : s.nq ≤ 134217728
  nr : s.nr ≤ 134217728
theorem AcAt.below {w w' : World} {s : Ac} {l : Al} (h : AcAt w s l) (hb : Below w.heap.size w w') : AcAt w' s l :=
  ⟨h.rx.below hb, h.dl, fun i hi => by obtain ⟨b, o, e, hc⟩ := h.bl i hi; exact ⟨b, o, e, cell_below hc hb⟩, h.ql, fun i hi => by obtain ⟨b, o, e, hc⟩ := h.il i hi; exact ⟨b, o, e, cell_below hc hb⟩, h.rl, h.nx, h.ny, h.nd, h.nq, h.nr⟩
/-- What an act does to a drive, and the error that it answers. -/
def Ds.act (σ : Ds) (k : Int) (x y : Tx) (n : Int) (l : Al) : Int × Ds :=
  if k = 0 then (((σ.create x).1 : Int), (σ.create x).2)
  else if k = 1 then (((σ.append x l.d).1 : Int), (σ.append x l.d).2)
  else if k = 2 then (((σ.sync x).1 : Int), (σ.sync x).2)
  else if k = 3 then (((σ.rename x y).1 : Int), (σ.rename x y).2)
  else if k = 4 then (((σ.remove x).1 : Int), (σ.remove x).2)
  else if k = 5 then (0, σ.syncDir)
  else if k = 6 then (((σ.read x).1 : Int), σ)
  else if k = 10 then (((σ.loose x).1 : Int), σ)
  else if k = 13 then (0, σ.crash l.dirs l.cuts)
  else if k = 14 then (((σ.flip x n l.d).1 : Int), (σ.flip x n l.d).2)
  else if k = 15 then (((σ.cut x n).1 : Int), (σ.cut x n).2)
  else if k = 16 then (0, Ds.new σ.room)
  else (0, σ)
theorem GB.tn {w w' : World} {g : Nat} {t : TypeId} {cs : Array Value} {G : Nat → Prop} (H : GB w g t cs) (hT : Tn G w w') (hG : ¬ G g) : GB w' g t cs := by
  have hl := H.lt
  unfold GB at H ⊢
  rw [hT.block g hl hG]; exact H
/-- An answer's cells. -/
def anC (c u1 u2 u3 u4 : Value) : Array Value := #[c, u1, u2, u3, u4]
theorem an0 (w : World) : (zeroValue 49).run Try.prog w = .ok (.agg #[.int .i64 0, .int .i64 0, .slice none 0 0, .slice none 0 0, .slice none 0 0]) w := by kernel_rfl
theorem size_An : (Try.prog.info? 49).map (·.size) = some 5 := by kernel_rfl
theorem size_Ac : (Try.prog.info? 46).map (·.size) = some 7 := by kernel_rfl
theorem an_c {w : World} {g : Nat} {t : TypeId} {c u1 u2 u3 u4 : Value} (h : GB w g t (anC c u1 u2 u3 u4)) : w.cell? ⟨g, 0, none⟩ = some c ∧ w.cell? ⟨g, 1, none⟩ = some u1 ∧ w.cell? ⟨g, 2, none⟩ = some u2 ∧ w.cell? ⟨g, 3, none⟩ = some u3 ∧ w.cell? ⟨g, 4, none⟩ = some u4 := ⟨h.cell 0, h.cell 1, h.cell 2, h.cell 3, h.cell 4⟩
theorem ac_c {w : World} {g : Nat} {t : TypeId} {s : Ac} {k : Int} (h : GB w g t (s.v k)) : w.cell? ⟨g, 0, none⟩ = some (.int .i64 k) ∧ w.cell? ⟨g, 1, none⟩ = some (encStr s.x) ∧ w.cell? ⟨g, 2, none⟩ = some (encStr s.y) ∧ w.cell? ⟨g, 3, none⟩ = some (.int .i64 s.n) ∧ w.cell? ⟨g, 4, none⟩ = some (.slice s.pd s.nd s.cd) ∧ w.cell? ⟨g, 5, none⟩ = some (.slice s.qd s.nq s.cq) ∧ w.cell? ⟨g, 6, none⟩ = some (.slice s.rd s.nr s.cr) := ⟨h.cell 0, h.cell 1, h.cell 2, h.cell 3, h.cell 4, h.cell 5, h.cell 6⟩
/-- The fate of an act, loaded. -/
theorem ac_fate {w : World} {g : Nat} {t : TypeId} {s : Ac} {k : Int} (h : GB w g t (s.v k)) : (loadVar 30 ⟨g, 5, none⟩).run Try.prog w = .ok (.agg (ftC (.slice s.qd s.nq s.cq) (.slice s.rd s.nr s.cr))) w := by
  refine run_loadVar_at (P := Try.prog) w g 5 30 (ftC _ _) _ (fun j v hj => ?_) Try.underlying30 rfl (by unfold ftC; exact size_Ft)
  obtain ⟨_, _, _, _, _, c5, c6⟩ := ac_c h
  unfold ftC at hj
  match j, hj with
  | 0, hj => simp at hj; subst hj; exact c5
  | 1, hj => simp at hj; subst hj; exact c6
  | j + 2, hj => simp at hj
theorem lnt_one {w : World} {base : Nat} {te : TypeId} {v : Value} {xs ms : List Value} (h : Lnt w base te v xs ms) : v.oneCell' = true := by
  obtain ⟨g, cap, rfl, _⟩ := h
  rfl
theorem ftC_one {u v : Value} (h1 : u.oneCell' = true) (h2 : v.oneCell' = true) : ((ftC u v).all fun x => x.oneCell') = true := by simp [ftC, h1, h2]
/-- A lent row stays while a struct of another type is written. -/
theorem Lnt.but {w w' : World} {base : Nat} {te : TypeId} {v : Value} {xs ms : List Value} {g : Nat} {t : TypeId} {cs : Array Value} (h : Lnt w base te v xs ms) (H : GB w g t cs) (ht : t ≠ te) (hg : w.grownBy w' (some g)) : Lnt w' base te v xs ms := by
  obtain ⟨g1, cap, hv, hO⟩ := h
  exact ⟨g1, cap, hv, own_kept hO hg (fun b e e2 => H.ne hO e ht (by injection e2 with e2; exact e2.symm))⟩
/-- A struct loaded where a guard lets it. -/
theorem wpList_ldAtg {w : World} {ops : Array Oper} {rest : List Oper} {o : Oper} {a : Act} {Q : Exit → Act → World → Prop} (hw : Region.wanted o (yielded ops a.tmps) = true) (ty : TypeId) (x : Operand) (ho : o.op = .load ty x) (g of : Nat) (hx : a.eval x = .pointer (some ⟨g, of, none⟩)) (cs : Array Value) (hr : (loadVar ty ⟨g, of, none⟩).run Try.prog w = .ok (.agg cs) w)
    (k : wpList Try.prog ops Q rest (a.put o.dst (.agg cs)) w) : wpList Try.prog ops Q (o :: rest) a w := by
  refine wpList_step fun K hK => ?_
  rw [if_pos hw]
  unfold Oper.wp execOp
  simp only [ho, hx, Instr.loadAt, Instr.sureAddr, Sem.run_bind, Sem.run_pure, Result.andThen_ok, hr]
  exact hK _ _ k
theorem GB.run {w : World} {g : Nat} {t : TypeId} {cs : Array Value} (H : GB w g t cs) {fs : Array Field} (hu : Try.prog.underlying t = some (.struct fs)) (hs : (Try.prog.info? t).map (·.size) = some cs.size) : (loadVar t ⟨g, 0, none⟩).run Try.prog w = .ok (.agg cs) w :=
  run_loadVar_at (P := Try.prog) w g 0 t cs _ (fun j v hv => by rw [Nat.zero_add, H.cell]; simpa using hv) hu rfl hs
theorem tn_bel {w0 w w' : World} {G : Nat → Prop} (h : Below w0.heap.size w0 w) (hT : Tn G w w') (hG : ∀ b, G b → w0.heap.size ≤ b) : Below w0.heap.size w0 w' :=
  ⟨hT.os.trans h.os, hT.tape.trans h.tape, hT.output.trans h.output, Nat.le_trans h.size hT.size, fun k hk => (hT.block k (Nat.lt_of_lt_of_le hk h.size) (fun hg => by have := hG k hg; omega)).trans (h.block k hk)⟩
theorem Lnt.tn2 {w w' : World} {base : Nat} {te : TypeId} {v : Value} {xs ms : List Value} {G : Nat → Prop} (h : Lnt w base te v xs ms) (hT : Tn G w w') (hG : ∀ g, v.ownBlock = some g → ¬ G g) : Lnt w' base te v xs ms := by
  obtain ⟨g, cap, rfl, hO⟩ := h
  refine ⟨g, cap, rfl, ob_same hO fun g' hg => ?_⟩
  obtain ⟨_, hl, _⟩ := own_lt hO hg
  exact hT.block g' hl (hG g' hg)
theorem lnt_ty {w : World} {base : Nat} {te : TypeId} {v : Value} {xs ms : List Value} (h : Lnt w base te v xs ms) {g : Nat} (e : v.ownBlock = some g) : ∃ cs, w.heap[g]? = some (.cells cs te (0, 0)) := by
  obtain ⟨g1, cap, rfl, hO⟩ := h
  obtain ⟨_, _, h3⟩ := own_lt hO (g := g) e
  exact h3
theorem lnt_ne {w : World} {b1 b2 : Nat} {t1 t2 : TypeId} {v1 v2 : Value} {x1 m1 x2 m2 : List Value} (h1 : Lnt w b1 t1 v1 x1 m1) (h2 : Lnt w b2 t2 v2 x2 m2) (ht : t1 ≠ t2) {g : Nat} (e1 : v1.ownBlock = some g) (e2 : v2.ownBlock = some g) : False := by
  obtain ⟨c1, k1⟩ := lnt_ty h1 e1
  obtain ⟨c2, k2⟩ := lnt_ty h2 e2
  rw [k1] at k2
  injection k2 with k2
  injection k2 with _ k3
  exact ht k3
/-- The end of 'do'. -/
theorem do_end {w W Y Z : World} {db ga : Nat} {F : Nat → Prop} {σ' : Ds} (hWb : Below w.heap.size w W) (hF : ∀ b, F b → b < w.heap.size) (hga : w.heap.size ≤ ga) (hgW : ga < W.heap.size) (hD : DrAt Y db σ' (Fn F W Y)) (hT : Tn (fun b => F b ∨ b = ga) W Y) (hZ : Tn (fun b => w.heap.size ≤ b ∧ b < W.heap.size) Y Z) : DrAt Z db σ' (Fn F w Z) ∧ Tn F w Z := by
  have s1 := hT.size
  have s2 := hZ.size
  have s0 := hWb.size
  refine ⟨(hD.tn hZ ?_).more ?_ ?_, ⟨hZ.os.trans (hT.os.trans hWb.os), hZ.tape.trans (hT.tape.trans hWb.tape), hZ.output.trans (hT.output.trans hWb.output), by omega, fun k hk hn => ?_⟩⟩
  · rintro b (h | h) h9
    · have := hF b h; omega
    · omega
  · rintro b (h | h)
    · exact .inl h
    · exact .inr ⟨by omega, by omega⟩
  · rintro b (h | h)
    · have := hF b h; omega
    · exact h.2
  · exact (hZ.block k (by omega) (by omega)).trans ((hT.block k (by omega) (by rintro (h | h); exact hn h; omega)).trans (hWb.block k hk))
/-- What holds behind the switch of 'do'. -/
structure DoSw (W : World) (db ga : Nat) (F : Nat → Prop) (σ' : Ds) (Y : World) : Prop where
  D : DrAt Y db σ' (Fn F W Y)
  T : Tn (fun b => F b ∨ b = ga) W Y
  A : ∃ u1 u2 u3 u4 : Value, GB Y ga 49 (anC (.int .i64 0) u1 u2 u3 u4) ∧ ((anC (.int .i64 0) u1 u2 u3 u4).all fun x => x.oneCell') = true
theorem anC_one {c u1 u2 u3 u4 : Value} (h0 : c.oneCell' = true) (h1 : u1.oneCell' = true) (h2 : u2.oneCell' = true) (h3 : u3.oneCell' = true) (h4 : u4.oneCell' = true) : ((anC c u1 u2 u3 u4).all fun x => x.oneCell') = true := by
  simp [anC, h0, h1, h2, h3, h4]
theorem anC_any {a b : Int} {u1 u2 u3 u4 : Value} (h : ((anC (.int .i64 a) u1 u2 u3 u4).all fun x => x.oneCell') = true) : ((anC (.int .i64 b) u1 u2 u3 u4).all fun x => x.oneCell') = true := by
  simp only [anC, List.all_toArray, List.all_cons, List.all_nil, Bool.and_true, Bool.and_eq_true] at h ⊢
  exact ⟨rfl, h.2⟩
/-- A call of the drive that turns it: the answer's block stays. -/
theorem DoSw.drive {W Y : World} {db ga : Nat} {F : Nat → Prop} {σ' : Ds} (hD : DrAt Y db σ' (Fn F W Y)) (hT : Tn F W Y) (hG : GB W ga 49 (anC (.int .i64 0) (.int .i64 0) (.slice none 0 0) (.slice none 0 0) (.slice none 0 0))) (hF : ¬ F ga) : DoSw W db ga F σ' Y :=
  ⟨hD, hT.more (fun _ h => .inl h), _, _, _, _, hG.tn hT hF, anC_one rfl rfl rfl rfl rfl⟩
theorem DoSw.fn {W Y : World} {db ga : Nat} {F : Nat → Prop} {σ' : Ds} (hD : DrAt Y db σ' F) (hT : Tn F W Y) (hG : GB W ga 49 (anC (.int .i64 0) (.int .i64 0) (.slice none 0 0) (.slice none 0 0) (.slice none 0 0))) (hF : ¬ F ga) : DoSw W db ga F σ' Y :=
  DoSw.drive (hD.more (fun _ h => .inl h) (by rintro b (h | h); exact hD.2.1 b h; exact h.2)) hT hG hF
/-- A call that tells: the answer's block is written. -/
theorem DoSw.tell {W Y Z : World} {db ga : Nat} {F : Nat → Prop} {σ : Ds} (hD : DrAt W db σ F) (hb : Below W.heap.size W Y) {u1 u2 u3 u4 : Value} (hG : GB Z ga 49 (anC (.int .i64 0) u1 u2 u3 u4)) (hZ : Y.grownBy Z (some ga)) (hF : ¬ F ga) (h1 : u1.oneCell' = true) (h2 : u2.oneCell' = true) (h3 : u3.oneCell' = true) (h4 : u4.oneCell' = true) : DoSw W db ga F σ Z := by
  have T1 : Tn (fun b => F b ∨ b = ga) W Y := Tn.of_below hb
  have T2 : Tn (fun b => F b ∨ b = ga) Y Z := Tn.grown hZ (fun g e => by injection e with e; exact .inr e.symm)
  have D2 : DrAt Z db σ F := (hD.below hb).same hZ.size (fun b hb' => hZ.block b (Nat.lt_of_lt_of_le (hD.2.1 b hb') hb.size) (fun e => by injection e with e; subst e; exact hF hb'))
  exact ⟨D2.more (fun _ h => .inl h) (by rintro b (h | h); exact D2.2.1 b h; exact h.2), T1.trans T2, u1, u2, u3, u4, hG, anC_one rfl h1 h2 h3 h4⟩
theorem set_grown (w : World) (g i : Nat) (v : Value) : w.grownBy (w.setCell ⟨g, i, none⟩ v) (some g) := ⟨rfl, rfl, rfl, by simp [World.setCell], fun k _ hk => Below.heap_setCell _ _ _ _ (fun e => hk (by rw [e]))⟩
theorem an_set0 {Y : World} {g : Nat} {t : TypeId} {c u1 u2 u3 u4 : Value} (h : GB Y g t (anC c u1 u2 u3 u4)) (v : Value) : GB (Y.setCell ⟨g, 0, none⟩ v) g t (anC v u1 u2 u3 u4) := by
  unfold GB at h ⊢; rw [heap_setCell_same Y g 0 _ _ v h]; rfl
theorem an_set1 {Y : World} {g : Nat} {t : TypeId} {c u1 u2 u3 u4 : Value} (h : GB Y g t (anC c u1 u2 u3 u4)) (v : Value) : GB (Y.setCell ⟨g, 1, none⟩ v) g t (anC c v u2 u3 u4) := by
  unfold GB at h ⊢; rw [heap_setCell_same Y g 1 _ _ v h]; rfl
theorem an_set2 {Y : World} {g : Nat} {t : TypeId} {c u1 u2 u3 u4 : Value} (h : GB Y g t (anC c u1 u2 u3 u4)) (v : Value) : GB (Y.setCell ⟨g, 2, none⟩ v) g t (anC c u1 v u3 u4) := by
  unfold GB at h ⊢; rw [heap_setCell_same Y g 2 _ _ v h]; rfl
theorem an_set3 {Y : World} {g : Nat} {t : TypeId} {c u1 u2 u3 u4 : Value} (h : GB Y g t (anC c u1 u2 u3 u4)) (v : Value) : GB (Y.setCell ⟨g, 3, none⟩ v) g t (anC c u1 u2 v u4) := by
  unfold GB at h ⊢; rw [heap_setCell_same Y g 3 _ _ v h]; rfl
theorem an_set4 {Y : World} {g : Nat} {t : TypeId} {c u1 u2 u3 u4 : Value} (h : GB Y g t (anC c u1 u2 u3 u4)) (v : Value) : GB (Y.setCell ⟨g, 4, none⟩ v) g t (anC c u1 u2 u3 v) := by
  unfold GB at h ⊢; rw [heap_setCell_same Y g 4 _ _ v h]; rfl
theorem own_one {w : World} {base : Nat} {te : TypeId} {sz n : Nat} {v : Value} {xs : List Value} (h : w.ownsRow base te sz v n xs) : v.oneCell' = true := by
  obtain ⟨p, c, rfl, _⟩ := own_form h
  rfl
theorem lnt_bls {w : World} {base : Nat} {p : Option Addr} {n c : Nat} {xs : List Bool} {ms : List Value} (h : Lnt w base 4 (.slice p n c) (xs.map bov) ms) : Bls w p xs := by
  intro i hi
  rcases h.sr with e | ⟨b, o, e, hc⟩
  · simp at e; subst e; simp at hi
  · refine ⟨b, o, e, ?_⟩
    rw [hc i (by simpa using hi)]
    simp only [List.getD, List.getElem?_map, List.getElem?_eq_getElem hi]; rfl
theorem lnt_ils {w : World} {base : Nat} {p : Option Addr} {n c : Nat} {xs : List Int} {ms : List Value} (h : Lnt w base 3 (.slice p n c) (xs.map inv6) ms) : Ils w p xs := by
  intro i hi
  rcases h.sr with e | ⟨b, o, e, hc⟩
  · simp at e; subst e; simp at hi
  · refine ⟨b, o, e, ?_⟩
    rw [hc i (by simpa using hi)]
    simp only [List.getD, List.getElem?_map, List.getElem?_eq_getElem hi]; rfl
theorem lnt_form {w : World} {base : Nat} {te : TypeId} {v : Value} {xs ms : List Value} (h : Lnt w base te v xs ms) : ∃ g cap, v = .slice (some ⟨g, 0, none⟩) xs.length cap ∧ base ≤ g ∧ g < w.heap.size := by
  obtain ⟨g, cap, hv, _, h1, h2, _⟩ := h.cells
  exact ⟨g, cap, hv, h1, h2⟩
theorem act_0 (σ : Ds) (x y : Tx) (n : Int) (l : Al) : σ.act 0 x y n l = (((σ.create x).1 : Int), (σ.create x).2) := rfl
theorem act_1 (σ : Ds) (x y : Tx) (n : Int) (l : Al) : σ.act 1 x y n l = (((σ.append x l.d).1 : Int), (σ.append x l.d).2) := rfl
theorem act_2 (σ : Ds) (x y : Tx) (n : Int) (l : Al) : σ.act 2 x y n l = (((σ.sync x).1 : Int), (σ.sync x).2) := rfl
theorem act_3 (σ : Ds) (x y : Tx) (n : Int) (l : Al) : σ.act 3 x y n l = (((σ.rename x y).1 : Int), (σ.rename x y).2) := rfl
theorem act_4 (σ : Ds) (x y : Tx) (n : Int) (l : Al) : σ.act 4 x y n l = (((σ.remove x).1 : Int), (σ.remove x).2) := rfl
theorem act_5 (σ : Ds) (x y : Tx) (n : Int) (l : Al) : σ.act 5 x y n l = (0, σ.syncDir) := rfl
theorem act_6 (σ : Ds) (x y : Tx) (n : Int) (l : Al) : σ.act 6 x y n l = (((σ.read x).1 : Int), σ) := rfl
theorem act_7 (σ : Ds) (x y : Tx) (n : Int) (l : Al) : σ.act 7 x y n l = (0, σ) := rfl
theorem act_8 (σ : Ds) (x y : Tx) (n : Int) (l : Al) : σ.act 8 x y n l = (0, σ) := rfl
theorem act_9 (σ : Ds) (x y : Tx) (n : Int) (l : Al) : σ.act 9 x y n l = (0, σ) := rfl
theorem act_10 (σ : Ds) (x y : Tx) (n : Int) (l : Al) : σ.act 10 x y n l = (((σ.loose x).1 : Int), σ) := rfl
theorem act_11 (σ : Ds) (x y : Tx) (n : Int) (l : Al) : σ.act 11 x y n l = (0, σ) := rfl
theorem act_12 (σ : Ds) (x y : Tx) (n : Int) (l : Al) : σ.act 12 x y n l = (0, σ) := rfl
theorem act_13 (σ : Ds) (x y : Tx) (n : Int) (l : Al) : σ.act 13 x y n l = (0, σ.crash l.dirs l.cuts) := rfl
theorem act_14 (σ : Ds) (x y : Tx) (n : Int) (l : Al) : σ.act 14 x y n l = (((σ.flip x n l.d).1 : Int), (σ.flip x n l.d).2) := rfl
theorem act_15 (σ : Ds) (x y : Tx) (n : Int) (l : Al) : σ.act 15 x y n l = (((σ.cut x n).1 : Int), (σ.cut x n).2) := rfl
theorem act_16 (σ : Ds) (x y : Tx) (n : Int) (l : Al) : σ.act 16 x y n l = (0, Ds.new σ.room) := rfl
theorem act_17 (σ : Ds) (x y : Tx) (n : Int) (l : Al) : σ.act 17 x y n l = (0, σ) := rfl
theorem act_no (σ : Ds) (x y : Tx) (n : Int) (l : Al) {k : Int} (h0 : ¬ k = 0) (h1 : ¬ k = 1) (h2 : ¬ k = 2) (h3 : ¬ k = 3) (h4 : ¬ k = 4) (h5 : ¬ k = 5) (h6 : ¬ k = 6) (h10 : ¬ k = 10) (h13 : ¬ k = 13) (h14 : ¬ k = 14) (h15 : ¬ k = 15) (h16 : ¬ k = 16) : σ.act k x y n l = (0, σ) := by simp only [Ds.act, if_neg h0, if_neg h1, if_neg h2, if_neg h3, if_neg h4, if_neg h5, if_neg h6, if_neg h10, if_neg h13, if_neg h14, if_neg h15, if_neg h16]
theorem drat_lt {w : World} {db : Nat} {σ : Ds} {F : Nat → Prop} (h : DrAt w db σ F) : ∀ b, F b → b < w.heap.size := h.2.1
theorem fs_form {w : World} {base : Nat} {v : Value} {L : List (Tx × Tx)} (h : FsAt w base v L) : ∃ p n c, v = .slice p n c := by
  obtain ⟨dv, _, h2, _⟩ := h.ex
  obtain ⟨p, c, e, _⟩ := own_form h2
  exact ⟨p, _, c, e⟩
section
attribute [local irreducible] Calls
set_option maxRecDepth 1000000 in
theorem drest_any (v : Value) (b : Bool) (w : World) : Calls Try.prog 53 #[v, .bool b] w fun e w' => (∃ r, e = .returned r) ∧ w' = w := by
  go_enter Try.func53, Try.ntmps53
  go_wp2
  go_end0
  exact ⟨⟨_, rfl⟩, rfl⟩
theorem lnum_any (a : Int) (w : World) : Calls Try.prog 12 #[.int .i64 a] w fun e w' => e = .returned (.int .i64 a) ∧ w' = w := by
  go_enter Try.func12, Try.ntmps12
  go_wp2
  go_ret
  exact ⟨rfl, rfl⟩
end
section
variable {fn : Func} {p q : Tmp} {t : TypeId} {cs : Array Value}
theorem res_B2 (h : fn.results = #[.cell p t, .tmp q]) (tmps : Array Value) (w : World) (g : Nat) (hp : tmps.getD p undef = .pointer (some ⟨g, 0, none⟩)) (H : GB w g t cs) {fs : Array Field} (hu : Try.prog.underlying t = some (.struct fs)) (hs : (Try.prog.info? t).map (·.size) = some cs.size) :
    (results fn tmps).run Try.prog w = .ok (.tuple #[.agg cs, tmps.getD q undef]) w := by
  have hl := H.run hu hs
  have hp' : tmps[p]?.getD undef = .pointer (some ⟨g, 0, none⟩) := by simpa using hp
  simp [results, h, hp', asAddr, hl]
end
end Go.Proofs.Ytaddgmbglhdfdaa
