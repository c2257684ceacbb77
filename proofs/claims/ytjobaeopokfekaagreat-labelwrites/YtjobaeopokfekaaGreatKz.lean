/-
  Rows of bytes that a call makes: own rows, appends, strings of bytes.
-/
import Derived.Test.YtjobaeopokfekaaGreatLst
import Derived.OwnWalk
import Derived.Laws.MakeOwn
import Derived.ArgAppend
import Derived.Laws.AppendOwnNone
namespace Go.Proofs.YtjobaeopokfekaaGreat
open Go.RowKit
/-- A row's bytes as a function. -/
def fn (xs : List (BitVec 8)) (i : Nat) : BitVec 8 := xs.getD i 0#8
theorem ls_fn (xs : List (BitVec 8)) : ls (fn xs) xs.length = xs := ls_self xs
/-- An own row of bytes. -/
def Ow (w : World) (base : Nat) (v : Value) (xs : List (BitVec 8)) : Prop := w.ownsRow base 5 1 v xs.length (vs (fn xs) xs.length)
theorem Ow.rd {w : World} {base : Nat} {v : Value} {xs : List (BitVec 8)} (h : Ow w base v xs) : ∃ p cap, v = .slice p xs.length cap ∧ xs.length ≤ cap ∧ Rd w p xs := by
  obtain ⟨p, cap, hv, hc, hr⟩ := rd_owns h
  rw [ls_fn] at hr
  exact ⟨p, cap, hv, hc, hr⟩
theorem Ow.nil (w : World) (base : Nat) : Ow w base (.slice none 0 0) [] := World.ownsRow_nil _ _ _ _
theorem Ow.below {w w' : World} {base : Nat} {v : Value} {xs : List (BitVec 8)} (h : Ow w base v xs) (hb : Below w.heap.size w w') : Ow w' base v xs := by
  refine ⟨h.1, ?_⟩
  rcases h.2 with h1 | ⟨g, cap, c, hv, hg, hh, hc⟩
  · exact .inl h1
  · refine .inr ⟨g, cap, c, hv, hg, ?_, hc⟩
    rw [hb.block g (by
      rcases Nat.lt_or_ge g w.heap.size with h1 | h1
      · exact h1
      · rw [Array.getElem?_eq_none h1] at hh; cases hh)]
    exact hh
theorem Ow.mono {w : World} {base base' : Nat} {v : Value} {xs : List (BitVec 8)} (h : Ow w base v xs) (hb : base' ≤ base) : Ow w base' v xs := by
  refine ⟨h.1, ?_⟩
  rcases h.2 with h1 | ⟨g, cap, c, hv, hg, hh, hc⟩
  · exact .inl h1
  · exact .inr ⟨g, cap, c, hv, Nat.le_trans hb hg, hh, hc⟩
theorem vs_fn_app (xs ys : List (BitVec 8)) : vs (fn (xs ++ ys)) (xs.length + ys.length) = vs (fn xs) xs.length ++ vs (fn ys) ys.length := by
  unfold vs
  rw [List.range_add, List.map_append, List.map_map]
  congr 1
  · apply List.map_congr_left
    intro i hi
    have hi := List.mem_range.1 hi
    simp [fn, List.getElem?_append_left hi]
  · apply List.map_congr_left
    intro i hi
    simp [fn, Function.comp, List.getElem?_append_right]
theorem run_append_no {P : Program} {w : World} (t ty e : TypeId) (i : TypeInfo) (ht : P.underlying t = some (.slice e)) (hi : P.info? e = some i) (c : Nat) :
    (Builtin.append_ #[t, t] ty #[.slice none 0 0, .slice none 0 c]).run P w = .ok (.slice none 0 0) w := by
  simp [Builtin.append_, run_underlying ht, sizeOf, typeInfo, hi, Builtin.lenOf, Builtin.firstCells]
/-- append(nil, x..): a row of its own. -/
theorem wpList_cl {w : World} {ops : Array Oper} {rest : List Oper} {o : Oper} {a : Act} {Q : Exit → Act → World → Prop} (hgd : o.guard = none) (s x : Operand) (ho : o.op = .call { callee := .builtin .append, args := #[s, x], argTypes := #[22, 22] })
    (hs : a.eval s = .slice none 0 0) (ao : Option Addr) (n c : Nat) (xs : List (BitVec 8)) (hx : a.eval x = .slice ao n c) (hr : Rd w ao xs) (hn : xs.length = n) (hm : n ≤ 140737488355328)
    (h : ∀ v' w', Ow w' w.heap.size v' xs → Below w.heap.size w w' → wpList Tryz.prog ops Q rest (a.put o.dst v') w') : wpList Tryz.prog ops Q (o :: rest) a w := by
  obtain ⟨i0, hi, hz0, hz1, hz2⟩ := info_parts info5
  subst hn
  cases ao with
  | none =>
    have hxs : xs = [] := by
      rcases hr with e | ⟨b, off, e, _⟩
      · exact e
      · cases e
    subst hxs
    refine wpList_plain hgd fun K hK => ?_
    have hrun := run_append_no (P := Tryz.prog) (w := w) 22 o.type 5 i0 Tryz.underlying22 hi c
    unfold Oper.wp
    simp at hx
    simp [execOp, ho, resolve, invoke, builtin, hs, hx, hrun, Result.andThen]
    exact hK _ _ (h _ w (Ow.nil _ _) (Below.refl _ _))
  | some ad =>
    have S : ∀ j u, (vs (fn xs) xs.length)[j]? = some u → w.cell? (ad.add j) = some u := by
      rcases hr with e | ⟨b, off, e, hc⟩
      · subst e; intro j u hu; simp [vs] at hu
      · cases e
        exact vs_src hc
    refine wpList_append_own _ hgd _ _ 22 ho w.heap.size 5 i0 (.int .u8 0) 1 1 Tryz.underlying22 hi hz0 hz1 hz2 rfl (by decide) (.slice none 0 0) 0 [] hs (World.ownsRow_nil _ _ _ _) ad xs.length c (vs (fn xs) xs.length) hx (by rw [vs_len, Nat.mul_one]) S (vs_one _ _) (by unfold maxLen; omega) (by omega) (Nat.le_refl _) ?_
    intro v' w' ho' hg _
    refine h v' w' ?_ (below_append (t := 5) (Below.refl _ _) (Nat.le_refl _) hg (World.ownsRow_nil _ _ _ _) (Nat.le_refl _))
    unfold Ow
    simpa using ho'
/-- append(v, x..) where v is a row of its own: it lies where it lay, or in new memory. -/
theorem wpList_app {w : World} {ops : Array Oper} {rest : List Oper} {o : Oper} {a : Act} {Q : Exit → Act → World → Prop} (hgd : o.guard = none) (s x : Operand) (ho : o.op = .call { callee := .builtin .append, args := #[s, x], argTypes := #[22, 22] })
    (base : Nat) (v : Value) (xs : List (BitVec 8)) (hs : a.eval s = v) (hown : Ow w base v xs) (ad : Addr) (n c : Nat) (ys : List (BitVec 8)) (hx : a.eval x = .slice (some ad) n c) (hr : Rd w (some ad) ys) (hn : ys.length = n) (hm : xs.length + n ≤ 140737488355328) (hbase : base ≤ w.heap.size)
    (h : ∀ v' w', Ow w' base v' (xs ++ ys) → w.grownBy w' v.ownBlock → (v'.ownBlock = v.ownBlock ∨ Ow w' w.heap.size v' (xs ++ ys)) → wpList Tryz.prog ops Q rest (a.put o.dst v') w') : wpList Tryz.prog ops Q (o :: rest) a w := by
  obtain ⟨i0, hi, hz0, hz1, hz2⟩ := info_parts info5
  subst hn
  have S : ∀ j u, (vs (fn ys) ys.length)[j]? = some u → w.cell? (ad.add j) = some u := by
    rcases hr with e | ⟨b, off, e, hc⟩
    · subst e; intro j u hu; simp [vs] at hu
    · cases e
      exact vs_src hc
  have hl : (vs (fn ys) ys.length).length = ys.length * 1 := by rw [vs_len, Nat.mul_one]
  have cvt : ∀ {w' : World} {b : Nat} {v' : Value}, w'.ownsRow b 5 1 v' (xs.length + ys.length) (vs (fn xs) xs.length ++ vs (fn ys) ys.length) → Ow w' b v' (xs ++ ys) := by
    intro w' b v' h1
    unfold Ow
    rw [List.length_append, vs_fn_app]; exact h1
  obtain ⟨v', w', hr1, h2, h3, h4⟩ := run_append_own (P := Tryz.prog) w base 22 o.type 5 i0 (.int .u8 0) 1 1 Tryz.underlying22 hi hz0 hz1 hz2 rfl (by decide) v xs.length (vs (fn xs) xs.length) hown ad ys.length c (vs (fn ys) ys.length) hl S (vs_one _ _) (by unfold maxLen; omega) (by omega) hbase
  have key : v'.ownBlock = v.ownBlock ∨ w'.ownsRow w.heap.size 5 1 v' (xs.length + ys.length) (vs (fn xs) xs.length ++ vs (fn ys) ys.length) := by
    rcases hown.2 with ⟨hv, h0⟩ | ⟨g, cap, cur, hv, hbg, hg, hnc, hcm, hcs, htake⟩
    · subst hv
      have hxs : xs = [] := List.length_eq_zero_iff.1 h0
      subst hxs
      obtain ⟨v2, w2, hr2, k2, k3, k4⟩ := run_append_own (P := Tryz.prog) w w.heap.size 22 o.type 5 i0 (.int .u8 0) 1 1 Tryz.underlying22 hi hz0 hz1 hz2 rfl (by decide) (.slice none 0 0) 0 [] (World.ownsRow_nil _ _ _ _) ad ys.length c (vs (fn ys) ys.length) hl S (vs_one _ _) (by unfold maxLen; simp at hm; omega) (by simp at hm; omega) (Nat.le_refl _)
      rw [hr1] at hr2
      injection hr2 with e1 e2
      subst e1 e2
      exact .inr (by simpa [vs] using k2)
    · subst hv
      by_cases hroom : xs.length + ys.length ≤ cap
      · have hfit : xs.length * i0.size + (vs (fn ys) ys.length).length ≤ cur.size := by rw [vs_len, hz1, hcs]; omega
        have hr2 := run_append_room (P := Tryz.prog) w 22 o.type 5 i0 Tryz.underlying22 hi g xs.length cap cur hg ad ys.length c (vs (fn ys) ys.length) (by rw [vs_len, hz1, Nat.mul_one]) S (vs_one _ _) hroom hfit
        rw [hr1] at hr2
        injection hr2 with e1 e2
        subst e1
        exact .inl rfl
      · obtain ⟨v2, w2, hr2, k2, k3⟩ := run_append_arg_grows (P := Tryz.prog) w 22 o.type 5 i0 (.int .u8 0) 1 1 Tryz.underlying22 hi hz0 hz1 hz2 rfl (by decide) ⟨g, 0, none⟩ xs.length cap (vs (fn xs) xs.length) (by rw [vs_len, Nat.mul_one]) (hown.cells (g := g) rfl) ad ys.length c (vs (fn ys) ys.length) hl S (by omega) (by unfold maxLen; omega) (by omega)
        rw [hr1] at hr2
        injection hr2 with e1 e2
        subst e1 e2
        exact .inr k2
  refine wpList_plain hgd fun K hK => ?_
  unfold Oper.wp execOp
  simp only [ho, resolve, invoke, builtin, Sem.run_bind, Sem.run_pure, Result.andThen_ok, List.map_toArray, List.map_cons, List.map_nil, hs, hx, hr1]
  exact hK _ _ (h v' w' (cvt h2) h3 (key.imp id cvt))
/-- Two rows that lie apart. -/
def Sep (u v : Value) : Prop := ∀ g, u.ownBlock = some g → v.ownBlock ≠ some g
theorem Sep.symm {u v : Value} (h : Sep u v) : Sep v u := fun g h1 h2 => h g h2 h1
theorem Ow.lt {w : World} {base : Nat} {v : Value} {xs : List (BitVec 8)} (h : Ow w base v xs) {g : Nat} (hg : v.ownBlock = some g) : base ≤ g ∧ g < w.heap.size := by
  rcases h.2 with ⟨hv, _⟩ | ⟨g', cap, c, hv, hb, hh, hc⟩
  · rw [hv] at hg; cases hg
  · rw [hv] at hg
    simp [Value.ownBlock] at hg
    subst hg
    refine ⟨hb, ?_⟩
    rcases Nat.lt_or_ge g' w.heap.size with h1 | h1
    · exact h1
    · rw [Array.getElem?_eq_none h1] at hh; cases hh
/-- A row that lies apart from the one that grew. -/
theorem Ow.kept {w w' : World} {base : Nat} {u v : Value} {xs : List (BitVec 8)} (h : Ow w base u xs) (hg : w.grownBy w' v.ownBlock) (hs : Sep u v) : Ow w' base u xs := by
  refine ⟨h.1, ?_⟩
  rcases h.2 with h1 | ⟨g, cap, c, hv, hb, hh, hc⟩
  · exact .inl h1
  · refine .inr ⟨g, cap, c, hv, hb, ?_, hc⟩
    have hl := h.lt (g := g) (by rw [hv]; rfl)
    rw [hg.block g hl.2 (fun e => hs g (by rw [hv]; rfl) e.symm)]
    exact hh
theorem Sep.grown {w w' : World} {base : Nat} {u v v' : Value} {xs ys : List (BitVec 8)} (h : Sep u v) (hu : Ow w base u xs) (hk : v'.ownBlock = v.ownBlock ∨ Ow w' w.heap.size v' ys) : Sep u v' := by
  intro g hg hv
  rcases hk with hk | hk
  · exact h g hg (by rw [← hk]; exact hv)
  · have h1 := hu.lt hg
    have h2 := hk.lt hv
    omega
theorem Ow.below_append {w w' : World} {base B : Nat} {v : Value} {xs : List (BitVec 8)} {w0 : World} (h : Ow w base v xs) (hb : Below B w0 w) (hB : B ≤ w.heap.size) (hg : w.grownBy w' v.ownBlock) (hbase : B ≤ base) : Below B w0 w' :=
  hb.grown hg hB (fun _ hk => Nat.le_trans hbase (h.lt hk).1)
theorem rd_new1 (w : World) (x : BitVec 8) (t : TypeId) : Rd (w.alloc (.cells #[.int .u8 (el x)] t)) (some ⟨w.heap.size, 0, none⟩) [x] := by
  refine .inr ⟨w.heap.size, 0, rfl, fun i hi => ?_⟩
  have hi' : i = 0 := by simpa using hi
  subst hi'
  rw [Nat.zero_add, cell_of_row _ _ _ _ _ (0, 0) (heap_alloc_new w _)]; rfl
theorem rd_newl (w : World) (xs : List (BitVec 8)) (t : TypeId) (fr : Nat × Nat) : Rd (w.alloc (.cells (xs.map fun x => Value.int .u8 (el x)).toArray t fr)) (some ⟨w.heap.size, 0, none⟩) xs := by
  refine .inr ⟨w.heap.size, 0, rfl, fun i hi => ?_⟩
  rw [Nat.zero_add, cell_of_row _ _ _ _ _ fr (heap_alloc_new w _), List.getElem?_toArray, List.getElem?_map, List.getElem?_eq_getElem hi]
  simp [List.getD, List.getElem?_eq_getElem hi]
theorem balloc {w w' : World} (h : Below w.heap.size w w') (o : Obj) : Below w.heap.size w (w'.alloc o) := h.alloc h.size o
theorem bt {u v x : World} (h : Below u.heap.size u v) (k : Below v.heap.size v x) : Below u.heap.size u x := h.trans (k.mono h.size)
/-- A row of no bytes with room. -/
theorem Ow.made (w : World) (c : Nat) (hc : c ≤ 140737488355328) : Ow (w.alloc (.cells (Array.replicate c (.int .u8 0)) 5)) w.heap.size (.slice (some ⟨w.heap.size, 0, none⟩) 0 c) [] :=
  ⟨rfl, .inr ⟨w.heap.size, c, _, rfl, Nat.le_refl _, heap_alloc_new w _, Nat.zero_le _, by unfold maxLen; omega, by simp, rfl⟩⟩
theorem make_room (n : Nat) (hn : n ≤ 140737488355328) (w : World) : (Instr.makeSlice 22 (.int .i64 0) (.int .i64 (n : Int))).run Tryz.prog w = .ok (.slice (some ⟨w.heap.size, 0, none⟩) 0 n) (w.alloc (.cells (Array.replicate n (.int .u8 0)) 5)) := by
  obtain ⟨i0, hi, hz0, hz1, hz2⟩ := info_parts info5
  have h := run_make (P := Tryz.prog) w 22 5 i0 (.int .u8 0) Tryz.underlying22 hi hz0 .i64 .i64 0 (n : Int) (by omega) (by omega) (by rw [hz2]; omega) (by omega)
  rw [h, hz1]
  have e : madeCells (Value.int .u8 0).cells ((n : Int).toNat * 1) = Array.replicate n (.int .u8 0) := by
    apply Array.ext_getElem?
    intro i
    simp only [madeCells, Int.toNat_natCast, Nat.mul_one]
    by_cases hin : i < n
    · simp [hin, Value.cells]
      rw [Nat.mod_one]; rfl
    · rw [Array.getElem?_eq_none (by simp; omega), Array.getElem?_eq_none (by simp; omega)]
  rw [e, Int.toNat_natCast]; rfl
theorem run_append_nix {P : Program} {w : World} (t ty e : TypeId) (i : TypeInfo) (ht : P.underlying t = some (.slice e)) (hi : P.info? e = some i) (p : Option Addr) (n cap c : Nat) (h : n ≤ cap) :
    (Builtin.append_ #[t, t] ty #[.slice p n cap, .slice none 0 c]).run P w = .ok (.slice p n cap) w := by
  cases p <;> simp [Builtin.append_, run_underlying ht, sizeOf, typeInfo, hi, Builtin.lenOf, Builtin.firstCells, h, storeCells]
/-- append(v, x..) where v is a row of its own, x any row. -/
theorem wpList_apa {w : World} {ops : Array Oper} {rest : List Oper} {o : Oper} {a : Act} {Q : Exit → Act → World → Prop} (hgd : o.guard = none) (s x : Operand) (ho : o.op = .call { callee := .builtin .append, args := #[s, x], argTypes := #[22, 22] })
    (base : Nat) (v : Value) (xs : List (BitVec 8)) (hs : a.eval s = v) (hown : Ow w base v xs) (ad : Option Addr) (n c : Nat) (ys : List (BitVec 8)) (hx : a.eval x = .slice ad n c) (hr : Rd w ad ys) (hn : ys.length = n) (hm : xs.length + n ≤ 140737488355328) (hbase : base ≤ w.heap.size)
    (h : ∀ v' w', Ow w' base v' (xs ++ ys) → w.grownBy w' v.ownBlock → (v'.ownBlock = v.ownBlock ∨ Ow w' w.heap.size v' (xs ++ ys)) → wpList Tryz.prog ops Q rest (a.put o.dst v') w') : wpList Tryz.prog ops Q (o :: rest) a w := by
  cases ad with
  | some ad => exact wpList_app hgd s x ho base v xs hs hown ad n c ys hx hr hn hm hbase h
  | none =>
    obtain ⟨i0, hi, hz0, hz1, hz2⟩ := info_parts info5
    have hys : ys = [] := by
      rcases hr with e | ⟨b, off, e, _⟩
      · exact e
      · cases e
    subst hys
    obtain rfl : 0 = n := hn
    obtain ⟨p, cap, rfl, hcap, _⟩ := hown.rd
    refine wpList_plain hgd fun K hK => ?_
    have hrun := run_append_nix (P := Tryz.prog) (w := w) 22 o.type 5 i0 Tryz.underlying22 hi p xs.length cap c hcap
    unfold Oper.wp
    simp [execOp, ho, resolve, invoke, builtin, hs, hx, hrun, Result.andThen]
    exact hK _ _ (h _ w (by rw [List.append_nil]; exact hown) ⟨rfl, rfl, rfl, Nat.le_refl _, fun _ _ _ => rfl⟩ (.inl rfl))
end Go.Proofs.YtjobaeopokfekaaGreat
