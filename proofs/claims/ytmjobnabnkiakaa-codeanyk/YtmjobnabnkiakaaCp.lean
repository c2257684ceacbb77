/-
  'copy' of a whole row, whatever an element's size; matrices under 'But'.
-/
import Derived.Test.YtmjobnabnkiakaaBu
import Derived.Laws.CopyOwn
namespace Go.Proofs.Ytmjobnabnkiakaa
open Go.RowKit
theorem run_copy_all {P : Program} (w : World) (dT sT ty elem : TypeId) (sz g dLen dCap : Nat) (a : Addr) (sCap : Nat) (cur : Array Value) (t : TypeId) (cs : List Value)
    (hu : P.underlying dT = some (.slice elem)) (hs : (P.info? elem).map (·.size) = some sz)
    (hg : w.heap[g]? = some (.cells cur t (0, 0))) (hn : cs.length = dLen * sz)
    (hsrc : ∀ j v, cs[j]? = some v → w.cell? (a.add j) = some v) (hfit : cs.length ≤ cur.size) (h1 : ∀ v ∈ cs, v.oneCell' = true) :
    (Builtin.copy_ #[dT, sT] ty #[.slice (some ⟨g, 0, none⟩) dLen dCap, .slice (some a) dLen sCap]).run P w =
      .ok (goInt dLen) (w.setRow g (cs ++ cur.toList.drop cs.length).toArray) := by
  have hl := run_loadCells_list (P := P) w a cs hsrc
  have hst := run_storeCells_at P g 0 t cs 0 cur w hg (by simpa using hfit) h1
  have hm : Nat.min dLen dLen = dLen := Nat.min_self _
  cases hq : P.info? elem with
  | none => simp [hq] at hs
  | some i =>
    have hi : i.size = sz := by simpa [hq] using hs
    simp [Builtin.copy_, run_underlying hu, Builtin.lenOf, Builtin.firstCells, sizeOf, typeInfo, hq, hi, hm, ← hn, hl, hst]
theorem run_copy_no {P : Program} (w : World) (dT sT ty elem : TypeId) (sz : Nat) (d a : Option Addr) (dCap sCap : Nat) (hu : P.underlying dT = some (.slice elem)) (hs : (P.info? elem).map (·.size) = some sz) :
    (Builtin.copy_ #[dT, sT] ty #[.slice d 0 dCap, .slice a 0 sCap]).run P w = .ok (goInt 0) w := by
  cases hq : P.info? elem with
  | none => simp [hq] at hs
  | some i =>
    have hl : ∀ (x : Addr), (loadCells x 0).run P w = .ok #[] w := fun x => by simpa using run_loadCells_list (P := P) w x [] (by simp)
    cases d <;> cases a <;> simp [Builtin.copy_, run_underlying hu, Builtin.lenOf, Builtin.firstCells, sizeOf, typeInfo, hq, storeCells, hl]
theorem But.setRow {g : Nat} {w : World} (cs : Array Value) : But g w (w.setRow g cs) :=
  ⟨below_setRow (Below.refl _ _) (Nat.le_refl _) _, fun k _ hne => setRow_other w g k cs hne, by simp [World.setRow]⟩
theorem But.from {b g : Nat} {w w1 w2 : World} (hb : Below b w w1) (h : But g w1 w2) (hg : b ≤ g) : Below b w w2 := hb.trans (h.bl.mono hg)
/-- A whole row is copied onto a row of the call's own. -/
theorem oper_copy_all {P : Program} {w : World} {o : Oper} {a : Act} {K : Act → World → Prop} {Q : Exit → Act → World → Prop} (d s : Operand) (dT sT : TypeId)
    (ho : o.op = .call { callee := .builtin .copy, args := #[d, s], argTypes := #[dT, sT] }) (elem : TypeId) (hu : P.underlying dT = some (.slice elem)) (sz : Nat) (hsz : (P.info? elem).map (·.size) = some sz)
    (g l n dCap : Nat) (v : Value) (hd : a.eval d = .slice (some ⟨g, 0, none⟩) l dCap) (hs : a.eval s = v) (t : TypeId) (f0 f : Nat → Value) (hn : n = l * sz) (hz : 0 < sz) (hO : Ov w t g f0 n) (hv : Sv w v l f n) (h1 : ∀ i, (f i).oneCell' = true)
    (h : ∀ w', Ov w' t g f n → But g w w' → K (a.put o.dst (goInt l)) w') : Oper.wp P o a w K Q := by
  obtain ⟨p, c, rfl, hv⟩ := hv
  by_cases h0 : l = 0
  · subst h0
    have hrun := run_copy_no (P := P) w dT sT o.type elem sz (some ⟨g, 0, none⟩) p dCap c hu hsz
    unfold Oper.wp
    simp [execOp, ho, resolve, invoke, builtin, hd, hs, hrun, Result.andThen]
    exact (h w (hO.congr (fun i hi => by rw [hn, Nat.zero_mul] at hi; omega)) (But.refl _ _))
  · have hn0 : 0 < n := by rw [hn]; exact Nat.mul_pos (by omega) hz
    rcases hv with hv | ⟨b, off, rfl, hc⟩
    · omega
    · have hrun := run_copy_all (P := P) w dT sT o.type elem sz g l dCap ⟨b, off, none⟩ c (rv f0 n) t (lv f n) hu hsz hO (by rw [lv_len, hn])
        (fun j u hj => by
          have hjn : j < n := by
            rcases Nat.lt_or_ge j n with h | h
            · exact h
            · rw [List.getElem?_eq_none (by rw [lv_len]; exact h)] at hj; cases hj
          rw [lv_at f n j hjn] at hj
          injection hj with hj
          rw [add_pl, hc j hjn, hj])
        (by rw [lv_len, rv_size]; exact Nat.le_refl _) (fun u hu => by
          unfold lv at hu
          obtain ⟨i, _, rfl⟩ := List.mem_map.1 hu
          exact h1 i)
      unfold Oper.wp
      simp [execOp, ho, resolve, invoke, builtin, hd, hs, hrun, Result.andThen]
      refine h _ ?_ (But.setRow _)
      unfold Ov
      rw [setRow_heap w g _ _ t _ hO, lv_len, rv_toList, List.drop_of_length_le (by simp), List.append_nil]
      rfl
theorem wpList_copy_all {P : Program} {w : World} {ops : Array Oper} {rest : List Oper} {o : Oper} {a : Act} {Q : Exit → Act → World → Prop} (hgd : o.guard = none) (d s : Operand) (dT sT : TypeId)
    (ho : o.op = .call { callee := .builtin .copy, args := #[d, s], argTypes := #[dT, sT] }) (elem : TypeId) (hu : P.underlying dT = some (.slice elem)) (sz : Nat) (hsz : (P.info? elem).map (·.size) = some sz)
    (g l n dCap : Nat) (v : Value) (hd : a.eval d = .slice (some ⟨g, 0, none⟩) l dCap) (hs : a.eval s = v) (t : TypeId) (f0 f : Nat → Value) (hn : n = l * sz) (hz : 0 < sz) (hO : Ov w t g f0 n) (hv : Sv w v l f n) (h1 : ∀ i, (f i).oneCell' = true)
    (h : ∀ w', Ov w' t g f n → But g w w' → wpList P ops Q rest (a.put o.dst (goInt l)) w') : wpList P ops Q (o :: rest) a w :=
  wpList_plain hgd fun _ hK => oper_copy_all d s dT sT ho elem hu sz hsz g l n dCap v hd hs t f0 f hn hz hO hv h1 (fun w' h1 h2 => hK _ _ (h w' h1 h2))
theorem step_copy_all {P : Program} {ops : Array Oper} {o : Oper} {a : Act} {w : World} {K : Act → World → Prop} {Q : Exit → Act → World → Prop} {E : Prop} (hgd : o.guard = none) (d s : Operand) (dT sT : TypeId)
    (ho : o.op = .call { callee := .builtin .copy, args := #[d, s], argTypes := #[dT, sT] }) (elem : TypeId) (hu : P.underlying dT = some (.slice elem)) (sz : Nat) (hsz : (P.info? elem).map (·.size) = some sz)
    (g l n dCap : Nat) (v : Value) (hd : a.eval d = .slice (some ⟨g, 0, none⟩) l dCap) (hs : a.eval s = v) (t : TypeId) (f0 f : Nat → Value) (hn : n = l * sz) (hz : 0 < sz) (hO : Ov w t g f0 n) (hv : Sv w v l f n) (h1 : ∀ i, (f i).oneCell' = true)
    (h : ∀ w', Ov w' t g f n → But g w w' → K (a.put o.dst (goInt l)) w') : if Region.wanted o (yielded ops a.tmps) = true then Oper.wp P o a w K Q else E := by
  have hw : Region.wanted o (yielded ops a.tmps) = true := by simp [Region.wanted, hgd]
  rw [if_pos hw]
  exact oper_copy_all d s dT sT ho elem hu sz hsz g l n dCap v hd hs t f0 f hn hz hO hv h1 h
theorem Gr.but {w w' : World} {to te : TypeId} {B r l m : Nat} {ρ : Nat → Nat} {M : Nat → Nat → Value} (h : Gr w to te B r l m ρ M) {a : Nat} (ha : a < r) (hb : But (ρ a) w w') {f : Nat → Value} (ho : Ov w' te (ρ a) f m) : Gr w' to te B r l m ρ (fun i => if i = a then f else M i) :=
  ⟨hb.ov h.out (h.ne a ha).symm, fun i hi => by
    by_cases e : i = a
    · subst e; rw [if_pos rfl]; exact ho
    · rw [if_neg e]; exact hb.ov (h.row i hi) (fun x => e (h.inj i hi a ha x)), h.ne, h.inj⟩
theorem clE_one (f : Nat → BitVec 8) (i : Nat) : (clE f i).oneCell' = true := rfl
theorem clB_one (f : Nat → Bool) (i : Nat) : (clB f i).oneCell' = true := rfl
theorem clF_one (f : Nat → Bool × Bool) (i : Nat) : (clF f i).oneCell' = true := rfl
theorem GmE.but {w w' : World} {B r l : Nat} {ρ : Nat → Nat} {N : Nat → Nat → BitVec 8} (h : GmE w B r l ρ N) {a : Nat} (ha : a < r) (hb : But (ρ a) w w') {f : Nat → BitVec 8} (ho : Ov w' 73 (ρ a) (clE f) l) : GmE w' B r l ρ (fun i => if i = a then f else N i) :=
  Gr.congr (Gr.but h ha hb ho) (fun i _ j _ => by by_cases e : i = a <;> simp [e])
end Go.Proofs.Ytmjobnabnkiakaa
