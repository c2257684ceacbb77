/-
  Layer 11's laws: what is lent, kept, spoilt: rows of the law's own with marks behind them.
-/
import Derived.Test.YtaddgmbglhdfdaaKg11
import Derived.Laws.AppendOwnNone
import Derived.Maps.AppendAt
namespace Go.Proofs.Ytaddgmbglhdfdaa
open Go.RowKit Go.Maps
/-- Cells from an address on. -/
def Sr (w : World) (p : Option Addr) (xs : List Value) : Prop := xs = [] ∨ ∃ b o, p = some ⟨b, o, none⟩ ∧ ∀ j, j < xs.length → w.cell? ⟨b, o + j, none⟩ = some (xs.getD j undef)
theorem Sr.below {w w' : World} {p : Option Addr} {xs : List Value} (h : Sr w p xs) (hb : Below w.heap.size w w') : Sr w' p xs := by
  rcases h with h | ⟨b, o, e, h⟩
  · exact .inl h
  · exact .inr ⟨b, o, e, fun j hj => cell_below (h j hj) hb⟩
theorem Rx.sr {w : World} {p : Option Addr} {d : Tx} (h : Rx w p d) : Sr w p (d.map u8v) := by
  rcases h with h | ⟨b, o, e, h⟩
  · exact .inl (by rw [h]; rfl)
  · refine .inr ⟨b, o, e, fun j hj => ?_⟩
    rw [List.length_map] at hj
    rw [h j hj]
    simp [hj]
theorem run_append_nix {P : Program} {w : World} (t ty e : TypeId) (i : TypeInfo) (ht : P.underlying t = some (.slice e)) (hi : P.info? e = some i) (p : Option Addr) (n cap c : Nat) (h : n ≤ cap) :
    (Builtin.append_ #[t, t] ty #[.slice p n cap, .slice none 0 c]).run P w = .ok (.slice p n cap) w := by
  cases p <;> simp [Builtin.append_, run_underlying ht, sizeOf, typeInfo, hi, Builtin.lenOf, Builtin.firstCells, h, storeCells]
theorem own_form {w : World} {base : Nat} {te : TypeId} {sz : Nat} {v : Value} {n : Nat} {xs : List Value} (h : w.ownsRow base te sz v n xs) : ∃ p cap, v = .slice p n cap ∧ n ≤ cap := by
  rcases h.2 with ⟨hv, h1⟩ | ⟨g, cap, cur, hv, _, _, hn, _⟩
  · exact ⟨none, 0, by rw [hv, h1], by omega⟩
  · exact ⟨_, cap, hv, hn⟩
/-- append(v, x..) where v is a row of its own, x any row. -/
theorem wpList_apS {w : World} {ops : Array Oper} {rest : List Oper} {o : Oper} {a : Act} {Q : Exit → Act → World → Prop} (hgd : o.guard = none) (s x : Operand) (t te : TypeId) (ho : o.op = .call { callee := .builtin .append, args := #[s, x], argTypes := #[t, t] })
    (ht : Try.prog.underlying t = some (.slice te)) {z : Value} {by' : Nat} (hi : (Try.prog.info? te).map (fun i => (i.zero, i.size, i.bytes)) = some (some z, 1, by')) (hz : z.cells.size = 1)
    (base : Nat) (v : Value) (n : Nat) (xs : List Value) (hs : a.eval s = v) (hown : w.ownsRow base te 1 v n xs) (p : Option Addr) (m c : Nat) (ys : List Value) (hx : a.eval x = .slice p m c) (hr : Sr w p ys) (hm : ys.length = m) (h1 : ∀ u ∈ ys, u.oneCell' = true)
    (hl : n + m ≤ 1000000000000) (hb : by' ≤ 64) (hbase : base ≤ w.heap.size)
    (h : ∀ v' w', w'.ownsRow base te 1 v' (n + m) (xs ++ ys) → w.grownBy w' v.ownBlock → (v'.ownBlock = v.ownBlock ∨ v'.ownBlock = some w.heap.size) → wpList Try.prog ops Q rest (a.put o.dst v') w') : wpList Try.prog ops Q (o :: rest) a w := by
  obtain ⟨i0, hi0, hz0, hz1, hz2⟩ := info_parts hi
  have hby : (n + m) * by' ≤ 140737488355328 := by
    have := Nat.mul_le_mul hl hb
    omega
  cases p with
  | some ad =>
    rcases hr with hr | ⟨b, of, e, hr⟩
    · subst hr
      refine wpList_append_own_at _ hgd s x t ho base te i0 z 1 by' ht hi0 hz0 hz1 hz2 hz (by decide) v n xs hs hown ad m c [] hx (by rw [← hm]; rfl) (fun j u hj => by simp at hj) h1 (by unfold maxLen; omega) hby hbase ?_
      intro v' w' h2 h3 _ h5
      exact h v' w' h2 h3 h5
    · injection e with e
      subst e
      refine wpList_append_own_at _ hgd s x t ho base te i0 z 1 by' ht hi0 hz0 hz1 hz2 hz (by decide) v n xs hs hown ⟨b, of, none⟩ m c ys hx (by rw [hm]; omega) (fun j u hj => ?_) h1 (by unfold maxLen; omega) hby hbase ?_
      · have hl : j < ys.length := (List.getElem?_eq_some_iff.1 hj).1
        rw [add_pl, hr j hl, ← hj]
        simp [hl]
      · intro v' w' h2 h3 _ h5
        exact h v' w' h2 h3 h5
  | none =>
    have hys : ys = [] := by
      rcases hr with e | ⟨b, off, e, _⟩
      · exact e
      · cases e
    subst hys
    obtain rfl : 0 = m := hm
    obtain ⟨q, cap, rfl, hcap⟩ := own_form hown
    refine wpList_plain hgd fun K hK => ?_
    have hrun := run_append_nix (P := Try.prog) (w := w) t o.type te i0 ht hi0 q n cap c hcap
    unfold Oper.wp
    simp [execOp, ho, resolve, invoke, builtin, hs, hx, hrun, Result.andThen]
    exact hK _ _ (h _ w (by rw [List.append_nil]; exact hown) ⟨rfl, rfl, rfl, Nat.le_refl _, fun _ _ _ => rfl⟩ (.inl rfl))
/-- A row of its own with marks behind it, of which what is lent is the beginning. -/
def Lnt (w : World) (base : Nat) (te : TypeId) (v : Value) (xs ms : List Value) : Prop := ∃ g cap, v = .slice (some ⟨g, 0, none⟩) xs.length cap ∧ w.ownsRow base te 1 (.slice (some ⟨g, 0, none⟩) (xs.length + ms.length) cap) (xs.length + ms.length) (xs ++ ms)
theorem own_below {w w' : World} {base : Nat} {te : TypeId} {sz n : Nat} {v : Value} {xs : List Value} (h : w.ownsRow base te sz v n xs) (hb : Below w.heap.size w w') : w'.ownsRow base te sz v n xs := by
  refine ob_same h fun g hg => ?_
  rcases h.2 with ⟨hv, _⟩ | ⟨g', cap, c, hv, h1, hh, _⟩
  · rw [hv] at hg; cases hg
  · rw [hv] at hg
    simp [Value.ownBlock] at hg
    subst hg
    exact hb.block g' (blt hh)
theorem Lnt.below {w w' : World} {base : Nat} {te : TypeId} {v : Value} {xs ms : List Value} (h : Lnt w base te v xs ms) (hb : Below w.heap.size w w') : Lnt w' base te v xs ms := by
  obtain ⟨g, cap, hv, hO⟩ := h
  exact ⟨g, cap, hv, own_below hO hb⟩
/-- It stays while a drive turns of which it is no part. -/
theorem Lnt.tn {w w' : World} {base : Nat} {te : TypeId} {v : Value} {xs ms : List Value} {F : Nat → Prop} (h : Lnt w base te v xs ms) (hT : Tn F w w') (hF : ∀ b, F b → b < base) : Lnt w' base te v xs ms := by
  obtain ⟨g, cap, hv, hO⟩ := h
  refine ⟨g, cap, hv, ob_same hO fun g' hg => ?_⟩
  rcases hO.2 with ⟨hv', _⟩ | ⟨g2, c2, cur, hv', h1, hh, _⟩
  · cases hv'
  · injection hv' with e1 e2 e3
    injection e1 with e1
    injection e1 with e1
    subst e1
    simp [Value.ownBlock] at hg
    subst hg
    exact hT.block g (blt hh) (fun h9 => by have := hF _ h9; omega)
theorem Lnt.cells {w : World} {base : Nat} {te : TypeId} {v : Value} {xs ms : List Value} (h : Lnt w base te v xs ms) : ∃ g cap, v = .slice (some ⟨g, 0, none⟩) xs.length cap ∧ xs.length + ms.length ≤ cap ∧ base ≤ g ∧ g < w.heap.size ∧ (∀ i, i < xs.length + ms.length → w.cell? ⟨g, i, none⟩ = some ((xs ++ ms).getD i undef)) ∧ ∀ i, w.frozen? ⟨g, i, none⟩ = false := by
  obtain ⟨g, cap, rfl, hO⟩ := h
  rcases hO.2 with ⟨hv', _⟩ | ⟨g2, c2, cur, hv', h1, hh, h2, h3, h4, h5⟩
  · cases hv'
  · injection hv' with e1 e2 e3
    injection e1 with e1
    injection e1 with e1
    subst e1 e3
    refine ⟨g, cap, rfl, h2, h1, blt hh, fun i hi => ?_, fun i => frozen_of_row w g i _ _ hh⟩
    rw [cell_of_row w g i _ _ _ hh]
    have e : (xs ++ ms)[i]? = some ((xs ++ ms).getD i undef) := by
      have hl : i < (xs ++ ms).length := by simp; omega
      rw [List.getD, List.getElem?_eq_getElem hl]; rfl
    rw [← e, ← h5]
    simp [hi]
theorem Lnt.sr {w : World} {base : Nat} {te : TypeId} {xs ms : List Value} {p : Option Addr} {n c : Nat} (h : Lnt w base te (.slice p n c) xs ms) : Sr w p xs := by
  obtain ⟨g, cap, hv, _, _, _, hc, _⟩ := h.cells
  injection hv with e1 e2 e3
  refine .inr ⟨g, 0, e1, fun j hj => ?_⟩
  rw [Nat.zero_add, hc j (by omega)]
  simp [List.getD, List.getElem?_append_left hj]
/-- The marks behind bytes that are lent. -/
def mks (k : Nat) : List Value := (List.range k).map fun i => Value.int .u8 ((150 + i : Nat) : Int)
theorem mks_len (k : Nat) : (mks k).length = k := by simp [mks]
theorem mks_succ (k : Nat) : mks (k + 1) = mks k ++ [Value.int .u8 ((150 + k : Nat) : Int)] := by unfold mks; rw [List.range_succ, List.map_append]; rfl
theorem mks_get (k i : Nat) (h : i < k) : (mks k).getD i undef = Value.int .u8 ((150 + i : Nat) : Int) := by simp [mks, List.getD, h]
theorem u8s_one (d : Tx) : ∀ u ∈ d.map u8v, u.oneCell' = true := app_one d
theorem own_empty (w : World) (te : TypeId) : (w.alloc (.cells #[] te)).ownsRow w.heap.size te 1 (.slice (some ⟨w.heap.size, 0, none⟩) 0 0) 0 [] :=
  ⟨rfl, .inr ⟨w.heap.size, 0, #[], rfl, Nat.le_refl _, heap_alloc_new w _, Nat.le_refl _, by decide, rfl, rfl⟩⟩
theorem grown_own {w w' w0 : World} {B : Nat} {te : TypeId} {sz n : Nat} {v : Value} {xs : List Value} (h : Below B w0 w) (hO : w.ownsRow B te sz v n xs) (hg : w.grownBy w' v.ownBlock) (hB : B ≤ w.heap.size) : Below B w0 w' := h.grown hg hB (fun j hj => by
  rcases hO.2 with ⟨hv, _⟩ | ⟨g', cap, c, hv, h1, hh, _⟩
  · rw [hv] at hj; cases hj
  · rw [hv] at hj
    simp [Value.ownBlock] at hj
    subst hj
    exact h1)
section
attribute [local irreducible] Calls mks u8v
set_option maxHeartbeats 1000000 in
set_option maxRecDepth 1000000 in
theorem lent_any {w : World} {p : Option Addr} {d : Tx} (h : Rx w p d) (n c : Nat) (hn : d.length = n) (hm : n ≤ 134217728) :
    Calls Try.prog 39 #[.slice p n c] w fun e w' => ∃ v, e = .returned v ∧ Lnt w' w.heap.size 5 v (d.map u8v) (mks 66) ∧ Below w.heap.size w w' := by
  have al : ∀ (W : World) (o : Obj), Below W.heap.size W (W.alloc o) := fun W o => (Below.refl _ _).alloc (Nat.le_refl _) o
  have O6 := (show Hid ((w.alloc (.cells #[] 5)).ownsRow w.heap.size 5 1 (.slice (some ⟨w.heap.size, 0, none⟩) 0 0) 0 []) from own_empty w _)
  have hR := (show Hid (Sr (w.alloc (.cells #[] 5)) p (d.map u8v)) from h.sr.below (al _ _))
  have hL := (show Hid ((d.map u8v).length = n) from by show _ = _; rw [List.length_map, hn])
  clear h
  go_enter Try.func39, Try.ntmps39
  go_wp2_with (at_builtin; refine wpList_apS rfl (.tmp 5) (.tmp 6) 26 5 rfl Try.underlying26 info5 rfl w.heap.size _ 0 [] rfl O6.out p n c (d.map u8v) rfl hR.out hL.out (u8s_one d) (by omega) (by decide) (al _ _).size ?_; intro v1 w1 ho1 hg1 hk1)
  rw [List.nil_append, Nat.zero_add] at ho1
  have hb1 := grown_own (al w _) O6.out hg1 (al w _).size
  clear hk1
  go_loopw [3, 4] (fun o i wr => ∃ j : Nat, j ≤ 66 ∧ i = .int .i64 (j : Int) ∧ Hid (wr.ownsRow w.heap.size 5 1 o (n + j) (d.map u8v ++ mks j)) ∧ Below w.heap.size w wr) (fun _ i _ => 66 - (intOf i).toNat)
  case atStart => exact ⟨0, Nat.zero_le _, rfl, by rw [show mks 0 = [] from by unfold mks; rfl, List.append_nil]; exact ho1, hb1⟩
  case round =>
    obtain ⟨j, hj, rfl, hO, hb⟩ := hrel
    have hs := hb.size
    by_cases hlt : j < 66
    · have hi : (j : Int) < 66 := by omega
      have r1 : Hid (Sr (wr.alloc (.cells #[.int .u8 ((150 : Int) + (j : Int))] 5)) (some ⟨wr.heap.size, 0, none⟩) [Value.int .u8 ((150 + j : Nat) : Int)]) := by
        refine .inr ⟨wr.heap.size, 0, rfl, fun i hi => ?_⟩
        obtain rfl : i = 0 := by simp at hi; exact hi
        rw [cell_of_row _ _ _ _ _ (0, 0) (heap_alloc_new wr _)]
        rfl
      have hsu := mks_succ j
      go_wp2_with (at_builtin; refine wpList_apS rfl (.tmp 12) (.tmp 16) 26 5 rfl Try.underlying26 info5 rfl w.heap.size u3 (n + j) (d.map u8v ++ mks j) rfl (own_below hO.out (al _ _)) (some ⟨wr.heap.size, 0, none⟩) 1 1 [Value.int .u8 ((150 + j : Nat) : Int)] rfl r1.out rfl (by intro u hu; simp at hu; subst hu; rfl) (by omega) (by decide) (Nat.le_trans hs (al _ _).size) ?_; intro v2 w2 ho2 hg2 hk2)
      go_roundw
      case rel =>
        refine ⟨j + 1, by omega, by go_num, ?_, grown_own (hb.alloc hs _) (own_below hO.out (al _ _)) hg2 (Nat.le_trans hs (al _ _).size)⟩
        show World.ownsRow _ _ _ _ _ _ _
        rw [hsu, ← List.append_assoc]; exact ho2
      case measure => simp [intOf]; omega
    · obtain rfl : j = 66 := by omega
      have hO' := hO.out
      obtain ⟨q, cap, rfl, hcap⟩ := own_form hO'
      obtain ⟨g, rfl⟩ : ∃ g, q = some ⟨g, 0, none⟩ := by
        rcases hO'.2 with ⟨hv, h1⟩ | ⟨g, cap', cur, hv, _⟩
        · omega
        · injection hv with e1; exact ⟨g, e1⟩
      have hcn : n ≤ cap := by omega
      go_wp2
      go_ret
      have e1 := hL.out
      refine ⟨_, rfl, ⟨g, cap, by rw [e1]; rfl, ?_⟩, hb⟩
      rw [e1, mks_len]
      exact hO'
end
end Go.Proofs.Ytaddgmbglhdfdaa
