/-
  The laws' own helpers of layer 6: 'twin', 'known'.
-/
import Derived.Test.YtmpccpcnbenpfaaCt1
import Derived.ArgAppend
import Derived.Lib.SlBytesConst
import Derived.Laws.AppendOwnNone
namespace Go.Proofs.Ytmpccpcnbenpfaa
open Go.RowKit Go.Great
/-- A row's bytes as a function. -/
def fn (xs : List (BitVec 8)) (i : Nat) : BitVec 8 := xs.getD i 0#8
theorem ls_fn (xs : List (BitVec 8)) : ls (fn xs) xs.length = xs := ls_self xs
/-- An own row of bytes. -/
def Ow (w : World) (base : Nat) (v : Value) (xs : List (BitVec 8)) : Prop := w.ownsRow base 5 1 v xs.length (vs (fn xs) xs.length)
theorem Ow.rd {w : World} {base : Nat} {v : Value} {xs : List (BitVec 8)} (h : Ow w base v xs) : ∃ p cap, v = .slice p xs.length cap ∧ xs.length ≤ cap ∧ Rd w p xs := by
  obtain ⟨p, cap, hv, hc, hr⟩ := rd_owns h
  rw [ls_fn] at hr
  exact ⟨p, cap, hv, hc, hr⟩
theorem Ow.nil (w : World) (base : Nat) : Ow w base (.slice none 0 0) [] := World.ownsRow_nil _ _ _ _
theorem Ow.below {w w' : World} {base : Nat} {v : Value} {xs : List (BitVec 8)} (h : Ow w base v xs) (hb : Below w.heap.size w w') : Ow w' base v xs := by
  refine ⟨h.1, ?_⟩
  rcases h.2 with h1 | ⟨g, cap, c, hv, hg, hh, hc⟩
  · exact .inl h1
  · refine .inr ⟨g, cap, c, hv, hg, ?_, hc⟩
    rw [hb.block g (by
      rcases Nat.lt_or_ge g w.heap.size with h1 | h1
      · exact h1
      · rw [Array.getElem?_eq_none h1] at hh; cases hh)]
    exact hh
theorem Ow.mono {w : World} {base base' : Nat} {v : Value} {xs : List (BitVec 8)} (h : Ow w base v xs) (hb : base' ≤ base) : Ow w base' v xs := by
  refine ⟨h.1, ?_⟩
  rcases h.2 with h1 | ⟨g, cap, c, hv, hg, hh, hc⟩
  · exact .inl h1
  · exact .inr ⟨g, cap, c, hv, Nat.le_trans hb hg, hh, hc⟩
theorem vs_fn_app (xs ys : List (BitVec 8)) : vs (fn (xs ++ ys)) (xs.length + ys.length) = vs (fn xs) xs.length ++ vs (fn ys) ys.length := by
  unfold vs
  rw [List.range_add, List.map_append, List.map_map]
  congr 1
  · apply List.map_congr_left
    intro i hi
    have hi := List.mem_range.1 hi
    simp [fn, List.getElem?_append_left hi]
  · apply List.map_congr_left
    intro i hi
    simp [fn, Function.comp, List.getElem?_append_right]
theorem run_append_no {P : Program} {w : World} (t ty e : TypeId) (i : TypeInfo) (ht : P.underlying t = some (.slice e)) (hi : P.info? e = some i) (c : Nat) :
    (Builtin.append_ #[t, t] ty #[.slice none 0 0, .slice none 0 c]).run P w = .ok (.slice none 0 0) w := by
  simp [Builtin.append_, run_underlying ht, sizeOf, typeInfo, hi, Builtin.lenOf, Builtin.firstCells]
/-- append(nil, x..): a row of its own. -/
theorem wpList_cl {w : World} {ops : Array Oper} {rest : List Oper} {o : Oper} {a : Act} {Q : Exit → Act → World → Prop} (hgd : o.guard = none) (s x : Operand) (ho : o.op = .call { callee := .builtin .append, args := #[s, x], argTypes := #[29, 29] })
    (hs : a.eval s = .slice none 0 0) (ao : Option Addr) (n c : Nat) (xs : List (BitVec 8)) (hx : a.eval x = .slice ao n c) (hr : Rd w ao xs) (hn : xs.length = n) (hm : n ≤ 140737488355328)
    (h : ∀ v' w', Ow w' w.heap.size v' xs → Below w.heap.size w w' → wpList Try.prog ops Q rest (a.put o.dst v') w') : wpList Try.prog ops Q (o :: rest) a w := by
  obtain ⟨i0, hi, hz0, hz1, hz2⟩ := info_parts info5
  subst hn
  cases ao with
  | none =>
    have hxs : xs = [] := by
      rcases hr with e | ⟨b, off, e, _⟩
      · exact e
      · cases e
    subst hxs
    refine wpList_plain hgd fun K hK => ?_
    have hrun := run_append_no (P := Try.prog) (w := w) 29 o.type 5 i0 Try.underlying29 hi c
    unfold Oper.wp
    simp at hx
    simp [execOp, ho, resolve, invoke, builtin, hs, hx, hrun, Result.andThen]
    exact hK _ _ (h _ w (Ow.nil _ _) (Below.refl _ _))
  | some ad =>
    have S : ∀ j u, (vs (fn xs) xs.length)[j]? = some u → w.cell? (ad.add j) = some u := by
      rcases hr with e | ⟨b, off, e, hc⟩
      · subst e; intro j u hu; simp [vs] at hu
      · cases e
        exact vs_src hc
    refine wpList_append_own _ hgd _ _ 29 ho w.heap.size 5 i0 (.int .u8 0) 1 1 Try.underlying29 hi hz0 hz1 hz2 rfl (by decide) (.slice none 0 0) 0 [] hs (World.ownsRow_nil _ _ _ _) ad xs.length c (vs (fn xs) xs.length) hx (by rw [vs_len, Nat.mul_one]) S (vs_one _ _) (by unfold maxLen; omega) (by omega) (Nat.le_refl _) ?_
    intro v' w' ho' hg _
    refine h v' w' ?_ (below_append (t := 5) (Below.refl _ _) (Nat.le_refl _) hg (World.ownsRow_nil _ _ _ _) (Nat.le_refl _))
    unfold Ow
    simpa using ho'
/-- append(v, x..) where v is a row of its own: it lies where it lay, or in new memory. -/
theorem wpList_app {w : World} {ops : Array Oper} {rest : List Oper} {o : Oper} {a : Act} {Q : Exit → Act → World → Prop} (hgd : o.guard = none) (s x : Operand) (ho : o.op = .call { callee := .builtin .append, args := #[s, x], argTypes := #[29, 29] })
    (base : Nat) (v : Value) (xs : List (BitVec 8)) (hs : a.eval s = v) (hown : Ow w base v xs) (ad : Addr) (n c : Nat) (ys : List (BitVec 8)) (hx : a.eval x = .slice (some ad) n c) (hr : Rd w (some ad) ys) (hn : ys.length = n) (hm : xs.length + n ≤ 140737488355328) (hbase : base ≤ w.heap.size)
    (h : ∀ v' w', Ow w' base v' (xs ++ ys) → w.grownBy w' v.ownBlock → (v'.ownBlock = v.ownBlock ∨ Ow w' w.heap.size v' (xs ++ ys)) → wpList Try.prog ops Q rest (a.put o.dst v') w') : wpList Try.prog ops Q (o :: rest) a w := by
  obtain ⟨i0, hi, hz0, hz1, hz2⟩ := info_parts info5
  subst hn
  have S : ∀ j u, (vs (fn ys) ys.length)[j]? = some u → w.cell? (ad.add j) = some u := by
    rcases hr with e | ⟨b, off, e, hc⟩
    · subst e; intro j u hu; simp [vs] at hu
    · cases e
      exact vs_src hc
  have hl : (vs (fn ys) ys.length).length = ys.length * 1 := by rw [vs_len, Nat.mul_one]
  have cvt : ∀ {w' : World} {b : Nat} {v' : Value}, w'.ownsRow b 5 1 v' (xs.length + ys.length) (vs (fn xs) xs.length ++ vs (fn ys) ys.length) → Ow w' b v' (xs ++ ys) := by
    intro w' b v' h1
    unfold Ow
    rw [List.length_append, vs_fn_app]; exact h1
  obtain ⟨v', w', hr1, h2, h3, h4⟩ := run_append_own (P := Try.prog) w base 29 o.type 5 i0 (.int .u8 0) 1 1 Try.underlying29 hi hz0 hz1 hz2 rfl (by decide) v xs.length (vs (fn xs) xs.length) hown ad ys.length c (vs (fn ys) ys.length) hl S (vs_one _ _) (by unfold maxLen; omega) (by omega) hbase
  have key : v'.ownBlock = v.ownBlock ∨ w'.ownsRow w.heap.size 5 1 v' (xs.length + ys.length) (vs (fn xs) xs.length ++ vs (fn ys) ys.length) := by
    rcases hown.2 with ⟨hv, h0⟩ | ⟨g, cap, cur, hv, hbg, hg, hnc, hcm, hcs, htake⟩
    · subst hv
      have hxs : xs = [] := List.length_eq_zero_iff.1 h0
      subst hxs
      obtain ⟨v2, w2, hr2, k2, k3, k4⟩ := run_append_own (P := Try.prog) w w.heap.size 29 o.type 5 i0 (.int .u8 0) 1 1 Try.underlying29 hi hz0 hz1 hz2 rfl (by decide) (.slice none 0 0) 0 [] (World.ownsRow_nil _ _ _ _) ad ys.length c (vs (fn ys) ys.length) hl S (vs_one _ _) (by unfold maxLen; simp at hm; omega) (by simp at hm; omega) (Nat.le_refl _)
      rw [hr1] at hr2
      injection hr2 with e1 e2
      subst e1 e2
      exact .inr (by simpa [vs] using k2)
    · subst hv
      by_cases hroom : xs.length + ys.length ≤ cap
      · have hfit : xs.length * i0.size + (vs (fn ys) ys.length).length ≤ cur.size := by rw [vs_len, hz1, hcs]; omega
        have hr2 := run_append_room (P := Try.prog) w 29 o.type 5 i0 Try.underlying29 hi g xs.length cap cur hg ad ys.length c (vs (fn ys) ys.length) (by rw [vs_len, hz1, Nat.mul_one]) S (vs_one _ _) hroom hfit
        rw [hr1] at hr2
        injection hr2 with e1 e2
        subst e1
        exact .inl rfl
      · obtain ⟨v2, w2, hr2, k2, k3⟩ := run_append_arg_grows (P := Try.prog) w 29 o.type 5 i0 (.int .u8 0) 1 1 Try.underlying29 hi hz0 hz1 hz2 rfl (by decide) ⟨g, 0, none⟩ xs.length cap (vs (fn xs) xs.length) (by rw [vs_len, Nat.mul_one]) (hown.cells (g := g) rfl) ad ys.length c (vs (fn ys) ys.length) hl S (by omega) (by unfold maxLen; omega) (by omega)
        rw [hr1] at hr2
        injection hr2 with e1 e2
        subst e1 e2
        exact .inr k2
  refine wpList_plain hgd fun K hK => ?_
  unfold Oper.wp execOp
  simp only [ho, resolve, invoke, builtin, Sem.run_bind, Sem.run_pure, Result.andThen_ok, List.map_toArray, List.map_cons, List.map_nil, hs, hx, hr1]
  exact hK _ _ (h v' w' (cvt h2) h3 (key.imp id cvt))
/-- Two rows that lie apart. -/
def Sep (u v : Value) : Prop := ∀ g, u.ownBlock = some g → v.ownBlock ≠ some g
theorem Sep.symm {u v : Value} (h : Sep u v) : Sep v u := fun g h1 h2 => h g h2 h1
theorem Ow.lt {w : World} {base : Nat} {v : Value} {xs : List (BitVec 8)} (h : Ow w base v xs) {g : Nat} (hg : v.ownBlock = some g) : base ≤ g ∧ g < w.heap.size := by
  rcases h.2 with ⟨hv, _⟩ | ⟨g', cap, c, hv, hb, hh, hc⟩
  · rw [hv] at hg; cases hg
  · rw [hv] at hg
    simp [Value.ownBlock] at hg
    subst hg
    refine ⟨hb, ?_⟩
    rcases Nat.lt_or_ge g' w.heap.size with h1 | h1
    · exact h1
    · rw [Array.getElem?_eq_none h1] at hh; cases hh
/-- A row that lies apart from the one that grew. -/
theorem Ow.kept {w w' : World} {base : Nat} {u v : Value} {xs : List (BitVec 8)} (h : Ow w base u xs) (hg : w.grownBy w' v.ownBlock) (hs : Sep u v) : Ow w' base u xs := by
  refine ⟨h.1, ?_⟩
  rcases h.2 with h1 | ⟨g, cap, c, hv, hb, hh, hc⟩
  · exact .inl h1
  · refine .inr ⟨g, cap, c, hv, hb, ?_, hc⟩
    have hl := h.lt (g := g) (by rw [hv]; rfl)
    rw [hg.block g hl.2 (fun e => hs g (by rw [hv]; rfl) e.symm)]
    exact hh
theorem Sep.grown {w w' : World} {base : Nat} {u v v' : Value} {xs ys : List (BitVec 8)} (h : Sep u v) (hu : Ow w base u xs) (hk : v'.ownBlock = v.ownBlock ∨ Ow w' w.heap.size v' ys) : Sep u v' := by
  intro g hg hv
  rcases hk with hk | hk
  · exact h g hg (by rw [← hk]; exact hv)
  · have h1 := hu.lt hg
    have h2 := hk.lt hv
    omega
theorem Ow.below_append {w w' : World} {base B : Nat} {v : Value} {xs : List (BitVec 8)} {w0 : World} (h : Ow w base v xs) (hb : Below B w0 w) (hB : B ≤ w.heap.size) (hg : w.grownBy w' v.ownBlock) (hbase : B ≤ base) : Below B w0 w' :=
  hb.grown hg hB (fun _ hk => Nat.le_trans hbase (h.lt hk).1)
theorem rd_new1 (w : World) (x : BitVec 8) (t : TypeId) : Rd (w.alloc (.cells #[.int .u8 (el x)] t)) (some ⟨w.heap.size, 0, none⟩) [x] := by
  refine .inr ⟨w.heap.size, 0, rfl, fun i hi => ?_⟩
  have hi' : i = 0 := by simpa using hi
  subst hi'
  rw [Nat.zero_add, cell_of_row _ _ _ _ _ (0, 0) (heap_alloc_new w _)]; rfl
theorem rd_newl (w : World) (xs : List (BitVec 8)) (t : TypeId) (fr : Nat × Nat) : Rd (w.alloc (.cells (xs.map fun x => Value.int .u8 (el x)).toArray t fr)) (some ⟨w.heap.size, 0, none⟩) xs := by
  refine .inr ⟨w.heap.size, 0, rfl, fun i hi => ?_⟩
  rw [Nat.zero_add, cell_of_row _ _ _ _ _ fr (heap_alloc_new w _), List.getElem?_toArray, List.getElem?_map, List.getElem?_eq_getElem hi]
  simp [List.getD, List.getElem?_eq_getElem hi]
theorem balloc {w w' : World} (h : Below w.heap.size w w') (o : Obj) : Below w.heap.size w (w'.alloc o) := h.alloc h.size o
section
attribute [local irreducible] Calls rg ov el
set_option maxRecDepth 1000000 in
theorem twin_any {w : World} {a1 : Option Addr} {xs : List (BitVec 8)} (h1 : Rd w a1 xs) (n c1 : Nat) (hn : xs.length = n) (hm : n ≤ 140737488355328) :
    Calls Try.prog 19 #[.slice a1 n c1] w fun e w' => ∃ v, e = .returned v ∧ Ow w' w.heap.size v xs ∧ Below w.heap.size w w' := by
  go_enter Try.func19, Try.ntmps19
  go_wp2_with (at_builtin; refine wpList_cl rfl _ _ rfl rfl a1 n c1 xs rfl h1 hn hm ?_; intro v1 w1 ho1 hb1)
  go_ret
  exact ⟨_, rfl, ho1, hb1⟩
end
theorem rd_z (W : World) : Rd (W.alloc (.cells #[.int .u8 0] 5)) (some ⟨W.heap.size, 0, none⟩) [0#8] := rd_new1 W 0#8 _
theorem rd_f (W : World) : Rd (W.alloc (.cells #[.int .u8 255] 5)) (some ⟨W.heap.size, 0, none⟩) [255#8] := rd_new1 W 255#8 _
theorem rd_k (W : World) (k : Nat) (hk : k < 256) : Rd (W.alloc (.cells #[.int .u8 (k : Int)] 5)) (some ⟨W.heap.size, 0, none⟩) [BitVec.ofNat 8 k] := by
  have h := rd_new1 W (BitVec.ofNat 8 k) 5
  have e : el (BitVec.ofNat 8 k) = (k : Int) := by unfold el; rw [BitVec.toNat_ofNat]; omega
  rwa [e] at h
def k9 : List (BitVec 8) := [49, 50, 51, 52, 53, 54, 55, 56, 57]
theorem rd_9 (W : World) : Rd (W.alloc (.cells #[.int .u8 49, .int .u8 50, .int .u8 51, .int .u8 52, .int .u8 53, .int .u8 54, .int .u8 55, .int .u8 56, .int .u8 57] 5 (9, 10))) (some ⟨W.heap.size, 0, none⟩) k9 := rd_newl W k9 _ _
def kz (k : Nat) : List (BitVec 8) := List.replicate k 0#8
def ko (k : Nat) : List (BitVec 8) := List.replicate k 255#8
def ku (k : Nat) : List (BitVec 8) := (List.range k).map (BitVec.ofNat 8)
theorem kz_succ (k : Nat) : kz (k + 1) = kz k ++ [0#8] := by unfold kz; rw [List.replicate_succ']
theorem ko_succ (k : Nat) : ko (k + 1) = ko k ++ [255#8] := by unfold ko; rw [List.replicate_succ']
theorem ku_succ (k : Nat) : ku (k + 1) = ku k ++ [BitVec.ofNat 8 k] := by unfold ku; rw [List.range_succ, List.map_append]; rfl
theorem kz_len (k : Nat) : (kz k).length = k := by simp [kz]
theorem ko_len (k : Nat) : (ko k).length = k := by simp [ko]
theorem ku_len (k : Nat) : (ku k).length = k := by simp [ku]
theorem sum_k9 : cmo 0#32 k9 = 3808858755#32 := by decide +kernel
theorem sum_kz : cmo 0#32 (kz 32) = 2324772522#32 := by decide +kernel
theorem sum_ko : cmo 0#32 (ko 32) = 1655221059#32 := by decide +kernel
theorem sum_ku : cmo 0#32 (ku 32) = 1188919630#32 := by decide +kernel
section
attribute [local irreducible] Calls rg ov el kz ko ku k9 cmo Ow
set_option maxHeartbeats 2000000 in
set_option maxRecDepth 1000000 in
theorem known_any (w : World) :
    Calls Try.prog 17 #[] w fun e w' => e = .returned (.bool true) ∧ Below w.heap.size w w' := by
  go_enter Try.func17, Try.ntmps17
  go_wp2
  go_loopw [1, 2, 3, 4] (fun a b c i wr => ∃ k : Nat, k ≤ 32 ∧ i = .int .i64 k ∧ Ow wr w.heap.size a (kz k) ∧ Ow wr w.heap.size b (ko k) ∧ Ow wr w.heap.size c (ku k) ∧ Sep a b ∧ Sep a c ∧ Sep b c ∧ Below w.heap.size w wr) (fun _ _ _ i _ => 32 - (intOf i).toNat)
  case atStart => 
    have ns : Sep (.slice none 0 0) (.slice none 0 0) := fun g h => by cases h
    exact ⟨0, Nat.zero_le _, rfl, by unfold kz; exact Ow.nil _ _, by unfold ko; exact Ow.nil _ _, by unfold ku; exact Ow.nil _ _, ns, ns, ns, Below.refl _ _⟩
  case round =>
    obtain ⟨k, hk, rfl, hA, hB, hC, ab, ac, bc, hb⟩ := hrel
    by_cases hlt : k < 32
    · have hi : (k : Int) < 32 := by omega
      have e0 : ∀ W : World, Rd (W.alloc (.cells #[.int .u8 0] 5)) (some ⟨W.heap.size, 0, none⟩) [0#8] := fun W => rd_z W
      have e255 : ∀ W : World, Rd (W.alloc (.cells #[.int .u8 255] 5)) (some ⟨W.heap.size, 0, none⟩) [255#8] := fun W => rd_f W
      have eu : ∀ W : World, Rd (W.alloc (.cells #[.int .u8 (k : Int)] 5)) (some ⟨W.heap.size, 0, none⟩) [BitVec.ofNat 8 k] := fun W => rd_k W k (by omega)
      have al : ∀ (W : World) (o : Obj), Below W.heap.size W (W.alloc o) := fun W o => (Below.refl _ _).alloc (Nat.le_refl _) o
      go_wp2_with (first | (at_builtin; refine wpList_app rfl (.tmp 9) (.tmp 10) rfl w.heap.size u1 (kz k) rfl (hA.below (al _ _)) ⟨wr.heap.size, 0, none⟩ 1 1 [0#8] rfl (e0 wr) rfl (by rw [kz_len]; omega) ((balloc hb _).size) ?_; intro v1 w1 ho1 hg1 hk1; have hB1 := (hB.below (al _ _)).kept hg1 ab.symm; have hC1 := (hC.below (al _ _)).kept hg1 ac.symm; have ab1 := (ab.symm.grown (hB.below (al _ _)) hk1).symm; have ac1 := (ac.symm.grown (hC.below (al _ _)) hk1).symm; have hb1 := (hA.below (al _ _)).below_append (balloc hb _) (balloc hb _).size hg1 (Nat.le_refl _); rw [← kz_succ] at ho1) | (at_builtin; refine wpList_app rfl (.tmp 12) (.tmp 13) rfl w.heap.size u2 (ko k) rfl (hB1.below (al _ _)) ⟨w1.heap.size, 0, none⟩ 1 1 [255#8] rfl (e255 w1) rfl (by rw [ko_len]; omega) ((balloc hb1 _).size) ?_; intro v2 w2 ho2 hg2 hk2; have hA2 := (ho1.below (al _ _)).kept hg2 ab1; have hC2 := (hC1.below (al _ _)).kept hg2 bc.symm; have ab2 := ab1.grown (ho1.below (al _ _)) hk2; have bc2 := (bc.symm.grown (hC1.below (al _ _)) hk2).symm; have hb2 := (hB1.below (al _ _)).below_append (balloc hb1 _) (balloc hb1 _).size hg2 (Nat.le_refl _); rw [← ko_succ] at ho2) | (at_builtin; refine wpList_app rfl (.tmp 15) (.tmp 18) rfl w.heap.size u3 (ku k) rfl (hC2.below (al _ _)) ⟨w2.heap.size, 0, none⟩ 1 1 [BitVec.ofNat 8 k] rfl (eu w2) rfl (by rw [ku_len]; omega) ((balloc hb2 _).size) ?_; intro v3 w3 ho3 hg3 hk3; have hA3 := (hA2.below (al _ _)).kept hg3 ac1; have hB3 := (ho2.below (al _ _)).kept hg3 bc2; have ac3 := ac1.grown (hA2.below (al _ _)) hk3; have bc3 := bc2.grown (ho2.below (al _ _)) hk3; have hb3 := (hC2.below (al _ _)).below_append (balloc hb2 _) (balloc hb2 _).size hg3 (Nat.le_refl _); rw [← ku_succ] at ho3))
      go_roundw
      case rel => exact ⟨k + 1, by omega, by go_num, hA3, hB3, ho3, ab2, ac3, bc3, hb3⟩
      case measure => simp [intOf]; omega
    · obtain rfl : k = 32 := by omega
      obtain ⟨pa, ca, rfl, _, ra⟩ := hA.rd
      obtain ⟨pb, cb, rfl, _, rb⟩ := hB.rd
      obtain ⟨pc, cc, rfl, _, rc⟩ := hC.rd
      rw [kz_len, ko_len, ku_len]
      have r9 := rd_9 wr
      have b9 := balloc hb
      have al : ∀ (W : World) (o : Obj), Below W.heap.size W (W.alloc o) := fun W o => (Below.refl _ _).alloc (Nat.le_refl _) o
      have q9 : rg 3808858755#32 = 3808858755 := by unfold rg; rfl
      have qz : rg 2324772522#32 = 2324772522 := by unfold rg; rfl
      have qo : rg 1655221059#32 = 1655221059 := by unfold rg; rfl
      have qu : rg 1188919630#32 = 1188919630 := by unfold rg; rfl
      clear hA hB hC ab ac bc
      have kc := fun (w : World) (C : Array Value) (n c : Nat) => Lib.run_convert_bytes_const (P := Try.prog) w 29 5 C n c Try.underlying29 Try.underlying5
      go_wp2_with (go_at_call 13; first | (refine (csum_any r9 9 9 (by unfold k9; rfl) (by omega)).mono ?_; rw [sum_k9, q9]; rintro e w1 ⟨rfl, hb1⟩) | (refine (csum_any ((ra.below (al _ _)).below hb1) 32 _ (kz_len 32) (by omega)).mono ?_; rw [sum_kz, qz]; rintro e w2 ⟨rfl, hb2⟩) | (refine (csum_any (((rb.below (al _ _)).below hb1).below hb2) 32 _ (ko_len 32) (by omega)).mono ?_; rw [sum_ko, qo]; rintro e w3 ⟨rfl, hb3⟩) | (refine (csum_any ((((rc.below (al _ _)).below hb1).below hb2).below hb3) 32 _ (ku_len 32) (by omega)).mono ?_; rw [sum_ku, qu]; rintro e w4 ⟨rfl, hb4⟩))
      go_ret
      refine ⟨rfl, ?_⟩
      have c1 := (b9 _).trans (hb1.mono (b9 _).size)
      have c2 := c1.trans (hb2.mono c1.size)
      have c3 := c2.trans (hb3.mono c2.size)
      exact c3.trans (hb4.mono c3.size)
end
end Go.Proofs.Ytmpccpcnbenpfaa
