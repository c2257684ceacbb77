/-
  Votes: the map of the groups, how it is filled.
-/
import Derived.Test.YtefomnlgpldgnaaVe17
namespace Go.Proofs.Ytefomnlgpldgnaa
open Go.RowKit Go.Maps
theorem On.kept {w w' : World} {base : Nat} {v : Value} {L : List Nat} {r : Option Nat} (h : On w base v L) (hg : w.grownBy w' r) (hne : v.ownBlock = none ∨ v.ownBlock ≠ r) : On w' base v L := World.ownsRow.kept h hg hne
theorem On.blk {w : World} {base : Nat} {v : Value} {L : List Nat} (h : On w base v L) {g : Nat} (hg : v.ownBlock = some g) : base ≤ g ∧ g < w.heap.size := h.lt g hg
theorem slv_blk (b : Sl3) : (slv b).ownBlock = some b.1 := rfl
theorem On.slv {w : World} {base : Nat} {v : Value} {L : List Nat} (h : On w base v L) (h0 : L ≠ []) : ∃ b : Sl3, v = slv b ∧ b.2.1 = L.length ∧ L.length ≤ b.2.2 := by
  rcases h.2 with ⟨_, e⟩ | ⟨g, cap, cur, hv, _, _, hn, _⟩
  · exact absurd (List.length_eq_zero_iff.1 e) h0
  · exact ⟨(g, L.length, cap), hv, rfl, hn⟩
theorem zeroP (w : World) : (zeroValue 25).run Try.prog w = .ok (.slice none 0 0) w := by kernel_rfl
/-- Some place shows it. -/
def Shn (s : Shs) (t : Nat) (k : Wg) : Prop := ∃ i, i < t ∧ sh s k i = true
theorem Shn.succ {s : Shs} {t : Nat} {k : Wg} : Shn s (t + 1) k ↔ Shn s t k ∨ sh s k t = true := by
  constructor
  · rintro ⟨i, hi, h⟩
    by_cases e : i = t
    · subst e; exact .inr h
    · exact .inl ⟨i, by omega, h⟩
  · rintro (⟨i, hi, h⟩ | h)
    · exact ⟨i, by omega, h⟩
    · exact ⟨t, by omega, h⟩
theorem plc_none {s : Shs} {t : Nat} {k : Wg} (h : ¬ Shn s t k) : plc s t k = [] := by
  unfold plc
  rw [List.filter_eq_nil_iff]
  intro i hi hs
  exact h ⟨i, List.mem_range.1 hi, hs⟩
structure Gm (w : World) (mb : Nat) (s : Shs) (t : Nat) (D : DataW Value) (V : Wg → Sl3) : Prop where
  map : w.ownsMap Try.prog 64 Rg mb t D
  has : ∀ k, InW k → (Maps.has D (kL k) = true ↔ Shn s t k)
  val : ∀ k, Shn s t k → InW k ∧ (∀ z, D.atKey (kL k) z = .held (slv (V k))) ∧ On w (mb + 1) (slv (V k)) (plc s t k)
  apart : ∀ k k', Shn s t k → Shn s t k' → k ≠ k' → (V k).1 ≠ (V k').1
theorem Gm.start (w : World) (s : Shs) : Gm (w.alloc (.map #[] 0)) w.heap.size s 0 (.map []) (fun _ => (0, 0, 0)) where
  map := World.ownsMap_made _ _ _ _
  has := fun k _ => by
    constructor
    · intro h; cases h
    · rintro ⟨i, hi, _⟩; omega
  val := fun k h => by obtain ⟨i, hi, _⟩ := h; omega
  apart := fun k k' h => by obtain ⟨i, hi, _⟩ := h; omega
theorem om_belowV {P : Program} {k : TypeId} {H : Type} {R : Value → Option (DataW H × List MemPlace)} {w w' : World} {b n : Nat} {D : DataW H} (h : w.ownsMap P k R b n D) (hb : Below w.heap.size w w') : w'.ownsMap P k R b n D := by
  obtain ⟨es, clock, hh, F, h1, h2⟩ := h
  refine ⟨es, clock, ?_, F, h1, h2⟩
  rw [hb.block b (Array.getElem?_eq_some_iff.1 hh).1]
  exact hh
theorem Gm.below {w w' : World} {mb t : Nat} {s : Shs} {D : DataW Value} {V : Wg → Sl3} (h : Gm w mb s t D V) (hb : Below w.heap.size w w') : Gm w' mb s t D V :=
  ⟨om_belowV h.map hb, h.has, fun k hk => ⟨(h.val k hk).1, (h.val k hk).2.1, (h.val k hk).2.2.below hb⟩, h.apart⟩
theorem Gm.skip {w : World} {mb t : Nat} {s : Shs} {D : DataW Value} {V : Wg → Sl3} (h : Gm w mb s t D V) (hs : (s t).1 ≠ 2) : Gm w mb s (t + 1) D V := by
  have e : ∀ k, sh s k t = false := fun k => by unfold sh; simp [hs]
  have e2 : ∀ k, Shn s (t + 1) k ↔ Shn s t k := fun k => by rw [Shn.succ, e]; simp
  refine ⟨h.map.mono (Nat.le_succ _), fun k hk => (h.has k hk).trans (e2 k).symm, fun k hk => ?_, fun k k' h1 h2 => h.apart k k' ((e2 k).1 h1) ((e2 k').1 h2)⟩
  have := h.val k ((e2 k).1 hk)
  rw [plc_succ, e]
  simpa using this
/-- The way back from an entry that was looked up. -/
def Bk (w : World) (mb t : Nat) (D : DataW Value) (k : Wg) (st : Nat) : Prop :=
  ∃ es clock, w.heap[mb]? = some (.map es clock) ∧ ∀ (w2 : World) (b : Sl3), w2.heap[mb]? = some (.map es clock) →
    ∃ w3, (Instr.entryStore 62 (.map (some mb)) (.int .i64 (st : Int)) (slv b)).run Try.prog w2 = .ok () w3 ∧ w3.ownsMap Try.prog 64 Rg mb (t + 1) (D.put (kL k) (.held (slv b))) ∧ w2.grownBy w3 (some mb)
theorem heap_set {w : World} {b : Nat} {o0 : Obj} (h : w.heap[b]? = some o0) (o : Obj) : (ChangeMaps.setBlock w b o).heap[b]? = some o := by
  have := (Array.getElem?_eq_some_iff.1 h).1
  simp [ChangeMaps.setBlock, this]
theorem set_grownV (w : World) (b : Nat) (o : Obj) : w.grownBy (ChangeMaps.setBlock w b o) (some b) :=
  ⟨rfl, rfl, rfl, by simp [ChangeMaps.setBlock], fun i _ hi => by
    have : b ≠ i := fun e => hi (by rw [e])
    simp [ChangeMaps.setBlock, this]⟩
theorem gm_entry {w : World} {mb t : Nat} {s : Shs} {D : DataW Value} {V : Wg → Sl3} (h : Gm w mb s t D V) {k : Wg} (hk : InW k) (ht : t < maxLen) :
    ∃ (v0 : Value) (st : Nat) (w' : World), (Instr.mapEntry 62 (.map (some mb)) (.agg (wgC k))).run Try.prog w = .ok (.tuple #[v0, .int .i64 (st : Int)]) w' ∧ w.grownBy w' (some mb) ∧ w'.heap.size = w.heap.size ∧ On w' (mb + 1) v0 (plc s t k) ∧ (v0.ownBlock = none ∨ (Shn s t k ∧ v0.ownBlock = some (V k).1)) ∧ Bk w' mb t D k st := by
  obtain ⟨es, clock, hb, F, hs, hD⟩ := h.map
  obtain ⟨v0, st, es1, clock1, hr, hv0, hback⟩ := WideElems.entry_then_store (P := Try.prog) (t := 62) (e := 25) (R := Rg) lawW0 Try.underlying62 zeroP hb F (key_wg hk)
  refine ⟨v0, st, _, hr, set_grownV w mb _, by simp [ChangeMaps.setBlock], ?_⟩
  have hbk : Bk (ChangeMaps.setBlock w mb (.map es1 clock1)) mb t D k st := by
    refine ⟨es1, clock1, heap_set hb _, fun w2 b hw2 => ?_⟩
    obtain ⟨es', clock', h1, h2⟩ := hback w2 (slv b) hw2
    obtain ⟨w', h3, h4, _⟩ := h.map.update (t := 62) (e := 25) lawW Try.underlying62 ht (key_wg hk) (Rg_slv b)
    rw [h2] at h3
    injection h3 with _ h3
    subst h3
    refine ⟨_, h1, ?_, set_grownV w2 mb _⟩
    obtain ⟨es2, clock2, hb2, F2, hs2, hD2⟩ := h4
    rw [heap_set hb] at hb2
    injection hb2 with hb2
    injection hb2 with hb2 hb3
    subst hb2 hb3
    exact ⟨_, _, heap_set hw2 _, F2, hs2, hD2⟩
  have hlook := Maps.fit_look (P := Try.prog) (t := 62) (e := 25) false lawW Try.underlying62 (zeroP w) hb F (key_wg hk)
  have hblt : mb < w.heap.size := (Array.getElem?_eq_some_iff.1 hb).1
  have hgr := set_grownV w mb (.map es1 clock1)
  rcases hlook with ⟨_, hnone, hat⟩ | ⟨e1, y, he1, hk1, _, hy, hat, _⟩
  · have hz : v0 = .slice none 0 0 := by
      rcases hv0 with ⟨e0, he0, hk0, _⟩ | ⟨_, hz⟩
      · exact absurd hk0 (hnone e0 he0)
      · exact hz
    have hns : ¬ Shn s t k := fun hsh => by
      have := (h.has k hk).2 hsh
      rw [hD, has_false_of_atKey hat] at this
      cases this
    rw [plc_none hns, hz]
    exact ⟨On.nil _ _, .inl rfl, hbk⟩
  · have he : v0 = e1.val := by
      rcases hv0 with ⟨e0, he0, hk0, hv⟩ | ⟨hn, _⟩
      · rw [hv, entry_eq_of_key (List.pairwise_map.1 F.stamped.2.2) he0 he1 (hk0.trans hk1.symm)]
      · exact absurd hk1 (hn e1 he1)
    have hsh : Shn s t k := by
      rw [← h.has k hk, hD]
      exact has_true_of_atKey hat
    obtain ⟨_, hv1, hv2⟩ := h.val k hsh
    have h2 := hv1 .nil
    rw [hD, hat] at h2
    obtain ⟨b, hb1, hb2⟩ := Rg_inv hy
    rw [hb2] at h2
    injection h2 with h2
    rw [he, h2]
    exact ⟨hv2.kept hgr (.inr (by rw [slv_blk]; intro e; injection e with e; have := (hv2.blk (slv_blk _)).1; omega)), .inr ⟨hsh, slv_blk _⟩, hbk⟩
/-- One place more, behind the append and the store. -/
theorem Gm.step {w w5 w6 w7 : World} {mb t : Nat} {s : Shs} {D : DataW Value} {V : Wg → Sl3} (h : Gm w mb s t D V) {k : Wg} (hk : InW k) (hs : sh s k t = true) (hg5 : w.grownBy w5 (some mb)) (hz5 : w5.heap.size = w.heap.size) {v0 v' : Value} (hv0 : v0.ownBlock = none ∨ (Shn s t k ∧ v0.ownBlock = some (V k).1))
    {b : Sl3} (hb : v' = slv b) (hO6 : On w6 (mb + 1) v' (plc s t k ++ [t])) (hg6 : w5.grownBy w6 v0.ownBlock) (hloc : v'.ownBlock = v0.ownBlock ∨ v'.ownBlock = some w5.heap.size) (hM : w7.ownsMap Try.prog 64 Rg mb (t + 1) (D.put (kL k) (.held (slv b)))) (hg7 : w6.grownBy w7 (some mb)) :
    ∃ D' V', Gm w7 mb s (t + 1) D' V' := by
  have e2 : ∀ k', k' ≠ k → (Shn s (t + 1) k' ↔ Shn s t k') := fun k' hne => by
    rw [Shn.succ]
    constructor
    · rintro (h | h)
      · exact h
      · rw [sh_iff] at h hs
        exact absurd (h.2.symm.trans hs.2) hne
    · exact .inl
  have e3 : ∀ k', k' ≠ k → plc s (t + 1) k' = plc s t k' := fun k' hne => by
    have : sh s k' t = false := by
      cases hh : sh s k' t with
      | false => rfl
      | true => rw [sh_iff] at hh hs; exact absurd (hh.2.symm.trans hs.2) hne
    rw [plc_succ, this]; simp
  have ek : plc s (t + 1) k = plc s t k ++ [t] := by rw [plc_succ, hs]; rfl
  have hkS : Shn s (t + 1) k := Shn.succ.2 (.inr hs)
  have nekl : ∀ k', InW k' → k' ≠ k → kL k' ≠ kL k := fun k' hk' hne e => hne (kL_inj hk' hk e)
  have bk : b.1 ≠ mb := fun e => by
    have := (hO6.blk (by rw [hb]; exact slv_blk b)).1
    omega
  -- the new slice lies apart from the others'
  have far : ∀ k', k' ≠ k → Shn s t k' → (V k').1 ≠ b.1 := fun k' hne hsh e => by
    have hlt := ((h.val k' hsh).2.2.blk (slv_blk _)).2
    rw [hb, slv_blk] at hloc
    rcases hloc with h1 | h1
    · rcases hv0 with h2 | ⟨h2, h3⟩
      · rw [h2] at h1; cases h1
      · rw [h3] at h1
        injection h1 with h1
        exact h.apart k' k hsh h2 hne (e.trans h1)
    · injection h1 with h1
      omega
  refine ⟨D.put (kL k) (.held (slv b)), fun x => if x = k then b else V x, hM, fun k' hk' => ?_, fun k' hsh => ?_, fun k1 k2 h1 h2 hne => ?_⟩
  · by_cases e : k' = k
    · subst e
      rw [has_put_same h.map.isMap (lawW.key (key_wg hk))]
      exact ⟨fun _ => hkS, fun _ => rfl⟩
    · rw [has_put_other (nekl k' hk' e), e2 k' e]
      exact h.has k' hk'
  · by_cases e : k' = k
    · subst e
      refine ⟨hk, fun z => ?_, ?_⟩
      · rw [atKey_put_same h.map.isMap (lawW.key (key_wg hk)), if_pos rfl]
      · rw [if_pos rfl, ek, ← hb]
        exact hO6.kept hg7 (.inr (by rw [hb, slv_blk]; intro e; injection e with e; exact bk e))
    · have hsh' := (e2 k' e).1 hsh
      obtain ⟨h1, h2, h3⟩ := h.val k' hsh'
      refine ⟨h1, fun z => ?_, ?_⟩
      · rw [atKey_put_other (nekl k' h1 e), if_neg e]; exact h2 z
      · rw [if_neg e, e3 k' e]
        have hmb : (slv (V k')).ownBlock ≠ some mb := by rw [slv_blk]; intro e; injection e with e; have := (h3.blk (slv_blk _)).1; omega
        have h5 := h3.kept hg5 (.inr hmb)
        have h6 := h5.kept hg6 (.inr (by
          rcases hv0 with h7 | ⟨h7, h8⟩
          · rw [h7, slv_blk]; intro e; cases e
          · rw [h8, slv_blk]; intro e'; injection e' with e'; exact h.apart k' k hsh' h7 e e'))
        exact h6.kept hg7 (.inr hmb)
  · by_cases q1 : k1 = k
    · subst q1
      have q2 : k2 ≠ k1 := fun e => hne e.symm
      simp only [if_neg q2]
      exact fun e => far k2 q2 ((e2 k2 q2).1 h2) e.symm
    · by_cases q2 : k2 = k
      · subst q2
        simp only [if_neg q1]
        exact far k1 q1 ((e2 k1 q1).1 h1)
      · simp only [if_neg q1, if_neg q2]
        exact h.apart k1 k2 ((e2 k1 q1).1 h1) ((e2 k2 q2).1 h2) hne
section
variable {w : World} {ops : Array Oper} {rest : List Oper} {o : Oper} {a : Act} {Q : Exit → Act → World → Prop}
theorem wpList_entryG (hgd : o.guard = none) (m x : Operand) (ho : o.op = .mapEntry 62 m x) {mb t : Nat} {s : Shs} {D : DataW Value} {V : Wg → Sl3} {k : Wg} (hm : a.eval m = .map (some mb)) (hx : a.eval x = .agg (wgC k)) (h : Gm w mb s t D V) (hk : InW k) (ht : t < maxLen)
    (K : ∀ (v0 : Value) (st : Nat) (w' : World), w.grownBy w' (some mb) → Hid (w'.heap.size = w.heap.size) → On w' (mb + 1) v0 (plc s t k) → (v0.ownBlock = none ∨ (Shn s t k ∧ v0.ownBlock = some (V k).1)) → Bk w' mb t D k st → wpList Try.prog ops Q rest (a.put o.dst (.tuple #[v0, .int .i64 (st : Int)])) w') : wpList Try.prog ops Q (o :: rest) a w := by
  refine wpList_plain hgd fun K' hK' => ?_
  obtain ⟨v0, st, w', hr, h1, h2, h3, h4, h5⟩ := gm_entry h hk ht
  unfold Oper.wp
  simp [execOp, ho, hm, hx, hr, Result.andThen]
  exact hK' _ _ (K v0 st w' h1 h2 h3 h4 h5)
theorem wpList_storeG (hgd : o.guard = none) (m x y : Operand) (ho : o.op = .entryStore 62 m x y) {mb t st : Nat} {D : DataW Value} {k : Wg} {b : Sl3} {w5 : World} (hm : a.eval m = .map (some mb)) (hx : a.eval x = .int .i64 (st : Int)) (hy : a.eval y = slv b) (h : Bk w5 mb t D k st) {r : Option Nat} (hg : w5.grownBy w r) (hne : r ≠ some mb)
    (K : ∀ w', w'.ownsMap Try.prog 64 Rg mb (t + 1) (D.put (kL k) (.held (slv b))) → w.grownBy w' (some mb) → wpList Try.prog ops Q rest (a.put o.dst undef) w') : wpList Try.prog ops Q (o :: rest) a w := by
  refine wpList_plain hgd fun K' hK' => ?_
  obtain ⟨es, clock, hb, hback⟩ := h
  obtain ⟨w', hr, h1, h2⟩ := hback w b (by rw [hg.block mb (Array.getElem?_eq_some_iff.1 hb).1 (fun e => hne e.symm)]; exact hb)
  unfold Oper.wp
  simp [execOp, ho, hm, hx, hy, hr, Result.andThen]
  exact hK' _ _ (K w' h1 h2)
/-- append(v, i) of one number; where the list then lies. -/
theorem wpList_apL (hgd : o.guard = none) (q x : Operand) (ho : o.op = .call { callee := .builtin .append, args := #[q, x], argTypes := #[25, 25] })
    (base : Nat) (v : Value) (L : List Nat) (i : Nat) (hs : a.eval q = v) (hown : On w base v L) (ad : Addr) (c : Nat) (hx : a.eval x = .slice (some ad) 1 c) (hr : w.cell? ad = some (.int .i64 (i : Int))) (hm : L.length + 1 ≤ 17592186044416) (hbase : base ≤ w.heap.size)
    (h : ∀ b w', On w' base (slv b) (L ++ [i]) → w.grownBy w' v.ownBlock → ((slv b).ownBlock = v.ownBlock ∨ (slv b).ownBlock = some w.heap.size) → wpList Try.prog ops Q rest (a.put o.dst (slv b)) w') : wpList Try.prog ops Q (o :: rest) a w := by
  obtain ⟨i0, hi, hz0, hz1, hz2⟩ := info_parts infoI
  have S : ∀ j t, ([.int .i64 (i : Int)] : List Value)[j]? = some t → w.cell? (ad.add j) = some t := by
    intro j t ht
    match j with
    | 0 =>
      simp at ht
      rw [show ad.add 0 = ad by unfold Addr.add; split <;> simp_all, hr, ht]
    | j + 1 => simp at ht
  refine wpList_append_own_at _ hgd _ _ 25 ho base 3 i0 (.int .i64 0) 1 8 Try.underlying25 hi hz0 hz1 hz2 rfl (by decide) v L.length _ hs hown ad 1 c [.int .i64 (i : Int)] hx rfl S (by intro t ht; simp at ht; subst ht; rfl) (by unfold maxLen; omega) (by omega) hbase ?_
  intro v' w' ho' hg _ hloc
  have hO : On w' base v' (L ++ [i]) := by unfold On; simpa using ho'
  obtain ⟨b, rfl, _⟩ := hO.slv (by simp)
  exact h b w' hO hg hloc
end
end Go.Proofs.Ytefomnlgpldgnaa
