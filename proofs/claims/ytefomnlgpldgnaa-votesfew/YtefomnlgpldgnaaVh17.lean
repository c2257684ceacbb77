/-
  Votes: 'Groups'.
-/
import Derived.Test.YtefomnlgpldgnaaVf17
import Derived.Test.YtefomnlgpldgnaaVg17
import Derived.Laws.MakeOwn
import Derived.Sort.OwnSorted
namespace Go.Proofs.Ytefomnlgpldgnaa
open Go.RowKit Go.Maps Go.Sort Go.Shelf Go.Lib
/-- An own list of groups. -/
def Og (w : World) (base : Nat) (v : Value) (es : List (Wg × Sl3)) : Prop := w.ownsRow base 49 4 v es.length (es.flatMap grE)
theorem infoG : (Try.prog.info? 49).map (fun i => (i.zero, i.size, i.bytes)) = some (some (.agg #[.int .i64 0, .int .i64 0, .int .i64 0, .slice none 0 0]), 4, 48) := by kernel_rfl
theorem Og.below {w w' : World} {base : Nat} {v : Value} {es : List (Wg × Sl3)} (h : Og w base v es) (hb : Below w.heap.size w w') : Og w' base v es := own_belowV h hb
theorem Og.kept {w w' : World} {base : Nat} {v : Value} {es : List (Wg × Sl3)} {r : Option Nat} (h : Og w base v es) (hg : w.grownBy w' r) (hne : v.ownBlock = none ∨ v.ownBlock ≠ r) : Og w' base v es := World.ownsRow.kept h hg hne
theorem wpList_apG {w : World} {ops : Array Oper} {rest : List Oper} {o : Oper} {a : Act} {Q : Exit → Act → World → Prop} (hgd : o.guard = none) (s x : Operand) (ho : o.op = .call { callee := .builtin .append, args := #[s, x], argTypes := #[44, 44] })
    (base : Nat) (v : Value) (es : List (Wg × Sl3)) (e : Wg × Sl3) (hs : a.eval s = v) (hown : Og w base v es) (g c : Nat) (hx : a.eval x = .slice (some ⟨g, 0, none⟩) 1 c) (hr : GB w g 49 (grE e).toArray) (hm : es.length + 1 ≤ 2932031007402) (hbase : base ≤ w.heap.size)
    (h : ∀ v' w', Og w' base v' (es ++ [e]) → w.grownBy w' v.ownBlock → v' ≠ .slice none 0 0 → wpList Try.prog ops Q rest (a.put o.dst v') w') : wpList Try.prog ops Q (o :: rest) a w := by
  obtain ⟨i0, hi, hz0, hz1, hz2⟩ := info_parts infoG
  have S : ∀ j t, (grE e)[j]? = some t → w.cell? (Addr.add ⟨g, 0, none⟩ j) = some t := by
    intro j t ht
    rw [add_pl, Nat.zero_add, hr.cell]
    simpa using ht
  refine wpList_append_own _ hgd _ _ 44 ho base 49 i0 (.agg #[.int .i64 0, .int .i64 0, .int .i64 0, .slice none 0 0]) 4 48 Try.underlying44 hi hz0 hz1 hz2 rfl (by decide) v es.length _ hs hown ⟨g, 0, none⟩ 1 c (grE e) hx rfl S (by intro t ht; simp [grE] at ht; rcases ht with rfl | rfl | rfl | rfl <;> rfl) (by unfold maxLen; omega) (by omega) hbase ?_
  intro v' w' ho' hg hnil
  refine h v' w' ?_ hg (fun e => by have := (hnil.1 e).2; omega)
  unfold Og
  simpa using ho'
theorem cell_grown {w w' : World} {r : Option Nat} {p : Addr} {v : Value} (h : w.cell? p = some v) (hg : w.grownBy w' r) (hne : r ≠ some p.block) : w'.cell? p = some v := by
  have hl := block_lt_of_cell h
  have hb := hg.block p.block hl (fun e => hne e.symm)
  unfold World.cell? at h ⊢
  rw [hb]; exact h
/-- What was gathered of a map, and what is still to come. -/
structure Col (D : DataW Value) (left : Lit → Bool) (V : Wg → Sl3) (es : List (Wg × Sl3)) : Prop where
  all : ∀ k, InW k → Maps.has D (kL k) = true → left (kL k) = true ∨ ∃ p ∈ es, p.1 = k
  mem : ∀ p ∈ es, InW p.1 ∧ Maps.has D (kL p.1) = true ∧ p.2 = V p.1 ∧ left (kL p.1) = false
  one : (es.map (·.1)).Nodup
theorem Col.start (D : DataW Value) (V : Wg → Sl3) : Col D (Maps.has D) V [] := ⟨fun _ _ h => .inl h, fun _ h => absurd h List.not_mem_nil, List.nodup_nil⟩
theorem same_kL (k : Wg) : (kL k).sameKey (kL k) = true := by simp [kL, Lit.sameKey]
theorem Col.step {D : DataW Value} {left : Lit → Bool} {V : Wg → Sl3} {es : List (Wg × Sl3)} (h : Col D left V es) {k : Wg} (hk : InW k) (hl : left (kL k) = true) (hh : Maps.has D (kL k) = true) : Col D (fun z => left z && !z.sameKey (kL k)) V (es ++ [(k, V k)]) := by
  have nk : ∀ p ∈ es, p.1 ≠ k := fun p hp e => by
    have := (h.mem p hp).2.2.2
    rw [e, hl] at this; cases this
  refine ⟨fun k' hk' hh' => ?_, fun p hp => ?_, ?_⟩
  · by_cases e : k' = k
    · subst e; exact .inr ⟨(k', V k'), by simp, rfl⟩
    · rcases h.all k' hk' hh' with h1 | ⟨p, hp, hpk⟩
      · left
        rw [h1, sameKey_ne (fun e' => e (kL_inj hk' hk e'))]; rfl
      · exact .inr ⟨p, List.mem_append_left _ hp, hpk⟩
  · rcases List.mem_append.1 hp with hp | hp
    · obtain ⟨h1, h2, h3, h4⟩ := h.mem p hp
      exact ⟨h1, h2, h3, by rw [h4]; rfl⟩
    · rw [List.mem_singleton] at hp
      subst hp
      refine ⟨hk, hh, rfl, ?_⟩
      show (left (kL k) && !(kL k).sameKey (kL k)) = false
      rw [same_kL]; simp
  · rw [List.map_append, List.nodup_append]
    refine ⟨h.one, by simp, fun a ha b hb e => ?_⟩
    obtain ⟨p, hp, rfl⟩ := List.mem_map.1 ha
    simp at hb
    exact nk p hp (e.trans hb)
theorem wgC_inj {k k' : Wg} (h : wgC k = wgC k') : k = k' := by
  simp [wgC] at h
  exact Prod.ext h.1 (Prod.ext h.2.1 h.2.2)
theorem key_of {k : Wg} {kl : Lit} (h : keyOf Try.prog 64 (.agg (wgC k)) = some kl) : InW k ∧ kl = kL k := by
  obtain ⟨k', hk', e⟩ := key_inv h
  injection e with e
  obtain rfl := wgC_inj e
  rw [key_wg hk'] at h
  exact ⟨hk', (Option.some.inj h).symm⟩
theorem slv_inj {b c : Sl3} (h : slv b = slv c) : b = c := by
  unfold slv at h
  injection h with h1 h2 h3
  injection h1 with h1
  injection h1 with h1 _
  exact Prod.ext h1 (Prod.ext h2 h3)
theorem Rg_shape {v : Value} {y : DataW Value × List MemPlace} (h : Rg v = some y) : ∃ b : Sl3, v = .slice (some ⟨b.1, 0, none⟩) b.2.1 b.2.2 := by
  obtain ⟨b, e, _⟩ := Rg_inv h
  exact ⟨b, e⟩
theorem Rg_val {b : Sl3} {y : DataW Value × List MemPlace} (h : Rg (.slice (some ⟨b.1, 0, none⟩) b.2.1 b.2.2) = some y) : y.1 = .held (slv b) := by
  obtain ⟨_, _, e⟩ := Rg_inv h
  rw [e]; rfl
theorem flat_get : ∀ (es : List (Wg × Sl3)) (j : Nat), j < es.length * 4 → (es.flatMap grE)[j]? = some ((grE (es[j / 4]!))[j % 4]!)
  | [], j, h => by simp at h
  | e :: r, j, h => by
    rw [List.flatMap_cons]
    by_cases hj : j < 4
    · rw [List.getElem?_append_left (by simpa [grE] using hj)]
      match j, hj with
      | 0, _ => rfl
      | 1, _ => rfl
      | 2, _ => rfl
      | 3, _ => rfl
    · rw [List.getElem?_append_right (by simpa [grE] using (by omega : 4 ≤ j))]
      have h4 : (grE e).length = 4 := rfl
      rw [h4, flat_get r (j - 4) (by simp at h; omega)]
      have e1 : j / 4 = (j - 4) / 4 + 1 := by omega
      have e2 : j % 4 = (j - 4) % 4 := by omega
      rw [e1, e2]
      rfl
theorem Og.open {w : World} {base : Nat} {v : Value} {es : List (Wg × Sl3)} (h : Og w base v es) (hn : v ≠ .slice none 0 0) : ∃ g cap, v = .slice (some ⟨g, 0, none⟩) es.length cap ∧ base ≤ g ∧ g < w.heap.size ∧ es.length ≤ cap ∧ HoldsK grE 4 w g 0 es.toArray := by
  have h' := h
  unfold Og at h'
  rcases h'.2 with ⟨e, _⟩ | ⟨g, cap, cur, hv, hg, hh, hc, _, _, _⟩
  · exact absurd e hn
  · refine ⟨g, cap, hv, hg, (Array.getElem?_eq_some_iff.1 hh).1, hc, ?_⟩
    intro j hj
    rw [size_flatK] at hj
    rw [get_flatK grE 4 _ j hj]
    refine ⟨?_, frozen_of_row w g _ _ _ hh⟩
    have h3 := h'.cells (g := g) (by rw [hv]; rfl) j _ (flat_get es j (by simpa using hj))
    rw [add_pl] at h3
    rw [h3]
    simp
theorem grown_sort (w : World) (g m : Nat) (d : Array (Wg × Sl3)) (os : Array Obj) : w.grownBy (sortWorldK grE 4 w g 0 m d os) (some g) := by
  refine ⟨rfl, rfl, rfl, ?_, fun i hi hne => ?_⟩
  · unfold sortWorldK
    rw [size_grow, size_putRowK]
    exact Nat.le_add_right _ _
  · unfold sortWorldK
    rw [heap_grow_old _ _ (by rw [size_putRowK]; exact hi)]
    have : g ≠ i := fun e => hne (by rw [e])
    simp [putRowK, putRow, mapBlock, this, Array.getElem?_modify]
theorem gb_of_below {w w' : World} (h : RowKit.Below w.heap.size w w') : w.grownBy w' none := ⟨h.os, h.tape, h.output, h.size, fun i hi _ => h.block i hi⟩
theorem Og.row {w : World} {base : Nat} {v : Value} {es : List (Wg × Sl3)} (h : Og w base v es) : w.ownsRow base 49 4 v es.length (es.flatMap grE) := h
/-- What the call tells: a list of groups of its own. -/
structure Gv (w : World) (B : Nat) (g cap : Nat) (l : List Grp) (vs : Nat → Sl3) : Prop where
  blk : B ≤ g
  cap : l.length ≤ cap
  row : ∀ i, i < l.length → (∀ j u, (grE ((l.getD i ((0, 0, 0), [])).1, vs i))[j]? = some u → w.cell? ⟨g, i * 4 + j, none⟩ = some u)
  pls : ∀ i, i < l.length → On w B (slv (vs i)) (l.getD i ((0, 0, 0), [])).2
/-- What is told in the end. -/
theorem gv_end {w wr W' W0 : World} {ss : Nat → Sn} {t g cap : Nat} {D : DataW Value} {V : Wg → Sl3} {es : List (Wg × Sl3)} {left : Lit → Bool} (HGm : Gm W0 w.heap.size (shs ss) t D V) (hC : Col D left V es) (hl : ∀ kl, left kl = false) (hR : ∀ k, Shn (shs ss) t k → On wr (w.heap.size + 1) (slv (V k)) (plc (shs ss) t k))
    (hg : W0.heap.size ≤ g) (hgl : g < wr.heap.size) (hw : w.heap.size ≤ W0.heap.size) (hcap : es.length ≤ cap) (hH : HoldsK grE 4 wr g 0 es.toArray) {d' : Array (Wg × Sl3)} {m : Nat} {os : Array Obj} (hp : PermIn 0 es.toArray.size es.toArray d') (hs : SortedIn (ltOf fun x y : Wg × (Nat × Nat × Nat) => cmpG x.1 y.1) 0 es.toArray.size d') (hW : W' = sortWorldK grE 4 wr g 0 m d' os) :
    ∃ l vs, l.length = es.length ∧ IsG (shs ss) t l ∧ Gv W' w.heap.size g cap l vs := by
  have hsz : d'.size = es.length := by have := hp.1; simpa using this
  have hpm : d'.toList.Perm es := by
    have := hp.2.2
    rw [show es.toArray.size = d'.size from hp.1.symm] at this
    have e2 : es.toArray.size = d'.size := hp.1.symm
    rw [Array.extract_eq_self_of_le (Nat.le_refl _), Array.extract_eq_self_of_le (by rw [e2]; exact Nat.le_refl _)] at this
    simpa using this
  have hmem : ∀ x, x ∈ d'.toList ↔ x ∈ es := fun x => hpm.mem_iff
  have hnd : (d'.toList.map (·.1)).Nodup := (hpm.map _).nodup_iff.2 hC.one
  have hshn : ∀ p ∈ es, Shn (shs ss) t p.1 := fun p hp' => (HGm.has p.1 (hC.mem p hp').1).1 (hC.mem p hp').2.1
  have hget : ∀ i, (hi : i < d'.toList.length) → d'[i]! = d'.toList[i] := fun i hi => by
    have : i < d'.size := by simpa using hi
    simp [this]
  refine ⟨d'.toList.map (fun x => (x.1, plc (shs ss) t x.1)), fun i => (d'[i]!).2, by simp [hsz], ⟨?_, ?_, ?_⟩, ⟨Nat.le_trans hw hg, by simp [hsz]; exact hcap, ?_, ?_⟩⟩
  · rw [List.pairwise_map]
    rw [List.pairwise_iff_getElem]
    intro i j hi hj hij
    have h1 := hs i j (Nat.zero_le _) hij (by rw [← hp.1]; simpa using hj)
    rw [ltG, hget i hi, hget j hj] at h1
    have hne : d'.toList[i].1 ≠ d'.toList[j].1 := fun e => by
      have := (List.pairwise_iff_getElem.1 hnd) i j (by simpa using hi) (by simpa using hj) hij
      simp only [List.getElem_map] at this
      exact this e
    rcases older_total hne with h2 | h2
    · rw [h2] at h1; cases h1
    · exact h2
  · intro k
    constructor
    · intro hk
      have hsh : Shn (shs ss) t k := hk
      obtain ⟨hin, _, _⟩ := HGm.val k hsh
      rcases hC.all k hin ((HGm.has k hin).2 hsh) with h1 | ⟨p, hp', e⟩
      · rw [hl] at h1; cases h1
      · exact ⟨(p.1, plc (shs ss) t p.1), List.mem_map.2 ⟨p, (hmem p).2 hp', rfl⟩, e⟩
    · rintro ⟨q, hq, rfl⟩
      obtain ⟨p, hp', rfl⟩ := List.mem_map.1 hq
      exact hshn p ((hmem p).1 hp')
  · intro q hq
    obtain ⟨p, _, rfl⟩ := List.mem_map.1 hq
    rfl
  · intro i hi j u hu
    have hi' : i < d'.size := by simpa using hi
    have hW2 : SWK grE 4 wr g 0 d' W' := ⟨m, os, hW⟩
    have hh := SWK.holds hW2 hgl hH hp.1
    have hj : j < 4 := by
      rcases Nat.lt_or_ge j 4 with h | h
      · exact h
      · rw [List.getElem?_eq_none (by exact h)] at hu; cases hu
    have hc := (hh.cell hi' hj).1
    rw [Nat.zero_add] at hc
    rw [hc]
    have e : ((d'.toList.map (fun x => (x.1, plc (shs ss) t x.1))).getD i ((0, 0, 0), [])).1 = (d'[i]!).1 := by
      simp [List.getD, hi']
    rw [e] at hu
    have hu' : (grE d'[i]!)[j]? = some u := hu
    rw [List.getElem!_eq_getElem?_getD, hu']
    rfl
  · intro i hi
    have hi' : i < d'.size := by simpa using hi
    have hm : d'[i]! ∈ es := (hmem _).1 (by rw [hget i (by simpa using hi')]; exact List.getElem_mem _)
    have e : ((d'.toList.map (fun x => (x.1, plc (shs ss) t x.1))).getD i ((0, 0, 0), [])).2 = plc (shs ss) t (d'[i]!).1 := by
      simp [List.getD, hi']
    rw [e, (hC.mem _ hm).2.2.1]
    have h1 := hR _ (hshn _ hm)
    have h2 := ((HGm.val _ (hshn _ hm)).2.2.blk (slv_blk _)).2
    have h3 := h1.kept (hW ▸ grown_sort wr g m d' os) (.inr (by rw [slv_blk]; intro e; injection e with e; omega))
    exact h3.mono (Nat.le_succ _)
section
attribute [local irreducible] Calls Sn.cs GB On Og slv
set_option maxHeartbeats 16000000 in
set_option maxRecDepth 1000000 in
theorem groups_any {w : World} {p : Option Addr} {n c : Nat} {ss : Nat → Sn} (HS : SnL w p n ss) (hn : n ≤ 1172812402943) (hI : ∀ i, i < n → InW (ss i).wg) :
    Calls Try.prog 13 #[.slice p n c] w fun e w' => ∃ g cap l vs, e = .returned (.slice (some ⟨g, 0, none⟩) l.length cap) ∧ IsG (shs ss) n l ∧ Gv w' w.heap.size g cap l vs ∧ Below w.heap.size w w' := by
  have HL := (show Hid (SnL w p n ss) from HS)
  have HN := (show Hid (n ≤ 1172812402943) from hn)
  have HI := (show Hid (∀ i, i < n → InW (ss i).wg) from hI)
  have hmm := @run_makeMap Try.prog
  obtain ⟨i0, hi0, hz0, hz1, hz2⟩ := info_parts infoG
  clear HS hn hI
  go_enter Try.func13, Try.ntmps13
  go_wp2_with (fail)
  go_loopw [12] (fun i wr => ∃ t : Nat, t ≤ n ∧ i = .int .i64 (t : Int) ∧ Hid (∃ D V, Gm wr w.heap.size (shs ss) t D V) ∧ Hid (w.heap.size + 1 ≤ wr.heap.size) ∧ Hid (Below w.heap.size w wr)) (fun i _ => n - (intOf i).toNat)
  case atStart => exact ⟨0, Nat.zero_le _, rfl, ⟨_, _, Gm.start w _⟩, by show _ ≤ _; simp, (Below.refl _ _).alloc (Nat.le_refl _) _⟩
  case round =>
    obtain ⟨t, ht, rfl, hG, hZ, hB⟩ := hrel
    by_cases hlt : t < n
    · have hi : (t : Int) < (n : Int) := by omega
      obtain ⟨b, o, rfl, hAt⟩ := (HL.out.below hB.out).at hlt
      have WT := (show Hid (wrap64 ((t : Int) + 1) = ((t + 1 : Nat) : Int)) from by have := HN.out; show _ = _; unfold wrap64; omega)
      have HT := (show Hid (t < n) from hlt)
      have c0 := hAt.cells.kd
      obtain ⟨W0, hW0⟩ : ∃ W0, W0 = wr := ⟨_, rfl⟩
      subst hW0
      by_cases hk : (ss t).kd = 2
      · have hrun := hAt.run
        rw [hk] at c0
        have HSH := (show Hid (sh (shs ss) (ss t).wg t = true) from by show _ = true; rw [sh_iff]; exact ⟨hk, rfl⟩)
        have HIW := (show Hid (InW (ss t).wg) from HI.out t hlt)
        have HTm := (show Hid (t < maxLen) from by have := HN.out; show _ < _; unfold maxLen; omega)
        have HPL := (show Hid ((plc (shs ss) t (ss t).wg).length + 1 ≤ 17592186044416) from by have := plc_len (shs ss) t (ss t).wg; have := HN.out; show _ ≤ _; omega)
        obtain ⟨D, V, hGm⟩ := hG.out
        clear hlt ht hk hG
        go_wp2_with (first
          | (refine wpList_ldAt rfl _ _ rfl b (o + t * 19) rfl _ hrun ?_)
          | (go_at_call 21; refine (writingOf_any (ss t) W0).mono ?_; rintro e w1 ⟨rfl, hb1⟩)
          | (refine wpList_alB rfl rfl zero_Wr ?_; intro w2 hG2 hb2 hs2)
          | (refine wpList_stB (cs := wgC (ss t).wg) rfl _ _ rfl rfl w1.heap.size rfl rfl hG2 size_Wr rfl (wgC_one _) ?_; intro w3 hG3 hg3 hs3; have hb3 := bt hb1 (grown_below hb2 hg3 hb2.size (Nat.le_refl _)); have HB4 := (show Hid (Below W0.heap.size W0 (w3.alloc (.cells #[.int .i64 (t : Int)] 3))) from balloc hb3 _); have HG4 := (show Hid (Gm (w3.alloc (.cells #[.int .i64 (t : Int)] 3)) w.heap.size (shs ss) t D V) from hGm.below HB4.out); have HC4 := (show Hid ((w3.alloc (.cells #[.int .i64 (t : Int)] 3)).cell? ⟨w3.heap.size, 0, none⟩ = some (.int .i64 (t : Int))) from cell_of_row (w3.alloc (.cells #[.int .i64 (t : Int)] 3)) w3.heap.size 0 _ _ (0, 0) (heap_alloc_new w3 _)))
          | (refine wpList_ldB rfl _ rfl w1.heap.size rfl hG3 Try.underlying64 size_Wr ?_)
          | (refine wpList_entryG rfl _ _ rfl rfl rfl HG4.out HIW.out HTm.out ?_; intro v0 st w5 hg5 hz5 hO5 hv0 hBk)
          | (at_builtin; refine wpList_apL rfl (.tmp 28) (.tmp 30) rfl (w.heap.size + 1) v0 (plc (shs ss) t (ss t).wg) t rfl hO5 ⟨w3.heap.size, 0, none⟩ 1 rfl (cell_grown HC4.out hg5 (fun e => by injection e with e; have e' : w.heap.size = w3.heap.size := e; have := hZ.out; have := hb3.size; omega)) HPL.out (by have h1 := hz5.out; have h2 := HB4.out.size; have h3 := hZ.out; omega) ?_; intro b6 w6 hO6 hg6 hloc)
          | (refine wpList_storeG (b := b6) rfl _ _ _ rfl rfl rfl rfl hBk hg6 (fun e => by have := (hO5.blk e).1; omega) ?_; intro w7 hM7 hg7))
        go_roundw
        case rel =>
          refine ⟨t + 1, HT.out, by rw [WT.out], ?_, ?_, ?_⟩
          · obtain ⟨D', V', h7⟩ := HG4.out.step HIW.out HSH.out hg5 hz5.out hv0 rfl hO6 hg6 hloc hM7 hg7
            exact ⟨D', V', h7⟩
          · show _ ≤ _
            have h1 := hz5.out; have h2 := HB4.out.size; have h3 := hZ.out; have h4 := hg6.size; have h5 := hg7.size
            omega
          · have h1 := (bt hB.out HB4.out).grown hg5 (Nat.le_trans hB.out.size HB4.out.size) (fun j hj => by cases hj; exact Nat.le_refl _)
            have h2 := h1.grown hg6 h1.size (fun j hj => by have := (hO5.blk hj).1; omega)
            exact h2.grown hg7 h2.size (fun j hj => by cases hj; exact Nat.le_refl _)
        case measure => rw [WT.out]; exact meas_v17 HT.out
      · have d0 : ((ss t).kd == 2) = false := by simp [hk]
        have HK := (show Hid ((shs ss t).1 ≠ 2) from hk)
        clear hlt ht hk
        go_wp2_with (fail)
        go_roundw
        case rel =>
          obtain ⟨D, V, h⟩ := hG.out
          exact ⟨t + 1, HT.out, by rw [WT.out], ⟨D, V, h.skip HK.out⟩, hZ, hB⟩
        case measure => rw [WT.out]; exact meas_v17 HT.out
    · obtain rfl : t = n := by omega
      obtain ⟨W0, hW0⟩ : ∃ W0, W0 = wr := ⟨_, rfl⟩
      subst hW0
      obtain ⟨D, V, hGm⟩ := hG.out
      have hsD := hGm.map.size_le
      have HGm := (show Hid (Gm W0 w.heap.size (shs ss) t D V) from hGm)
      have HSD := (show Hid (Maps.size D ≤ t) from hsD)
      have hM := hGm.map
      clear hG hGm hsD
      go_wp2_with (first
        | (at_len; refine wpList_len_own _ rfl _ 62 rfl 64 25 Try.underlying62 _ w.heap.size t _ rfl hM ?_)
        | (at_make; refine wpList_make_own _ rfl _ _ 44 rfl W0.heap.size 49 i0 (.agg #[.int .i64 0, .int .i64 0, .int .i64 0, .slice none 0 0]) 4 Try.underlying44 hi0 hz0 hz1 _ _ _ (Maps.size D) rfl rfl rfl (by have := HN.out; have := HSD.out; rw [hz2]; omega) (by have := HN.out; have := HSD.out; unfold maxLen; omega) (Nat.le_refl _) ?_; intro w1 hrow1 hg1)
        | (at_range; refine wpList_range_own _ rfl _ 62 rfl 64 25 lawW Try.underlying62 _ w.heap.size t _ rfl (hM.kept hg1 (by simp)) ?_; intro w0 hrg0 hg0 hs0)
        | go_in)
      go_frame
      have hb1 : Below w.heap.size w w1 := hB.out.grown hg1 hB.out.size (fun j hj => by cases hj)
      have HO1 := (show Hid (Og w1 W0.heap.size (.slice (some ⟨W0.heap.size, 0, none⟩) 0 (Maps.size D)) []) from by show Og _ _ _ _; unfold Og; exact hrow1)
      clear hs0 hrow1 hM
      go_loopw [6] (fun v wr => ∃ (left : Lit → Bool) (cnt : Nat) (es : List (Wg × Sl3)), Hid (wr.ranges Try.prog 64 Rg w.heap.size w1.heap.size t D left cnt) ∧ Hid (es.length + cnt ≤ Maps.size D) ∧ Hid (Og wr W0.heap.size v es) ∧ Hid (v ≠ .slice none 0 0) ∧ Hid (Col D left V es) ∧ Hid (∀ k, Shn (shs ss) t k → On wr (w.heap.size + 1) (slv (V k)) (plc (shs ss) t k)) ∧ Hid (Below w.heap.size w wr) ∧ Hid (W0.heap.size ≤ wr.heap.size))
        (fun _ wr => wr.rangeLeft w.heap.size w1.heap.size)
      case atStart =>
        refine ⟨_, _, [], hrg0, by show _ ≤ _; simp, HO1.out.kept hg0 (.inr (by simp [Value.ownBlock])), by simp [Hid], Col.start D V, ?_, hb1.grown hg0 hb1.size (fun j hj => by cases hj), Nat.le_trans hg1.size hg0.size⟩
        intro k hk
        exact ((HGm.out.val k hk).2.2.kept hg1 (.inr (by rw [slv_blk]; simp))).kept hg0 (.inr (by rw [slv_blk]; simp))
      case round =>
        obtain ⟨left, cnt, es, hrg, hcs, hO, hnn, hC, hR, hBw, hWs⟩ := hrel
        have hrg' := hrg.out
        go_wp2_with (first
          | (at_next; refine wpList_next_ranges _ rfl _ rfl 64 lawW Rg (fun v : Value => v) (fun v : Value => v) (fun key kl hk => ⟨key, rfl⟩) (fun v y hv => ⟨v, rfl⟩) w.heap.size w1.heap.size t _ _ _ rfl hrg' ?_ ?_)
          | go_in)
        · intro hc0 hl0
          obtain ⟨g, cap, hv, hgb, hgl, hcap, hH⟩ := hO.out.open hnn.out
          subst hv
          have hlen : es.length ≤ 1172812402943 := by have h1 := hcs.out; have h2 := HSD.out; have h3 := HN.out; omega
          have SO := (show Hid _ from sortG_any g cap es.toArray wr hH hgl (by simp; omega))
          rw [show es.toArray.size = es.length by simp] at SO
          obtain ⟨W1, hW1⟩ : ∃ W1, W1 = wr := ⟨_, rfl⟩
          subst hW1
          have HE := (show Hid (∀ (d' : Array (Wg × Sl3)) (m : Nat) (os : Array Obj) (W' : World), PermIn 0 es.length es.toArray d' → SortedIn (ltOf fun x y : Wg × (Nat × Nat × Nat) => cmpG x.1 y.1) 0 es.length d' → W' = sortWorldK grE 4 W1 g 0 m d' os → (∃ l vs, l.length = es.length ∧ IsG (shs ss) t l ∧ Gv W' w.heap.size g cap l vs) ∧ RowKit.Below w.heap.size w W') from fun d' m os W' h1 h2 h3 => ⟨gv_end HGm.out hC.out hl0 hR.out hgb hgl hB.out.size hcap hH (by simpa using h1) (by simpa using h2) h3, by subst h3; exact hBw.out.grown (grown_sort W1 g m d' os) hBw.out.size (fun j hj => by cases hj; exact Nat.le_trans hB.out.size hgb)⟩)
          clear hH hc0 hl0 hlen hrg' hcap hgb hgl
          go_wp2_with (go_at_call 22; refine SO.out.mono ?_; rintro e w' ⟨rfl, d', m, os, hp, hs, hW⟩; have HF := (show Hid _ from HE.out d' m os w' hp hs hW); clear hp hs hW)
          go_ret
          obtain ⟨⟨l, vs, hl, h1, h2⟩, h3⟩ := HF.out
          exact ⟨g, cap, l, vs, by rw [hl]; rfl, h1, h2, h3⟩
        · intro xv bv kl yd yp w2 cnt2 hkey hlk hv hat hrg2 hlt hg2 hs2 hen
          obtain ⟨x, hx, rfl⟩ := key_inv hkey
          obtain ⟨_, rfl⟩ := key_of hkey
          obtain ⟨b, rfl⟩ := Rg_shape hv
          have hh := has_true_of_atKey hat
          have hsh := (HGm.out.has x hx).1 hh
          have hb : b = V x := slv_inj (by
            have h1 := (HGm.out.val x hsh).2.1 .nil
            have h2 : yd = .held (slv b) := Rg_val hv
            rw [hat, h2] at h1
            injection h1)
          subst hb
          have HCS := (show Hid (Col D (fun z => left z && !z.sameKey (kL x)) V (es ++ [(x, V x)])) from hC.out.step hx hlk hh)
          have HRG := (show Hid (w2.ranges Try.prog 64 Rg w.heap.size w1.heap.size t D (fun z => left z && !z.sameKey (kL x)) cnt2) from hrg2)
          have HLT := (show Hid (cnt2 < cnt) from hlt)
          have HS2 := (show Hid (w2.heap.size = wr.heap.size) from hs2)
          have HO2 := (show Hid (Og w2 W0.heap.size u6 es) from hO.out.kept hg2 (.inr (row_ne_iter (by have h := hO.out; unfold Og at h; exact h) hrg').symm))
          obtain ⟨W1, hW1⟩ : ∃ W1, W1 = wr := ⟨_, rfl⟩
          subst hW1
          have HG2 := (show Hid (W1.grownBy w2 (some w1.heap.size)) from hg2)
          clear hrg2 hlt hs2 hat hv hkey hlk hC hrg' hg2 hh
          go_wp2_with (first
            | (refine wpList_alB rfl rfl zero_Wr ?_; intro w3 hG3 hb3 hs3)
            | (refine wpList_stB (cs := wgC x) rfl _ _ rfl rfl w2.heap.size rfl rfl hG3 size_Wr rfl (wgC_one _) ?_; intro w4 hG4 hg4 hs4; have hb4 := grown_below hb3 hg4 hb3.size (Nat.le_refl _); have c0 := hG4.cell 0; have c1 := hG4.cell 1; have c2 := hG4.cell 2; unfold wgC at c0 c1 c2; simp only [List.getElem?_toArray, List.getElem?_cons_zero, List.getElem?_cons_succ] at c0 c1 c2; have HB5 := (show Hid (RowKit.Below w2.heap.size w2 (w4.alloc (.cells #[.int .i64 x.1, .int .i64 x.2.1, .int .i64 x.2.2, .slice (some ⟨(V x).1, 0, none⟩) (V x).2.1 (V x).2.2] 49))) from balloc hb4 _); have HO5 := (show Hid (Og (w4.alloc (.cells #[.int .i64 x.1, .int .i64 x.2.1, .int .i64 x.2.2, .slice (some ⟨(V x).1, 0, none⟩) (V x).2.1 (V x).2.2] 49)) W0.heap.size u6 es) from HO2.out.below HB5.out); have HN5 := (show Hid (GB (w4.alloc (.cells #[.int .i64 x.1, .int .i64 x.2.1, .int .i64 x.2.2, .slice (some ⟨(V x).1, 0, none⟩) (V x).2.1 (V x).2.2] 49)) w4.heap.size 49 (grE (x, V x)).toArray) from GB.new w4 _ _))
            | (at_builtin; refine wpList_apG rfl (.tmp 45) (.tmp 52) rfl W0.heap.size u6 es (x, V x) rfl HO5.out w4.heap.size 1 rfl HN5.out (by have h1 := hcs.out; have h2 := HSD.out; have h3 := HN.out; omega) (by have h1 := hWs.out; have h2 := HS2.out; have h3 := HB5.out.size; omega) ?_; intro v6 w6 hO6 hg6 hn6; go_frame)
            | go_in)
          have hrg6 := (HRG.out.kept (gb_of_below HB5.out) (by simp) (by simp)).kept hg6 (row_ne_low (Og.row HO5.out) hZ.out) (row_ne_iter (Og.row HO5.out) (HRG.out.kept (gb_of_below HB5.out) (by simp) (by simp)))
          go_roundw
          case rel =>
            have hV : ∀ k, Shn (shs ss) t k → (V k).1 < W0.heap.size := fun k hk => ((HGm.out.val k hk).2.2.blk (slv_blk _)).2
            have B2 := hBw.out.grown HG2.out hBw.out.size (fun j hj => by cases hj; exact hb1.size)
            have B5 := bt B2 HB5.out
            refine ⟨_, cnt2, es ++ [(x, V x)], hrg6, ?_, hO6, hn6, HCS, ?_, B5.grown hg6 B5.size (fun j hj => Nat.le_trans hB.out.size ((Og.row HO5.out).lt j hj).1), ?_⟩
            · show _ ≤ _
              have h1 := hcs.out; have h2 := HLT.out
              rw [List.length_append, List.length_singleton]; omega
            · intro k hk
              have h1 := (hR.out k hk).kept HG2.out (.inr (by rw [slv_blk]; intro e; injection e with e; have := hV k hk; have := hg1.size; omega))
              exact (h1.below HB5.out).kept hg6 (.inr (by rw [slv_blk]; intro e; have := ((Og.row HO5.out).lt _ e.symm).1; have := hV k hk; omega))
            · show _ ≤ _
              have h1 := hWs.out; have h2 := HS2.out; have h3 := HB5.out.size; have h4 := hg6.size
              omega
          case measure => rw [hrg6.left_eq, hrg.out.left_eq]; exact HLT.out
end
end Go.Proofs.Ytefomnlgpldgnaa
