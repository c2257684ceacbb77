/-
  keysUnder, Under.
-/
import Derived.Test.YtkljlfhplnoldaaNk
import Derived.Maps.RangeWalk
import Derived.Maps.OwnSet
import Derived.Maps.AppendAt
import Derived.Sort.OwnSorted
namespace Go.Proofs.Ytkljlfhplnoldaa
open Go.RowKit Go.Maps Go.Sort
theorem lawS : Keyed Try.prog 9 := string_keyed Try.underlying9
/-- A list of texts that is read. -/
def Rs (w : World) (a : Option Addr) (ns : List Tx) : Prop := ns = [] ∨ ∃ b off, a = some ⟨b, off, none⟩ ∧ ∀ i, i < ns.length → w.cell? ⟨b, off + i, none⟩ = some (encStr (ns.getD i []))
theorem cell_below {w w' : World} {p : Addr} {v : Value} (h : w.cell? p = some v) (hb : Below w.heap.size w w') : w'.cell? p = some v := by
  rw [hb.cell (p := p) (block_lt_of_cell h)]; exact h
theorem Rs.below {w w' : World} {a : Option Addr} {ns : List Tx} (h : Rs w a ns) (hb : Below w.heap.size w w') : Rs w' a ns := by
  rcases h with h | ⟨b, off, ha, hc⟩
  · exact .inl h
  · exact .inr ⟨b, off, ha, fun i hi => cell_below (hc i hi) hb⟩
theorem om_below {P : Program} {k : TypeId} {R : Value → Option (DataW Unit × List MemPlace)} {w w' : World} {b n : Nat} {D : DataW Unit} (h : w.ownsMap P k R b n D) (hb : Below w.heap.size w w') : w'.ownsMap P k R b n D := by
  obtain ⟨es, clock, hh, F, h1, h2⟩ := h
  refine ⟨es, clock, ?_, F, h1, h2⟩
  rw [hb.block b (Array.getElem?_eq_some_iff.1 hh).1]
  exact hh
theorem below_trans {B : Nat} {w w1 w2 : World} (h : Below B w w1) (h' : Below w1.heap.size w1 w2) (hB : B ≤ w1.heap.size) : Below B w w2 := h.trans (h'.mono hB)
theorem pre_dec (k p : Tx) : Lib.hasPrefix (⟨k.toArray⟩ : ByteArray).data.toList (⟨p.toArray⟩ : ByteArray).data.toList = decide (p <+: k) := by
  rw [enc_list, enc_list, Lib.hasPrefix, Bool.eq_iff_iff]
  simp
theorem key_enc {x : Tx} (h : x.length ≤ maxLen) : keyOf Try.prog 9 (encStr x) = some (.string x) := by
  simp [keyOf, mapKey, enc_size, h]
section
attribute [local irreducible] Calls
set_option maxHeartbeats 4000000 in
set_option maxRecDepth 1000000 in
theorem keysUnder_core (b off n c : Nat) (ns : List Tx) (p : Tx) (w : World) (hn : Hid (ns.length = n)) (hm : n ≤ 8796093022208) (H : Hid (∀ i, i < n → w.cell? ⟨b, off + i, none⟩ = some (encStr (ns.getD i [])))) :
    Calls Try.prog 9 #[.slice (some ⟨b, off, none⟩) n c, encStr p] w fun e w' => e = .returned (.map (some w.heap.size)) ∧ ∃ D : DataW Unit, w'.ownsMap Try.prog 9 (unitElem (H := Unit)) w.heap.size n D ∧ (∀ x, Maps.has D (.string x) = true ↔ Unds ns p x) ∧ Below w.heap.size w w' := by
  have hmm := @run_makeMap Try.prog
  go_enter Try.func9, Try.ntmps9
  go_wp2
  go_loopw [13] (fun i wr => ∃ (k : Nat) (D : DataW Unit), k ≤ n ∧ i = .int .i64 k ∧ wr.ownsMap Try.prog 9 (unitElem (H := Unit)) w.heap.size k D ∧ (∀ x, Maps.has D (.string x) = true ↔ Unds (ns.take k) p x) ∧ w.heap.size + 1 ≤ wr.heap.size ∧ Below w.heap.size w wr) (fun i _ => n - (intOf i).toNat)
  case atStart => exact ⟨0, _, Nat.zero_le _, rfl, World.ownsMap_made _ _ _ _, fun x => by simp [Unds, Maps.has], by simp, (Below.refl _ _).alloc (Nat.le_refl _) _⟩
  case round =>
    obtain ⟨k, D, hk, rfl, hown, hD, hsz, hb⟩ := hrel
    by_cases hlt : k < n
    · have hi1 : (k : Int) < (n : Int) := by omega
      obtain ⟨s, hs⟩ : ∃ s, s = ns.getD k [] := ⟨_, rfl⟩
      have g1 : wr.cell? ⟨b, off + k, none⟩ = some (encStr s) := by rw [hs]; exact cell_below (H.out k hlt) hb
      have hsn : Hid (ns.take (k + 1) = ns.take k ++ [s]) := by
        show _ = _
        have := hn.out
        rw [List.take_add_one, hs]; simp [show k < ns.length by omega]
      have hkc := key_any s wr
      clear hs
      cases hy : ky s with
      | none =>
        rw [hy] at hkc
        go_wp2_with (go_at_call 14; refine hkc.mono ?_; rintro e w1 ⟨rfl, hb1⟩; unfold kres)
        go_roundw
        case rel =>
          refine ⟨k + 1, D, by omega, by go_num, (om_below hown hb1).mono (Nat.le_succ _), fun x => ?_, Nat.le_trans hsz hb1.size, below_trans hb hb1 (by omega)⟩
          rw [hsn.out, unds_snoc, hy, hD]
          simp
        case measure => simp [intOf]; omega
      | some x =>
        rw [hy] at hkc
        have hfx := (nm_ky hy).2
        by_cases hp : p <+: x
        · have hkey : keyOf Try.prog 9 (encStr x) = some (.string x) := by
            exact key_enc (by unfold fitK at hfx; unfold maxLen; omega)
          go_wp2_with (first
            | (go_at_call 14; refine hkc.mono ?_; rintro e w1 ⟨rfl, hb1⟩; unfold kres)
            | (go_at_call 16; refine (Try.strings_HasPrefix _ _ _).mono ?_; rintro e w2 ⟨rfl, hw⟩; rw [hw, pre_dec, decide_eq_true hp]; clear hw w2)
            | (at_mapUpdate; refine wpList_mapUpdate_own _ rfl _ _ _ 29 rfl 9 41 lawS Try.underlying29 (unitElem (H := Unit)) w.heap.size k D rfl (om_below hown hb1) (by unfold maxLen; omega) _ _ (.string x) rfl rfl hkey _ [] unitElem_mk ?_; intro w2 hown2 hg2))
          go_roundw
          case rel =>
            refine ⟨k + 1, _, by omega, by go_num, hown2, fun y => ?_, by have := hb1.size; have := hg2.size; omega, (below_trans hb hb1 (by omega)).grown hg2 (by have := hb1.size; omega) (fun j hj => by cases hj; exact Nat.le_refl _)⟩
            rw [hsn.out, unds_snoc, hy, ← hD]
            by_cases hyx : y = x
            · rw [hyx, has_put_same hown.isMap (by simp [WideAt.IsKeyLit])]
              exact ⟨fun _ => .inr ⟨rfl, hp⟩, fun _ => rfl⟩
            · rw [has_put_other (by intro h; injection h with h; exact hyx h)]
              constructor
              · exact .inl
              · rintro (h | ⟨h1, h2⟩)
                · exact h
                · exact absurd (Option.some.inj h1).symm hyx
          case measure => simp [intOf]; omega
        · go_wp2_with (first
            | (go_at_call 14; refine hkc.mono ?_; rintro e w1 ⟨rfl, hb1⟩; unfold kres)
            | (go_at_call 16; refine (Try.strings_HasPrefix _ _ _).mono ?_; rintro e w2 ⟨rfl, hw⟩; rw [hw, pre_dec, decide_eq_false hp]; clear hw w2))
          go_roundw
          case rel =>
            refine ⟨k + 1, D, by omega, by go_num, (om_below hown hb1).mono (Nat.le_succ _), fun y => ?_, Nat.le_trans hsz hb1.size, below_trans hb hb1 (by omega)⟩
            rw [hsn.out, unds_snoc, hy, hD]
            constructor
            · exact .inl
            · rintro (h | ⟨h1, h2⟩)
              · exact h
              · rw [← Option.some.inj h1] at h2; exact absurd h2 hp
          case measure => simp [intOf]; omega
    · obtain rfl : k = n := by omega
      have hn' := hn.out
      rw [← hn', List.take_length] at hD
      clear hn'
      go_wp2
      go_ret
      exact ⟨rfl, D, hown, hD, hb⟩
set_option maxRecDepth 1000000 in
theorem keysUnder_nil (a : Option Addr) (c : Nat) (p : Tx) (w : World) :
    Calls Try.prog 9 #[.slice a 0 c, encStr p] w fun e w' => e = .returned (.map (some w.heap.size)) ∧ w' = w.alloc (.map #[] 0) := by
  have hmm := @run_makeMap Try.prog
  go_enter Try.func9, Try.ntmps9
  go_wp2
  refine wp_loop_rounds 1 ?_
  rw [rounds_succ]
  go_wp2
  go_ret
  exact ⟨rfl, rfl⟩
theorem keysUnder_any {a : Option Addr} {n c : Nat} {ns : List Tx} {w : World} (h : Rs w a ns) (hn : ns.length = n) (hm : n ≤ 8796093022208) (p : Tx) :
    Calls Try.prog 9 #[.slice a n c, encStr p] w fun e w' => e = .returned (.map (some w.heap.size)) ∧ ∃ D : DataW Unit, w'.ownsMap Try.prog 9 (unitElem (H := Unit)) w.heap.size n D ∧ (∀ x, Maps.has D (.string x) = true ↔ Unds ns p x) ∧ Below w.heap.size w w' := by
  have nil : ns = [] → Calls Try.prog 9 #[.slice a n c, encStr p] w fun e w' => e = .returned (.map (some w.heap.size)) ∧ ∃ D : DataW Unit, w'.ownsMap Try.prog 9 (unitElem (H := Unit)) w.heap.size n D ∧ (∀ x, Maps.has D (.string x) = true ↔ Unds ns p x) ∧ Below w.heap.size w w' := by
    rintro rfl
    subst hn
    refine (keysUnder_nil a c p w).mono ?_
    rintro e w' ⟨rfl, rfl⟩
    exact ⟨rfl, _, World.ownsMap_made _ _ _ _, fun x => by simp [Unds, Maps.has], (Below.refl _ _).alloc (Nat.le_refl _) _⟩
  rcases h with h | ⟨b, off, rfl, hc⟩
  · exact nil h
  · exact keysUnder_core b off n c ns p w hn hm (fun i hi => hc i (by omega))
theorem ot_mono {w : World} {base base' : Nat} {e : TypeId} {v : Value} {n : Nat} {xs : List Value} (h : w.ownsRow base e 1 v n xs) (hb : base' ≤ base) : w.ownsRow base' e 1 v n xs := by
  refine ⟨h.1, ?_⟩
  rcases h.2 with h1 | ⟨g, cap, c, hv, hg, hh, hc⟩
  · exact .inl h1
  · exact .inr ⟨g, cap, c, hv, Nat.le_trans hb hg, hh, hc⟩
/-- An own list of texts. -/
def Ot (w : World) (base : Nat) (v : Value) (ts : List Tx) : Prop := w.ownsRow base 9 1 v ts.length (ts.map encStr)
set_option maxHeartbeats 4000000 in
set_option maxRecDepth 1000000 in
theorem under_any {a : Option Addr} {n c : Nat} {ns : List Tx} {w : World} (h : Rs w a ns) (hn : ns.length = n) (hm : n ≤ 8796093022208) (p : Tx) :
    Calls Try.prog 4 #[.slice a n c, encStr p] w fun e w' => ∃ (g cap : Nat) (l : List Tx), e = .returned (.slice (some ⟨g, 0, none⟩) l.length cap) ∧ IsU ns p l ∧ Ot w' w.heap.size (.slice (some ⟨g, 0, none⟩) l.length cap) l ∧ Below w.heap.size w w' := by
  obtain ⟨i0, hi, hz0, hz1, hz2⟩ := info_parts info9
  have hku := keysUnder_any (c := c) h hn hm p
  clear hn
  go_enter Try.func4, Try.ntmps4
  go_wp2_with (first
    | (go_at_call 9; refine hku.mono ?_; rintro e wk ⟨rfl, D0, hown, hD, hbk⟩; have hsD := hown.size_le)
    | (at_len; refine wpList_len_own _ rfl _ 29 rfl 9 41 Try.underlying29 _ w.heap.size n _ rfl hown ?_)
    | (at_make; refine wpList_make_own _ rfl _ _ 22 rfl wk.heap.size 9 i0 (.string ⟨#[]⟩) 1 Try.underlying22 hi hz0 hz1 _ _ _ (Maps.size D0) rfl rfl rfl (by rw [hz2]; omega) (by unfold maxLen; omega) (Nat.le_refl _) ?_; intro w1 hrow1 hg1)
    | (at_range; refine wpList_range_own _ rfl _ 29 rfl 9 41 lawS Try.underlying29 _ w.heap.size n _ rfl (hown.kept hg1 (by simp)) ?_; intro w0 hrg0 hg0 hs0)
    | go_in)
  go_frame
  have hb1 : Below w.heap.size w w1 := hbk.grown hg1 hbk.size (fun j hj => by cases hj)
  go_loopw [6] (fun v wr => ∃ (left : Lit → Bool) (cnt : Nat) (ss : List Tx), wr.ranges Try.prog 9 (unitElem (H := Unit)) w.heap.size w1.heap.size n D0 left cnt ∧ ss.length + cnt ≤ Maps.size D0 ∧
      Ot wr wk.heap.size v ss ∧ v ≠ .slice none 0 0 ∧ Collected D0 left ss ∧ wk.heap.size ≤ wr.heap.size ∧ Below w.heap.size w wr)
    (fun _ wr => wr.rangeLeft w.heap.size w1.heap.size)
  case atStart =>
    exact ⟨_, _, [], hrg0, by simp, hrow1.kept hg0 (Or.inr (by simp [Value.ownBlock])), by simp, Collected.start D0, Nat.le_trans hg1.size hg0.size,
      hb1.grown hg0 hb1.size (fun j hj => by cases hj)⟩
  case round =>
    obtain ⟨left, cnt, ss, hrg, hcs, hrow, hnn, hC, hws, hnx⟩ := hrel
    go_wp2_with (first
      | (at_next; refine wpList_next_ranges _ rfl _ rfl 9 lawS (unitElem (H := Unit)) encStr (fun _ : Unit => Value.agg #[]) (fun key kl hk => by obtain ⟨x, hx, _⟩ := Maps.keyOf_str Try.underlying9 hk; exact ⟨x, hx⟩) (fun v y hv => ⟨(), (unitElem_inv hv).1⟩) w.heap.size w1.heap.size n _ _ _ rfl hrg ?_ ?_)
      | go_in)
    · intro hc0 hl0
      rcases hrow.2 with ⟨hnil, _⟩ | ⟨g, cap, cur, rfl, hbase, hb, h1, h2, h3, h4⟩
      · exact absurd hnil hnn
      have hH : Holds encStr wr g 0 ss.toArray := holds_of_block hb (by simpa using h4)
      have hgl : g < wr.heap.size := (Array.getElem?_eq_some_iff.1 hb).1
      have hc := Try.slices_Sort_string g 0 cap ss wr hH hgl (by omega)
      go_wp2_with (go_at_call 10; refine hc.mono ?_; rintro e w' ⟨rfl, nn, os, rfl⟩)
      go_ret
      refine ⟨g, cap, ss.mergeSort leB, by simp, ⟨ris_sort hC.1, fun x => ?_⟩, ?_, hnx.grown (grownBy_sorted _) hnx.size (fun j hj => by cases hj; exact Nat.le_trans hbk.size hbase)⟩
      · rw [← hD, List.mem_mergeSort, hC.2 x, hl0]
        simp
      · unfold Ot
        rw [List.length_mergeSort]
        exact ot_mono (ownsRow_sorted (by simp) hbase hb h1 h2 h3) hbk.size
    · intro x kl yd yp w2 cnt2 hkey hlk hv hat hrg2 hlt hg2 hs2 hen
      obtain ⟨x', ex, rfl, _⟩ := Maps.keyOf_str Try.underlying9 hkey
      obtain rfl : x = x' := encStr_inj ex
      have hrow2 := hrow.kept hg2 (Or.inr (row_ne_iter hrow hrg).symm)
      clear hs2
      go_wp2_with (first
        | (at_builtin; refine wpList_append_own _ rfl _ _ 22 rfl wk.heap.size 9 i0 (.string ⟨#[]⟩) 1 16 Try.underlying22 hi hz0 hz1 hz2 rfl (by decide) _ _ _ rfl (hrow2.alloc _) ⟨w2.heap.size, 0, none⟩ 1 1 [encStr x] rfl rfl (one_new _ _ _) (by simp [Value.oneCell', encStr]) (by unfold maxLen at *; omega) (by omega) (by have := hg2.size; simp; omega) ?_; intro v' w3 hown' hg3 hnil3; go_frame)
        | go_in)
      have hrg3 := (hrg2.alloc _).kept hg3 (row_ne_low hrow2 hown.lt) (row_ne_iter hrow2 hrg2)
      go_roundw
      case rel =>
        refine ⟨_, cnt2, ss ++ [x], hrg3, by simp; omega, by unfold Ot; simpa using hown', fun hv' => by have := (hnil3.1 hv').2; omega, hC.step hlk hat, by have := hg2.size; have := hg3.size; simp at this; omega, ?_⟩
        exact ((hnx.grown hg2 hnx.size (fun j hj => by cases hj; exact hb1.size)).alloc (by have := hnx.size; have := hg2.size; omega) _).grown hg3 (by have := hnx.size; have := hg2.size; simp; omega) (fun j hj => Nat.le_trans hbk.size (hrow2.lt j hj).1)
      case measure => rw [hrg3.left_eq, hrg.left_eq]; exact hlt
end
end Go.Proofs.Ytkljlfhplnoldaa
