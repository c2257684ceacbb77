/-
  The document's In, with, Under.
-/
import Derived.Test.YtdfhhogibphngaaNr
import Derived.Test.YtdfhhogibphngaaNg
namespace Go.Proofs.Ytdfhhogibphngaa
open Go.RowKit Go.Maps Go.Sort
theorem less_dec : ∀ (x y : Tx), Op.bytesLess x y = decide (x < y)
  | _, [] => by simp [Op.bytesLess]
  | [], _ :: _ => by simp [Op.bytesLess]
  | a :: x, b :: y => by
    unfold Op.bytesLess
    rw [less_dec x y, Bool.eq_iff_iff]
    simp [List.cons_lt_cons_iff]
theorem mem_take_next {l : List Tx} {k : Nat} {t : Tx} (hk : k < l.length) (h : t ∉ l.take k) (hn : ¬ l.getD k [] = t) : t ∉ l.take (k + 1) := by
  rw [List.take_add_one]
  simp only [List.getD, List.getElem?_eq_getElem hk, Option.getD_some] at hn
  simp only [List.getElem?_eq_getElem hk, Option.toList_some, List.mem_append, List.mem_singleton]
  rintro (e | e)
  · exact h e
  · exact hn e.symm
theorem ins_len (t : Tx) (l : List Tx) : (ins t l).length = l.length + 1 := by
  induction l with
  | nil => rfl
  | cons x r ih =>
    unfold ins
    split
    · rfl
    · simp [ih]
theorem mem_at {l : List Tx} {k : Nat} {t : Tx} (hk : k < l.length) (h : l.getD k [] = t) : t ∈ l := by
  simp only [List.getD, List.getElem?_eq_getElem hk, Option.getD_some] at h
  rw [← h]; exact List.getElem_mem hk
theorem Ot.shape {w : World} {base : Nat} {v : Value} {ts : List Tx} (h : Ot w base v ts) : ∃ p c, v = .slice p ts.length c ∧ Rs w p ts := by
  rcases h.2 with ⟨hv, h0⟩ | ⟨g, cap, cur, hv, hg, hb, h1, h2, h3, h4⟩
  · cases ts with
    | nil => exact ⟨none, 0, hv, .inl rfl⟩
    | cons a t => simp at h0
  · have h' := h
    rw [hv] at h'
    exact ⟨_, _, hv, h'.rs.1⟩
theorem ot_below {w w' : World} {base : Nat} {v : Value} {xs : List Tx} (h : Ot w base v xs) (hb : Below w.heap.size w w') : Ot w' base v xs := by
  refine ⟨h.1, ?_⟩
  rcases h.2 with h1 | ⟨g, cap, c, hv, hg, hh, hc⟩
  · exact .inl h1
  · refine .inr ⟨g, cap, c, hv, hg, ?_, hc⟩
    rw [hb.block g (Array.getElem?_eq_some_iff.1 hh).1]
    exact hh
section
attribute [local irreducible] Calls
set_option maxRecDepth 1000000 in
theorem rin_core (b o n c : Nat) (l : List Tx) (t : Tx) (w : World) (hn : n ≤ 8796093022208) (hl : Hid (l.length = n)) (H1 : Hid (∀ i, i < n → w.cell? ⟨b, o + i, none⟩ = some (encStr (l.getD i [])))) :
    Calls Try.prog 25 #[.slice (some ⟨b, o, none⟩) n c, encStr t] w fun e w' => e = .returned (.bool (decide (t ∈ l))) ∧ Below w.heap.size w w' := by
  go_enter Try.func25, Try.ntmps25
  go_wp2
  go_loopw [5] (fun i wr => ∃ k : Nat, k ≤ n ∧ i = .int .i64 k ∧ t ∉ l.take k ∧ Below w.heap.size w wr) (fun i _ => n - (intOf i).toNat)
  case atStart => exact ⟨0, Nat.zero_le _, rfl, by simp, Below.refl _ _⟩
  case round =>
    obtain ⟨k, hk, rfl, hm, hb⟩ := hrel
    by_cases hlt : k < n
    · have hi1 : (k : Int) < (n : Int) := by omega
      obtain ⟨s, hs⟩ : ∃ s, s = l.getD k [] := ⟨_, rfl⟩
      have g1 : wr.cell? ⟨b, o + k, none⟩ = some (encStr s) := by rw [hs]; exact cell_below (H1.out k hlt) hb
      have hl' := hl.out
      by_cases he : s = t
      · have F : Hid (true = decide (t ∈ l)) := (decide_eq_true (mem_at (k := k) (by omega) (by rw [← hs]; exact he))).symm
        clear hs hm hl'
        subst he
        go_wp2
        go_ret
        exact ⟨ret_bool F.out, hb⟩
      · have hne : (s == t) = false := by simp [he]
        have T : Hid (t ∉ l.take (k + 1)) := mem_take_next (by omega) hm (by rw [← hs]; exact he)
        clear he hs hm hl'
        go_wp2
        go_roundw
        case rel => exact ⟨k + 1, by omega, by go_num, T.out, hb⟩
        case measure => simp [intOf]; omega
    · obtain rfl : k = n := by omega
      have hl' := hl.out
      rw [← hl', List.take_length] at hm
      have F : Hid (false = decide (t ∈ l)) := (decide_eq_false hm).symm
      clear hm hl'
      go_wp2
      go_ret
      exact ⟨ret_bool F.out, hb⟩
set_option maxRecDepth 1000000 in
theorem rin_nil (a : Option Addr) (c : Nat) (t : Tx) (w : World) : Calls Try.prog 25 #[.slice a 0 c, encStr t] w fun e w' => e = .returned (.bool false) ∧ w' = w := by
  go_enter Try.func25, Try.ntmps25
  go_wp2
  refine wp_loop_rounds 1 ?_
  rw [rounds_succ]
  go_wp2
  go_ret
  exact ⟨rfl, rfl⟩
theorem rin_any {a : Option Addr} {n c : Nat} {l : List Tx} {w : World} (h : Rs w a l) (hn : l.length = n) (hm : n ≤ 8796093022208) (t : Tx) :
    Calls Try.prog 25 #[.slice a n c, encStr t] w fun e w' => e = .returned (.bool (decide (t ∈ l))) ∧ Below w.heap.size w w' := by
  rcases h with h | ⟨b, o, rfl, g⟩
  · subst h
    subst hn
    refine (rin_nil a c t w).mono ?_
    rintro e w' ⟨rfl, rfl⟩
    exact ⟨by simp, Below.refl _ _⟩
  · exact rin_core b o n c l t w hm hn (fun i hi => g i (by omega))
set_option maxHeartbeats 4000000 in
set_option maxRecDepth 1000000 in
theorem with_core (b o n c : Nat) (l : List Tx) (t : Tx) (w : World) (hn : n ≤ 8796093022207) (hl : Hid (l.length = n)) (H1 : Hid (∀ i, i < n → w.cell? ⟨b, o + i, none⟩ = some (encStr (l.getD i [])))) :
    Calls Try.prog 26 #[.slice (some ⟨b, o, none⟩) n c, encStr t] w fun e w' => ∃ v, e = .returned v ∧ Ot w' w.heap.size v (ins t l) ∧ Below w.heap.size w w' := by
  go_enter Try.func26, Try.ntmps26
  obtain ⟨i0, hi, hz0, hz1, hz2⟩ := info_parts info9
  go_wp2
  go_loopw [5, 6, 7] (fun v p i wr => ∃ (k : Nat) (pt : Bool) (ms : List Tx), k ≤ n ∧ i = .int .i64 k ∧ p = .bool pt ∧ Ot wr w.heap.size v ms ∧ ms ++ (if pt then l.drop k else ins t (l.drop k)) = ins t l ∧ ms.length = k + (if pt then 1 else 0) ∧ Below w.heap.size w wr) (fun _ _ i _ => n - (intOf i).toNat)
  case atStart => exact ⟨0, false, [], Nat.zero_le _, rfl, rfl, World.ownsRow_nil _ _ _ _, rfl, rfl, Below.refl _ _⟩
  case round =>
    obtain ⟨k, pt, ms, hk, rfl, rfl, hO, hms, hml, hb⟩ := hrel
    by_cases hlt : k < n
    · have hi1 : (k : Int) < (n : Int) := by omega
      obtain ⟨s, hs⟩ : ∃ s, s = l.getD k [] := ⟨_, rfl⟩
      have H2 : Hid (∀ wq, Below w.heap.size w wq → wq.cell? ⟨b, o + k, none⟩ = some (encStr s)) := fun wq hq => by rw [hs]; exact cell_below (H1.out k hlt) hq
      have g1 := H2.out wr hb
      have hd : Hid (l.drop k = s :: l.drop (k + 1)) := by
        show _ = _
        have h1 : k < l.length := by have := hl.out; omega
        rw [List.drop_eq_getElem_cons h1, hs]
        simp only [List.getD, List.getElem?_eq_getElem h1, Option.getD_some]
      clear hs
      cases pt with
      | true =>
        simp only [if_true] at hms hml
        have F : Hid (ms ++ [s] ++ l.drop (k + 1) = ins t l) := by show _ = _; rw [← hms, hd.out]; simp
        clear hms
        go_wp2_with (first | (at_builtin; refine wpList_append_own _ rfl _ _ 30 rfl w.heap.size 9 i0 (.string ⟨#[]⟩) 1 16 Try.underlying30 hi hz0 hz1 hz2 rfl (by decide) _ ms.length (ms.map encStr) rfl (hO.alloc _) ⟨wr.heap.size, 0, none⟩ 1 1 [encStr s] rfl rfl (one_new _ _ _) (by intro u hu; simp at hu; subst hu; rfl) (by unfold maxLen; omega) (by omega) (by have := hb.size; simp; omega) ?_; intro v1 w1 ho1 hg1 _))
        have hb1 : Below w.heap.size w w1 := (hb.alloc hb.size _).grown hg1 (by have := hb.size; simp; omega) (fun z hz => (hO.lt z hz).1)
        go_roundw
        case rel => exact ⟨k + 1, true, ms ++ [s], by omega, by go_num, rfl, by unfold Ot; simpa using ho1, by simp only [if_true]; exact F.out, by simp; omega, hb1⟩
        case measure => simp [intOf]; omega
      | false =>
        simp only [Bool.false_eq_true, if_false] at hms hml
        by_cases hts : t < s
        · have hless : Op.bytesLess t s = true := by rw [less_dec]; exact decide_eq_true hts
          have F : Hid (ms ++ [t] ++ [s] ++ l.drop (k + 1) = ins t l) := by
            show _ = _
            rw [← hms, hd.out]
            conv => rhs; unfold ins
            rw [if_pos hts]; simp
          clear hms hts
          go_wp2_with (first
            | (at_builtin; refine wpList_append_own _ rfl _ _ 30 rfl w.heap.size 9 i0 (.string ⟨#[]⟩) 1 16 Try.underlying30 hi hz0 hz1 hz2 rfl (by decide) _ ms.length (ms.map encStr) rfl (hO.alloc _) ⟨wr.heap.size, 0, none⟩ 1 1 [encStr t] rfl rfl (one_new _ _ _) (by intro u hu; simp at hu; subst hu; rfl) (by unfold maxLen; omega) (by omega) (by have := hb.size; simp; omega) ?_; intro v1 w1 ho1 hg1 _; have hb1 : Below w.heap.size w w1 := (hb.alloc hb.size _).grown hg1 (by have := hb.size; simp; omega) (fun z hz => (hO.lt z hz).1); have ho1' : Ot w1 w.heap.size v1 (ms ++ [t]) := (by unfold Ot; simpa using ho1); have g2 := H2.out w1 hb1; have hml1 : (ms ++ [t]).length = k + 1 := (by simp; omega))
            | (at_builtin; refine wpList_append_own _ rfl _ _ 30 rfl w.heap.size 9 i0 (.string ⟨#[]⟩) 1 16 Try.underlying30 hi hz0 hz1 hz2 rfl (by decide) _ (ms ++ [t]).length ((ms ++ [t]).map encStr) rfl (ho1'.alloc _) ⟨w1.heap.size, 0, none⟩ 1 1 [encStr s] rfl rfl (one_new _ _ _) (by intro u hu; simp at hu; subst hu; rfl) (by unfold maxLen; omega) (by omega) (by have := hb1.size; simp; omega) ?_; intro v2 w2 ho2 hg2 _))
          have hb2 : Below w.heap.size w w2 := (hb1.alloc hb1.size _).grown hg2 (by have := hb1.size; simp; omega) (fun z hz => (ho1'.lt z hz).1)
          go_roundw
          case rel => exact ⟨k + 1, true, ms ++ [t] ++ [s], by omega, by go_num, rfl, by unfold Ot; simpa using ho2, by simp only [if_true]; exact F.out, by simp; omega, hb2⟩
          case measure => simp [intOf]; omega
        · have hless : Op.bytesLess t s = false := by rw [less_dec]; exact decide_eq_false hts
          have F : Hid (ms ++ [s] ++ ins t (l.drop (k + 1)) = ins t l) := by
            show _ = _
            rw [← hms, hd.out]
            conv => rhs; unfold ins
            rw [if_neg hts]; simp
          clear hms hts
          go_wp2_with (first | (at_builtin; refine wpList_append_own _ rfl _ _ 30 rfl w.heap.size 9 i0 (.string ⟨#[]⟩) 1 16 Try.underlying30 hi hz0 hz1 hz2 rfl (by decide) _ ms.length (ms.map encStr) rfl (hO.alloc _) ⟨wr.heap.size, 0, none⟩ 1 1 [encStr s] rfl rfl (one_new _ _ _) (by intro u hu; simp at hu; subst hu; rfl) (by unfold maxLen; omega) (by omega) (by have := hb.size; simp; omega) ?_; intro v1 w1 ho1 hg1 _))
          have hb1 : Below w.heap.size w w1 := (hb.alloc hb.size _).grown hg1 (by have := hb.size; simp; omega) (fun z hz => (hO.lt z hz).1)
          go_roundw
          case rel => exact ⟨k + 1, false, ms ++ [s], by omega, by go_num, rfl, by unfold Ot; simpa using ho1, by simp only [Bool.false_eq_true, if_false]; exact F.out, by simp; omega, hb1⟩
          case measure => simp [intOf]; omega
    · obtain rfl : k = n := by omega
      have hl' := hl.out
      rw [← hl', List.drop_length] at hms
      clear hl'
      cases pt with
      | true =>
        simp only [if_true, List.append_nil] at hms
        subst hms
        go_wp2
        go_ret
        exact ⟨_, rfl, hO, hb⟩
      | false =>
        simp only [Bool.false_eq_true, if_false, ins] at hms hml
        have F : Hid (ms ++ [t] = ins t l) := hms
        clear hms
        go_wp2_with (first | (at_builtin; refine wpList_append_own _ rfl _ _ 30 rfl w.heap.size 9 i0 (.string ⟨#[]⟩) 1 16 Try.underlying30 hi hz0 hz1 hz2 rfl (by decide) _ ms.length (ms.map encStr) rfl (hO.alloc _) ⟨wr.heap.size, 0, none⟩ 1 1 [encStr t] rfl rfl (one_new _ _ _) (by intro u hu; simp at hu; subst hu; rfl) (by unfold maxLen; omega) (by omega) (by have := hb.size; simp; omega) ?_; intro v1 w1 ho1 hg1 _))
        have hb1 : Below w.heap.size w w1 := (hb.alloc hb.size _).grown hg1 (by have := hb.size; simp; omega) (fun z hz => (hO.lt z hz).1)
        go_ret
        refine ⟨_, rfl, ?_, hb1⟩
        rw [← F.out]
        unfold Ot
        simpa using ho1
set_option maxRecDepth 1000000 in
theorem with_nil (a : Option Addr) (c : Nat) (t : Tx) (w : World) : Calls Try.prog 26 #[.slice a 0 c, encStr t] w fun e w' => ∃ v, e = .returned v ∧ Ot w' w.heap.size v [t] ∧ Below w.heap.size w w' := by
  obtain ⟨i0, hi, hz0, hz1, hz2⟩ := info_parts info9
  have hO : Ot w w.heap.size (.slice none 0 0) [] := World.ownsRow_nil _ _ _ _
  have hb := Below.refl w.heap.size w
  go_enter Try.func26, Try.ntmps26
  go_wp2
  refine wp_loop_rounds 1 ?_
  rw [rounds_succ]
  go_wp2_with (first | (at_builtin; refine wpList_append_own _ rfl _ _ 30 rfl w.heap.size 9 i0 (.string ⟨#[]⟩) 1 16 Try.underlying30 hi hz0 hz1 hz2 rfl (by decide) _ 0 (([] : List Tx).map encStr) rfl (hO.alloc _) ⟨w.heap.size, 0, none⟩ 1 1 [encStr t] rfl rfl (one_new _ _ _) (by intro u hu; simp at hu; subst hu; rfl) (by unfold maxLen; omega) (by omega) (by simp) ?_; intro v1 w1 ho1 hg1 _))
  have hb1 : Below w.heap.size w w1 := (hb.alloc hb.size _).grown hg1 (by have := hb.size; simp) (fun z hz => (hO.lt z hz).1)
  go_ret
  exact ⟨_, rfl, by unfold Ot; simpa using ho1, hb1⟩
theorem with_any {a : Option Addr} {n c : Nat} {l : List Tx} {w : World} (h : Rs w a l) (hn : l.length = n) (hm : n ≤ 8796093022207) (t : Tx) :
    Calls Try.prog 26 #[.slice a n c, encStr t] w fun e w' => ∃ v, e = .returned v ∧ Ot w' w.heap.size v (ins t l) ∧ Below w.heap.size w w' := by
  rcases h with h | ⟨b, o, rfl, g⟩
  · subst h
    subst hn
    exact with_nil a c t w
  · exact with_core b o n c l t w hm hn (fun i hi => g i (by omega))
set_option maxHeartbeats 4000000 in
set_option maxRecDepth 1000000 in
theorem runder_core (b off n c : Nat) (ns : List Tx) (p : Tx) (w : World) (hn : Hid (ns.length = n)) (hm : n ≤ 8796093022207) (H : Hid (∀ i, i < n → w.cell? ⟨b, off + i, none⟩ = some (encStr (ns.getD i [])))) :
    Calls Try.prog 16 #[.slice (some ⟨b, off, none⟩) n c, encStr p] w fun e w' => ∃ v l, e = .returned v ∧ IsU ns p l ∧ l.length ≤ n ∧ Ot w' w.heap.size v l ∧ Below w.heap.size w w' := by
  go_enter Try.func16, Try.ntmps16
  go_wp2
  go_loopw [5, 6] (fun v i wr => ∃ (k : Nat) (l : List Tx), k ≤ n ∧ i = .int .i64 k ∧ Ot wr w.heap.size v l ∧ IsU (ns.take k) p l ∧ l.length ≤ k ∧ Below w.heap.size w wr) (fun _ i _ => n - (intOf i).toNat)
  case atStart => exact ⟨0, [], Nat.zero_le _, rfl, World.ownsRow_nil _ _ _ _, isU_nil p, Nat.le_refl _, Below.refl _ _⟩
  case round =>
    obtain ⟨k, l, hk, rfl, hO, hU, hlk, hb⟩ := hrel
    obtain ⟨pv, cv, rfl, hR⟩ := hO.shape
    by_cases hlt : k < n
    · have hi1 : (k : Int) < (n : Int) := by omega
      obtain ⟨s, hs⟩ : ∃ s, s = ns.getD k [] := ⟨_, rfl⟩
      have g1 : wr.cell? ⟨b, off + k, none⟩ = some (encStr s) := by rw [hs]; exact cell_below (H.out k hlt) hb
      have hsn : Hid (ns.take (k + 1) = ns.take k ++ [s]) := by
        show _ = _
        have := hn.out
        rw [List.take_add_one, hs]; simp [show k < ns.length by omega]
      have hkc := rkey_any s wr
      clear hs
      cases hy : ky s with
      | none =>
        rw [hy] at hkc
        go_wp2_with (go_at_call 12; refine hkc.mono ?_; rintro e w1 ⟨rfl, hb1⟩; unfold kres)
        go_roundw
        case rel =>
          refine ⟨k + 1, l, by omega, by go_num, ot_below hO hb1, ?_, by omega, below_trans hb hb1 hb.size⟩
          rw [hsn.out]
          exact isU_skip hU (fun x hx => by rw [hy] at hx; cases hx)
        case measure => simp [intOf]; omega
      | some x =>
        rw [hy] at hkc
        have hbg := rbegins_any x p
        by_cases hp : p <+: x
        · rw [decide_eq_true hp] at hbg
          by_cases hxl : x ∈ l
          · go_wp2_with (first
              | (go_at_call 12; refine hkc.mono ?_; rintro e w1 ⟨rfl, hb1⟩; unfold kres)
              | (go_at_call 24; refine (hbg _).mono ?_; rintro e w2 ⟨rfl, hw⟩; rw [hw]; clear hw w2)
              | (go_at_call 25; refine (rin_any (hR.below hb1) rfl (by omega) x).mono ?_; rintro e w3 ⟨rfl, hb3⟩; rw [decide_eq_true hxl]))
            go_roundw
            case rel =>
              refine ⟨k + 1, l, by omega, by go_num, ot_below (ot_below hO hb1) hb3, ?_, by omega, below_trans (below_trans hb hb1 hb.size) hb3 (Nat.le_trans hb.size hb1.size)⟩
              rw [hsn.out]
              exact isU_skip hU (fun y hx _ => by rw [hy] at hx; rw [← Option.some.inj hx]; exact hxl)
            case measure => simp [intOf]; omega
          · go_wp2_with (first
              | (go_at_call 12; refine hkc.mono ?_; rintro e w1 ⟨rfl, hb1⟩; unfold kres)
              | (go_at_call 24; refine (hbg _).mono ?_; rintro e w2 ⟨rfl, hw⟩; rw [hw]; clear hw w2)
              | (go_at_call 25; refine (rin_any (hR.below hb1) rfl (by omega) x).mono ?_; rintro e w3 ⟨rfl, hb3⟩; rw [decide_eq_false hxl])
              | (go_at_call 26; refine (with_any ((hR.below hb1).below hb3) rfl (by omega) x).mono ?_; rintro e w4 ⟨v4, rfl, ho4, hb4⟩))
            have hbw := below_trans (below_trans hb hb1 hb.size) hb3 (Nat.le_trans hb.size hb1.size)
            go_roundw
            case rel =>
              refine ⟨k + 1, ins x l, by omega, by go_num, ot_mono ho4 hbw.size, ?_, ?_, below_trans hbw hb4 hbw.size⟩
              · rw [hsn.out]
                exact isU_ins hU hy hp hxl
              · rw [ins_len]; omega
            case measure => simp [intOf]; omega
        · rw [decide_eq_false hp] at hbg
          go_wp2_with (first
            | (go_at_call 12; refine hkc.mono ?_; rintro e w1 ⟨rfl, hb1⟩; unfold kres)
            | (go_at_call 24; refine (hbg _).mono ?_; rintro e w2 ⟨rfl, hw⟩; rw [hw]; clear hw w2))
          go_roundw
          case rel =>
            refine ⟨k + 1, l, by omega, by go_num, ot_below hO hb1, ?_, by omega, below_trans hb hb1 hb.size⟩
            rw [hsn.out]
            exact isU_skip hU (fun y hx hp' => by rw [hy] at hx; rw [← Option.some.inj hx] at hp'; exact absurd hp' hp)
          case measure => simp [intOf]; omega
    · obtain rfl : k = n := by omega
      have hn' := hn.out
      rw [← hn', List.take_length] at hU
      clear hn'
      go_wp2
      go_ret
      exact ⟨_, l, rfl, hU, hlk, hO, hb⟩
set_option maxRecDepth 1000000 in
theorem runder_nil (a : Option Addr) (c : Nat) (p : Tx) (w : World) : Calls Try.prog 16 #[.slice a 0 c, encStr p] w fun e w' => e = .returned (.slice none 0 0) ∧ w' = w := by
  go_enter Try.func16, Try.ntmps16
  go_wp2
  refine wp_loop_rounds 1 ?_
  rw [rounds_succ]
  go_wp2
  go_ret
  exact ⟨rfl, rfl⟩
theorem runder_any {a : Option Addr} {n c : Nat} {ns : List Tx} {w : World} (h : Rs w a ns) (hn : ns.length = n) (hm : n ≤ 8796093022207) (p : Tx) :
    Calls Try.prog 16 #[.slice a n c, encStr p] w fun e w' => ∃ v l, e = .returned v ∧ IsU ns p l ∧ l.length ≤ n ∧ Ot w' w.heap.size v l ∧ Below w.heap.size w w' := by
  rcases h with h | ⟨b, o, rfl, g⟩
  · subst h
    subst hn
    refine (runder_nil a c p w).mono ?_
    rintro e w' ⟨rfl, rfl⟩
    exact ⟨_, [], rfl, isU_nil p, Nat.le_refl _, World.ownsRow_nil _ _ _ _, Below.refl _ _⟩
  · exact runder_core b o n c ns p w hn hm (fun i hi => g i (by omega))
end
end Go.Proofs.Ytdfhhogibphngaa
