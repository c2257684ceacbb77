/-
  Lists of texts that are put together; chosen.
-/
import Derived.Test.YtkljlfhplnoldaaNsW
namespace Go.Proofs.Ytkljlfhplnoldaa
open Go.RowKit Go.Maps Go.Sort
theorem isU_set {A B l : List Tx} {p : Tx} (h : ∀ x, x ∈ A ↔ x ∈ B) (hU : IsU A p l) : IsU B p l :=
  ⟨hU.1, fun x => by rw [hU.2]; exact ⟨fun ⟨n, hn, e⟩ => ⟨n, (h n).1 hn, e⟩, fun ⟨n, hn, e⟩ => ⟨n, (h n).2 hn, e⟩⟩⟩
theorem isU_own {A l : List Tx} {p : Tx} (hU : IsU A p l) : IsU (l.map nm) p l := by
  refine ⟨hU.1, fun x => ?_⟩
  constructor
  · intro hx
    obtain ⟨n, hn, hy, hp⟩ := (hU.2 x).1 hx
    exact ⟨nm x, List.mem_map.2 ⟨x, hx, rfl⟩, ky_nm (nm_ky hy).2, hp⟩
  · rintro ⟨n, hn, hy, hp⟩
    obtain ⟨y, hy', rfl⟩ := List.mem_map.1 hn
    rw [← nm_inj.1 (nm_ky hy).1] at hy'
    exact hy'
/-- Those that begin with a text. -/
def pk (p : Tx) (l : List Tx) : List Tx := l.filter fun x => p.isPrefixOf x
theorem pk_len (p : Tx) (l : List Tx) (k : Nat) : (pk p (l.take k)).length ≤ k := Nat.le_trans (List.length_filter_le _ _) (by rw [List.length_take]; omega)
theorem pk_yes {p s : Tx} (l : List Tx) (h : p <+: s) : pk p (l ++ [s]) = pk p l ++ [s] := by
  unfold pk
  rw [List.filter_append]
  congr 1
  simp [h]
theorem pk_no {p s : Tx} (l : List Tx) (h : ¬ p <+: s) : pk p (l ++ [s]) = pk p l := by
  unfold pk
  rw [List.filter_append]
  simp [h]
theorem isU_pick {A l : List Tx} {p : Tx} (hU : IsU A [] l) : IsU A p (pk p l) := by
  refine ⟨hU.1.sublist List.filter_sublist, fun x => ?_⟩
  unfold pk
  rw [List.mem_filter, hU.2, List.isPrefixOf_iff_prefix]
  constructor
  · rintro ⟨⟨n, hn, hy, _⟩, hp⟩
    exact ⟨n, hn, hy, hp⟩
  · rintro ⟨n, hn, hy, hp⟩
    exact ⟨⟨n, hn, hy, List.nil_prefix⟩, hp⟩
theorem isU_two {A B l a b : List Tx} {p : Tx} (hU : IsU (A ++ B) p l) (ha : IsU A p a) (hb : IsU B p b) (x : Tx) : x ∈ l ↔ x ∈ a ∨ x ∈ b := by
  rw [hU.2, ha.2, hb.2]
  constructor
  · rintro ⟨n, hn, e⟩
    rcases List.mem_append.1 hn with hn | hn
    · exact .inl ⟨n, hn, e⟩
    · exact .inr ⟨n, hn, e⟩
  · rintro (⟨n, hn, e⟩ | ⟨n, hn, e⟩)
    · exact ⟨n, List.mem_append_left _ hn, e⟩
    · exact ⟨n, List.mem_append_right _ hn, e⟩
theorem run_append_nix {P : Program} {w : World} (t ty e : TypeId) (i : TypeInfo) (ht : P.underlying t = some (.slice e)) (hi : P.info? e = some i) (p : Option Addr) (n cap c : Nat) (h : n ≤ cap) :
    (Builtin.append_ #[t, t] ty #[.slice p n cap, .slice none 0 c]).run P w = .ok (.slice p n cap) w := by
  cases p <;> simp [Builtin.append_, run_underlying ht, sizeOf, typeInfo, hi, Builtin.lenOf, Builtin.firstCells, h, storeCells]
theorem Ot.cap {w : World} {base : Nat} {v : Value} {ts : List Tx} (h : Ot w base v ts) : ∃ p c, v = .slice p ts.length c ∧ ts.length ≤ c := by
  rcases h.2 with ⟨hv, h0⟩ | ⟨g, cap, cur, hv, hg, hb, h1, h2, h3, h4⟩
  · cases ts with
    | nil => exact ⟨none, 0, hv, Nat.le_refl _⟩
    | cons a t => simp at h0
  · exact ⟨_, _, hv, h1⟩
/-- append(v, x..) of texts, where v is a list of its own. -/
theorem wpList_apT {w : World} {ops : Array Oper} {rest : List Oper} {o : Oper} {a : Act} {Q : Exit → Act → World → Prop} (hgd : o.guard = none) (s x : Operand) (ho : o.op = .call { callee := .builtin .append, args := #[s, x], argTypes := #[22, 22] })
    (base : Nat) (v : Value) (ts : List Tx) (hs : a.eval s = v) (hown : Ot w base v ts) (ad : Option Addr) (n c : Nat) (xs : List Tx) (hx : a.eval x = .slice ad n c) (hr : Rs w ad xs) (hn : xs.length = n) (hm : ts.length + n ≤ 8796093022208) (hbase : base ≤ w.heap.size)
    (h : ∀ v' w', Ot w' base v' (ts ++ xs) → w.grownBy w' v.ownBlock → wpList Try.prog ops Q rest (a.put o.dst v') w') : wpList Try.prog ops Q (o :: rest) a w := by
  obtain ⟨i0, hi, hz0, hz1, hz2⟩ := info_parts info9
  cases ad with
  | none =>
    have hxs : xs = [] := by
      rcases hr with e | ⟨b, off, e, _⟩
      · exact e
      · cases e
    subst hxs
    simp at hn
    subst hn
    obtain ⟨p, cap, hv, hcap⟩ := hown.cap
    subst hv
    refine wpList_plain hgd fun K hK => ?_
    have hrun := run_append_nix (P := Try.prog) (w := w) 22 o.type 9 i0 Try.underlying22 hi p ts.length cap c hcap
    unfold Oper.wp
    simp [execOp, ho, resolve, invoke, builtin, hs, hx, hrun, Result.andThen]
    exact hK _ _ (h _ w (by rw [List.append_nil]; exact hown) ⟨rfl, rfl, rfl, Nat.le_refl _, fun _ _ _ => rfl⟩)
  | some ad =>
    subst hn
    have S : ∀ j u, (xs.map encStr)[j]? = some u → w.cell? (ad.add j) = some u := by
      intro j u hu
      rcases hr with e | ⟨b, off, e, hc⟩
      · subst e; simp at hu
      · injection e with e
        subst e
        have hj : j < xs.length := by
          rcases Nat.lt_or_ge j xs.length with h1 | h1
          · exact h1
          · rw [List.getElem?_eq_none (by simpa using h1)] at hu; cases hu
        rw [add_pl, hc j hj]
        simp [hj] at hu ⊢
        exact hu
    refine wpList_append_own _ hgd _ _ 22 ho base 9 i0 (.string ⟨#[]⟩) 1 16 Try.underlying22 hi hz0 hz1 hz2 rfl (by decide) v ts.length (ts.map encStr) hs hown ad xs.length c (xs.map encStr) hx (by simp) S (by intro u hu; obtain ⟨y, _, rfl⟩ := List.mem_map.1 hu; rfl) (by unfold maxLen; omega) (by omega) hbase ?_
    intro v' w' ho' hg _
    refine h v' w' ?_ hg
    unfold Ot
    rw [List.length_append, List.map_append]; exact ho'
theorem Ot.alloc {w : World} {base : Nat} {v : Value} {ts : List Tx} (h : Ot w base v ts) (o : Obj) : Ot (w.alloc o) base v ts := World.ownsRow.alloc h o
/-- One text that lies in a new cell. -/
theorem rs_one (w : World) (x : Tx) : Rs (w.alloc (.cells #[encStr x] 9)) (some ⟨w.heap.size, 0, none⟩) [x] := rs_new w [x]
section
attribute [local irreducible] Calls
set_option maxHeartbeats 4000000 in
set_option maxRecDepth 1000000 in
theorem chosen_core (b o n c : Nat) (l : List Tx) (p : Tx) (w : World) (hn : n ≤ 8796093022207) (hl : Hid (l.length = n)) (H1 : Hid (∀ i, i < n → w.cell? ⟨b, o + i, none⟩ = some (encStr (l.getD i [])))) :
    Calls Try.prog 6 #[.slice (some ⟨b, o, none⟩) n c, encStr p] w fun e w' => ∃ v, e = .returned v ∧ Ot w' w.heap.size v (pk p l) ∧ Below w.heap.size w w' := by
  go_enter Try.func6, Try.ntmps6
  go_wp2
  go_loopw [5, 6] (fun v i wr => ∃ k : Nat, k ≤ n ∧ i = .int .i64 k ∧ Ot wr w.heap.size v (pk p (l.take k)) ∧ Below w.heap.size w wr) (fun _ i _ => n - (intOf i).toNat)
  case atStart => exact ⟨0, Nat.zero_le _, rfl, World.ownsRow_nil _ _ _ _, Below.refl _ _⟩
  case round =>
    obtain ⟨k, hk, rfl, hO, hb⟩ := hrel
    by_cases hlt : k < n
    · have hi1 : (k : Int) < (n : Int) := by omega
      obtain ⟨s, hs⟩ : ∃ s, s = l.getD k [] := ⟨_, rfl⟩
      have g1 : wr.cell? ⟨b, o + k, none⟩ = some (encStr s) := by rw [hs]; exact cell_below (H1.out k hlt) hb
      have hsn : Hid (l.take (k + 1) = l.take k ++ [s]) := by
        show _ = _
        have := hl.out
        rw [List.take_add_one, hs]; simp [show k < l.length by omega]
      have hlen := pk_len p l k
      have hbg := begins_any s p
      clear hs
      by_cases hp : p <+: s
      · rw [decide_eq_true hp] at hbg
        have F : Hid (pk p (l.take (k + 1)) = pk p (l.take k) ++ [s]) := by show _ = _; rw [hsn.out, pk_yes _ hp]
        go_wp2_with (first
          | (go_at_call 11; refine (hbg _).mono ?_; rintro e w6 ⟨rfl, hw⟩; rw [hw]; clear hw w6)
          | (at_builtin; refine wpList_apT rfl _ _ rfl w.heap.size _ _ rfl (hO.alloc _) (some ⟨wr.heap.size, 0, none⟩) 1 1 [s] rfl (rs_one wr s) rfl (by omega) (by have := hb.size; simp; omega) ?_; intro v1 w1 ho1 hg1))
        have hb1 : Below w.heap.size w w1 := (hb.alloc hb.size _).grown hg1 (by have := hb.size; simp; omega) (fun z hz => (hO.lt z hz).1)
        go_roundw
        case rel => exact ⟨k + 1, by omega, by go_num, by rw [F.out]; exact ho1, hb1⟩
        case measure => simp [intOf]; omega
      · rw [decide_eq_false hp] at hbg
        have F : Hid (pk p (l.take (k + 1)) = pk p (l.take k)) := by show _ = _; rw [hsn.out, pk_no _ hp]
        go_wp2_with (first
          | (go_at_call 11; refine (hbg _).mono ?_; rintro e w6 ⟨rfl, hw⟩; rw [hw]; clear hw w6))
        go_roundw
        case rel => exact ⟨k + 1, by omega, by go_num, by rw [F.out]; exact hO, hb⟩
        case measure => simp [intOf]; omega
    · obtain rfl : k = n := by omega
      have hl' := hl.out
      rw [← hl', List.take_length] at hO
      clear hl'
      go_wp2
      go_ret
      exact ⟨_, rfl, hO, hb⟩
set_option maxRecDepth 1000000 in
theorem chosen_nil (a : Option Addr) (c : Nat) (p : Tx) (w : World) : Calls Try.prog 6 #[.slice a 0 c, encStr p] w fun e w' => e = .returned (.slice none 0 0) ∧ w' = w := by
  go_enter Try.func6, Try.ntmps6
  go_wp2
  refine wp_loop_rounds 1 ?_
  rw [rounds_succ]
  go_wp2
  go_ret
  exact ⟨rfl, rfl⟩
theorem chosen_any {a : Option Addr} {n c : Nat} {l : List Tx} {w : World} (h : Rs w a l) (hn : l.length = n) (hm : n ≤ 8796093022207) (p : Tx) :
    Calls Try.prog 6 #[.slice a n c, encStr p] w fun e w' => ∃ v, e = .returned v ∧ Ot w' w.heap.size v (pk p l) ∧ Below w.heap.size w w' := by
  rcases h with h | ⟨b, o, rfl, g⟩
  · subst h
    subst hn
    refine (chosen_nil a c p w).mono ?_
    rintro e w' ⟨rfl, rfl⟩
    exact ⟨_, rfl, World.ownsRow_nil _ _ _ _, Below.refl _ _⟩
  · exact chosen_core b o n c l p w hm hn (fun i hi => g i (by omega))
end
end Go.Proofs.Ytkljlfhplnoldaa
