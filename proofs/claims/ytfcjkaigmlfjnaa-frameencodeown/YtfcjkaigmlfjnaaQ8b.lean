/-
  Package frame: 'blockLengths', 'Sizes', 'Length'.
-/
import Derived.Test.YtfcjkaigmlfjnaaQ8
import Derived.Test.YtfcjkaigmlfjnaaOb
namespace Go.Proofs.Ytfcjkaigmlfjnaa
open Go.RowKit
/-- Numbers as cells; an own list of them. -/
def ic (ns : List Nat) : List Value := ns.map fun n : Nat => Value.int .i64 (n : Int)
def Oi (w : World) (base : Nat) (v : Value) (ns : List Nat) : Prop := w.ownsRow base 3 1 v ns.length (ic ns)
theorem info3 : (Try.prog.info? 3).map (fun i => (i.zero, i.size, i.bytes)) = some (some (.int .i64 0), 1, 8) := by kernel_rfl
theorem Oi.nil (w : World) (base : Nat) : Oi w base (.slice none 0 0) [] := World.ownsRow_nil _ _ _ _
theorem Oi.below {w w' : World} {base : Nat} {v : Value} {ns : List Nat} (h : Oi w base v ns) (hb : Below w.heap.size w w') : Oi w' base v ns := own_below h hb
/-- A row of values that reads so. -/
def Vr (w : World) (p : Option Addr) (xs : List Value) : Prop := xs = [] ∨ ∃ b o, p = some ⟨b, o, none⟩ ∧ ∀ i u, xs[i]? = some u → w.cell? ⟨b, o + i, none⟩ = some u
theorem Vr.below {w w' : World} {p : Option Addr} {xs : List Value} (h : Vr w p xs) (hb : Below w.heap.size w w') : Vr w' p xs := by
  rcases h with h | ⟨b, o, e, hc⟩
  · exact .inl h
  · exact .inr ⟨b, o, e, fun i u hu => cell_below (hc i u hu) hb⟩
theorem own_rd {t : TypeId} {w : World} {base n : Nat} {v : Value} {xs : List Value} (h : w.ownsRow base t 1 v n xs) (hn : xs.length = n) : ∃ p cap, v = .slice p n cap ∧ n ≤ cap ∧ Vr w p xs := by
  rcases h.2 with ⟨hv, h0⟩ | ⟨g, cap, c, hv, hg, hh, hc, hm, hs, ht⟩
  · subst h0; exact ⟨none, 0, hv, Nat.le_refl _, .inl (List.length_eq_zero_iff.1 hn)⟩
  · refine ⟨some ⟨g, 0, none⟩, cap, hv, hc, .inr ⟨g, 0, rfl, fun i u hu => ?_⟩⟩
    have := h.cells (g := g) (by rw [hv]; rfl) i u hu
    rwa [add_pl] at this
theorem ic_len (ns : List Nat) : (ic ns).length = ns.length := by simp [ic]
theorem ic_at (ns : List Nat) (i : Nat) (h : i < ns.length) : (ic ns)[i]? = some (.int .i64 ((ns.getD i 0 : Nat) : Int)) := by simp [ic, List.getD, h]
theorem Oi.rd {w : World} {base : Nat} {v : Value} {ns : List Nat} (h : Oi w base v ns) : ∃ p cap, v = .slice p ns.length cap ∧ ns.length ≤ cap ∧ Vr w p (ic ns) := own_rd h (ic_len ns)
/-- A number of such a row. -/
theorem Vr.num {w : World} {p : Option Addr} {ns : List Nat} (h : Vr w p (ic ns)) (i : Nat) (hi : i < ns.length) : ∃ b o, p = some ⟨b, o, none⟩ ∧ w.cell? ⟨b, o + i, none⟩ = some (.int .i64 ((ns.getD i 0 : Nat) : Int)) := by
  rcases h with h | ⟨b, o, e, hc⟩
  · have := ic_len ns; rw [h] at this; simp at this; omega
  · exact ⟨b, o, e, hc i _ (ic_at ns i hi)⟩
/-- append(v, x) of one number. -/
theorem wpList_api {w : World} {ops : Array Oper} {rest : List Oper} {o : Oper} {a : Act} {Q : Exit → Act → World → Prop} (hgd : o.guard = none) (s x : Operand) (ho : o.op = .call { callee := .builtin .append, args := #[s, x], argTypes := #[46, 46] })
    (base : Nat) (v : Value) (ns : List Nat) (hs : a.eval s = v) (hown : Oi w base v ns) (ad : Addr) (c : Nat) (n : Nat) (hx : a.eval x = .slice (some ad) 1 c) (hr : w.cell? ad = some (.int .i64 (n : Int))) (hm : ns.length + 1 ≤ 1099511627776) (hbase : base ≤ w.heap.size)
    (h : ∀ v' w', Oi w' base v' (ns ++ [n]) → w.grownBy w' v.ownBlock → wpList Try.prog ops Q rest (a.put o.dst v') w') : wpList Try.prog ops Q (o :: rest) a w := by
  obtain ⟨i0, hi, hz0, hz1, hz2⟩ := info_parts info3
  have S : ∀ j u, ([.int .i64 (n : Int)] : List Value)[j]? = some u → w.cell? (ad.add j) = some u := by
    intro j u hu
    match j with
    | 0 =>
      simp at hu
      rw [show ad.add 0 = ad by unfold Addr.add; split <;> simp_all, hr, hu]
    | j + 1 => simp at hu
  have hl : (ic ns).length = ns.length := by simp [ic]
  refine wpList_append_own _ hgd _ _ 46 ho base 3 i0 (.int .i64 0) 1 8 Try.underlying46 hi hz0 hz1 hz2 rfl (by decide) v ns.length _ hs hown ad 1 c [.int .i64 (n : Int)] hx rfl S (by intro u hu; simp at hu; subst hu; rfl) (by unfold maxLen; omega) (by omega) hbase ?_
  intro v' w' ho' hg _
  refine h v' w' ?_ hg
  unfold Oi ic
  simpa [ic] using ho'
theorem Hm.lt {w : World} {g : Nat} {o : Obj} (H : w.heap[g]? = some o) : g < w.heap.size := by
  rcases Nat.lt_or_ge g w.heap.size with h1 | h1
  · exact h1
  · rw [Array.getElem?_eq_none h1] at H; cases H
theorem roundUp_nat (d k : Nat) (hd : d ≤ 16711680) (hk : 1 ≤ k ∧ k ≤ 255) (w : World) :
    Calls Try.prog 30 #[.int .i64 (d : Int), .int .i64 (k : Int)] w fun e w' => e = .returned (.int .i64 (((d + k - 1) / k : Nat) : Int)) ∧ w' = w := by
  have h := roundedUp_any (d : Int) (k : Int) (by omega) (by omega) w
  have e : cdv (d : Int) (k : Int) = (((d + k - 1) / k : Nat) : Int) := by
    unfold cdv; rw [Int.natCast_ediv]; congr 1; omega
  rwa [e] at h
section
attribute [local irreducible] Calls el
set_option maxRecDepth 1000000 in
set_option maxHeartbeats 1000000 in
theorem blens_any (k m b sz : Nat) (hk : 1 ≤ k ∧ k ≤ 255) (hb : 1 ≤ b ∧ b ≤ 65536) (hz : sz ≤ 1048576) (w : World) :
    Calls Try.prog 18 #[.agg (shC k m b), .int .i64 (sz : Int)] w fun e w' => ∃ v, e = .returned v ∧ Oi w' w.heap.size v (bls k (k * b) sz sz) ∧ Below w.heap.size w w' := by
  have al : ∀ (W : World) (o : Obj), Below W.heap.size W (W.alloc o) := fun W o => (Below.refl _ _).alloc (Nat.le_refl _) o
  unfold shC
  have kb : 1 ≤ k * b ∧ k * b ≤ 16711680 := ⟨Nat.mul_le_mul hk.1 hb.1, Nat.mul_le_mul hk.2 hb.2⟩
  have kbi : 1 ≤ (k : Int) * (b : Int) ∧ (k : Int) * (b : Int) ≤ 16711680 := by rw [← Int.natCast_mul]; omega
  go_enter Try.func18, Try.ntmps18
  go_wp2
  have hsi : (k : Int) * (b : Int) = ((k * b : Nat) : Int) := by simp
  rw [hsi]
  clear hsi kbi
  obtain ⟨s, HS⟩ : ∃ s, Hid (k * b = s) := ⟨_, rfl⟩
  rw [HS.out] at kb ⊢
  go_loopw [5, 7] (fun o i wr => ∃ (f l : Nat) (z : Int) (ys : List Nat), i = .int .i64 z ∧ (0 < z → z = l) ∧ (z ≤ 0 → l = 0) ∧ -16711680 ≤ z ∧ l ≤ f ∧ ys.length + f = sz ∧ ys ++ bls k s f l = bls k s sz sz ∧ Oi wr w.heap.size o ys ∧ wr.heap[w.heap.size]? = some (.cells #[.int .i64 (k : Int), .int .i64 (m : Int), .int .i64 (b : Int)] 24) ∧ Below w.heap.size w wr) (fun _ i _ => (intOf i).toNat)
  case atStart => exact ⟨sz, sz, sz, [], rfl, fun _ => rfl, fun _ => by omega, by omega, Nat.le_refl _, by simp, rfl, Oi.nil _ _, heap_alloc_new w _, al _ _⟩
  case round =>
    obtain ⟨f, l, z, ys, rfl, hz1, hz2, hz3, hlf, hyf, he, hO, hh, hb'⟩ := hrel
    have hsz := hb'.size
    by_cases hlt : 0 < z
    · have hzl := hz1 hlt
      subst hzl
      have c0 := cell_of_row wr w.heap.size 0 _ _ (0, 0) hh
      obtain ⟨f, rfl⟩ : ∃ f', f = f' + 1 := ⟨f - 1, by omega⟩
      have hl0 : ¬ l = 0 := by omega
      have hst : bls k s (f + 1) l = (min l s + k - 1) / k :: bls k s f (l - s) := by
        show (if l = 0 then [] else _) = _
        rw [if_neg hl0]
      have RU := (show Hid _ from fun (d : Nat) (hd : d ≤ 16711680) w => roundUp_nat d k hd hk w)
      rcases Nat.lt_or_ge s l with hls | hls
      · have hmn : min l s = s := Nat.min_eq_right (Nat.le_of_lt hls)
        have i1 : (l : Int) ≤ 1048576 := by omega
        have i2 : (s : Int) ≤ 16711680 := by omega
        rw [hmn] at hst
        rw [hst, List.append_cons] at he
        clear hst hmn
        have rc := cell_of_row (wr.alloc (.cells #[.int .i64 (((s + k - 1) / k : Nat) : Int)] 3)) wr.heap.size 0 _ _ (0, 0) (heap_alloc_new wr _)
        go_wp2_with (first | (go_at_call 30; refine (RU.out s (by omega) _).mono ?_; rintro e w1 ⟨rfl, h⟩; obtain rfl := h.symm) | (at_builtin; refine wpList_api rfl (.tmp 19) (.tmp 26) rfl w.heap.size u5 ys rfl (hO.below (al _ _)) ⟨wr.heap.size, 0, none⟩ 1 ((s + k - 1) / k) rfl rc (by omega) (Nat.le_trans hsz (al _ _).size) ?_; intro v1 w1 ho1 hg1))
        go_roundw
        case rel =>
          have hbA : Below w.heap.size w w1 := below_append (t := 3) (hb'.alloc hsz _) (Nat.le_trans hsz (al _ _).size) hg1 (hO.below (al _ _)) (Nat.le_refl _)
          refine ⟨f, l - s, _, _, rfl, fun _ => by omega, fun _ => by omega, by omega, by omega, by rw [List.length_append]; simp; omega, he, ho1, ?_, hbA⟩
          have hk := own_lt (g := w.heap.size) (hO.below (al wr (.cells #[.int .i64 (((s + k - 1) / k : Nat) : Int)] 3)))
          rw [hg1.block w.heap.size (by rw [World.size_alloc]; omega) (fun e => ?_), heap_alloc_old wr _ (Hm.lt hh)]
          · exact hh
          · obtain ⟨cs, hcs⟩ := (hk e.symm).2.2
            rw [heap_alloc_old wr _ (Hm.lt hh), hh] at hcs
            injection hcs with hcs
            injection hcs with _ hcs
            cases hcs
        case measure => simp [intOf]; omega
      · have hmn : min l s = l := Nat.min_eq_left hls
        have i1 : (l : Int) ≤ 1048576 := by omega
        have i2 : (s : Int) ≤ 16711680 := by omega
        rw [hmn] at hst
        rw [hst, List.append_cons] at he
        clear hst hmn
        have rc := cell_of_row (wr.alloc (.cells #[.int .i64 (((l + k - 1) / k : Nat) : Int)] 3)) wr.heap.size 0 _ _ (0, 0) (heap_alloc_new wr _)
        go_wp2_with (first | (go_at_call 30; refine (RU.out l (by omega) _).mono ?_; rintro e w1 ⟨rfl, h⟩; obtain rfl := h.symm) | (at_builtin; refine wpList_api rfl (.tmp 19) (.tmp 26) rfl w.heap.size u5 ys rfl (hO.below (al _ _)) ⟨wr.heap.size, 0, none⟩ 1 ((l + k - 1) / k) rfl rc (by omega) (Nat.le_trans hsz (al _ _).size) ?_; intro v1 w1 ho1 hg1))
        go_roundw
        case rel =>
          have hbA : Below w.heap.size w w1 := below_append (t := 3) (hb'.alloc hsz _) (Nat.le_trans hsz (al _ _).size) hg1 (hO.below (al _ _)) (Nat.le_refl _)
          refine ⟨f, l - s, _, _, rfl, fun _ => by omega, fun _ => by omega, by omega, by omega, by rw [List.length_append]; simp; omega, he, ho1, ?_, hbA⟩
          have hk := own_lt (g := w.heap.size) (hO.below (al wr (.cells #[.int .i64 (((l + k - 1) / k : Nat) : Int)] 3)))
          rw [hg1.block w.heap.size (by rw [World.size_alloc]; omega) (fun e => ?_), heap_alloc_old wr _ (Hm.lt hh)]
          · exact hh
          · obtain ⟨cs, hcs⟩ := (hk e.symm).2.2
            rw [heap_alloc_old wr _ (Hm.lt hh), hh] at hcs
            injection hcs with hcs
            injection hcs with _ hcs
            cases hcs
        case measure => simp [intOf]; omega
    · have hl0 := hz2 (by omega)
      subst hl0
      have hnil : bls k s f 0 = [] := by cases f <;> rfl
      rw [hnil, List.append_nil] at he
      subst he
      clear hnil
      go_wp2
      go_ret
      exact ⟨_, rfl, by rw [HS.out]; exact hO, hb'⟩
end
end Go.Proofs.Ytfcjkaigmlfjnaa
