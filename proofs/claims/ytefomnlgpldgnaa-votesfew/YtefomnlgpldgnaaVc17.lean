/-
  Votes: the functions that ask of one place; 'placesWhere', 'hidden', 'Stale'.
-/
import Derived.Test.YtefomnlgpldgnaaVb17
import Derived.Deep.RegionWith
import Derived.Laws.StructEq
namespace Go.Proofs.Ytefomnlgpldgnaa
open Go.RowKit
/-- An own list of numbers. -/
def On (w : World) (base : Nat) (v : Value) (L : List Nat) : Prop := w.ownsRow base 3 1 v L.length (L.map fun i : Nat => Value.int .i64 (i : Int))
theorem infoI : (Try.prog.info? 3).map (fun i => (i.zero, i.size, i.bytes)) = some (some (.int .i64 0), 1, 8) := by kernel_rfl
theorem On.nil (w : World) (base : Nat) : On w base (.slice none 0 0) [] := World.ownsRow_nil _ _ _ _
theorem own_belowV {w w' : World} {base n k : Nat} {t : TypeId} {v : Value} {xs : List Value} (h : w.ownsRow base t k v n xs) (hb : Below w.heap.size w w') : w'.ownsRow base t k v n xs := by
  refine ⟨h.1, ?_⟩
  rcases h.2 with h1 | ⟨g, cap, c, hv, hg, hh, hc⟩
  · exact .inl h1
  · refine .inr ⟨g, cap, c, hv, hg, ?_, hc⟩
    rw [hb.block g (by
      rcases Nat.lt_or_ge g w.heap.size with h1 | h1
      · exact h1
      · rw [Array.getElem?_eq_none h1] at hh; cases hh)]
    exact hh
theorem On.below {w w' : World} {base : Nat} {v : Value} {L : List Nat} (h : On w base v L) (hb : Below w.heap.size w w') : On w' base v L := own_belowV h hb
theorem On.mono {w : World} {base base' : Nat} {v : Value} {L : List Nat} (h : On w base v L) (hb : base' ≤ base) : On w base' v L := by
  refine ⟨h.1, ?_⟩
  rcases h.2 with h1 | ⟨g, cap, c, hv, hg, hh, hc⟩
  · exact .inl h1
  · exact .inr ⟨g, cap, c, hv, Nat.le_trans hb hg, hh, hc⟩
/-- A list of numbers that is read. -/
def Rn (w : World) (v : Value) (L : List Nat) : Prop := ∃ p c, v = .slice p L.length c ∧ L.length ≤ c ∧ (L = [] ∨ ∃ b o, p = some ⟨b, o, none⟩ ∧ ∀ i, i < L.length → w.cell? ⟨b, o + i, none⟩ = some (.int .i64 (L.getD i 0 : Int)))
theorem Rn.below {w w' : World} {v : Value} {L : List Nat} (h : Rn w v L) (hb : Below w.heap.size w w') : Rn w' v L := by
  obtain ⟨p, c, e, hc, h⟩ := h
  refine ⟨p, c, e, hc, ?_⟩
  rcases h with h | ⟨b, o, e2, h⟩
  · exact .inl h
  · exact .inr ⟨b, o, e2, fun i hi => cell_below (h i hi) hb⟩
theorem On.rn {w : World} {base : Nat} {v : Value} {L : List Nat} (h : On w base v L) : Rn w v L := by
  rcases h.2 with ⟨h1, h0⟩ | ⟨g, cap, cur, hv, hg, hh, hn, _, _, ht⟩
  · rw [List.length_eq_zero_iff.1 h0]
    exact ⟨none, 0, h1, Nat.le_refl _, .inl rfl⟩
  · refine ⟨_, cap, hv, hn, .inr ⟨g, 0, rfl, fun i hi => ?_⟩⟩
    have := h.cells (g := g) (by rw [hv]; rfl) i (.int .i64 (L.getD i 0 : Int)) (by simp [List.getD, hi])
    rw [Nat.zero_add]
    simpa [add_pl] using this
/-- append(v, i) of one number. -/
theorem wpList_apN {w : World} {ops : Array Oper} {rest : List Oper} {o : Oper} {a : Act} {Q : Exit → Act → World → Prop} (hgd : o.guard = none) (s x : Operand) (ho : o.op = .call { callee := .builtin .append, args := #[s, x], argTypes := #[25, 25] })
    (base : Nat) (v : Value) (L : List Nat) (i : Nat) (hs : a.eval s = v) (hown : On w base v L) (ad : Addr) (c : Nat) (hx : a.eval x = .slice (some ad) 1 c) (hr : w.cell? ad = some (.int .i64 (i : Int))) (hm : L.length + 1 ≤ 17592186044416) (hbase : base ≤ w.heap.size)
    (h : ∀ v' w', On w' base v' (L ++ [i]) → w.grownBy w' v.ownBlock → wpList Try.prog ops Q rest (a.put o.dst v') w') : wpList Try.prog ops Q (o :: rest) a w := by
  obtain ⟨i0, hi, hz0, hz1, hz2⟩ := info_parts infoI
  have S : ∀ j t, ([.int .i64 (i : Int)] : List Value)[j]? = some t → w.cell? (ad.add j) = some t := by
    intro j t ht
    match j with
    | 0 =>
      simp at ht
      rw [show ad.add 0 = ad by unfold Addr.add; split <;> simp_all, hr, ht]
    | j + 1 => simp at ht
  refine wpList_append_own _ hgd _ _ 25 ho base 3 i0 (.int .i64 0) 1 8 Try.underlying25 hi hz0 hz1 hz2 rfl (by decide) v L.length _ hs hown ad 1 c [.int .i64 (i : Int)] hx rfl S (by intro t ht; simp at ht; subst ht; rfl) (by unfold maxLen; omega) (by omega) hbase ?_
  intro v' w' ho' hg _
  refine h v' w' ?_ hg
  unfold On
  simpa using ho'
theorem On.grown {w w' : World} {base B : Nat} {v : Value} {L : List Nat} {w0 : World} (h : On w base v L) (hb : Below B w0 w) (hB : B ≤ w.heap.size) (hg : w.grownBy w' v.ownBlock) (hbase : B ≤ base) : Below B w0 w' := below_append (t := 3) hb hB hg h hbase
set_option maxRecDepth 100000 in
theorem eq_Gn (a b c d : Int) (f : Nat) (w : World) : (Op.equalIn (f + 2) 31 (.agg #[.int .i64 a, .int .i64 b]) (.agg #[.int .i64 c, .int .i64 d])).run Try.prog w = .ok (a == c && b == d) w := by
  have ei : ∀ (a b : Int) (w : World), (Op.equalIn (f + 1) 3 (.int .i64 a) (.int .i64 b)).run Try.prog w = .ok (a == b) w := fun a b w => run_equalIn_int w f 3 .i64 .i64 a b Try.underlying3
  rw [Op.equalIn]
  go_simp
  repeat' split
  all_goals simp [*]

theorem SnAt.all {w : World} {g : Nat} {s : Sn} (H : SnAt w g 0 s) : w.cell? ⟨g, 0, none⟩ = some (.int .i64 s.kd) ∧ w.cell? ⟨g, 1, none⟩ = some (.int .u8 (el s.hd.a0)) ∧ w.cell? ⟨g, 2, none⟩ = some (.int .u8 (el s.hd.a1)) ∧ w.cell? ⟨g, 3, none⟩ = some (.int .u8 (el s.hd.a2)) ∧ w.cell? ⟨g, 4, none⟩ = some (.int .u8 (el s.hd.a3)) ∧ w.cell? ⟨g, 5, none⟩ = some (.int .u8 (el s.hd.a4)) ∧ w.cell? ⟨g, 6, none⟩ = some (.int .u8 (el s.hd.a5)) ∧ w.cell? ⟨g, 7, none⟩ = some (.int .u8 (el s.hd.a6)) ∧ w.cell? ⟨g, 8, none⟩ = some (.int .u8 (el s.hd.a7)) ∧ w.cell? ⟨g, 9, none⟩ = some (.int .i64 s.hd.k) ∧ w.cell? ⟨g, 10, none⟩ = some (.int .i64 s.hd.m) ∧ w.cell? ⟨g, 11, none⟩ = some (.int .i64 s.hd.b) ∧ w.cell? ⟨g, 12, none⟩ = some (.string (bstr s.hd.key)) ∧ w.cell? ⟨g, 13, none⟩ = some (.int .i64 s.hd.sz) ∧ w.cell? ⟨g, 14, none⟩ = some (.int .i64 s.hd.ix) ∧ w.cell? ⟨g, 15, none⟩ = some (.int .i64 s.hd.ep) ∧ w.cell? ⟨g, 16, none⟩ = some (.int .i64 s.hd.ct) ∧ w.cell? ⟨g, 17, none⟩ = some (s.bv) ∧ w.cell? ⟨g, 18, none⟩ = some (.int .i64 s.er) := by
  have h := fun j u (hj : s.cs.toList[j]? = some u) => H j u hj
  simp only [Nat.zero_add] at h
  exact ⟨h 0 _ rfl, h 1 _ rfl, h 2 _ rfl, h 3 _ rfl, h 4 _ rfl, h 5 _ rfl, h 6 _ rfl, h 7 _ rfl, h 8 _ rfl, h 9 _ rfl, h 10 _ rfl, h 11 _ rfl, h 12 _ rfl, h 13 _ rfl, h 14 _ rfl, h 15 _ rfl, h 16 _ rfl, h 17 _ rfl, h 18 _ rfl⟩
def sn0 : Sn := ⟨0, ⟨0#8, 0#8, 0#8, 0#8, 0#8, 0#8, 0#8, 0#8, 0, 0, 0, [], 0, 0, 0, 0⟩, .slice none 0 0, 0⟩
theorem zero_Sn (w : World) : (zeroValue 39).run Try.prog w = .ok (.agg sn0.cs) w := by kernel_rfl
theorem snC_one (s : Sn) (h : s.bv.oneCell' = true) : (s.cs.all fun x => x.oneCell') = true := by
  simp [Sn.cs, h, show ∀ k z, (Value.int k z).oneCell' = true from fun _ _ => rfl, show ∀ b, (Value.string b).oneCell' = true from fun _ => rfl]
theorem snC_same (s s' : Sn) : s.cs.size = s'.cs.size := rfl
theorem eg_Wr (x y : Operand) (u v : Array Value) (w : World) : (eqGuard .neq 64 x y (.agg u) (.agg v)).run Try.prog w = .ok () w := by kernel_rfl
theorem meas_v17 {t N : Nat} (h : t < N) : N - (intOf (.int .i64 ((t + 1 : Nat) : Int))).toNat < N - (intOf (.int .i64 (t : Int))).toNat := by
  simp only [intOf, Int.toNat_natCast]; omega
section
attribute [local irreducible] Calls Sn.cs GB
set_option maxRecDepth 1000000 in
theorem eq_Wr (a b : Wg) (w : World) : (Op.equalIn 10000 64 (.agg (wgC a)) (.agg (wgC b))).run Try.prog w = .ok (decide (a = b)) w := by
  have ea := fun w => eq_Gn a.1 a.2.1 b.1 b.2.1 9997 w
  obtain ⟨a1, a2, a3⟩ := a
  obtain ⟨b1, b2, b3⟩ := b
  unfold wgC
  go_simp
  by_cases h1 : a1 = b1 <;> by_cases h2 : a2 = b2 <;> by_cases h3 : a3 = b3 <;> simp [*]
theorem neq_Wr (a b : Wg) (w : World) : (binOp .neq 64 (.agg (wgC a)) (.agg (wgC b))).run Try.prog w = .ok (.bool (!decide (a = b))) w := by
  rw [run_neq_struct, eq_Wr]; rfl
def hidB (k : Int) : Bool := !decide (k = 2) && !decide (k = 1)
set_option maxRecDepth 1000000 in
theorem hid1_any (s : Sn) (w : World) :
    Calls Try.prog 29 #[.agg s.cs] w fun e w' => e = .returned (.bool (hidB s.kd)) ∧ Below w.heap.size w w' := by
  by_cases h2 : s.kd = 2
  · have hh : hidB s.kd = false := by unfold hidB; simp [h2]
    rw [hh]
    go_enter Try.func29, Try.ntmps29
    go_wp2_with (first
      | (refine wpList_bxB rfl _ rfl rfl ?_; intro w1 hG1 hb1 hs1; have c0 := (SnAt.ofB hG1).cells.kd; rw [h2] at c0))
    go_ret
    exact ⟨rfl, hb1⟩
  · have d2 : (s.kd != 2) = true := by simp [h2]
    by_cases h1 : s.kd = 1
    · have hh : hidB s.kd = false := by unfold hidB; simp [h1]
      rw [hh]
      go_enter Try.func29, Try.ntmps29
      go_wp2_with (first
        | (refine wpList_bxB rfl _ rfl rfl ?_; intro w1 hG1 hb1 hs1; have c0 := (SnAt.ofB hG1).cells.kd; rw [h1] at c0))
      go_ret
      exact ⟨rfl, hb1⟩
    · have d1 : (s.kd != 1) = true := by simp [h1]
      have hh : hidB s.kd = true := by unfold hidB; simp [h1, h2]
      rw [hh]
      go_enter Try.func29, Try.ntmps29
      go_wp2_with (first
        | (refine wpList_bxB rfl _ rfl rfl ?_; intro w1 hG1 hb1 hs1; have c0 := (SnAt.ofB hG1).cells.kd))
      go_ret
      exact ⟨rfl, hb1⟩
def noneB (k : Int) : Bool := !decide (k = 1)
set_option maxRecDepth 1000000 in
theorem stale2_any (s : Sn) (w : World) :
    Calls Try.prog 28 #[.agg s.cs] w fun e w' => e = .returned (.bool (noneB s.kd)) ∧ Below w.heap.size w w' := by
  go_enter Try.func28, Try.ntmps28
  go_wp2_with (first
    | (refine wpList_bxB rfl _ rfl rfl ?_; intro w1 hG1 hb1 hs1; have c0 := (SnAt.ofB hG1).cells.kd))
  go_ret
  exact ⟨by unfold noneB; by_cases h : s.kd = 1 <;> simp [h], hb1⟩
def othB (k : Wg) (s : Sn) : Bool := !(decide (s.kd = 2) && decide (s.wg = k))
set_option maxRecDepth 1000000 in
theorem stale1_any (s : Sn) (g : Nat) (k : Wg) (w : World) (hG : GB w g 64 (wgC k)) :
    Calls Try.prog 27 #[.agg s.cs, .pointer (some ⟨g, 0, none⟩)] w fun e w' => e = .returned (.bool (othB k s)) ∧ Below w.heap.size w w' := by
  by_cases h2 : s.kd = 2
  · have hh : othB k s = !decide (s.wg = k) := by unfold othB; simp [h2]
    rw [hh]
    go_enter Try.func27, Try.ntmps27
    go_wp2_with (first
      | (refine wpList_bxB rfl _ rfl rfl ?_; intro w1 hG1 hb1 hs1))
    have c0 := (SnAt.ofB hG1).cells.kd
    rw [h2] at c0
    have hGk := hG.below hb1
    have al : Below w1.heap.size w1 w1.drew := (Below.refl _ _).drew
    have KS := (show Hid (GB w1.drew w.heap.size 39 s.cs ∧ GB w1.drew g 64 (wgC k) ∧ w1.drew.cell? ⟨w.heap.size, 0, none⟩ = some (.int .i64 2)) from ⟨hG1.below al, hGk.below al, cell_below c0 al⟩)
    have WO := (show Hid (∀ W : World, _) from fun W => writingOf_any s W)
    clear hGk hG hh
    refine wp_region_held_drew (S := fun X => GB X w.heap.size 39 s.cs ∧ GB X g 64 (wgC k) ∧ X.cell? ⟨w.heap.size, 0, none⟩ = some (.int .i64 2)) (by kernel_rfl) KS.out (fun hHeld => ?_)
    refine takeHr (i := 0) (d := some 4) (v := ?v1) rfl rfl (by kernel_rfl) (by kernel_rfl) (by kernel_rfl) (fun _ _ _ h => h) (Or.inl ⟨by rfl, ?hy1⟩) hHeld ?rest1
    case hy1 => intro X hSw; obtain ⟨g1, g2, g3⟩ := hSw; go_simp <;> with_reducible rfl
    try simp only [Act.put, List.setIfInBounds_toArray, List.set_cons_zero, List.set_cons_succ]
    refine takeHr (i := 1) (d := some 5) (v := ?v2) rfl rfl (by kernel_rfl) (by kernel_rfl) (by kernel_rfl) (fun _ _ _ h => h) (Or.inl ⟨by rfl, ?hy2⟩) hHeld ?rest2
    case hy2 => intro X hSw; obtain ⟨g1, g2, g3⟩ := hSw; go_simp <;> with_reducible rfl
    try simp only [Act.put, List.setIfInBounds_toArray, List.set_cons_zero, List.set_cons_succ]
    refine takeHr (i := 2) (d := some 6) (v := ?v3) rfl rfl (by kernel_rfl) (by kernel_rfl) (by kernel_rfl) (fun _ _ _ h => h) (Or.inl ⟨by rfl, ?hy3⟩) hHeld ?rest3
    case hy3 => intro X hSw; obtain ⟨g1, g2, g3⟩ := hSw; go_simp <;> with_reducible rfl
    try simp only [Act.put, List.setIfInBounds_toArray, List.set_cons_zero, List.set_cons_succ]
    refine takeHr (i := 3) (d := some 7) (v := ?v4) rfl rfl (by kernel_rfl) (by kernel_rfl) (by kernel_rfl) (fun _ _ _ h => h) (Or.inl ⟨by rfl, ?hy4⟩) hHeld ?rest4
    case hy4 => intro X hSw; obtain ⟨g1, g2, g3⟩ := hSw; go_simp <;> with_reducible rfl
    try simp only [Act.put, List.setIfInBounds_toArray, List.set_cons_zero, List.set_cons_succ]
    refine takeHr (i := 4) (d := some 8) (v := .agg (s.cs)) rfl rfl (by kernel_rfl) (by kernel_rfl) (by kernel_rfl) (fun _ _ _ h => h) (Or.inl ⟨by rfl, ?hy5⟩) hHeld ?rest5
    case hy5 => intro X hSw; exact ex_ldB _ rfl w.heap.size rfl hSw.1 Try.underlying39 (size_SnS s)
    try simp only [Act.put, List.setIfInBounds_toArray, List.set_cons_zero, List.set_cons_succ]
    refine takeHr (i := 6) (d := some 10) (v := .agg (wgC k)) rfl rfl (by kernel_rfl) (by kernel_rfl) (by kernel_rfl) (fun _ _ _ h => h) (Or.inl ⟨by rfl, ?hy6⟩) hHeld ?rest6
    case hy6 => intro X hSw; exact ex_ldB _ rfl g rfl hSw.2.1 Try.underlying64 size_Wr
    try simp only [Act.put, List.setIfInBounds_toArray, List.set_cons_zero, List.set_cons_succ]
    refine wpAnyH_ready (rs := [5]) (by kernel_rfl) (by simp) ?_
    refine AllReadyH.cons (o := { dst := some 9, op := Op.call { callee := Callee.value (Operand.func 21), args := #[Operand.tmp 8], argTypes := #[39] }, type := 64, pos := "votes.go:64", after := #[{ on := 4, ground := Ground.data }, { on := 3, ground := Ground.chain }, { on := 3, ground := Ground.guard }], guard := some (3, false) }) rfl (fun Kq hKq => ?_) AllReadyH.nil
    · go_simp
      refine (WO.out _).mono ?_
      rintro e w5 ⟨rfl, hb5⟩
      refine hKq.out _ _ ⟨hHeld.1.below hb5, hHeld.2.1.below hb5, cell_below hHeld.2.2 hb5⟩ (fun hHeld => ?_)
      clear hKq Kq
      try simp only [Act.put, List.setIfInBounds_toArray, List.set_cons_zero, List.set_cons_succ]
      refine takeHr (i := 7) (d := some 11) (v := .bool (!decide (s.wg = k))) rfl rfl (by kernel_rfl) (by kernel_rfl) (by kernel_rfl) (fun _ _ _ h => h) (Or.inl ⟨by rfl, ?hy8⟩) hHeld ?rest8
      case hy8 => intro X hSw; exact ex_bin rfl rfl rfl (eg_Wr _ _ _ _ X) (neq_Wr s.wg k X)
      try simp only [Act.put, List.setIfInBounds_toArray, List.set_cons_zero, List.set_cons_succ]
      refine takeHr (i := 8) (d := some 12) (v := ?v9) rfl rfl (by kernel_rfl) (by kernel_rfl) (by kernel_rfl) (fun _ _ _ h => h) (Or.inl ⟨by rfl, ?hy9⟩) hHeld ?rest9
      case hy9 => intro X hSw; obtain ⟨g1, g2, g3⟩ := hSw; go_simp <;> with_reducible rfl
      try simp only [Act.put, List.setIfInBounds_toArray, List.set_cons_zero, List.set_cons_succ]
      refine takeHr (i := 9) (d := some 3) (v := ?v10) rfl rfl (by kernel_rfl) (by kernel_rfl) (by kernel_rfl) (fun _ _ _ h => h) (Or.inl ⟨by rfl, ?hy10⟩) hHeld ?rest10
      case hy10 => intro X hSw; obtain ⟨g1, g2, g3⟩ := hSw; go_simp <;> with_reducible rfl
      try simp only [Act.put, List.setIfInBounds_toArray, List.set_cons_zero, List.set_cons_succ]
      refine wpAnyH_done (by kernel_rfl) ?_ _
      go_wp2
      go_ret
      exact ⟨by simp, bt (bt hb1 al) hb5⟩
  · have hh : othB k s = true := by unfold othB; simp [h2]
    have d2 : (s.kd != 2) = true := by simp [h2]
    rw [hh]
    go_enter Try.func27, Try.ntmps27
    go_wp2_with (first
      | (refine wpList_bxB rfl _ rfl rfl ?_; intro w1 hG1 hb1 hs1; have c0 := (SnAt.ofB hG1).cells.kd))
    go_quiet (fail)
    go_wp2
    go_ret
    exact ⟨rfl, below_drewN hb1 _⟩
end

def pwH (ss : Nat → Sn) (n : Nat) : List Nat := (List.range n).filter fun i => hidB (ss i).kd
theorem pwH_succ (ss : Nat → Sn) (n : Nat) : pwH ss (n + 1) = pwH ss n ++ (if (hidB (ss n).kd) = true then [n] else []) := by
  unfold pwH
  rw [List.range_succ, List.filter_append]
  congr 1
  by_cases h : (hidB (ss n).kd) = true <;> simp [h]
theorem pwH_len (ss : Nat → Sn) (n : Nat) : (pwH ss n).length ≤ n := by
  unfold pwH
  have := List.length_filter_le (fun i => hidB (ss i).kd) (List.range n)
  simpa using this
section
attribute [local irreducible] Calls Sn.cs GB On pwH
set_option maxHeartbeats 4000000 in
set_option maxRecDepth 1000000 in
theorem placesH {w : World} {p : Option Addr} {n c : Nat} {ss : Nat → Sn} (HS : SnL w p n ss) (hn : n ≤ 1172812402943) (hv : ∀ i, i < n → (ss i).bv.oneCell' = true) :
    Calls Try.prog 26 #[.slice p n c, .func (.func 29) #[] #[]] w fun e w' => ∃ v, e = .returned v ∧ On w' w.heap.size v (pwH ss n) ∧ Below w.heap.size w w' := by
  have HL := (show Hid (SnL w p n ss) from HS)
  have HN := (show Hid (n ≤ 1172812402943) from hn)
  have HV := (show Hid (∀ i, i < n → (ss i).bv.oneCell' = true) from hv)
  clear HS hn hv
  go_enter Try.func26, Try.ntmps26
  go_wp2_with (fail)
  go_loopw [5, 10] (fun v i wr => ∃ t : Nat, t ≤ n ∧ i = .int .i64 (t : Int) ∧ Hid (On wr w.heap.size v (pwH ss t)) ∧ Hid (Below w.heap.size w wr)) (fun _ i _ => n - (intOf i).toNat)
  case atStart => exact ⟨0, Nat.zero_le _, rfl, by unfold pwH; exact On.nil _ _, Below.refl _ _⟩
  case round =>
    obtain ⟨t, ht, rfl, hO, hB⟩ := hrel
    by_cases hlt : t < n
    · have hi : (t : Int) < (n : Int) := by omega
      obtain ⟨b, o, rfl, hAt⟩ := (HL.out.below hB.out).at hlt
      have hO' := hO.out
      have WT := (show Hid (wrap64 ((t : Int) + 1) = ((t + 1 : Nat) : Int)) from by have := HN.out; show _ = _; unfold wrap64; omega)
      have HX := (show Hid _ from pwH_succ ss t)
      have HQ := (show Hid ((pwH ss t).length + 1 ≤ 17592186044416) from by have := pwH_len ss t; have := HN.out; show _ ≤ _; omega)
      have HT := (show Hid (t < n) from hlt)
      generalize pwH ss t = L0 at *
      obtain ⟨W0, hW0⟩ : ∃ W0, W0 = wr := ⟨_, rfl⟩
      subst hW0
      have hrun := hAt.run
      clear hlt ht hO'
      cases hv : hidB (ss t).kd with
      | false =>
        rw [hv] at HX
        go_wp2_with (first
          | (refine wpList_ldAt rfl _ _ rfl b (o + t * 19) rfl _ hrun ?_)
          | (refine wpList_alB rfl rfl zero_Sn ?_; intro w1 hG1 hb1 hs1)
          | (refine wpList_stB (cs := (ss t).cs) rfl _ _ rfl rfl W0.heap.size rfl rfl hG1 (size_SnS _) (snC_same _ _) (snC_one _ (HV.out t HT.out)) ?_; intro w2 hG2 hg2 hs2; have hb2 := grown_below hb1 hg2 hb1.size (Nat.le_refl _))
          | (refine wpList_ldB rfl _ rfl W0.heap.size rfl hG2 Try.underlying39 (size_SnS _) ?_)
          | (go_at_call 29; refine (hid1_any (ss t) w2).mono ?_; rintro e w3 ⟨rfl, hb3⟩; rw [hv]; have hb23 := bt hb2 hb3))
        go_roundw
        case rel =>
          have HX' := HX.out
          simp at HX'
          exact ⟨t + 1, HT.out, by rw [WT.out], by show On _ _ _ _; rw [HX']; exact hO.out.below hb23, bt hB.out hb23⟩
        case measure => rw [WT.out]; exact meas_v17 HT.out
      | true =>
        rw [hv] at HX
        go_wp2_with (first
          | (refine wpList_ldAt rfl _ _ rfl b (o + t * 19) rfl _ hrun ?_)
          | (refine wpList_alB rfl rfl zero_Sn ?_; intro w1 hG1 hb1 hs1)
          | (refine wpList_stB (cs := (ss t).cs) rfl _ _ rfl rfl W0.heap.size rfl rfl hG1 (size_SnS _) (snC_same _ _) (snC_one _ (HV.out t HT.out)) ?_; intro w2 hG2 hg2 hs2; have hb2 := grown_below hb1 hg2 hb1.size (Nat.le_refl _))
          | (refine wpList_ldB rfl _ rfl W0.heap.size rfl hG2 Try.underlying39 (size_SnS _) ?_)
          | (go_at_call 29; refine (hid1_any (ss t) w2).mono ?_; rintro e w3 ⟨rfl, hb3⟩; rw [hv]; have hb23 := bt hb2 hb3; have hO3 := hO.out.below hb23; have HO4 := (show Hid (On (w3.alloc (.cells #[.int .i64 (t : Int)] 3)) w.heap.size u5 L0) from hO3.below ((Below.refl _ _).alloc (Nat.le_refl _) _)); have rc := cell_of_row (w3.alloc (.cells #[.int .i64 (t : Int)] 3)) w3.heap.size 0 _ _ (0, 0) (heap_alloc_new w3 _); have hb4 := balloc (bt hB.out hb23) (.cells #[.int .i64 (t : Int)] 3))
          | (at_builtin; refine wpList_apN rfl (.tmp 18) (.tmp 20) rfl w.heap.size u5 L0 t rfl HO4.out ⟨w3.heap.size, 0, none⟩ 1 rfl rc HQ.out hb4.size ?_; intro v7 w7 ho7 hg7))
        go_roundw
        case rel =>
          have HX' := HX.out
          simp at HX'
          exact ⟨t + 1, HT.out, by rw [WT.out], by show On _ _ _ _; rw [HX']; exact ho7, HO4.out.grown hb4 hb4.size hg7 (Nat.le_refl _)⟩
        case measure => rw [WT.out]; exact meas_v17 HT.out
    · obtain rfl : t = n := by omega
      go_wp2
      go_ret
      exact ⟨_, rfl, hO.out, hB.out⟩
end

def pwN (ss : Nat → Sn) (n : Nat) : List Nat := (List.range n).filter fun i => noneB (ss i).kd
theorem pwN_succ (ss : Nat → Sn) (n : Nat) : pwN ss (n + 1) = pwN ss n ++ (if (noneB (ss n).kd) = true then [n] else []) := by
  unfold pwN
  rw [List.range_succ, List.filter_append]
  congr 1
  by_cases h : (noneB (ss n).kd) = true <;> simp [h]
theorem pwN_len (ss : Nat → Sn) (n : Nat) : (pwN ss n).length ≤ n := by
  unfold pwN
  have := List.length_filter_le (fun i => noneB (ss i).kd) (List.range n)
  simpa using this
section
attribute [local irreducible] Calls Sn.cs GB On pwN
set_option maxHeartbeats 4000000 in
set_option maxRecDepth 1000000 in
theorem placesN {w : World} {p : Option Addr} {n c : Nat} {ss : Nat → Sn} (HS : SnL w p n ss) (hn : n ≤ 1172812402943) (hv : ∀ i, i < n → (ss i).bv.oneCell' = true) :
    Calls Try.prog 26 #[.slice p n c, .func (.func 28) #[] #[]] w fun e w' => ∃ v, e = .returned v ∧ On w' w.heap.size v (pwN ss n) ∧ Below w.heap.size w w' := by
  have HL := (show Hid (SnL w p n ss) from HS)
  have HN := (show Hid (n ≤ 1172812402943) from hn)
  have HV := (show Hid (∀ i, i < n → (ss i).bv.oneCell' = true) from hv)
  clear HS hn hv
  go_enter Try.func26, Try.ntmps26
  go_wp2_with (fail)
  go_loopw [5, 10] (fun v i wr => ∃ t : Nat, t ≤ n ∧ i = .int .i64 (t : Int) ∧ Hid (On wr w.heap.size v (pwN ss t)) ∧ Hid (Below w.heap.size w wr)) (fun _ i _ => n - (intOf i).toNat)
  case atStart => exact ⟨0, Nat.zero_le _, rfl, by unfold pwN; exact On.nil _ _, Below.refl _ _⟩
  case round =>
    obtain ⟨t, ht, rfl, hO, hB⟩ := hrel
    by_cases hlt : t < n
    · have hi : (t : Int) < (n : Int) := by omega
      obtain ⟨b, o, rfl, hAt⟩ := (HL.out.below hB.out).at hlt
      have hO' := hO.out
      have WT := (show Hid (wrap64 ((t : Int) + 1) = ((t + 1 : Nat) : Int)) from by have := HN.out; show _ = _; unfold wrap64; omega)
      have HX := (show Hid _ from pwN_succ ss t)
      have HQ := (show Hid ((pwN ss t).length + 1 ≤ 17592186044416) from by have := pwN_len ss t; have := HN.out; show _ ≤ _; omega)
      have HT := (show Hid (t < n) from hlt)
      generalize pwN ss t = L0 at *
      obtain ⟨W0, hW0⟩ : ∃ W0, W0 = wr := ⟨_, rfl⟩
      subst hW0
      have hrun := hAt.run
      clear hlt ht hO'
      cases hv : noneB (ss t).kd with
      | false =>
        rw [hv] at HX
        go_wp2_with (first
          | (refine wpList_ldAt rfl _ _ rfl b (o + t * 19) rfl _ hrun ?_)
          | (refine wpList_alB rfl rfl zero_Sn ?_; intro w1 hG1 hb1 hs1)
          | (refine wpList_stB (cs := (ss t).cs) rfl _ _ rfl rfl W0.heap.size rfl rfl hG1 (size_SnS _) (snC_same _ _) (snC_one _ (HV.out t HT.out)) ?_; intro w2 hG2 hg2 hs2; have hb2 := grown_below hb1 hg2 hb1.size (Nat.le_refl _))
          | (refine wpList_ldB rfl _ rfl W0.heap.size rfl hG2 Try.underlying39 (size_SnS _) ?_)
          | (go_at_call 28; refine (stale2_any (ss t) w2).mono ?_; rintro e w3 ⟨rfl, hb3⟩; rw [hv]; have hb23 := bt hb2 hb3))
        go_roundw
        case rel =>
          have HX' := HX.out
          simp at HX'
          exact ⟨t + 1, HT.out, by rw [WT.out], by show On _ _ _ _; rw [HX']; exact hO.out.below hb23, bt hB.out hb23⟩
        case measure => rw [WT.out]; exact meas_v17 HT.out
      | true =>
        rw [hv] at HX
        go_wp2_with (first
          | (refine wpList_ldAt rfl _ _ rfl b (o + t * 19) rfl _ hrun ?_)
          | (refine wpList_alB rfl rfl zero_Sn ?_; intro w1 hG1 hb1 hs1)
          | (refine wpList_stB (cs := (ss t).cs) rfl _ _ rfl rfl W0.heap.size rfl rfl hG1 (size_SnS _) (snC_same _ _) (snC_one _ (HV.out t HT.out)) ?_; intro w2 hG2 hg2 hs2; have hb2 := grown_below hb1 hg2 hb1.size (Nat.le_refl _))
          | (refine wpList_ldB rfl _ rfl W0.heap.size rfl hG2 Try.underlying39 (size_SnS _) ?_)
          | (go_at_call 28; refine (stale2_any (ss t) w2).mono ?_; rintro e w3 ⟨rfl, hb3⟩; rw [hv]; have hb23 := bt hb2 hb3; have hO3 := hO.out.below hb23; have HO4 := (show Hid (On (w3.alloc (.cells #[.int .i64 (t : Int)] 3)) w.heap.size u5 L0) from hO3.below ((Below.refl _ _).alloc (Nat.le_refl _) _)); have rc := cell_of_row (w3.alloc (.cells #[.int .i64 (t : Int)] 3)) w3.heap.size 0 _ _ (0, 0) (heap_alloc_new w3 _); have hb4 := balloc (bt hB.out hb23) (.cells #[.int .i64 (t : Int)] 3))
          | (at_builtin; refine wpList_apN rfl (.tmp 18) (.tmp 20) rfl w.heap.size u5 L0 t rfl HO4.out ⟨w3.heap.size, 0, none⟩ 1 rfl rc HQ.out hb4.size ?_; intro v7 w7 ho7 hg7))
        go_roundw
        case rel =>
          have HX' := HX.out
          simp at HX'
          exact ⟨t + 1, HT.out, by rw [WT.out], by show On _ _ _ _; rw [HX']; exact ho7, HO4.out.grown hb4 hb4.size hg7 (Nat.le_refl _)⟩
        case measure => rw [WT.out]; exact meas_v17 HT.out
    · obtain rfl : t = n := by omega
      go_wp2
      go_ret
      exact ⟨_, rfl, hO.out, hB.out⟩
end

def pwO (ss : Nat → Sn) (n : Nat) (k : Wg) : List Nat := (List.range n).filter fun i => othB k (ss i)
theorem pwO_succ (ss : Nat → Sn) (n : Nat) (k : Wg) : pwO ss (n + 1) k = pwO ss n k ++ (if (othB k (ss n)) = true then [n] else []) := by
  unfold pwO
  rw [List.range_succ, List.filter_append]
  congr 1
  by_cases h : (othB k (ss n)) = true <;> simp [h]
theorem pwO_len (ss : Nat → Sn) (n : Nat) (k : Wg) : (pwO ss n k).length ≤ n := by
  unfold pwO
  have := List.length_filter_le (fun i => othB k (ss i)) (List.range n)
  simpa using this
section
attribute [local irreducible] Calls Sn.cs GB On pwO
set_option maxHeartbeats 4000000 in
set_option maxRecDepth 1000000 in
theorem placesO {w : World} {p : Option Addr} {n c : Nat} {ss : Nat → Sn} (HS : SnL w p n ss) (hn : n ≤ 1172812402943) (hv : ∀ i, i < n → (ss i).bv.oneCell' = true) (gk : Nat) (k : Wg) (hG : GB w gk 64 (wgC k)) :
    Calls Try.prog 26 #[.slice p n c, .func (.func 27) #[] #[.pointer (some ⟨gk, 0, none⟩)]] w fun e w' => ∃ v, e = .returned v ∧ On w' w.heap.size v (pwO ss n k) ∧ Below w.heap.size w w' := by
  have HL := (show Hid (SnL w p n ss) from HS)
  have HN := (show Hid (n ≤ 1172812402943) from hn)
  have HV := (show Hid (∀ i, i < n → (ss i).bv.oneCell' = true) from hv)
  clear HS hn hv
  have HG := (show Hid (GB w gk 64 (wgC k)) from hG)
  clear hG
  go_enter Try.func26, Try.ntmps26
  go_wp2_with (fail)
  go_loopw [5, 10] (fun v i wr => ∃ t : Nat, t ≤ n ∧ i = .int .i64 (t : Int) ∧ Hid (On wr w.heap.size v (pwO ss t k)) ∧ Hid (Below w.heap.size w wr)) (fun _ i _ => n - (intOf i).toNat)
  case atStart => exact ⟨0, Nat.zero_le _, rfl, by unfold pwO; exact On.nil _ _, Below.refl _ _⟩
  case round =>
    obtain ⟨t, ht, rfl, hO, hB⟩ := hrel
    by_cases hlt : t < n
    · have hi : (t : Int) < (n : Int) := by omega
      obtain ⟨b, o, rfl, hAt⟩ := (HL.out.below hB.out).at hlt
      have hO' := hO.out
      have WT := (show Hid (wrap64 ((t : Int) + 1) = ((t + 1 : Nat) : Int)) from by have := HN.out; show _ = _; unfold wrap64; omega)
      have HX := (show Hid _ from pwO_succ ss t k)
      have HQ := (show Hid ((pwO ss t k).length + 1 ≤ 17592186044416) from by have := pwO_len ss t k; have := HN.out; show _ ≤ _; omega)
      have HT := (show Hid (t < n) from hlt)
      generalize pwO ss t k = L0 at *
      obtain ⟨W0, hW0⟩ : ∃ W0, W0 = wr := ⟨_, rfl⟩
      subst hW0
      have hrun := hAt.run
      clear hlt ht hO'
      cases hv : othB k (ss t) with
      | false =>
        rw [hv] at HX
        go_wp2_with (first
          | (refine wpList_ldAt rfl _ _ rfl b (o + t * 19) rfl _ hrun ?_)
          | (refine wpList_alB rfl rfl zero_Sn ?_; intro w1 hG1 hb1 hs1)
          | (refine wpList_stB (cs := (ss t).cs) rfl _ _ rfl rfl W0.heap.size rfl rfl hG1 (size_SnS _) (snC_same _ _) (snC_one _ (HV.out t HT.out)) ?_; intro w2 hG2 hg2 hs2; have hb2 := grown_below hb1 hg2 hb1.size (Nat.le_refl _))
          | (refine wpList_ldB rfl _ rfl W0.heap.size rfl hG2 Try.underlying39 (size_SnS _) ?_)
          | (go_at_call 27; refine (stale1_any (ss t) gk k w2 (HG.out.below (bt hB.out hb2))).mono ?_; rintro e w3 ⟨rfl, hb3⟩; rw [hv]; have hb23 := bt hb2 hb3))
        go_roundw
        case rel =>
          have HX' := HX.out
          simp at HX'
          exact ⟨t + 1, HT.out, by rw [WT.out], by show On _ _ _ _; rw [HX']; exact hO.out.below hb23, bt hB.out hb23⟩
        case measure => rw [WT.out]; exact meas_v17 HT.out
      | true =>
        rw [hv] at HX
        go_wp2_with (first
          | (refine wpList_ldAt rfl _ _ rfl b (o + t * 19) rfl _ hrun ?_)
          | (refine wpList_alB rfl rfl zero_Sn ?_; intro w1 hG1 hb1 hs1)
          | (refine wpList_stB (cs := (ss t).cs) rfl _ _ rfl rfl W0.heap.size rfl rfl hG1 (size_SnS _) (snC_same _ _) (snC_one _ (HV.out t HT.out)) ?_; intro w2 hG2 hg2 hs2; have hb2 := grown_below hb1 hg2 hb1.size (Nat.le_refl _))
          | (refine wpList_ldB rfl _ rfl W0.heap.size rfl hG2 Try.underlying39 (size_SnS _) ?_)
          | (go_at_call 27; refine (stale1_any (ss t) gk k w2 (HG.out.below (bt hB.out hb2))).mono ?_; rintro e w3 ⟨rfl, hb3⟩; rw [hv]; have hb23 := bt hb2 hb3; have hO3 := hO.out.below hb23; have HO4 := (show Hid (On (w3.alloc (.cells #[.int .i64 (t : Int)] 3)) w.heap.size u5 L0) from hO3.below ((Below.refl _ _).alloc (Nat.le_refl _) _)); have rc := cell_of_row (w3.alloc (.cells #[.int .i64 (t : Int)] 3)) w3.heap.size 0 _ _ (0, 0) (heap_alloc_new w3 _); have hb4 := balloc (bt hB.out hb23) (.cells #[.int .i64 (t : Int)] 3))
          | (at_builtin; refine wpList_apN rfl (.tmp 18) (.tmp 20) rfl w.heap.size u5 L0 t rfl HO4.out ⟨w3.heap.size, 0, none⟩ 1 rfl rc HQ.out hb4.size ?_; intro v7 w7 ho7 hg7))
        go_roundw
        case rel =>
          have HX' := HX.out
          simp at HX'
          exact ⟨t + 1, HT.out, by rw [WT.out], by show On _ _ _ _; rw [HX']; exact ho7, HO4.out.grown hb4 hb4.size hg7 (Nat.le_refl _)⟩
        case measure => rw [WT.out]; exact meas_v17 HT.out
    · obtain rfl : t = n := by omega
      go_wp2
      go_ret
      exact ⟨_, rfl, hO.out, hB.out⟩
end
end Go.Proofs.Ytefomnlgpldgnaa
