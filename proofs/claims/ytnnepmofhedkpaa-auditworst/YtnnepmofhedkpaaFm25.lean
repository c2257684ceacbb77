/-
  slices.MinFunc over findings, audit.Worst, the document's Worst, 'same'.
-/
import Derived.Test.YtnnepmofhedkpaaFk25
import Derived.BigQuiet
import Derived.Deep.RegionHeld3
namespace Go.Proofs.Ytnnepmofhedkpaa
open Go.RowKit
theorem takeHr {P : Program} {ops : Array Oper} {Q : Exit → Act → World → Prop} {md : Region.Mode} {S : World → Prop} {i : Nat} {oi : Oper} {d : Option Tmp} {v : Value} {fuel : Nat} {listed : Array Bool} {a : Act} {w : World} (hi : ops[i]? = some oi) (hd : oi.dst = d)
    (hs : Region.noSelect ops = true) (hf : Region.free md ops listed i = true) (hr : (Region.ready md ops listed).contains i = true)
    (hQ : ∀ c a w, Q (.panic c) (a.put oi.dst v) w → Q (.panic c) a w) (hy : YieldsIf P ops S oi v a) (hS : S w)
    (h : wpAnyH P md ops Q S fuel (listed.setIfInBounds i true) (a.put d v) w) : wpAnyH P md ops Q S (fuel + 1) listed a w := by
  subst hd; exact wpAnyH_take hi hs hf hr hQ hy hS h
theorem ex_ldR {o : Oper} {a : Act} {X : World} {t : TypeId} {x : Operand} {p : Addr} {cs : Array Value} (ho : o.op = .load t x) (hx : a.eval x = .pointer (some p)) (hr : (loadVar t p).run Try.prog X = .ok (.agg cs) X) : (execOp a.eval o).run Try.prog X = .ok (.value (.agg cs)) X := by
  unfold execOp
  simp only [ho, hx, Instr.loadAt, Instr.sureAddr, Sem.run_bind, Sem.run_pure, Result.andThen_ok, hr]
theorem meas25 {t N : Nat} (h : t < N) : N - (intOf (.int .i64 ((t + 1 : Nat) : Int))).toNat < N - (intOf (.int .i64 (t : Int))).toNat := by
  simp only [intOf, Int.toNat_natCast]; omega
/-- A list of findings. -/
def FL (w : World) (p : Option Addr) (n : Nat) (f : Nat → Fi) : Prop := n = 0 ∨ ∃ b o, p = some ⟨b, o, none⟩ ∧ ∀ i, i < n → FiAt w b (o + i * 8) (f i)
theorem FL.below {w w' : World} {p : Option Addr} {n : Nat} {f : Nat → Fi} (H : FL w p n f) (hb : Below w.heap.size w w') : FL w' p n f := by
  rcases H with h | ⟨b, o, e, h⟩
  · exact .inl h
  · exact .inr ⟨b, o, e, fun i hi => (h i hi).below hb⟩
theorem FL.at {w : World} {p : Option Addr} {n : Nat} {f : Nat → Fi} (H : FL w p n f) {i : Nat} (hi : i < n) : ∃ b o, p = some ⟨b, o, none⟩ ∧ ∀ j, j < n → FiAt w b (o + j * 8) (f j) := by
  rcases H with h | ⟨b, o, e, h⟩
  · omega
  · exact ⟨b, o, e, h⟩
theorem fcs_same (f g : Fi) : f.cs.size = g.cs.size := rfl
theorem bi_succ (f : Nat → Fi) (k : Nat) : bi f (k + 1) = if worse (f (k + 1)) (f (bi f k)) = true then k + 1 else bi f k := rfl
theorem GB.fiRun {w : World} {g : Nat} {f : Fi} (H : GB w g 26 f.cs) : (loadVar 26 ⟨g, 0, none⟩).run Try.prog w = .ok (.agg f.cs) w := (FiAt.ofB H).run
section
attribute [local irreducible] Calls Fi.cs GB wfi worse bi
set_option maxHeartbeats 8000000 in
set_option maxRecDepth 1000000 in
theorem minFunc_any {w : World} {p : Option Addr} {n c : Nat} {f : Nat → Fi} (HS : FL w p (n + 1) f) (hn : n ≤ 1000000000000000) :
    Calls Try.prog 9 #[.slice p (n + 1) c, .func (.func 10) #[] #[]] w fun e w' => e = .returned (.agg (f (bi f n)).cs) ∧ Below w.heap.size w w' := by
  obtain ⟨b, o, rfl, HA⟩ := HS.at (Nat.succ_pos n)
  have HL := (show Hid (∀ j, j < n + 1 → FiAt w b (o + j * 8) (f j)) from HA)
  have HN := (show Hid (n ≤ 1000000000000000) from hn)
  obtain ⟨N, hN⟩ : ∃ N, n + 1 = N := ⟨_, rfl⟩
  have HNN := (show Hid (n + 1 = N) from hN)
  rw [hN] at HL ⊢
  clear HS hn HA
  have h0 : (0 : Int) < (N : Int) := by omega
  have h1 : ¬ (N : Int) < 1 := by omega
  have e0 := (HL.out 0 (by omega)).run
  simp only [Nat.zero_mul, Nat.add_zero] at e0
  clear hN
  go_enter Try.func9, Try.ntmps9
  go_wp2_with (first
    | (revert u0; intro u0; refine wpList_alB rfl rfl zero_Fi ?_; intro w2 hG2 hb2 hs2; have HG1 := (show Hid _ from hG1.below hb2); clear e0 hG1 u0)
    | (refine wpList_alB rfl rfl zero_Fi ?_; intro w1 hG1 hb1 hs1; replace e0 := (show (loadVar 26 ⟨b, o, none⟩).run Try.prog w1 = .ok (.agg (f 0).cs) w1 from by have := ((HL.out 0 (by have := HNN.out; omega)).below hb1).run; simpa using this))
    | (refine wpList_ldAt rfl _ _ rfl b o rfl _ e0 ?_; have u0 : Hid (0 = 0) := rfl)
    | (refine wpList_stB (cs := (f 0).cs) rfl _ _ rfl rfl w1.heap.size rfl rfl hG2 (size_FiS _) (fcs_same _ _) (fcs_one _) ?_; intro w3 hG3 hg3 hs3; have HB3 := (show Hid (Below w.heap.size w w3) from grown_below (bt hb1 hb2) hg3 (Nat.le_trans hb1.size hb2.size) hb1.size); replace HG1 := (show Hid (GB w3 w.heap.size 26 fi0.cs) from HG1.out.kept hg3 (by have h9 := hs1.out; intro h; injection h with h; omega))))
  clear h1
  obtain ⟨ga, hga⟩ : ∃ ga, w.heap.size = ga := ⟨_, rfl⟩
  obtain ⟨gb, hgb⟩ : ∃ gb, w1.heap.size = gb := ⟨_, rfl⟩
  have HX := (show Hid (ga < gb ∧ w.heap.size = ga) from ⟨by have := hs1.out; omega, hga⟩)
  rw [hga] at HG1 ⊢
  rw [hgb] at hG3 ⊢
  have HG3 := (show Hid _ from hG3)
  clear hga hgb hG2 hb1 hb2 hs1 hs2 hg3 hs3 hG3
  go_loopw [6] (fun i wr => ∃ s : Nat, s + 1 ≤ N ∧ i = .int .i64 ((s + 1 : Nat) : Int) ∧ Hid (GB wr ga 26 fi0.cs) ∧ Hid (GB wr gb 26 (f (bi f s)).cs) ∧ Hid (Below w.heap.size w wr)) (fun i _ => N - (intOf i).toNat)
  case atStart => exact ⟨0, by have := HNN.out; omega, rfl, HG1.out, by unfold bi; exact HG3.out, HB3.out⟩
  case round =>
    obtain ⟨s, hs, rfl, HG4, HG5, HB⟩ := hrel
    by_cases hlt : s + 1 < N
    · obtain ⟨t, ht⟩ : ∃ t, s + 1 = t := ⟨_, rfl⟩
      have HT := (show Hid (s + 1 = t ∧ t < N) from ⟨ht, by omega⟩)
      rw [ht] at hlt ⊢
      have hi : (t : Int) < (N : Int) := by omega
      have WT := (show Hid (wrap64 ((t : Int) + 1) = ((t + 1 : Nat) : Int)) from by have := HN.out; have := HNN.out; show _ = _; unfold wrap64; omega)
      have AE := (HL.out t hlt).below HB.out
      have hbd : Below wr.heap.size wr wr.drew := (Below.refl _ _).drew
      have HW := (show Hid _ from wfi_lt (f t) (f (bi f s)))
      clear hlt ht hs
      go_wp2_with (fail)
      refine wp_region_held_drew (S := fun X => (loadVar 26 ⟨b, o + t * 8, none⟩).run Try.prog X = .ok (.agg (f t).cs) X ∧ (loadVar 26 ⟨gb, 0, none⟩).run Try.prog X = .ok (.agg (f (bi f s)).cs) X) (by kernel_rfl) ⟨(AE.below hbd).run, (HG5.out.below hbd).fiRun⟩ (fun hHeld => ?_)
      refine takeHr (i := 0) (d := some 20) (v := ?v1) rfl rfl (by kernel_rfl) (by kernel_rfl) (by kernel_rfl) (fun _ _ _ h => h) (Or.inl ⟨by rfl, ?hy1⟩) hHeld ?rest1
      case hy1 => intro X hSw; obtain ⟨g1, g2⟩ := hSw; go_simp <;> with_reducible rfl
      try simp only [Act.put, List.setIfInBounds_toArray, List.set_cons_zero, List.set_cons_succ]
      refine takeHr (i := 1) (d := some 21) (v := ?v2) rfl rfl (by kernel_rfl) (by kernel_rfl) (by kernel_rfl) (fun _ _ _ h => h) (Or.inl ⟨by rfl, ?hy2⟩) hHeld ?rest2
      case hy2 => intro X hSw; obtain ⟨g1, g2⟩ := hSw; go_simp <;> with_reducible rfl
      try simp only [Act.put, List.setIfInBounds_toArray, List.set_cons_zero, List.set_cons_succ]
      refine takeHr (i := 2) (d := some 22) (v := ?v3) rfl rfl (by kernel_rfl) (by kernel_rfl) (by kernel_rfl) (fun _ _ _ h => h) (Or.inl ⟨by rfl, ?hy3⟩) hHeld ?rest3
      case hy3 => intro X hSw; obtain ⟨g1, g2⟩ := hSw; go_simp <;> with_reducible rfl
      try simp only [Act.put, List.setIfInBounds_toArray, List.set_cons_zero, List.set_cons_succ]
      refine takeHr (i := 3) (d := some 23) (v := ?v4) rfl rfl (by kernel_rfl) (by kernel_rfl) (by kernel_rfl) (fun _ _ _ h => h) (Or.inl ⟨by rfl, ?hy4⟩) hHeld ?rest4
      case hy4 => intro X hSw; obtain ⟨g1, g2⟩ := hSw; go_simp <;> with_reducible rfl
      try simp only [Act.put, List.setIfInBounds_toArray, List.set_cons_zero, List.set_cons_succ]
      refine takeHr (i := 4) (d := some 24) (v := .agg (f t).cs) rfl rfl (by kernel_rfl) (by kernel_rfl) (by kernel_rfl) (fun _ _ _ h => h) (Or.inl ⟨by rfl, ?hy5⟩) hHeld ?rest5
      case hy5 => intro X hSw; exact ex_ldR rfl rfl hSw.1
      try simp only [Act.put, List.setIfInBounds_toArray, List.set_cons_zero, List.set_cons_succ]
      refine takeHr (i := 5) (d := some 25) (v := .agg (f (bi f s)).cs) rfl rfl (by kernel_rfl) (by kernel_rfl) (by kernel_rfl) (fun _ _ _ h => h) (Or.inl ⟨by rfl, ?hy6⟩) hHeld ?rest6
      case hy6 => intro X hSw; exact ex_ldR rfl rfl hSw.2
      try simp only [Act.put, List.setIfInBounds_toArray, List.set_cons_zero, List.set_cons_succ]
      refine wpAnyH_ready (rs := [6]) (by kernel_rfl) (by simp) ?_
      refine AllReadyH.cons (o := { dst := some 26, op := Op.call { callee := Callee.value (Operand.tmp 20), args := #[Operand.tmp 24, Operand.tmp 25], argTypes := #[26, 26] }, type := 3, pos := "sort.go:85", after := #[{ on := 0, ground := Ground.data }, { on := 4, ground := Ground.data }, { on := 5, ground := Ground.data }], guard := none }) rfl (fun Kq hKq => ?_) AllReadyH.nil
      · go_simp
        refine (worseFirst_any (f t) (f (bi f s)) wr.drew).mono ?_
        rintro e w5 ⟨rfl, hb5⟩
        have HB5 := (show Hid (Below wr.heap.size wr w5) from bt hbd hb5)
        refine hKq.out _ _ ⟨(AE.below HB5.out).run, (HG5.out.below HB5.out).fiRun⟩ (fun hHeld => ?_)
        clear hKq Kq
        try simp only [Act.put, List.setIfInBounds_toArray, List.set_cons_zero, List.set_cons_succ]
        refine takeHr (i := 7) (d := some 27) (v := ?v8) rfl rfl (by kernel_rfl) (by kernel_rfl) (by kernel_rfl) (fun _ _ _ h => h) (Or.inl ⟨by rfl, ?hy8⟩) hHeld ?rest8
        case hy8 => intro X hSw; obtain ⟨g1, g2⟩ := hSw; go_simp <;> with_reducible rfl
        try simp only [Act.put, List.setIfInBounds_toArray, List.set_cons_zero, List.set_cons_succ]
        refine wpAnyH_done (by kernel_rfl) ?_ _
        have RT := (AE.below HB5.out).run
        have HG5' := (show Hid _ from HG5.out.below HB5.out)
        have HG4' := (show Hid _ from HG4.out.below HB5.out)
        have HB' := (show Hid (Below w.heap.size w w5) from bt HB.out HB5.out)
        clear hHeld HG5 HG4 hbd AE HB5 hb5
        cases hw : worse (f t) (f (bi f s)) with
        | true =>
          have hbi : bi f t = t := by
            rw [← HT.out.1, bi_succ, HT.out.1, hw]; rfl
          have d : wfi (f t) (f (bi f s)) < 0 := of_decide_eq_true (HW.out.trans hw)
          clear hw
          go_wp2_with (first
            | (refine wpList_ldAt rfl _ _ rfl b (o + t * 8) rfl _ RT ?_)
            | (refine wpList_stB (cs := (f t).cs) rfl _ _ rfl rfl gb rfl rfl HG5'.out (size_FiS _) (fcs_same _ _) (fcs_one _) ?_; intro w6 hG6 hg6 hs6; have HB6 := (show Hid (Below w.heap.size w w6) from grown_below HB'.out hg6 HB'.out.size (by have := HX.out; omega)); have HG4'' := (show Hid (GB w6 ga 26 fi0.cs) from HG4'.out.kept hg6 (by have := HX.out; intro h; injection h with h; omega))))
          go_roundw
          case rel => exact ⟨t, HT.out.2, by rw [WT.out], HG4''.out, by rw [hbi]; exact hG6, HB6.out⟩
          case measure => rw [WT.out]; exact meas25 HT.out.2
        | false =>
          have hbi : bi f t = bi f s := by
            rw [← HT.out.1, bi_succ, HT.out.1, hw]; rfl
          have d : ¬ wfi (f t) (f (bi f s)) < 0 := of_decide_eq_false (HW.out.trans hw)
          clear hw
          go_wp2_with (fail)
          go_roundw
          case rel => exact ⟨t, HT.out.2, by rw [WT.out], HG4'.out, by rw [hbi]; exact HG5'.out, HB'.out⟩
          case measure => rw [WT.out]; exact meas25 HT.out.2
    · have e : s + 1 = N := by omega
      have es : s = n := by have := HNN.out; omega
      rw [e]
      go_wp2_with (first
        | (refine wpList_ldB rfl _ rfl gb rfl HG5.out Try.underlying26 (size_FiS _) ?_)
        | (refine wpList_stB (cs := (f (bi f s)).cs) rfl _ _ rfl rfl ga rfl rfl HG4.out (size_FiS _) (fcs_same _ _) (fcs_one _) ?_; intro w6 hG6 hg6 hs6))
      refine bodyPost_ret (res_B rfl _ _ ga rfl hG6 Try.underlying26 (size_FiS _)) rfl ?_
      exact ⟨by rw [es], grown_below HB.out hg6 HB.out.size (Nat.le_of_eq HX.out.2)⟩
end
end Go.Proofs.Ytnnepmofhedkpaa
