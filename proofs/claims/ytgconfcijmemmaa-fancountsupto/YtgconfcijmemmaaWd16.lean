/-
  Words (structs of a number and a text): same, Count.
-/
import Derived.Test.YtgconfcijmemmaaFm16
import Derived.Test.YtgconfcijmemmaaOk16
import Derived.Defers
import Derived.Recover
namespace Go.Proofs.Ytgconfcijmemmaa
open Go.RowKit
/-- A slice of words reads so. -/
def WrAt (w : World) (a : Option Addr) (xs : List (Option Int)) : Prop := xs = [] ∨ ∃ b o, a = some ⟨b, o, none⟩ ∧ ∀ i, i < xs.length → w.cell? ⟨b, o + i * 2, none⟩ = some (.int .i64 (wnu (xs.getD i none))) ∧ w.cell? ⟨b, o + i * 2 + 1, none⟩ = some (.string (wtx (xs.getD i none)))
theorem WrAt.below {w w' : World} {a : Option Addr} {xs : List (Option Int)} (h : WrAt w a xs) (hb : Below w.heap.size w w') : WrAt w' a xs := by
  rcases h with h | ⟨b, off, ha, hc⟩
  · exact .inl h
  · exact .inr ⟨b, off, ha, fun i hi => ⟨cell_belowB (hc i hi).1 hb, cell_belowB (hc i hi).2 hb⟩⟩
theorem wz (w : World) : (zeroValue 27).run Try.prog w = .ok (.agg (wcs none)) w := by kernel_rfl
theorem size_W : (Try.prog.info? 27).map (·.size) = some 2 := by kernel_rfl
theorem size_Wc (x : Option Int) : (Try.prog.info? 27).map (·.size) = some (wcs x).size := size_W
theorem wcs_one (x : Option Int) : ((wcs x).all fun x => x.oneCell') = true := by simp [wcs, Value.oneCell']
theorem wcs_same (x y : Option Int) : (wcs x).size = (wcs y).size := rfl
theorem wql_run (x y : Option Int) (w : World) : (binOp .eql 27 (.agg (wcs x)) (.agg (wcs y))).run Try.prog w = .ok (.bool (weq x y)) w := by
  have h : (Op.equalIn 10000 27 (.agg (wcs x)) (.agg (wcs y))).run Try.prog w = .ok (weq x y) w := weq_run x y w
  rw [run_eql_struct, h]; rfl
theorem wnq_run (x y : Option Int) (w : World) : (binOp .neq 27 (.agg (wcs x)) (.agg (wcs y))).run Try.prog w = .ok (.bool (!weq x y)) w := by
  have h : (Op.equalIn 10000 27 (.agg (wcs x)) (.agg (wcs y))).run Try.prog w = .ok (weq x y) w := weq_run x y w
  rw [run_neq_struct, h]; rfl
theorem weg_run (p : BinOp) (a b : Operand) (u v : Array Value) (w : World) : (eqGuard p 27 a b (.agg u) (.agg v)).run Try.prog w = .ok () w := by
  cases p <;> kernel_rfl
theorem wr_load {w : World} {b o : Nat} {x : Option Int} (h1 : w.cell? ⟨b, o, none⟩ = some (.int .i64 (wnu x))) (h2 : w.cell? ⟨b, o + 1, none⟩ = some (.string (wtx x))) : (loadVar 27 ⟨b, o, none⟩).run Try.prog w = .ok (.agg (wcs x)) w := by
  refine run_loadVar_at w b o 27 (wcs x) _ (fun j v hv => ?_) Try.underlying27 rfl (size_Wc x)
  match j, hv with
  | 0, hv => simp [wcs] at hv; rw [← hv]; exact h1
  | 1, hv => simp [wcs] at hv; rw [← hv]; exact h2
  | j + 2, hv => simp [wcs] at hv
section
attribute [local irreducible] Calls GB wcs
set_option maxRecDepth 1000000 in
theorem widle_same (w : World) : CallsD Try.prog 24 #[] .returning w fun e u' w' => e = .returned (.tuple #[]) ∧ u' = .returning ∧ w' = w := by
  refine callsD_of_wpS Try.func24 rfl fun c₀ cs hu => ?_
  apply wpS_region
  cases c₀
  simp_all [wpOpsS, go_sem, recoverD, Try.ntmps24, bodyPostS, results, Try.results24]
set_option maxRecDepth 1000000 in
theorem widle_one (w : World) : CallsD Try.prog 23 #[] .returning w fun e u' w' => e = .returned (.tuple #[]) ∧ u' = .returning ∧ w' = w := by
  refine callsD_of_wpS Try.func23 rfl fun c₀ cs hu => ?_
  apply wpS_region
  cases c₀
  simp_all [wpOpsS, go_sem, recoverD, Try.ntmps23, bodyPostS, results, Try.results23]
set_option maxRecDepth 1000000 in
theorem wsame_any (x y : Option Int) (w : World) : Calls Try.prog 16 #[.agg (wcs x), .agg (wcs y)] w fun e w' => e = .returned (.bool (weq x y)) ∧ Below w.heap.size w w' := by
  have h1 := wql_run
  have h2 := weg_run
  go_enter_defers Try.func16, Try.ntmps16
  go_wp2_with (first
    | (have hq := hG1; refine wpList_bxB (cs := wcs y) rfl _ rfl rfl ?_; intro w2 hG2 hb2 hs2; have hG3 := hq.below hb2; clear hq hG1)
    | (refine wpList_bxB (cs := wcs x) rfl _ rfl rfl ?_; intro w1 hG1 hb1 hs1)
    | (refine wpList_ldB (cs := wcs x) rfl _ rfl w.heap.size rfl hG3 Try.underlying27 (size_Wc x) ?_)
    | (refine wpList_ldB (cs := wcs y) rfl _ rfl w1.heap.size rfl hG2 Try.underlying27 (size_Wc y) ?_))
  refine leaves_cons (f := 24) (args := #[]) (by simp) (by simp [go_sem]) ?_
  refine (widle_same _).mono ?_
  rintro e u' w'' ⟨rfl, rfl, rfl⟩
  simp [Leaves, settle, results, Try.results16, go_sem]
  exact bt hb1 hb2
set_option maxRecDepth 1000000 in
set_option maxHeartbeats 4000000 in
theorem wcount_core (b o n c : Nat) (xs : List (Option Int)) (x : Option Int) (w : World) (hn : xs.length = n) (hm : n ≤ 140737488355328) (H : Hid (∀ i, i < n → w.cell? ⟨b, o + i * 2, none⟩ = some (.int .i64 (wnu (xs.getD i none))) ∧ w.cell? ⟨b, o + i * 2 + 1, none⟩ = some (.string (wtx (xs.getD i none))))) :
    Calls Try.prog 8 #[.slice (some ⟨b, o, none⟩) n c, .agg (wcs x)] w fun e w' => e = .returned (.int .i64 (xs.countP (weq x) : Int)) ∧ Below w.heap.size w w' := by
  obtain ⟨N, hN⟩ : ∃ N, xs.countP (weq x) = N := ⟨_, rfl⟩
  have HN := (show Hid (xs.countP (weq x) = N) from hN)
  have HL := (show Hid (xs.length = n) from hn)
  rw [hN]
  clear hN hn
  go_enter Try.func8, Try.ntmps8
  go_wp2_with (first
    | (refine wpList_bxB (cs := wcs x) rfl _ rfl rfl ?_; intro w1 hG1 hb1 hs1))
  have HW1 := (show Hid (GB w1 w.heap.size 27 (wcs x) ∧ Below w.heap.size w w1) from ⟨hG1, hb1⟩)
  clear hG1 hb1 hs1
  go_loopw [5, 10] (fun m i wr => ∃ k c : Nat, k ≤ n ∧ i = .int .i64 k ∧ m = .int .i64 c ∧ c ≤ k ∧ Hid (c = (xs.take k).countP (weq x)) ∧ Hid (GB wr w.heap.size 27 (wcs x) ∧ Below w.heap.size w wr)) (fun _ i _ => n - (intOf i).toNat)
  case atStart => exact ⟨0, 0, Nat.zero_le _, rfl, rfl, Nat.le_refl _, rfl, HW1⟩
  case round =>
    obtain ⟨k, c, hk, rfl, rfl, hck, hc, HR⟩ := hrel
    by_cases hlt : k < n
    · have hi : (k : Int) < (n : Int) := by omega
      have ht := (show Hid _ from count_take (weq x) xs none (by rw [HL.out]; exact hlt))
      obtain ⟨y, hy⟩ : ∃ y, xs.getD k none = y := ⟨_, rfl⟩
      have HC := (show Hid ((loadVar 27 ⟨b, o + k * 2, none⟩).run Try.prog wr = .ok (.agg (wcs y)) wr) from by
        have h := H.out k hlt
        rw [hy] at h
        exact wr_load (cell_belowB h.1 HR.out.2) (cell_belowB h.2 HR.out.2))
      rw [hy] at ht
      clear hy
      by_cases hq : weq x y = true
      · go_wp2_with (first
          | (refine wpList_ldAt rfl _ _ rfl b (o + k * 2) rfl (wcs y) HC.out ?_)
          | (refine wpList_alB (cs := wcs none) rfl rfl wz ?_; intro w2 hG2 hb2 hs2)
          | (refine wpList_stB (cs := wcs y) rfl _ _ rfl rfl wr.heap.size rfl rfl hG2 (size_Wc y) (wcs_same _ _) (wcs_one y) ?_; intro w3 hG3 hg3 hs3; have hGx := (HR.out.1.below hb2).kept hg3 (by intro e; injection e with e; have := HR.out.1.lt; omega))
          | (refine wpList_ldB (cs := wcs x) rfl _ rfl w.heap.size rfl hGx Try.underlying27 (size_Wc x) ?_)
          | (refine wpList_ldB (cs := wcs y) rfl _ rfl wr.heap.size rfl hG3 Try.underlying27 (size_Wc y) ?_)
          | (go_at_call 16; refine (wsame_any x y _).mono ?_; rw [hq]; rintro e w4 ⟨rfl, hb4⟩; have HX := (show Hid (GB w4 w.heap.size 27 (wcs x) ∧ Below w.heap.size w w4) from ⟨hGx.below hb4, (grown_below (HR.out.2.trans (hb2.mono HR.out.2.size)) hg3 (Nat.le_trans HR.out.2.size hb2.size) HR.out.2.size).trans (hb4.mono (Nat.le_trans (Nat.le_trans HR.out.2.size hb2.size) hg3.size))⟩); clear hG2 hG3 hGx hb2 hb4 hg3 hs2 hs3))
        go_roundw
        case rel => exact ⟨k + 1, c + 1, by omega, by go_num, by go_num, by omega, by (show _ = _; have h := ht.out; rw [if_pos hq] at h; rw [h, ← hc.out]), HX⟩
        case measure => simp [intOf]; omega
      · have hqf : weq x y = false := by simpa using hq
        go_wp2_with (first
          | (refine wpList_ldAt rfl _ _ rfl b (o + k * 2) rfl (wcs y) HC.out ?_)
          | (refine wpList_alB (cs := wcs none) rfl rfl wz ?_; intro w2 hG2 hb2 hs2)
          | (refine wpList_stB (cs := wcs y) rfl _ _ rfl rfl wr.heap.size rfl rfl hG2 (size_Wc y) (wcs_same _ _) (wcs_one y) ?_; intro w3 hG3 hg3 hs3; have hGx := (HR.out.1.below hb2).kept hg3 (by intro e; injection e with e; have := HR.out.1.lt; omega))
          | (refine wpList_ldB (cs := wcs x) rfl _ rfl w.heap.size rfl hGx Try.underlying27 (size_Wc x) ?_)
          | (refine wpList_ldB (cs := wcs y) rfl _ rfl wr.heap.size rfl hG3 Try.underlying27 (size_Wc y) ?_)
          | (go_at_call 16; refine (wsame_any x y _).mono ?_; rw [hqf]; rintro e w4 ⟨rfl, hb4⟩; have HX := (show Hid (GB w4 w.heap.size 27 (wcs x) ∧ Below w.heap.size w w4) from ⟨hGx.below hb4, (grown_below (HR.out.2.trans (hb2.mono HR.out.2.size)) hg3 (Nat.le_trans HR.out.2.size hb2.size) HR.out.2.size).trans (hb4.mono (Nat.le_trans (Nat.le_trans HR.out.2.size hb2.size) hg3.size))⟩); clear hG2 hG3 hGx hb2 hb4 hg3 hs2 hs3))
        go_roundw
        case rel => exact ⟨k + 1, c, by omega, by go_num, rfl, by omega, by (show _ = _; have h := ht.out; rw [if_neg hq] at h; rw [h, ← hc.out]; rfl), HX⟩
        case measure => simp [intOf]; omega
    · obtain rfl : k = n := by omega
      have hc2 : c = N := by rw [hc.out, ← HL.out, List.take_length, HN.out]
      subst hc2
      go_wp2
      go_ret
      exact ⟨rfl, HR.out.2⟩
set_option maxRecDepth 1000000 in
theorem wcount_nil (a : Option Addr) (c : Nat) (x : Option Int) (w : World) :
    Calls Try.prog 8 #[.slice a 0 c, .agg (wcs x)] w fun e w' => e = .returned (.int .i64 0) ∧ Below w.heap.size w w' := by
  go_enter Try.func8, Try.ntmps8
  go_wp2_with (first
    | (refine wpList_bxB (cs := wcs x) rfl _ rfl rfl ?_; intro w1 hG1 hb1 hs1))
  refine wp_loop_rounds 1 ?_
  rw [rounds_succ]
  go_wp2
  go_ret
  exact ⟨rfl, hb1⟩
theorem wcount_any {w : World} {a : Option Addr} {xs : List (Option Int)} (h : WrAt w a xs) (n c : Nat) (x : Option Int) (hn : xs.length = n) (hm : n ≤ 140737488355328) :
    Calls Try.prog 8 #[.slice a n c, .agg (wcs x)] w fun e w' => e = .returned (.int .i64 (xs.countP (weq x) : Int)) ∧ Below w.heap.size w w' := by
  subst hn
  rcases h with rfl | ⟨b, o, rfl, h⟩
  · exact wcount_nil a c x w
  · exact wcount_core b o _ c xs x w rfl hm h
end
end Go.Proofs.Ytgconfcijmemmaa
