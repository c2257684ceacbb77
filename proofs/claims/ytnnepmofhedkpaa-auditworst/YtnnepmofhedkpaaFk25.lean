/-
  'worseFirst' and the document's Worse.
-/
import Derived.Test.YtnnepmofhedkpaaFj25
import Derived.BigQuiet
namespace Go.Proofs.Ytnnepmofhedkpaa
open Go.RowKit
theorem FC.below {w w' : World} {g : Nat} {f : Fi} (h : FC w g f) (al : Below w.heap.size w w') : FC w' g f := by
  obtain ⟨h0, h1, h2, h3, h4, h5⟩ := h
  exact ⟨cell_below h0 al, cell_below h1 al, cell_below h2 al, cell_below h3 al, cell_below h4 al, cell_below h5 al⟩
theorem FC.al {w : World} {g : Nat} {f : Fi} (h : FC w g f) (o : Obj) : FC (w.alloc o) g f := by
  have al : Below w.heap.size w (w.alloc o) := (Below.refl _ _).alloc (Nat.le_refl _) o
  obtain ⟨h0, h1, h2, h3, h4, h5⟩ := h
  exact ⟨cell_below h0 al, cell_below h1 al, cell_below h2 al, cell_below h3 al, cell_below h4 al, cell_below h5 al⟩
section
attribute [local irreducible] Calls Fi.cs GB cmpi cmps dbt
set_option maxHeartbeats 4000000 in
set_option maxRecDepth 1000000 in
theorem worseFirst_any (a b : Fi) (w : World) :
    Calls Try.prog 10 #[.agg a.cs, .agg b.cs] w fun e w' => e = .returned (.int .i64 (wfi a b)) ∧ Below w.heap.size w w' := by
  unfold wfi
  go_enter Try.func10, Try.ntmps10
  go_wp2_with (first
    | (refine wpList_bxB rfl (.tmp 0) rfl rfl ?_; intro w1 hG1 hb1 hs1)
    | (refine wpList_bxB rfl (.tmp 1) rfl rfl ?_; intro w2 hG2 hb2 hs2))
  obtain ⟨g1, hg1⟩ : ∃ g1, w.heap.size = g1 := ⟨_, rfl⟩
  obtain ⟨g2, hg2⟩ : ∃ g2, w1.heap.size = g2 := ⟨_, rfl⟩
  have hbw := bt hb1 hb2
  have F1 := (hG1.below hb2).fc
  have F2 := hG2.fc
  clear hG1 hG2
  have HBW := (show Hid (Below w.heap.size w w2) from hbw)
  clear hbw hb1 hb2 hs1 hs2
  rw [hg1] at F1 ⊢
  rw [hg2] at F2 ⊢
  have hd : Below w2.heap.size w2 w2.drew := (Below.refl _ _).drew
  unfold FC at F1 F2
  have KS := (show Hid (_ ∧ _) from ⟨F1, F2⟩)
  clear F1 F2
  go_region_held3 (fun X => (X.cell? ⟨g1, 0, none⟩ = some (.string a.ks) ∧ X.cell? ⟨g1, 1, none⟩ = some (.int .i64 a.kd) ∧ X.cell? ⟨g1, 4, none⟩ = some (.int .i64 a.wh) ∧ X.cell? ⟨g1, 5, none⟩ = some (.int .i64 a.st) ∧ X.cell? ⟨g1, 6, none⟩ = some (.int .i64 a.sp) ∧ X.cell? ⟨g1, 7, none⟩ = some (.int .i64 a.si)) ∧ (X.cell? ⟨g2, 0, none⟩ = some (.string b.ks) ∧ X.cell? ⟨g2, 1, none⟩ = some (.int .i64 b.kd) ∧ X.cell? ⟨g2, 4, none⟩ = some (.int .i64 b.wh) ∧ X.cell? ⟨g2, 5, none⟩ = some (.int .i64 b.st) ∧ X.cell? ⟨g2, 6, none⟩ = some (.int .i64 b.sp) ∧ X.cell? ⟨g2, 7, none⟩ = some (.int .i64 b.si))) (first | exact K3.out | exact KS.out | exact ⟨FC.al KS.out.1 _, FC.al KS.out.2 _⟩) (first
    | (go_at_call 14; refine (doubt_any _ _).mono ?_; rintro e w3 ⟨rfl, h⟩; obtain rfl := h.symm)
    | (go_at_call 13; refine (cmpi_any _ _ _).mono ?_; rintro e w3 ⟨rfl, h⟩; obtain rfl := h.symm)
    | (go_at_call 15; refine (cmps_any _ _ _).mono ?_; rintro e w3 ⟨rfl, h⟩; obtain rfl := h.symm)
    | (go_at_call 12; refine (or_new _ _ _ _ _ _ _).mono ?_; rintro e w3 ⟨rfl, hb3⟩; have K3 := (show Hid (_ ∧ _) from ⟨FC.below KS.out.1 hb3, FC.below KS.out.2 hb3⟩)))
  (try go_wp2)
  go_ret
  have e1 : IntKind.i64.wrap (IntKind.i64.wrap (a.st + a.sp) + a.si) = a.sm := wr2 _ _ _
  have e2 : IntKind.i64.wrap (IntKind.i64.wrap (b.st + b.sp) + b.si) = b.sm := wr2 _ _ _
  refine ⟨?_, bt HBW.out hb3⟩
  rw [← e1, ← e2]
  rfl
set_option maxHeartbeats 4000000 in
set_option maxRecDepth 1000000 in
theorem rworse_any (a b : Fi) (w : World) :
    Calls Try.prog 8 #[.agg a.cs, .agg b.cs] w fun e w' => e = .returned (.bool (worse a b)) ∧ Below w.heap.size w w' := by
  unfold worse Fi.sm
  by_cases e : dbt a.kd = dbt b.kd
  · rw [if_pos e]
    have d : (dbt a.kd != dbt b.kd) = false := by simp [e]
    clear e
    by_cases f : a.wh = b.wh
    · rw [if_pos f]
      have d2 : (a.wh != b.wh) = false := by simp [f]
      clear f
      by_cases g : wrap64 (wrap64 (a.st + a.sp) + a.si) = wrap64 (wrap64 (b.st + b.sp) + b.si)
      · rw [if_pos g]
        have d3 : (wrap64 (wrap64 (a.st + a.sp) + a.si) != wrap64 (wrap64 (b.st + b.sp) + b.si)) = false := by simp [g]
        clear g
        unfold sl
        go_enter Try.func8, Try.ntmps8
        go_wp2_with (first
          | (refine wpList_bxB rfl (.tmp 0) rfl rfl ?_; intro w1 hG1 hb1 hs1)
          | (refine wpList_bxB rfl (.tmp 1) rfl rfl ?_; intro w2 hG2 hb2 hs2; have HBW := (show Hid (Below w.heap.size w w2) from bt hb1 hb2); obtain ⟨x0, x1, x2, x3, x4, x5⟩ := (hG1.below hb2).fc; obtain ⟨y0, y1, y2, y3, y4, y5⟩ := hG2.fc; clear hG1 hG2 hb1 hb2 hs1 hs2))
        go_quiet ((go_at_call 11; exact Calls.quiet_of_same (rank_any _ _)))
        go_wp2
        go_ret
        exact ⟨rfl, below_drN HBW.out _⟩
      · rw [if_neg g]
        have d3 : (wrap64 (wrap64 (a.st + a.sp) + a.si) != wrap64 (wrap64 (b.st + b.sp) + b.si)) = true := by simp [g]
        clear g
        go_enter Try.func8, Try.ntmps8
        go_wp2_with (first
          | (refine wpList_bxB rfl (.tmp 0) rfl rfl ?_; intro w1 hG1 hb1 hs1)
          | (refine wpList_bxB rfl (.tmp 1) rfl rfl ?_; intro w2 hG2 hb2 hs2; have HBW := (show Hid (Below w.heap.size w w2) from bt hb1 hb2); obtain ⟨x0, x1, x2, x3, x4, x5⟩ := (hG1.below hb2).fc; obtain ⟨y0, y1, y2, y3, y4, y5⟩ := hG2.fc; clear hG1 hG2 hb1 hb2 hs1 hs2))
        go_quiet ((go_at_call 11; exact Calls.quiet_of_same (rank_any _ _)))
        go_wp2
        go_ret
        exact ⟨rfl, below_drN HBW.out _⟩
    · rw [if_neg f]
      have d2 : (a.wh != b.wh) = true := by simp [f]
      clear f
      go_enter Try.func8, Try.ntmps8
      go_wp2_with (first
        | (refine wpList_bxB rfl (.tmp 0) rfl rfl ?_; intro w1 hG1 hb1 hs1)
        | (refine wpList_bxB rfl (.tmp 1) rfl rfl ?_; intro w2 hG2 hb2 hs2; have HBW := (show Hid (Below w.heap.size w w2) from bt hb1 hb2); obtain ⟨x0, x1, x2, x3, x4, x5⟩ := (hG1.below hb2).fc; obtain ⟨y0, y1, y2, y3, y4, y5⟩ := hG2.fc; clear hG1 hG2 hb1 hb2 hs1 hs2))
      go_quiet ((go_at_call 11; exact Calls.quiet_of_same (rank_any _ _)))
      go_wp2
      go_ret
      exact ⟨rfl, below_drN HBW.out _⟩
  · rw [if_neg e]
    have d : (dbt a.kd != dbt b.kd) = true := by simp [e]
    clear e
    go_enter Try.func8, Try.ntmps8
    go_wp2_with (first
      | (refine wpList_bxB rfl (.tmp 0) rfl rfl ?_; intro w1 hG1 hb1 hs1)
      | (refine wpList_bxB rfl (.tmp 1) rfl rfl ?_; intro w2 hG2 hb2 hs2; have HBW := (show Hid (Below w.heap.size w w2) from bt hb1 hb2); obtain ⟨x0, x1, x2, x3, x4, x5⟩ := (hG1.below hb2).fc; obtain ⟨y0, y1, y2, y3, y4, y5⟩ := hG2.fc; clear hG1 hG2 hb1 hb2 hs1 hs2))
    go_quiet ((go_at_call 11; exact Calls.quiet_of_same (rank_any _ _)))
    go_wp2
    replace x1 : (w2.drewN nq).cell? ⟨w.heap.size, 1, none⟩ = some (.int .i64 a.kd) := x1
    replace y1 : (w2.drewN nq).cell? ⟨w1.heap.size, 1, none⟩ = some (.int .i64 b.kd) := y1
    have HB2 := (show Hid (Below w.heap.size w (w2.drewN nq)) from below_drN HBW.out _)
    generalize w2.drewN nq = w3 at *
    go_quiet ((go_at_call 11; exact Calls.quiet_of_same (rank_any _ _)))
    go_wp2
    go_ret
    exact ⟨rfl, below_drN HB2.out _⟩
end
end Go.Proofs.Ytnnepmofhedkpaa
