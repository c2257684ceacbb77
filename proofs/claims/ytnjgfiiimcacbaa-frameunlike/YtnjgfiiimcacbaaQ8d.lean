/-
  The document's Fits, Sizes, Check, Length.
-/
import Derived.Test.YtnjgfiiimcacbaaQ8c
namespace Go.Proofs.Ytnjgfiiimcacbaa
open Go.RowKit
theorem bls_len (k s : Nat) (hs : 1 ≤ s) : ∀ f l, l ≤ f → (bls k s f l).length = (l + s - 1) / s := by
  intro f
  induction f with
  | zero =>
    intro l hl
    have : l = 0 := by omega
    subst this
    show 0 = _
    rw [Nat.div_eq_of_lt (by omega)]
  | succ f ih =>
    intro l hl
    unfold bls
    split
    · rename_i h; subst h; rw [Nat.div_eq_of_lt (by omega)]; rfl
    · rename_i h
      rw [List.length_cons, ih (l - s) (by omega)]
      by_cases hls : l ≤ s
      · rw [show l - s + s - 1 = s - 1 by omega, Nat.div_eq_of_lt (by omega)]
        have : (l + s - 1) / s = 1 := by
          rw [show l + s - 1 = (l - 1) + s by omega, Nat.add_div_right _ (by omega), Nat.div_eq_of_lt (by omega)]
        omega
      · rw [show l - s + s - 1 = l - 1 by omega, show l + s - 1 = (l - 1) + s by omega, Nat.add_div_right _ (by omega)]
theorem dvk (d k : Nat) (hk : 1 ≤ k) : ∃ q : Nat, (d : Int) / (k : Int) = (q : Int) ∧ q ≤ d ∧ (((q : Int) * (k : Int) < (d : Int) ∧ 0 ≤ (q : Int) * (k : Int) ∧ (d + k - 1) / k = q + 1) ∨ ((q : Int) * (k : Int) = (d : Int) ∧ (d + k - 1) / k = q)) := by
  refine ⟨d / k, by rw [Int.natCast_ediv], Nat.div_le_self _ _, ?_⟩
  have hd := Nat.div_add_mod d k
  have hm := Nat.mod_lt d hk
  have hle : d / k ≤ d := Nat.div_le_self _ _
  generalize d / k = q at hd hle ⊢
  generalize d % k = r at hd hm
  rw [← Int.natCast_mul]
  by_cases h0 : r = 0
  · refine .inr ⟨by rw [Nat.mul_comm]; omega, ?_⟩
    have : d + k - 1 = k * q + (k - 1) := by omega
    rw [this, Nat.mul_add_div (by omega), Nat.div_eq_of_lt (by omega), Nat.add_zero]
  · refine .inl ⟨by rw [Nat.mul_comm]; omega, by omega, ?_⟩
    have : d + k - 1 = k * (q + 1) + (r - 1) := by rw [Nat.mul_add]; omega
    rw [this, Nat.mul_add_div (by omega), Nat.div_eq_of_lt (by omega), Nat.add_zero]
theorem kbk (k b : Nat) (hk : 1 ≤ k) : (k * b + k - 1) / k = b := by
  have : k * b + k - 1 = k * b + (k - 1) := by omega
  rw [this, Nat.mul_add_div (by omega), Nat.div_eq_of_lt (by omega), Nat.add_zero]
theorem ShAt.grown {w w' : World} {o : Obj} {g base n : Nat} {k m b : Int} {v : Value} {xs : List Value} (hb : Below w.heap.size w (w.alloc o)) (hg : (w.alloc o).grownBy w' v.ownBlock) (ho : w.ownsRow base 3 1 v n xs) (H : ShAt w g k m b) : ShAt w' g k m b := by
  have H' := H.below hb
  unfold ShAt at H' ⊢
  rw [hg.block g (Hm.lt H') (fun e => ?_)]
  · exact H'
  · obtain ⟨cs, hcs⟩ := (own_lt (own_below ho hb) e.symm).2.2
    rw [H'] at hcs
    injection hcs with hcs
    injection hcs with _ hcs
    cases hcs
section
attribute [local irreducible] Calls el Hd.cs
set_option maxHeartbeats 1000000 in
set_option maxRecDepth 1000000 in
theorem rfits_any (k m b : Int) (hk : In64 k) (hm : In64 m) (w : World) :
    Calls Try.prog 37 #[.agg (shC k m b)] w fun e w' => e = .returned (.bool (shB k m b)) ∧ Below w.heap.size w w' := by
  unfold shC shB
  unfold In64 at hk hm
  have al : ∀ (W : World) (o : Obj), Below W.heap.size W (W.alloc o) := fun W o => (Below.refl _ _).alloc (Nat.le_refl _) o
  go_enter Try.func37, Try.ntmps37
  go_wp2
  all_goals (go_ret; refine ⟨?_, al _ _⟩; show Ending.returned (.bool _) = Ending.returned (.bool _); congr 2; rw [Bool.eq_iff_iff]; simp only [Bool.and_eq_true, decide_eq_true_eq, Bool.false_eq_true, false_iff]; omega)
set_option maxHeartbeats 4000000 in
set_option maxRecDepth 1000000 in
theorem rsizes_nat (k m b sz : Nat) (hsh : shp k m b) (hz : sz ≤ 1048576) (w : World) :
    Calls Try.prog 20 #[.agg (shC k m b), .int .i64 (sz : Int)] w fun e w' => ∃ v, e = .returned (.tuple #[v, .int .i64 (if (bls k (k * b) sz sz).length ≤ 4096 then 0 else 3)]) ∧ Oi w' w.heap.size v (if (bls k (k * b) sz sz).length ≤ 4096 then bls k (k * b) sz sz else []) ∧ Below w.heap.size w w' := by
  have al : ∀ (W : World) (o : Obj), Below W.heap.size W (W.alloc o) := fun W o => (Below.refl _ _).alloc (Nat.le_refl _) o
  have d1 := (shB_iff _ _ _).2 hsh
  have hk : 1 ≤ k ∧ k ≤ 255 := by unfold shp at hsh; omega
  have hb : 1 ≤ b ∧ b ≤ 65536 := by unfold shp at hsh; omega
  have FI := (show Hid _ from fun w => rfits_any k m b (by unfold In64; omega) (by unfold In64; unfold shp at hsh; omega) w)
  have HA := ShAt.new w k m b
  have kb : 1 ≤ k * b ∧ k * b ≤ 16711680 := ⟨Nat.mul_le_mul hk.1 hb.1, Nat.mul_le_mul hk.2 hb.2⟩
  have HI : Hid ((k : Int) * (b : Int) = ((k * b : Nat) : Int)) := by show _ = _; simp
  have kbi : 1 ≤ (k : Int) * (b : Int) ∧ (k : Int) * (b : Int) ≤ 16711680 := by rw [HI.out]; omega
  unfold shC at FI HA ⊢
  clear hsh
  go_enter Try.func20, Try.ntmps20
  go_wp2_with (go_at_call 37; refine (FI.out _).mono ?_; rintro e w1 ⟨rfl, hb1⟩; rw [d1]; have H1 := HA.below hb1)
  obtain ⟨x0, x1, x2⟩ := H1.cells
  have hbb := bt (al w (.cells #[.int .i64 (k : Int), .int .i64 (m : Int), .int .i64 (b : Int)] 24)) hb1
  clear x0 x1 x2 FI HA
  go_loopw [7, 8] (fun o i wr => ∃ (f l : Nat) (z : Int) (ys : List Nat), i = .int .i64 z ∧ (0 < z → z = l) ∧ (z ≤ 0 → l = 0) ∧ -16711680 ≤ z ∧ l ≤ f ∧ ys.length + f = sz ∧ ys ++ bls k (k * b) f l = bls k (k * b) sz sz ∧ Oi wr w.heap.size o ys ∧ ShAt wr w.heap.size k m b ∧ Below w.heap.size w wr) (fun _ i _ => (intOf i).toNat)
  case atStart => exact ⟨sz, sz, sz, [], rfl, fun _ => rfl, fun _ => by omega, by omega, Nat.le_refl _, by simp, rfl, Oi.nil _ _, H1, hbb⟩
  case round =>
    obtain ⟨f, l, z, ys, rfl, hz1, hz2, hz3, hlf, hyf, he, hO, hS, hb'⟩ := hrel
    have hsz := hb'.size
    by_cases hlt : 0 < z
    · have hzl := hz1 hlt
      subst hzl
      obtain ⟨c0, c1, c2⟩ := hS.cells
      obtain ⟨f, rfl⟩ : ∃ f', f = f' + 1 := ⟨f - 1, by omega⟩
      have hl0 : ¬ l = 0 := by omega
      have hst : bls k (k * b) (f + 1) l = (min l (k * b) + k - 1) / k :: bls k (k * b) f (l - k * b) := by
        show (if l = 0 then [] else _) = _
        rw [if_neg hl0]
      have i1 : (l : Int) ≤ 1048576 := by omega
      clear hl0 hz1 hz2
      rcases Nat.lt_or_ge (k * b) l with hls | hls
      · have hmn : min l (k * b) = k * b := Nat.min_eq_right (Nat.le_of_lt hls)
        have g1 : (k : Int) * (b : Int) < (l : Int) := by rw [HI.out]; omega
        have e1 : (k : Int) * (b : Int) / (k : Int) = (b : Int) := Int.mul_ediv_cancel_left _ (by omega)
        have e2 : (b : Int) * (k : Int) = (k : Int) * (b : Int) := Int.mul_comm _ _
        rw [hmn, kbk k b hk.1] at hst
        rw [hst, List.append_cons] at he
        clear hst hmn
        have rc := cell_of_row (wr.alloc (.cells #[.int .i64 (b : Int)] 3)) wr.heap.size 0 _ _ (0, 0) (heap_alloc_new wr _)
        go_wp2_with (at_builtin; refine wpList_api rfl (.tmp 54) (.tmp 56) rfl w.heap.size u7 ys rfl (hO.below (al _ _)) ⟨wr.heap.size, 0, none⟩ 1 _ rfl rc (by omega) (Nat.le_trans hsz (al _ _).size) ?_; intro v1 w2 ho1 hg1; have hS2 := ShAt.grown (al wr (.cells #[.int .i64 (b : Int)] 3)) hg1 hO hS; obtain ⟨y0, y1, y2⟩ := hS2.cells)
        go_roundw
        case rel =>
          refine ⟨f, l - k * b, _, _, rfl, fun h => ?_, fun h => ?_, ?_, by omega, by rw [List.length_append]; simp; omega, he, ho1, hS2, below_append (t := 3) (hb'.alloc hsz _) (Nat.le_trans hsz (al _ _).size) hg1 (hO.below (al _ _)) (Nat.le_refl _)⟩
          · have := HI.out; omega
          · have := HI.out; omega
          · omega
        case measure => have := kbi.1; simp [intOf]; omega
      · have hmn : min l (k * b) = l := Nat.min_eq_left hls
        have g1 : (l : Int) ≤ (k : Int) * (b : Int) := by rw [HI.out]; omega
        obtain ⟨q, e1, hq, dv⟩ := dvk l k hk.1
        rw [hmn] at hst
        rw [hst, List.append_cons] at he
        clear hst hmn
        rcases dv with ⟨dv1, dv2, dv3⟩ | ⟨dv1, dv3⟩
        · rw [dv3] at he
          clear dv3
          have rc := cell_of_row (wr.alloc (.cells #[.int .i64 ((q + 1 : Nat) : Int)] 3)) wr.heap.size 0 _ _ (0, 0) (heap_alloc_new wr _)
          go_wp2_with (at_builtin; refine wpList_api rfl (.tmp 54) (.tmp 56) rfl w.heap.size u7 ys rfl (hO.below (al _ _)) ⟨wr.heap.size, 0, none⟩ 1 _ rfl rc (by omega) (Nat.le_trans hsz (al _ _).size) ?_; intro v1 w2 ho1 hg1; have hS2 := ShAt.grown (al wr (.cells #[.int .i64 ((q + 1 : Nat) : Int)] 3)) hg1 hO hS; obtain ⟨y0, y1, y2⟩ := hS2.cells)
          go_roundw
          case rel =>
            refine ⟨f, l - k * b, _, _, rfl, fun h => ?_, fun h => ?_, ?_, by omega, by rw [List.length_append]; simp; omega, he, ho1, hS2, below_append (t := 3) (hb'.alloc hsz _) (Nat.le_trans hsz (al _ _).size) hg1 (hO.below (al _ _)) (Nat.le_refl _)⟩
            · have := HI.out; omega
            · have := HI.out; omega
            · omega
          case measure => have := kbi.1; simp [intOf]; omega
        · rw [dv3] at he
          clear dv3
          have rc := cell_of_row (wr.alloc (.cells #[.int .i64 (q : Int)] 3)) wr.heap.size 0 _ _ (0, 0) (heap_alloc_new wr _)
          go_wp2_with (at_builtin; refine wpList_api rfl (.tmp 54) (.tmp 56) rfl w.heap.size u7 ys rfl (hO.below (al _ _)) ⟨wr.heap.size, 0, none⟩ 1 _ rfl rc (by omega) (Nat.le_trans hsz (al _ _).size) ?_; intro v1 w2 ho1 hg1; have hS2 := ShAt.grown (al wr (.cells #[.int .i64 (q : Int)] 3)) hg1 hO hS; obtain ⟨y0, y1, y2⟩ := hS2.cells)
          go_roundw
          case rel =>
            refine ⟨f, l - k * b, _, _, rfl, fun h => ?_, fun h => ?_, ?_, by omega, by rw [List.length_append]; simp; omega, he, ho1, hS2, below_append (t := 3) (hb'.alloc hsz _) (Nat.le_trans hsz (al _ _).size) hg1 (hO.below (al _ _)) (Nat.le_refl _)⟩
            · have := HI.out; omega
            · have := HI.out; omega
            · omega
          case measure => have := kbi.1; simp [intOf]; omega
    · have hl0 := hz2 (by omega)
      subst hl0
      have hnil : bls k (k * b) f 0 = [] := by cases f <;> rfl
      rw [hnil, List.append_nil] at he
      subst he
      clear hnil
      obtain ⟨p, cap, rfl, hcap, hV⟩ := hO.rd
      by_cases h4 : (bls k (k * b) sz sz).length ≤ 4096
      · have h4' : ((bls k (k * b) sz sz).length : Int) ≤ 4096 := by omega
        go_wp2
        go_ret2
        exact ⟨_, rfl, hO, hb'⟩
      · have h4' : ¬ ((bls k (k * b) sz sz).length : Int) ≤ 4096 := by omega
        go_wp2
        go_ret2
        exact ⟨_, rfl, Oi.nil _ _, hb'⟩
set_option maxHeartbeats 1000000 in
set_option maxRecDepth 1000000 in
theorem rsizes_any (k m b sz : Int) (hk : In64 k) (hm : In64 m) (hz : In64 sz) (w : World) :
    Calls Try.prog 20 #[.agg (shC k m b), .int .i64 sz] w fun e w' => ∃ v, e = .returned (.tuple #[v, .int .i64 (szC k m b sz)]) ∧ Oi w' w.heap.size v (szL k m b sz) ∧ Below w.heap.size w w' := by
  have al : ∀ (W : World) (o : Obj), Below W.heap.size W (W.alloc o) := fun W o => (Below.refl _ _).alloc (Nat.le_refl _) o
  have FI := (show Hid _ from fun w => rfits_any k m b hk hm w)
  by_cases h1 : shp k m b
  · by_cases h2 : 0 ≤ sz ∧ sz ≤ 1048576
    · obtain ⟨K, M, B, Z, rfl, rfl, rfl, rfl, hK, hB, hZ⟩ : ∃ K M B Z : Nat, k = K ∧ m = M ∧ b = B ∧ sz = Z ∧ (1 ≤ K ∧ K ≤ 255) ∧ (1 ≤ B ∧ B ≤ 65536) ∧ Z ≤ 1048576 := by
        unfold shp at h1
        exact ⟨k.toNat, m.toNat, b.toNat, sz.toNat, by omega, by omega, by omega, by omega, by omega, by omega, by omega⟩
      have h := rsizes_nat K M B Z h1 hZ w
      have hkb : 1 ≤ K * B := Nat.mul_le_mul hK.1 hB.1
      have hlen : ((bls K (K * B) Z Z).length : Int) = cdv Z ((K : Int) * (B : Int)) := by
        rw [bls_len K (K * B) hkb Z Z (Nat.le_refl _)]
        unfold cdv
        rw [← Int.natCast_mul, Int.natCast_ediv]; congr 1; omega
      have e1 : szC K M B Z = if (bls K (K * B) Z Z).length ≤ 4096 then 0 else 3 := by
        unfold szC szE
        rw [if_neg (not_not_intro h1), if_neg (by omega)]
        by_cases h4 : (bls K (K * B) Z Z).length ≤ 4096
        · rw [if_pos h4, if_neg (by omega)]
        · rw [if_neg h4, if_pos (by omega)]
      have e2 : szL K M B Z = if (bls K (K * B) Z Z).length ≤ 4096 then bls K (K * B) Z Z else [] := by
        unfold szL
        rw [e1, ← Int.natCast_mul]
        simp only [Int.toNat_natCast]
        by_cases h4 : (bls K (K * B) Z Z).length ≤ 4096
        · rw [if_pos h4, if_pos h4, if_pos rfl]
        · rw [if_neg h4, if_neg h4, if_neg (by decide)]
      rw [e1, e2]
      exact h
    · have d1 := (shB_iff _ _ _).2 h1
      have e1 : szC k m b sz = if sz < 0 then 2 else 3 := by
        unfold szC szE
        rw [if_neg (not_not_intro h1)]
        by_cases h3 : sz < 0
        · rw [if_pos h3, if_pos h3]
        · rw [if_neg h3, if_neg h3, if_pos (by omega)]
      have e2 : szL k m b sz = [] := by
        unfold szL
        rw [e1, if_neg (by split <;> decide)]
      rw [e1, e2]
      unfold shC at FI ⊢
      clear e1 e2
      go_enter Try.func20, Try.ntmps20
      by_cases h3 : sz < 0
      · rw [if_pos h3]
        go_wp2_with (go_at_call 37; refine (FI.out _).mono ?_; rintro e w1 ⟨rfl, hb1⟩; rw [d1])
        go_ret2
        exact ⟨_, rfl, Oi.nil _ _, bt (al _ _) hb1⟩
      · rw [if_neg h3]
        have h4 : 1048576 < sz := by omega
        go_wp2_with (go_at_call 37; refine (FI.out _).mono ?_; rintro e w1 ⟨rfl, hb1⟩; rw [d1])
        go_ret2
        exact ⟨_, rfl, Oi.nil _ _, bt (al _ _) hb1⟩
  · have d1 : shB k m b = false := by
      cases e : shB k m b with
      | false => rfl
      | true => exact absurd ((shB_iff _ _ _).1 e) h1
    have e1 : szC k m b sz = 4 := by unfold szC; rw [if_pos h1]
    have e2 : szL k m b sz = [] := by unfold szL; rw [e1, if_neg (by decide)]
    rw [e1, e2]
    unfold shC at FI ⊢
    go_enter Try.func20, Try.ntmps20
    go_wp2_with (go_at_call 37; refine (FI.out _).mono ?_; rintro e w1 ⟨rfl, hb1⟩; rw [d1])
    go_ret2
    exact ⟨_, rfl, Oi.nil _ _, bt (al _ _) hb1⟩
end
end Go.Proofs.Ytnjgfiiimcacbaa
