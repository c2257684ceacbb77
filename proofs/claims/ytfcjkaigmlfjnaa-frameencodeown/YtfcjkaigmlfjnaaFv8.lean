/-
  The document's Fits, Sizes, Check, Length.
-/
import Derived.Test.YtfcjkaigmlfjnaaQ8c
import Derived.Test.YtfcjkaigmlfjnaaSi8
import Derived.Test.YtfcjkaigmlfjnaaPz8
import Derived.Laws.CopyOwn
namespace Go.Proofs.Ytfcjkaigmlfjnaa
open Go.RowKit
theorem bls_len (k s : Nat) (hs : 1 ≤ s) : ∀ f l, l ≤ f → (bls k s f l).length = (l + s - 1) / s := by
  intro f
  induction f with
  | zero =>
    intro l hl
    have : l = 0 := by omega
    subst this
    show 0 = _
    rw [Nat.div_eq_of_lt (by omega)]
  | succ f ih =>
    intro l hl
    unfold bls
    split
    · rename_i h; subst h; rw [Nat.div_eq_of_lt (by omega)]; rfl
    · rename_i h
      rw [List.length_cons, ih (l - s) (by omega)]
      by_cases hls : l ≤ s
      · rw [show l - s + s - 1 = s - 1 by omega, Nat.div_eq_of_lt (by omega)]
        have : (l + s - 1) / s = 1 := by
          rw [show l + s - 1 = (l - 1) + s by omega, Nat.add_div_right _ (by omega), Nat.div_eq_of_lt (by omega)]
        omega
      · rw [show l - s + s - 1 = l - 1 by omega, show l + s - 1 = (l - 1) + s by omega, Nat.add_div_right _ (by omega)]
theorem dvk (d k : Nat) (hk : 1 ≤ k) : ∃ q : Nat, (d : Int) / (k : Int) = (q : Int) ∧ q ≤ d ∧ (((q : Int) * (k : Int) < (d : Int) ∧ 0 ≤ (q : Int) * (k : Int) ∧ (d + k - 1) / k = q + 1) ∨ ((q : Int) * (k : Int) = (d : Int) ∧ (d + k - 1) / k = q)) := by
  refine ⟨d / k, by rw [Int.natCast_ediv], Nat.div_le_self _ _, ?_⟩
  have hd := Nat.div_add_mod d k
  have hm := Nat.mod_lt d hk
  have hle : d / k ≤ d := Nat.div_le_self _ _
  generalize d / k = q at hd hle ⊢
  generalize d % k = r at hd hm
  rw [← Int.natCast_mul]
  by_cases h0 : r = 0
  · refine .inr ⟨by rw [Nat.mul_comm]; omega, ?_⟩
    have : d + k - 1 = k * q + (k - 1) := by omega
    rw [this, Nat.mul_add_div (by omega), Nat.div_eq_of_lt (by omega), Nat.add_zero]
  · refine .inl ⟨by rw [Nat.mul_comm]; omega, by omega, ?_⟩
    have : d + k - 1 = k * (q + 1) + (r - 1) := by rw [Nat.mul_add]; omega
    rw [this, Nat.mul_add_div (by omega), Nat.div_eq_of_lt (by omega), Nat.add_zero]
theorem kbk (k b : Nat) (hk : 1 ≤ k) : (k * b + k - 1) / k = b := by
  have : k * b + k - 1 = k * b + (k - 1) := by omega
  rw [this, Nat.mul_add_div (by omega), Nat.div_eq_of_lt (by omega), Nat.add_zero]
theorem ShAt.grown {w w' : World} {o : Obj} {g base n : Nat} {k m b : Int} {v : Value} {xs : List Value} (hb : Below w.heap.size w (w.alloc o)) (hg : (w.alloc o).grownBy w' v.ownBlock) (ho : w.ownsRow base 3 1 v n xs) (H : ShAt w g k m b) : ShAt w' g k m b := by
  have H' := H.below hb
  unfold ShAt at H' ⊢
  rw [hg.block g (Hm.lt H') (fun e => ?_)]
  · exact H'
  · obtain ⟨cs, hcs⟩ := (own_lt (own_below ho hb) e.symm).2.2
    rw [H'] at hcs
    injection hcs with hcs
    injection hcs with _ hcs
    cases hcs
section
attribute [local irreducible] Calls el Hd.cs
set_option maxHeartbeats 1000000 in
set_option maxRecDepth 1000000 in
theorem rfits_any (k m b : Int) (hk : In64 k) (hm : In64 m) (w : World) :
    Calls Try.prog 27 #[.agg (shC k m b)] w fun e w' => e = .returned (.bool (shB k m b)) ∧ Below w.heap.size w w' := by
  unfold shC shB
  unfold In64 at hk hm
  have al : ∀ (W : World) (o : Obj), Below W.heap.size W (W.alloc o) := fun W o => (Below.refl _ _).alloc (Nat.le_refl _) o
  go_enter Try.func27, Try.ntmps27
  go_wp2
  all_goals (go_ret; refine ⟨?_, al _ _⟩; show Ending.returned (.bool _) = Ending.returned (.bool _); congr 2; rw [Bool.eq_iff_iff]; simp only [Bool.and_eq_true, decide_eq_true_eq, Bool.false_eq_true, false_iff]; omega)
set_option maxHeartbeats 4000000 in
set_option maxRecDepth 1000000 in
theorem rsizes_nat (k m b sz : Nat) (hsh : shp k m b) (hz : sz ≤ 1048576) (w : World) :
    Calls Try.prog 15 #[.agg (shC k m b), .int .i64 (sz : Int)] w fun e w' => ∃ v, e = .returned (.tuple #[v, .int .i64 (if (bls k (k * b) sz sz).length ≤ 4096 then 0 else 3)]) ∧ Oi w' w.heap.size v (if (bls k (k * b) sz sz).length ≤ 4096 then bls k (k * b) sz sz else []) ∧ Below w.heap.size w w' := by
  have al : ∀ (W : World) (o : Obj), Below W.heap.size W (W.alloc o) := fun W o => (Below.refl _ _).alloc (Nat.le_refl _) o
  have d1 := (shB_iff _ _ _).2 hsh
  have hk : 1 ≤ k ∧ k ≤ 255 := by unfold shp at hsh; omega
  have hb : 1 ≤ b ∧ b ≤ 65536 := by unfold shp at hsh; omega
  have FI := (show Hid _ from fun w => rfits_any k m b (by unfold In64; omega) (by unfold In64; unfold shp at hsh; omega) w)
  have HA := ShAt.new w k m b
  have kb : 1 ≤ k * b ∧ k * b ≤ 16711680 := ⟨Nat.mul_le_mul hk.1 hb.1, Nat.mul_le_mul hk.2 hb.2⟩
  have HI : Hid ((k : Int) * (b : Int) = ((k * b : Nat) : Int)) := by show _ = _; simp
  have kbi : 1 ≤ (k : Int) * (b : Int) ∧ (k : Int) * (b : Int) ≤ 16711680 := by rw [HI.out]; omega
  unfold shC at FI HA ⊢
  clear hsh
  go_enter Try.func15, Try.ntmps15
  go_wp2_with (go_at_call 27; refine (FI.out _).mono ?_; rintro e w1 ⟨rfl, hb1⟩; rw [d1]; have H1 := HA.below hb1)
  obtain ⟨x0, x1, x2⟩ := H1.cells
  have hbb := bt (al w (.cells #[.int .i64 (k : Int), .int .i64 (m : Int), .int .i64 (b : Int)] 24)) hb1
  clear x0 x1 x2 FI HA
  go_loopw [7, 8] (fun o i wr => ∃ (f l : Nat) (z : Int) (ys : List Nat), i = .int .i64 z ∧ (0 < z → z = l) ∧ (z ≤ 0 → l = 0) ∧ -16711680 ≤ z ∧ l ≤ f ∧ ys.length + f = sz ∧ ys ++ bls k (k * b) f l = bls k (k * b) sz sz ∧ Oi wr w.heap.size o ys ∧ ShAt wr w.heap.size k m b ∧ Below w.heap.size w wr) (fun _ i _ => (intOf i).toNat)
  case atStart => exact ⟨sz, sz, sz, [], rfl, fun _ => rfl, fun _ => by omega, by omega, Nat.le_refl _, by simp, rfl, Oi.nil _ _, H1, hbb⟩
  case round =>
    obtain ⟨f, l, z, ys, rfl, hz1, hz2, hz3, hlf, hyf, he, hO, hS, hb'⟩ := hrel
    have hsz := hb'.size
    by_cases hlt : 0 < z
    · have hzl := hz1 hlt
      subst hzl
      obtain ⟨c0, c1, c2⟩ := hS.cells
      obtain ⟨f, rfl⟩ : ∃ f', f = f' + 1 := ⟨f - 1, by omega⟩
      have hl0 : ¬ l = 0 := by omega
      have hst : bls k (k * b) (f + 1) l = (min l (k * b) + k - 1) / k :: bls k (k * b) f (l - k * b) := by
        show (if l = 0 then [] else _) = _
        rw [if_neg hl0]
      have i1 : (l : Int) ≤ 1048576 := by omega
      clear hl0 hz1 hz2
      rcases Nat.lt_or_ge (k * b) l with hls | hls
      · have hmn : min l (k * b) = k * b := Nat.min_eq_right (Nat.le_of_lt hls)
        have g1 : (k : Int) * (b : Int) < (l : Int) := by rw [HI.out]; omega
        have e1 : (k : Int) * (b : Int) / (k : Int) = (b : Int) := Int.mul_ediv_cancel_left _ (by omega)
        have e2 : (b : Int) * (k : Int) = (k : Int) * (b : Int) := Int.mul_comm _ _
        rw [hmn, kbk k b hk.1] at hst
        rw [hst, List.append_cons] at he
        clear hst hmn
        have rc := cell_of_row (wr.alloc (.cells #[.int .i64 (b : Int)] 3)) wr.heap.size 0 _ _ (0, 0) (heap_alloc_new wr _)
        go_wp2_with (at_builtin; refine wpList_api rfl (.tmp 54) (.tmp 56) rfl w.heap.size u7 ys rfl (hO.below (al _ _)) ⟨wr.heap.size, 0, none⟩ 1 _ rfl rc (by omega) (Nat.le_trans hsz (al _ _).size) ?_; intro v1 w2 ho1 hg1; have hS2 := ShAt.grown (al wr (.cells #[.int .i64 (b : Int)] 3)) hg1 hO hS; obtain ⟨y0, y1, y2⟩ := hS2.cells)
        go_roundw
        case rel =>
          refine ⟨f, l - k * b, _, _, rfl, fun h => ?_, fun h => ?_, ?_, by omega, by rw [List.length_append]; simp; omega, he, ho1, hS2, below_append (t := 3) (hb'.alloc hsz _) (Nat.le_trans hsz (al _ _).size) hg1 (hO.below (al _ _)) (Nat.le_refl _)⟩
          · have := HI.out; omega
          · have := HI.out; omega
          · omega
        case measure => have := kbi.1; simp [intOf]; omega
      · have hmn : min l (k * b) = l := Nat.min_eq_left hls
        have g1 : (l : Int) ≤ (k : Int) * (b : Int) := by rw [HI.out]; omega
        obtain ⟨q, e1, hq, dv⟩ := dvk l k hk.1
        rw [hmn] at hst
        rw [hst, List.append_cons] at he
        clear hst hmn
        rcases dv with ⟨dv1, dv2, dv3⟩ | ⟨dv1, dv3⟩
        · rw [dv3] at he
          clear dv3
          have rc := cell_of_row (wr.alloc (.cells #[.int .i64 ((q + 1 : Nat) : Int)] 3)) wr.heap.size 0 _ _ (0, 0) (heap_alloc_new wr _)
          go_wp2_with (at_builtin; refine wpList_api rfl (.tmp 54) (.tmp 56) rfl w.heap.size u7 ys rfl (hO.below (al _ _)) ⟨wr.heap.size, 0, none⟩ 1 _ rfl rc (by omega) (Nat.le_trans hsz (al _ _).size) ?_; intro v1 w2 ho1 hg1; have hS2 := ShAt.grown (al wr (.cells #[.int .i64 ((q + 1 : Nat) : Int)] 3)) hg1 hO hS; obtain ⟨y0, y1, y2⟩ := hS2.cells)
          go_roundw
          case rel =>
            refine ⟨f, l - k * b, _, _, rfl, fun h => ?_, fun h => ?_, ?_, by omega, by rw [List.length_append]; simp; omega, he, ho1, hS2, below_append (t := 3) (hb'.alloc hsz _) (Nat.le_trans hsz (al _ _).size) hg1 (hO.below (al _ _)) (Nat.le_refl _)⟩
            · have := HI.out; omega
            · have := HI.out; omega
            · omega
          case measure => have := kbi.1; simp [intOf]; omega
        · rw [dv3] at he
          clear dv3
          have rc := cell_of_row (wr.alloc (.cells #[.int .i64 (q : Int)] 3)) wr.heap.size 0 _ _ (0, 0) (heap_alloc_new wr _)
          go_wp2_with (at_builtin; refine wpList_api rfl (.tmp 54) (.tmp 56) rfl w.heap.size u7 ys rfl (hO.below (al _ _)) ⟨wr.heap.size, 0, none⟩ 1 _ rfl rc (by omega) (Nat.le_trans hsz (al _ _).size) ?_; intro v1 w2 ho1 hg1; have hS2 := ShAt.grown (al wr (.cells #[.int .i64 (q : Int)] 3)) hg1 hO hS; obtain ⟨y0, y1, y2⟩ := hS2.cells)
          go_roundw
          case rel =>
            refine ⟨f, l - k * b, _, _, rfl, fun h => ?_, fun h => ?_, ?_, by omega, by rw [List.length_append]; simp; omega, he, ho1, hS2, below_append (t := 3) (hb'.alloc hsz _) (Nat.le_trans hsz (al _ _).size) hg1 (hO.below (al _ _)) (Nat.le_refl _)⟩
            · have := HI.out; omega
            · have := HI.out; omega
            · omega
          case measure => have := kbi.1; simp [intOf]; omega
    · have hl0 := hz2 (by omega)
      subst hl0
      have hnil : bls k (k * b) f 0 = [] := by cases f <;> rfl
      rw [hnil, List.append_nil] at he
      subst he
      clear hnil
      obtain ⟨p, cap, rfl, hcap, hV⟩ := hO.rd
      by_cases h4 : (bls k (k * b) sz sz).length ≤ 4096
      · have h4' : ((bls k (k * b) sz sz).length : Int) ≤ 4096 := by omega
        go_wp2
        go_ret2
        exact ⟨_, rfl, hO, hb'⟩
      · have h4' : ¬ ((bls k (k * b) sz sz).length : Int) ≤ 4096 := by omega
        go_wp2
        go_ret2
        exact ⟨_, rfl, Oi.nil _ _, hb'⟩
set_option maxHeartbeats 1000000 in
set_option maxRecDepth 1000000 in
theorem rsizes_any (k m b sz : Int) (hk : In64 k) (hm : In64 m) (hz : In64 sz) (w : World) :
    Calls Try.prog 15 #[.agg (shC k m b), .int .i64 sz] w fun e w' => ∃ v, e = .returned (.tuple #[v, .int .i64 (szC k m b sz)]) ∧ Oi w' w.heap.size v (szL k m b sz) ∧ Below w.heap.size w w' := by
  have al : ∀ (W : World) (o : Obj), Below W.heap.size W (W.alloc o) := fun W o => (Below.refl _ _).alloc (Nat.le_refl _) o
  have FI := (show Hid _ from fun w => rfits_any k m b hk hm w)
  by_cases h1 : shp k m b
  · by_cases h2 : 0 ≤ sz ∧ sz ≤ 1048576
    · obtain ⟨K, M, B, Z, rfl, rfl, rfl, rfl, hK, hB, hZ⟩ : ∃ K M B Z : Nat, k = K ∧ m = M ∧ b = B ∧ sz = Z ∧ (1 ≤ K ∧ K ≤ 255) ∧ (1 ≤ B ∧ B ≤ 65536) ∧ Z ≤ 1048576 := by
        unfold shp at h1
        exact ⟨k.toNat, m.toNat, b.toNat, sz.toNat, by omega, by omega, by omega, by omega, by omega, by omega, by omega⟩
      have h := rsizes_nat K M B Z h1 hZ w
      have hkb : 1 ≤ K * B := Nat.mul_le_mul hK.1 hB.1
      have hlen : ((bls K (K * B) Z Z).length : Int) = cdv Z ((K : Int) * (B : Int)) := by
        rw [bls_len K (K * B) hkb Z Z (Nat.le_refl _)]
        unfold cdv
        rw [← Int.natCast_mul, Int.natCast_ediv]; congr 1; omega
      have e1 : szC K M B Z = if (bls K (K * B) Z Z).length ≤ 4096 then 0 else 3 := by
        unfold szC szE
        rw [if_neg (not_not_intro h1), if_neg (by omega)]
        by_cases h4 : (bls K (K * B) Z Z).length ≤ 4096
        · rw [if_pos h4, if_neg (by omega)]
        · rw [if_neg h4, if_pos (by omega)]
      have e2 : szL K M B Z = if (bls K (K * B) Z Z).length ≤ 4096 then bls K (K * B) Z Z else [] := by
        unfold szL
        rw [e1, ← Int.natCast_mul]
        simp only [Int.toNat_natCast]
        by_cases h4 : (bls K (K * B) Z Z).length ≤ 4096
        · rw [if_pos h4, if_pos h4, if_pos rfl]
        · rw [if_neg h4, if_neg h4, if_neg (by decide)]
      rw [e1, e2]
      exact h
    · have d1 := (shB_iff _ _ _).2 h1
      have e1 : szC k m b sz = if sz < 0 then 2 else 3 := by
        unfold szC szE
        rw [if_neg (not_not_intro h1)]
        by_cases h3 : sz < 0
        · rw [if_pos h3, if_pos h3]
        · rw [if_neg h3, if_neg h3, if_pos (by omega)]
      have e2 : szL k m b sz = [] := by
        unfold szL
        rw [e1, if_neg (by split <;> decide)]
      rw [e1, e2]
      unfold shC at FI ⊢
      clear e1 e2
      go_enter Try.func15, Try.ntmps15
      by_cases h3 : sz < 0
      · rw [if_pos h3]
        go_wp2_with (go_at_call 27; refine (FI.out _).mono ?_; rintro e w1 ⟨rfl, hb1⟩; rw [d1])
        go_ret2
        exact ⟨_, rfl, Oi.nil _ _, bt (al _ _) hb1⟩
      · rw [if_neg h3]
        have h4 : 1048576 < sz := by omega
        go_wp2_with (go_at_call 27; refine (FI.out _).mono ?_; rintro e w1 ⟨rfl, hb1⟩; rw [d1])
        go_ret2
        exact ⟨_, rfl, Oi.nil _ _, bt (al _ _) hb1⟩
  · have d1 : shB k m b = false := by
      cases e : shB k m b with
      | false => rfl
      | true => exact absurd ((shB_iff _ _ _).1 e) h1
    have e1 : szC k m b sz = 4 := by unfold szC; rw [if_pos h1]
    have e2 : szL k m b sz = [] := by unfold szL; rw [e1, if_neg (by decide)]
    rw [e1, e2]
    unfold shC at FI ⊢
    go_enter Try.func15, Try.ntmps15
    go_wp2_with (go_at_call 27; refine (FI.out _).mono ?_; rintro e w1 ⟨rfl, hb1⟩; rw [d1])
    go_ret2
    exact ⟨_, rfl, Oi.nil _ _, bt (al _ _) hb1⟩
end
end Go.Proofs.Ytfcjkaigmlfjnaa
/-
  The document's Check, Length.
-/
namespace Go.Proofs.Ytfcjkaigmlfjnaa
open Go.RowKit
section
attribute [local irreducible] Calls el Hd.cs
set_option maxHeartbeats 4000000 in
set_option maxRecDepth 1000000 in
theorem rcheck_any (h : Hd) (hi : h.In) (hy : h.key.length ≤ 9223372036854775807) (w : World) :
    Calls Try.prog 14 #[.agg h.cs] w fun e w' => e = .returned (.int .i64 (chk h)) ∧ Below w.heap.size w w' := by
  have al : ∀ (W : World) (o : Obj), Below W.heap.size W (W.alloc o) := fun W o => (Below.refl _ _).alloc (Nat.le_refl _) o
  have hl : (bstr h.key).size = h.key.length := by show (us h.key).toArray.size = _; simp [us]
  have FI := (show Hid _ from fun w => rfits_any h.k h.m h.b hi.k hi.m w)
  have SZ := (show Hid _ from fun w => rsizes_any h.k h.m h.b h.sz hi.k hi.m hi.sz w)
  have HA := HdAt.new w h
  obtain ⟨q8, q9, q10, q11, q12, q13, q14, q15⟩ := HA.cells
  obtain ⟨ik, im, ib, iz, ii, ie, ic⟩ := hi
  unfold In64 at ik im ib iz ii ie ic
  unfold shC at FI SZ
  by_cases h1 : shp h.k h.m h.b
  · have d1 := (shB_iff _ _ _).2 h1
    have e1 : szC h.k h.m h.b h.sz = szE h.k h.b h.sz := by unfold szC; rw [if_neg (not_not_intro h1)]
    rw [e1] at SZ
    have kk : 1 ≤ h.k ∧ h.k ≤ 255 ∧ 1 ≤ h.m ∧ h.m ≤ 255 := by unfold shp at h1; omega
    by_cases h2 : 1 ≤ h.key.length ∧ h.key.length ≤ 255
    · have g1 : ¬ (h.key.length : Int) < 1 := by omega
      have g2 : ¬ 255 < (h.key.length : Int) := by omega
      by_cases h3 : szE h.k h.b h.sz = 0
      · rw [h3] at SZ
        by_cases h4 : 0 ≤ h.ix ∧ h.ix ≤ h.k + h.m - 1
        · have g3 : ¬ h.ix < 0 := by omega
          have g4 : ¬ h.k + h.m ≤ h.ix := by omega
          by_cases h5 : 1 ≤ h.ep ∧ h.ep ≤ 4294967295
          · have g5 : ¬ h.ep < 1 := by omega
            have g6 : ¬ 4294967295 < h.ep := by omega
            by_cases h6 : 1 ≤ h.ct ∧ h.ct ≤ 4294967295
            · have g7 : ¬ h.ct < 1 := by omega
              have g8 : ¬ 4294967295 < h.ct := by omega
              have ec : chk h = 0 := by unfold chk; rw [if_neg (not_not_intro h1), if_neg (not_not_intro h2), if_neg (not_not_intro h3), if_neg (not_not_intro h4), if_neg (not_not_intro ⟨h5, h6⟩)]
              rw [ec]
              clear h1 h2 h3 h4 h5 h6 ec e1
              go_enter Try.func14, Try.ntmps14
              go_wp2_with (first | (go_at_call 27; refine (FI.out _).mono ?_; rintro e w1 ⟨rfl, hb1⟩; rw [d1]; have H1 := HA.below hb1; obtain ⟨q8, q9, q10, q11, q12, q13, q14, q15⟩ := H1.cells) | (go_at_call 15; refine (SZ.out _).mono ?_; rintro e w3 ⟨v, rfl, hO, hb3⟩; obtain ⟨z8, z9, z10, z11, z12, z13, z14, z15⟩ := (H1.below hb3).cells))
              all_goals go_ret
              all_goals exact ⟨rfl, bt (bt (al _ _) hb1) hb3⟩
            · have ec : chk h = 2 := by unfold chk; rw [if_neg (not_not_intro h1), if_neg (not_not_intro h2), if_neg (not_not_intro h3), if_neg (not_not_intro h4), if_pos (fun g => h6 g.2)]
              rw [ec]
              by_cases g7 : h.ct < 1
              · clear h1 h2 h3 h4 h5 h6 ec e1
                go_enter Try.func14, Try.ntmps14
                go_wp2_with (first | (go_at_call 27; refine (FI.out _).mono ?_; rintro e w1 ⟨rfl, hb1⟩; rw [d1]; have H1 := HA.below hb1; obtain ⟨q8, q9, q10, q11, q12, q13, q14, q15⟩ := H1.cells) | (go_at_call 15; refine (SZ.out _).mono ?_; rintro e w3 ⟨v, rfl, hO, hb3⟩; obtain ⟨z8, z9, z10, z11, z12, z13, z14, z15⟩ := (H1.below hb3).cells))
                all_goals go_ret
                all_goals exact ⟨rfl, bt (bt (al _ _) hb1) hb3⟩
              · have g8 : 4294967295 < h.ct := by omega
                clear h1 h2 h3 h4 h5 h6 ec e1
                go_enter Try.func14, Try.ntmps14
                go_wp2_with (first | (go_at_call 27; refine (FI.out _).mono ?_; rintro e w1 ⟨rfl, hb1⟩; rw [d1]; have H1 := HA.below hb1; obtain ⟨q8, q9, q10, q11, q12, q13, q14, q15⟩ := H1.cells) | (go_at_call 15; refine (SZ.out _).mono ?_; rintro e w3 ⟨v, rfl, hO, hb3⟩; obtain ⟨z8, z9, z10, z11, z12, z13, z14, z15⟩ := (H1.below hb3).cells))
                all_goals go_ret
                all_goals exact ⟨rfl, bt (bt (al _ _) hb1) hb3⟩
          · have ec : chk h = 2 := by unfold chk; rw [if_neg (not_not_intro h1), if_neg (not_not_intro h2), if_neg (not_not_intro h3), if_neg (not_not_intro h4), if_pos (fun g => h5 g.1)]
            rw [ec]
            by_cases g7 : h.ep < 1
            · clear h1 h2 h3 h4 h5 ec e1
              go_enter Try.func14, Try.ntmps14
              go_wp2_with (first | (go_at_call 27; refine (FI.out _).mono ?_; rintro e w1 ⟨rfl, hb1⟩; rw [d1]; have H1 := HA.below hb1; obtain ⟨q8, q9, q10, q11, q12, q13, q14, q15⟩ := H1.cells) | (go_at_call 15; refine (SZ.out _).mono ?_; rintro e w3 ⟨v, rfl, hO, hb3⟩; obtain ⟨z8, z9, z10, z11, z12, z13, z14, z15⟩ := (H1.below hb3).cells))
              all_goals go_ret
              all_goals exact ⟨rfl, bt (bt (al _ _) hb1) hb3⟩
            · have g8 : 4294967295 < h.ep := by omega
              clear h1 h2 h3 h4 h5 ec e1
              go_enter Try.func14, Try.ntmps14
              go_wp2_with (first | (go_at_call 27; refine (FI.out _).mono ?_; rintro e w1 ⟨rfl, hb1⟩; rw [d1]; have H1 := HA.below hb1; obtain ⟨q8, q9, q10, q11, q12, q13, q14, q15⟩ := H1.cells) | (go_at_call 15; refine (SZ.out _).mono ?_; rintro e w3 ⟨v, rfl, hO, hb3⟩; obtain ⟨z8, z9, z10, z11, z12, z13, z14, z15⟩ := (H1.below hb3).cells))
              all_goals go_ret
              all_goals exact ⟨rfl, bt (bt (al _ _) hb1) hb3⟩
        · have ec : chk h = 2 := by unfold chk; rw [if_neg (not_not_intro h1), if_neg (not_not_intro h2), if_neg (not_not_intro h3), if_pos h4]
          rw [ec]
          by_cases g3 : h.ix < 0
          · clear h1 h2 h3 h4 ec e1
            go_enter Try.func14, Try.ntmps14
            go_wp2_with (first | (go_at_call 27; refine (FI.out _).mono ?_; rintro e w1 ⟨rfl, hb1⟩; rw [d1]; have H1 := HA.below hb1; obtain ⟨q8, q9, q10, q11, q12, q13, q14, q15⟩ := H1.cells) | (go_at_call 15; refine (SZ.out _).mono ?_; rintro e w3 ⟨v, rfl, hO, hb3⟩; obtain ⟨z8, z9, z10, z11, z12, z13, z14, z15⟩ := (H1.below hb3).cells))
            all_goals go_ret
            all_goals exact ⟨rfl, bt (bt (al _ _) hb1) hb3⟩
          · have g4 : h.k + h.m ≤ h.ix := by omega
            clear h1 h2 h3 h4 ec e1
            go_enter Try.func14, Try.ntmps14
            go_wp2_with (first | (go_at_call 27; refine (FI.out _).mono ?_; rintro e w1 ⟨rfl, hb1⟩; rw [d1]; have H1 := HA.below hb1; obtain ⟨q8, q9, q10, q11, q12, q13, q14, q15⟩ := H1.cells) | (go_at_call 15; refine (SZ.out _).mono ?_; rintro e w3 ⟨v, rfl, hO, hb3⟩; obtain ⟨z8, z9, z10, z11, z12, z13, z14, z15⟩ := (H1.below hb3).cells))
            all_goals go_ret
            all_goals exact ⟨rfl, bt (bt (al _ _) hb1) hb3⟩
      · have ec : chk h = szE h.k h.b h.sz := by unfold chk; rw [if_neg (not_not_intro h1), if_neg (not_not_intro h2), if_pos h3]
        rw [ec]
        have hz := szE_bd h.k h.b h.sz
        generalize szE h.k h.b h.sz = z at h3 SZ hz ⊢
        clear h1 h2 ec e1
        go_enter Try.func14, Try.ntmps14
        go_wp2_with (first | (go_at_call 27; refine (FI.out _).mono ?_; rintro e w1 ⟨rfl, hb1⟩; rw [d1]; have H1 := HA.below hb1; obtain ⟨q8, q9, q10, q11, q12, q13, q14, q15⟩ := H1.cells) | (go_at_call 15; refine (SZ.out _).mono ?_; rintro e w3 ⟨v, rfl, hO, hb3⟩; obtain ⟨z8, z9, z10, z11, z12, z13, z14, z15⟩ := (H1.below hb3).cells))
        all_goals go_ret
        all_goals exact ⟨rfl, bt (bt (al _ _) hb1) hb3⟩
    · have ec : chk h = 90 := by unfold chk; rw [if_neg (not_not_intro h1), if_pos h2]
      rw [ec]
      by_cases g1 : (h.key.length : Int) < 1
      · clear h1 h2 ec e1
        go_enter Try.func14, Try.ntmps14
        go_wp2_with (first | (go_at_call 27; refine (FI.out _).mono ?_; rintro e w1 ⟨rfl, hb1⟩; rw [d1]; have H1 := HA.below hb1; obtain ⟨q8, q9, q10, q11, q12, q13, q14, q15⟩ := H1.cells) | (go_at_call 15; refine (SZ.out _).mono ?_; rintro e w3 ⟨v, rfl, hO, hb3⟩; obtain ⟨z8, z9, z10, z11, z12, z13, z14, z15⟩ := (H1.below hb3).cells))
        all_goals go_ret
        all_goals exact ⟨rfl, bt (al _ _) hb1⟩
      · have g2 : 255 < (h.key.length : Int) := by omega
        clear h1 h2 ec e1
        go_enter Try.func14, Try.ntmps14
        go_wp2_with (first | (go_at_call 27; refine (FI.out _).mono ?_; rintro e w1 ⟨rfl, hb1⟩; rw [d1]; have H1 := HA.below hb1; obtain ⟨q8, q9, q10, q11, q12, q13, q14, q15⟩ := H1.cells) | (go_at_call 15; refine (SZ.out _).mono ?_; rintro e w3 ⟨v, rfl, hO, hb3⟩; obtain ⟨z8, z9, z10, z11, z12, z13, z14, z15⟩ := (H1.below hb3).cells))
        all_goals go_ret
        all_goals exact ⟨rfl, bt (al _ _) hb1⟩
  · have d1 : shB h.k h.m h.b = false := by
      cases e : shB h.k h.m h.b with
      | false => rfl
      | true => exact absurd ((shB_iff _ _ _).1 e) h1
    have ec : chk h = 4 := by unfold chk; rw [if_pos h1]
    rw [ec]
    clear h1 ec
    go_enter Try.func14, Try.ntmps14
    go_wp2_with (first | (go_at_call 27; refine (FI.out _).mono ?_; rintro e w1 ⟨rfl, hb1⟩; rw [d1]; have H1 := HA.below hb1; obtain ⟨q8, q9, q10, q11, q12, q13, q14, q15⟩ := H1.cells) | (go_at_call 15; refine (SZ.out _).mono ?_; rintro e w3 ⟨v, rfl, hO, hb3⟩; obtain ⟨z8, z9, z10, z11, z12, z13, z14, z15⟩ := (H1.below hb3).cells))
    all_goals go_ret
    all_goals exact ⟨rfl, bt (al _ _) hb1⟩
end
end Go.Proofs.Ytfcjkaigmlfjnaa
/-
  The document's Length.
-/
namespace Go.Proofs.Ytfcjkaigmlfjnaa
open Go.RowKit
section
attribute [local irreducible] Calls el Hd.cs
end
end Go.Proofs.Ytfcjkaigmlfjnaa
/-
  The laws' fit: blocks of the right lengths.
-/
namespace Go.Proofs.Ytfcjkaigmlfjnaa
open Go.RowKit
/-- A block of l bytes, out of what there is. -/
def padT (l : Nat) (x : List (BitVec 8)) : List (BitVec 8) := x.take l ++ List.replicate (l - x.length) 0#8
theorem padT_len (l : Nat) (x : List (BitVec 8)) : (padT l x).length = l := by unfold padT; simp; omega
def fitB (L : List Nat) (bl : List (List (BitVec 8))) : List (List (BitVec 8)) := (List.range L.length).map (fun j => padT (L.getD j 0) (bl.getD j []))
theorem fitB_len (L : List Nat) (bl : List (List (BitVec 8))) : (fitB L bl).length = L.length := by unfold fitB; simp
theorem fitB_ls (L : List Nat) (bl : List (List (BitVec 8))) : (fitB L bl).map List.length = L := by
  apply List.ext_getElem?
  intro i
  unfold fitB
  by_cases hi : i < L.length
  · simp [hi, padT_len]
  · rw [List.getElem?_eq_none (by simp; omega), List.getElem?_eq_none (by omega)]
theorem fitB_take (L : List Nat) (bl : List (List (BitVec 8))) (t : Nat) (ht : t < L.length) : (fitB L bl).take (t + 1) = (fitB L bl).take t ++ [padT (L.getD t 0) (bl.getD t [])] := by
  rw [List.take_add_one]
  congr 1
  unfold fitB
  simp [ht]
theorem vs_map (xs : List (BitVec 8)) : vs (fn xs) xs.length = xs.map (fun b => Value.int .u8 (el b)) := by
  apply List.ext_getElem?
  intro i
  by_cases hi : i < xs.length
  · simp [vs, fn, hi]
  · rw [List.getElem?_eq_none (by rw [vs_len]; omega), List.getElem?_eq_none (by simp; omega)]
theorem Ow.of_row {w : World} {base g : Nat} {xs : List (BitVec 8)} (hg : base ≤ g) (h : w.heap[g]? = some (.cells (xs.map (fun b => Value.int .u8 (el b))).toArray 5)) (hl : xs.length ≤ 140737488355328) : Ow w base (.slice (some ⟨g, 0, none⟩) xs.length xs.length) xs := by
  unfold Ow
  rw [vs_map]
  refine ⟨by simp, .inr ⟨g, xs.length, _, rfl, hg, h, Nat.le_refl _, by unfold maxLen; omega, by simp, by rw [Nat.mul_one]; exact List.take_of_length_le (by simp)⟩⟩
theorem padT_row (l : Nat) (x : List (BitVec 8)) : (Array.replicate l (Value.int .u8 0)).toList.take 0 ++ ((x.take l).map (fun b => Value.int .u8 (el b)) ++ (Array.replicate l (Value.int .u8 0)).toList.drop (0 + ((x.take l).map (fun b => Value.int .u8 (el b))).length)) = (padT l x).map (fun b => Value.int .u8 (el b)) := by
  unfold padT
  rw [List.map_append]
  simp
  exact ⟨by omega, .inr rfl⟩
theorem padT_nil (l : Nat) : (padT l []).map (fun b => Value.int .u8 (el b)) = List.replicate l (Value.int .u8 0) := by
  unfold padT
  simp
  exact .inr rfl
theorem Ow.blank (w : World) (l : Nat) (hl : l ≤ 140737488355328) : Ow (w.alloc (.cells (Array.replicate l (.int .u8 0)) 5)) w.heap.size (.slice (some ⟨w.heap.size, 0, none⟩) l l) (padT l []) := by
  have h := Ow.of_row (w := w.alloc (.cells (Array.replicate l (.int .u8 0)) 5)) (base := w.heap.size) (g := w.heap.size) (xs := padT l []) (Nat.le_refl _) (by rw [padT_nil, ← List.toArray_replicate]; exact heap_alloc_new w _) (by rw [padT_len]; exact hl)
  rw [padT_len] at h
  exact h
theorem Turned.refl (g : Nat) (w : World) : Turned g w w := ⟨fun _ _ => rfl, fun _ _ h _ => h, rfl⟩
/-- copy(block, x) onto a new block. -/
theorem wpList_cpT {w : World} {ops : Array Oper} {rest : List Oper} {o : Oper} {a : Act} {Q : Exit → Act → World → Prop} (hgd : o.guard = none) (d s : Operand) (ho : o.op = .call { callee := .builtin .copy, args := #[d, s], argTypes := #[35, 35] })
    (g l : Nat) (hd : a.eval d = .slice (some ⟨g, 0, none⟩) l l) (p : Option Addr) (c : Nat) (x : List (BitVec 8)) (hs : a.eval s = .slice p x.length c) (hr : Rd w p x) (hg : w.heap[g]? = some (.cells (Array.replicate l (.int .u8 0)) 5)) (hl : l ≤ 140737488355328)
    (h : ∀ w', Ow w' g (.slice (some ⟨g, 0, none⟩) l l) (padT l x) → Turned g w w' → wpList Try.prog ops Q rest (a.put o.dst (goInt ((x.take l).length))) w') : wpList Try.prog ops Q (o :: rest) a w := by
  have hsz : (Try.prog.info? 5).map (·.size) = some 1 := by kernel_rfl
  rcases hr with e | ⟨b, off, e, hc⟩
  · subst e
    refine wpList_copy_nothing hgd d s 35 35 ho 5 Try.underlying35 hsz _ _ _ _ _ _ hd hs (Nat.min_eq_left (Nat.zero_le _)) ?_
    have h9 := h w ?_ (Turned.refl _ _)
    · simpa using h9
    have h1 := Ow.of_row (w := w) (base := g) (g := g) (xs := padT l []) (Nat.le_refl _) (by rw [padT_nil, List.toArray_replicate]; exact hg) (by rw [padT_len]; exact hl)
    rw [padT_len] at h1
    exact h1
  · subst e
    refine wpList_copy_own hgd d s 35 35 ho 5 Try.underlying35 hsz g 0 l l ⟨b, off, none⟩ x.length c hd hs (Array.replicate l (.int .u8 0)) 5 hg ((x.take l).map (fun b => Value.int .u8 (el b))) (by simp [Nat.min_comm]) (fun j v hv => ?_) (by simp; omega) (fun v hv => by obtain ⟨_, _, rfl⟩ := List.mem_map.1 hv; rfl) ?_
    · have hj : j < x.length := by
        rcases Nat.lt_or_ge j x.length with h | h
        · exact h
        · rw [List.getElem?_eq_none (by simp; omega)] at hv; cases hv
      rw [add_pl, hc j hj]
      rw [List.getElem?_map, List.getElem?_take] at hv
      split at hv
      · rw [List.getElem?_eq_getElem hj] at hv
        simp only [Option.map_some, Option.some.injEq] at hv
        rw [← hv]
        simp [List.getD, hj]
      · cases hv
    · rw [padT_row, List.length_map]
      refine h _ ?_ ⟨fun k hk => setRow_other w g k _ hk, fun B w0 hb hB => below_setRow hb hB _, by simp⟩
      have h1 := Ow.of_row (w := w.setRow g ((padT l x).map (fun b => Value.int .u8 (el b))).toArray) (base := g) (g := g) (xs := padT l x) (Nat.le_refl _) (setRow_heap w g _ _ _ _ hg) (by rw [padT_len]; exact hl)
      rw [padT_len] at h1
      exact h1
end Go.Proofs.Ytfcjkaigmlfjnaa
/-
  The laws' fit.
-/
namespace Go.Proofs.Ytfcjkaigmlfjnaa
open Go.RowKit
theorem al_sz (w : World) (o : Obj) : (w.alloc o).heap.size = w.heap.size + 1 := by simp
section
attribute [local irreducible] Calls el Hd.cs Hd.sh szC szL
set_option maxHeartbeats 8000000 in
set_option maxRecDepth 1000000 in
theorem fit8_no (h : Hd) (hi : h.In) (hy : h.key.length ≤ 9223372036854775807) (p : Option Addr) (n c : Nat) (w : World) (hc : chk h ≠ 0) :
    Calls Try.prog 5 #[.agg (h.sh (.slice p n c))] w fun e w' => e = .returned (.tuple #[.agg (h.sh (.slice p n c)), .bool false]) ∧ Below w.heap.size w w' := by
  have al : ∀ (W : World) (o : Obj), Below W.heap.size W (W.alloc o) := fun W o => (Below.refl _ _).alloc (Nat.le_refl _) o
  have H0 := (show Hid (SdAt (w.alloc (.cells (h.sh (.slice p n c)) 31)) w.heap.size h (.slice p n c)) from heap_alloc_new w _)
  have CK := (show Hid _ from fun W => rcheck_any h hi hy W)
  have hc' : (chk h != 0) = true := by simpa using hc
  obtain ⟨z, hz⟩ : ∃ z, z = chk h := ⟨_, rfl⟩
  rw [← hz] at CK hc'
  clear hz hc
  go_enter Try.func5, Try.ntmps5
  go_wp2_with (first
    | (refine wpList_loadIn rfl _ rfl w.heap.size rfl (SdAt.head (SdAt.below H0.out (al _ _))) ?_)
    | (go_at_call 14; refine (CK.out _).mono ?_; rintro e w1 ⟨rfl, hb1⟩; have H1 := (show Hid (SdAt w1 w.heap.size h (.slice p n c)) from SdAt.below (SdAt.below H0.out (al _ _)) hb1); have Z1 := (show Hid (SdAt w1 (w.heap.size + 1) hd0 (.slice none 0 0)) from by have h9 := SdAt.below (sz0 (heap_alloc_new (w.alloc (.cells (h.sh (.slice p n c)) 31)) _)) hb1; rw [al_sz] at h9; exact h9))
    | (refine wpList_ldS rfl _ rfl w.heap.size rfl H1.out ?_)
    | (refine wpList_stS h (.slice p n c) rfl rfl _ _ rfl rfl (w.heap.size + 1) rfl rfl Z1.out ?_; intro wB HB hTB))
  refine bodyPost_ret (v := .tuple #[.agg (h.sh (.slice p n c)), .bool false]) (res_sd rfl _ _ (w.heap.size + 1) h (.slice p n c) _ rfl rfl HB) rfl ⟨rfl, ?_⟩
  exact hTB.2.1 _ _ (bt (bt (al _ _) (al _ _)) hb1) (by omega)
set_option maxHeartbeats 16000000 in
set_option maxRecDepth 1000000 in
theorem fit8_ok (h : Hd) (hi : h.In) (ok : h.Ok) {w : World} {p : Option Addr} {bl : List (List (BitVec 8))} (HB : Rws w p bl) (n c : Nat) (hn : bl.length = n) :
    Calls Try.prog 5 #[.agg (h.sh (.slice p n c))] w fun e w' => ∃ v, e = .returned (.tuple #[.agg (h.sh v), .bool true]) ∧ Bl w' w.heap.size v (fitB h.ls bl) ∧ Below w.heap.size w w' := by
  have al : ∀ (W : World) (o : Obj), Below W.heap.size W (W.alloc o) := fun W o => (Below.refl _ _).alloc (Nat.le_refl _) o
  have H0 := (show Hid (SdAt (w.alloc (.cells (h.sh (.slice p n c)) 31)) w.heap.size h (.slice p n c)) from heap_alloc_new w _)
  have CK := (show Hid _ from fun W => rcheck_any h hi (by have := ok.y2; omega) W)
  rw [(chk_ok h).2 ok] at CK
  have SZ := (show Hid _ from fun W => rsizes_any h.k h.m h.b h.sz hi.k hi.m hi.sz W)
  obtain ⟨z1, z2⟩ := h.ls_eq ok
  rw [z1, z2] at SZ
  unfold shC at SZ
  have HBw := (show Hid (Rws w p bl) from HB)
  have hlb := h.ls_bd ok
  have hld := h.len_bd ok
  have hlen : h.len = 40 + h.key.length + tot h.ls := rfl
  obtain ⟨L, HLS⟩ : ∃ L, Hid (h.ls = L) := ⟨_, rfl⟩
  rw [HLS.out] at SZ hlb hlen ⊢
  have htot : Hid (tot L ≤ 140737488355328) := (by show _ ≤ _; omega)
  clear z1 z2 hld hlen HB
  go_enter Try.func5, Try.ntmps5
  go_wp2_with (first
    | (refine wpList_loadIn rfl _ rfl w.heap.size rfl (SdAt.head (SdAt.below H0.out (al _ _))) ?_)
    | (go_at_call 14; refine (CK.out _).mono ?_; rintro e w1 ⟨rfl, hb1⟩; have H1 := (show Hid (SdAt w1 w.heap.size h (.slice p n c)) from SdAt.below (SdAt.below H0.out (al _ _)) hb1); have Z1 := (show Hid (SdAt w1 (w.heap.size + 1) hd0 (.slice none 0 0)) from by have h9 := SdAt.below (sz0 (heap_alloc_new (w.alloc (.cells (h.sh (.slice p n c)) 31)) _)) hb1; rw [al_sz] at h9; exact h9); have hbw1 := (show Hid (Below w.heap.size w w1) from bt (bt (al _ _) (al _ _)) hb1); obtain ⟨q8, q9, q10, q11, q12, q13, q14, q15⟩ := (SdAt.head H1.out).cells; clear H0)
    | (go_at_call 15; refine (SZ.out _).mono ?_; rintro e w2 ⟨vL, rfl, hO2, hb2⟩; have hOL := (show Hid (Oi w2 w1.heap.size vL L) from hO2); obtain ⟨pL, cL, rfl, hcL, VL⟩ := hO2.rd; have V2 := (show Hid (Vr w2 pL (ic L)) from VL); have H2 := (show Hid (SdAt w2 w.heap.size h (.slice p n c)) from SdAt.below H1.out hb2); have Z2 := (show Hid (SdAt w2 (w.heap.size + 1) hd0 (.slice none 0 0)) from SdAt.below Z1.out hb2); have hbw2 := (show Hid (Below w.heap.size w w2) from bt hbw1.out hb2); clear H1 Z1 hO2 VL)
    | (refine wpList_loadIn rfl _ rfl w.heap.size rfl (SdAt.head H2.out) ?_)
    | (refine wpList_bdS rfl _ rfl rfl ?_)
    | (refine wpList_stS h (.slice none 0 0) rfl rfl _ _ rfl rfl w2.heap.size rfl rfl (sz0 (heap_alloc_new w2 _)) ?_; intro w4 H4 hT4))
  have B24 := (show Hid (Below w2.heap.size w2 w4) from hT4.2.1 _ _ (al w2 _) (Nat.le_refl _))
  have hbw4 := (show Hid (Below w.heap.size w w4) from bt hbw2.out B24.out)
  have SZ4 := (show Hid (w.heap.size + 1 < w2.heap.size ∧ w2.heap.size < w4.heap.size) from ⟨Hm.lt Z2.out, Hm.lt H4⟩)
  have hHL := (show Hid _ from HLS.out)
  clear CK SZ hT4 q8 q9 q10 q11 q12 q13 q14 q15 hb1 hb2
  go_loopw [8] (fun i wr => ∃ (t : Nat) (v : Value), t ≤ L.length ∧ i = .int .i64 (t : Int) ∧ SdAt wr w2.heap.size h v ∧ Bl wr w4.heap.size v ((fitB L bl).take t) ∧ w4.grownBy wr (some w2.heap.size)) (fun i _ => L.length - (intOf i).toNat)
  case atStart => exact ⟨0, .slice none 0 0, Nat.zero_le _, rfl, H4, Bl.nil _ _, grefl _ _⟩
  case round =>
    obtain ⟨t, v, ht, rfl, hSd, hBl, hgr⟩ := hrel
    have hbr : Below w2.heap.size w2 wr := B24.out.grown hgr B24.out.size (fun k hk => by injection hk with hk; omega)
    have hbwr := (show Hid (Below w.heap.size w wr) from bt hbw2.out hbr)
    have hsr := hgr.size
    by_cases hlt : t < L.length
    · obtain ⟨pb, po, ep, hc0'⟩ := V2.out.num t hlt
      subst ep
      have hc' := cell_below hc0' hbr
      have s16 := (SdAt.below H2.out hbr).last
      have hi : (t : Int) < (L.length : Int) := by omega
      obtain ⟨us, hOr, hul, hrows⟩ := hBl
      have hbl : ((fitB L bl).take t).length = t := by rw [List.length_take, fitB_len]; omega
      obtain ⟨q0, c0, hvq, hcq, _⟩ := hOr.rd
      rw [hul, hbl] at hvq hcq
      subst hvq
      have HRW := (show Hid (∀ i, i < ((fitB L bl).take t).length → Ow wr w4.heap.size (us.getD i (.slice none 0 0)) (((fitB L bl).take t).getD i [])) from hrows)
      have htk := tot_take L (t + 1)
      have hsc := tot_snoc L t hlt
      have FT0 := fitB_take L bl t hlt
      obtain ⟨z, hz⟩ : ∃ z, z = L.getD t 0 := ⟨_, rfl⟩
      rw [← hz] at hc' hsc FT0
      have hzb : z ≤ 140737488355328 := by have := htot.out; omega
      obtain ⟨x, hx⟩ : ∃ x, x = bl.getD t [] := ⟨_, rfl⟩
      rw [← hx] at FT0
      have FT := (show Hid _ from FT0)
      have mk := make_bytes z hzb wr
      have o16 := hSd.last
      have rc := fun W : World => cell_of_row (W.alloc (.cells #[.slice (some ⟨wr.heap.size, 0, none⟩) z z] 35)) W.heap.size 0 _ _ (0, 0) (heap_alloc_new W _)
      have AL := (show Hid (Below wr.heap.size wr (wr.alloc (.cells (Array.replicate z (.int .u8 0)) 5))) from al _ _)
      have s16a := cell_below s16 AL.out
      clear hrows htk hsc FT0 hz hc0'
      by_cases hin : t < n
      · have hin' : (t : Int) < (n : Int) := by omega
        obtain ⟨b1, o1, q1, c1, ep1, hc1, hle1, hRd1⟩ := Rws.row (Rws.below HBw.out hbwr.out) t (by omega)
        rw [← hx] at hc1 hle1 hRd1
        subst ep1
        have hc1a := cell_below hc1 AL.out
        have RX := (show Hid (Rd (wr.alloc (.cells (Array.replicate z (.int .u8 0)) 5)) q1 x) from hRd1.below AL.out)
        clear hc1 hRd1 hx
        go_wp2_with (first
          | (refine wpList_cpT rfl (.tmp 45) (.tmp 50) rfl wr.heap.size z rfl q1 c1 x rfl RX.out (heap_alloc_new wr _) hzb ?_; intro w6 hO6 hT6; have B6 := (show Hid (Below wr.heap.size wr w6) from hT6.2.1 _ _ AL.out (Nat.le_refl _)); have hO6' := (show Hid (Ow w6 w4.heap.size (.slice (some ⟨wr.heap.size, 0, none⟩) z z) (padT z x)) from hO6.mono hsr); have O7 := (show Hid (Or (w6.alloc (.cells #[.slice (some ⟨wr.heap.size, 0, none⟩) z z] 35)) w4.heap.size (.slice q0 t c0) us) from (hOr.below B6.out).below (al _ _)); have o16' := (SdAt.below hSd B6.out).last)
          | (at_builtin; refine wpList_apr rfl (.tmp 53) (.tmp 55) rfl w4.heap.size (.slice q0 t c0) us rfl O7.out ⟨w6.heap.size, 0, none⟩ 1 (.slice (some ⟨wr.heap.size, 0, none⟩) z z) rfl rfl (rc w6) (by omega) (Nat.le_trans (Nat.le_trans hsr B6.out.size) (al _ _).size) ?_; intro v8 w8 ho8 hg8; obtain ⟨p8, c8, hv8, hc8, _⟩ := ho8.rd; rw [List.length_append, hul, hbl, List.length_singleton] at hv8 hc8; subst hv8; have S8 := (show Hid (SdAt w8 w2.heap.size h (.slice q0 t c0)) from sd_or (SdAt.below (SdAt.below hSd B6.out) (al _ _)) O7.out hg8); have k8 := S8.out.last; have f8 := S8.out.frozen 16))
        go_roundw
        case rel =>
          have hd7 := bt B6.out (al w6 (.cells #[.slice (some ⟨wr.heap.size, 0, none⟩) z z] 35))
          have hB8 := Bl.push O7.out hul (fun i hi => (HRW.out i hi).below hd7) ((hO6'.out.below (al _ _))) ho8 hg8
          have hg9 := grown_or (grown_below hgr hd7) O7.out (Nat.le_refl _) hg8
          refine ⟨t + 1, .slice p8 (t + 1) c8, hlt, by go_num, S8.out.set _, ?_, gtrans hg9 (grown_set _ _ _ _)⟩
          rw [FT.out]
          exact hB8.young (grown_set _ _ _ _) (by have := SZ4.out; omega)
        case measure => simp [intOf]; omega
      · have hin' : ¬ (t : Int) < (n : Int) := by omega
        have hx0 : x = [] := by rw [hx]; simp [List.getD, List.getElem?_eq_none (show bl.length ≤ t by omega)]
        obtain ⟨w6, hw6⟩ : ∃ w6, w6 = wr.alloc (.cells (Array.replicate z (.int .u8 0)) 5) := ⟨_, rfl⟩
        have B6 := (show Hid (Below wr.heap.size wr w6) from by rw [hw6]; exact AL.out)
        have hO6' := (show Hid (Ow w6 w4.heap.size (.slice (some ⟨wr.heap.size, 0, none⟩) z z) (padT z x)) from by rw [hw6, hx0]; exact (Ow.blank wr z hzb).mono hsr)
        rw [← hw6] at mk s16a
        clear hw6 AL hx hx0
        have O7 := (show Hid (Or (w6.alloc (.cells #[.slice (some ⟨wr.heap.size, 0, none⟩) z z] 35)) w4.heap.size (.slice q0 t c0) us) from (hOr.below B6.out).below (al _ _))
        have o16' := (SdAt.below hSd B6.out).last
        go_wp2_with (first
          | (at_builtin; refine wpList_apr rfl (.tmp 53) (.tmp 55) rfl w4.heap.size (.slice q0 t c0) us rfl O7.out ⟨w6.heap.size, 0, none⟩ 1 (.slice (some ⟨wr.heap.size, 0, none⟩) z z) rfl rfl (rc w6) (by omega) (Nat.le_trans (Nat.le_trans hsr B6.out.size) (al _ _).size) ?_; intro v8 w8 ho8 hg8; obtain ⟨p8, c8, hv8, hc8, _⟩ := ho8.rd; rw [List.length_append, hul, hbl, List.length_singleton] at hv8 hc8; subst hv8; have S8 := (show Hid (SdAt w8 w2.heap.size h (.slice q0 t c0)) from sd_or (SdAt.below (SdAt.below hSd B6.out) (al _ _)) O7.out hg8); have k8 := S8.out.last; have f8 := S8.out.frozen 16))
        go_roundw
        case rel =>
          have hd7 := bt B6.out (al w6 (.cells #[.slice (some ⟨wr.heap.size, 0, none⟩) z z] 35))
          have hB8 := Bl.push O7.out hul (fun i hi => (HRW.out i hi).below hd7) ((hO6'.out.below (al _ _))) ho8 hg8
          have hg9 := grown_or (grown_below hgr hd7) O7.out (Nat.le_refl _) hg8
          refine ⟨t + 1, .slice p8 (t + 1) c8, hlt, by go_num, S8.out.set _, ?_, gtrans hg9 (grown_set _ _ _ _)⟩
          rw [FT.out]
          exact hB8.young (grown_set _ _ _ _) (by have := SZ4.out; omega)
        case measure => simp [intOf]; omega
    · obtain rfl : t = L.length := by omega
      rw [List.take_of_length_le (by rw [fitB_len]; exact Nat.le_refl _)] at hBl
      have ZR := SdAt.below Z2.out hbr
      obtain ⟨q0, c0, rfl, _, _⟩ := hBl.rws
      go_wp2_with (first
        | (refine wpList_ldS rfl _ rfl w2.heap.size rfl hSd ?_)
        | (refine wpList_stS h (.slice q0 (fitB L bl).length c0) rfl rfl _ _ rfl rfl (w.heap.size + 1) rfl rfl ZR ?_; intro wB HB hTB))
      refine bodyPost_ret (v := .tuple #[.agg (h.sh (.slice q0 (fitB L bl).length c0)), .bool true]) (res_sd rfl _ _ (w.heap.size + 1) h (.slice q0 (fitB L bl).length c0) _ rfl rfl HB) rfl ⟨_, rfl, ?_, hTB.2.1 _ _ hbwr.out (by omega)⟩
      exact (hBl.young hTB.grown (by have := SZ4.out; omega)).mono (by have := SZ4.out; omega)
end
end Go.Proofs.Ytfcjkaigmlfjnaa
