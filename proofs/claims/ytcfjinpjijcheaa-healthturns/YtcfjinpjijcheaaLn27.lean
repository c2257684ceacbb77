/-
  The law's lentNumbers and unmarkedNumbers.
-/
import Derived.Test.YtcfjinpjijcheaaCk27
namespace Go.Proofs.Ytcfjinpjijcheaa
open Go.RowKit
/-- The marks behind what is lent. -/
def mkf (j : Nat) : Nat := fad (floatOfInt .f64 (j : Int)) 4598175219545276416
def mkl (k : Nat) : List Nat := (List.range k).map mkf
theorem mkl_len (k : Nat) : (mkl k).length = k := by simp [mkl]
theorem mkl_succ (k : Nat) : mkl (k + 1) = mkl k ++ [mkf k] := by unfold mkl; rw [List.range_succ, List.map_append]; rfl
theorem mkl_get (k i : Nat) (h : i < k) : (mkl k).getD i 0 = mkf i := by simp [mkl, List.getD, h]
theorem mkf_all : (List.range 64).all (fun j => (F6.add (floatOfInt .f64 ((j : Nat) : Int)) 4598175219545276416).isSome && (F6.order (mkf j) (mkf j) == some .eq)) = true := by decide +kernel
theorem mkf_add (j : Nat) (h : j < 64) : floatBits .add .f64 (floatOfInt .f64 (j : Int)) 4598175219545276416 = some (mkf j) := by
  have := List.all_eq_true.1 mkf_all j (List.mem_range.2 h)
  rw [Bool.and_eq_true] at this
  obtain ⟨r, hr⟩ := Option.isSome_iff_exists.1 this.1
  have e : mkf j = r := by unfold mkf fad; rw [hr, Option.getD_some]
  rw [e]; exact hr
theorem mkf_self (j : Nat) (h : j < 64) : (FloatKind.f64.format.order (mkf j) (mkf j) == some .eq) = true := by
  have := List.all_eq_true.1 mkf_all j (List.mem_range.2 h)
  rw [Bool.and_eq_true] at this
  exact this.2
theorem order_self (f : Ieee.Format) (x : Nat) : f.order x x = none ∨ f.order x x = some .eq := by
  unfold Ieee.Format.order
  cases f.read x with
  | number s m i => right; simp [Ieee.Datum.order]
  | infinity s => right; simp [Ieee.Datum.order]
  | nan s t => left; rfl
/-- Numbers that are lent: a row of its own, with marks behind. -/
def LnF (w : World) (base : Nat) (v : Value) (xs : List Nat) : Prop := ∃ g cap, v = .slice (some ⟨g, 0, none⟩) xs.length cap ∧ Of w base (.slice (some ⟨g, 0, none⟩) (xs.length + 64) cap) (xs ++ mkl 64)
theorem Of.some {w : World} {base : Nat} {v : Value} {xs : List Nat} (h : Of w base v xs) (h0 : 0 < xs.length) : ∃ g cap, v = .slice (some ⟨g, 0, none⟩) xs.length cap ∧ xs.length ≤ cap := by
  unfold Of at h
  rw [fc_len] at h
  rcases h.2 with ⟨_, h1⟩ | ⟨g, cap, cur, hv, _, _, hn, _⟩
  · omega
  · exact ⟨g, cap, hv, hn⟩
theorem LnF.below {w w' : World} {base : Nat} {v : Value} {xs : List Nat} (h : LnF w base v xs) (hb : Below w.heap.size w w') : LnF w' base v xs := by
  obtain ⟨g, cap, e, hO⟩ := h
  exact ⟨g, cap, e, hO.below hb⟩
theorem LnF.rd {w : World} {base : Nat} {v : Value} {xs : List Nat} (h : LnF w base v xs) : ∃ g cap, v = .slice (Option.some ⟨g, 0, none⟩) xs.length cap ∧ xs.length + 64 ≤ cap ∧ base ≤ g ∧ g < w.heap.size ∧ ∀ i, i < xs.length + 64 → w.cell? ⟨g, 0 + i, none⟩ = Option.some (.float .f64 ((xs ++ mkl 64).getD i 0)) := by
  obtain ⟨g, cap, rfl, hO⟩ := h
  have hl : (xs ++ mkl 64).length = xs.length + 64 := by rw [List.length_append, mkl_len]
  have hlt := hO.lt g rfl
  obtain ⟨p, c, hv, hc, hr⟩ := hO.rd
  rw [hl] at hv hc
  injection hv with e1 e2 e3
  subst e1 e3
  obtain ⟨b, o, e, hcell⟩ := Fr.at hr (by omega)
  injection e with e
  injection e with e1 e2
  subst e1 e2
  exact ⟨g, cap, rfl, hc, hlt.1, hlt.2, fun i hi => hcell i (by omega)⟩
/-- A number of what is lent is written over. -/
theorem LnF.set {w : World} {base g n cap : Nat} {xs : List Nat} (h : LnF w base (.slice (Option.some ⟨g, 0, none⟩) n cap) xs) (hn : xs.length = n) (j b : Nat) (hj : j < n) : LnF (w.setCell ⟨g, j, none⟩ (.float .f64 b)) base (.slice (Option.some ⟨g, 0, none⟩) n cap) (xs.set j b) ∧ w.frozen? ⟨g, j, none⟩ = false ∧ base ≤ g := by
  obtain ⟨g', cap', e, hO⟩ := h
  injection e with e1 e2 e3
  injection e1 with e1
  injection e1 with e1
  subst e1 e3 hn
  have hl : (fc (xs ++ mkl 64)).length = xs.length + 64 := by rw [fc_len, List.length_append, mkl_len]
  have hb := (hO.lt g rfl).1
  unfold Of at hO
  rw [hl] at hO
  refine ⟨⟨g, cap, by rw [List.length_set], ?_⟩, hO.frozenAt j, hb⟩
  have h1 := (hO.stored j (.float .f64 b)).1
  unfold Of
  rw [fc_len, List.length_append, List.length_set, mkl_len]
  have e : fc (xs.set j b ++ mkl 64) = (fc (xs ++ mkl 64)).set j (.float .f64 b) := by
    unfold fc
    rw [← List.map_set, List.set_append_left _ _ hj]
  rw [e]
  exact h1
section
attribute [local irreducible] Calls mkf fad mkl
set_option maxHeartbeats 1000000 in
set_option maxRecDepth 1000000 in
theorem lentF_any {w : World} {a : Option Addr} {xs : List Nat} (h : Fr w a xs) (n c : Nat) (hn : xs.length = n) (hm : n ≤ 17592186044000) :
    Calls Try.prog 21 #[.slice a n c] w fun e w' => ∃ v, e = .returned v ∧ LnF w' w.heap.size v xs ∧ Below w.heap.size w w' := by
  have al := balloc
  go_enter Try.func21, Try.ntmps21
  go_wp2_with (at_builtin; refine wpList_apF rfl (.tmp 5) (.tmp 6) rfl w.heap.size _ [] rfl (Of.nil _ _) a n c xs rfl h hn (by simp; omega) (Nat.le_refl _) ?_; intro v1 w1 ho1 hg1; rw [List.nil_append] at ho1)
  have hb1 : Below w.heap.size w w1 := below_append (t := 23) (Below.refl _ _) (Nat.le_refl _) hg1 (Of.nil w w.heap.size) (Nat.le_refl _)
  clear hg1
  go_loopw [3, 4] (fun o i wr => ∃ j : Nat, j ≤ 64 ∧ i = .int .i64 (j : Int) ∧ Of wr w.heap.size o (xs ++ mkl j) ∧ Below w.heap.size w wr) (fun _ i _ => 64 - (intOf i).toNat)
  case atStart => exact ⟨0, Nat.zero_le _, rfl, by rw [show mkl 0 = [] from by unfold mkl; rfl, List.append_nil]; exact ho1, hb1⟩
  case round =>
    obtain ⟨j, hj, rfl, hO, hb⟩ := hrel
    have hs := hb.size
    by_cases hlt : j < 64
    · have hi : (j : Int) < 64 := by omega
      have a1 := fl_run (mkf_add j hlt)
      have hsu := mkl_succ j
      have hml := mkl_len j
      obtain ⟨k, hk⟩ : ∃ k, mkf j = k := ⟨_, rfl⟩
      obtain ⟨q, hq⟩ : ∃ q, floatOfInt .f64 (j : Int) = q := ⟨_, rfl⟩
      rw [hk] at a1 hsu
      have r1 : Fr (wr.alloc (.cells #[.float .f64 k] 23)) (some ⟨wr.heap.size, 0, none⟩) [k] := (bl_new wr 23 [.float .f64 k]).rd
      rw [hq] at a1
      go_wp2_with (first | rw [hq] | (at_builtin; refine wpList_apF rfl (.tmp 12) (.tmp 16) rfl w.heap.size u3 (xs ++ mkl j) rfl (hO.below (al _ _)) (some ⟨wr.heap.size, 0, none⟩) 1 1 [k] rfl r1 rfl (by rw [List.length_append, hml]; omega) (Nat.le_trans hs (al _ _).size) ?_; intro v2 w2 ho2 hg2))
      go_roundw
      case rel =>
        refine ⟨j + 1, by omega, by go_num, ?_, below_append (t := 23) (hb.alloc hs _) (Nat.le_trans hs (al _ _).size) hg2 (hO.below (al _ _)) (Nat.le_refl _)⟩
        rw [hsu, ← List.append_assoc]; exact ho2
      case measure => simp [intOf]; omega
    · obtain rfl : j = 64 := by omega
      have hml := mkl_len 64
      have hLn : (xs ++ mkl 64).length = n + 64 := by rw [List.length_append, hml, hn]
      obtain ⟨g, cap, rfl, hcap⟩ := hO.some (by omega)
      rw [hLn] at hcap hO
      rw [hLn]
      have hcn : n ≤ cap := by omega
      clear hLn hml
      go_wp2
      go_ret
      subst hn
      exact ⟨_, rfl, ⟨g, cap, rfl, hO⟩, hb⟩
set_option maxHeartbeats 2000000 in
set_option maxRecDepth 1000000 in
theorem unmarkedF_any {w : World} {base : Nat} {v : Value} {xs : List Nat} (hL : LnF w base v xs) {a : Option Addr} (h : Fr w a xs) (n c : Nat) (hn : xs.length = n) (hm : n ≤ 140737488350000) :
    Calls Try.prog 24 #[v, .slice a n c] w fun e w' => e = .returned (.bool true) ∧ Below w.heap.size w w' := by
  obtain ⟨g, cap, rfl, hcap, _, _, hcell⟩ := hL.rd
  have hc1 : Hid (∀ i, i < n → w.cell? ⟨g, i, none⟩ = some (.float .f64 (xs.getD i 0))) := by
    intro i hi
    have := hcell i (by omega)
    rw [Nat.zero_add] at this
    rw [this]
    simp [List.getD, List.getElem?_append_left (show i < xs.length by omega)]
  have hc2 : Hid (∀ i, i < 64 → w.cell? ⟨g, n + i, none⟩ = some (.float .f64 (mkf i))) := by
    intro i hi
    have := hcell (n + i) (by omega)
    rw [Nat.zero_add] at this
    rw [this, ← mkl_get 64 i hi]
    simp [List.getD, List.getElem?_append_right (show xs.length ≤ n + i by omega), show n + i - xs.length = i by omega]
  rw [hn] at hcap ⊢
  have HH := (show Hid (Fr w a xs) from h)
  clear hcell hL h
  go_enter Try.func24, Try.ntmps24
  go_wp2
  go_loopw [5] (fun i wr => ∃ j : Nat, j ≤ n ∧ i = .int .i64 (j : Int) ∧ Below w.heap.size w wr) (fun i _ => n - (intOf i).toNat)
  case atStart => exact ⟨0, Nat.zero_le _, rfl, Below.refl _ _⟩
  case round =>
    obtain ⟨j, hj, rfl, hb⟩ := hrel
    by_cases hlt : j < n
    · have hi : (j : Int) < (n : Int) := by omega
      obtain ⟨b, o, rfl, hd⟩ := Fr.at HH.out (by omega)
      have g1 := cell_below (hc1.out j hlt) hb
      have g2 := cell_below (hd j (by omega)) hb
      clear hd
      obtain ⟨y, hy⟩ : ∃ y, xs.getD j 0 = y := ⟨_, rfl⟩
      rw [hy] at g1 g2
      rcases order_self FloatKind.f64.format y with ho | ho
      · have b1 : (FloatKind.f64.format.order y y != some .eq) = true := by rw [ho]; rfl
        have b2 : (FloatKind.f64.format.order y y == some .eq) = false := by rw [ho]; rfl
        go_wp2
        go_quiet (fail)
        go_wp2
        go_roundw
        case rel => exact ⟨j + 1, hlt, by go_num, below_drewN hb _⟩
        case measure => simp [intOf]; omega
      · have b1 : (FloatKind.f64.format.order y y != some .eq) = false := by rw [ho]; rfl
        go_wp2
        go_quiet (fail)
        go_wp2
        go_roundw
        case rel => exact ⟨j + 1, hlt, by go_num, below_drewN hb _⟩
        case measure => simp [intOf]; omega
    · obtain rfl : j = n := by omega
      go_wp2
      obtain ⟨V, hV⟩ : ∃ V, V = wr := ⟨_, rfl⟩
      subst hV
      go_loopw [7] (fun i wr => ∃ k : Nat, k ≤ 64 ∧ i = .int .i64 (((j + k : Nat)) : Int) ∧ Below w.heap.size w wr) (fun i _ => j + 64 - (intOf i).toNat)
      case atStart => exact ⟨0, Nat.zero_le _, rfl, hb⟩
      case round =>
        obtain ⟨k, hk, rfl, hb⟩ := hrel
        obtain ⟨N, hN⟩ : ∃ N, j + k = N := ⟨_, rfl⟩
        rw [hN]
        by_cases hlt : k < 64
        · have hi : (N : Int) < (j : Int) + 64 := by omega
          have g1 := cell_below (hc2.out k hlt) hb
          rw [hN] at g1
          have e1 : (N : Int) - (j : Int) = (k : Int) := by omega
          have a1 := fl_run (mkf_add k hlt)
          have b1 : (FloatKind.f64.format.order (mkf k) (mkf k) != some .eq) = false := by
            have := mkf_self k hlt
            rw [beq_iff_eq] at this
            rw [this]; rfl
          obtain ⟨u, hu⟩ : ∃ u, mkf k = u := ⟨_, rfl⟩
          obtain ⟨q, hq⟩ : ∃ q, floatOfInt .f64 (k : Int) = q := ⟨_, rfl⟩
          rw [hu] at g1 a1 b1
          rw [hq] at a1
          have hNc : N < cap := by omega
          have hN2 : N < j + 64 := by omega
          go_wp2_with (rw [hq])
          go_roundw
          case rel => exact ⟨k + 1, by omega, by go_num, hb⟩
          case measure => simp [intOf]; omega
        · have hi : ¬ (N : Int) < (j : Int) + 64 := by omega
          go_wp2
          go_ret
          exact ⟨rfl, hb⟩
end
end Go.Proofs.Ytcfjinpjijcheaa
