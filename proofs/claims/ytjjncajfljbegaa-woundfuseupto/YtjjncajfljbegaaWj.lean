/-
  What is known of wounds.
-/
import Derived.Test.YtjjncajfljbegaaWi
namespace Go.Proofs.Ytjjncajfljbegaa
open Go.RowKit Go.Maps
section
attribute [local irreducible] Calls
theorem kn_on {w0 w : World} {wb db : Nat} {g : Gt} {P : DataW Unit} {σ : Ds} (h : Kn w0 w wb db g P σ) : Calls Try.prog 17 #[.pointer (some ⟨wb, 0, none⟩)] w fun e w' => e = .returned (.bool (!g.off)) ∧ w' = w := by
  obtain ⟨pl, hW⟩ := h.wat
  exact on_any hW
theorem kn_calls {w0 w : World} {wb db : Nat} {g : Gt} {P : DataW Unit} {σ : Ds} (h : Kn w0 w wb db g P σ) : Calls Try.prog 18 #[.pointer (some ⟨wb, 0, none⟩)] w fun e w' => e = .returned (.int .i64 g.calls) ∧ w' = w := by
  obtain ⟨pl, hW⟩ := h.wat
  exact calls_any hW
theorem kn_struck {w0 w : World} {wb db : Nat} {g : Gt} {P : DataW Unit} {σ : Ds} (h : Kn w0 w wb db g P σ) : Calls Try.prog 16 #[.pointer (some ⟨wb, 0, none⟩)] w fun e w' => e = .returned (.bool (g.th && decide (g.ro = 0))) ∧ w' = w := by
  obtain ⟨pl, hW⟩ := h.wat
  exact struck_any hW
set_option maxHeartbeats 2000000 in
set_option maxRecDepth 1000000 in
theorem known_any (w : World) : Calls Try.prog 10 #[] w fun e w' => e = .returned (.bool true) ∧ Below w.heap.size w w' := by
  have NE := (show Hid _ from new_any 100 (by decide) w)
  have KN := (show Hid (Kn w _ _ _ _ _ _) from new_kn w 100)
  go_enter Try.func10, Try.ntmps10
  go_wp2_with (first
    | (go_at_call 7; refine NE.out.mono ?_; rintro e w1 ⟨rfl, hw1⟩; have HW1 := (show Hid _ from hw1); clear hw1)
    | (go_at_call 9; refine (wnew_any _ _).mono ?_; rintro e w2 ⟨rfl, hw2⟩; have hz : w1.heap.size = w.heap.size + 1 := (by rw [HW1.out]; simp); have H0 := (show Hid (Kn w w2 (w.heap.size + 1) w.heap.size g0 (.map []) (Ds.new 100)) from (by rw [hw2, HW1.out]; exact KN.out)); rw [hz]; clear hw2 hz HW1 KN NE)
    | (go_at_call 9; refine (wnew_nil _).mono ?_; rintro e w3 ⟨rfl, rfl⟩)
    | (go_at_call 32; refine (k0 H0.out).mono ?_; rintro e w4 ⟨rfl, h⟩; have H1 := (show Hid (Kn _ _ _ _ g1 _ _) from h); clear h H0)
    | (go_at_call 33; refine (k1 (H1.out.below (alw _ _)) _ _ (heap_alloc_new _ _) (by have := H1.out.lt; omega) (by decide) (by decide)).mono ?_; rintro e w5 ⟨rfl, h⟩; have H2 := (show Hid (Kn _ _ _ _ g2 _ _) from h); clear h H1)
    | (go_at_call 34; refine (k2 (H2.out.below (alw _ _)) _ _ (heap_alloc_new _ _) (by have := H2.out.lt; omega)).mono ?_; rintro e w6 ⟨⟨v6, rfl⟩, h⟩; have H3 := (show Hid (Kn _ _ _ _ g3 _ _) from h); clear h H2)
    | (go_at_call 35; refine (k3 H3.out).mono ?_; rintro e w7 ⟨⟨gb, gc, rfl, hgb, hcell⟩, h⟩; have hgw : gb ≠ w.heap.size + 1 := (by have := H3.out.lt; omega); have HC := (show Hid _ from hcell); have H4 := (show Hid (Kn _ _ _ _ g4 _ _) from h); clear h hcell hgb H3)
    | (go_at_call 35; refine (k4 H4.out).mono ?_; rintro e w8 ⟨⟨rp, rc, rfl, hT⟩, h⟩; have H5 := (show Hid (Kn _ _ _ _ g5 _ _) from h); have CV := conv_at (w := w8) (b := gb) (o := 0) (xs := [1, 2, 3]) (fun i hi => hT _ _ _ hgw (HC.out i hi)) 3 gc rfl; clear h hT H4)
    | (go_at_call 25; refine (kn_power H5.out false).mono ?_; rintro e wa ⟨⟨va, rfl⟩, h⟩; have H6 := (show Hid (Kn _ _ _ _ g6 _ _) from h); clear h H5 CV HC)
    | (go_at_call 36; refine (k5 H6.out _).mono ?_; rintro e wc ⟨rfl, h⟩; have H7 := (show Hid (Kn _ _ _ _ g6 _ _) from h); clear h H6)
    | (go_at_call 25; refine (kn_power H7.out true).mono ?_; rintro e wd ⟨⟨vd, rfl⟩, h⟩; have H8 := (show Hid (Kn _ _ _ _ g5 _ _) from h); clear h H7)
    | (go_at_call 37; refine (kn_offline H8.out true).mono ?_; rintro e we ⟨⟨ve, rfl⟩, h⟩; have H9 := (show Hid (Kn _ _ _ _ g7 _ _) from h); clear h H8)
    | (go_at_call 36; refine (k6 H9.out _).mono ?_; rintro e wf ⟨rfl, h⟩; have H10 := (show Hid (Kn _ _ _ _ g7 _ _) from h); clear h H9)
    | (go_at_call 17; refine (kn_on H10.out).mono ?_; rintro e w9 ⟨rfl, rfl⟩)
    | (go_at_call 18; refine (kn_calls H10.out).mono ?_; rintro e w9 ⟨rfl, rfl⟩)
    | (go_at_call 16; refine (kn_struck H10.out).mono ?_; rintro e w9 ⟨rfl, rfl⟩)
    | (go_at_call 17; refine (kn_on H9.out).mono ?_; rintro e w9 ⟨rfl, rfl⟩)
    | (go_at_call 18; refine (kn_calls H9.out).mono ?_; rintro e w9 ⟨rfl, rfl⟩)
    | (go_at_call 16; refine (kn_struck H9.out).mono ?_; rintro e w9 ⟨rfl, rfl⟩)
    | (go_at_call 17; refine (kn_on H8.out).mono ?_; rintro e w9 ⟨rfl, rfl⟩)
    | (go_at_call 18; refine (kn_calls H8.out).mono ?_; rintro e w9 ⟨rfl, rfl⟩)
    | (go_at_call 16; refine (kn_struck H8.out).mono ?_; rintro e w9 ⟨rfl, rfl⟩)
    | (go_at_call 17; refine (kn_on H7.out).mono ?_; rintro e w9 ⟨rfl, rfl⟩)
    | (go_at_call 18; refine (kn_calls H7.out).mono ?_; rintro e w9 ⟨rfl, rfl⟩)
    | (go_at_call 16; refine (kn_struck H7.out).mono ?_; rintro e w9 ⟨rfl, rfl⟩)
    | (go_at_call 17; refine (kn_on H6.out).mono ?_; rintro e w9 ⟨rfl, rfl⟩)
    | (go_at_call 18; refine (kn_calls H6.out).mono ?_; rintro e w9 ⟨rfl, rfl⟩)
    | (go_at_call 16; refine (kn_struck H6.out).mono ?_; rintro e w9 ⟨rfl, rfl⟩)
    | (go_at_call 17; refine (kn_on H5.out).mono ?_; rintro e w9 ⟨rfl, rfl⟩)
    | (go_at_call 18; refine (kn_calls H5.out).mono ?_; rintro e w9 ⟨rfl, rfl⟩)
    | (go_at_call 16; refine (kn_struck H5.out).mono ?_; rintro e w9 ⟨rfl, rfl⟩)
    | (go_at_call 17; refine (kn_on H4.out).mono ?_; rintro e w9 ⟨rfl, rfl⟩)
    | (go_at_call 18; refine (kn_calls H4.out).mono ?_; rintro e w9 ⟨rfl, rfl⟩)
    | (go_at_call 16; refine (kn_struck H4.out).mono ?_; rintro e w9 ⟨rfl, rfl⟩)
    | (go_at_call 17; refine (kn_on H3.out).mono ?_; rintro e w9 ⟨rfl, rfl⟩)
    | (go_at_call 18; refine (kn_calls H3.out).mono ?_; rintro e w9 ⟨rfl, rfl⟩)
    | (go_at_call 16; refine (kn_struck H3.out).mono ?_; rintro e w9 ⟨rfl, rfl⟩)
    | (go_at_call 17; refine (kn_on H2.out).mono ?_; rintro e w9 ⟨rfl, rfl⟩)
    | (go_at_call 18; refine (kn_calls H2.out).mono ?_; rintro e w9 ⟨rfl, rfl⟩)
    | (go_at_call 16; refine (kn_struck H2.out).mono ?_; rintro e w9 ⟨rfl, rfl⟩)
    | (go_at_call 17; refine (kn_on H1.out).mono ?_; rintro e w9 ⟨rfl, rfl⟩)
    | (go_at_call 18; refine (kn_calls H1.out).mono ?_; rintro e w9 ⟨rfl, rfl⟩)
    | (go_at_call 16; refine (kn_struck H1.out).mono ?_; rintro e w9 ⟨rfl, rfl⟩)
    | (go_at_call 17; refine (kn_on H0.out).mono ?_; rintro e w9 ⟨rfl, rfl⟩)
    | (go_at_call 18; refine (kn_calls H0.out).mono ?_; rintro e w9 ⟨rfl, rfl⟩)
    | (go_at_call 16; refine (kn_struck H0.out).mono ?_; rintro e w9 ⟨rfl, rfl⟩))
  go_ret
  exact ⟨rfl, H10.out.1⟩
end
end Go.Proofs.Ytjjncajfljbegaa
