/-
  PutBytes, of any row that can be read.
-/
import Derived.Test.YtmcbeikgdcgdcaaPt
namespace Go.Proofs.Ytmcbeikgdcgdcaa
open Go.RowKit
section
attribute [local irreducible] Calls el sb bstr
set_option maxRecDepth 1000000 in
theorem blockB2 {w : World} {base : Nat} {o : Value} {xs : List (BitVec 8)} (h : Ow w base o xs) (hB : base ≤ w.heap.size) {a : Option Addr} {t : List (BitVec 8)} (hr : Rd w a t) (hlt : ∀ b, a = some b → 0 < t.length → b.block < base) (n c : Nat) (hn : t.length = n) (hx : xs.length + n ≤ 140737488355000) :
    Calls Try.prog 86 #[o, .slice a n c] w fun e w' => ∃ o', e = .returned o' ∧ Ow w' base o' (xs ++ bl t) ∧ Below base w w' := by
  subst hn
  have S := (show Hid _ from shortForm_any h hB (by omega) t.length (by omega))
  have hsl := sb_len 9 t.length
  have rdk : Hid (∀ w1, Below base w w1 → Rd w1 a t) := by
    intro w1 hb
    rcases hr with hr | ⟨b, of, e, hc⟩
    · exact .inl hr
    · refine .inr ⟨b, of, e, fun i hi => ?_⟩
      have hb' : b < base := hlt _ e (by omega)
      rw [hb.cell (p := ⟨b, of + i, none⟩) hb']; exact hc i hi
  go_enter Try.func86, Try.ntmps86
  go_wp2_with (first
    | (go_at_call 85; refine S.out.mono ?_; rintro e w1 ⟨v1, rfl, ho1, hb1⟩)
    | (at_builtin; refine wpList_apa rfl (.tmp 9) (.tmp 10) rfl base v1 _ rfl ho1 a t.length c t rfl (rdk.out _ hb1) rfl (by rw [List.length_append]; omega) (Nat.le_trans hB hb1.size) ?_; intro v2 w2 ho2 hg2 hk2))
  go_ret
  rw [List.append_assoc] at ho2
  exact ⟨_, rfl, ho2, ho1.below_append hb1 (Nat.le_trans hB hb1.size) hg2 (Nat.le_refl _)⟩
set_option maxRecDepth 1000000 in
theorem putB2 {w : World} {a a2 : Option Addr} {bs p : List (BitVec 8)} (h : Rd w a bs) (hp : Rd w a2 p) (n c m d : Nat) (hn : bs.length = n) (hm : p.length = m) (hx : n + m ≤ 140737488350000) :
    Calls Try.prog 55 #[.slice a n c, .slice a2 m d] w fun e w' => ∃ o', e = .returned o' ∧ Ow w' w.heap.size o' (bs ++ bl p) ∧ Below w.heap.size w w' := by
  have hlt : ∀ b, a2 = some b → 0 < p.length → b.block < w.heap.size := by
    intro b e h0
    rcases hp with hp | ⟨bb, of, e2, hc⟩
    · rw [hp] at h0; cases h0
    · rw [e2] at e
      injection e with e
      rw [← e]
      exact block_lt_of_cell (hc 0 h0)
  have A1 := (show Hid _ from anew_any h n c (10 + m) hn (by omega))
  rw [Int.natCast_add] at A1
  go_enter Try.func55, Try.ntmps55
  go_wp2_with (first
    | (go_at_call 59; refine A1.out.mono ?_; rintro e w1 ⟨v1, rfl, ho1, hb1⟩)
    | (go_at_call 86; refine (blockB2 ho1 hb1.size (hp.below hb1) hlt m d hm (by omega)).mono ?_; rintro e w2 ⟨v2, rfl, ho2, hb2⟩))
  go_ret
  exact ⟨_, rfl, ho2, hb1.trans hb2⟩
end
end Go.Proofs.Ytmcbeikgdcgdcaa
