/-
  The document's New; CacheNews.
-/
import Derived.Test.YtjefciioaebbeaaCfS28
namespace Go.Proofs.Ytjefciioaebbeaa
open Go.RowKit
/-- A cache of the document's. -/
def rcC (r : Int) (v : Value) : Array Value := #[.int .i64 r, v]
theorem rc_zero (w : World) : (zeroValue 28).run Try.prog w = .ok (.agg (rcC 0 (.slice none 0 0))) w := by kernel_rfl
theorem rc_size : (Try.prog.info? 28).map (·.size) = some 2 := by kernel_rfl
theorem rc_one (r : Int) (p : Option Addr) (n c : Nat) : ((rcC r (.slice p n c)).all fun x => x.oneCell') = true := by simp [rcC, Value.oneCell']
section
variable {fn : Func} {p q r : Tmp} {t : TypeId} {cs : Array Value}
/-- The struct is the first of two results. -/
theorem res_B2 (h : fn.results = #[.cell p t, .tmp q]) (tmps : Array Value) (w : World) (g : Nat) (hp : tmps.getD p undef = .pointer (some ⟨g, 0, none⟩)) (H : GB w g t cs) {fs : Array Field} (hu : Try.prog.underlying t = some (.struct fs)) (hs : (Try.prog.info? t).map (·.size) = some cs.size) :
    (results fn tmps).run Try.prog w = .ok (.tuple #[.agg cs, tmps.getD q undef]) w := by
  have hl := run_loadVar_at (P := Try.prog) w g 0 t cs _ (fun j v hv => by rw [Nat.zero_add, H.cell]; simpa using hv) hu rfl hs
  have hp' : tmps[p]?.getD undef = .pointer (some ⟨g, 0, none⟩) := by simpa using hp
  simp [results, h, hp', asAddr, hl]
end
section
attribute [local irreducible] Calls GB
set_option maxRecDepth 1000000 in
theorem rnew_any (r : Int) (w : World) : Calls Try.prog 10 #[.int .i64 r] w fun e w' => e = .returned (if 0 ≤ r ∧ r ≤ 1073741824 then .tuple #[.agg (rcC r (.slice none 0 0)), .int .i64 0] else .tuple #[.agg (rcC 0 (.slice none 0 0)), .int .i64 2]) ∧ Below w.heap.size w w' := by
  by_cases h1 : r < 0
  · rw [if_neg (by omega)]
    go_enter Try.func10, Try.ntmps10
    go_wp2_with (first
      | (refine wpList_alB rfl rfl rc_zero ?_; intro W1 G1 hb1 hs1)
      | (refine wpList_stB (cs := rcC 0 (.slice none 0 0)) rfl _ _ rfl rfl w.heap.size rfl rfl G1 rc_size rfl (rc_one _ _ _ _) ?_; intro W2 G2 hg2 hs2))
    refine bodyPost_ret (res_B2 rfl _ _ w.heap.size rfl G2 Try.underlying28 rc_size) rfl ?_
    exact ⟨rfl, grown_below hb1 hg2 hb1.size (Nat.le_refl _)⟩
  · by_cases h2 : 1073741824 < r
    · rw [if_neg (by omega)]
      go_enter Try.func10, Try.ntmps10
      go_wp2_with (first
        | (refine wpList_alB rfl rfl rc_zero ?_; intro W1 G1 hb1 hs1)
        | (refine wpList_stB (cs := rcC 0 (.slice none 0 0)) rfl _ _ rfl rfl w.heap.size rfl rfl G1 rc_size rfl (rc_one _ _ _ _) ?_; intro W2 G2 hg2 hs2))
      refine bodyPost_ret (res_B2 rfl _ _ w.heap.size rfl G2 Try.underlying28 rc_size) rfl ?_
      exact ⟨rfl, grown_below hb1 hg2 hb1.size (Nat.le_refl _)⟩
    · rw [if_pos (by omega)]
      go_enter Try.func10, Try.ntmps10
      go_wp2_with (first
        | (refine wpList_alB rfl rfl rc_zero ?_; intro W1 G1 hb1 hs1)
        | (refine wpList_stB (cs := rcC r (.slice none 0 0)) rfl _ _ rfl rfl w.heap.size rfl rfl G1 rc_size rfl (rc_one _ _ _ _) ?_; intro W2 G2 hg2 hs2))
      refine bodyPost_ret (res_B2 rfl _ _ w.heap.size rfl G2 Try.underlying28 rc_size) rfl ?_
      exact ⟨rfl, grown_below hb1 hg2 hb1.size (Nat.le_refl _)⟩
set_option maxRecDepth 1000000 in
theorem cacheNews_walk (room : Int) (w : World) : Calls Try.prog 3 #[.int .i64 room] w fun e w' => e = .returned (.bool true) ∧ Below w.heap.size w w' := by
  have HR := (show Hid _ from fun W => rnew_any room W)
  by_cases h : 0 ≤ room ∧ room ≤ 1073741824
  · have HN := (show Hid _ from SS.new_ok room h.1 h.2 w)
    simp only [if_pos h] at HR
    go_enter Try.func3, Try.ntmps3
    go_wp2_with (first
      | (go_at_call 9; refine HN.out.mono ?_; rintro e1 w1 ⟨cb, _, _, _, _, _, rfl, _, hb1⟩; have HB := (show Hid (Below _ _ _) from hb1); clear hb1)
      | (go_at_call 10; refine (HR.out _).mono ?_; rintro e1 w2 ⟨rfl, hb2⟩; have HB2 := (show Hid (Below _ _ _) from hb2); clear hb2)
      | (revert HB2; intro HB2; refine wpList_alB rfl rfl rc_zero ?_; intro W1 G1 hb3 hs1)
      | (refine wpList_stB (cs := rcC room (.slice none 0 0)) rfl _ _ rfl rfl w2.heap.size rfl rfl G1 rc_size rfl (rc_one _ _ _ _) ?_; intro W2 G2 hg2 hs2))
    go_ret
    exact ⟨rfl, (HB.out.trans (HB2.out.mono HB.out.size)).trans ((grown_below hb3 hg2 hb3.size (Nat.le_refl _)).mono (Nat.le_trans HB.out.size HB2.out.size))⟩
  · have HN := (show Hid _ from SS.new_bad room (by omega) w)
    simp only [if_neg h] at HR
    go_enter Try.func3, Try.ntmps3
    go_wp2_with (first
      | (go_at_call 9; refine HN.out.mono ?_; rintro e1 w1 ⟨rfl, h1⟩; obtain rfl := h1.symm)
      | (go_at_call 10; refine (HR.out _).mono ?_; rintro e1 w2 ⟨rfl, hb2⟩; have HB2 := (show Hid (Below _ _ _) from hb2); clear hb2)
      | (revert HB2; intro HB2; refine wpList_alB rfl rfl rc_zero ?_; intro W1 G1 hb3 hs1)
      | (refine wpList_stB (cs := rcC 0 (.slice none 0 0)) rfl _ _ rfl rfl w2.heap.size rfl rfl G1 rc_size rfl (rc_one _ _ _ _) ?_; intro W2 G2 hg2 hs2))
    go_ret
    exact ⟨rfl, HB2.out.trans ((grown_below hb3 hg2 hb3.size (Nat.le_refl _)).mono HB2.out.size)⟩
end
end Go.Proofs.Ytjefciioaebbeaa
