/-
  What is no code; CodeNews: the walk.
-/
import Derived.Test.YtienknoahjhopaaRmx
import Derived.Test.YtienknoahjhopaaMx
namespace Go.Proofs.Ytienknoahjhopaa
open Go.RowKit
/-- No code: a nil one, or one that was never made. -/
def NoC (w : World) (v : Value) : Prop := v = .pointer none ∨ ∃ b, v = .pointer (some ⟨b, 0, none⟩) ∧ w.cell? ⟨b, 0, none⟩ = some (.int .i64 0)
theorem NoC.below {w w' : World} {v : Value} (h : NoC w v) (hb : Below w.heap.size w w') : NoC w' v := by
  rcases h with h | ⟨b, h, hc⟩
  · exact .inl h
  · exact .inr ⟨b, h, cell_below hc hb⟩
section
attribute [local irreducible] Calls
set_option maxRecDepth 1000000 in
theorem none_yes {w : World} {v : Value} (h : NoC w v) : Calls Try.prog 30 #[v] w fun e w' => e = .returned (.bool true) ∧ w' = w := by
  rcases h with rfl | ⟨b, rfl, hc⟩
  · go_enter Try.func30, Try.ntmps30
    go_wp2
    go_ret
    exact ⟨rfl, rfl⟩
  · go_enter Try.func30, Try.ntmps30
    go_wp2
    go_ret
    exact ⟨rfl, rfl⟩
set_option maxRecDepth 1000000 in
theorem encode_no {w : World} {v : Value} (h : NoC w v) (u : Value) : Calls Try.prog 24 #[v, u] w fun e w' => e = .returned (.tuple #[.slice none 0 0, .int .i64 1]) ∧ w' = w := by
  have NO := (show Hid _ from none_yes h)
  clear h
  go_enter Try.func24, Try.ntmps24
  go_wp2_with (go_at_call 30; refine NO.out.mono ?_; rintro e w' ⟨rfl, h⟩; obtain rfl := h.symm)
  go_ret2
  exact ⟨rfl, rfl⟩
set_option maxRecDepth 1000000 in
theorem rebuild_no {w : World} {v : Value} (h : NoC w v) (u : Value) : Calls Try.prog 12 #[v, u] w fun e w' => e = .returned (.tuple #[.slice none 0 0, .int .i64 1]) ∧ w' = w := by
  have NO := (show Hid _ from none_yes h)
  clear h
  go_enter Try.func12, Try.ntmps12
  go_wp2_with (go_at_call 30; refine NO.out.mono ?_; rintro e w' ⟨rfl, h⟩; obtain rfl := h.symm)
  go_ret2
  exact ⟨rfl, rfl⟩
set_option maxRecDepth 1000000 in
theorem check_no {w : World} {v : Value} (h : NoC w v) (u : Value) : Calls Try.prog 17 #[v, u] w fun e w' => e = .returned (.tuple #[.bool false, .int .i64 1]) ∧ w' = w := by
  have NO := (show Hid _ from none_yes h)
  clear h
  go_enter Try.func17, Try.ntmps17
  go_wp2_with (go_at_call 30; refine NO.out.mono ?_; rintro e w' ⟨rfl, h⟩; obtain rfl := h.symm)
  go_ret2
  exact ⟨rfl, rfl⟩
set_option maxRecDepth 1000000 in
theorem turn_no {w : World} {v : Value} (h : NoC w v) (u a d : Value) : Calls Try.prog 20 #[v, u, a, d] w fun e w' => e = .returned (.tuple #[.slice none 0 0, .int .i64 1]) ∧ w' = w := by
  have NO := (show Hid _ from none_yes h)
  clear h
  go_enter Try.func20, Try.ntmps20
  go_wp2_with (go_at_call 30; refine NO.out.mono ?_; rintro e w' ⟨rfl, h⟩; obtain rfl := h.symm)
  go_ret2
  exact ⟨rfl, rfl⟩
set_option maxRecDepth 1000000 in
theorem matrix_no {w : World} {v : Value} (h : NoC w v) : Calls Try.prog 25 #[v] w fun e w' => e = .returned (.slice none 0 0) ∧ w' = w := by
  have NO := (show Hid _ from none_yes h)
  clear h
  go_enter Try.func25, Try.ntmps25
  go_wp2_with (go_at_call 30; refine NO.out.mono ?_; rintro e w' ⟨rfl, h⟩; obtain rfl := h.symm)
  go_ret
  exact ⟨rfl, rfl⟩
/-- Which numbers make no code. -/
def Shp (k m : Int) : Prop := 1 ≤ m ∧ m ≤ k ∧ k ≤ 255 - m
theorem w255 {m : Int} (h1 : 1 ≤ m) (h2 : m ≤ 9223372036854775807) : wrap64 (255 - m) = 255 - m := by unfold wrap64; omega
set_option maxHeartbeats 1000000 in
set_option maxRecDepth 1000000 in
theorem new_no (k m : Int) (w : World) (h : ¬ Shp k m) (HW : Hid (1 ≤ m → wrap64 (255 - m) = 255 - m)) : Calls Try.prog 7 #[.int .i64 k, .int .i64 m] w fun e w' => e = .returned (.tuple #[.pointer none, .int .i64 4]) ∧ w' = w := by
  unfold Shp at h
  by_cases h1 : m < 1
  · clear h
    go_enter Try.func7, Try.ntmps7
    go_wp2
    go_ret2
    exact ⟨rfl, rfl⟩
  · have e1 := HW.out (by omega)
    by_cases h2 : k < m
    · clear h
      go_enter Try.func7, Try.ntmps7
      go_wp2
      go_ret2
      exact ⟨rfl, rfl⟩
    · have h3 : 255 - m < k := by omega
      clear h
      go_enter Try.func7, Try.ntmps7
      go_wp2
      go_ret2
      exact ⟨rfl, rfl⟩
set_option maxHeartbeats 1000000 in
set_option maxRecDepth 1000000 in
theorem maybe_yes (k m : Int) (w : World) (h : Shp k m) : Calls Try.prog 8 #[.int .i64 k, .int .i64 m] w fun e w' => e = .returned (.bool true) ∧ w' = w := by
  obtain ⟨h1, h2, h3⟩ := h
  have h4 : k ≤ 254 := by omega
  have e1 : wrap64 (255 - k) = 255 - k := by unfold wrap64; omega
  have h5 : m ≤ 255 - k := by omega
  go_enter Try.func8, Try.ntmps8
  go_wp2
  go_ret
  exact ⟨rfl, rfl⟩
set_option maxHeartbeats 1000000 in
set_option maxRecDepth 1000000 in
theorem maybe_no (k m : Int) (w : World) (h : ¬ Shp k m) : Calls Try.prog 8 #[.int .i64 k, .int .i64 m] w fun e w' => e = .returned (.bool false) ∧ w' = w := by
  unfold Shp at h
  by_cases h1 : 1 ≤ m
  · by_cases h2 : m ≤ k
    · by_cases h4 : k ≤ 254
      · have e1 : wrap64 (255 - k) = 255 - k := by unfold wrap64; omega
        have h5 : ¬ m ≤ 255 - k := by omega
        clear h
        go_enter Try.func8, Try.ntmps8
        go_wp2
        go_ret
        exact ⟨rfl, rfl⟩
      · clear h
        go_enter Try.func8, Try.ntmps8
        go_wp2
        go_ret
        exact ⟨rfl, rfl⟩
    · clear h
      go_enter Try.func8, Try.ntmps8
      go_wp2
      go_ret
      exact ⟨rfl, rfl⟩
  · clear h
    go_enter Try.func8, Try.ntmps8
    go_wp2
    go_ret
    exact ⟨rfl, rfl⟩
end
section
attribute [local irreducible] Calls NoC
end
section
attribute [local irreducible] Calls NoC NmE NrE Cd Fac shr Br lv
end
end Go.Proofs.Ytienknoahjhopaa
