/-
  HealthRisks: the walk.
-/
import Derived.Test.YtcfjinpjijcheabRk27
namespace Go.Proofs.Ytcfjinpjijcheab
open Go.RowKit
attribute [local irreducible] dW dR p2 fR fW fV fval sW sR
def wi (x : Nat) : Nat := if isCh x = true then x else 4593671619917905920
theorem wi_ch (x : Nat) : isCh (wi x) = true := by
  unfold wi
  split
  · assumption
  · exact isCh_8
def wil (xs : List Nat) (t : Nat) : List Nat := (xs.take t).map wi
theorem wil_succ (xs : List Nat) (t : Nat) (h : t < xs.length) : wil xs (t + 1) = wil xs t ++ [wi (xs.getD t 0)] := by
  unfold wil
  rw [List.take_add_one, List.getElem?_eq_getElem h, List.map_append]
  simp only [Option.toList_some, List.map_cons, List.map_nil]
  rw [show xs.getD t 0 = xs[t] by simp [List.getD, h]]
theorem wil_len (xs : List Nat) (t : Nat) (h : t ≤ xs.length) : (wil xs t).length = t := by unfold wil; rw [List.length_map, List.length_take]; omega
theorem wil_ch (xs : List Nat) (t : Nat) : ∀ f ∈ wil xs t, isCh f = true := by
  intro f hf
  unfold wil at hf
  obtain ⟨y, _, rfl⟩ := List.mem_map.1 hf
  exact wi_ch y
section
attribute [local irreducible] Calls wi wil
set_option maxRecDepth 1000000 in
set_option maxHeartbeats 2000000 in
theorem within_any {w : World} {a : Option Addr} {xs : List Nat} (h : Fr w a xs) (n c : Nat) (hn : xs.length = n) (hm : n ≤ 140737488355328) :
    Calls Try.prog 18 #[.slice a n c] w fun e w' => ∃ v, e = .returned v ∧ Of w' w.heap.size v (wil xs (min n 255)) ∧ Below w.heap.size w w' := by
  have HH := (show Hid (Fr w a xs) from h)
  have al := balloc
  clear h
  go_enter Try.func18, Try.ntmps18
  go_wp2
  go_loopw [3, 4] (fun o i wr => ∃ t : Nat, t ≤ n ∧ t ≤ 255 ∧ i = .int .i64 (t : Int) ∧ Of wr w.heap.size o (wil xs t) ∧ Below w.heap.size w wr) (fun _ i _ => n - (intOf i).toNat)
  case atStart => exact ⟨0, Nat.zero_le _, by omega, rfl, by rw [show wil xs 0 = [] from by unfold wil; rfl]; exact Of.nil _ _, Below.refl _ _⟩
  case round =>
    obtain ⟨t, ht, ht2, rfl, hO, hb⟩ := hrel
    have hsz := hb.size
    by_cases hlt : t < n
    · have hi : (t : Int) < (n : Int) := by omega
      by_cases hl2 : t < 255
      · have hi2 : (t : Int) < 255 := by omega
        obtain ⟨b, o, rfl, hd⟩ := Fr.at HH.out (by omega)
        have g1 := cell_below (hd t (by omega)) hb
        have e1 := wil_succ xs t (by omega)
        have e2 := wil_len xs t (by omega)
        obtain ⟨y, hy⟩ : ∃ y, xs.getD t 0 = y := ⟨_, rfl⟩
        rw [hy] at g1 e1
        have q0 := geq_leq y 0
        have HE := (show Hid _ from e1)
        have r1 : ∀ z, Fr (wr.alloc (.cells #[.float .f64 z] 22)) (some ⟨wr.heap.size, 0, none⟩) [z] := fun z => (bl_new wr 22 [.float .f64 z]).rd
        have HR := (show Hid _ from r1)
        clear hd hy e1 r1
        cases b1 : (F6.order 0 y == some .lt || F6.order 0 y == some .eq) with
        | false =>
          have hw : wi y = 4593671619917905920 := by unfold wi isCh; rw [b1, Bool.false_and, if_neg (by simp)]
          rw [b1] at q0
          have HW := (show Hid _ from hw)
          clear hw
          go_wp2_with (at_builtin; refine wpList_apF rfl (.tmp 34) (.tmp 35) rfl w.heap.size u3 (wil xs t) rfl (hO.below (al _ _)) (some ⟨wr.heap.size, 0, none⟩) 1 1 [4593671619917905920] rfl (HR.out _) rfl (by rw [e2]; simp; omega) (Nat.le_trans hsz (al _ _).size) ?_; intro v2 w2 ho2 hg2)
          go_roundw
          case rel => exact ⟨t + 1, hlt, by omega, by go_num, by rw [HE.out, HW.out]; exact ho2, below_append (t := 22) (hb.alloc hsz _) (Nat.le_trans hsz (al _ _).size) hg2 (hO.below (al _ _)) (Nat.le_refl _)⟩
          case measure => simp [intOf]; omega
        | true =>
          rw [b1] at q0
          cases b2 : (F6.order y 4607182418800017408 == some .lt || F6.order y 4607182418800017408 == some .eq) with
          | false =>
            have hw : wi y = 4593671619917905920 := by unfold wi isCh; rw [b1, b2, if_neg (by simp)]
            have HW := (show Hid _ from hw)
            clear hw
            go_wp2_with (at_builtin; refine wpList_apF rfl (.tmp 34) (.tmp 35) rfl w.heap.size u3 (wil xs t) rfl (hO.below (al _ _)) (some ⟨wr.heap.size, 0, none⟩) 1 1 [4593671619917905920] rfl (HR.out _) rfl (by rw [e2]; simp; omega) (Nat.le_trans hsz (al _ _).size) ?_; intro v2 w2 ho2 hg2)
            go_roundw
            case rel => exact ⟨t + 1, hlt, by omega, by go_num, by rw [HE.out, HW.out]; exact ho2, below_append (t := 22) (hb.alloc hsz _) (Nat.le_trans hsz (al _ _).size) hg2 (hO.below (al _ _)) (Nat.le_refl _)⟩
            case measure => simp [intOf]; omega
          | true =>
            have hw : wi y = y := by unfold wi isCh; rw [b1, b2]; simp
            have HW := (show Hid _ from hw)
            clear hw
            go_wp2_with (at_builtin; refine wpList_apF rfl (.tmp 27) (.tmp 32) rfl w.heap.size u3 (wil xs t) rfl (hO.below (al _ _)) (some ⟨wr.heap.size, 0, none⟩) 1 1 [y] rfl (HR.out _) rfl (by rw [e2]; omega) (Nat.le_trans hsz (al _ _).size) ?_; intro v2 w2 ho2 hg2)
            go_roundw
            case rel => exact ⟨t + 1, hlt, by omega, by go_num, by rw [HE.out, HW.out]; exact ho2, below_append (t := 22) (hb.alloc hsz _) (Nat.le_trans hsz (al _ _).size) hg2 (hO.below (al _ _)) (Nat.le_refl _)⟩
            case measure => simp [intOf]; omega
      · have hi2 : ¬ (t : Int) < 255 := by omega
        go_wp2
        go_ret
        rw [show min n 255 = t by omega]
        exact ⟨_, rfl, hO, hb⟩
    · obtain rfl : t = n := by omega
      go_wp2
      go_ret
      rw [show min t 255 = t by omega]
      exact ⟨_, rfl, hO, hb⟩
end
end Go.Proofs.Ytcfjinpjijcheab
