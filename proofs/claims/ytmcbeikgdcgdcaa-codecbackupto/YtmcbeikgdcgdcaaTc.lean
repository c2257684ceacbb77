/-
  The laws' 'longest', and 'back' of texts.
-/
import Derived.Test.YtmcbeikgdcgdcaaTg
namespace Go.Proofs.Ytmcbeikgdcgdcaa
open Go.RowKit
/-- The longest text's length. -/
def lgt (ts : List (List (BitVec 8))) : Nat := ts.foldl (fun n t => max n t.length) 0
theorem lgt_snoc (ts : List (List (BitVec 8))) (t : List (BitVec 8)) : lgt (ts ++ [t]) = max (lgt ts) t.length := by unfold lgt; rw [List.foldl_append]; rfl
theorem Rs'.heap {w w' : World} {a : Option Addr} {ts : List (List (BitVec 8))} (h : Rs' w a ts) (e : w'.heap = w.heap) : Rs' w' a ts := by
  rcases h with h | ⟨b, off, ha, hc⟩
  · exact .inl h
  · exact .inr ⟨b, off, ha, fun i hi => by rw [← hc i hi]; exact World.cell?_of_block (a := ⟨b, off + i, none⟩) (by rw [e])⟩
theorem lgt_le (ts : List (List (BitVec 8))) : lgt ts ≤ tz ts := by
  have : ∀ (l : List (List (BitVec 8))) (n : Nat), l.foldl (fun n t => max n t.length) n ≤ n + (l.map fun t => t.length + 10).sum := by
    intro l
    induction l with
    | nil => intro n; simp
    | cons t l ih =>
      intro n
      rw [List.foldl_cons, List.map_cons, List.sum_cons]
      have := ih (max n t.length)
      omega
  have := this ts 0
  unfold lgt tz
  omega
section
attribute [local irreducible] Calls el bstr
set_option maxHeartbeats 1000000 in
set_option maxRecDepth 1000000 in
theorem longest_any {w : World} {a : Option Addr} {ts : List (List (BitVec 8))} (h : Rs' w a ts) (m c : Nat) (hm : ts.length = m) (hx : tz ts ≤ 40000000000000) :
    Calls Try.prog 79 #[.slice a m c] w fun e w' => e = .returned (.int .i64 (lgt ts : Int)) ∧ w' = w := by
  have hml : m ≤ 40000000000000 := by have := tz_len ts; omega
  suffices H : Calls Try.prog 79 #[.slice a m c] w fun e w' => e = .returned (.int .i64 (lgt ts : Int)) ∧ (w' = w ∧ Below w.heap.size w w') from H.mono fun e w' ⟨h1, h2, _⟩ => ⟨h1, h2⟩
  go_enter Try.func79, Try.ntmps79
  go_wp2
  go_loopw [3, 4] (fun s i wr => ∃ j : Nat, j ≤ m ∧ i = .int .i64 (j : Int) ∧ s = .int .i64 ((lgt (ts.take j) : Nat) : Int) ∧ Hid (wr = w)) (fun _ i _ => m - (intOf i).toNat)
  case atStart => exact ⟨0, Nat.zero_le _, rfl, rfl, rfl⟩
  case round =>
    obtain ⟨j, hj, rfl, rfl, hwr⟩ := hrel
    by_cases hlt : j < m
    · have hi : (j : Int) < (m : Int) := by omega
      obtain ⟨b, of, rfl, hc⟩ : ∃ b o, a = some ⟨b, o, none⟩ ∧ ∀ i, i < m → w.cell? ⟨b, o + i, none⟩ = some (.string (bstr (ts.getD i []))) := by
        rcases h with hp | ⟨b, o, e, hc⟩
        · subst hp; simp at hm; omega
        · rw [hm] at hc; exact ⟨b, o, e, hc⟩
      obtain ⟨t, htd⟩ : ∃ t, t = ts.getD j [] := ⟨_, rfl⟩
      have g1 := hc j hlt
      rw [← htd, ← hwr.out] at g1
      have hsz := bstr_size t
      have hts : ts.take (j + 1) = ts.take j ++ [t] := by
        rw [htd, List.take_add_one]
        simp [List.getD, List.getElem?_eq_getElem (show j < ts.length by omega)]
      have hls := lgt_snoc (ts.take j) t
      rw [← hts] at hls
      obtain ⟨N, hN⟩ : ∃ N, lgt (ts.take j) = N := ⟨_, rfl⟩
      rw [hN] at hls ⊢
      clear htd hts hN
      rcases Nat.le_total N t.length with hle | hle
      · have l1 : (N : Int) ≤ (t.length : Int) := by omega
        have l2 : ¬ (t.length : Int) < (N : Int) := by omega
        rw [Nat.max_eq_right hle] at hls
        go_wp2
        all_goals
          go_roundw
          case rel => exact ⟨j + 1, by omega, by go_num, congrArg (Value.int .i64) (by first | (rw [hls]; done) | (rw [hls]; omega)), hwr⟩
          case measure => simp [intOf]; omega
      · have l1 : (t.length : Int) ≤ (N : Int) := by omega
        have l2 : ¬ (N : Int) < (t.length : Int) := by omega
        rw [Nat.max_eq_left hle] at hls
        go_wp2
        all_goals
          go_roundw
          case rel => exact ⟨j + 1, by omega, by go_num, congrArg (Value.int .i64) (by first | (rw [hls]; done) | (rw [hls]; omega)), hwr⟩
          case measure => simp [intOf]; omega
    · obtain rfl : j = m := by omega
      rw [List.take_of_length_le (by omega)]
      go_wp2
      go_ret
      exact ⟨rfl, hwr.out, by rw [hwr.out]; exact Below.refl _ _⟩
end
end Go.Proofs.Ytmcbeikgdcgdcaa
