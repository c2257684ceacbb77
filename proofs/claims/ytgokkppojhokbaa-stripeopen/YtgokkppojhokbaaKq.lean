/-
  'Powers': the program's.
-/
import Derived.Test.YtgokkppojhokbaaBu
namespace Go.Proofs.Ytgokkppojhokbaa
open Go.RowKit
theorem fill_if {α : Type} (P : Nat → Nat → α) (z : α) (k t i j : Nat) : (if i = k then (if j = t then P k t else (if i < k then P i j else if i = k ∧ j < t then P i j else z)) else (if i < k then P i j else if i = k ∧ j < t then P i j else z)) = (if i < k then P i j else if i = k ∧ j < t + 1 then P i j else z) := by
  by_cases e : i = k
  · subst e
    rw [if_pos rfl, if_neg (Nat.lt_irrefl i), if_neg (Nat.lt_irrefl i)]
    by_cases e2 : j = t
    · subst e2; rw [if_pos rfl, if_pos ⟨rfl, Nat.lt_succ_self j⟩]
    · rw [if_neg e2]
      by_cases e3 : j < t
      · rw [if_pos ⟨rfl, e3⟩, if_pos ⟨rfl, Nat.lt_succ_of_lt e3⟩]
      · rw [if_neg (fun h => e3 h.2), if_neg (fun h => by have := h.2; omega)]
  · rw [if_neg e]
    by_cases e2 : i < k
    · rw [if_pos e2, if_pos e2]
    · rw [if_neg e2, if_neg e2, if_neg (fun h => e h.1), if_neg (fun h => e h.1)]
section
attribute [local irreducible] Calls
theorem powersE_err1 (cols c : Int) (p : Option Addr) (n cap : Nat) (x : BitVec 8) (h : ∀ w : World, Calls Try.prog 49 #[.int .i64 cols] w fun e w' => e = .returned (.int .i64 c) ∧ w' = w) (hc : ¬ c = 0) (w : World) :
    Calls Try.prog 39 #[.slice p n cap, .int .i64 cols, vE x] w fun e w' => e = .returned (.tuple #[.slice none 0 0, .int .i64 c]) ∧ Below w.heap.size w w' := by
  have hc2 : (c != 0) = true := by simpa using hc
  go_enter Try.func39, Try.ntmps39
  go_wp2_with (go_at_call 49; refine (h _).mono ?_; rintro e w' ⟨rfl, h⟩; obtain rfl := h.symm)
  go_ret2
  exact ⟨rfl, Below.refl _ _⟩
set_option maxHeartbeats 1000000 in
set_option maxRecDepth 1000000 in
theorem powersE_err2 (m : Nat) (hm : m ≤ 255) (p : Option Addr) (n cap : Nat) (x : BitVec 8) (hn : 255 < n) (w : World) :
    Calls Try.prog 39 #[.slice p n cap, .int .i64 (m : Int), vE x] w fun e w' => e = .returned (.tuple #[.slice none 0 0, .int .i64 3]) ∧ Below w.heap.size w w' := by
  go_enter Try.func39, Try.ntmps39
  go_wp2_with (first
    | (go_at_call 49; refine (sizeFault_ok m hm _).mono ?_; rintro e w' ⟨rfl, h⟩; obtain rfl := h.symm)
    | (go_at_call 49; refine (sizeFault_big (n : Int) (by omega) _).mono ?_; rintro e w' ⟨rfl, h⟩; obtain rfl := h.symm))
  go_ret2
  exact ⟨rfl, Below.refl _ _⟩
end
section
attribute [local irreducible] Calls
end
section
attribute [local irreducible] Calls
end
section
attribute [local irreducible] Calls el Ov GmE pwk
set_option maxHeartbeats 4000000 in
set_option maxRecDepth 1000000 in
theorem powersE_core (b o n c m : Nat) (f : Nat → BitVec 8) (x : BitVec 8) (w : World) (hn : n ≤ 255) (hm : m ≤ 255) (H1 : Hid (∀ i, i < n → w.cell? ⟨b, o + i, none⟩ = some (vE (f i)))) :
    Calls Try.prog 39 #[.slice (some ⟨b, o, none⟩) n c, .int .i64 (m : Int), vE x] w fun e w' => ∃ v, e = .returned (.tuple #[v, .int .i64 0]) ∧ GxE w.heap.size w' v n m (fun i j => pwk tiE (f i) x j) ∧ Below w.heap.size w w' := by
  show Calls Try.prog _ #[_, _, .int .u8 (el x)] _ _
  go_enter Try.func39, Try.ntmps39
  go_wp2_with (first
    | (go_at_call 49; refine (sizeFault_ok m hm _).mono ?_; rintro e w' ⟨rfl, h⟩; obtain rfl := h.symm)
    | (go_at_call 49; refine (sizeFault_ok n hn _).mono ?_; rintro e w' ⟨rfl, h⟩; obtain rfl := h.symm)
    | (go_at_call 50; refine (blankxE n m (by omega) (by omega) _).mono ?_; rintro e w1 ⟨B, rfl, hG, hB, hb⟩))
  have hG0 : GmE w1 B n m (fun i => B + 1 + i) (fun i j => if i < 0 then pwk tiE (f i) x j else oE) := hG.congr (fun i _ j _ => by rw [if_neg (by omega)])
  clear hG
  go_loopw [32] (fun i wr => ∃ k : Nat, k ≤ n ∧ i = .int .i64 k ∧ GmE wr B n m (fun i => B + 1 + i) (fun i j => if i < k then pwk tiE (f i) x j else oE) ∧ Below w.heap.size w wr) (fun i _ => n - (intOf i).toNat)
  case atStart => exact ⟨0, Nat.zero_le _, rfl, hG0, hb⟩
  case round =>
    clear hG0 hb
    obtain ⟨k, hk, rfl, hG, hb⟩ := hrel
    by_cases hlt : k < n
    · have hi : (k : Int) < (n : Int) := by omega
      have g0 : wr.cell? ⟨b, o + k, none⟩ = some (.int .u8 (el (f k))) := cell_below (H1.out k hlt) hb
      have g1 := hG.out hlt
      have hG1 : GmE wr B n m (fun i => B + 1 + i) (fun i j => if i < k then pwk tiE (f i) x j else if i = k ∧ j < 0 then pwk tiE (f i) x j else oE) := hG.congr (fun i _ j _ => by rw [if_neg (show ¬ (i = k ∧ j < 0) by omega)])
      go_wp2
      clear g0 g1
      have HG1 := (show Hid _ from hG1)
      have HBB := (show Hid _ from hb)
      clear hG hG1 hb
      go_loopw [13, 43] (fun y j wq => ∃ t : Nat, t ≤ m ∧ j = .int .i64 t ∧ y = .int .u8 (el (pwk tiE (f k) x t)) ∧ GmE wq B n m (fun i => B + 1 + i) (fun i j => if i < k then pwk tiE (f i) x j else if i = k ∧ j < t then pwk tiE (f i) x j else oE) ∧ Below w.heap.size w wq) (fun _ j _ => m - (intOf j).toNat)
      case atStart => exact ⟨0, Nat.zero_le _, rfl, by unfold pwk; rfl, HG1.out, HBB.out⟩
      case round =>
        obtain ⟨t, ht, rfl, rfl, hG, hb⟩ := hrel
        by_cases hltm : t < m
        · have i1 : (t : Int) < (m : Int) := by omega
          have g1 := hG.out hlt
          have g2 := hG.cell hlt hltm
          have g3 := hG.frozen hlt t
          go_wp2_with (refine (timesE (pwk tiE (f k) x t) (f k) _).mono ?_; rintro e w' ⟨rfl, h⟩; obtain rfl := h.symm)
          go_roundw
          case rel =>
            refine ⟨t + 1, by omega, by go_num, by rw [pwk_succ], (hG.put hlt hltm (pwk tiE (f k) x t) rfl).congr (fun i _ j _ => ?_), hb.setCell (by show _ ≤ B + 1 + k; omega) _⟩
            exact fill_if (fun i j => pwk tiE (f i) x j) oE k t i j
          case measure => simp [intOf]; omega
        · obtain rfl : t = m := by omega
          have hG2 : GmE wr B n t (fun i => B + 1 + i) (fun i j => if i < k + 1 then pwk tiE (f i) x j else oE) := hG.congr (fun i _ j hj => by
            by_cases e : i < k
            · rw [if_pos e, if_pos (by omega)]
            · rw [if_neg e]
              by_cases e2 : i = k
              · rw [if_pos ⟨e2, hj⟩, if_pos (by omega)]
              · rw [if_neg (fun h => e2 h.1), if_neg (by omega)])
          go_wp2
          exact ⟨⟨k + 1, by omega, by go_num, hG2, hb⟩, by simp [intOf]; omega⟩
    · obtain rfl : k = n := by omega
      go_wp2
      go_ret2
      have hG2 : GmE wr B k m (fun i => B + 1 + i) (fun i j => pwk tiE (f i) x j) := hG.congr (fun i hi j hj => by rw [if_pos hi])
      exact ⟨_, rfl, ⟨B, _, rfl, hG2, hB, fun i hi => by omega⟩, hb⟩
end
section
attribute [local irreducible] Calls el Ov pwk
end
end Go.Proofs.Ytgokkppojhokbaa
/-
  'Powers' over the field of four.
-/
namespace Go.Proofs.Ytgokkppojhokbaa
open Go.RowKit
section
attribute [local irreducible] Calls el Ov pwk
end
end Go.Proofs.Ytgokkppojhokbaa
/-
  'Powers' at whatever points.
-/
namespace Go.Proofs.Ytgokkppojhokbaa
open Go.RowKit
theorem sizeFault_0 (w : World) : Calls Try.prog 49 #[.int .i64 0] w fun e w' => e = .returned (.int .i64 0) ∧ w' = w := sizeFault_ok 0 (by omega) w
theorem blank0E (c : Nat) (hc : c ≤ 1000) (w : World) : Calls Try.prog 50 #[.int .i64 0, .int .i64 c] w fun e w' => ∃ B, e = .returned (.slice (some ⟨B, 0, none⟩) 0 0) ∧ GmE w' B 0 c (fun i => B + 1 + i) (fun _ _ => oE) ∧ w.heap.size ≤ B ∧ Below w.heap.size w w' := blankxE 0 c (by omega) hc w
section
attribute [local irreducible] Calls GmE
set_option maxHeartbeats 1000000 in
set_option maxRecDepth 1000000 in
theorem powersE_nil (m : Nat) (hm : m ≤ 255) (p : Option Addr) (cap : Nat) (x : BitVec 8) (w : World) :
    Calls Try.prog 39 #[.slice p 0 cap, .int .i64 (m : Int), vE x] w fun e w' => ∃ v, e = .returned (.tuple #[v, .int .i64 0]) ∧ GxE w.heap.size w' v 0 m (fun _ _ => oE) ∧ Below w.heap.size w w' := by
  go_enter Try.func39, Try.ntmps39
  go_wp2_with (first
    | (go_at_call 49; refine (sizeFault_ok m hm _).mono ?_; rintro e w' ⟨rfl, h⟩; obtain rfl := h.symm)
    | (go_at_call 49; refine (sizeFault_0 _).mono ?_; rintro e w' ⟨rfl, h⟩; obtain rfl := h.symm)
    | (go_at_call 50; refine (blank0E m (by omega) _).mono ?_; rintro e w1 ⟨B, rfl, hG, hB, hb⟩))
  refine wp_loop_rounds 1 ?_
  rw [rounds_succ]
  go_wp2
  go_ret2
  exact ⟨_, rfl, ⟨B, _, rfl, hG, hB, fun i hi => by omega⟩, hb⟩
end
theorem powersE_any {w : World} {v : Value} {n : Nat} {f : Nat → BitVec 8} (h : NrE w v n f) (cols : Int) (x : BitVec 8) :
    Calls Try.prog 39 #[v, .int .i64 cols, vE x] w fun e w' => ∃ v', e = .returned (.tuple #[v', .int .i64 (pc cols n)]) ∧ NmE w' v' (pn cols n) (fun _ => cols.toNat) (fun i j => pwk tiE (f i) x j) ∧ Below w.heap.size w w' := by
  obtain ⟨p, cap, rfl, h⟩ := h
  by_cases h1 : cols < 0
  · have e1 : pc cols n = 2 := by unfold pc; rw [if_pos h1]
    have e2 : pn cols n = 0 := by unfold pn; rw [e1, if_neg (by decide)]
    rw [e1, e2]
    exact (powersE_err1 cols 2 p n cap x (sizeFault_neg cols h1) (by decide) w).mono fun e w' ⟨he, hb⟩ => ⟨_, he, NmE.nil _ _ _, hb⟩
  · by_cases h2 : 255 < cols
    · have e1 : pc cols n = 3 := by unfold pc; rw [if_neg h1, if_pos h2]
      have e2 : pn cols n = 0 := by unfold pn; rw [e1, if_neg (by decide)]
      rw [e1, e2]
      exact (powersE_err1 cols 3 p n cap x (sizeFault_big cols h2) (by decide) w).mono fun e w' ⟨he, hb⟩ => ⟨_, he, NmE.nil _ _ _, hb⟩
    · obtain ⟨m, rfl⟩ : ∃ m : Nat, cols = m := ⟨cols.toNat, by omega⟩
      by_cases h3 : 255 < n
      · have e1 : pc (m : Int) n = 3 := by unfold pc; rw [if_neg h1, if_neg h2, if_pos h3]
        have e2 : pn (m : Int) n = 0 := by unfold pn; rw [e1, if_neg (by decide)]
        rw [e1, e2]
        exact (powersE_err2 m (by omega) p n cap x h3 w).mono fun e w' ⟨he, hb⟩ => ⟨_, he, NmE.nil _ _ _, hb⟩
      · have e1 : pc (m : Int) n = 0 := by unfold pc; rw [if_neg h1, if_neg h2, if_neg h3]
        have e2 : pn (m : Int) n = n := by unfold pn; rw [e1, if_pos rfl]
        rw [e1, e2, Int.toNat_natCast]
        by_cases h0 : n = 0
        · subst h0
          exact (powersE_nil m (by omega) p cap x w).mono fun e w' ⟨v', he, hG, hb⟩ => ⟨v', he, ⟨hG.nm.choose, hG.nm.choose_spec.1, fun i hi => by omega⟩, hb⟩
        · rcases h with h | ⟨b, o, rfl, hc⟩
          · omega
          · exact (powersE_core b o n cap m f x w (by omega) (by omega) hc).mono fun e w' ⟨v', he, hG, hb⟩ => ⟨v', he, hG.nm, hb⟩
section
attribute [local irreducible] Calls
end
section
attribute [local irreducible] Calls
end
end Go.Proofs.Ytgokkppojhokbaa
