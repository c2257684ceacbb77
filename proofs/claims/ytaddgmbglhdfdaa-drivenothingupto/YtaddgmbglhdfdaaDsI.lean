/-
  Loose, Wipe, harmed of a drive.
-/
import Derived.Test.YtaddgmbglhdfdaaDsH
namespace Go.Proofs.Ytaddgmbglhdfdaa
open Go.RowKit Go.Maps Go.Sort
/-- How many bytes are loose. -/
def Ds.loose (σ : Ds) (x : Tx) : Nat × Int := match σ.find x with
  | .inl e => (e, 0)
  | .inr i => (0, ((σ.body i).data.length : Int) - (σ.body i).safe)
/-- The body of a name that is to be harmed. -/
def Ds.harm (σ : Ds) (x : Tx) (at' : Int) : Nat ⊕ Nat := if isN x then (if at' < 0 then .inl 2 else σ.find x) else .inl 91
theorem harm_inl {σ : Ds} {x : Tx} {a : Int} {e : Nat} (h : σ.harm x a = .inl e) : e = 91 ∨ e = 110 ∨ e = 2 := by
  unfold Ds.harm at h
  split at h
  · split at h
    · injection h with h; exact .inr (.inr h.symm)
    · rcases find_inl h with h | h
      · exact .inl h
      · exact .inr (.inl h)
  · injection h with h; exact .inl h.symm
theorem harm_inr {σ : Ds} {x : Tx} {a : Int} {i : Nat} (h : σ.harm x a = .inr i) : isN x = true ∧ 0 ≤ a ∧ σ.find x = .inr i := by
  unfold Ds.harm at h
  split at h
  · rename_i hN
    split at h
    · cases h
    · exact ⟨hN, by omega, h⟩
  · cases h
/-- All is taken away but the room. -/
theorem wipe_end {w : World} {db : Nat} {σ : Ds} {F : Nat → Prop} (h : DrAt w db σ F) : DrAt (((((w.setCell ⟨db, 0, none⟩ (.int .i64 (σ.room : Int))).setCell ⟨db, 1, none⟩ (.int .i64 0)).setCell ⟨db, 2, none⟩ (.map none)).setCell ⟨db, 3, none⟩ (.map none)).setCell ⟨db, 4, none⟩ (.slice none 0 0)) db (Ds.new σ.room) F ∧ Tn F w (((((w.setCell ⟨db, 0, none⟩ (.int .i64 (σ.room : Int))).setCell ⟨db, 1, none⟩ (.int .i64 0)).setCell ⟨db, 2, none⟩ (.map none)).setCell ⟨db, 3, none⟩ (.map none)).setCell ⟨db, 4, none⟩ (.slice none 0 0)) := by
  obtain ⟨hFd, hFw, m, rv, st, sf, pv, S, R⟩ := h
  refine ⟨⟨hFd, fun b hb => by have := hFw b hb; simpa [World.setCell] using this, [], fun _ => undef, none, none, .slice none 0 0, ?_, ?_⟩, ?_⟩
  · unfold StAt at S ⊢
    rw [heap_setCell_same _ db 4 _ _ _ (heap_setCell_same _ db 3 _ _ _ (heap_setCell_same _ db 2 _ _ _ (heap_setCell_same _ db 1 _ _ _ (heap_setCell_same _ db 0 _ _ _ S))))]
    rfl
  · exact ⟨.inl ⟨rfl, rfl, rfl, rfl, rfl⟩, rfl, List.nodup_nil, fun i hi => absurd hi (Nat.not_lt_zero _), fun i j g hi => absurd hi (Nat.not_lt_zero _), ⟨[], ⟨rfl, .inl ⟨rfl, rfl⟩⟩, rfl, fun j hj => absurd hj (Nat.not_lt_zero _)⟩, fun g hg => by cases hg⟩
  · exact (Tn.setCell w ⟨db, 0, none⟩ hFd _).trans ((Tn.setCell _ ⟨db, 1, none⟩ hFd _).trans ((Tn.setCell _ ⟨db, 2, none⟩ hFd _).trans ((Tn.setCell _ ⟨db, 3, none⟩ hFd _).trans (Tn.setCell _ ⟨db, 4, none⟩ hFd _))))
section
attribute [local irreducible] Calls
set_option maxRecDepth 1000000 in
theorem wipe_any {w : World} {db : Nat} {σ : Ds} {F : Nat → Prop} (h : DrAt w db σ F) : Calls Try.prog 35 #[.pointer (some ⟨db, 0, none⟩)] w fun e w' => e = .returned (.int .i64 0) ∧ DrAt w' db (Ds.new σ.room) F ∧ Tn F w w' := by
  have WE := (show Hid _ from wipe_end h)
  obtain ⟨hFd, hFw, m, rv, st, sf, pv, S, R⟩ := h
  obtain ⟨c0, c1, c2, c3, c4⟩ := S.cell
  have f0 := frozen_of_row w db 0 _ _ S
  have f1 := frozen_of_row w db 1 _ _ S
  have f2 := frozen_of_row w db 2 _ _ S
  have f3 := frozen_of_row w db 3 _ _ S
  have f4 := frozen_of_row w db 4 _ _ S
  clear S R hFd hFw
  go_enter Try.func35, Try.ntmps35
  go_wp2
  go_ret
  exact ⟨rfl, WE.out⟩
set_option maxRecDepth 1000000 in
theorem loose_any {w : World} {db : Nat} {σ : Ds} {F : Nat → Prop} (h : DrAt w db σ F) (x : Tx) (hx : x.length ≤ 9223372036854775807) (hs : ∀ i, (σ.body i).safe ≤ (σ.body i).data.length) (hm : ∀ i, (σ.body i).data.length ≤ 140737488355328) : Calls Try.prog 21 #[.pointer (some ⟨db, 0, none⟩), encStr x] w fun e w' => e = .returned (.tuple #[.int .i64 (σ.loose x).2, .int .i64 (σ.loose x).1]) ∧ Below w.heap.size w w' := by
  obtain ⟨hFd, hFw, m, rv, st, sf, pv, S, R⟩ := h
  have hF := (show Hid _ from find_any S R hFw x hx)
  unfold Ds.loose
  cases hf : σ.find x with
  | inl e9 =>
    dsimp only
    rw [hf] at hF
    unfold fndv at hF
    have he := find_inl hf
    have g1 : ((e9 : Int) != 0) = true := by
      rcases he with rfl | rfl <;> rfl
    have g2 : ¬ (e9 : Int) = 0 := by rcases he with rfl | rfl <;> decide
    clear S R he hf hFw hFd
    go_enter Try.func21, Try.ntmps21
    go_wp2_with (go_at_call 45; refine hF.out.mono ?_; rintro e w1 ⟨rfl, hb⟩)
    go_ret2
    exact ⟨rfl, hb⟩
  | inr i =>
    dsimp only
    have hi := R.found hf
    rw [hf] at hF
    unfold fndv ptv pta at hF
    simp only at hF
    obtain ⟨p, c, hv⟩ := (R.bod i hi).row.len
    have h1 := hs i
    have h2 := hm i
    have RB := (show Hid (∀ w1, Below w.heap.size w w1 → w1.drew.cell? ⟨m.getD i 0, 0, none⟩ = some (.slice p (σ.body i).data.length c) ∧ w1.drew.cell? ⟨m.getD i 0, 1, none⟩ = some (.int .i64 ((σ.body i).safe : Int))) from fun w1 (hb : Below w.heap.size w w1) => by
      have := ((R.below hb).bod i hi).cells
      rw [hv] at this
      exact this)
    generalize (σ.body i).data.length = L at *
    generalize (σ.body i).safe = s at *
    generalize m.getD i 0 = q at *
    clear S R hFd hFw hi hv hf hs hm
    go_enter Try.func21, Try.ntmps21
    go_wp2_with (go_at_call 45; refine hF.out.mono ?_; rintro e w1 ⟨rfl, hb⟩; obtain ⟨k0, k1⟩ := RB.out w1 hb; have HB := (show Hid _ from hb); clear hb)
    go_region
    go_wp2
    go_ret2
    exact ⟨rfl, bt HB.out ⟨rfl, rfl, rfl, Nat.le_refl _, fun _ _ => rfl⟩⟩
set_option maxRecDepth 1000000 in
theorem harmed_any {w : World} {db room : Nat} {used : Int} {F : Nat → Prop} {σ : Ds} {m : List Nat} {rv : Nat → Value} {st sf : Option Nat} {pv : Value} (S : StAt w db room used st sf pv) (R : Rest w F σ m rv st sf pv) (hF : ∀ b, F b → b < w.heap.size) (x : Tx) (hx : x.length ≤ 9223372036854775807) (a : Int) :
    Calls Try.prog 70 #[.pointer (some ⟨db, 0, none⟩), encStr x, .int .i64 a] w fun e w' => e = .returned (fndv m (σ.harm x a)) ∧ Below w.heap.size w w' := by
  have al := (Below.refl _ w).alloc (Nat.le_refl _) (.cells #[encStr x] 9)
  have hfl := (show Hid _ from fault_any ⟨db, 0, none⟩ w.heap.size 1 [x] _ (by simp) (by simpa using hx) (one_cell w x 9))
  have hfe : flt [x] = if isN x then 0 else 91 := by simp [flt]
  have hfi := (show Hid _ from find_any (S.below al) (R.below al) (fun b hb => Nat.lt_of_lt_of_le (hF b hb) al.size) x hx)
  have AL := (show Hid _ from al)
  rw [hfe] at hfl
  unfold Ds.harm
  by_cases hN : isN x = true
  · rw [if_pos hN] at hfl ⊢
    by_cases ha : a < 0
    · have hda : decide (a < 0) = true := by simpa using ha
      rw [if_pos ha]
      clear S R hF hfi
      unfold fndv
      go_enter Try.func70, Try.ntmps70
      go_wp2_with (go_at_call 42; refine hfl.out.mono ?_; rintro e w1 ⟨rfl, rfl⟩)
      go_ret2
      exact ⟨rfl, AL.out⟩
    · have hda : decide (a < 0) = false := by simpa using ha
      rw [if_neg ha]
      clear S R hF
      cases hf : σ.find x with
      | inl e9 =>
        rw [hf] at hfi
        unfold fndv at hfi ⊢
        go_enter Try.func70, Try.ntmps70
        go_wp2_with (first
          | (go_at_call 42; refine hfl.out.mono ?_; rintro e w1 ⟨rfl, rfl⟩)
          | (go_at_call 45; refine hfi.out.mono ?_; rintro e w2 ⟨rfl, hb⟩))
        go_ret2
        exact ⟨rfl, bt AL.out hb⟩
      | inr i =>
        rw [hf] at hfi
        unfold fndv ptv pta at hfi ⊢
        simp only at hfi
        go_enter Try.func70, Try.ntmps70
        go_wp2_with (first
          | (go_at_call 42; refine hfl.out.mono ?_; rintro e w1 ⟨rfl, rfl⟩)
          | (go_at_call 45; refine hfi.out.mono ?_; rintro e w2 ⟨rfl, hb⟩))
        go_ret2
        exact ⟨rfl, bt AL.out hb⟩
  · rw [if_neg hN] at hfl ⊢
    clear S R hF hfi
    unfold fndv
    go_enter Try.func70, Try.ntmps70
    go_wp2_with (go_at_call 42; refine hfl.out.mono ?_; rintro e w1 ⟨rfl, rfl⟩)
    go_ret2
    exact ⟨rfl, AL.out⟩
end
end Go.Proofs.Ytaddgmbglhdfdaa
