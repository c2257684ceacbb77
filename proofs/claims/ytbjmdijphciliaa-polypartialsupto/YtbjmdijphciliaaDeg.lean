/-
  'Degree', 'cut', 'Trim'.
-/
import Derived.Test.YtbjmdijphciliaaMult
import Derived.Test.YtbjmdijphciliaaPe
import Derived.Laws.CopyOwn
namespace Go.Proofs.Ytbjmdijphciliaa
open Go.RowKit

/-- One step behind the other. -/
theorem bt {w w1 w2 : World} (h1 : Below w.heap.size w w1) (h2 : Below w1.heap.size w1 w2) : Below w.heap.size w w2 := h1.trans (h2.mono h1.size)
theorem el_0 : el 0#8 = 0 := by decide
/-- New memory, from the block B on, that reads as this list. -/
def Rs (t : TypeId) (B : Nat) (w : World) (v : Value) (xs : List (BitVec 8)) : Prop := w.ownsRow B t 1 v xs.length (vs (co xs) xs.length)
/-- A slice that reads as this list. -/
def Sl (w : World) (v : Value) (xs : List (BitVec 8)) : Prop := ∃ p cap, v = .slice p xs.length cap ∧ xs.length ≤ cap ∧ cap ≤ 9223372036854775807 ∧ Rd w p xs ∧ (p = none ∨ ∃ b o, p = some ⟨b, o, none⟩)
theorem ls_co (xs : List (BitVec 8)) : ls (co xs) xs.length = xs := ls_self xs
theorem Rs.sl {t : TypeId} {B : Nat} {w : World} {v : Value} {xs : List (BitVec 8)} (h : Rs t B w v xs) : Sl w v xs := by
  obtain ⟨p, cap, e, hc, hr⟩ := rd_owns h
  rw [ls_co] at hr
  rcases h.2 with ⟨hv, h0⟩ | ⟨g, cap', c, hv, hg, hh, hcap, hm, hs, ht⟩
  · rw [hv] at e; injection e with e1 e2 e3
    exact ⟨p, cap, by rw [hv, e1, ← e2, e3], hc, by omega, hr, .inl e1.symm⟩
  · rw [hv] at e; injection e with e1 e2 e3
    exact ⟨p, cap, by rw [hv, e1, e3], hc, by rw [← e3]; unfold maxLen at hm; omega, hr, .inr ⟨g, 0, e1.symm⟩⟩
theorem owns_below {B : Nat} {e : TypeId} {k : Nat} {v : Value} {n : Nat} {xs : List Value} {w w' : World} (h : w.ownsRow B e k v n xs) (hb : Below w.heap.size w w') : w'.ownsRow B e k v n xs := by
  refine ⟨h.1, ?_⟩
  rcases h.2 with h1 | ⟨g, cap, cur, hv, hg, hh, hr⟩
  · exact .inl h1
  · exact .inr ⟨g, cap, cur, hv, hg, by rw [hb.block g (lt_of_block hh)]; exact hh, hr⟩
theorem Rs.below {t : TypeId} {B : Nat} {w w' : World} {v : Value} {xs : List (BitVec 8)} (h : Rs t B w v xs) (hb : Below w.heap.size w w') : Rs t B w' v xs := owns_below h hb
theorem Rs.mono {t : TypeId} {B B' : Nat} {w : World} {v : Value} {xs : List (BitVec 8)} (h : Rs t B w v xs) (hb : B' ≤ B) : Rs t B' w v xs := by
  refine ⟨h.1, ?_⟩
  rcases h.2 with h1 | ⟨g, cap, cur, hv, hg, hr⟩
  · exact .inl h1
  · exact .inr ⟨g, cap, cur, hv, Nat.le_trans hb hg, hr⟩
theorem Sl.below {w w' : World} {v : Value} {xs : List (BitVec 8)} (h : Sl w v xs) (hb : Below w.heap.size w w') : Sl w' v xs := by
  obtain ⟨p, cap, e, hc, hm, hr, hp⟩ := h
  exact ⟨p, cap, e, hc, hm, hr.below hb, hp⟩
/-- A slice that reads as this list, wherever an empty one points to. -/
def Sr (w : World) (v : Value) (xs : List (BitVec 8)) : Prop := ∃ p cap, v = .slice p xs.length cap ∧ Rd w p xs
theorem Sl.sr {w : World} {v : Value} {xs : List (BitVec 8)} (h : Sl w v xs) : Sr w v xs := by
  obtain ⟨p, cap, e, _, _, hr, _⟩ := h
  exact ⟨p, cap, e, hr⟩
theorem Rs.sr {t : TypeId} {B : Nat} {w : World} {v : Value} {xs : List (BitVec 8)} (h : Rs t B w v xs) : Sr w v xs := h.sl.sr
theorem Sr.below {w w' : World} {v : Value} {xs : List (BitVec 8)} (h : Sr w v xs) (hb : Below w.heap.size w w') : Sr w' v xs := by
  obtain ⟨p, cap, e, hr⟩ := h
  exact ⟨p, cap, e, hr.below hb⟩
theorem Sr.cells {w : World} {v : Value} {xs : List (BitVec 8)} (h : Sr w v xs) (h0 : xs ≠ []) : ∃ b o c, v = .slice (some ⟨b, o, none⟩) xs.length c ∧ b < w.heap.size ∧ ∀ i, i < xs.length → w.cell? ⟨b, o + i, none⟩ = some (.int .u8 (el (co xs i))) := by
  obtain ⟨p, c, rfl, hr⟩ := h
  rcases hr with h | ⟨b, o, rfl, hcell⟩
  · exact absurd h h0
  · exact ⟨b, o, c, rfl, block_lt_of_cell (hcell 0 (List.length_pos_iff.2 h0)), hcell⟩
theorem Sr.of_cells {w : World} {b o n c : Nat} {xs : List (BitVec 8)} (hl : xs.length = n) (h : ∀ i, i < n → w.cell? ⟨b, o + i, none⟩ = some (.int .u8 (el (co xs i)))) : Sr w (.slice (some ⟨b, o, none⟩) n c) xs := by
  subst hl
  exact ⟨_, c, rfl, .inr ⟨b, o, rfl, h⟩⟩
theorem Sr.empty {w : World} {v : Value} (h : Sr w v []) : ∃ p c, v = .slice p 0 c := by
  obtain ⟨p, c, rfl, _⟩ := h
  exact ⟨p, c, rfl⟩
theorem Rs.nil (t : TypeId) (B : Nat) (w : World) : Rs t B w (.slice none 0 0) [] := World.ownsRow_nil _ _ _ _
theorem rowC_toList (f : Nat → BitVec 8) (n : Nat) : (rowC f n).toList = vs f n := by unfold rowC vs; simp
theorem vs_take (f : Nat → BitVec 8) (n k : Nat) (h : k ≤ n) : (vs f n).take k = vs f k := by
  apply List.ext_getElem?
  intro i
  by_cases hi : i < k
  · rw [List.getElem?_take_of_lt hi, vs_at f n i (by omega), vs_at f k i hi]
  · rw [List.getElem?_eq_none (by rw [List.length_take, vs_len]; omega), List.getElem?_eq_none (by rw [vs_len]; omega)]
/-- A row of the call's own, cut. -/
theorem Own.rs {w : World} {t : TypeId} {B g n : Nat} {f : Nat → BitVec 8} {xs : List (BitVec 8)} (h : Own w t g f n) (hg : B ≤ g) (hn : n ≤ 281474976710656) (hl : xs.length ≤ n) (e : ∀ i, i < xs.length → f i = co xs i) : Rs t B w (.slice (some ⟨g, 0, none⟩) xs.length n) xs := by
  refine ⟨by rw [vs_len, Nat.mul_one], .inr ⟨g, n, _, rfl, hg, h, hl, by unfold maxLen; omega, by rw [rowC_size, Nat.mul_one], ?_⟩⟩
  rw [rowC_toList, Nat.mul_one, vs_take _ _ _ hl]; exact vs_congr e
theorem ls_trim_len (xs : List (BitVec 8)) {n : Nat} (h : xs.length = n) : (trim xs).length ≤ n := by rw [← h]; exact trim_len xs

section
attribute [local irreducible] Calls el gm trim co
set_option maxRecDepth 1000000 in
theorem degree_core (b o n c : Nat) (xs : List (BitVec 8)) (w : World) (hl : Hid (xs.length = n)) (hn : n ≤ 281474976710656)
    (H1 : Hid (∀ i, i < n → w.cell? ⟨b, o + i, none⟩ = some (.int .u8 (el (co xs i))))) :
    Calls Try.prog 14 #[.slice (some ⟨b, o, none⟩) n c] w fun e w' => e = .returned (.int .i64 (((trim xs).length : Int) - 1)) ∧ w' = w := by
  go_enter Try.func14, Try.ntmps14
  go_wp2
  go_loop [7] (fun i => ∃ k : Nat, k ≤ n ∧ i = .int .i64 k ∧ Hid (∀ j, n - k ≤ j → co xs j = 0#8)) (fun i => n - (intOf i).toNat)
  case atStart => exact ⟨0, Nat.zero_le _, rfl, fun j hj => co_ge (by rw [hl.out]; omega)⟩
  case round =>
    obtain ⟨k, hk, rfl, H⟩ := hrel
    by_cases hlt : k < n
    · obtain ⟨m, hm⟩ : ∃ m, n = m + k + 1 := ⟨n - k - 1, by omega⟩
      have g1 : w.cell? ⟨b, o + (n - 1 - k), none⟩ = some (.int .u8 (el (co xs m))) := by rw [show n - 1 - k = m by omega]; exact H1.out m (by omega)
      have i2 : (k : Int) < (n : Int) := by omega
      have HM : Hid (n = m + k + 1) := hm
      clear hm
      by_cases hz : co xs m = 0#8
      · have h0 : (co xs m == 0#8) = true := by simpa using hz
        go_wp2_with (go_at_call 27; refine (isZero_any _ _).mono ?_; rintro e w' ⟨rfl, h⟩; obtain rfl := h.symm)
        go_round
        case rel => exact ⟨k + 1, by omega, by go_num, fun j hj => by
          by_cases e : j = m
          · rw [e]; exact hz
          · exact H.out j (by have := HM.out; omega)⟩
        case measure => simp [intOf]; omega
      · have h0 : (co xs m == 0#8) = false := by simpa using hz
        have HT : Hid (((trim xs).length : Int) - 1 = (n : Int) - 1 - (k : Int)) := by
          show _ = _
          rw [trim_len_of hz (fun j hj => H.out j (by have := HM.out; omega))]; have := HM.out; omega
        go_wp2_with (go_at_call 27; refine (isZero_any _ _).mono ?_; rintro e w' ⟨rfl, h⟩; obtain rfl := h.symm)
        go_ret
        exact ⟨by rw [HT.out]; rfl, rfl⟩
    · have HT : Hid (((trim xs).length : Int) - 1 = -1) := by
        show _ = _
        rw [trim_nil_of (fun j => H.out j (by omega))]; rfl
      go_wp2
      go_ret
      exact ⟨by rw [HT.out]; rfl, rfl⟩
set_option maxRecDepth 1000000 in
theorem degree_nil (a : Option Addr) (c : Nat) (w : World) :
    Calls Try.prog 14 #[.slice a 0 c] w fun e w' => e = .returned (.int .i64 (-1)) ∧ w' = w := by
  go_enter Try.func14, Try.ntmps14
  go_wp2
  refine wp_loop_rounds 1 ?_
  rw [rounds_succ]
  go_wp2
  go_ret
  exact ⟨rfl, rfl⟩
end
theorem degree_any {w : World} {p : Option Addr} {xs : List (BitVec 8)} (h : Rd w p xs) (n c : Nat) (hl : xs.length = n) (hn : n ≤ 281474976710656) :
    Calls Try.prog 14 #[.slice p n c] w fun e w' => e = .returned (.int .i64 (((trim xs).length : Int) - 1)) ∧ w' = w := by
  rcases h with h | ⟨b, o, rfl, hc⟩
  · subst h; subst hl; exact degree_nil p c w
  · exact degree_core b o n c xs w hl hn (by rw [hl] at hc; exact hc)
section
attribute [local irreducible] Calls el gm trim co
set_option maxRecDepth 1000000 in
theorem cut_some (b o n c : Nat) (xs : List (BitVec 8)) (w : World) (h : Rd w (some ⟨b, o, none⟩) xs) (hl : Hid (xs.length = n)) (hn : n ≤ 281474976710656) (hnc : n ≤ c) (hc : c ≤ 9223372036854775807) :
    Calls Try.prog 31 #[.slice (some ⟨b, o, none⟩) n c] w fun e w' => e = .returned (.slice (some ⟨b, o, none⟩) (trim xs).length c) ∧ w' = w := by
  obtain ⟨k, hk⟩ : ∃ k, k = (trim xs).length := ⟨_, rfl⟩
  have hkn : k ≤ n := by rw [hk, ← hl.out]; exact trim_len xs
  have hd := degree_any h n c hl.out hn
  rw [← hk] at hd ⊢
  clear hk
  have i1 : (k : Int) - 1 + 1 = (k : Int) := by omega
  have i2 : wrap64 ((k : Int) - 1 + 1) = (k : Int) := by unfold wrap64; omega
  have i3 : (k : Int) ≤ (c : Int) := by omega
  go_enter Try.func31, Try.ntmps31
  go_wp2_with (go_at_call 14; refine hd.mono ?_; rintro e w' ⟨rfl, h⟩; obtain rfl := h.symm)
  go_ret
  exact ⟨rfl, rfl⟩
set_option maxRecDepth 1000000 in
theorem cut_none (c : Nat) (w : World) :
    Calls Try.prog 31 #[.slice none 0 c] w fun e w' => e = .returned (.slice none 0 c) ∧ w' = w := by
  go_enter Try.func31, Try.ntmps31
  go_wp2_with (go_at_call 14; refine (degree_nil none c w).mono ?_; rintro e w' ⟨rfl, h⟩; obtain rfl := h.symm)
  go_ret
  exact ⟨rfl, rfl⟩
end
theorem Rd.take {w : World} {p : Option Addr} {xs : List (BitVec 8)} (h : Rd w p xs) (k : Nat) : Rd w p (xs.take k) := by
  rcases h with h | ⟨b, o, e, hc⟩
  · subst h; left; simp
  · refine .inr ⟨b, o, e, fun i hi => ?_⟩
    rw [List.length_take] at hi
    rw [hc i (by omega)]
    simp only [List.getD_eq_getElem?_getD]
    rw [List.getElem?_take_of_lt (by omega)]
theorem cut_any {w : World} {v : Value} {xs : List (BitVec 8)} (h : Sl w v xs) (hn : xs.length ≤ 281474976710656) :
    Calls Try.prog 31 #[v] w fun e w' => ∃ v', e = .returned v' ∧ Sl w v' (trim xs) ∧ w' = w := by
  obtain ⟨p, cap, rfl, hc, hm, hr, hp⟩ := h
  rcases hp with rfl | ⟨b, o, rfl⟩
  · have hx : xs = [] := by
      rcases hr with h | ⟨b, o, h, _⟩
      · exact h
      · cases h
    subst hx
    exact (cut_none cap w).mono fun e w' ⟨he, hw⟩ => ⟨_, he, ⟨none, cap, rfl, hc, hm, .inl rfl, .inl rfl⟩, hw⟩
  · refine (cut_some b o _ cap xs w hr rfl hn hc hm).mono fun e w' ⟨he, hw⟩ => ⟨_, he, ⟨_, cap, rfl, Nat.le_trans (trim_len xs) hc, hm, ?_, .inr ⟨b, o, rfl⟩⟩, hw⟩
    rw [trim_take]; exact hr.take _

theorem infoE : (Try.prog.info? 48).map (fun i => (i.zero, i.size, i.bytes)) = some (some (.int .u8 0), 1, 1) := by kernel_rfl
theorem make_el (n : Nat) (hn : n ≤ 281474976710656) (w : World) : (Instr.makeSlice 25 (.int .i64 (n : Int)) (.int .i64 (n : Int))).run Try.prog w = .ok (.slice (some ⟨w.heap.size, 0, none⟩) n n) (w.alloc (.cells (Array.replicate n (.int .u8 0)) 48)) := by
  obtain ⟨i0, hi, hz0, hz1, hz2⟩ := info_parts infoE
  have h := run_make (P := Try.prog) w 25 48 i0 (.int .u8 0) Try.underlying25 hi hz0 .i64 .i64 (n : Int) (n : Int) (by omega) (by omega) (by rw [hz2]; omega) (by omega)
  rw [h, hz1]
  have e : madeCells (Value.int .u8 0).cells ((n : Int).toNat * 1) = Array.replicate n (.int .u8 0) := by
    apply Array.ext_getElem?
    intro i
    simp only [madeCells, Int.toNat_natCast, Nat.mul_one]
    by_cases hin : i < n
    · simp [hin, Value.cells]
      rw [Nat.mod_one]; rfl
    · rw [Array.getElem?_eq_none (by simp; omega), Array.getElem?_eq_none (by simp; omega)]
  rw [e, Int.toNat_natCast]
theorem own_newE (w : World) (n : Nat) : Own (w.alloc (.cells (Array.replicate n (.int .u8 0)) 48)) 48 w.heap.size (fun _ => 0#8) n := by
  unfold Own; rw [heap_alloc_new, rowC_zero]
theorem Rd.vals {w : World} {p : Option Addr} {xs : List (BitVec 8)} (h : Rd w p xs) {k : Nat} (hk : k ≤ xs.length) (h0 : 0 < (vs (co xs) k).length) : ∃ ad, p = some ad ∧ ∀ j v, (vs (co xs) k)[j]? = some v → w.cell? (ad.add j) = some v := by
  rw [vs_len] at h0
  rcases h with h | ⟨b, o, e, hc⟩
  · subst h; simp at hk; omega
  · exact ⟨_, e, vs_src (fun i hi => hc i (by omega))⟩
theorem sizeE : (Try.prog.info? 48).map (·.size) = some 1 := by kernel_rfl
section
attribute [local irreducible] Calls el gm trim co vs
set_option maxRecDepth 1000000 in
theorem trim_core (p : Option Addr) (n c : Nat) (xs : List (BitVec 8)) (w : World) (h : Rd w p xs) (hl : Hid (xs.length = n)) (hn : n ≤ 281474976710656) :
    Calls Try.prog 23 #[.slice p n c] w fun e w' => e = .returned (.slice (some ⟨w.heap.size, 0, none⟩) (trim xs).length (trim xs).length) ∧ Own w' 48 w.heap.size (co xs) (trim xs).length ∧ Below w.heap.size w w' := by
  obtain ⟨k, hk⟩ : ∃ k, k = (trim xs).length := ⟨_, rfl⟩
  have hkn : k ≤ n := by rw [hk, ← hl.out]; exact trim_len xs
  have hd := degree_any h n c hl.out hn
  rw [← hk] at hd ⊢
  clear hk
  have i1 : (k : Int) - 1 + 1 = (k : Int) := by omega
  have i2 : wrap64 ((k : Int) - 1 + 1) = (k : Int) := by unfold wrap64; omega
  have hmk := make_el k (by omega)
  have HV : Hid (0 < (vs (co xs) k).length → ∃ ad, p = some ad ∧ ∀ j v, (vs (co xs) k)[j]? = some v → (w.alloc (.cells (Array.replicate k (.int .u8 0)) 48)).cell? (ad.add j) = some v) := fun h0 => (h.below ((Below.refl _ _).alloc (Nat.le_refl _) _)).vals (by rw [hl.out]; exact hkn) h0
  have HO : Hid ((w.alloc (.cells (Array.replicate k (.int .u8 0)) 48)).heap[w.heap.size]? = some (.cells (vs (fun _ => 0#8) k).toArray 48 (0, 0))) := by
    show _ = _
    have := own_newE w k
    unfold Own at this
    rw [this, ← rowC_toList]
  have HL : Hid ((vs (co xs) k).length = Nat.min n k) := by show _ = _; rw [vs_len]; exact (Nat.min_eq_right hkn).symm
  have HF : Hid (0 + (vs (co xs) k).length ≤ (vs (fun _ => 0#8) k).length) := by show _ ≤ _; rw [vs_len, vs_len]; omega
  have HE : Hid ((splice (vs (fun _ => 0#8) k) 0 (vs (co xs) k)).toArray = rowC (co xs) k) := by
    show _ = _
    unfold splice
    rw [List.take_zero, List.nil_append, Nat.zero_add, List.drop_of_length_le (by rw [vs_len, vs_len]; omega), List.append_nil, ← rowC_toList]
  have HB : Below w.heap.size w (w.alloc (.cells (Array.replicate k (.int .u8 0)) 48)) := (Below.refl _ _).alloc (Nat.le_refl _) _
  go_enter Try.func23, Try.ntmps23
  go_wp2_with (first | (go_at_call 14; refine hd.mono ?_; rintro e w' ⟨rfl, h⟩; obtain rfl := h.symm) | (refine wpList_copy_splice rfl (.tmp 8) (.tmp 9) 25 25 rfl 48 Try.underlying25 sizeE _ _ _ _ _ _ rfl rfl w.heap.size 0 (vs (fun _ => 0#8) k) 48 HO.out (vs (co xs) k) HL.out (fun h0 => ⟨rfl, HV.out h0⟩) HF.out (vs_one _ _) w.heap.size w HB (Nat.le_refl _) ?_; intro w2 hw2 hb2))
  go_ret
  exact ⟨rfl, by unfold Own; rw [hw2.out, HE.out], hb2⟩
end
end Go.Proofs.Ytbjmdijphciliaa
