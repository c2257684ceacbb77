/-
  The drive's small functions: isName, fault, find, size, leadTo.
-/
import Derived.Test.YtaddgmbglhdfdaaDa
import Derived.Test.YtaddgmbglhdfdaaSf
namespace Go.Proofs.Ytaddgmbglhdfdaa
open Go.RowKit Go.Maps
/-- Two worlds are one. -/
def Sm (a b : World) : Prop := a = b
theorem two_fin {w : World} {g : Nat} {u0 u1 : Value} {t : TypeId} (hg : w.heap[g]? = some (.cells #[u0, u1] t (0, 0))) (x y : Value) : ((w.setCell ⟨g, 0, none⟩ x).setCell ⟨g, 1, none⟩ y).heap[g]? = some (.cells #[x, y] t (0, 0)) ∧ w.grownBy ((w.setCell ⟨g, 0, none⟩ x).setCell ⟨g, 1, none⟩ y) (some g) := by
  refine ⟨?_, ⟨rfl, rfl, rfl, by simp [World.setCell], fun k hk hne => ?_⟩⟩
  · rw [heap_setCell_same _ g 1 _ _ _ (heap_setCell_same w g 0 _ _ _ hg)]; rfl
  · have : k ≠ g := fun e => hne (by rw [e])
    rw [Below.heap_setCell _ _ _ _ this, Below.heap_setCell _ _ _ _ this]
theorem zeroP (w : World) : (zeroValue 94).run Try.prog w = .ok (.pointer none) w := Try.zeroValue94 w
/-- m[name], of a directory in memory. -/
theorem look_dir {w : World} {m : List Nat} {s : Nat} {D : Dir} (h : MpAt w m s D) {x : Tx} (hx : x.length ≤ maxLen) : (Instr.lookup 86 (.map (some s)) (encStr x) false).run Try.prog w = .ok (ptv m (lk D x)) w ∧ ∀ i, lk D x = some i → i < m.length := by
  obtain ⟨v, ps, hrun, hv⟩ := h.lookup lawS Try.underlying86 (zeroP w) (show ptR m (.pointer none) = some (.nil, []) from rfl) (key_enc hx)
  obtain ⟨rfl, h2⟩ := ptR_inv hv
  exact ⟨hrun, h2⟩
theorem look_nil (w : World) {x : Tx} (hx : x.length ≤ maxLen) : (Instr.lookup 86 (.map none) (encStr x) false).run Try.prog w = .ok (.pointer none) w := by
  have := Maps.look_nil (w := w) (P := Try.prog) false lawS Try.underlying86 (zeroP w) (key_enc hx)
  simpa using this
/-- m[name], of what stands. -/
theorem Rest.look {w : World} {F : Nat → Prop} {σ : Ds} {m : List Nat} {rv : Nat → Value} {st sf : Option Nat} {pv : Value} (h : Rest w F σ m rv st sf pv) {x : Tx} (hx : x.length ≤ maxLen) : (Instr.lookup 86 (.map st) (encStr x) false).run Try.prog w = .ok (ptv m (lk σ.st x)) w ∧ ∀ i, lk σ.st x = some i → i < σ.bs.length := by
  rcases h.dirs with ⟨rfl, rfl, e1, _⟩ | ⟨s, f, rfl, rfl, _, _, _, h1, _⟩
  · rw [e1, lk_none]
    exact ⟨look_nil w hx, fun i hi => by cases hi⟩
  · have := look_dir h1 hx
    rw [h.len] at this
    exact this
theorem StAt.cell {w : World} {db room : Nat} {used : Int} {st sf : Option Nat} {pv : Value} (h : StAt w db room used st sf pv) : w.cell? ⟨db, 0, none⟩ = some (.int .i64 (room : Int)) ∧ w.cell? ⟨db, 1, none⟩ = some (.int .i64 used) ∧ w.cell? ⟨db, 2, none⟩ = some (.map st) ∧ w.cell? ⟨db, 3, none⟩ = some (.map sf) ∧ w.cell? ⟨db, 4, none⟩ = some pv := by
  unfold StAt at h
  refine ⟨?_, ?_, ?_, ?_, ?_⟩ <;> rw [cell_of_row w db _ _ _ _ h] <;> rfl
theorem StAt.frozen {w : World} {db room : Nat} {used : Int} {st sf : Option Nat} {pv : Value} (h : StAt w db room used st sf pv) (i : Nat) : w.frozen? ⟨db, i, none⟩ = false := frozen_of_row w db i _ _ h
section
attribute [local irreducible] Calls
set_option maxRecDepth 1000000 in
theorem isName_any (x : Tx) (hx : x.length ≤ 9223372036854775807) (w : World) : Calls Try.prog 66 #[encStr x] w fun e w' => e = .returned (.bool (isN x)) ∧ w' = w := by
  have hs := enc_size x
  unfold isN
  by_cases h1 : 1 ≤ x.length
  · have g1 : (1 : Int) ≤ (x.length : Int) := by omega
    have d1 : decide ((1 : Int) ≤ (x.length : Int)) = true := by simp; omega
    go_enter Try.func66, Try.ntmps66
    go_wp2
    go_ret
    simp [h1]
    omega
  · have g1 : ¬ (1 : Int) ≤ (x.length : Int) := by omega
    have d1 : decide ((1 : Int) ≤ (x.length : Int)) = false := by simp; omega
    go_enter Try.func66, Try.ntmps66
    go_wp2
    go_ret
    simp
set_option maxRecDepth 1000000 in
theorem fault_nil (v : Value) (w : World) : Calls Try.prog 42 #[.pointer none, v] w fun e w' => e = .returned (.int .i64 1) ∧ w' = w := by
  go_enter Try.func42, Try.ntmps42
  go_wp2
  go_ret
  exact ⟨rfl, rfl⟩
/-- The error of these names. -/
def flt (xs : List Tx) : Int := if xs.all isN then 0 else 91
set_option maxRecDepth 1000000 in
theorem fault_any (a : Addr) (b c : Nat) (xs : List Tx) (w : World) (hn : xs.length ≤ 1000) (hm : ∀ x ∈ xs, x.length ≤ 9223372036854775807) (hc : Hid (∀ i, i < xs.length → w.cell? ⟨b, i, none⟩ = some (encStr (xs.getD i [])))) :
    Calls Try.prog 42 #[.pointer (some a), .slice (some ⟨b, 0, none⟩) xs.length c] w fun e w' => e = .returned (.int .i64 (flt xs)) ∧ w' = w := by
  obtain ⟨n, hN⟩ : ∃ n, n = xs.length := ⟨_, rfl⟩
  rw [← hN]
  rw [← hN] at hn
  have HN := (show Hid (n = xs.length) from hN)
  clear hN
  go_enter Try.func42, Try.ntmps42
  go_wp2
  go_loopw [11] (fun i wr => ∃ k : Nat, k ≤ n ∧ i = .int .i64 k ∧ Hid ((xs.take k).all isN = true) ∧ Sm wr w) (fun i _ => n - (intOf i).toNat)
  case atStart => exact ⟨0, Nat.zero_le _, rfl, by show _ = true; simp, rfl⟩
  case round =>
    obtain ⟨k, hk, rfl, hA, hW⟩ := hrel
    unfold Sm at hW
    subst hW
    by_cases hlt : k < n
    · have hi : (k : Int) < (n : Int) := by omega
      have hkx : k < xs.length := by rw [← HN.out]; exact hlt
      obtain ⟨x, hx⟩ : ∃ x, x = xs.getD k [] := ⟨_, rfl⟩
      have g1 := hc.out k hkx
      rw [← hx] at g1
      have hmx : x ∈ xs := by rw [hx]; simp [hkx]
      have hI := isName_any x (hm x hmx) wr
      have hsn := (show Hid (xs.take (k + 1) = xs.take k ++ [x]) from by
        show _ = _
        rw [List.take_add_one, hx]; simp [hkx])
      clear hx hkx
      by_cases hN : isN x = true
      · rw [hN] at hI
        go_wp2_with (go_at_call 66; refine hI.mono ?_; rintro e w1 ⟨rfl, rfl⟩)
        go_roundw
        case rel => exact ⟨k + 1, by omega, by go_num, (by show _ = true; rw [hsn.out, List.all_append, hA.out]; simp [hN]), rfl⟩
        case measure => simp [intOf]; omega
      · rw [show isN x = false by simpa using hN] at hI
        go_wp2_with (go_at_call 66; refine hI.mono ?_; rintro e w1 ⟨rfl, rfl⟩)
        go_ret
        refine ⟨?_, rfl⟩
        rw [flt, if_neg (by
          intro h
          rw [List.all_eq_true] at h
          exact hN (h x hmx))]
        rfl
    · obtain rfl : k = n := by omega
      have hi : ¬ (k : Int) < (k : Int) := by omega
      go_wp2
      go_ret
      refine ⟨?_, rfl⟩
      have := hA.out
      rw [HN.out, List.take_length] at this
      rw [flt, if_pos this]
      rfl
set_option maxRecDepth 1000000 in
theorem size_none (w : World) : Calls Try.prog 69 #[.pointer none] w fun e w' => e = .returned (.int .i64 0) ∧ w' = w := by
  go_enter Try.func69, Try.ntmps69
  go_wp2
  go_ret
  exact ⟨rfl, rfl⟩
set_option maxRecDepth 1000000 in
theorem size_some (b n c : Nat) (p : Option Addr) (w : World) (hc : w.cell? ⟨b, 0, none⟩ = some (.slice p n c)) : Calls Try.prog 69 #[.pointer (some ⟨b, 0, none⟩)] w fun e w' => e = .returned (.int .i64 n) ∧ w' = w := by
  go_enter Try.func69, Try.ntmps69
  go_wp2
  go_ret
  exact ⟨rfl, rfl⟩
set_option maxRecDepth 1000000 in
theorem clone_any (x : Tx) (hx : x.length ≤ 281474976710656) (w : World) : Calls Try.prog 68 #[encStr x] w fun e w' => e = .returned (encStr x) ∧ Below w.heap.size w w' := by
  have hC := Try.stringslite_Clone ⟨x.toArray⟩ w (by rw [enc_size]; exact hx)
  go_enter Try.func68, Try.ntmps68
  go_wp2_with (go_at_call 74; refine hC.mono ?_; rintro e w1 ⟨rfl, hb⟩)
  go_ret
  exact ⟨rfl, hb⟩
set_option maxRecDepth 1000000 in
theorem leadTo_any (x : Tx) (hx : x.length ≤ 281474976710656) (p : Option Addr) (w : World) : Calls Try.prog 44 #[encStr x, .pointer p] w fun e w' => e = .returned (.agg #[encStr x, .pointer p]) ∧ Below w.heap.size w w' := by
  have hC := (show Hid _ from fun w => clone_any x hx w)
  go_enter Try.func44, Try.ntmps44
  go_wp2_with (go_at_call 68; refine (hC.out _).mono ?_; rintro e w1 ⟨rfl, hb⟩; have hg : w1.heap[w.heap.size]? = some (.cells #[.string ⟨#[]⟩, .pointer none] 97 (0, 0)) := (hb.block w.heap.size (by simp)).trans (heap_alloc_new w _); have hb1 := bt ((Below.refl _ w).alloc (Nat.le_refl _) _) hb; have k0 := cell_of_row w1 w.heap.size 0 _ _ (0, 0) hg; have k1 := cell_of_row w1 w.heap.size 1 _ _ (0, 0) hg; have z0 := frozen_of_row w1 w.heap.size 0 _ _ hg; have z1 := frozen_of_row w1 w.heap.size 1 _ _ hg)
  have hfin := two_fin hg (encStr x) (.pointer p)
  refine bodyPost_ret (v := .agg #[encStr x, .pointer p]) (results_cell_row rfl _ _ w.heap.size 97 _ (0, 0) _ rfl hfin.1 Try.underlying97 rfl (by kernel_rfl)) rfl ?_
  exact ⟨rfl, hb1.grown hfin.2 hb1.size (fun k hk => by cases hk; exact Nat.le_refl _)⟩
end
end Go.Proofs.Ytaddgmbglhdfdaa
