/-
  The drive's small functions: isName, fault, find, size, leadTo.
-/
import Derived.Test.YtjobaeopokfekaaGreatDa
import Derived.Test.YtjobaeopokfekaaGreatSf
namespace Go.Proofs.YtjobaeopokfekaaGreat
open Go.RowKit Go.Maps
/-- Two worlds are one. -/
def Sm (a b : World) : Prop := a = b
theorem two_fin {w : World} {g : Nat} {u0 u1 : Value} {t : TypeId} (hg : w.heap[g]? = some (.cells #[u0, u1] t (0, 0))) (x y : Value) : ((w.setCell ⟨g, 0, none⟩ x).setCell ⟨g, 1, none⟩ y).heap[g]? = some (.cells #[x, y] t (0, 0)) ∧ w.grownBy ((w.setCell ⟨g, 0, none⟩ x).setCell ⟨g, 1, none⟩ y) (some g) := by
  refine ⟨?_, ⟨rfl, rfl, rfl, by simp [World.setCell], fun k hk hne => ?_⟩⟩
  · rw [heap_setCell_same _ g 1 _ _ _ (heap_setCell_same w g 0 _ _ _ hg)]; rfl
  · have : k ≠ g := fun e => hne (by rw [e])
    rw [Below.heap_setCell _ _ _ _ this, Below.heap_setCell _ _ _ _ this]
theorem zeroP (w : World) : (zeroValue 88).run Tryz.prog w = .ok (.pointer none) w := Tryz.zeroValue88 w
/-- m[name], of a directory in memory. -/
theorem look_dir {w : World} {m : List Nat} {s : Nat} {D : Dir} (h : MpAt w m s D) {x : Tx} (hx : x.length ≤ maxLen) : (Instr.lookup 83 (.map (some s)) (encStr x) false).run Tryz.prog w = .ok (ptv m (lk D x)) w ∧ ∀ i, lk D x = some i → i < m.length := by
  obtain ⟨v, ps, hrun, hv⟩ := h.lookup lawS Tryz.underlying83 (zeroP w) (show ptR m (.pointer none) = some (.nil, []) from rfl) (key_enc hx)
  obtain ⟨rfl, h2⟩ := ptR_inv hv
  exact ⟨hrun, h2⟩
theorem look_nil (w : World) {x : Tx} (hx : x.length ≤ maxLen) : (Instr.lookup 83 (.map none) (encStr x) false).run Tryz.prog w = .ok (.pointer none) w := by
  have := Maps.look_nil (w := w) (P := Tryz.prog) false lawS Tryz.underlying83 (zeroP w) (key_enc hx)
  simpa using this
/-- m[name], of what stands. -/
theorem Rest.look {w : World} {F : Nat → Prop} {σ : Ds} {m : List Nat} {rv : Nat → Value} {st sf : Option Nat} {pv : Value} (h : Rest w F σ m rv st sf pv) {x : Tx} (hx : x.length ≤ maxLen) : (Instr.lookup 83 (.map st) (encStr x) false).run Tryz.prog w = .ok (ptv m (lk σ.st x)) w ∧ ∀ i, lk σ.st x = some i → i < σ.bs.length := by
  rcases h.dirs with ⟨rfl, rfl, e1, _⟩ | ⟨s, f, rfl, rfl, _, _, _, h1, _⟩
  · rw [e1, lk_none]
    exact ⟨look_nil w hx, fun i hi => by cases hi⟩
  · have := look_dir h1 hx
    rw [h.len] at this
    exact this
theorem StAt.cell {w : World} {db room : Nat} {used : Int} {st sf : Option Nat} {pv : Value} (h : StAt w db room used st sf pv) : w.cell? ⟨db, 0, none⟩ = some (.int .i64 (room : Int)) ∧ w.cell? ⟨db, 1, none⟩ = some (.int .i64 used) ∧ w.cell? ⟨db, 2, none⟩ = some (.map st) ∧ w.cell? ⟨db, 3, none⟩ = some (.map sf) ∧ w.cell? ⟨db, 4, none⟩ = some pv := by
  unfold StAt at h
  refine ⟨?_, ?_, ?_, ?_, ?_⟩ <;> rw [cell_of_row w db _ _ _ _ h] <;> rfl
theorem StAt.frozen {w : World} {db room : Nat} {used : Int} {st sf : Option Nat} {pv : Value} (h : StAt w db room used st sf pv) (i : Nat) : w.frozen? ⟨db, i, none⟩ = false := frozen_of_row w db i _ _ h
section
attribute [local irreducible] Calls
set_option maxRecDepth 1000000 in
theorem isName_any (x : Tx) (hx : x.length ≤ 9223372036854775807) (w : World) : Calls Tryz.prog 38 #[encStr x] w fun e w' => e = .returned (.bool (isN x)) ∧ w' = w := by
  have hs := enc_size x
  unfold isN
  by_cases h1 : 1 ≤ x.length
  · have g1 : (1 : Int) ≤ (x.length : Int) := by omega
    have d1 : decide ((1 : Int) ≤ (x.length : Int)) = true := by simp; omega
    go_enter Tryz.func38, Tryz.ntmps38
    go_wp2
    go_ret
    simp [h1]
    omega
  · have g1 : ¬ (1 : Int) ≤ (x.length : Int) := by omega
    have d1 : decide ((1 : Int) ≤ (x.length : Int)) = false := by simp; omega
    go_enter Tryz.func38, Tryz.ntmps38
    go_wp2
    go_ret
    simp
set_option maxRecDepth 1000000 in
theorem fault_nilD (v : Value) (w : World) : Calls Tryz.prog 72 #[.pointer none, v] w fun e w' => e = .returned (.int .i64 1) ∧ w' = w := by
  go_enter Tryz.func72, Tryz.ntmps72
  go_wp2
  go_ret
  exact ⟨rfl, rfl⟩
/-- The error of these names. -/
def flt (xs : List Tx) : Int := if xs.all isN then 0 else 91
set_option maxRecDepth 1000000 in
theorem fault_anyD (a : Addr) (b c : Nat) (xs : List Tx) (w : World) (hn : xs.length ≤ 1000) (hm : ∀ x ∈ xs, x.length ≤ 9223372036854775807) (hc : Hid (∀ i, i < xs.length → w.cell? ⟨b, i, none⟩ = some (encStr (xs.getD i [])))) :
    Calls Tryz.prog 72 #[.pointer (some a), .slice (some ⟨b, 0, none⟩) xs.length c] w fun e w' => e = .returned (.int .i64 (flt xs)) ∧ w' = w := by
  obtain ⟨n, hN⟩ : ∃ n, n = xs.length := ⟨_, rfl⟩
  rw [← hN]
  rw [← hN] at hn
  have HN := (show Hid (n = xs.length) from hN)
  clear hN
  go_enter Tryz.func72, Tryz.ntmps72
  go_wp2
  go_loopw [11] (fun i wr => ∃ k : Nat, k ≤ n ∧ i = .int .i64 k ∧ Hid ((xs.take k).all isN = true) ∧ Sm wr w) (fun i _ => n - (intOf i).toNat)
  case atStart => exact ⟨0, Nat.zero_le _, rfl, by show _ = true; simp, rfl⟩
  case round =>
    obtain ⟨k, hk, rfl, hA, hW⟩ := hrel
    unfold Sm at hW
    subst hW
    by_cases hlt : k < n
    · have hi : (k : Int) < (n : Int) := by omega
      have hkx : k < xs.length := by rw [← HN.out]; exact hlt
      obtain ⟨x, hx⟩ : ∃ x, x = xs.getD k [] := ⟨_, rfl⟩
      have g1 := hc.out k hkx
      rw [← hx] at g1
      have hmx : x ∈ xs := by rw [hx]; simp [hkx]
      have hI := isName_any x (hm x hmx) wr
      have hsn := (show Hid (xs.take (k + 1) = xs.take k ++ [x]) from by
        show _ = _
        rw [List.take_add_one, hx]; simp [hkx])
      clear hx hkx
      by_cases hN : isN x = true
      · rw [hN] at hI
        go_wp2_with (go_at_call 38; refine hI.mono ?_; rintro e w1 ⟨rfl, rfl⟩)
        go_roundw
        case rel => exact ⟨k + 1, by omega, by go_num, (by show _ = true; rw [hsn.out, List.all_append, hA.out]; simp [hN]), rfl⟩
        case measure => simp [intOf]; omega
      · rw [show isN x = false by simpa using hN] at hI
        go_wp2_with (go_at_call 38; refine hI.mono ?_; rintro e w1 ⟨rfl, rfl⟩)
        go_ret
        refine ⟨?_, rfl⟩
        rw [flt, if_neg (by
          intro h
          rw [List.all_eq_true] at h
          exact hN (h x hmx))]
        rfl
    · obtain rfl : k = n := by omega
      have hi : ¬ (k : Int) < (k : Int) := by omega
      go_wp2
      go_ret
      refine ⟨?_, rfl⟩
      have := hA.out
      rw [HN.out, List.take_length] at this
      rw [flt, if_pos this]
      rfl
set_option maxRecDepth 1000000 in
theorem size_none (w : World) : Calls Tryz.prog 143 #[.pointer none] w fun e w' => e = .returned (.int .i64 0) ∧ w' = w := by
  go_enter Tryz.func143, Tryz.ntmps143
  go_wp2
  go_ret
  exact ⟨rfl, rfl⟩
set_option maxRecDepth 1000000 in
theorem size_some (b n c : Nat) (p : Option Addr) (w : World) (hc : w.cell? ⟨b, 0, none⟩ = some (.slice p n c)) : Calls Tryz.prog 143 #[.pointer (some ⟨b, 0, none⟩)] w fun e w' => e = .returned (.int .i64 n) ∧ w' = w := by
  go_enter Tryz.func143, Tryz.ntmps143
  go_wp2
  go_ret
  exact ⟨rfl, rfl⟩
set_option maxRecDepth 1000000 in
theorem clone_any (x : Tx) (hx : x.length ≤ 281474976710656) (w : World) : Calls Tryz.prog 41 #[encStr x] w fun e w' => e = .returned (encStr x) ∧ Below w.heap.size w w' := by
  have hC := Tryz.stringslite_Clone ⟨x.toArray⟩ w (by rw [enc_size]; exact hx)
  go_enter Tryz.func41, Tryz.ntmps41
  go_wp2_with (go_at_call 59; refine hC.mono ?_; rintro e w1 ⟨rfl, hb⟩)
  go_ret
  exact ⟨rfl, hb⟩
set_option maxRecDepth 1000000 in
theorem leadTo_any (x : Tx) (hx : x.length ≤ 281474976710656) (p : Option Addr) (w : World) : Calls Tryz.prog 141 #[encStr x, .pointer p] w fun e w' => e = .returned (.agg #[encStr x, .pointer p]) ∧ Below w.heap.size w w' := by
  have hC := (show Hid _ from fun w => clone_any x hx w)
  go_enter Tryz.func141, Tryz.ntmps141
  go_wp2_with (go_at_call 41; refine (hC.out _).mono ?_; rintro e w1 ⟨rfl, hb⟩; have hg : w1.heap[w.heap.size]? = some (.cells #[.string ⟨#[]⟩, .pointer none] 190 (0, 0)) := (hb.block w.heap.size (by simp)).trans (heap_alloc_new w _); have hb1 := btD ((Below.refl _ w).alloc (Nat.le_refl _) _) hb; have k0 := cell_of_row w1 w.heap.size 0 _ _ (0, 0) hg; have k1 := cell_of_row w1 w.heap.size 1 _ _ (0, 0) hg; have z0 := frozen_of_row w1 w.heap.size 0 _ _ hg; have z1 := frozen_of_row w1 w.heap.size 1 _ _ hg)
  have hfin := two_fin hg (encStr x) (.pointer p)
  refine bodyPost_ret (v := .agg #[encStr x, .pointer p]) (results_cell_row rfl _ _ w.heap.size 190 _ (0, 0) _ rfl hfin.1 Tryz.underlying190 rfl (by kernel_rfl)) rfl ?_
  exact ⟨rfl, hb1.grown hfin.2 hb1.size (fun k hk => by cases hk; exact Nat.le_refl _)⟩
end
end Go.Proofs.YtjobaeopokfekaaGreat
/-
  find, follow.
-/
namespace Go.Proofs.YtjobaeopokfekaaGreat
open Go.RowKit Go.Maps
/-- What find answers. -/
def fndv (m : List Nat) : Nat ⊕ Nat → Value
  | .inl e => .tuple #[.pointer none, .int .i64 e]
  | .inr i => .tuple #[ptv m (some i), .int .i64 0]
theorem one_cellD (w : World) (x : Tx) (t : TypeId) : ∀ i, i < [x].length → (w.alloc (.cells #[encStr x] t)).cell? ⟨w.heap.size, i, none⟩ = some (encStr ([x].getD i [])) := by
  intro i hi
  have : i = 0 := by simpa using hi
  subst this
  rw [cell_of_row _ _ _ _ _ (0, 0) (heap_alloc_new w _)]; rfl
theorem two_cells (w : World) (x y : Tx) (t : TypeId) : ∀ i, i < [x, y].length → (w.alloc (.cells #[encStr x, encStr y] t)).cell? ⟨w.heap.size, i, none⟩ = some (encStr ([x, y].getD i [])) := by
  intro i hi
  match i, hi with
  | 0, _ => rw [cell_of_row _ _ _ _ _ (0, 0) (heap_alloc_new w _)]; rfl
  | 1, _ => rw [cell_of_row _ _ _ _ _ (0, 0) (heap_alloc_new w _)]; rfl
section
attribute [local irreducible] Calls
set_option maxRecDepth 1000000 in
theorem find_nil (x : Tx) (w : World) : Calls Tryz.prog 54 #[.pointer none, encStr x] w fun e w' => e = .returned (.tuple #[.pointer none, .int .i64 1]) ∧ Below w.heap.size w w' := by
  have hF := (show Hid _ from fun v w => fault_nilD v w)
  go_enter Tryz.func54, Tryz.ntmps54
  go_wp2_with (go_at_call 72; refine (hF.out _ _).mono ?_; rintro e w1 ⟨rfl, rfl⟩)
  go_ret2
  exact ⟨rfl, (Below.refl _ _).alloc (Nat.le_refl _) _⟩
set_option maxRecDepth 1000000 in
theorem find_any {w : World} {db room : Nat} {used : Int} {F : Nat → Prop} {σ : Ds} {m : List Nat} {rv : Nat → Value} {st sf : Option Nat} {pv : Value} (S : StAt w db room used st sf pv) (R : Rest w F σ m rv st sf pv) (hF : ∀ b, F b → b < w.heap.size) (x : Tx) (hx : x.length ≤ 9223372036854775807) :
    Calls Tryz.prog 54 #[.pointer (some ⟨db, 0, none⟩), encStr x] w fun e w' => e = .returned (fndv m (σ.find x)) ∧ Below w.heap.size w w' := by
  have al := (Below.refl _ w).alloc (Nat.le_refl _) (.cells #[encStr x] 9)
  have hD : DrAt w db σ F → True := fun _ => trivial
  clear hD
  have hfl := (show Hid _ from fault_anyD ⟨db, 0, none⟩ w.heap.size 1 [x] _ (by simp) (by simpa using hx) (one_cellD w x 9))
  have c2 := cell_belowD (S.cell).2.2.1 al
  have R1 : Rest (w.alloc (.cells #[encStr x] 9)) F σ m rv st sf pv := R.same (fun b o hb _ _ => al.block b (hF b hb))
  have hlk := fun h => (R1.look (x := x) h).1
  clear R R1 S
  unfold Ds.find
  have hfe : flt [x] = if isN x then 0 else 91 := by simp [flt]
  rw [hfe] at hfl
  by_cases hN : isN x = true
  · rw [if_pos hN] at hfl ⊢
    have hx1 : x.length ≤ maxLen := by
      unfold isN at hN
      simp at hN
      unfold maxLen
      omega
    have hl := hlk hx1
    clear hlk hfe
    cases hk : lk σ.st x with
    | none =>
      rw [hk] at hl
      unfold ptv pta at hl
      go_enter Tryz.func54, Tryz.ntmps54
      go_wp2_with (go_at_call 72; refine hfl.out.mono ?_; rintro e w1 ⟨rfl, rfl⟩)
      go_ret2
      exact ⟨rfl, al⟩
    | some i =>
      rw [hk] at hl
      unfold ptv pta at hl
      go_enter Tryz.func54, Tryz.ntmps54
      go_wp2_with (go_at_call 72; refine hfl.out.mono ?_; rintro e w1 ⟨rfl, rfl⟩)
      go_ret2
      exact ⟨rfl, al⟩
  · rw [if_neg hN] at hfl ⊢
    clear hlk hfe
    go_enter Tryz.func54, Tryz.ntmps54
    go_wp2_with (go_at_call 72; refine hfl.out.mono ?_; rintro e w1 ⟨rfl, rfl⟩)
    go_ret2
    exact ⟨rfl, al⟩
end
end Go.Proofs.YtjobaeopokfekaaGreat
/-
  follow.
-/
namespace Go.Proofs.YtjobaeopokfekaaGreat
open Go.RowKit Go.Maps
theorem ldc_len (m : List Nat) (c : List Ld) : (ldc m c).length = 2 * c.length := by
  unfold ldc
  induction c with
  | nil => rfl
  | cons l c ih => rw [List.flatMap_cons, List.length_append, ih]; simp; omega
theorem ldc_at (m : List Nat) (c : List Ld) (k : Nat) (hk : k < c.length) : (ldc m c)[2 * k]? = some (encStr (c.getD k ([], none)).1) ∧ (ldc m c)[2 * k + 1]? = some (ptv m (c.getD k ([], none)).2) := by
  unfold ldc
  induction c generalizing k with
  | nil => simp at hk
  | cons l c ih =>
    cases k with
    | zero => exact ⟨rfl, rfl⟩
    | succ k =>
      have := ih k (by simpa using hk)
      rw [List.flatMap_cons]
      refine ⟨?_, ?_⟩
      · rw [List.getElem?_append_right (by simp; omega)]
        simpa [Nat.mul_add] using this.1
      · rw [List.getElem?_append_right (by simp; omega)]
        have e : 2 * (k + 1) + 1 - [encStr l.1, ptv m l.2].length = 2 * k + 1 := by simp; omega
        rw [e]
        simpa using this.2
theorem ldc_cell {w : World} {m : List Nat} {c : List Ld} {g : Nat} {t : TypeId} {r : Nat × Nat} (h : w.heap[g]? = some (.cells (ldc m c).toArray t r)) {k : Nat} (hk : k < c.length) : w.cell? ⟨g, k * 2, none⟩ = some (encStr (c.getD k ([], none)).1) ∧ w.cell? ⟨g, k * 2 + 1, none⟩ = some (ptv m (c.getD k ([], none)).2) := by
  obtain ⟨h1, h2⟩ := ldc_at m c k hk
  rw [Nat.mul_comm k 2, cell_of_row w g _ _ _ _ h, cell_of_row w g _ _ _ _ h]
  exact ⟨by simpa using h1, by simpa using h2⟩
theorem fol_snoc (D : Dir) (c : List Ld) (l : Ld) : fol D (c ++ [l]) = fol1 (fol D c) l := by simp [fol, List.foldl_append]
theorem om_upto {w w' : World} {P : Program} {k : TypeId} {R : Value → Option (DataW Unit × List MemPlace)} {b n : Nat} {D : DataW Unit} (h : w.ownsMap P k R b n D) (hb : Below w.heap.size w w') : w'.ownsMap P k R b n D := om_same h (hb.block b h.lt)
section
attribute [local irreducible] Calls
set_option maxHeartbeats 4000000 in
set_option maxRecDepth 1000000 in
theorem follow_any {w : World} {m : List Nat} (hnd : m.Nodup) {s : Nat} {D : Dir} (hM : MpAt w m s D) (c : List Ld) (g cap : Nat) (hb : w.heap[g]? = some (.cells (ldc m c).toArray 190 (0, 0))) (ids : ∀ l ∈ c, ∀ i, l.2 = some i → i < m.length) (txt : ∀ l ∈ c, l.1.length ≤ 1024) (hsz : Maps.size D + c.length ≤ 1000000000000) :
    Calls Tryz.prog 142 #[.map (some s), .slice (some ⟨g, 0, none⟩) c.length cap] w fun e w' => (∃ v, e = .returned v) ∧ MpAt w' m s (fol D c) ∧ Tn (· = s) w w' := by
  obtain ⟨n, hN⟩ : ∃ n, n = c.length := ⟨_, rfl⟩
  rw [← hN]
  rw [← hN] at hsz
  have HN := (show Hid (n = c.length) from hN)
  have HB := (show Hid _ from hb)
  have HI := (show Hid _ from And.intro ids txt)
  have hgs : g ≠ s := by
    intro e
    subst e
    obtain ⟨es, clock, hh, _⟩ := hM
    rw [hb] at hh
    cases hh
  clear hN hb ids txt
  go_enter Tryz.func142, Tryz.ntmps142
  go_wp2
  go_loopw [8] (fun i wr => ∃ k : Nat, k ≤ n ∧ i = .int .i64 k ∧ Hid (wr.ownsMap Tryz.prog 9 (ptR m) s (Maps.size D + k) (fol D (c.take k))) ∧ Hid (Tn (· = s) w wr)) (fun i _ => n - (intOf i).toNat)
  case atStart => exact ⟨0, Nat.zero_le _, rfl, hM, Tn.refl _ _⟩
  case round =>
    obtain ⟨k, hk, rfl, hO, hT⟩ := hrel
    by_cases hlt : k < n
    · have hi : (k : Int) < (n : Int) := by omega
      have hkx : k < c.length := by rw [← HN.out]; exact hlt
      have hgw : wr.heap[g]? = some (.cells (ldc m c).toArray 190 (0, 0)) := (hT.out.block g (blt HB.out) hgs).trans HB.out
      obtain ⟨l, hl⟩ : ∃ l, l = c.getD k ([], none) := ⟨_, rfl⟩
      obtain ⟨g1, g2⟩ := ldc_cell hgw hkx
      rw [← hl] at g1 g2
      have hlm : l ∈ c := by rw [hl]; simp [hkx]
      have hsn := (show Hid (c.take (k + 1) = c.take k ++ [l]) from by
        show _ = _
        rw [List.take_add_one, hl]; simp [hkx])
      have hkey : keyOf Tryz.prog 9 (encStr l.1) = some (.string l.1) := key_enc (by have := HI.out.2 l hlm; unfold maxLen; omega)
      have hid := HI.out.1 l hlm
      obtain ⟨x, o⟩ := l
      clear hl hkx hgw hlm
      cases o with
      | none =>
        unfold ptv pta at g2
        go_wp2_with (at_delete; refine wpList_delete_own _ rfl _ _ 83 9 rfl 88 lawS Tryz.underlying83 (ptR m) s (Maps.size D + k) _ rfl (hO.out.alloc _) _ _ rfl hkey ?_; intro w1 hown1 hturn1)
        go_roundw
        case rel =>
          refine ⟨k + 1, by omega, by go_num, ?_, ?_⟩
          · show World.ownsMap _ _ _ _ _ _ _
            rw [hsn.out, fol_snoc]
            exact hown1.mono (by omega)
          · exact hT.out.trans ((Tn.of_below ((Below.refl _ wr).alloc (Nat.le_refl _) _)).trans (Tn.grown hturn1.grown (fun g hg => by cases hg; rfl)))
        case measure => simp [intOf]; omega
      | some i =>
        have hval := ptR_some hnd (hid i rfl)
        unfold ptv pta at g2 hval
        simp only at g2 hval
        generalize m.getD i 0 = q at g2 hval
        clear hid
        go_wp2_with (at_mapUpdate; refine wpList_mapUpdate_own _ rfl _ _ _ 83 rfl 9 88 lawS Tryz.underlying83 (ptR m) s (Maps.size D + k) _ rfl (hO.out.alloc _) (by unfold maxLen; omega) _ _ (.string x) rfl rfl hkey (ip i) [] hval ?_; intro w1 hown1 hg1)
        go_roundw
        case rel =>
          refine ⟨k + 1, by omega, by go_num, ?_, ?_⟩
          · show World.ownsMap _ _ _ _ _ _ _
            rw [hsn.out, fol_snoc]
            exact hown1
          · exact hT.out.trans ((Tn.of_below ((Below.refl _ wr).alloc (Nat.le_refl _) _)).trans (Tn.grown hg1 (fun g hg => by cases hg; rfl)))
        case measure => simp [intOf]; omega
    · obtain rfl : k = n := by omega
      have hi : ¬ (k : Int) < (k : Int) := by omega
      go_wp2
      go_end0
      refine ⟨⟨_, rfl⟩, ?_, hT.out⟩
      have := hO.out
      rw [HN.out, List.take_length] at this
      exact om_tight this
end
end Go.Proofs.YtjobaeopokfekaaGreat
