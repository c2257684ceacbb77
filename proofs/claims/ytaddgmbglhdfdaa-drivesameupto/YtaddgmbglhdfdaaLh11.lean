/-
  Layer 11's laws: the hand; 'filled'.
-/
import Derived.Test.YtaddgmbglhdfdaaLe11
import Derived.LaidEqlPtr
import Derived.Deep.RegionHeld3
namespace Go.Proofs.Ytaddgmbglhdfdaa
open Go.RowKit Go.Maps Go.Sort
/-- A hand: three lists of its own. -/
def hdC (g0 g1 g2 : Nat) : Array Value := #[.slice (some ⟨g0, 0, none⟩) 4096 4096, .slice (some ⟨g1, 0, none⟩) 64 64, .slice (some ⟨g2, 0, none⟩) 64 64]
structure Hnd (w : World) (hb g0 g1 g2 : Nat) : Prop where
  g : GB w hb 77 (hdC g0 g1 g2)
  r0 : ∃ c : Array Value, w.heap[g0]? = some (.cells c 5 (0, 0)) ∧ c.size = 4096
  r1 : ∃ c : Array Value, w.heap[g1]? = some (.cells c 4 (0, 0)) ∧ c.size = 64
  r2 : ∃ c : Array Value, w.heap[g2]? = some (.cells c 3 (0, 0)) ∧ c.size = 64
theorem hd_c {w : World} {hb g0 g1 g2 : Nat} (h : GB w hb 77 (hdC g0 g1 g2)) : w.cell? ⟨hb, 0, none⟩ = some (.slice (some ⟨g0, 0, none⟩) 4096 4096) ∧ w.cell? ⟨hb, 1, none⟩ = some (.slice (some ⟨g1, 0, none⟩) 64 64) ∧ w.cell? ⟨hb, 2, none⟩ = some (.slice (some ⟨g2, 0, none⟩) 64 64) := ⟨h.cell 0, h.cell 1, h.cell 2⟩
/-- A block of cells of which the first ones are these. -/
structure Fst (w : World) (g : Nat) (te : TypeId) (N : Nat) (xs : List Value) : Prop where
  b : ∃ c : Array Value, w.heap[g]? = some (.cells c te (0, 0)) ∧ c.size = N
  c : ∀ i, i < xs.length → w.cell? ⟨g, i, none⟩ = some (xs.getD i undef)
theorem Fst.some {w : World} {g : Nat} {te : TypeId} {N : Nat} {xs : List Value} (h : Fst w g te N xs) (i : Nat) (hi : i < N) : (∃ v, w.cell? ⟨g, i, none⟩ = some v) ∧ w.frozen? ⟨g, i, none⟩ = false := by
  obtain ⟨c, h1, h2⟩ := h.b
  refine ⟨⟨c[i]'(by omega), ?_⟩, frozen_of_row w g i _ _ h1⟩
  rw [cell_of_row w g i _ _ _ h1, Array.getElem?_eq_getElem]
/-- One more is written. -/
theorem Fst.push {w : World} {g : Nat} {te : TypeId} {N : Nat} {xs : List Value} (h : Fst w g te N xs) (v : Value) (hi : xs.length < N) : Fst (w.setCell ⟨g, xs.length, none⟩ v) g te N (xs ++ [v]) := by
  obtain ⟨c, h1, h2⟩ := h.b
  have h3 := heap_setCell_same w g xs.length _ _ v h1
  refine ⟨⟨_, h3, by simp [h2]⟩, fun i hi' => ?_⟩
  rw [cell_of_row _ g i _ _ _ h3]
  rw [List.length_append, List.length_singleton] at hi'
  by_cases e : i = xs.length
  · subst e
    simp [h2, hi, List.getD]
  · have hl : i < xs.length := by omega
    have h4 := h.c i hl
    rw [cell_of_row w g i _ _ _ h1] at h4
    rw [Array.getElem?_setIfInBounds_ne (by omega), h4]
    simp [List.getD, List.getElem?_append_left hl]
theorem Fst.keep {w w' : World} {g : Nat} {te : TypeId} {N : Nat} {xs : List Value} (h : Fst w g te N xs) (hb : w'.heap[g]? = w.heap[g]?) : Fst w' g te N xs := by
  obtain ⟨c, h1, h2⟩ := h.b
  exact ⟨⟨c, by rw [hb]; exact h1, h2⟩, fun i hi => by rw [cell_of_row w' g i _ _ _ (hb.trans h1), ← cell_of_row w g i _ _ _ h1]; exact h.c i hi⟩
theorem Fst.drew {w : World} {g : Nat} {te : TypeId} {N : Nat} {xs : List Value} (h : Fst w g te N xs) : Fst w.drew g te N xs := h.keep rfl
/-- What is filled in. -/
def u8a (z : UInt8) (mo : Nat) : Value := u8v (z + UInt8.ofNat mo)
def cta (z : Int) (i mo : Nat) : Int := if 0 < mo ∧ i % 2 = 0 then 1 else z
def flA (mo : Nat) (l : Al) : Al := ⟨l.d.map (fun z => z + UInt8.ofNat mo), l.dirs.map (fun b => b != decide (0 < mo)), (List.range l.cuts.length).map fun i => cta (l.cuts.getD i 0) i mo⟩
theorem u8a_is (z : UInt8) (mo zn : Nat) (hz : zn = z.toNat) (hm : mo ≤ 1) : u8a z mo = .int .u8 (((zn : Int) + (mo : Int)) % 256) := by
  unfold u8a u8v
  rw [UInt8.toNat_add, UInt8.toNat_ofNat', hz]
  congr 1
  have : mo % 2 ^ 8 = mo := by omega
  rw [this]
  omega
theorem fl_snoc {α : Type} (d : List α) (f : α → Value) (j : Nat) (x : α) (hj : j < d.length) : (d.take (j + 1)).map f = (d.take j).map f ++ [f (d.getD j x)] := by
  rw [List.take_add_one, List.getElem?_eq_getElem hj, List.map_append]
  simp [List.getD, hj]
theorem fl_len {α : Type} (d : List α) (f : α → Value) (j : Nat) (hj : j ≤ d.length) : ((d.take j).map f).length = j := by
  rw [List.length_map, List.length_take]
  omega
/-- While the hand is filled. -/
structure FlR (g0 g1 g2 : Nat) (w2 : World) (xs0 xs1 xs2 : List Value) (wr : World) : Prop where
  tn : Tn (fun b => b = g0 ∨ b = g1 ∨ b = g2) w2 wr
  f0 : Fst wr g0 5 4096 xs0
  f1 : Fst wr g1 4 64 xs1
  f2 : Fst wr g2 3 64 xs2
theorem tn_set {F : Nat → Prop} {w2 wr : World} (h : Tn F w2 wr) {g i : Nat} (v : Value) (hg : F g) : Tn F w2 (wr.setCell ⟨g, i, none⟩ v) := h.trans (Tn.setCell wr ⟨g, i, none⟩ hg v)
theorem tn_drew {F : Nat → Prop} {w2 wr : World} (h : Tn F w2 wr) : Tn F w2 wr.drew := ⟨h.os, h.tape, h.output, h.size, h.block⟩
theorem blk_ne {w : World} {g g' : Nat} {c c' : Array Value} {t t' : TypeId} (h : w.heap[g]? = some (.cells c t (0, 0))) (h' : w.heap[g']? = some (.cells c' t' (0, 0))) (ht : t ≠ t') : g ≠ g' := by
  rintro rfl
  rw [h] at h'
  injection h' with h'
  injection h' with _ h2
  exact ht h2
theorem FlR.push0 {g0 g1 g2 : Nat} {w2 wr : World} {xs0 xs1 xs2 : List Value} (h : FlR g0 g1 g2 w2 xs0 xs1 xs2 wr) (v : Value) (hl : xs0.length < 4096) : FlR g0 g1 g2 w2 (xs0 ++ [v]) xs1 xs2 (wr.setCell ⟨g0, xs0.length, none⟩ v).drew := by
  obtain ⟨c0, k0, _⟩ := h.f0.b
  obtain ⟨c1, k1, _⟩ := h.f1.b
  obtain ⟨c2, k2, _⟩ := h.f2.b
  exact ⟨tn_drew (tn_set h.tn v (.inl rfl)), (h.f0.push v hl).drew, (h.f1.keep (Below.heap_setCell _ _ _ _ (blk_ne k1 k0 (by decide)))).drew, (h.f2.keep (Below.heap_setCell _ _ _ _ (blk_ne k2 k0 (by decide)))).drew⟩
theorem FlR.push1 {g0 g1 g2 : Nat} {w2 wr : World} {xs0 xs1 xs2 : List Value} (h : FlR g0 g1 g2 w2 xs0 xs1 xs2 wr) (v : Value) (hl : xs1.length < 64) : FlR g0 g1 g2 w2 xs0 (xs1 ++ [v]) xs2 (wr.setCell ⟨g1, xs1.length, none⟩ v).drew := by
  obtain ⟨c0, k0, _⟩ := h.f0.b
  obtain ⟨c1, k1, _⟩ := h.f1.b
  obtain ⟨c2, k2, _⟩ := h.f2.b
  exact ⟨tn_drew (tn_set h.tn v (.inr (.inl rfl))), (h.f0.keep (Below.heap_setCell _ _ _ _ (blk_ne k0 k1 (by decide)))).drew, (h.f1.push v hl).drew, (h.f2.keep (Below.heap_setCell _ _ _ _ (blk_ne k2 k1 (by decide)))).drew⟩
theorem FlR.push2 {g0 g1 g2 : Nat} {w2 wr : World} {xs0 xs1 xs2 : List Value} (h : FlR g0 g1 g2 w2 xs0 xs1 xs2 wr) (v : Value) (hl : xs2.length < 64) : FlR g0 g1 g2 w2 xs0 xs1 (xs2 ++ [v]) (wr.setCell ⟨g2, xs2.length, none⟩ v).drew := by
  obtain ⟨c0, k0, _⟩ := h.f0.b
  obtain ⟨c1, k1, _⟩ := h.f1.b
  obtain ⟨c2, k2, _⟩ := h.f2.b
  exact ⟨tn_drew (tn_set h.tn v (.inr (.inr rfl))), (h.f0.keep (Below.heap_setCell _ _ _ _ (blk_ne k0 k2 (by decide)))).drew, (h.f1.keep (Below.heap_setCell _ _ _ _ (blk_ne k1 k2 (by decide)))).drew, (h.f2.push v hl).drew⟩
/-- The last one is written over. -/
theorem FlR.over2 {g0 g1 g2 : Nat} {w2 wr : World} {xs0 xs1 xs2 : List Value} (h : FlR g0 g1 g2 w2 xs0 xs1 xs2 wr) (u v : Value) (hl : xs2.length < 64) : FlR g0 g1 g2 w2 xs0 xs1 (xs2 ++ [v]) ((wr.setCell ⟨g2, xs2.length, none⟩ u).drew.setCell ⟨g2, xs2.length, none⟩ v) := by
  have h1 := h.push2 u hl
  obtain ⟨c0, k0, _⟩ := h1.f0.b
  obtain ⟨c1, k1, _⟩ := h1.f1.b
  obtain ⟨c2, k2, m2⟩ := h1.f2.b
  have h3 := heap_setCell_same _ g2 xs2.length _ _ v k2
  refine ⟨tn_set h1.tn v (.inr (.inr rfl)), h1.f0.keep (Below.heap_setCell _ _ _ _ (blk_ne k0 k2 (by decide))), h1.f1.keep (Below.heap_setCell _ _ _ _ (blk_ne k1 k2 (by decide))), ⟨⟨_, h3, by simp [m2]⟩, fun i hi' => ?_⟩⟩
  rw [cell_of_row _ g2 i _ _ _ h3]
  rw [List.length_append, List.length_singleton] at hi'
  by_cases e : i = xs2.length
  · subst e
    simp [m2, hl, List.getD]
  · have hl' : i < xs2.length := by omega
    have h4 := h1.f2.c i (by simp; omega)
    rw [cell_of_row _ g2 i _ _ _ k2] at h4
    rw [Array.getElem?_setIfInBounds_ne (by omega), h4]
    simp [List.getD, List.getElem?_append_left hl']
/-- The cuts that are filled in. -/
def ctl (cuts : List Int) (mo j : Nat) : List Value := (List.range j).map fun i => inv6 (cta (cuts.getD i 0) i mo)
theorem ctl_succ (cuts : List Int) (mo j : Nat) : ctl cuts mo (j + 1) = ctl cuts mo j ++ [inv6 (cta (cuts.getD j 0) j mo)] := by unfold ctl; rw [List.range_succ, List.map_append]; rfl
theorem ctl_len (cuts : List Int) (mo j : Nat) : (ctl cuts mo j).length = j := by unfold ctl; simp
/-- The act that is handed back. -/
def fAc (s : Ac) (g0 g1 g2 : Nat) : Ac := ⟨s.x, s.y, s.n, some ⟨g0, 0, none⟩, s.nd, 4096, some ⟨g1, 0, none⟩, s.nq, 64, some ⟨g2, 0, none⟩, s.nr, 64⟩
theorem fl_done {w wr X : World} {g0 g1 g2 mo : Nat} {w2 : World} {s : Ac} {l : Al} (h : FlR g0 g1 g2 w2 (l.d.map fun z => u8a z mo) (l.dirs.map fun b => bov (b != decide (0 < mo))) (ctl l.cuts mo s.nr) wr) (hA : AcAt w s l) (k0 : X.heap[g0]? = wr.heap[g0]?) (k1 : X.heap[g1]? = wr.heap[g1]?) (k2 : X.heap[g2]? = wr.heap[g2]?) : AcAt X (fAc s g0 g1 g2) (flA mo l) ∧ (∃ c : Array Value, X.heap[g0]? = some (.cells c 5 (0, 0)) ∧ c.size = 4096) ∧ (∃ c : Array Value, X.heap[g1]? = some (.cells c 4 (0, 0)) ∧ c.size = 64) ∧ (∃ c : Array Value, X.heap[g2]? = some (.cells c 3 (0, 0)) ∧ c.size = 64) := by
  have f0 := h.f0.keep k0
  have f1 := h.f1.keep k1
  have f2 := h.f2.keep k2
  refine ⟨⟨.inr ⟨g0, 0, rfl, fun i hi => ?_⟩, by simp [flA, fAc, hA.dl], fun i hi => ⟨g1, 0, rfl, ?_⟩, by simp [flA, fAc, hA.ql], fun i hi => ⟨g2, 0, rfl, ?_⟩, by simp [flA, fAc, hA.rl], hA.nx, hA.ny, hA.nd, hA.nq, hA.nr⟩, f0.b, f1.b, f2.b⟩
  · have hi' : i < l.d.length := by simpa [flA] using hi
    rw [Nat.zero_add, f0.c i (by simpa using hi')]
    simp [flA, List.getD, hi', u8a]
  · have hi' : i < l.dirs.length := by simpa [flA] using hi
    rw [Nat.zero_add, f1.c i (by simpa using hi')]
    simp [flA, List.getD, hi', bov]
  · have hi' : i < l.cuts.length := by simpa [flA] using hi
    have hr := hA.rl
    rw [Nat.zero_add, f2.c i (by rw [ctl_len]; omega)]
    simp [flA, ctl, List.getD, hi', inv6, show i < s.nr by omega]
section
attribute [local irreducible] Calls GB ftC Ac.v hdC acZ
set_option maxHeartbeats 4000000 in
set_option maxRecDepth 1000000 in
theorem filled_ok {w : World} {hb g0 g1 g2 : Nat} (hH : Hnd w hb g0 g1 g2) (k : Int) (s : Ac) (l : Al) (mo : Nat) (hmo : mo ≤ 1) (hA : ∀ Y, Tn (fun b => b = g0 ∨ b = g1 ∨ b = g2) w Y → AcAt Y s l) (h0 : s.nd ≤ 4096) (h1 : s.nq ≤ 64) (h2 : s.nr ≤ 64) : Calls Try.prog 32 #[.pointer (some ⟨hb, 0, none⟩), .agg (s.v k), .int .u8 (mo : Int)] w fun e w' => e = .returned (.tuple #[.agg ((fAc s g0 g1 g2).v k), .bool true]) ∧ Tn (fun b => b = g0 ∨ b = g1 ∨ b = g2) w w' ∧ Hnd w' hb g0 g1 g2 ∧ AcAt w' (fAc s g0 g1 g2) (flA mo l) := by
  have HH := (show Hid (Hnd w hb g0 g1 g2) from hH)
  have HA := (show Hid (∀ Y, Tn (fun b => b = g0 ∨ b = g1 ∨ b = g2) w Y → AcAt Y s l) from hA)
  have LT := (show Hid (g0 < w.heap.size ∧ g1 < w.heap.size ∧ g2 < w.heap.size ∧ hb < w.heap.size) from by
    obtain ⟨c0, k0, _⟩ := hH.r0
    obtain ⟨c1, k1, _⟩ := hH.r1
    obtain ⟨c2, k2, _⟩ := hH.r2
    exact ⟨blt k0, blt k1, blt k2, hH.g.lt⟩)
  clear hH hA
  go_enter Try.func32, Try.ntmps32
  go_upto_region 1 with (first
    | (refine wpList_bxB (cs := s.v k) rfl _ rfl rfl ?_; intro w1 hG1 hb1 hs1)
    | (refine wpList_alB (cs := acZ) rfl rfl ac0 ?_; intro w2 hG2 hb2 hs2))
  have G2 := (show Hid (GB w2 w.heap.size 46 (s.v k)) from hG1.below hb2)
  have B2 := (show Hid (Below w.heap.size w w2) from bt hb1 hb2)
  have HB2 := (show Hid (GB w2 hb 77 (hdC g0 g1 g2)) from HH.out.g.below B2.out)
  have Z2 := (show Hid (GB w2 w1.heap.size 46 acZ ∧ w.heap.size < w1.heap.size) from ⟨hG2, by have := hs1.out; omega⟩)
  obtain ⟨_, _, _, _, c4, c5, c6⟩ := ac_c G2.out
  obtain ⟨e0, e1, e2⟩ := hd_c HB2.out
  have d0 : decide ((4096 : Int) < (s.nd : Int)) = false := by simp; omega
  have d1 : decide ((64 : Int) < (s.nq : Int)) = false := by simp; omega
  have d2 : decide ((64 : Int) < (s.nr : Int)) = false := by simp; omega
  clear hG1 hb1 hs1 hG2 hb2 hs2
  go_wp2
  go_quiet (fail)
  go_wp2_with fail
  have R0 := (show Hid (FlR g0 g1 g2 w2 [] [] [] (w2.drewN nq)) from by
    obtain ⟨a0, k0, m0⟩ := HH.out.r0
    obtain ⟨a1, k1, m1⟩ := HH.out.r1
    obtain ⟨a2, k2, m2⟩ := HH.out.r2
    have hl := LT.out
    exact ⟨⟨rfl, rfl, rfl, Nat.le_refl _, fun _ _ _ => rfl⟩, ⟨⟨a0, (B2.out.block g0 hl.1).trans k0, m0⟩, fun i hi => absurd hi (Nat.not_lt_zero _)⟩, ⟨⟨a1, (B2.out.block g1 hl.2.1).trans k1, m1⟩, fun i hi => absurd hi (Nat.not_lt_zero _)⟩, ⟨⟨a2, (B2.out.block g2 hl.2.2.1).trans k2, m2⟩, fun i hi => absurd hi (Nat.not_lt_zero _)⟩⟩)
  have KP := (show Hid (∀ X, Tn (fun b => b = g0 ∨ b = g1 ∨ b = g2) w2 X → GB X w.heap.size 46 (s.v k) ∧ GB X hb 77 (hdC g0 g1 g2) ∧ AcAt X s l) from fun X hX => by
    have hl := LT.out
    refine ⟨G2.out.tn hX (by omega), HB2.out.tn hX (fun h => ?_), HA.out X ((Tn.of_below B2.out).trans hX)⟩
    have h9 := HB2.out
    unfold GB at h9
    obtain ⟨a0, k0, _⟩ := R0.out.f0.b
    obtain ⟨a1, k1, _⟩ := R0.out.f1.b
    obtain ⟨a2, k2, _⟩ := R0.out.f2.b
    rcases h with rfl | rfl | rfl
    · exact blk_ne h9 k0 (by decide) rfl
    · exact blk_ne h9 k1 (by decide) rfl
    · exact blk_ne h9 k2 (by decide) rfl)
  clear c4 c5 c6 e0 e1 e2 d0 d1 d2
  go_loopw [8] (fun i wr => ∃ j : Nat, j ≤ s.nd ∧ i = .int .i64 (j : Int) ∧ Hid (FlR g0 g1 g2 w2 ((l.d.take j).map fun z => u8a z mo) [] [] wr)) (fun i _ => s.nd - (intOf i).toNat)
  case atStart => exact ⟨0, Nat.zero_le _, rfl, R0⟩
  case round =>
    obtain ⟨j, hj, rfl, hR⟩ := hrel
    obtain ⟨gb, gh, ga⟩ := KP.out wr hR.out.tn
    obtain ⟨_, _, _, _, c4, _, _⟩ := ac_c gb
    obtain ⟨e0, _, _⟩ := hd_c gh
    by_cases hlt : j < s.nd
    · have hi : (j : Int) < (s.nd : Int) := by omega
      have hj4 : (j : Int) < 4096 := by omega
      have hjl : j < l.d.length := by have := ga.dl; omega
      obtain ⟨b, o, hp, hcl⟩ : ∃ b o, s.pd = some ⟨b, o, none⟩ ∧ wr.cell? ⟨b, o + j, none⟩ = some (u8v (l.d.getD j 0)) := by
        rcases ga.rx with h9 | ⟨b, o, e, h9⟩
        · rw [h9] at hjl; simp at hjl
        · exact ⟨b, o, e, h9 j hjl⟩
      obtain ⟨zn, hzn⟩ : ∃ zn : Nat, zn = (l.d.getD j 0).toNat := ⟨_, rfl⟩
      have hcz : wr.cell? ⟨b, o + j, none⟩ = some (.int .u8 (zn : Int)) := by rw [hcl, hzn]; rfl
      obtain ⟨⟨vo, hvo⟩, hfz⟩ := hR.out.f0.some j (by omega)
      rw [hp] at c4
      have HZ := (show Hid (zn = (l.d.getD j 0).toNat ∧ zn < 256 ∧ j < l.d.length) from ⟨hzn, by rw [hzn]; exact UInt8.toNat_lt _, hjl⟩)
      have hz256 : zn < 256 := HZ.out.2.1
      clear hcl hzn gb gh ga hp hjl
      go_wp2
      go_region
      all_goals
        go_wp2
        go_roundw
        case rel =>
          refine ⟨j + 1, by omega, by go_num, ?_⟩
          show FlR _ _ _ _ _ _ _ _
          have h9 := hR.out.push0 (.int .u8 (((zn : Int) + (mo : Int)) % 256)) (by rw [fl_len _ _ _ (by have := HZ.out.2.2; omega)]; omega)
          rw [fl_len _ _ _ (by have := HZ.out.2.2; omega), ← u8a_is (l.d.getD j 0) mo zn HZ.out.1 hmo, ← fl_snoc l.d (fun z => u8a z mo) j 0 HZ.out.2.2] at h9
          rw [← u8a_is (l.d.getD j 0) mo zn HZ.out.1 hmo]
          exact h9
        case measure => simp [intOf]; omega
    · obtain rfl : j = s.nd := by omega
      have hi : ¬ (s.nd : Int) < (s.nd : Int) := by omega
      have R1 := (show Hid (FlR g0 g1 g2 w2 (l.d.map fun z => u8a z mo) [] [] wr) from by
        have h9 := hR.out
        rw [List.take_of_length_le (by have := ga.dl; omega)] at h9
        exact h9)
      go_wp2_with fail
      clear c4 e0 gb gh ga hR R0
      go_loopw [9] (fun i wr => ∃ j : Nat, j ≤ s.nq ∧ i = .int .i64 (j : Int) ∧ Hid (FlR g0 g1 g2 w2 (l.d.map fun z => u8a z mo) ((l.dirs.take j).map fun b => bov (b != decide (0 < mo))) [] wr)) (fun i _ => s.nq - (intOf i).toNat)
      case atStart => exact ⟨0, Nat.zero_le _, rfl, R1⟩
      case round =>
        obtain ⟨j, hj, rfl, hR⟩ := hrel
        obtain ⟨gb, gh, ga⟩ := KP.out wr hR.out.tn
        obtain ⟨_, _, _, _, _, c5, _⟩ := ac_c gb
        obtain ⟨_, e1, _⟩ := hd_c gh
        by_cases hlt : j < s.nq
        · have hi : (j : Int) < (s.nq : Int) := by omega
          have hj4 : (j : Int) < 64 := by omega
          have hjl : j < l.dirs.length := by have := ga.ql; omega
          obtain ⟨b, o, hp, hcl⟩ := ga.bl j hjl
          obtain ⟨bz, hbz⟩ : ∃ bz, bz = l.dirs.getD j false := ⟨_, rfl⟩
          rw [← hbz] at hcl
          obtain ⟨⟨vo, hvo⟩, hfz⟩ := hR.out.f1.some j (by omega)
          rw [hp] at c5
          have HZ := (show Hid (bz = l.dirs.getD j false ∧ j < l.dirs.length) from ⟨hbz, hjl⟩)
          clear hbz gb gh ga hp hjl
          go_wp2
          go_region
          all_goals
            go_wp2
            go_roundw
            case rel =>
              refine ⟨j + 1, by omega, by go_num, ?_⟩
              show FlR _ _ _ _ _ _ _ _
              have h9 := hR.out.push1 (bov (bz != decide (0 < mo))) (by rw [fl_len _ _ _ (by have := HZ.out.2; omega)]; omega)
              rw [fl_len _ _ _ (by have := HZ.out.2; omega)] at h9
              rw [fl_snoc l.dirs (fun b => bov (b != decide (0 < mo))) j false HZ.out.2, ← HZ.out.1]
              exact h9
            case measure => simp [intOf]; omega
        · obtain rfl : j = s.nq := by omega
          have hi : ¬ (s.nq : Int) < (s.nq : Int) := by omega
          have R2 := (show Hid (FlR g0 g1 g2 w2 (l.d.map fun z => u8a z mo) (l.dirs.map fun b => bov (b != decide (0 < mo))) [] wr) from by
            have h9 := hR.out
            rw [List.take_of_length_le (by have := ga.ql; omega)] at h9
            exact h9)
          go_wp2_with fail
          clear c5 e1 gb gh ga hR R1
          go_loopw [10] (fun i wr => ∃ j : Nat, j ≤ s.nr ∧ i = .int .i64 (j : Int) ∧ Hid (FlR g0 g1 g2 w2 (l.d.map fun z => u8a z mo) (l.dirs.map fun b => bov (b != decide (0 < mo))) (ctl l.cuts mo j) wr)) (fun i _ => s.nr - (intOf i).toNat)
          case atStart => exact ⟨0, Nat.zero_le _, rfl, R2⟩
          case round =>
            obtain ⟨j, hj, rfl, hR⟩ := hrel
            obtain ⟨gb, gh, ga⟩ := KP.out wr hR.out.tn
            obtain ⟨_, _, _, _, _, _, c6⟩ := ac_c gb
            obtain ⟨_, _, e2⟩ := hd_c gh
            by_cases hlt : j < s.nr
            · have hi : (j : Int) < (s.nr : Int) := by omega
              have hj4 : (j : Int) < 64 := by omega
              have hjl : j < l.cuts.length := by have := ga.rl; omega
              obtain ⟨b, o, hp, hcl⟩ := ga.il j hjl
              obtain ⟨cz, hcz⟩ : ∃ cz, cz = l.cuts.getD j 0 := ⟨_, rfl⟩
              rw [← hcz] at hcl
              obtain ⟨⟨vo, hvo⟩, hfz⟩ := hR.out.f2.some j (by omega)
              rw [hp] at c6
              have HZ := (show Hid (cz = l.cuts.getD j 0) from hcz)
              have PU := (show Hid (FlR g0 g1 g2 w2 (l.d.map fun z => u8a z mo) (l.dirs.map fun b => bov (b != decide (0 < mo))) (ctl l.cuts mo j ++ [.int .i64 cz]) (wr.setCell ⟨g2, j, none⟩ (.int .i64 cz)).drew) from by
                have h9 := hR.out.push2 (.int .i64 cz) (by rw [ctl_len]; omega)
                rw [ctl_len] at h9
                exact h9)
              have e2' := (hd_c (KP.out _ PU.out.tn).2.1).2.2
              obtain ⟨⟨vo', hvo'⟩, hfz'⟩ := PU.out.f2.some j (by omega)
              clear hcz gb gh ga hp hjl
              go_wp2
              go_region
              by_cases hm : 0 < mo
              · have hm1 : decide (0 < mo) = true := by simpa using hm
                by_cases he : j % 2 = 0
                · have he1 : ((j : Int) % 2 == 0) = true := by simp; omega
                  have he2 : ((j : Int).tmod 2 == 0) = true := by rw [Int.tmod_eq_emod_of_nonneg (by omega)]; exact he1
                  have hE := (show Hid (cta (l.cuts.getD j 0) j mo = 1) from by show _ = _; unfold cta; rw [if_pos ⟨hm, he⟩])
                  clear hm he
                  go_wp2_with fail
                  go_roundw
                  case rel =>
                    refine ⟨j + 1, by omega, by go_num, ?_⟩
                    show FlR _ _ _ _ _ _ _ _
                    have h9 := hR.out.over2 (.int .i64 cz) (.int .i64 1) (by rw [ctl_len]; omega)
                    rw [ctl_len] at h9
                    rw [ctl_succ, hE.out]
                    exact h9
                  case measure => simp [intOf]; omega
                · have he1 : ((j : Int) % 2 == 0) = false := by simp; omega
                  have he2 : ((j : Int).tmod 2 == 0) = false := by rw [Int.tmod_eq_emod_of_nonneg (by omega)]; exact he1
                  have hE := (show Hid (cta (l.cuts.getD j 0) j mo = cz) from by show _ = _; unfold cta; rw [if_neg (fun h => he h.2), HZ.out])
                  clear hm he
                  go_wp2_with fail
                  go_roundw
                  case rel =>
                    refine ⟨j + 1, by omega, by go_num, ?_⟩
                    show FlR _ _ _ _ _ _ _ _
                    rw [ctl_succ, hE.out]
                    exact PU.out
                  case measure => simp [intOf]; omega
              · have hm1 : decide (0 < mo) = false := by simpa using hm
                have hE := (show Hid (cta (l.cuts.getD j 0) j mo = cz) from by show _ = _; unfold cta; rw [if_neg (fun h => hm h.1), HZ.out])
                clear hm
                go_wp2_with fail
                go_roundw
                case rel =>
                  refine ⟨j + 1, by omega, by go_num, ?_⟩
                  show FlR _ _ _ _ _ _ _ _
                  rw [ctl_succ, hE.out]
                  exact PU.out
                case measure => simp [intOf]; omega
            · obtain rfl : j = s.nr := by omega
              have hi : ¬ (s.nr : Int) < (s.nr : Int) := by omega
              have R3 := (show Hid (FlR g0 g1 g2 w2 (l.d.map fun z => u8a z mo) (l.dirs.map fun b => bov (b != decide (0 < mo))) (ctl l.cuts mo s.nr) wr) from hR.out)
              obtain ⟨_, _, _, _, c4, c5, _⟩ := ac_c gb
              obtain ⟨e0, e1, _⟩ := hd_c gh
              have GB3 := (show Hid (GB wr w.heap.size 46 (s.v k)) from gb)
              have f4 := GB3.out.frozen 4
              have f5 := GB3.out.frozen 5
              have f6 := GB3.out.frozen 6
              have hn0 : (s.nd : Int) ≤ 4096 := by omega
              have hn1 : (s.nq : Int) ≤ 64 := by omega
              have hn2 : (s.nr : Int) ≤ 64 := by omega
              clear gb gh ga hR R2
              go_upto_region 17 with fail
              go_region
              have G8 := (show Hid (GB (wr.setCell ⟨w.heap.size, 4, none⟩ (.slice (some ⟨g0, 0, none⟩) s.nd 4096)).drew w.heap.size 46 ((⟨s.x, s.y, s.n, some ⟨g0, 0, none⟩, s.nd, 4096, s.qd, s.nq, s.cq, s.rd, s.nr, s.cr⟩ : Ac).v k) ∧ GB (wr.setCell ⟨w.heap.size, 4, none⟩ (.slice (some ⟨g0, 0, none⟩) s.nd 4096)).drew hb 77 (hdC g0 g1 g2)) from by
                have h9 := (KP.out wr R3.out.tn).2.1
                have hl := LT.out
                exact ⟨gb_drew (ac_set4 GB3.out _ _ _), gb_drew (gb_other h9 (by omega))⟩)
              have T8 := (show Hid (Tn (fun b => b = w.heap.size) wr (wr.setCell ⟨w.heap.size, 4, none⟩ (.slice (some ⟨g0, 0, none⟩) s.nd 4096)).drew) from tn_drew (tn_set (Tn.refl _ _) _ rfl))
              clear c4 c5 c6 e0 e1 e2 f4 f5 f6
              generalize (wr.setCell ⟨w.heap.size, 4, none⟩ (.slice (some ⟨g0, 0, none⟩) s.nd 4096)).drew = w8 at *
              obtain ⟨s8, hs8⟩ : ∃ s8 : Ac, s8 = ⟨s.x, s.y, s.n, some ⟨g0, 0, none⟩, s.nd, 4096, s.qd, s.nq, s.cq, s.rd, s.nr, s.cr⟩ := ⟨_, rfl⟩
              obtain ⟨c5, c6⟩ : w8.cell? ⟨w.heap.size, 5, none⟩ = some (.slice s.qd s.nq s.cq) ∧ w8.cell? ⟨w.heap.size, 6, none⟩ = some (.slice s.rd s.nr s.cr) := by
                obtain ⟨_, _, _, _, _, c5, c6⟩ := ac_c G8.out.1
                exact ⟨c5, c6⟩
              obtain ⟨_, e1, e2⟩ := hd_c G8.out.2
              have f5 := G8.out.1.frozen 5
              have f6 := G8.out.1.frozen 6
              rw [← hs8] at G8
              have HS8 := (show Hid (s8 = ⟨s.x, s.y, s.n, some ⟨g0, 0, none⟩, s.nd, 4096, s.qd, s.nq, s.cq, s.rd, s.nr, s.cr⟩) from hs8)
              clear hs8
              go_upto_region 18 with fail
              go_region
              have G9 := (show Hid (GB ((w8.setCell ⟨w.heap.size, 5, none⟩ (.slice (some ⟨g1, 0, none⟩) s.nq 64)).setCell ⟨w.heap.size, 6, none⟩ (.slice (some ⟨g2, 0, none⟩) s.nr 64)).drew w.heap.size 46 ((fAc s g0 g1 g2).v k)) from by
                have h9 := ac_set56 G8.out.1 (some ⟨g1, 0, none⟩) s.nq 64 (some ⟨g2, 0, none⟩) s.nr 64
                rw [HS8.out] at h9
                exact gb_drew h9)
              have T9 := (show Hid (Tn (fun b => b = w.heap.size) wr ((w8.setCell ⟨w.heap.size, 5, none⟩ (.slice (some ⟨g1, 0, none⟩) s.nq 64)).setCell ⟨w.heap.size, 6, none⟩ (.slice (some ⟨g2, 0, none⟩) s.nr 64)).drew) from tn_drew (tn_set (tn_set T8.out _ rfl) _ rfl))
              clear c5 c6 e1 e2 f5 f6 G8 T8 HS8 GB3
              generalize ((w8.setCell ⟨w.heap.size, 5, none⟩ (.slice (some ⟨g1, 0, none⟩) s.nq 64)).setCell ⟨w.heap.size, 6, none⟩ (.slice (some ⟨g2, 0, none⟩) s.nr 64)).drew = w9 at *
              have Z9 := (show Hid (GB w9 w1.heap.size 46 acZ) from (Z2.out.1.tn R3.out.tn (by have := LT.out; have := Z2.out.2; omega)).tn T9.out (by have := Z2.out.2; omega))
              go_wp2_with (first
                | (refine wpList_ldB rfl _ rfl w.heap.size rfl G9.out Try.underlying46 acv_sz ?_)
                | (refine wpList_stB (cs := (fAc s g0 g1 g2).v k) rfl _ _ rfl rfl w1.heap.size rfl rfl Z9.out acv_sz ac_sz ac_one ?_; intro w10 hG10 hg10 hs10))
              refine bodyPost_ret (res_B2 rfl _ _ w1.heap.size rfl hG10 Try.underlying46 acv_sz) rfl ?_
              have hl := LT.out
              have hz1 := Z2.out.2
              have hzr := R3.out.tn.size
              have hz2 := B2.out.size
              have hk : ∀ g, g < w.heap.size → w10.heap[g]? = wr.heap[g]? := fun g hg => (hg10.block g (by have := T9.out.size; omega) (by intro e; injection e with e; omega)).trans (T9.out.block g (by omega) (by omega))
              obtain ⟨d0, d1, d2, d3⟩ := fl_done (w := w) (X := w10) R3.out (HA.out w (Tn.refl _ _)) (hk g0 hl.1) (hk g1 hl.2.1) (hk g2 hl.2.2.1)
              refine ⟨rfl, ⟨?_, ?_, ?_, ?_, fun g hg hn => ?_⟩, ⟨?_, d1, d2, d3⟩, d0⟩
              · exact hg10.os.trans (T9.out.os.trans (R3.out.tn.os.trans B2.out.os))
              · exact hg10.tape.trans (T9.out.tape.trans (R3.out.tn.tape.trans B2.out.tape))
              · exact hg10.output.trans (T9.out.output.trans (R3.out.tn.output.trans B2.out.output))
              · exact Nat.le_trans hz2 (Nat.le_trans hzr (Nat.le_trans T9.out.size hg10.size))
              · exact (hk g hg).trans ((R3.out.tn.block g (by omega) hn).trans (B2.out.block g hg))
              · have h9 := (KP.out wr R3.out.tn).2.1
                unfold GB at h9 ⊢
                rw [hk hb hl.2.2.2]
                exact h9
set_option maxHeartbeats 4000000 in
set_option maxRecDepth 1000000 in
theorem filled_no {w : World} {hb g0 g1 g2 : Nat} (hH : Hnd w hb g0 g1 g2) (k : Int) (s : Ac) (mo : Nat) (hn : ¬ (s.nd ≤ 4096 ∧ s.nq ≤ 64 ∧ s.nr ≤ 64)) : Calls Try.prog 32 #[.pointer (some ⟨hb, 0, none⟩), .agg (s.v k), .int .u8 (mo : Int)] w fun e w' => e = .returned (.tuple #[.agg (s.v k), .bool false]) ∧ Below w.heap.size w w' := by
  have HH := (show Hid (Hnd w hb g0 g1 g2) from hH)
  clear hH
  go_enter Try.func32, Try.ntmps32
  go_upto_region 1 with (first
    | (refine wpList_bxB (cs := s.v k) rfl _ rfl rfl ?_; intro w1 hG1 hb1 hs1)
    | (refine wpList_alB (cs := acZ) rfl rfl ac0 ?_; intro w2 hG2 hb2 hs2))
  have G2 := (show Hid (GB w2 w.heap.size 46 (s.v k)) from hG1.below hb2)
  have B2 := (show Hid (Below w.heap.size w w2) from bt hb1 hb2)
  have HB2 := (show Hid (GB w2 hb 77 (hdC g0 g1 g2)) from HH.out.g.below B2.out)
  have Z2 := (show Hid (GB w2 w1.heap.size 46 acZ ∧ w.heap.size < w1.heap.size) from ⟨hG2, by have := hs1.out; omega⟩)
  obtain ⟨_, _, _, _, c4, c5, c6⟩ := ac_c G2.out
  obtain ⟨e0, e1, e2⟩ := hd_c HB2.out
  clear hG1 hb1 hs1 hG2 hb2 hs2
  by_cases h0 : s.nd ≤ 4096
  · by_cases h1 : s.nq ≤ 64
    · have d0 : decide ((4096 : Int) < (s.nd : Int)) = false := by simp; omega
      have d1 : decide ((64 : Int) < (s.nq : Int)) = false := by simp; omega
      have d2 : decide ((64 : Int) < (s.nr : Int)) = true := by
        have h2 : ¬ s.nr ≤ 64 := fun h => hn ⟨h0, h1, h⟩
        simp; omega
      clear hn h0 h1
      go_wp2
      go_quiet (fail)
      have BD : Below w2.heap.size w2 (w2.drewN nq) := ⟨rfl, rfl, rfl, Nat.le_refl _, fun _ _ => rfl⟩
      have G3 := (show Hid (GB (w2.drewN nq) w.heap.size 46 (s.v k)) from G2.out.below BD)
      have Z3 := (show Hid (GB (w2.drewN nq) w1.heap.size 46 acZ) from Z2.out.1.below BD)
      clear c4 c5 c6 e0 e1 e2
      go_wp2_with (first
        | (refine wpList_ldB rfl _ rfl w.heap.size rfl G3.out Try.underlying46 acv_sz ?_)
        | (refine wpList_stB (cs := s.v k) rfl _ _ rfl rfl w1.heap.size rfl rfl Z3.out acv_sz ac_sz ac_one ?_; intro w10 hG10 hg10 hs10))
      refine bodyPost_ret (res_B2 rfl _ _ w1.heap.size rfl hG10 Try.underlying46 acv_sz) rfl ?_
      exact ⟨rfl, grown_below (bt B2.out BD) hg10 (bt B2.out BD).size (by have := Z2.out.2; omega)⟩
    · have d0 : decide ((4096 : Int) < (s.nd : Int)) = false := by simp; omega
      have d1 : decide ((64 : Int) < (s.nq : Int)) = true := by simp; omega
      clear hn h0 h1
      go_wp2
      go_quiet (fail)
      have BD : Below w2.heap.size w2 (w2.drewN nq) := ⟨rfl, rfl, rfl, Nat.le_refl _, fun _ _ => rfl⟩
      have G3 := (show Hid (GB (w2.drewN nq) w.heap.size 46 (s.v k)) from G2.out.below BD)
      have Z3 := (show Hid (GB (w2.drewN nq) w1.heap.size 46 acZ) from Z2.out.1.below BD)
      clear c4 c5 c6 e0 e1 e2
      go_wp2_with (first
        | (refine wpList_ldB rfl _ rfl w.heap.size rfl G3.out Try.underlying46 acv_sz ?_)
        | (refine wpList_stB (cs := s.v k) rfl _ _ rfl rfl w1.heap.size rfl rfl Z3.out acv_sz ac_sz ac_one ?_; intro w10 hG10 hg10 hs10))
      refine bodyPost_ret (res_B2 rfl _ _ w1.heap.size rfl hG10 Try.underlying46 acv_sz) rfl ?_
      exact ⟨rfl, grown_below (bt B2.out BD) hg10 (bt B2.out BD).size (by have := Z2.out.2; omega)⟩
  · have d0 : decide ((4096 : Int) < (s.nd : Int)) = true := by simp; omega
    clear hn h0
    go_wp2
    go_quiet (fail)
    have BD : Below w2.heap.size w2 (w2.drewN nq) := ⟨rfl, rfl, rfl, Nat.le_refl _, fun _ _ => rfl⟩
    have G3 := (show Hid (GB (w2.drewN nq) w.heap.size 46 (s.v k)) from G2.out.below BD)
    have Z3 := (show Hid (GB (w2.drewN nq) w1.heap.size 46 acZ) from Z2.out.1.below BD)
    clear c4 c5 c6 e0 e1 e2
    go_wp2_with (first
      | (refine wpList_ldB rfl _ rfl w.heap.size rfl G3.out Try.underlying46 acv_sz ?_)
      | (refine wpList_stB (cs := s.v k) rfl _ _ rfl rfl w1.heap.size rfl rfl Z3.out acv_sz ac_sz ac_one ?_; intro w10 hG10 hg10 hs10))
    refine bodyPost_ret (res_B2 rfl _ _ w1.heap.size rfl hG10 Try.underlying46 acv_sz) rfl ?_
    exact ⟨rfl, grown_below (bt B2.out BD) hg10 (bt B2.out BD).size (by have := Z2.out.2; omega)⟩
end
/-- An act's lists stay while a drive turns of which they are no part. -/
theorem AcAt.tn {w w' : World} {s : Ac} {l : Al} {F : Nat → Prop} (h : AcAt w s l) (hT : Tn F w w') (hp : ∀ b o, s.pd = some ⟨b, o, none⟩ → ¬ F b) (hq : ∀ b o, s.qd = some ⟨b, o, none⟩ → ¬ F b) (hr : ∀ b o, s.rd = some ⟨b, o, none⟩ → ¬ F b) : AcAt w' s l := by
  have hc : ∀ {b o : Nat} {v : Value}, w.cell? ⟨b, o, none⟩ = some v → ¬ F b → w'.cell? ⟨b, o, none⟩ = some v := fun hv hn => (cell_blk _ (hT.block _ (block_lt_of_cell hv) hn)).trans hv
  refine ⟨?_, h.dl, fun i hi => ?_, h.ql, fun i hi => ?_, h.rl, h.nx, h.ny, h.nd, h.nq, h.nr⟩
  · rcases h.rx with h9 | ⟨b, o, e, h9⟩
    · exact .inl h9
    · exact .inr ⟨b, o, e, fun i hi => hc (h9 i hi) (hp b o e)⟩
  · obtain ⟨b, o, e, h9⟩ := h.bl i hi
    exact ⟨b, o, e, hc h9 (hq b o e)⟩
  · obtain ⟨b, o, e, h9⟩ := h.il i hi
    exact ⟨b, o, e, hc h9 (hr b o e)⟩
end Go.Proofs.Ytaddgmbglhdfdaa
/-
  Layer 11's laws: two drives and a hand; files that are written over.
-/
namespace Go.Proofs.Ytaddgmbglhdfdaa
open Go.RowKit Go.Maps Go.Sort
theorem Hnd.lt {w : World} {hb g0 g1 g2 : Nat} (h : Hnd w hb g0 g1 g2) : hb < w.heap.size ∧ g0 < w.heap.size ∧ g1 < w.heap.size ∧ g2 < w.heap.size := by
  obtain ⟨_, k0, _⟩ := h.r0
  obtain ⟨_, k1, _⟩ := h.r1
  obtain ⟨_, k2, _⟩ := h.r2
  exact ⟨h.g.lt, blt k0, blt k1, blt k2⟩
theorem Hnd.keep {w w' : World} {hb g0 g1 g2 : Nat} (h : Hnd w hb g0 g1 g2) (k : ∀ b, b = hb ∨ b = g0 ∨ b = g1 ∨ b = g2 → w'.heap[b]? = w.heap[b]?) : Hnd w' hb g0 g1 g2 := by
  refine ⟨?_, by rw [k g0 (.inr (.inl rfl))]; exact h.r0, by rw [k g1 (.inr (.inr (.inl rfl)))]; exact h.r1, by rw [k g2 (.inr (.inr (.inr rfl)))]; exact h.r2⟩
  have h9 := h.g
  unfold GB at h9 ⊢
  rw [k hb (.inl rfl)]
  exact h9
/-- Two drives, a hand, acts in memory of their own and variables that hold acts. -/
structure Smt (w2 : World) (hb g0 g1 g2 db eb kd ke : Nat) (ρ θ : Ds) (ls : List (Ac × Al)) (vs : List (Nat × Array Value)) (X : World) : Prop where
  ex : ∃ F G T : Nat → Prop, DrAt X db ρ F ∧ DrAt X eb θ G ∧ (∀ b, F b → ¬ G b) ∧ (∀ b, F b ∨ G b → w2.heap.size ≤ b ∧ ¬ T b ∧ b ≠ hb ∧ b ≠ g0 ∧ b ≠ g1 ∧ b ≠ g2 ∧ b ∉ vs.map (·.1)) ∧ (∀ b, T b → b < X.heap.size ∧ b ≠ g0 ∧ b ≠ g1 ∧ b ≠ g2 ∧ b ∉ vs.map (·.1)) ∧ ∀ a ∈ ls, AcAt X a.1 a.2 ∧ (∀ b o, a.1.pd = some ⟨b, o, none⟩ → T b) ∧ (∀ b o, a.1.qd = some ⟨b, o, none⟩ → T b) ∧ (∀ b o, a.1.rd = some ⟨b, o, none⟩ → T b)
  va : ∀ q ∈ vs, GB X q.1 46 q.2 ∧ w2.heap.size ≤ q.1 ∧ q.1 ≠ hb ∧ q.1 ≠ g0 ∧ q.1 ≠ g1 ∧ q.1 ≠ g2
  h : Hnd X hb g0 g1 g2
  gz : w2.heap.size ≤ hb ∧ w2.heap.size ≤ g0 ∧ w2.heap.size ≤ g1 ∧ w2.heap.size ≤ g2
  ok : Okk kd ρ ∧ Okk ke θ
  bl : Below w2.heap.size w2 X
section
variable {w2 X : World} {hb g0 g1 g2 db eb kd ke : Nat} {ρ θ : Ds} {ls : List (Ac × Al)} {vs : List (Nat × Array Value)}
theorem Smt.swap (h : Smt w2 hb g0 g1 g2 db eb kd ke ρ θ ls vs X) : Smt w2 hb g0 g1 g2 eb db ke kd θ ρ ls vs X := by
  obtain ⟨⟨F, G, T, h1, h2, h3, h4, h5, h6⟩, va, hh, gz, ok, bl⟩ := h
  exact ⟨⟨G, F, T, h2, h1, fun b hb hf => h3 b hf hb, fun b hb => h4 b hb.symm, h5, h6⟩, va, hh, gz, ⟨ok.2, ok.1⟩, bl⟩
theorem Smt.below {X' : World} (h : Smt w2 hb g0 g1 g2 db eb kd ke ρ θ ls vs X) (hB : Below X.heap.size X X') : Smt w2 hb g0 g1 g2 db eb kd ke ρ θ ls vs X' := by
  obtain ⟨⟨F, G, T, h1, h2, h3, h4, h5, h6⟩, va, hh, gz, ok, bl⟩ := h
  have hz := hB.size
  refine ⟨⟨F, G, T, h1.below hB, h2.below hB, h3, h4, fun b hb => ?_, fun a ha => ⟨(h6 a ha).1.below hB, (h6 a ha).2⟩⟩, fun q hq => ⟨(va q hq).1.below hB, (va q hq).2⟩, hh.keep ?_, gz, ok, bl.trans (hB.mono bl.size)⟩
  · have := h5 b hb
    exact ⟨by omega, this.2⟩
  · obtain ⟨l0, l1, l2, l3⟩ := hh.lt
    rintro b (rfl | rfl | rfl | rfl)
    · exact hB.block _ l0
    · exact hB.block _ l1
    · exact hB.block _ l2
    · exact hB.block _ l3
theorem Smt.forget (h : Smt w2 hb g0 g1 g2 db eb kd ke ρ θ ls vs X) : Smt w2 hb g0 g1 g2 db eb kd ke ρ θ [] [] X := by
  obtain ⟨⟨F, G, T, h1, h2, h3, h4, h5, h6⟩, va, hh, gz, ok, bl⟩ := h
  refine ⟨⟨F, G, T, h1, h2, h3, fun b hb => ?_, fun b hb => ?_, fun a ha => (by cases ha)⟩, fun q hq => (by cases hq), hh, gz, ok, bl⟩
  · obtain ⟨k1, k2, k3, k4, k5, k6, _⟩ := h4 b hb
    exact ⟨k1, k2, k3, k4, k5, k6, by simp⟩
  · obtain ⟨k1, k2, k3, k4, _⟩ := h5 b hb
    exact ⟨k1, k2, k3, k4, by simp⟩
theorem Smt.more {kd' ke' : Nat} (h : Smt w2 hb g0 g1 g2 db eb kd ke ρ θ ls vs X) (h1 : kd ≤ kd') (h2 : ke ≤ ke') : Smt w2 hb g0 g1 g2 db eb kd' ke' ρ θ ls vs X := ⟨h.ex, h.va, h.h, h.gz, ⟨h.ok.1.mono h1, h.ok.2.mono h2⟩, h.bl⟩
/-- A new variable. -/
theorem Smt.var {X' : World} {cs : Array Value} (h : Smt w2 hb g0 g1 g2 db eb kd ke ρ θ ls vs X) (hB : Below X.heap.size X X') (hG : GB X' X.heap.size 46 cs) : Smt w2 hb g0 g1 g2 db eb kd ke ρ θ ls ((X.heap.size, cs) :: vs) X' := by
  have h' := h.below hB
  obtain ⟨⟨F, G, T, h1, h2, h3, h4, h5, h6⟩, va, hh, gz, ok, bl⟩ := h
  have hl := hh.lt
  have hz := bl.size
  refine ⟨⟨F, G, T, h1.below hB, h2.below hB, h3, fun b hb => ?_, fun b hb => ?_, fun a ha => ⟨(h6 a ha).1.below hB, (h6 a ha).2⟩⟩, ?_, h'.h, gz, ok, h'.bl⟩
  · obtain ⟨k1, k2, k3, k4, k5, k6, k7⟩ := h4 b hb
    refine ⟨k1, k2, k3, k4, k5, k6, fun hm => ?_⟩
    rcases List.mem_cons.1 hm with e | hm
    · rcases hb with hb | hb
      · have := drat_lt h1 b hb
        simp only at e
        omega
      · have := drat_lt h2 b hb
        simp only at e
        omega
    · exact k7 hm
  · obtain ⟨k1, k2, k3, k4, k5⟩ := h5 b hb
    refine ⟨Nat.lt_of_lt_of_le k1 hB.size, k2, k3, k4, fun hm => ?_⟩
    rcases List.mem_cons.1 hm with e | hm
    · simp only at e
      omega
    · exact k5 hm
  · intro q hq
    rcases List.mem_cons.1 hq with rfl | hq
    · exact ⟨hG, by simp only; omega, by simp only; omega, by simp only; omega, by simp only; omega, by simp only; omega⟩
    · exact h'.va q hq
theorem tn_grown {w w' : World} {g : Nat} (h : w.grownBy w' (some g)) : Tn (fun b => b = g) w w' := ⟨h.os, h.tape, h.output, h.size, fun k hk hn => h.block k hk (fun e => hn (by injection e))⟩
/-- A variable is written anew with what it holds. -/
theorem Smt.again {X' : World} {g : Nat} {cs : Array Value} (h : Smt w2 hb g0 g1 g2 db eb kd ke ρ θ ls vs X) (hm : (g, cs) ∈ vs) (hg : X.grownBy X' (some g)) (hG : GB X' g 46 cs) : Smt w2 hb g0 g1 g2 db eb kd ke ρ θ ls vs X' := by
  obtain ⟨⟨F, G, T, h1, h2, h3, h4, h5, h6⟩, va, hh, gz, ok, bl⟩ := h
  have hT := tn_grown hg
  have hv : g ∈ vs.map (·.1) := List.mem_map.2 ⟨_, hm, rfl⟩
  have nF : ∀ b, F b ∨ G b → ¬ b = g := fun b hb e => (h4 b hb).2.2.2.2.2.2 (e ▸ hv)
  have nT : ∀ b, T b → ¬ b = g := fun b hb e => (h5 b hb).2.2.2.2 (e ▸ hv)
  have hq := va _ hm
  refine ⟨⟨F, G, T, h1.tn hT (fun b hb => nF b (.inl hb)), h2.tn hT (fun b hb => nF b (.inr hb)), h3, h4, fun b hb => ⟨Nat.lt_of_lt_of_le (h5 b hb).1 hT.size, (h5 b hb).2⟩, fun a ha => ?_⟩, fun q hq' => ?_, hh.keep ?_, gz, ok, tn_bel bl hT (fun b e => by have := hq.2.1; simp only at this; omega)⟩
  · obtain ⟨k1, k2, k3, k4⟩ := h6 a ha
    exact ⟨k1.tn hT (fun b o e => nT b (k2 b o e)) (fun b o e => nT b (k3 b o e)) (fun b o e => nT b (k4 b o e)), k2, k3, k4⟩
  · refine ⟨?_, (va q hq').2⟩
    by_cases e : q.1 = g
    · have h8 := (va q hq').1
      have h9 := hq.1
      rw [e] at h8 ⊢
      unfold GB at h8 h9
      rw [h8] at h9
      injection h9 with h9
      injection h9 with h9
      rw [h9]
      exact hG
    · exact (va q hq').1.tn hT e
  · obtain ⟨l0, l1, l2, l3⟩ := hh.lt
    have hn := hq.2.2
    rintro b (rfl | rfl | rfl | rfl)
    · exact hT.block _ l0 (fun e => hn.1 e.symm)
    · exact hT.block _ l1 (fun e => hn.2.1 e.symm)
    · exact hT.block _ l2 (fun e => hn.2.2.1 e.symm)
    · exact hT.block _ l3 (fun e => hn.2.2.2 e.symm)
section
attribute [local irreducible] Calls GB Ac.v DrAt
theorem Smt.filled (h : Smt w2 hb g0 g1 g2 db eb kd ke ρ θ ls vs X) (k : Int) (s : Ac) (l : Al) (mo : Nat) (hmo : mo ≤ 1) (hA : AcAt w2 s l) (b0 : s.nd ≤ 4096) (b1 : s.nq ≤ 64) (b2 : s.nr ≤ 64) : Calls Try.prog 32 #[.pointer (some ⟨hb, 0, none⟩), .agg (s.v k), .int .u8 (mo : Int)] X fun e w' => e = .returned (.tuple #[.agg ((fAc s g0 g1 g2).v k), .bool true]) ∧ Smt w2 hb g0 g1 g2 db eb kd ke ρ θ ls vs w' ∧ AcAt w' (fAc s g0 g1 g2) (flA mo l) := by
  obtain ⟨⟨F, G, T, h1, h2, h3, h4, h5, h6⟩, va, hh, gz, ok, bl⟩ := h
  have hg : ∀ b, (b = g0 ∨ b = g1 ∨ b = g2) → w2.heap.size ≤ b := by
    rintro b (rfl | rfl | rfl)
    · exact gz.2.1
    · exact gz.2.2.1
    · exact gz.2.2.2
  refine (filled_ok hh k s l mo hmo (fun Y hY => hA.below (tn_bel bl hY hg)) b0 b1 b2).mono ?_
  rintro e w' ⟨rfl, hT, hH, hL⟩
  have nF : ∀ b, F b ∨ G b → ¬ (b = g0 ∨ b = g1 ∨ b = g2) := fun b hb hc => by
    have := h4 b hb
    omega
  have nT : ∀ b, T b → ¬ (b = g0 ∨ b = g1 ∨ b = g2) := fun b hb hc => by
    have := h5 b hb
    omega
  refine ⟨rfl, ⟨⟨F, G, T, h1.tn hT (fun b hb => nF b (.inl hb)), h2.tn hT (fun b hb => nF b (.inr hb)), h3, h4, fun b hb => ⟨Nat.lt_of_lt_of_le (h5 b hb).1 hT.size, (h5 b hb).2⟩, fun a ha => ?_⟩, fun q hq => ⟨(va q hq).1.tn hT (fun hc => by have := (va q hq).2; omega), (va q hq).2⟩, hH, gz, ok, tn_bel bl hT hg⟩, hL⟩
  obtain ⟨k1, k2, k3, k4⟩ := h6 a ha
  exact ⟨k1.tn hT (fun b o e => nT b (k2 b o e)) (fun b o e => nT b (k3 b o e)) (fun b o e => nT b (k4 b o e)), k2, k3, k4⟩
theorem Smt.twin (h : Smt w2 hb g0 g1 g2 db eb kd ke ρ θ ls vs X) (k : Int) (s : Ac) (l : Al) (hA : AcAt X s l) : Calls Try.prog 33 #[.agg (s.v k)] X fun e w' => ∃ s', e = .returned (.agg (s'.v k)) ∧ (s'.x = s.x ∧ s'.y = s.y ∧ s'.n = s.n) ∧ Smt w2 hb g0 g1 g2 db eb kd ke ρ θ ((s', l) :: ls) vs w' ∧ AcAt w' s l := by
  refine (twin_any k s l hA).mono ?_
  rintro e w' ⟨s', rfl, hR, hB⟩
  have h' := h.below hB
  obtain ⟨⟨F, G, T, h1, h2, h3, h4, h5, h6⟩, va, hh, gz, ok, bl⟩ := h
  have hz := hB.size
  have hl := hh.lt
  refine ⟨s', rfl, hR.x, ⟨⟨F, G, fun b => T b ∨ (X.heap.size ≤ b ∧ b < w'.heap.size), h1.below hB, h2.below hB, h3, fun b hb => ?_, ?_, ?_⟩, h'.va, h'.h, gz, ok, h'.bl⟩, hA.below hB⟩
  · obtain ⟨k1, k2, k3⟩ := h4 b hb
    refine ⟨k1, fun hc => ?_, k3⟩
    rcases hc with hc | hc
    · exact k2 hc
    · rcases hb with hb | hb
      · have := drat_lt h1 b hb; omega
      · have := drat_lt h2 b hb; omega
  · rintro b (hb | hb)
    · have := h5 b hb
      exact ⟨by omega, this.2⟩
    · refine ⟨by omega, by omega, by omega, by omega, fun hm => ?_⟩
      obtain ⟨q, hq, e⟩ := List.mem_map.1 hm
      have := (va q hq).1.lt
      omega
  · intro a ha
    rcases List.mem_cons.1 ha with rfl | ha
    · exact ⟨hR.at', fun b o e => .inr (hR.pn b o e), fun b o e => .inr (hR.qn b o e), fun b o e => .inr (hR.rn b o e)⟩
    · obtain ⟨k1, k2, k3, k4⟩ := h6 a ha
      exact ⟨k1.below hB, fun b o e => .inl (k2 b o e), fun b o e => .inl (k3 b o e), fun b o e => .inl (k4 b o e)⟩
theorem Smt.bare (h : Smt w2 hb g0 g1 g2 db eb kd ke ρ θ ls vs X) (hk : kd ≤ 134217728) (k : Int) (s : Ac) (l : Al) (hA : AcAt X s l) (hO : (s, l) ∈ ls ∨ ∃ s0, s = fAc s0 g0 g1 g2) : Calls Try.prog 34 #[.pointer (some ⟨db, 0, none⟩), .agg (s.v k)] X fun e w' => e = .returned (.int .i64 (ρ.act k s.x s.y s.n l).1) ∧ Smt w2 hb g0 g1 g2 db eb (kd + (2 + l.d.length + l.dirs.length)) ke (ρ.act k s.x s.y s.n l).2 θ ls vs w' := by
  obtain ⟨⟨F, G, T, h1, h2, h3, h4, h5, h6⟩, va, hh, gz, ok, bl⟩ := h
  have hl := hh.lt
  have nn : (∀ b o, s.pd = some ⟨b, o, none⟩ → ¬ F b) ∧ (∀ b o, s.qd = some ⟨b, o, none⟩ → ¬ F b) ∧ (∀ b o, s.rd = some ⟨b, o, none⟩ → ¬ F b) := by
    rcases hO with hm | ⟨s0, rfl⟩
    · obtain ⟨_, k2, k3, k4⟩ := h6 _ hm
      exact ⟨fun b o e hb => (h4 b (.inl hb)).2.1 (k2 b o e), fun b o e hb => (h4 b (.inl hb)).2.1 (k3 b o e), fun b o e hb => (h4 b (.inl hb)).2.1 (k4 b o e)⟩
    · refine ⟨fun b o e hb => ?_, fun b o e hb => ?_, fun b o e hb => ?_⟩
      all_goals
        have := h4 b (.inl hb)
        simp only [fAc, Option.some.injEq, Addr.mk.injEq] at e
        omega
  refine (bare_any h1 ok.1 hk k s l (fun Y hY => hA.tn hY nn.1 nn.2.1 nn.2.2) nn.1 nn.2.2).mono ?_
  rintro e w' ⟨rfl, hD, hT⟩
  have hz := hT.size
  have nG : ∀ b, G b → ¬ F b := fun b hb hf => h3 b hf hb
  refine ⟨rfl, ⟨⟨Fn F X w', G, T, hD, h2.tn hT nG, ?_, ?_, fun b hb => ⟨Nat.lt_of_lt_of_le (h5 b hb).1 hz, (h5 b hb).2⟩, fun a ha => ?_⟩, fun q hq => ⟨(va q hq).1.tn hT (fun hf => (h4 _ (.inl hf)).2.2.2.2.2.2 (List.mem_map.2 ⟨q, hq, rfl⟩)), (va q hq).2⟩, hh.keep ?_, gz, ⟨ok.1.act hk h1 (k, s, l), ok.2⟩, tn_bel bl hT (fun b hb => (h4 b (.inl hb)).1)⟩⟩
  · rintro b (hb | hb) hg
    · exact h3 b hb hg
    · have := drat_lt h2 b hg; omega
  · rintro b ((hb | hb) | hb)
    · exact h4 b (.inl hb)
    · have hs := bl.size
      refine ⟨by omega, fun ht => ?_, by omega, by omega, by omega, by omega, fun hm => ?_⟩
      · have := h5 b ht; omega
      · obtain ⟨q, hq, e⟩ := List.mem_map.1 hm
        have := (va q hq).1.lt
        omega
    · exact h4 b (.inr hb)
  · obtain ⟨k1, k2, k3, k4⟩ := h6 a ha
    have nT : ∀ b, T b → ¬ F b := fun b hb hf => (h4 b (.inl hf)).2.1 hb
    exact ⟨k1.tn hT (fun b o e => nT b (k2 b o e)) (fun b o e => nT b (k3 b o e)) (fun b o e => nT b (k4 b o e)), k2, k3, k4⟩
  · have nf : ∀ b, (b = hb ∨ b = g0 ∨ b = g1 ∨ b = g2) → ¬ F b := fun b hb hf => by
      have := h4 b (.inl hf); omega
    intro b hb
    exact hT.block b (by omega) (nf b hb)
theorem Smt.acts (h : Smt w2 hb g0 g1 g2 db eb kd ke ρ θ ls vs X) {s : Ac} {l : Al} (hm : (s, l) ∈ ls) : AcAt X s l := by
  obtain ⟨F, G, T, h1, h2, h3, h4, h5, h6⟩ := h.ex
  exact (h6 _ hm).1
theorem Smt.image (h : Smt w2 hb g0 g1 g2 db eb kd ke ρ θ ls vs X) (hk : kd ≤ 134217728) : Calls Try.prog 24 #[.pointer (some ⟨db, 0, none⟩)] X fun e w' => ∃ v, e = .returned v ∧ FsAt w' X.heap.size v (tol ρ (·.data) ρ.st) ∧ Below X.heap.size X w' := by
  obtain ⟨F, G, T, h1, _⟩ := h.ex
  exact image_any h1 h.ok.1 hk
theorem Smt.safe (h : Smt w2 hb g0 g1 g2 db eb kd ke ρ θ ls vs X) (hk : kd ≤ 134217728) : Calls Try.prog 28 #[.pointer (some ⟨db, 0, none⟩)] X fun e w' => ∃ v, e = .returned v ∧ FsAt w' X.heap.size v (tol ρ (fun b => b.data.take b.safe) ρ.sf) ∧ Below X.heap.size X w' := by
  obtain ⟨F, G, T, h1, _⟩ := h.ex
  exact safe_any h1 h.ok.1 hk
theorem Smt.pending (h : Smt w2 hb g0 g1 g2 db eb kd ke ρ θ ls vs X) : Calls Try.prog 22 #[.pointer (some ⟨db, 0, none⟩)] X fun e w' => e = .returned (.int .i64 (ρ.pend.length : Int)) ∧ w' = X := by
  obtain ⟨F, G, T, h1, _⟩ := h.ex
  exact pending_any h1
end
end
section
variable {w2 X : World} {hb g0 g1 g2 db eb kd ke : Nat} {ρ θ : Ds} {ls : List (Ac × Al)} {vs : List (Nat × Array Value)}
theorem Smt.gb (h : Smt w2 hb g0 g1 g2 db eb kd ke ρ θ ls vs X) {g : Nat} {cs : Array Value} (hm : (g, cs) ∈ vs) : GB X g 46 cs := (h.va _ hm).1
theorem Smt.againA {X' : World} {g : Nat} {cs : Array Value} (h : Smt w2 hb g0 g1 g2 db eb kd ke ρ θ ls vs X) (hm : (g, cs) ∈ vs) (hg : X.grownBy X' (some g)) {s : Ac} {l : Al} (hA : AcAt X (fAc s g0 g1 g2) l) : AcAt X' (fAc s g0 g1 g2) l := by
  have hq := (h.va _ hm).2.2.2
  simp only at hq
  refine hA.tn (tn_grown hg) (fun b o e => ?_) (fun b o e => ?_) (fun b o e => ?_)
  all_goals
    simp only [fAc, Option.some.injEq, Addr.mk.injEq] at e
    omega
theorem flA_len (mo : Nat) (l : Al) : (flA mo l).d.length = l.d.length ∧ (flA mo l).dirs.length = l.dirs.length := by simp [flA]
section
attribute [local irreducible] Calls GB Ac.v DrAt
theorem Smt.filled0 (h : Smt w2 hb g0 g1 g2 db eb kd ke ρ θ ls vs X) (k : Int) (s : Ac) (l : Al) (hA : AcAt w2 s l) (b0 : s.nd ≤ 4096 ∧ s.nq ≤ 64 ∧ s.nr ≤ 64) : Calls Try.prog 32 #[.pointer (some ⟨hb, 0, none⟩), .agg (s.v k), .int .u8 0] X fun e w' => e = .returned (.tuple #[.agg ((fAc s g0 g1 g2).v k), .bool true]) ∧ Smt w2 hb g0 g1 g2 db eb kd ke ρ θ ls vs w' ∧ AcAt w' (fAc s g0 g1 g2) (flA 0 l) := h.filled k s l 0 (by decide) hA b0.1 b0.2.1 b0.2.2
theorem Smt.filled1 (h : Smt w2 hb g0 g1 g2 db eb kd ke ρ θ ls vs X) (k : Int) (s : Ac) (l : Al) (hA : AcAt w2 s l) (b0 : s.nd ≤ 4096 ∧ s.nq ≤ 64 ∧ s.nr ≤ 64) : Calls Try.prog 32 #[.pointer (some ⟨hb, 0, none⟩), .agg (s.v k), .int .u8 1] X fun e w' => e = .returned (.tuple #[.agg ((fAc s g0 g1 g2).v k), .bool true]) ∧ Smt w2 hb g0 g1 g2 db eb kd ke ρ θ ls vs w' ∧ AcAt w' (fAc s g0 g1 g2) (flA 1 l) := h.filled k s l 1 (by decide) hA b0.1 b0.2.1 b0.2.2
theorem Smt.filledN (h : Smt w2 hb g0 g1 g2 db eb kd ke ρ θ ls vs X) (k : Int) (s : Ac) (b0 : ¬ (s.nd ≤ 4096 ∧ s.nq ≤ 64 ∧ s.nr ≤ 64)) : Calls Try.prog 32 #[.pointer (some ⟨hb, 0, none⟩), .agg (s.v k), .int .u8 0] X fun e w' => e = .returned (.tuple #[.agg (s.v k), .bool false]) ∧ Below X.heap.size X w' := filled_no h.h k s 0 b0
theorem Smt.bd (h : Smt w2 hb g0 g1 g2 db eb kd ke ρ θ ls vs X) (hk : kd ≤ 134217728) (k : Int) (s : Ac) (l : Al) (mo : Nat) (hA : AcAt X (fAc s g0 g1 g2) (flA mo l)) {c1 : Int} {ρ1 : Ds} (hc : c1 = (ρ.act k s.x s.y s.n (flA mo l)).1) (hr : ρ1 = (ρ.act k s.x s.y s.n (flA mo l)).2) : Calls Try.prog 34 #[.pointer (some ⟨db, 0, none⟩), .agg ((fAc s g0 g1 g2).v k)] X fun e w' => e = .returned (.int .i64 c1) ∧ Smt w2 hb g0 g1 g2 db eb (kd + (2 + l.d.length + l.dirs.length)) ke ρ1 θ ls vs w' := by
  have h9 := h.bare hk k (fAc s g0 g1 g2) (flA mo l) hA (.inr ⟨s, rfl⟩)
  rw [(flA_len mo l).1, (flA_len mo l).2] at h9
  rw [hc, hr]
  exact h9
theorem Smt.be (h : Smt w2 hb g0 g1 g2 db eb kd ke ρ θ ls vs X) (hk : ke ≤ 134217728) (k : Int) (s : Ac) (l : Al) (mo : Nat) (s1 : Ac) (hm : (s1, flA mo l) ∈ ls) (hx : s1.x = s.x ∧ s1.y = s.y ∧ s1.n = s.n) {c1 : Int} {θ1 : Ds} (hc : c1 = (θ.act k s.x s.y s.n (flA mo l)).1) (hr : θ1 = (θ.act k s.x s.y s.n (flA mo l)).2) : Calls Try.prog 34 #[.pointer (some ⟨eb, 0, none⟩), .agg (s1.v k)] X fun e w' => e = .returned (.int .i64 c1) ∧ Smt w2 hb g0 g1 g2 db eb kd (ke + (2 + l.d.length + l.dirs.length)) ρ θ1 ls vs w' := by
  have h9 := h.swap.bare hk k s1 (flA mo l) (h.acts hm) (.inl hm)
  rw [(flA_len mo l).1, (flA_len mo l).2, hx.1, hx.2.1, hx.2.2] at h9
  rw [hc, hr]
  refine h9.mono ?_
  rintro e w' ⟨h1, h2⟩
  exact ⟨h1, h2.swap⟩
end
end
theorem st_few {ρ : Ds} {m : Nat} (hi : Iv ρ) (h : Sn m ρ) : (nms ρ.st).length ≤ m := by
  have h1 : ∀ (l : List (List Ld)) (D : Dir), Tidy D → (∀ c ∈ l, ∀ D : Dir, Tidy D → Maps.size (fol D c) ≤ Maps.size D + 1) → Tidy (l.foldl fol D) ∧ Maps.size (l.foldl fol D) ≤ Maps.size D + l.length := by
    intro l
    induction l with
    | nil => intro D hD _; exact ⟨hD, Nat.le_refl _⟩
    | cons c l ih =>
      intro D hD hc
      have h2 := hc c (by simp) D hD
      obtain ⟨h3, h4⟩ := ih (fol D c) (fol_tidy hD c).1 (fun c' hc' => hc c' (by simp [hc']))
      refine ⟨h3, ?_⟩
      simp only [List.foldl_cons, List.length_cons]
      omega
  obtain ⟨h2, h3⟩ := h1 ρ.pend ρ.sf hi.td.t h.on
  rw [← hi.eq] at h2 h3
  rw [← size_nms h2]
  have := h.sz
  omega
/-- A drive that was loaded: of these blocks, with these files. -/
def Ldd (L : List (Tx × Tx)) (a b dbl : Nat) (X : World) : Prop := ∃ σ : Ds, DrAt X dbl σ (fun g => a ≤ g ∧ g < b) ∧ NN σ.st ∧ Maps.size σ.st ≤ 1000000000 ∧ (∀ i, (σ.body i).data.length ≤ 140737488355328) ∧ tol σ (·.data) σ.st = L
theorem Ldd.below {L : List (Tx × Tx)} {a b dbl : Nat} {X X' : World} (h : Ldd L a b dbl X) (hB : Below X.heap.size X X') : Ldd L a b dbl X' := by
  obtain ⟨σ, h1, h2⟩ := h
  exact ⟨σ, h1.below hB, h2⟩
theorem Ldd.tn {L : List (Tx × Tx)} {a b dbl : Nat} {X X' : World} {F : Nat → Prop} (h : Ldd L a b dbl X) (hT : Tn F X X') (hF : ∀ g, a ≤ g → g < b → ¬ F g) : Ldd L a b dbl X' := by
  obtain ⟨σ, h1, h2⟩ := h
  exact ⟨σ, h1.tn hT (fun g hg => hF g hg.1 hg.2), h2⟩
theorem Ldd.image {L : List (Tx × Tx)} {a b dbl : Nat} {X : World} (h : Ldd L a b dbl X) : Calls Try.prog 24 #[.pointer (some ⟨dbl, 0, none⟩)] X fun e w' => ∃ v, e = .returned v ∧ FsAt w' X.heap.size v L ∧ Below X.heap.size X w' := by
  obtain ⟨σ, h1, h2, h3, h4, h5⟩ := h
  rw [← h5]
  exact image_gen h1 h2 h3 h4
theorem Ldd.wipe {L : List (Tx × Tx)} {a b dbl : Nat} {X : World} (h : Ldd L a b dbl X) : Calls Try.prog 35 #[.pointer (some ⟨dbl, 0, none⟩)] X fun e w' => e = .returned (.int .i64 0) ∧ Tn (fun g => a ≤ g ∧ g < b) X w' := by
  obtain ⟨σ, h1, _⟩ := h
  refine (wipe_any h1).mono ?_
  rintro e w' ⟨e1, _, h3⟩
  exact ⟨e1, h3⟩
theorem info_dr : (Try.prog.info? 89).map (fun i => i.size) = some 5 := by kernel_rfl
theorem Ldd.blk {L : List (Tx × Tx)} {a b dbl : Nat} {X : World} (h : Ldd L a b dbl X) : ∃ c t, X.heap[dbl]? = some (.cells c t (0, 0)) := by
  obtain ⟨σ, h1, _⟩ := h
  obtain ⟨_, _, m, rv, st, sf, pv, S, _⟩ := h1
  exact ⟨_, _, S⟩
theorem ptr_ne {L L' : List (Tx × Tx)} {a b a' b' fb gb : Nat} {X : World} (hf : Ldd L a b fb X) (hg : Ldd L' a' b' gb X) (h : fb ≠ gb) : (binOp .eql 34 (.pointer (some ⟨fb, 0, none⟩)) (.pointer (some ⟨gb, 0, none⟩))).run Try.prog X = .ok (.bool false) X := by
  obtain ⟨c, t, k1⟩ := hf.blk
  obtain ⟨c', t', k2⟩ := hg.blk
  have h9 := info_dr
  cases e : Try.prog.info? 89 with
  | none => rw [e] at h9; cases h9
  | some i =>
    rw [e] at h9
    have h8 : i.size = 5 := by simpa using h9
    exact run_eql_ptr_other X Try.underlying34 e (by omega) (fun e9 => h (by injection e9)) k1 k2
theorem fsz_get (L : List (Tx × Tx)) (i : Nat) (hi : i < L.length) : (L.getD i ([], [])).2.length ≤ fsz L := by
  unfold fsz
  induction L generalizing i with
  | nil => simp at hi
  | cons x l ih =>
    simp only [List.map_cons, List.sum_cons]
    cases i with
    | zero => simp only [List.getD_cons_zero]; omega
    | succ i =>
      have := ih i (by simpa using hi)
      simp only [List.getD_cons_succ]
      omega
theorem fsz_len (L : List (Tx × Tx)) : L.length ≤ fsz L := by
  unfold fsz
  induction L with
  | nil => simp
  | cons x l ih => simp only [List.map_cons, List.sum_cons, List.length_cons]; omega
theorem load_ok {X : World} {b : Nat} {p : Option Addr} {n c : Nat} {L : List (Tx × Tx)} {D : Dir} (hF : FsAt X b (.slice p n c) L) (hn : L.length = n) (ht : Td D) (hN : ∀ x i, lk D x = some i → isN x = true) (hL : L.map (·.1) = nms D) (hz : fsz L ≤ 140737488355328) (hl : L.length ≤ 100000000) : Calls Try.prog 29 #[.int .i64 1048576, .slice p n c] X fun e w' => ∃ dbl, e = .returned (.pointer (some ⟨dbl, 0, none⟩)) ∧ Ldd L X.heap.size w'.heap.size dbl w' ∧ Below X.heap.size X w' ∧ X.heap.size ≤ dbl ∧ dbl < w'.heap.size := by
  obtain ⟨σ, h1, h2, h3, h4⟩ := load_whole ht hL hN (room := 1048576) (by decide)
  have hk := (load_okk h1).1
  have hx : ∀ f ∈ L, f.1.length ≤ 134217728 := fun f hf => by
    have h9 : f.1 ∈ nms D := by rw [← hL]; exact List.mem_map.2 ⟨f, hf, rfl⟩
    obtain ⟨i, hi⟩ := ht.mem.1 h9
    have h8 := hN _ i hi
    unfold isN at h8
    simp at h8
    omega
  refine (load_any 1048576 p n c L hF.fl hn hz hx (by omega)).mono ?_
  rintro e w' ⟨hl' | ⟨σ', dbl, hl', rfl, hd⟩, hB⟩
  · rw [h1] at hl'; cases hl'.1
  · rw [h1] at hl'
    injection hl' with hl'
    subst hl'
    have e9 := h4 (·.data) (fun d => rfl)
    exact ⟨dbl, rfl, ⟨σ, hd, hk.nn, by rw [size_nms hk.ts, ← tol_len σ (·.data), e9]; omega, fun i => Nat.le_trans (hk.bl i) hz, e9⟩, hB, hd.1.1, hd.1.2⟩
/-- A hand is made. -/
theorem hnd_mk {W : World} {g0 g1 g2 : Nat} (k0 : ∃ c : Array Value, W.heap[g0]? = some (.cells c 5 (0, 0)) ∧ c.size = 4096) (k1 : ∃ c : Array Value, W.heap[g1]? = some (.cells c 4 (0, 0)) ∧ c.size = 64) (k2 : ∃ c : Array Value, W.heap[g2]? = some (.cells c 3 (0, 0)) ∧ c.size = 64) : Hnd (W.alloc (.cells (hdC g0 g1 g2) 77)) W.heap.size g0 g1 g2 := by
  have hB := alb W (.cells (hdC g0 g1 g2) 77)
  obtain ⟨c0, a0, b0⟩ := k0
  obtain ⟨c1, a1, b1⟩ := k1
  obtain ⟨c2, a2, b2⟩ := k2
  exact ⟨GB.new W _ _, ⟨c0, (hB.block _ (blt a0)).trans a0, b0⟩, ⟨c1, (hB.block _ (blt a1)).trans a1, b1⟩, ⟨c2, (hB.block _ (blt a2)).trans a2, b2⟩⟩
theorem info_u8 : (Try.prog.info? 5).map (fun i => (i.zero, i.size, i.bytes)) = some (some (.int .u8 0), 1, 1) := by kernel_rfl
theorem mk_h {t te : TypeId} {z : Value} {by' : Nat} (hu : Try.prog.underlying t = some (.slice te)) (hf : (Try.prog.info? te).map (fun i => (i.zero, i.size, i.bytes)) = some (some z, 1, by')) (n : Nat) (hb : by' * n ≤ 281474976710656) (hn : n ≤ 1000000000) : ∃ c : Array Value, c.size = n ∧ ∀ w : World, (Instr.makeSlice t (.int .i64 (n : Int)) (.int .i64 (n : Int))).run Try.prog w = .ok (.slice (some ⟨w.heap.size, 0, none⟩) n n) (w.alloc (.cells c te)) := by
  obtain ⟨i0, hi, hz0, hz1, hz2⟩ := info_parts hf
  refine ⟨madeCells z.cells n, size_madeCells _ _, fun w => ?_⟩
  have hb9 : (i0.bytes : Int) * (n : Int) ≤ 281474976710656 := by
    rw [hz2]
    have h9 : ((by' * n : Nat) : Int) ≤ 281474976710656 := by omega
    rwa [Int.natCast_mul] at h9
  have h := run_make (P := Try.prog) w t te i0 z hu hi hz0 .i64 .i64 (n : Int) (n : Int) (by omega) (by omega) hb9 (by omega)
  rw [hz1, Nat.mul_one] at h
  simpa using h
theorem make_h0 : ∃ c : Array Value, c.size = 4096 ∧ ∀ w : World, (Instr.makeSlice 26 (.int .i64 4096) (.int .i64 4096)).run Try.prog w = .ok (.slice (some ⟨w.heap.size, 0, none⟩) 4096 4096) (w.alloc (.cells c 5)) := mk_h Try.underlying26 info_u8 4096 (by decide) (by decide)
theorem make_h1 : ∃ c : Array Value, c.size = 64 ∧ ∀ w : World, (Instr.makeSlice 27 (.int .i64 64) (.int .i64 64)).run Try.prog w = .ok (.slice (some ⟨w.heap.size, 0, none⟩) 64 64) (w.alloc (.cells c 4)) := mk_h Try.underlying27 infoB 64 (by decide) (by decide)
theorem make_h2 : ∃ c : Array Value, c.size = 64 ∧ ∀ w : World, (Instr.makeSlice 28 (.int .i64 64) (.int .i64 64)).run Try.prog w = .ok (.slice (some ⟨w.heap.size, 0, none⟩) 64 64) (w.alloc (.cells c 3)) := mk_h Try.underlying28 infoI 64 (by decide) (by decide)
theorem al_new (w : World) (o : Obj) : (w.alloc o).heap[w.heap.size]? = some o := heap_alloc_new w o
theorem al_old {w : World} {o : Obj} {g : Nat} {x : Obj} (h : w.heap[g]? = some x) : (w.alloc o).heap[g]? = some x := ((alb w o).block g (blt h)).trans h
theorem al3 (w : World) (a b c : Obj) : (((w.alloc a).alloc b).alloc c).heap[w.heap.size]? = some a ∧ (((w.alloc a).alloc b).alloc c).heap[w.heap.size + 1]? = some b ∧ (((w.alloc a).alloc b).alloc c).heap[w.heap.size + 1 + 1]? = some c ∧ (((w.alloc a).alloc b).alloc c).heap.size = w.heap.size + 1 + 1 + 1 := by
  have h1 : (w.alloc a).heap.size = w.heap.size + 1 := by simp
  have h2 : ((w.alloc a).alloc b).heap.size = w.heap.size + 1 + 1 := by simp
  refine ⟨al_old (al_old (al_new w a)), ?_, ?_, by simp⟩
  · have h9 := al_new (w.alloc a) b
    rw [h1] at h9
    exact al_old h9
  · have h9 := al_new ((w.alloc a).alloc b) c
    rw [h2] at h9
    exact h9
theorem hand_new (w : World) (a b c : Obj) (x y z : Nat) (hx : w.heap.size ≤ x ∧ w.heap.size ≤ y ∧ w.heap.size ≤ z) (k0 : ∃ c0 : Array Value, (((w.alloc a).alloc b).alloc c).heap[x]? = some (.cells c0 5 (0, 0)) ∧ c0.size = 4096) (k1 : ∃ c0 : Array Value, (((w.alloc a).alloc b).alloc c).heap[y]? = some (.cells c0 4 (0, 0)) ∧ c0.size = 64) (k2 : ∃ c0 : Array Value, (((w.alloc a).alloc b).alloc c).heap[z]? = some (.cells c0 3 (0, 0)) ∧ c0.size = 64) : ∃ hb g0 g1 g2 : Nat, Value.pointer (some ⟨w.heap.size + 1 + 1 + 1, 0, none⟩) = .pointer (some ⟨hb, 0, none⟩) ∧ Hid (Hnd ((((w.alloc a).alloc b).alloc c).alloc (.cells #[.slice (some ⟨x, 0, none⟩) 4096 4096, .slice (some ⟨y, 0, none⟩) 64 64, .slice (some ⟨z, 0, none⟩) 64 64] 77)).drew hb g0 g1 g2 ∧ Below w.heap.size w ((((w.alloc a).alloc b).alloc c).alloc (.cells #[.slice (some ⟨x, 0, none⟩) 4096 4096, .slice (some ⟨y, 0, none⟩) 64 64, .slice (some ⟨z, 0, none⟩) 64 64] 77)).drew ∧ w.heap.size ≤ hb ∧ w.heap.size ≤ g0 ∧ w.heap.size ≤ g1 ∧ w.heap.size ≤ g2) := by
  have h9 := hnd_mk k0 k1 k2
  rw [(al3 w a b c).2.2.2] at h9
  exact ⟨_, x, y, z, rfl, h9.keep (fun _ _ => rfl), (bt (bt (bt (alb w a) (alb _ b)) (alb _ c)) (alb _ _)).drew, by omega, hx⟩
/-- A row of bytes behind a byte that is written, wherever. -/
theorem ob_over {w : World} {base : Nat} {v : Value} {d : Tx} (h : Ob w base v d) (g j : Nat) (y : UInt8) : ∃ d', Ob (w.setCell ⟨g, j, none⟩ (u8v y)) base v d' ∧ d'.length = d.length := by
  by_cases e : v.ownBlock = some g
  · rcases h.2 with ⟨hv, h1⟩ | ⟨g', cap, cur, hv, _⟩
    · rw [hv] at e; cases e
    · subst hv
      injection e with e
      have e' : g' = g := e
      subst e'
      exact ⟨d.set j y, ob_set h j y, by simp⟩
  · exact ⟨d, ob_same h (fun b hb => Below.heap_setCell _ _ _ _ (fun e2 => e (by rw [hb, e2]))), rfl⟩
/-- A list of files behind a byte that is written into a row. -/
theorem FsAt.over {w : World} {base : Nat} {v : Value} {L : List (Tx × Tx)} (h : FsAt w base v L) (g j : Nat) (y : UInt8) (hg : ∃ c, w.heap[g]? = some (.cells c 5 (0, 0))) : ∃ L', FsAt (w.setCell ⟨g, j, none⟩ (u8v y)) base v L' ∧ L'.map (·.1) = L.map (·.1) ∧ L'.map (·.2.length) = L.map (·.2.length) := by
  obtain ⟨dv, h1, h2, h3⟩ := h.ex
  have h4 : ∀ i, ∃ d', i < L.length → Ob (w.setCell ⟨g, j, none⟩ (u8v y)) base (dv.getD i undef) d' ∧ d'.length = (L.getD i ([], [])).2.length := fun i => by
    by_cases hi : i < L.length
    · obtain ⟨d', a, b⟩ := ob_over (h3 i hi) g j y
      exact ⟨d', fun _ => ⟨a, b⟩⟩
    · exact ⟨[], fun h => absurd h hi⟩
  obtain ⟨f, hf⟩ := Classical.axiomOfChoice h4
  have hn : ((List.range L.length).map fun i => ((L.getD i ([], [])).1, f i)).map (·.1) = L.map (·.1) := by
    rw [List.map_map]
    refine List.ext_getElem (by simp) fun i a b => ?_
    have hi : i < L.length := by simpa using b
    simp [hi]
  refine ⟨(List.range L.length).map fun i => ((L.getD i ([], [])).1, f i), ⟨dv, by simp [h1], ?_, fun i hi => ?_⟩, hn, ?_⟩
  · rw [hn]
    have e1 : ((List.range L.length).map fun i => ((L.getD i ([], [])).1, f i)).length = L.length := by simp
    rw [e1]
    refine ob_same h2 (fun b hb => Below.heap_setCell _ _ _ _ (fun e2 => ?_))
    obtain ⟨c, hc⟩ := hg
    obtain ⟨_, _, cs, k1⟩ := own_lt h2 hb
    have e3 : b = g := e2
    rw [e3, hc] at k1
    injection k1 with k1
    injection k1 with _ k3
    exact absurd k3 (by decide)
  · have hi' : i < L.length := by simpa using hi
    have h9 := (hf i hi').1
    have e2 : (((List.range L.length).map fun i => ((L.getD i ([], [])).1, f i)).getD i ([], [])).2 = f i := by simp [List.getD, hi']
    rw [e2]
    exact h9
  · rw [List.map_map]
    refine List.ext_getElem (by simp) fun i a b => ?_
    have hi : i < L.length := by simpa using b
    have h9 := (hf i hi).2
    simp [List.getD, hi] at h9
    simp [h9]
theorem FsAt.row {w : World} {base : Nat} {v : Value} {L : List (Tx × Tx)} (h : FsAt w base v L) (i : Nat) (hi : i < L.length) : ∃ g c pd cd, v = .slice (some ⟨g, 0, none⟩) L.length c ∧ base ≤ g ∧ g < w.heap.size ∧ w.cell? ⟨g, i * 2 + 1, none⟩ = some (.slice pd (L.getD i ([], [])).2.length cd) ∧ Ob w base (.slice pd (L.getD i ([], [])).2.length cd) (L.getD i ([], [])).2 := by
  obtain ⟨dv, h1, h2, h3⟩ := h.ex
  obtain ⟨g, c, cur, e1, _, e2, e3⟩ := own_cell2 h2 i hi
  have hz : i < ((L.map (·.1)).zip dv).length := by simp [h1, hi]
  obtain ⟨f1, f2⟩ := flc_at _ i hz
  have hO := h3 i hi
  obtain ⟨p, c', hv⟩ := hO.len
  have e4 : ((L.map (·.1)).zip dv).getD i ([], undef) = ((L.getD i ([], [])).1, dv.getD i undef) := by
    have hd : i < dv.length := by omega
    rw [List.getD, List.getElem?_eq_getElem hz, List.getElem_zip]
    simp [hi, hd]
  rw [e4] at f1 f2
  obtain ⟨k1, k2, _⟩ := own_lt h2 (g := g) (by rw [e1]; rfl)
  refine ⟨g, c, p, c', e1, k1, k2, ?_, ?_⟩
  · rw [e3.trans f2, ← hv]
  · rw [← hv]; exact hO
/-- Files that lie in these blocks. -/
def Snp (a0 a1 : Nat) (v : Value) (L : List (Tx × Tx)) (X : World) : Prop := ∃ W : World, FsAt W a0 v L ∧ W.heap.size ≤ a1 ∧ ∀ g, a0 ≤ g → g < W.heap.size → X.heap[g]? = W.heap[g]?
theorem Snp.at' {a0 a1 : Nat} {v : Value} {L : List (Tx × Tx)} {X : World} (h : Snp a0 a1 v L X) : FsAt X a0 v L := by
  obtain ⟨W, h1, _, h3⟩ := h
  exact h1.keep h3
theorem Snp.keep {a0 a1 : Nat} {v : Value} {L : List (Tx × Tx)} {X X' : World} (h : Snp a0 a1 v L X) (hk : ∀ g, a0 ≤ g → g < a1 → X'.heap[g]? = X.heap[g]?) : Snp a0 a1 v L X' := by
  obtain ⟨W, h1, h2, h3⟩ := h
  exact ⟨W, h1, h2, fun g a b => (hk g a (by omega)).trans (h3 g a b)⟩
theorem Snp.write {a0 a1 : Nat} {v : Value} {L : List (Tx × Tx)} {X : World} (h : Snp a0 a1 v L X) (i j : Nat) (hi : i < L.length) (hj : j < (L.getD i ([], [])).2.length) : ∃ (g c gd cd : Nat) (z : UInt8), v = .slice (some ⟨g, 0, none⟩) L.length c ∧ X.cell? ⟨g, i * 2 + 1, none⟩ = some (.slice (some ⟨gd, 0, none⟩) (L.getD i ([], [])).2.length cd) ∧ X.cell? ⟨gd, j, none⟩ = some (.int .u8 (z.toNat : Int)) ∧ X.frozen? ⟨gd, j, none⟩ = false ∧ (a0 ≤ gd ∧ gd < a1) ∧ ∀ y : UInt8, ∃ L', Snp a0 a1 v L' (X.setCell ⟨gd, j, none⟩ (u8v y)) ∧ L'.map (·.1) = L.map (·.1) ∧ L'.map (·.2.length) = L.map (·.2.length) := by
  obtain ⟨W, h1, h2, h3⟩ := h
  obtain ⟨g, c, pd, cd, e1, e2, e3, e4, e5⟩ := h1.row i hi
  rcases e5.2 with ⟨hv, h0⟩ | ⟨gd, cap, cur, hv, k1, k2, k3, k4, k5, k6⟩
  · omega
  injection hv with q1 q2 q3
  subst q1 q3
  have hlt := blt k2
  have hX : X.heap[gd]? = some (.cells cur 5 (0, 0)) := (h3 gd k1 hlt).trans k2
  have hc : X.cell? ⟨gd, j, none⟩ = some (u8v ((L.getD i ([], [])).2.getD j 0)) := by
    rw [cell_of_row X gd j _ _ _ hX]
    have h9 : (cur.toList.take ((L.getD i ([], [])).2.length * 1))[j]? = some (u8v ((L.getD i ([], [])).2.getD j 0)) := by
      rw [k6, List.getElem?_map, List.getElem?_eq_getElem hj]
      rw [show (L.getD i ([], [])).2.getD j 0 = (L.getD i ([], [])).2[j] from by rw [List.getD, List.getElem?_eq_getElem hj]; rfl]
      rfl
    rw [List.getElem?_take, if_pos (by omega), Array.getElem?_toList] at h9
    exact h9
  refine ⟨g, c, gd, cd, _, e1, (cell_blk _ (h3 g e2 e3)).trans e4, hc, frozen_of_row X gd j _ _ hX, ⟨k1, by omega⟩, fun y => ?_⟩
  obtain ⟨L', m1, m2, m3⟩ := h1.over gd j y ⟨cur, k2⟩
  refine ⟨L', ⟨_, m1, by simpa using h2, fun b hb1 hb2 => ?_⟩, m2, m3⟩
  by_cases e : b = gd
  · subst e
    rw [heap_setCell_same X b j _ _ _ hX, heap_setCell_same W b j _ _ _ k2]
  · rw [Below.heap_setCell _ _ _ _ e, Below.heap_setCell _ _ _ _ e]
    exact h3 b hb1 (by simpa using hb2)
/-- While files are written over. -/
structure Wr (a0 a1 : Nat) (v : Value) (L : List (Tx × Tx)) (Y X : World) : Prop where
  sn : ∃ L', Snp a0 a1 v L' X ∧ L'.map (·.1) = L.map (·.1) ∧ L'.map (·.2.length) = L.map (·.2.length)
  tn : Tn (fun b => a0 ≤ b ∧ b < a1) Y X
theorem Wr.drew {a0 a1 : Nat} {v : Value} {L : List (Tx × Tx)} {Y X : World} (h : Wr a0 a1 v L Y X) : Wr a0 a1 v L Y X.drew := by
  obtain ⟨⟨L', h1, h2⟩, h3⟩ := h
  exact ⟨⟨L', h1.keep (fun _ _ _ => rfl), h2⟩, tn_drew h3⟩
theorem map_len {α β : Type} {L L' : List α} (f : α → β) (h : L'.map f = L.map f) : L'.length = L.length := by
  have := congrArg List.length h
  simpa using this
theorem map_getD {α β : Type} {L L' : List α} (f : α → β) (h : L'.map f = L.map f) (i : Nat) (x : α) : f (L'.getD i x) = f (L.getD i x) := by
  have h1 := congrArg (fun l => l[i]?) h
  simp only [List.getElem?_map] at h1
  simp only [List.getD]
  cases e : L[i]? with
  | none =>
    rw [e] at h1
    cases e' : L'[i]? with
    | none => rfl
    | some y => rw [e'] at h1; cases h1
  | some z =>
    rw [e] at h1
    cases e' : L'[i]? with
    | none => rw [e'] at h1; cases h1
    | some y =>
      rw [e'] at h1
      injection h1
theorem Wr.len {a0 a1 : Nat} {v : Value} {L : List (Tx × Tx)} {Y X : World} (h : Wr a0 a1 v L Y X) (i : Nat) (hi : i < L.length) : ∃ g c pd cd, v = .slice (some ⟨g, 0, none⟩) L.length c ∧ X.cell? ⟨g, i * 2 + 1, none⟩ = some (.slice pd (L.getD i ([], [])).2.length cd) := by
  obtain ⟨⟨L', h1, h2, h3⟩, _⟩ := h
  have hl := map_len _ h2
  obtain ⟨g, c, pd, cd, e1, _, _, e4, _⟩ := h1.at'.row i (by omega)
  have h9 := map_getD (fun f : Tx × Tx => f.2.length) h3 i ([], [])
  rw [hl] at e1
  rw [h9] at e4
  exact ⟨g, c, pd, cd, e1, e4⟩
theorem Wr.byte {a0 a1 : Nat} {v : Value} {L : List (Tx × Tx)} {Y X : World} (h : Wr a0 a1 v L Y X) (i j : Nat) (hi : i < L.length) (hj : j < (L.getD i ([], [])).2.length) : ∃ (g c gd cd : Nat) (z : UInt8), v = .slice (some ⟨g, 0, none⟩) L.length c ∧ X.cell? ⟨g, i * 2 + 1, none⟩ = some (.slice (some ⟨gd, 0, none⟩) (L.getD i ([], [])).2.length cd) ∧ X.cell? ⟨gd, j, none⟩ = some (.int .u8 (z.toNat : Int)) ∧ X.frozen? ⟨gd, j, none⟩ = false ∧ ∀ y : UInt8, Wr a0 a1 v L Y (X.setCell ⟨gd, j, none⟩ (u8v y)) := by
  obtain ⟨⟨L', h1, h2, h3⟩, tn⟩ := h
  have hl := map_len _ h2
  have h9 := map_getD (fun f : Tx × Tx => f.2.length) h3 i ([], [])
  obtain ⟨g, c, gd, cd, z, e1, e2, e3, e4, e5, e6⟩ := h1.write i j (by omega) (by omega)
  rw [hl] at e1
  rw [h9] at e2
  refine ⟨g, c, gd, cd, z, e1, e2, e3, e4, fun y => ?_⟩
  obtain ⟨L2, k1, k2, k3⟩ := e6 y
  exact ⟨⟨L2, k1, k2.trans h2, k3.trans h3⟩, tn_set tn _ e5⟩
theorem fsz_same {L L' : List (Tx × Tx)} (h : L'.map (·.2.length) = L.map (·.2.length)) : fsz L' = fsz L := by
  unfold fsz
  induction L generalizing L' with
  | nil =>
    have : L' = [] := by simpa using h
    rw [this]
  | cons x l ih =>
    cases L' with
    | nil => simp at h
    | cons y l' =>
      simp only [List.map_cons, List.cons.injEq] at h
      have h2 := ih h.2
      simp only [List.map_cons, List.sum_cons] at h2 ⊢
      rw [h2, h.1]
end Go.Proofs.Ytaddgmbglhdfdaa
/-
  The walk of DriveSame.
-/
namespace Go.Proofs.Ytaddgmbglhdfdaa
open Go.RowKit Go.Maps Go.Sort
/-- Two drives between the rounds. -/
def Ro (w2 : World) (hb g0 g1 g2 db eb kk m : Nat) (X : World) : Prop := ∃ ρ, Iv ρ ∧ Sn m ρ ∧ Smt w2 hb g0 g1 g2 db eb kk kk ρ ρ [] [] X
theorem Iv.act {ρ : Ds} (h : Iv ρ) (k : Int) (s : Ac) (l : Al) : Iv (ρ.act k s.x s.y s.n l).2 := h.step (k, s, l)
theorem Sn.act {ρ : Ds} {m : Nat} (h : Sn m ρ) (hi : Iv ρ) (k : Int) (s : Ac) (l : Al) : Sn (m + 1) (ρ.act k s.x s.y s.n l).2 := h.step hi (k, s, l)
section
attribute [local irreducible] Calls GB ftC stC kpC anC Ac.v
set_option maxHeartbeats 8000000 in
set_option maxRecDepth 1000000 in
theorem driveSame_walk {w : World} (how room : Int) (p : Option Addr) (n c : Nat) (nm' dt : Nat → Tx) (pa : Option Addr) (ca : Nat) (LA : List Atp) (nm : Tx) (pd : Option Addr) (cd : Nat) (d : Tx) (pm : Option Addr) (cm : Nat) (LM : List Atp) (qd : Option Addr) (cq : Nat) (dirs : List Bool) (qc : Option Addr) (cc : Nat) (cuts : List Int) (hK : KeepAt w p n nm' dt pa LA nm pd d pm LM qd dirs qc cuts) :
    Calls Try.prog 7 #[.agg (kpC how room (.slice p n c) (.slice pa LA.length ca) nm (.slice pd d.length cd) (.slice pm LM.length cm) (.slice qd dirs.length cq) (.slice qc cuts.length cc))] w fun e w' => e = .returned (.bool true) ∧ Below w.heap.size w w' := by
  have HK := (show Hid (KeepAt w p n nm' dt pa LA nm pd d pm LM qd dirs qc cuts) from hK)
  obtain ⟨na, hna⟩ : ∃ na, na = LA.length := ⟨_, rfl⟩
  obtain ⟨KC, hKC⟩ : ∃ KC, KC = kpC how room (.slice p n c) (.slice pa LA.length ca) nm (.slice pd d.length cd) (.slice pm LM.length cm) (.slice qd dirs.length cq) (.slice qc cuts.length cc) := ⟨_, rfl⟩
  have HC := (show Hid (KC = kpC how room (.slice p n c) (.slice pa LA.length ca) nm (.slice pd d.length cd) (.slice pm LM.length cm) (.slice qd dirs.length cq) (.slice qc cuts.length cc)) from hKC)
  rw [← hKC]
  have HN := (show Hid (na = LA.length) from hna)
  have LDS := (show Hid (∀ X, GB X w.heap.size 32 KC → (loadVar 24 ⟨w.heap.size, 0, none⟩).run Try.prog X = .ok (.agg (stC how room (.slice p n c))) X) from fun X h => by rw [HC.out] at h; exact kp_start h)
  have LDC := (show Hid (∀ X, GB X w.heap.size 32 KC → X.cell? ⟨w.heap.size, 3, none⟩ = some (.slice pa na ca)) from fun X h => by rw [HC.out] at h; rw [HN.out]; exact (kp_c h).1)
  clear hK hna hKC
  go_enter Try.func7, Try.ntmps7
  go_upto_region 4 with (first
    | (refine wpList_bxB (cs := KC) rfl _ rfl rfl ?_; intro w1 hG1 hb1 hs1)
    | (go_at_call 8; refine (awake_any _).mono ?_; rintro e w2 ⟨rfl, hb2⟩))
  have G2 := (show Hid (GB w2 w.heap.size 32 KC) from hG1.below hb2)
  have B2 := (show Hid (Below w.heap.size w w2) from bt hb1 hb2)
  have MA := (show Hid (∀ X, Below w.heap.size w X → Calls Try.prog 9 #[.agg (stC how room (.slice p n c))] X fun e w' => ∃ pt, e = .returned (.tuple #[.pointer pt, .bool true]) ∧ MadeR X w' (Ds.start how room (fls nm' dt n)) pt ∧ Below X.heap.size X w') from fun X hb => made_any how room p n c nm' dt (HK.out.fl.below hb) (by have := HK.out.fz; omega) HK.out.fx HK.out.fn)
  clear hG1 hb1 hs1 hb2
  have U0 := (show Hid True from trivial)
  go_upto_region 6 with (first
    | (have hx := U1; refine wpList_ldAt rfl _ _ rfl w.heap.size 0 rfl _ (LDS.out w3 (G2.out.below hb3)) ?_)
    | (have hx := U0; refine wpList_ldAt rfl _ _ rfl w.heap.size 0 rfl _ (LDS.out w2 G2.out) ?_)
    | (have hx := U1; go_at_call 9; refine (MA.out w3 (bt B2.out hb3)).mono ?_; rintro e w4 ⟨pt', rfl, hM', hb4⟩; clear hx U1)
    | (have hx := U0; go_at_call 9; refine (MA.out w2 B2.out).mono ?_; rintro e w3 ⟨pt, rfl, hM, hb3⟩; have U1 := (show Hid True from trivial); clear hx U0))
  have B23 := (show Hid (True ∧ Below w2.heap.size w2 w3) from ⟨trivial, hb3⟩)
  have B34 := (show Hid (True ∧ Below w3.heap.size w3 w4) from ⟨trivial, hb4⟩)
  have B4 := (show Hid (Below w.heap.size w w4) from bt (bt B2.out hb3) hb4)
  have HM := (show Hid (MadeR w2 w3 (Ds.start how room (fls nm' dt n)) pt ∧ MadeR w3 w4 (Ds.start how room (fls nm' dt n)) pt') from ⟨hM, hM'⟩)
  clear hM hM' hb3 hb4
  rcases HM.out.1 with ⟨h0, rfl⟩ | ⟨σ, db, F0, hs, rfl, hD, hF⟩
  · rcases HM.out.2 with ⟨_, rfl⟩ | ⟨σ', db', F', hs', _⟩
    · go_wp2
      go_ret
      exact ⟨rfl, B4.out⟩
    · rw [h0] at hs'; cases hs'
  rcases HM.out.2 with ⟨h0, _⟩ | ⟨σ', eb, G0, hs', rfl, hD', hF'⟩
  · rw [hs] at h0; cases h0
  rw [hs] at hs'
  injection hs' with hs'
  subst hs'
  have D4 := (show Hid (DrAt w4 db σ F0 ∧ DrAt w4 eb σ G0 ∧ (∀ b, F0 b → w2.heap.size ≤ b ∧ b < w3.heap.size) ∧ (∀ b, G0 b → w3.heap.size ≤ b ∧ b < w4.heap.size)) from ⟨hD.below B34.out.2, hD', fun b hb => ⟨hF b hb, hD.2.1 b hb⟩, fun b hb => ⟨hF' b hb, hD'.2.1 b hb⟩⟩)
  have ST := (show Hid (Okk (fsz (fls nm' dt n)) σ ∧ Iv σ ∧ Sn n σ) from ⟨start_okk hs, Iv.start hs, by have h9 := Sn.start hs; rw [show (fls nm' dt n).length = n from fls_len nm' dt n] at h9; exact h9⟩)
  clear HM hs hD hF hD' hF'
  obtain ⟨c0, hc0, hm0⟩ := make_h0
  obtain ⟨c1, hc1, hm1⟩ := make_h1
  obtain ⟨c2, hc2, hm2⟩ := make_h2
  go_upto_region 8 with fail
  go_cut [8] from 56 to 60 (fun v wx => ∃ hb g0 g1 g2 : Nat, v = .pointer (some ⟨hb, 0, none⟩) ∧ Hid (Hnd wx hb g0 g1 g2 ∧ Below w4.heap.size w4 wx ∧ w4.heap.size ≤ hb ∧ w4.heap.size ≤ g0 ∧ w4.heap.size ≤ g1 ∧ w4.heap.size ≤ g2))
  case first =>
    go_region
    all_goals
      go_wp2_with fail
      go_meet
      case rel => refine hand_new w4 _ _ _ _ _ _ (by omega) ?_ ?_ ?_ <;> first | exact ⟨_, (al3 w4 _ _ _).1, by assumption⟩ | exact ⟨_, (al3 w4 _ _ _).2.1, by assumption⟩ | exact ⟨_, (al3 w4 _ _ _).2.2.1, by assumption⟩
  case rest =>
  obtain ⟨hb, g0, g1, g2, rfl, hcw⟩ := hcut
  obtain ⟨w8, hw8⟩ : ∃ w8, w8 = wc := ⟨_, rfl⟩
  rw [← hw8] at hcw ⊢
  have H8 := (show Hid (Hnd w8 hb g0 g1 g2 ∧ Below w4.heap.size w4 w8 ∧ w4.heap.size ≤ hb ∧ w4.heap.size ≤ g0 ∧ w4.heap.size ≤ g1 ∧ w4.heap.size ≤ g2) from hcw.out)
  clear hw8 hcw hm0 hm1 hm2 hc0 hc1 hc2
  have R8 := (show Hid (Ro w2 hb g0 g1 g2 db eb (fsz (fls nm' dt n) + 2 * aesz (LA.take 0)) (n + 2 * 0) w8) from by
    have h3 := B23.out.2.size
    have h4 := B34.out.2.size
    obtain ⟨k1, k2, k3, k4⟩ := D4.out
    obtain ⟨m1, m2, m3, m4, m5, m6⟩ := H8.out
    refine ⟨σ, ST.out.2.1, ST.out.2.2, ⟨⟨F0, G0, fun _ => False, k1.below m2, k2.below m2, fun b h h' => ?_, fun b h => ?_, fun b h => h.elim, fun a ha => (by cases ha)⟩, fun q hq => (by cases hq), m1, by omega, ⟨ST.out.1, ST.out.1⟩, bt (bt B23.out.2 B34.out.2) m2⟩⟩
    · have := k3 b h
      have := k4 b h'
      omega
    · rcases h with h | h
      · have := k3 b h
        exact ⟨by omega, fun h => h, by omega, by omega, by omega, by omega, by simp⟩
      · have := k4 b h
        exact ⟨by omega, fun h => h, by omega, by omega, by omega, by omega, by simp⟩)
  have AA := (show Hid (AcsAt w2 pa LA) from HK.out.ac.below B2.out)
  have KZ := (show Hid (∀ k, fsz (fls nm' dt n) + 2 * aesz (LA.take k) ≤ 9437184) from fun k => by have := HK.out.fz; have := HK.out.az; have := aesz_le LA k; omega)
  have hna9 : na ≤ 1048576 := by have := HK.out.an; have := HN.out; omega
  clear D4 ST H8
  go_wp2_with fail
  go_loopw [9, 10, 11, 12, 13, 14, 15] (fun i a1 a2 a3 a4 a5 a6 wr => ∃ k : Nat, k ≤ na ∧ i = .int .i64 (k : Int) ∧ Hid (Ro w2 hb g0 g1 g2 db eb (fsz (fls nm' dt n) + 2 * aesz (LA.take k)) (n + 2 * k) wr)) (fun i _ _ _ _ _ _ _ => na - (intOf i).toNat)
  case atStart => exact ⟨0, Nat.zero_le _, rfl, R8⟩
  case round =>
    obtain ⟨k, hk, rfl, hR⟩ := hrel
    obtain ⟨ρ, iv, sn, s0⟩ := hR.out
    obtain ⟨kk, hkk⟩ : ∃ kk, kk = fsz (fls nm' dt n) + 2 * aesz (LA.take k) := ⟨_, rfl⟩
    rw [← hkk] at s0
    have S0 := (show Hid (Smt w2 hb g0 g1 g2 db eb kk kk ρ ρ [] [] wr) from s0)
    have IV := (show Hid (Iv ρ ∧ Sn (n + 2 * k) ρ ∧ kk = fsz (fls nm' dt n) + 2 * aesz (LA.take k) ∧ kk ≤ 9437184) from ⟨iv, sn, hkk, by rw [hkk]; exact KZ.out k⟩)
    have c3 := LDC.out wr (G2.out.below S0.out.bl)
    clear hR iv sn s0 hkk
    by_cases hlt : k < na
    · have hi : (k : Int) < (na : Int) := by omega
      have hkl : k < LA.length := by have := HN.out; omega
      obtain ⟨b, o, hp, hS, hAc⟩ := AA.out k hkl
      obtain ⟨a, ha⟩ : ∃ a, a = LA[k] := ⟨_, rfl⟩
      have HA := (show Hid (aesz (LA.take (k + 1)) = aesz (LA.take k) + aez a) from by rw [ha]; exact aesz_succ LA k hkl)
      rw [← ha] at hS hAc
      obtain ⟨q, s, l⟩ := a
      have LDA := (show Hid (∀ X, Below w2.heap.size w2 X → (loadVar 46 ⟨b, o + k * 7, none⟩).run Try.prog X = .ok (.agg (s.v q)) X) from fun X hb => (hS.below hb).run)
      have A2 := (show Hid (AcAt w2 s l) from hAc)
      have EZ := (show Hid (aesz (LA.take (k + 1)) = aesz (LA.take k) + (2 + l.d.length + l.dirs.length) ∧ kk + (2 + l.d.length + l.dirs.length) + (2 + l.d.length + l.dirs.length) ≤ 9437184) from by
        have h9 := HA.out
        have h8 := KZ.out (k + 1)
        have h7 := IV.out.2.2.1
        unfold aez at h9
        refine ⟨h9, ?_⟩
        simp only at h9
        omega)
      subst hp
      clear hS hAc ha HA hkl
      have U0 := (show Hid True from trivial)
      by_cases hfit : s.nd ≤ 4096 ∧ s.nq ≤ 64 ∧ s.nr ≤ 64
      · have FT := (show Hid (s.nd ≤ 4096 ∧ s.nq ≤ 64 ∧ s.nr ≤ 64) from hfit)
        clear hfit
        obtain ⟨c1, hc1⟩ : ∃ c1, c1 = (ρ.act q s.x s.y s.n (flA 0 l)).1 := ⟨_, rfl⟩
        obtain ⟨ρ1, hr1⟩ : ∃ ρ1, ρ1 = (ρ.act q s.x s.y s.n (flA 0 l)).2 := ⟨_, rfl⟩
        obtain ⟨c2, hc2⟩ : ∃ c2, c2 = (ρ1.act q s.x s.y s.n (flA 1 l)).1 := ⟨_, rfl⟩
        obtain ⟨ρ2, hr2⟩ : ∃ ρ2, ρ2 = (ρ1.act q s.x s.y s.n (flA 1 l)).2 := ⟨_, rfl⟩
        have CR := (show Hid ((c1 = (ρ.act q s.x s.y s.n (flA 0 l)).1 ∧ ρ1 = (ρ.act q s.x s.y s.n (flA 0 l)).2) ∧ c2 = (ρ1.act q s.x s.y s.n (flA 1 l)).1 ∧ ρ2 = (ρ1.act q s.x s.y s.n (flA 1 l)).2) from ⟨⟨hc1, hr1⟩, hc2, hr2⟩)
        have IV2 := (show Hid (Iv ρ2 ∧ Sn (n + 2 * (k + 1)) ρ2) from by
          have i1 : Iv ρ1 := by rw [hr1]; exact IV.out.1.act q s _
          have i2 : Sn (n + 2 * k + 1) ρ1 := by rw [hr1]; exact IV.out.2.1.act IV.out.1 q s _
          rw [hr2]
          exact ⟨i1.act q s _, i2.act i1 q s _⟩)
        clear hc1 hr1 hc2 hr2
        obtain ⟨ez, hez⟩ : ∃ ez, ez = 2 + l.d.length + l.dirs.length := ⟨_, rfl⟩
        have EE := (show Hid (ez = 2 + l.d.length + l.dirs.length) from hez)
        rw [← hez] at EZ
        clear hez
        have BD0 := (show Hid (∀ X ls vs, Smt w2 hb g0 g1 g2 db eb kk kk ρ ρ ls vs X → AcAt X (fAc s g0 g1 g2) (flA 0 l) → Calls Try.prog 34 #[.pointer (some ⟨db, 0, none⟩), .agg ((fAc s g0 g1 g2).v q)] X fun e w' => e = .returned (.int .i64 c1) ∧ Smt w2 hb g0 g1 g2 db eb (kk + ez) kk ρ1 ρ ls vs w') from fun X ls vs h hA => by rw [EE.out]; exact h.bd (by have := EZ.out.2; omega) q s l 0 hA CR.out.1.1 CR.out.1.2)
        have BD1 := (show Hid (∀ X ls vs, Smt w2 hb g0 g1 g2 db eb (kk + ez) kk ρ1 ρ ls vs X → AcAt X (fAc s g0 g1 g2) (flA 1 l) → Calls Try.prog 34 #[.pointer (some ⟨db, 0, none⟩), .agg ((fAc s g0 g1 g2).v q)] X fun e w' => e = .returned (.int .i64 c2) ∧ Smt w2 hb g0 g1 g2 db eb (kk + ez + ez) kk ρ2 ρ ls vs w') from fun X ls vs h hA => by have h9 := h.bd (by have := EZ.out.2; omega) q s l 1 hA CR.out.2.1 CR.out.2.2; rw [← EE.out] at h9; exact h9)
        have BE0 := (show Hid (∀ X ls vs s1, Smt w2 hb g0 g1 g2 db eb (kk + ez + ez) kk ρ2 ρ ls vs X → (s1, flA 0 l) ∈ ls → (s1.x = s.x ∧ s1.y = s.y ∧ s1.n = s.n) → Calls Try.prog 34 #[.pointer (some ⟨eb, 0, none⟩), .agg (s1.v q)] X fun e w' => e = .returned (.int .i64 c1) ∧ Smt w2 hb g0 g1 g2 db eb (kk + ez + ez) (kk + ez) ρ2 ρ1 ls vs w') from fun X ls vs s1 h hm hx => by have h9 := h.be (by have := EZ.out.2; omega) q s l 0 s1 hm hx CR.out.1.1 CR.out.1.2; rw [← EE.out] at h9; exact h9)
        have BE1 := (show Hid (∀ X ls vs s1, Smt w2 hb g0 g1 g2 db eb (kk + ez + ez) (kk + ez) ρ2 ρ1 ls vs X → (s1, flA 1 l) ∈ ls → (s1.x = s.x ∧ s1.y = s.y ∧ s1.n = s.n) → Calls Try.prog 34 #[.pointer (some ⟨eb, 0, none⟩), .agg (s1.v q)] X fun e w' => e = .returned (.int .i64 c2) ∧ Smt w2 hb g0 g1 g2 db eb (kk + ez + ez) (kk + ez + ez) ρ2 ρ2 ls vs w') from fun X ls vs s1 h hm hx => by have h9 := h.be (by have := EZ.out.2; omega) q s l 1 s1 hm hx CR.out.2.1 CR.out.2.2; rw [← EE.out] at h9; exact h9)
        obtain ⟨fv, hfv⟩ : ∃ fv, fv = (fAc s g0 g1 g2).v q := ⟨_, rfl⟩
        have FV := (show Hid (fv = (fAc s g0 g1 g2).v q ∧ fv.size = acZ.size ∧ (fv.all fun x => x.oneCell') = true ∧ (Try.prog.info? 46).map (·.size) = some fv.size) from ⟨hfv, by rw [hfv]; exact ac_sz, by rw [hfv]; exact ac_one, by rw [hfv]; exact acv_sz⟩)
        have FL0 := (show Hid (Calls Try.prog 32 #[.pointer (some ⟨hb, 0, none⟩), .agg (s.v q), .int .u8 0] wr fun e w' => e = .returned (.tuple #[.agg fv, .bool true]) ∧ Smt w2 hb g0 g1 g2 db eb kk kk ρ ρ [] [] w' ∧ AcAt w' (fAc s g0 g1 g2) (flA 0 l)) from by rw [hfv]; exact S0.out.filled0 q s l A2.out FT.out)
        have FL1 := (show Hid (∀ X ls vs, Smt w2 hb g0 g1 g2 db eb (kk + ez) kk ρ1 ρ ls vs X → Calls Try.prog 32 #[.pointer (some ⟨hb, 0, none⟩), .agg (s.v q), .int .u8 1] X fun e w' => e = .returned (.tuple #[.agg fv, .bool true]) ∧ Smt w2 hb g0 g1 g2 db eb (kk + ez) kk ρ1 ρ ls vs w' ∧ AcAt w' (fAc s g0 g1 g2) (flA 1 l)) from fun X ls vs h => by rw [hfv]; exact h.filled1 q s l A2.out FT.out)
        have TW0 := (show Hid (∀ X ls vs l', Smt w2 hb g0 g1 g2 db eb kk kk ρ ρ ls vs X → AcAt X (fAc s g0 g1 g2) l' → Calls Try.prog 33 #[.agg fv] X fun e w' => ∃ s', e = .returned (.agg (s'.v q)) ∧ (s'.x = s.x ∧ s'.y = s.y ∧ s'.n = s.n) ∧ Smt w2 hb g0 g1 g2 db eb kk kk ρ ρ ((s', l') :: ls) vs w' ∧ AcAt w' (fAc s g0 g1 g2) l') from fun X ls vs l' h hA => by rw [hfv]; exact h.twin q (fAc s g0 g1 g2) l' hA)
        have TW1 := (show Hid (∀ X ls vs l', Smt w2 hb g0 g1 g2 db eb (kk + ez) kk ρ1 ρ ls vs X → AcAt X (fAc s g0 g1 g2) l' → Calls Try.prog 33 #[.agg fv] X fun e w' => ∃ s', e = .returned (.agg (s'.v q)) ∧ (s'.x = s.x ∧ s'.y = s.y ∧ s'.n = s.n) ∧ Smt w2 hb g0 g1 g2 db eb (kk + ez) kk ρ1 ρ ((s', l') :: ls) vs w' ∧ AcAt w' (fAc s g0 g1 g2) l') from fun X ls vs l' h hA => by rw [hfv]; exact h.twin q (fAc s g0 g1 g2) l' hA)
        rw [← hfv] at BD0 BD1
        clear hfv
        go_upto_region 13 with (first
          | (have hx := U0; refine wpList_ldAt rfl _ _ rfl b (o + k * 7) rfl _ (LDA.out wr S0.out.bl) ?_)
          | (have hx := U0; go_at_call 32; refine FL0.out.mono ?_; rintro e x1 ⟨rfl, h1, h2⟩; have S1 := (show Hid (Smt w2 hb g0 g1 g2 db eb kk kk ρ ρ [] [] x1 ∧ AcAt x1 (fAc s g0 g1 g2) (flA 0 l)) from ⟨h1, h2⟩); clear hx U0 h1 h2)
          | (refine wpList_alB (cs := acZ) rfl rfl ac0 ?_; intro x2 hG2 hb2 hs2)
          | (refine wpList_stB (cs := fv) rfl _ _ rfl rfl x1.heap.size rfl rfl hG2 FV.out.2.2.2 FV.out.2.1 FV.out.2.2.1 ?_; intro x3 hG3 hg3 hs3; have S3 := (show Hid (Smt w2 hb g0 g1 g2 db eb kk kk ρ ρ [] [(x1.heap.size, fv)] x3 ∧ AcAt x3 (fAc s g0 g1 g2) (flA 0 l)) from ⟨S1.out.1.var (grown_below hb2 hg3 hb2.size (Nat.le_refl _)) hG3, S1.out.2.below (grown_below hb2 hg3 hb2.size (Nat.le_refl _))⟩); clear hG2 hb2 hs2 hG3 hg3 hs3))
        clear S0 S1 c3
        obtain ⟨ab, hab⟩ : ∃ ab, ab = x1.heap.size := ⟨_, rfl⟩
        rw [← hab] at S3 ⊢
        clear hab
        go_upto_region 15 with (first
          | (have hx := S3; refine wpList_ldB (cs := fv) rfl _ rfl ab rfl (S3.out.1.gb (by simp)) Try.underlying46 FV.out.2.2.2 ?_)
          | (have hx := S3; go_at_call 33; refine (TW0.out _ _ _ _ S3.out.1 S3.out.2).mono ?_; rintro e x4 ⟨s1, rfl, h0, h1, h2⟩; have S4 := (show Hid (Smt w2 hb g0 g1 g2 db eb kk kk ρ ρ [(s1, flA 0 l)] [(ab, fv)] x4 ∧ AcAt x4 (fAc s g0 g1 g2) (flA 0 l)) from ⟨h1, h2⟩); have X1 := (show Hid (s1.x = s.x ∧ s1.y = s.y ∧ s1.n = s.n) from h0); clear hx S3 h0 h1 h2)
          | (refine wpList_alB (cs := acZ) rfl rfl ac0 ?_; intro x5 hG2 hb2 hs2)
          | (refine wpList_stB (cs := s1.v q) rfl _ _ rfl rfl x4.heap.size rfl rfl hG2 acv_sz ac_sz ac_one ?_; intro x6 hG3 hg3 hs3; have S6 := (show Hid (Smt w2 hb g0 g1 g2 db eb kk kk ρ ρ [(s1, flA 0 l)] [(x4.heap.size, s1.v q), (ab, fv)] x6 ∧ AcAt x6 (fAc s g0 g1 g2) (flA 0 l)) from ⟨S4.out.1.var (grown_below hb2 hg3 hb2.size (Nat.le_refl _)) hG3, S4.out.2.below (grown_below hb2 hg3 hb2.size (Nat.le_refl _))⟩); clear hG2 hb2 hs2 hG3 hg3 hs3))
        clear S4 TW0 FL0
        obtain ⟨bb, hbb⟩ : ∃ bb, bb = x4.heap.size := ⟨_, rfl⟩
        rw [← hbb] at S6 ⊢
        clear hbb
        go_upto_region 16 with (first
          | (have hx := S6; refine wpList_ldB (cs := fv) rfl _ rfl ab rfl (S6.out.1.gb (by simp)) Try.underlying46 FV.out.2.2.2 ?_)
          | (have hx := S6; go_at_call 34; refine (BD0.out _ _ _ S6.out.1 S6.out.2).mono ?_; rintro e x7 ⟨rfl, h1⟩; have S7 := (show Hid (Smt w2 hb g0 g1 g2 db eb (kk + ez) kk ρ1 ρ [(s1, flA 0 l)] [(bb, s1.v q), (ab, fv)] x7) from h1); clear hx S6 h1))
        have c3 := LDC.out x7 (G2.out.below S7.out.bl)
        clear BD0
        go_upto_region 17 with (first
          | (have hx := S7; refine wpList_ldAt rfl _ _ rfl b (o + k * 7) rfl _ (LDA.out x7 S7.out.bl) ?_)
          | (have hx := S7; go_at_call 32; refine (FL1.out _ _ _ S7.out).mono ?_; rintro e x8 ⟨rfl, h1, h2⟩; have S8 := (show Hid (Smt w2 hb g0 g1 g2 db eb (kk + ez) kk ρ1 ρ [(s1, flA 0 l)] [(bb, s1.v q), (ab, fv)] x8 ∧ AcAt x8 (fAc s g0 g1 g2) (flA 1 l)) from ⟨h1, h2⟩); clear hx S7 h1 h2)
          | (refine wpList_stB (cs := fv) rfl _ _ rfl rfl ab rfl rfl (S8.out.1.gb (g := ab) (cs := fv) (by simp)) FV.out.2.2.2 rfl FV.out.2.2.1 ?_; intro x9 hG3 hg3 hs3; have S9 := (show Hid (Smt w2 hb g0 g1 g2 db eb (kk + ez) kk ρ1 ρ [(s1, flA 0 l)] [(bb, s1.v q), (ab, fv)] x9 ∧ AcAt x9 (fAc s g0 g1 g2) (flA 1 l)) from ⟨S8.out.1.again (by simp) hg3 hG3, S8.out.1.againA (g := ab) (cs := fv) (by simp) hg3 S8.out.2⟩); clear hG3 hg3 hs3))
        clear S8 c3 FL1 LDA
        go_upto_region 18 with (first
          | (have hx := S9; refine wpList_ldB (cs := fv) rfl _ rfl ab rfl (S9.out.1.gb (by simp)) Try.underlying46 FV.out.2.2.2 ?_)
          | (have hx := S9; go_at_call 33; refine (TW1.out _ _ _ _ S9.out.1 S9.out.2).mono ?_; rintro e x10 ⟨s2, rfl, h0, h1, h2⟩; have S10 := (show Hid (Smt w2 hb g0 g1 g2 db eb (kk + ez) kk ρ1 ρ [(s2, flA 1 l), (s1, flA 0 l)] [(bb, s1.v q), (ab, fv)] x10 ∧ AcAt x10 (fAc s g0 g1 g2) (flA 1 l)) from ⟨h1, h2⟩); have X2 := (show Hid (s2.x = s.x ∧ s2.y = s.y ∧ s2.n = s.n) from h0); clear hx S9 h0 h1 h2)
          | (refine wpList_alB (cs := acZ) rfl rfl ac0 ?_; intro x11 hG2 hb2 hs2)
          | (refine wpList_stB (cs := s2.v q) rfl _ _ rfl rfl x10.heap.size rfl rfl hG2 acv_sz ac_sz ac_one ?_; intro x12 hG3 hg3 hs3; have S12 := (show Hid (Smt w2 hb g0 g1 g2 db eb (kk + ez) kk ρ1 ρ [(s2, flA 1 l), (s1, flA 0 l)] [(x10.heap.size, s2.v q), (bb, s1.v q), (ab, fv)] x12 ∧ AcAt x12 (fAc s g0 g1 g2) (flA 1 l)) from ⟨S10.out.1.var (grown_below hb2 hg3 hb2.size (Nat.le_refl _)) hG3, S10.out.2.below (grown_below hb2 hg3 hb2.size (Nat.le_refl _))⟩); clear hG2 hb2 hs2 hG3 hg3 hs3))
        clear S10 TW1
        obtain ⟨cb, hcb⟩ : ∃ cb, cb = x10.heap.size := ⟨_, rfl⟩
        rw [← hcb] at S12 ⊢
        clear hcb
        go_upto_region 19 with (first
          | (have hx := S12; refine wpList_ldB (cs := fv) rfl _ rfl ab rfl (S12.out.1.gb (by simp)) Try.underlying46 FV.out.2.2.2 ?_)
          | (have hx := S12; go_at_call 34; refine (BD1.out _ _ _ S12.out.1 S12.out.2).mono ?_; rintro e x13 ⟨rfl, h1⟩; have S13 := (show Hid (Smt w2 hb g0 g1 g2 db eb (kk + ez + ez) kk ρ2 ρ [(s2, flA 1 l), (s1, flA 0 l)] [(cb, s2.v q), (bb, s1.v q), (ab, fv)] x13) from h1); clear hx S12 h1))
        clear BD1
        have SF := (show Hid (∀ X b1 b2 u v, FsAt X b1 u (tol ρ2 (·.data) ρ2.st) → FsAt X b2 v (tol ρ2 (·.data) ρ2.st) → Okk (kk + ez + ez) ρ2 → Calls Try.prog 30 #[u, v] X fun e w' => e = .returned (.bool true) ∧ Below X.heap.size X w') from fun X b1 b2 u v h1 h2 ok => same_files h1 h2 (by have h3 := ok.ss; have h4 := EZ.out.2; rw [size_nms ok.ts] at h3; rw [tol_len]; omega))
        go_wp2_with (first
          | (have hx := S13; refine wpList_ldB (cs := s1.v q) rfl _ rfl bb rfl (S13.out.gb (by simp)) Try.underlying46 acv_sz ?_)
          | (have hx := S13; go_at_call 34; refine (BE0.out _ _ _ s1 S13.out (by simp) X1.out).mono ?_; rintro e x14 ⟨rfl, h1⟩; have S14 := (show Hid (Smt w2 hb g0 g1 g2 db eb (kk + ez + ez) (kk + ez) ρ2 ρ1 [(s2, flA 1 l), (s1, flA 0 l)] [(cb, s2.v q), (bb, s1.v q), (ab, fv)] x14) from h1); clear hx S13 h1)
          | (have hx := S14; refine wpList_ldAtg (by rfl) _ _ rfl cb 0 rfl (s2.v q) ((S14.out.gb (g := cb) (cs := s2.v q) (by simp)).run Try.underlying46 acv_sz) ?_)
          | (have hx := S14; go_at_call 34; refine (BE1.out _ _ _ s2 S14.out (by simp) X2.out).mono ?_; rintro e x15 ⟨rfl, h1⟩; have S15 := (show Hid (Smt w2 hb g0 g1 g2 db eb (kk + ez + ez) (kk + ez + ez) ρ2 ρ2 [] [] x15) from h1.forget); clear hx S14 h1)
          | (have hx := S15; go_at_call 24; refine (S15.out.image (by have := EZ.out.2; omega)).mono ?_; rintro e x16 ⟨v1, rfl, h1, h2⟩; have S16 := (show Hid (Smt w2 hb g0 g1 g2 db eb (kk + ez + ez) (kk + ez + ez) ρ2 ρ2 [] [] x16) from S15.out.below h2); have F16 := (show Hid (FsAt x16 x15.heap.size v1 (tol ρ2 (·.data) ρ2.st)) from h1); clear hx S15 h1 h2)
          | (have hx := S16; go_at_call 24; refine (S16.out.swap.image (by have := EZ.out.2; omega)).mono ?_; rintro e x17 ⟨v2, rfl, h1, h2⟩; have S17 := (show Hid (Smt w2 hb g0 g1 g2 db eb (kk + ez + ez) (kk + ez + ez) ρ2 ρ2 [] [] x17) from S16.out.below h2); have F17 := (show Hid (FsAt x17 x15.heap.size v1 (tol ρ2 (·.data) ρ2.st) ∧ FsAt x17 x16.heap.size v2 (tol ρ2 (·.data) ρ2.st)) from ⟨F16.out.below h2, h1⟩); clear hx S16 F16 h1 h2)
          | (have hx := S17; go_at_call 30; refine (SF.out _ _ _ _ _ F17.out.1 F17.out.2 S17.out.ok.1).mono ?_; rintro e x18 ⟨rfl, h1⟩; have S18 := (show Hid (Smt w2 hb g0 g1 g2 db eb (kk + ez + ez) (kk + ez + ez) ρ2 ρ2 [] [] x18) from S17.out.below h1); clear hx S17 F17 h1))
        go_roundw
        case rel =>
          refine ⟨k + 1, by omega, by go_num, ⟨ρ2, IV2.out.1, IV2.out.2, S18.out.more ?_ ?_⟩⟩
          · have h1 := EZ.out.1
            have h2 := IV.out.2.2.1
            omega
          · have h1 := EZ.out.1
            have h2 := IV.out.2.2.1
            omega
        case measure => simp [intOf]; omega
      · have FLN := (show Hid (Calls Try.prog 32 #[.pointer (some ⟨hb, 0, none⟩), .agg (s.v q), .int .u8 0] wr fun e w' => e = .returned (.tuple #[.agg (s.v q), .bool false]) ∧ Below wr.heap.size wr w') from S0.out.filledN q s hfit)
        clear hfit
        go_wp2_with (first
          | (have hx := U0; refine wpList_ldAt rfl _ _ rfl b (o + k * 7) rfl _ (LDA.out wr S0.out.bl) ?_)
          | (have hx := U0; go_at_call 32; refine FLN.out.mono ?_; rintro e x1 ⟨rfl, h1⟩; clear hx U0)
          | (refine wpList_alB (cs := acZ) rfl rfl ac0 ?_; intro x2 hG2 hb2 hs2)
          | (refine wpList_stB (cs := s.v q) rfl _ _ rfl rfl x1.heap.size rfl rfl hG2 acv_sz ac_sz ac_one ?_; intro x3 hG3 hg3 hs3))
        go_roundw
        case rel =>
          refine ⟨k + 1, by omega, by go_num, ⟨ρ, IV.out.1, IV.out.2.1.mono (by omega), ((S0.out.below h1).below (grown_below hb2 hg3 hb2.size (Nat.le_refl _))).more ?_ ?_⟩⟩
          · have h1 := EZ.out.1
            have h2 := IV.out.2.2.1
            omega
          · have h1 := EZ.out.1
            have h2 := IV.out.2.2.1
            omega
        case measure => simp [intOf]; omega
    · obtain rfl : k = na := by omega
      have hi : ¬ (k : Int) < (k : Int) := by omega
      have KB := (show Hid (kk ≤ 9437184) from IV.out.2.2.2)
      have FW := (show Hid ((tol ρ (·.data) ρ.st).length ≤ 3145728 ∧ (tol ρ (fun b => b.data.take b.safe) ρ.sf).length ≤ 3145728 ∧ ρ.pend.length ≤ 3145728) from by
        have h0 := fsz_len (fls nm' dt n)
        rw [show (fls nm' dt n).length = n from fls_len nm' dt n] at h0
        have h1 := HK.out.fz
        have h2 := HK.out.an
        have h3 := HN.out
        have h4 := IV.out.2.1.sz
        have h5 := size_nms S0.out.ok.1.tf
        have h6 := st_few IV.out.1 IV.out.2.1
        refine ⟨?_, ?_, ?_⟩
        · rw [tol_len]; omega
        · rw [tol_len]; omega
        · omega)
      have FZ := (show Hid (fsz (tol ρ (·.data) ρ.st) ≤ 140737488355328) from by
        have h1 := fsz_tol ρ (·.data) ρ.st kk S0.out.ok.1.bl
        have h2 := FW.out.1
        rw [tol_len] at h2
        have h3 := Nat.mul_le_mul h2 (show 1 + kk ≤ 9437185 from by have := KB.out; omega)
        show _ ≤ _
        omega)
      obtain ⟨L, hL⟩ : ∃ L, L = tol ρ (·.data) ρ.st := ⟨_, rfl⟩
      obtain ⟨M, hM⟩ : ∃ M, M = tol ρ (fun b => b.data.take b.safe) ρ.sf := ⟨_, rfl⟩
      have HL := (show Hid (L.map (·.1) = nms ρ.st ∧ L.length ≤ 3145728 ∧ M.length ≤ 3145728 ∧ fsz L ≤ 140737488355328) from ⟨by rw [hL]; simp [tol, Function.comp_def], by rw [hL]; exact FW.out.1, by rw [hM]; exact FW.out.2.1, by rw [hL]; exact FZ.out⟩)
      have LO := (show Hid (∀ X b p9 n9 c9 L', FsAt X b (.slice p9 n9 c9) L' → L'.length = n9 → L'.map (·.1) = L.map (·.1) → L'.map (·.2.length) = L.map (·.2.length) → Calls Try.prog 29 #[.int .i64 1048576, .slice p9 n9 c9] X fun e w' => ∃ dbl, e = .returned (.pointer (some ⟨dbl, 0, none⟩)) ∧ Ldd L' X.heap.size w'.heap.size dbl w' ∧ Below X.heap.size X w' ∧ X.heap.size ≤ dbl ∧ dbl < w'.heap.size) from fun X b p9 n9 c9 L' hF hn h1 h2 => load_ok hF hn IV.out.1.std.1 IV.out.1.std.2 (h1.trans HL.out.1) (by rw [fsz_same h2]; exact HL.out.2.2.2) (by have := map_len _ h1; have := HL.out.2.1; omega))
      have SD := (show Hid (Calls Try.prog 28 #[.pointer (some ⟨db, 0, none⟩)] wr fun e w' => ∃ v, e = .returned v ∧ FsAt w' wr.heap.size v M ∧ Below wr.heap.size wr w') from by rw [hM]; exact S0.out.safe (by have := KB.out; omega))
      have SE := (show Hid (∀ X, Below wr.heap.size wr X → Calls Try.prog 28 #[.pointer (some ⟨eb, 0, none⟩)] X fun e w' => ∃ v, e = .returned v ∧ FsAt w' X.heap.size v M ∧ Below X.heap.size X w') from fun X hB => by rw [hM]; exact (S0.out.below hB).swap.safe (by have := KB.out; omega))
      have PD := (show Hid (∀ X, Below wr.heap.size wr X → Calls Try.prog 22 #[.pointer (some ⟨db, 0, none⟩)] X fun e w' => e = .returned (.int .i64 (ρ.pend.length : Int)) ∧ w' = X) from fun X hB => (S0.out.below hB).pending)
      have PE := (show Hid (∀ X, Below wr.heap.size wr X → Calls Try.prog 22 #[.pointer (some ⟨eb, 0, none⟩)] X fun e w' => e = .returned (.int .i64 (ρ.pend.length : Int)) ∧ w' = X) from fun X hB => (S0.out.below hB).swap.pending)
      have IE := (show Hid (∀ X, Below wr.heap.size wr X → Calls Try.prog 24 #[.pointer (some ⟨eb, 0, none⟩)] X fun e w' => ∃ v, e = .returned v ∧ FsAt w' X.heap.size v L ∧ Below X.heap.size X w') from fun X hB => by rw [hL]; exact (S0.out.below hB).swap.image (by have := KB.out; omega))
      have BW := (show Hid (Below w2.heap.size w2 wr) from S0.out.bl)
      obtain ⟨np, hnp⟩ : ∃ np, np = ρ.pend.length := ⟨_, rfl⟩
      rw [← hnp] at PD PE
      clear hL hM FW FZ KB S0 IV hnp
      have U0 := (show Hid True from trivial)
      go_upto_region 25 with (first
        | (have hx := U0; go_at_call 28; refine SD.out.mono ?_; rintro e y1 ⟨v1, rfl, h1, h2⟩; have U1 := (show Hid (FsAt y1 wr.heap.size v1 M ∧ Below wr.heap.size wr y1) from ⟨h1, h2⟩); clear hx U0 h1 h2)
        | (have hx := U1; go_at_call 28; refine (SE.out _ U1.out.2).mono ?_; rintro e y2 ⟨v2, rfl, h1, h2⟩; have U2 := (show Hid (FsAt y2 wr.heap.size v1 M ∧ FsAt y2 y1.heap.size v2 M ∧ Below wr.heap.size wr y2) from ⟨U1.out.1.below h2, h1, bt U1.out.2 h2⟩); clear hx U1 h1 h2)
        | (have hx := U2; go_at_call 30; refine (same_files U2.out.1 U2.out.2.1 (by have := HL.out.2.2.1; omega)).mono ?_; rintro e y3 ⟨rfl, h1⟩; have U3 := (show Hid (Below wr.heap.size wr y3) from bt U2.out.2.2 h1); have V3 := (show Hid (Below w2.heap.size w2 y3) from bt BW.out U3.out); clear hx U2 h1)
        | (have hx := U3; have hy := V3; go_at_call 22; refine (PD.out _ U3.out).mono ?_; rintro e wq ⟨rfl, h9⟩; obtain rfl := h9.symm; have V3' := hy; clear hx hy V3)
        | (have hx := U3; have hy := V3'; go_at_call 22; refine (PE.out _ U3.out).mono ?_; rintro e wq ⟨rfl, h9⟩; obtain rfl := h9.symm; clear hx)
        | (have hx := U3; go_at_call 24; refine (IE.out _ U3.out).mono ?_; rintro e y4 ⟨vf, rfl, h1, h2⟩; have U4 := (show Hid (FsAt y4 y3.heap.size vf L ∧ Below y3.heap.size y3 y4 ∧ Below wr.heap.size wr y4) from ⟨h1, h2, bt U3.out h2⟩); clear hx U3 h1 h2)
        | (have hx := U4; go_at_call 24; refine (IE.out _ U4.out.2.2).mono ?_; rintro e y5 ⟨vw, rfl, h1, h2⟩; have U5 := (show Hid (FsAt y4 y3.heap.size vf L ∧ FsAt y5 y4.heap.size vw L ∧ Below y3.heap.size y3 y4 ∧ Below y4.heap.size y4 y5 ∧ Below w2.heap.size w2 y5) from ⟨U4.out.1, h1, U4.out.2.1, h2, bt (bt V3'.out U4.out.2.1) h2⟩); clear hx U4 h1 h2))
      obtain ⟨nL, hnL⟩ : ∃ nL, nL = L.length := ⟨_, rfl⟩
      obtain ⟨pf, cf, rfl⟩ : ∃ p c, vf = .slice p nL c := by rw [hnL]; exact U5.out.1.len
      have HNL := (show Hid (nL = L.length ∧ nL ≤ 3145728) from ⟨hnL, by have := HL.out.2.1; omega⟩)
      have SF5 := (show Hid (Snp y3.heap.size y4.heap.size (.slice pf nL cf) L y5 ∧ Snp y4.heap.size y5.heap.size vw L y5) from ⟨⟨y4, U5.out.1, Nat.le_refl _, fun g _ hg => U5.out.2.2.2.1.block g hg⟩, ⟨y5, U5.out.2.1, Nat.le_refl _, fun _ _ _ => rfl⟩⟩)
      have Z5 := (show Hid (w2.heap.size ≤ y3.heap.size ∧ y3.heap.size ≤ y4.heap.size ∧ y4.heap.size ≤ y5.heap.size) from ⟨V3'.out.size, U5.out.2.2.1.size, U5.out.2.2.2.1.size⟩)
      have V5 := (show Hid (Below w2.heap.size w2 y5) from U5.out.2.2.2.2)
      clear hnL U5 V3' IE PD PE SD SE
      have U5 := (show Hid True from trivial)
      go_upto_region 27 with (first
        | (have hx := U5; go_at_call 29; refine (LO.out y5 _ pf nL cf L SF5.out.1.at' HNL.out.1.symm rfl rfl).mono ?_; rintro e y6 ⟨fb, rfl, h1, h2, h3, h4⟩; have U6 := (show Hid (Ldd L y5.heap.size y6.heap.size fb y6 ∧ Below y5.heap.size y5 y6 ∧ fb < y6.heap.size) from ⟨h1, h2, h4⟩); clear hx U5 h1 h2 h3 h4)
        | (have hx := U6; go_at_call 29; refine (LO.out y6 _ pf nL cf L (SF5.out.1.at'.below U6.out.2.1) HNL.out.1.symm rfl rfl).mono ?_; rintro e y7 ⟨gb, rfl, h1, h2, h3, h4⟩; have U7 := (show Hid (Ldd L y5.heap.size y6.heap.size fb y7 ∧ Ldd L y6.heap.size y7.heap.size gb y7 ∧ Below y5.heap.size y5 y7 ∧ y5.heap.size ≤ y6.heap.size ∧ y6.heap.size ≤ y7.heap.size) from ⟨U6.out.1.below h2, h1, bt U6.out.2.1 h2, U6.out.2.1.size, h2.size⟩); have hfg : fb ≠ gb := (by have := U6.out.2.2; omega); clear hx U6 h1 h2 h3 h4))
      have SW := (show Hid (∀ X b v, FsAt X b v L → Snp y4.heap.size y5.heap.size vw L X → Calls Try.prog 30 #[v, vw] X fun e w' => e = .returned (.bool true) ∧ Below X.heap.size X w') from fun X b v h1 h2 => same_files h1 h2.at' (by have := HL.out.2.1; omega))
      have hpe := ptr_ne U7.out.1 U7.out.2.1 hfg
      go_upto_region 29 with (first
        | (have hx := U7; go_at_call 24; refine U7.out.1.image.mono ?_; rintro e y8 ⟨v8, rfl, h1, h2⟩; have U8 := (show Hid (Ldd L y5.heap.size y6.heap.size fb y8 ∧ Ldd L y6.heap.size y7.heap.size gb y8 ∧ Below y5.heap.size y5 y8 ∧ FsAt y8 y7.heap.size v8 L) from ⟨U7.out.1.below h2, U7.out.2.1.below h2, bt U7.out.2.2.1 h2, h1⟩); have Z7 := (show Hid (y5.heap.size ≤ y6.heap.size ∧ y6.heap.size ≤ y7.heap.size) from U7.out.2.2.2); clear hx U7 h1 h2)
        | (have hx := U8; go_at_call 30; refine (SW.out _ _ _ U8.out.2.2.2 (SF5.out.2.keep (fun g _ hg => U8.out.2.2.1.block g hg))).mono ?_; rintro e y9 ⟨rfl, h1⟩; have U9 := (show Hid (Ldd L y5.heap.size y6.heap.size fb y9 ∧ Ldd L y6.heap.size y7.heap.size gb y9 ∧ Below y5.heap.size y5 y9) from ⟨U8.out.1.below h1, U8.out.2.1.below h1, bt U8.out.2.2.1 h1⟩); clear hx U8 h1))
      clear hpe hfg
      have WI := (show Hid (Calls Try.prog 35 #[.pointer (some ⟨fb, 0, none⟩)] y9 fun e w' => e = .returned (.int .i64 0) ∧ Tn (fun g => y5.heap.size ≤ g ∧ g < y6.heap.size) y9 w') from U9.out.1.wipe)
      go_upto_region 32 with (first
        | (have hx := U9; go_at_call 35; refine WI.out.mono ?_; rintro e y10 ⟨rfl, h1⟩; have U10 := (show Hid (Ldd L y6.heap.size y7.heap.size gb y10 ∧ Below y5.heap.size y5 y10) from ⟨U9.out.2.1.tn h1 (fun g k1 k2 k3 => by omega), tn_bel U9.out.2.2 h1 (fun b hb => hb.1)⟩); clear hx U9 WI h1)
        | (have hx := U10; go_at_call 24; refine U10.out.1.image.mono ?_; rintro e y11 ⟨v11, rfl, h1, h2⟩; have U11 := (show Hid (Ldd L y6.heap.size y7.heap.size gb y11 ∧ Below y5.heap.size y5 y11 ∧ FsAt y11 y10.heap.size v11 L) from ⟨U10.out.1.below h2, bt U10.out.2 h2, h1⟩); clear hx U10 h1 h2)
        | (have hx := U11; go_at_call 30; refine (SW.out _ _ _ U11.out.2.2 (SF5.out.2.keep (fun g _ hg => U11.out.2.1.block g hg))).mono ?_; rintro e y12 ⟨rfl, h1⟩; have U12 := (show Hid (Ldd L y6.heap.size y7.heap.size gb y12 ∧ Below y5.heap.size y5 y12) from ⟨U11.out.1.below h1, bt U11.out.2.1 h1⟩); clear hx U11 h1))
      have W0 := (show Hid (Wr y3.heap.size y4.heap.size (.slice pf nL cf) L y12 y12) from ⟨⟨L, SF5.out.1.keep (fun g _ hg => U12.out.2.block g (by have := Z5.out.2.2; omega)), rfl, rfl⟩, Tn.refl _ _⟩)
      have hnL : nL ≤ 3145728 := HNL.out.2
      have LB := (show Hid (∀ i, i < nL → (L.getD i ([], [])).2.length ≤ 140737488355328) from fun i hi => by
        have h1 := fsz_get L i (by have := HNL.out.1; omega)
        have h2 := HL.out.2.2.2
        omega)
      go_wp2_with fail
      go_loopw [20, 21] (fun i a1 wx => ∃ k : Nat, k ≤ nL ∧ i = .int .i64 (k : Int) ∧ Hid (Wr y3.heap.size y4.heap.size (.slice pf nL cf) L y12 wx)) (fun i _ _ => nL - (intOf i).toNat)
      case atStart => exact ⟨0, Nat.zero_le _, rfl, W0⟩
      case round =>
        obtain ⟨i, hi9, rfl, hW⟩ := hrel
        by_cases hlt2 : i < nL
        · have hi2 : (i : Int) < (nL : Int) := by omega
          obtain ⟨m, hm⟩ : ∃ m, m = (L.getD i ([], [])).2.length := ⟨_, rfl⟩
          have HMm := (show Hid (m = (L.getD i ([], [])).2.length ∧ i < L.length) from ⟨hm, by have := HNL.out.1; omega⟩)
          have hm9 : m ≤ 140737488355328 := by rw [hm]; exact LB.out i hlt2
          clear hm
          go_wp2_with fail
          go_loopw [21] (fun j wx => ∃ k : Nat, k ≤ m ∧ j = .int .i64 (k : Int) ∧ Hid (Wr y3.heap.size y4.heap.size (.slice pf nL cf) L y12 wx)) (fun j _ => m - (intOf j).toNat)
          case atStart => exact ⟨0, Nat.zero_le _, rfl, hW⟩
          case round =>
            obtain ⟨j, hj9, rfl, hV⟩ := hrel
            by_cases hlt3 : j < m
            · have hi3 : (j : Int) < (m : Int) := by omega
              obtain ⟨g, cg, gd, cgd, z, e1, e2, e3, e4, e5⟩ := hV.out.byte i j HMm.out.2 (by have := HMm.out.1; omega)
              rw [← HMm.out.1] at e2
              injection e1 with e1 en ec
              subst e1 ec
              have NX := (show Hid (Wr y3.heap.size y4.heap.size (.slice (some ⟨g, 0, none⟩) nL cf) L y12 (wr.setCell ⟨gd, j, none⟩ (u8v (z + 1)))) from e5 (z + 1))
              obtain ⟨zn, hzn⟩ : ∃ zn : Nat, zn = z.toNat := ⟨_, rfl⟩
              rw [← hzn] at e3
              have ZZ := (show Hid (u8v (z + 1) = .int .u8 (((zn : Int) + 1) % 256)) from by
                have h9 := u8a_is z 1 zn hzn (by decide)
                exact h9)
              have hzb : zn < 256 := by rw [hzn]; exact z.toNat_lt
              clear hzn e5 en
              go_wp2_with fail
              go_region
              go_wp2_with fail
              go_roundw
              case rel =>
                refine ⟨j + 1, by omega, by go_num, ?_⟩
                have h9 := NX.out
                rw [ZZ.out] at h9
                exact h9.drew
              case measure => simp [intOf]; omega
            · obtain rfl : j = m := by omega
              have hi3 : ¬ (j : Int) < (j : Int) := by omega
              obtain ⟨g, cg, pd9, cgd, e1, e2⟩ := hV.out.len i HMm.out.2
              rw [← HMm.out.1] at e2
              injection e1 with e1 en ec
              subst e1 ec
              clear en
              go_wp2_with fail
              go_roundw
              case rel => exact ⟨i + 1, by omega, by go_num, hV⟩
              case measure => simp [intOf]; omega
        · obtain rfl : i = nL := by omega
          have hi2 : ¬ (i : Int) < (i : Int) := by omega
          obtain ⟨L', s1, s2, s3⟩ := hW.out.sn
          have Q0 := (show Hid (Snp y3.heap.size y4.heap.size (.slice pf i cf) L' wr ∧ L'.map (·.1) = L.map (·.1) ∧ L'.map (·.2.length) = L.map (·.2.length) ∧ L'.length = i) from ⟨s1, s2, s3, by have := map_len _ s2; have := HNL.out.1; omega⟩)
          have Q1 := (show Hid (Ldd L y6.heap.size y7.heap.size gb wr ∧ Snp y4.heap.size y5.heap.size vw L wr ∧ Below w2.heap.size w2 wr) from by
            have h1 := Z5.out
            have h2 := Z7.out
            have h3 := U12.out.2.size
            refine ⟨U12.out.1.tn hW.out.tn (fun g k1 k2 k3 => by omega), SF5.out.2.keep (fun g k1 k2 => ?_), tn_bel (bt V5.out U12.out.2) hW.out.tn (fun b hb => by omega)⟩
            exact (hW.out.tn.block g (by omega) (fun k3 => by omega)).trans (U12.out.2.block g k2))
          have Q2 := (show Hid (y5.heap.size ≤ wr.heap.size) from Nat.le_trans U12.out.2.size hW.out.tn.size)
          clear s1 s2 s3 hW U12 W0 LB SF5 V5
          have U20 := (show Hid True from trivial)
          go_wp2_with (first
            | (have hx := U20; go_at_call 29; refine (LO.out wr _ pf i cf L' Q0.out.1.at' Q0.out.2.2.2 Q0.out.2.1 Q0.out.2.2.1).mono ?_; rintro e z1 ⟨xb, rfl, h1, h2, h3, h4⟩; have U21 := (show Hid (Ldd L' wr.heap.size z1.heap.size xb z1 ∧ Below wr.heap.size wr z1) from ⟨h1, h2⟩); clear hx U20 h1 h2 h3 h4)
            | (have hx := U21; go_at_call 24; refine U21.out.1.image.mono ?_; rintro e z2 ⟨v2, rfl, h1, h2⟩; have U22 := (show Hid (FsAt z2 z1.heap.size v2 L' ∧ Below wr.heap.size wr z2) from ⟨h1, bt U21.out.2 h2⟩); clear hx U21 h1 h2)
            | (have hx := U22; go_at_call 30; refine (same_files U22.out.1 (Q0.out.1.at'.below U22.out.2) (by have := Q0.out.2.2.2; omega)).mono ?_; rintro e z3 ⟨rfl, h1⟩; have U23 := (show Hid (Below wr.heap.size wr z3) from bt U22.out.2 h1); clear hx U22 h1)
            | (have hx := U23; go_at_call 24; refine (Q1.out.1.below U23.out).image.mono ?_; rintro e z4 ⟨v4, rfl, h1, h2⟩; have U24 := (show Hid (FsAt z4 z3.heap.size v4 L ∧ Below wr.heap.size wr z4) from ⟨h1, bt U23.out h2⟩); clear hx U23 h1 h2)
            | (have hx := U24; go_at_call 30; refine (SW.out _ _ _ U24.out.1 (Q1.out.2.1.keep (fun g k1 k2 => U24.out.2.block g (by have := Q2.out; omega)))).mono ?_; rintro e z5 ⟨rfl, h1⟩; have U25 := (show Hid (Below wr.heap.size wr z5) from bt U24.out.2 h1); clear hx U24 h1))
          go_ret
          exact ⟨rfl, bt (bt B2.out Q1.out.2.2) U25.out⟩
end
end Go.Proofs.Ytaddgmbglhdfdaa
