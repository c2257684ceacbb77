/-
  CrcStreams: its walk.
-/
import Derived.Test.YtmpccpcnbenpfaaSt1
import Derived.Laws.Bits64
import Derived.Deep.RegionHeld3
namespace Go.Proofs.Ytmpccpcnbenpfaa
open Go.RowKit Go.Great
def up {α : Type} (f : Nat → α) (k : Nat) (v : α) (j : Nat) : α := if j = k then v else f j
theorem up_same {α : Type} (f : Nat → α) (k : Nat) (v : α) : up f k v k = v := if_pos rfl
theorem up_ne {α : Type} (f : Nat → α) (k : Nat) (v : α) {j : Nat} (h : j ≠ k) : up f k v j = f j := if_neg h
/-- The four streams of the program. -/
def Sg (w : World) (gs : Nat) (Cs : Nat → List (BitVec 8)) : Prop := ∀ k, k < 4 → Sm w gs (k * 2) ((Cs k).length : Nat) (cmo 0#32 (Cs k))
theorem Sg.below {w w' : World} {gs : Nat} {Cs : Nat → List (BitVec 8)} (h : Sg w gs Cs) (hb : Below w.heap.size w w') : Sg w' gs Cs := fun k hk => (h k hk).below hb
theorem Sm.cellOther {w : World} {b o : Nat} {c : Int} {r : BitVec 32} {p : Addr} {u : Value} (h : Sm w b o c r) (h1 : p ≠ ⟨b, o, none⟩) (h2 : p ≠ ⟨b, o + 1, none⟩) : Sm (w.setCell p u) b o c r := by
  obtain ⟨g1, g2, g3, g4⟩ := h
  exact ⟨by rw [World.cell?_setCell_other _ _ _ _ h1]; exact g1, by rw [World.cell?_setCell_other _ _ _ _ h2]; exact g2, by simp [g3], by simp [g4]⟩
theorem Sg.other {w : World} {gs : Nat} {Cs : Nat → List (BitVec 8)} {p : Addr} {u : Value} (h : Sg w gs Cs) (hp : p.block ≠ gs) : Sg (w.setCell p u) gs Cs := fun k hk =>
  (h k hk).cellOther (fun e => hp (by rw [e])) (fun e => hp (by rw [e]))
theorem Sg.upd {w : World} {gs k : Nat} {Cs : Nat → List (BitVec 8)} (h : Sg w gs Cs) (hk : k < 4) (L : List (BitVec 8)) : Sg ((w.setCell ⟨gs, k * 2 + 1, none⟩ (.int .u32 (rg (cmo 0#32 L)))).setCell ⟨gs, k * 2, none⟩ (.int .u64 (L.length : Nat))) gs (up Cs k L) := fun j hj => by
  by_cases e : j = k
  · subst e; rw [up_same]; exact (h j hj).wrote
  · rw [up_ne _ _ _ e]
    refine ((h j hj).cellOther ?_ ?_).cellOther ?_ ?_ <;> (intro e2; injection e2 with _ e3; omega)
theorem cmo_app (s : BitVec 32) (A B : List (BitVec 8)) : cmo (cmo s A) B = cmo s (A ++ B) := by
  unfold cmo; rw [BitVec.not_not, ov_append]
theorem Sg.updf {w : World} {gs k : Nat} {Cs : Nat → List (BitVec 8)} (h : Sg w gs Cs) (hk : k < 4) (L : List (BitVec 8)) : Sg ((w.setCell ⟨gs, k * 2, none⟩ (.int .u64 (L.length : Nat))).setCell ⟨gs, k * 2 + 1, none⟩ (.int .u32 (rg (cmo 0#32 L)))) gs (up Cs k L) := fun j hj => by
  by_cases e : j = k
  · subst e; rw [up_same]; exact (h j hj).reset
  · rw [up_ne _ _ _ e]
    refine ((h j hj).cellOther ?_ ?_).cellOther ?_ ?_ <;> (intro e2; injection e2 with _ e3; omega)
/-- An own row one of whose bytes is written. -/
theorem Ow.setw {w : World} {base g n c j : Nat} {L : List (BitVec 8)} {x : BitVec 8} (h : Ow w base (.slice (some ⟨g, 0, none⟩) n c) L) (hj : j < L.length) (hL : L.length = n) : Ow (w.setCell ⟨g, j, none⟩ (.int .u8 (el x))) base (.slice (some ⟨g, 0, none⟩) n c) (L.set j x) := by
  rcases h.2 with ⟨hv, _⟩ | ⟨g', cap, cur, hv, hb, hh, hc, hm, hs, ht⟩
  · cases hv
  · injection hv with h1 _ h3
    injection h1 with h1
    injection h1 with h1 _
    subst h1 h3
    refine ⟨by rw [vs_len, Nat.mul_one], .inr ⟨g, c, cur.setIfInBounds j (.int .u8 (el x)), by rw [List.length_set, hL], hb, by rw [heap_setCell_same w g j _ _ _ hh], by rw [List.length_set]; exact hc, hm, by simpa using hs, ?_⟩⟩
    rw [Nat.mul_one] at ht ⊢
    apply List.ext_getElem?
    intro i
    by_cases hi : i < L.length
    · rw [List.getElem?_take_of_lt (by rw [List.length_set]; exact hi), vs_at _ _ i (by rw [List.length_set]; exact hi)]
      have hcu : cur[i]? = some (.int .u8 (el (fn L i))) := by
        have h1 : (cur.toList.take L.length)[i]? = some (.int .u8 (el (fn L i))) := by rw [ht, vs_at _ _ i hi]
        rw [List.getElem?_take_of_lt hi] at h1
        simpa using h1
      rw [Array.getElem?_toList, Array.getElem?_setIfInBounds]
      by_cases e : j = i
      · subst e; rw [if_pos rfl, if_pos (by omega)]; simp [fn, hi]
      · rw [if_neg e, hcu]; unfold fn; simp [List.getElem?_set_ne e]
    · rw [List.getElem?_eq_none (by simp; omega), List.getElem?_eq_none (by rw [vs_len, List.length_set]; omega)]
theorem Sg.updr {w : World} {gs k : Nat} {Cs : Nat → List (BitVec 8)} (h : Sg w gs Cs) (hk : k < 4) : Sg ((w.setCell ⟨gs, k * 2, none⟩ (.int .u64 0)).setCell ⟨gs, k * 2 + 1, none⟩ (.int .u32 0)) gs (up Cs k []) := fun j hj => by
  have e0 : cmo 0#32 [] = 0#32 := by decide +kernel
  by_cases e : j = k
  · subst e; rw [up_same, e0]
    have := (h j hj).reset (c' := 0) (r' := 0#32)
    rw [rg_zero] at this; exact this
  · rw [up_ne _ _ _ e]
    refine ((h j hj).cellOther ?_ ?_).cellOther ?_ ?_ <;> (intro e2; injection e2 with _ e3; omega)
/-- The four streams of the document. -/
structure Wg (w : World) (gw B0 U : Nat) (Bs : Nat → List (BitVec 8)) (ps : Nat → Option Addr) (cs : Nat → Nat) : Prop where
  cell : ∀ k, k < 4 → w.cell? ⟨gw, k, none⟩ = some (.slice (ps k) (Bs k).length (cs k))
  fz : ∀ k, k < 4 → w.frozen? ⟨gw, k, none⟩ = false
  rd : ∀ k, k < 4 → Rd w (ps k) (Bs k)
  ab : ∀ k, k < 4 → ∀ a, ps k = some a → B0 ≤ a.block ∧ a.block < U
theorem Wg.below {w w' : World} {gw B0 U : Nat} {Bs : Nat → List (BitVec 8)} {ps : Nat → Option Addr} {cs : Nat → Nat} (h : Wg w gw B0 U Bs ps cs) (hb : Below w.heap.size w w') : Wg w' gw B0 U Bs ps cs :=
  ⟨fun k hk => cell_below (h.cell k hk) hb, fun k hk => by rw [hb.frozen (p := ⟨gw, k, none⟩) (block_lt_of_cell (h.cell k hk))]; exact h.fz k hk, fun k hk => (h.rd k hk).below hb, h.ab⟩
theorem Rd.other {w : World} {p : Option Addr} {xs : List (BitVec 8)} {a : Addr} {u : Value} (h : Rd w p xs) (ha : ∀ b, p = some b → b.block ≠ a.block) : Rd (w.setCell a u) p xs := by
  rcases h with h | ⟨b, o, rfl, hc⟩
  · exact .inl h
  · refine .inr ⟨b, o, rfl, fun i hi => ?_⟩
    rw [World.cell?_setCell_other _ _ _ _ (fun e => ha _ rfl (by rw [e]))]; exact hc i hi
theorem Wg.other {w : World} {gw B0 U : Nat} {Bs : Nat → List (BitVec 8)} {ps : Nat → Option Addr} {cs : Nat → Nat} {a : Addr} {u : Value} (h : Wg w gw B0 U Bs ps cs) (h1 : a.block ≠ gw) (h2 : a.block < B0 ∨ U ≤ a.block) : Wg (w.setCell a u) gw B0 U Bs ps cs :=
  ⟨fun k hk => by rw [World.cell?_setCell_other _ _ _ _ (fun e => h1 (by rw [e]))]; exact h.cell k hk, fun k hk => by simp [h.fz k hk], fun k hk => (h.rd k hk).other (fun b hb => by have := h.ab k hk b hb; omega), h.ab⟩
theorem Wg.upd {w : World} {gw B0 U U' k : Nat} {Bs : Nat → List (BitVec 8)} {ps : Nat → Option Addr} {cs : Nat → Nat} (h : Wg w gw B0 U Bs ps cs) (hk : k < 4) (hU : U ≤ U') (hg : gw < B0) {p : Option Addr} {L : List (BitVec 8)} (c : Nat) (hr : Rd w p L) (ha : ∀ a, p = some a → B0 ≤ a.block ∧ a.block < U') :
    Wg (w.setCell ⟨gw, k, none⟩ (.slice p L.length c)) gw B0 U' (up Bs k L) (up ps k p) (up cs k c) := by
  refine ⟨fun j hj => ?_, fun j hj => by simp [h.fz j hj], fun j hj => ?_, fun j hj a hja => ?_⟩
  · by_cases e : j = k
    · subst e; rw [up_same, up_same, up_same]; exact World.cell?_setCell_same _ _ _ (h.cell j hj)
    · rw [up_ne _ _ _ e, up_ne _ _ _ e, up_ne _ _ _ e, World.cell?_setCell_other _ _ _ _ (fun e2 => by injection e2 with _ e3; omega)]; exact h.cell j hj
  · by_cases e : j = k
    · subst e; rw [up_same, up_same]; exact hr.other (fun b hb => by have := ha b hb; show b.block ≠ gw; omega)
    · rw [up_ne _ _ _ e, up_ne _ _ _ e]; exact (h.rd j hj).other (fun b hb => by have := h.ab j hj b hb; show b.block ≠ gw; omega)
  · by_cases e : j = k
    · subst e; rw [up_same] at hja; exact ha a hja
    · rw [up_ne _ _ _ e] at hja; have := h.ab j hj a hja; omega
/-- A step's fields. -/
def Xc (w : World) (g : Nat) (K A T : Int) (p : Option Addr) (n c : Nat) : Prop :=
  w.cell? ⟨g, 0, none⟩ = some (.int .i64 K) ∧ w.cell? ⟨g, 1, none⟩ = some (.int .i64 A) ∧ w.cell? ⟨g, 2, none⟩ = some (.int .i64 T) ∧ w.cell? ⟨g, 3, none⟩ = some (.slice p n c)
theorem Xc.below {w w' : World} {g : Nat} {K A T : Int} {p : Option Addr} {n c : Nat} (h : Xc w g K A T p n c) (hb : Below w.heap.size w w') : Xc w' g K A T p n c :=
  ⟨cell_below h.1 hb, cell_below h.2.1 hb, cell_below h.2.2.1 hb, cell_below h.2.2.2 hb⟩
theorem Xc.other {w : World} {g : Nat} {K A T : Int} {p : Option Addr} {n c : Nat} {a : Addr} {u : Value} (h : Xc w g K A T p n c) (ha : a.block ≠ g) : Xc (w.setCell a u) g K A T p n c := by
  obtain ⟨h0, h1, h2, h3⟩ := h
  refine ⟨?_, ?_, ?_, ?_⟩ <;> (rw [World.cell?_setCell_other _ _ _ _ (fun e => ha (by rw [e]))]; assumption)
theorem Xc.lt {w : World} {g : Nat} {K A T : Int} {p : Option Addr} {n c : Nat} (h : Xc w g K A T p n c) : g < w.heap.size := block_lt_of_cell h.1
section
attribute [local irreducible] Calls rg ov cmo el Ow Rd Sm Xc
set_option maxHeartbeats 8000000 in
set_option maxRecDepth 1000000 in
theorem crcStreams_walk (w : World) (q0 : Option Addr) (m k0 : Nat) (Ks As Ts : Nat → Int) (X : Nat → List (BitVec 8)) (Pp : Nat → Option Addr) (Cc tot : Nat → Nat) (hm : m ≤ 1048576) (hts : ∀ i, tot (i + 1) = tot i + (X i).length) (ht : ∀ i, i ≤ m → tot i ≤ 1048576)
    (H1 : Hid (∀ i, i < m → ∃ b o, q0 = some ⟨b, o, none⟩ ∧ w.cell? ⟨b, o + i * 4, none⟩ = some (.int .i64 (Ks i)) ∧ w.cell? ⟨b, o + i * 4 + 1, none⟩ = some (.int .i64 (As i)) ∧ w.cell? ⟨b, o + i * 4 + 2, none⟩ = some (.int .i64 (Ts i)) ∧ w.cell? ⟨b, o + i * 4 + 3, none⟩ = some (.slice (Pp i) (X i).length (Cc i)) ∧ Rd w (Pp i) (X i) ∧ (Pp i = none → Cc i = 0))) :
    Calls Try.prog 8 #[.slice q0 m k0] w fun e w' => e = .returned (.bool true) ∧ Below w.heap.size w w' := by
  go_enter Try.func8, Try.ntmps8
  go_wp2_with (fail)
  have hA := heap_alloc_new w (.cells #[.int .u64 0, .int .u32 0, .int .u64 0, .int .u32 0, .int .u64 0, .int .u32 0, .int .u64 0, .int .u32 0] 44)
  have hbA : Below w.heap.size w (w.alloc (.cells #[.int .u64 0, .int .u32 0, .int .u64 0, .int .u32 0, .int .u64 0, .int .u32 0, .int .u64 0, .int .u32 0] 44)) := (Below.refl _ _).alloc (Nat.le_refl _) _
  have hzA : (w.alloc (.cells #[.int .u64 0, .int .u32 0, .int .u64 0, .int .u32 0, .int .u64 0, .int .u32 0, .int .u64 0, .int .u32 0] 44)).heap.size = w.heap.size + 1 := by simp
  have hSA : Sg (w.alloc (.cells #[.int .u64 0, .int .u32 0, .int .u64 0, .int .u32 0, .int .u64 0, .int .u32 0, .int .u64 0, .int .u32 0] 44)) w.heap.size (fun _ => []) := by
    have e0 : cmo 0#32 [] = 0#32 := by unfold cmo ov; decide +kernel
    unfold Sg Sm
    intro k hk
    rw [e0, rg_zero]
    refine ⟨?_, ?_, frozen_of_row _ _ _ _ _ hA, frozen_of_row _ _ _ _ _ hA⟩
    all_goals
      rw [cell_of_row _ _ _ _ _ (0, 0) hA]
      have : k = 0 ∨ k = 1 ∨ k = 2 ∨ k = 3 := by omega
      rcases this with rfl | rfl | rfl | rfl <;> rfl
  clear hA
  generalize w.alloc (.cells #[.int .u64 0, .int .u32 0, .int .u64 0, .int .u32 0, .int .u64 0, .int .u32 0, .int .u64 0, .int .u32 0] 44) = WA at *
  have hB := heap_alloc_new WA (.cells #[.slice none 0 0, .slice none 0 0, .slice none 0 0, .slice none 0 0] 47)
  have hbB : Below WA.heap.size WA (WA.alloc (.cells #[.slice none 0 0, .slice none 0 0, .slice none 0 0, .slice none 0 0] 47)) := (Below.refl _ _).alloc (Nat.le_refl _) _
  have hzB : (WA.alloc (.cells #[.slice none 0 0, .slice none 0 0, .slice none 0 0, .slice none 0 0] 47)).heap.size = WA.heap.size + 1 := by simp
  have hWB : Wg (WA.alloc (.cells #[.slice none 0 0, .slice none 0 0, .slice none 0 0, .slice none 0 0] 47)) WA.heap.size (w.heap.size + 2) (w.heap.size + 2) (fun _ => []) (fun _ => none) (fun _ => 0) := by
    refine ⟨fun k hk => ?_, fun k hk => frozen_of_row _ _ _ _ _ hB, fun k hk => by unfold Rd; exact .inl rfl, fun k hk a e => by cases e⟩
    rw [cell_of_row _ _ _ _ _ (0, 0) hB]
    have : k = 0 ∨ k = 1 ∨ k = 2 ∨ k = 3 := by omega
    rcases this with rfl | rfl | rfl | rfl <;> rfl
  clear hB
  generalize WA.alloc (.cells #[.slice none 0 0, .slice none 0 0, .slice none 0 0, .slice none 0 0] 47) = WB at *
  have hSB := hSA.below hbB
  have hbw := bt hbA hbB
  rw [hzA] at hWB
  obtain ⟨gs, hgs⟩ : ∃ gs, gs = w.heap.size := ⟨_, rfl⟩
  obtain ⟨gw, hgw⟩ : ∃ gw, gw = w.heap.size + 1 := ⟨_, rfl⟩
  obtain ⟨B0, hB0⟩ : ∃ B0, B0 = w.heap.size + 2 := ⟨_, rfl⟩
  have HG : Hid (gs < gw ∧ gw < B0 ∧ w.heap.size ≤ gs) := by show _ ∧ _; omega
  have HZ : Hid (B0 ≤ WB.heap.size) := by show _ ≤ _; omega
  rw [← hB0, ← hgw] at hWB
  rw [← hgs] at hSB
  try rw [← hgw]
  try rw [← hgs]
  clear hSA hbA hbB hzA hzB hgs hgw hB0
  go_loopw [5] (fun v wr => ∃ (i U : Nat) (Bs : Nat → List (BitVec 8)) (ps : Nat → Option Addr) (cs : Nat → Nat), i ≤ m ∧ v = .int .i64 i ∧ Sg wr gs Bs ∧ Wg wr gw B0 U Bs ps cs ∧ Hid (U ≤ wr.heap.size ∧ B0 ≤ U ∧ ∀ k, k < 4 → (Bs k).length ≤ tot i) ∧ Below w.heap.size w wr) (fun v _ => m - (intOf v).toNat)
  case atStart => exact ⟨0, B0, fun _ => [], fun _ => none, fun _ => 0, Nat.zero_le _, rfl, hSB, hWB, ⟨HZ.out, Nat.le_refl _, fun k _ => Nat.zero_le _⟩, hbw⟩
  case round =>
    clear hSB hWB hbw HZ
    obtain ⟨i, U, Bs, ps, cs, hi, rfl, hS, hW, hU, hb⟩ := hrel
    by_cases hlt : i < m
    · have hii : (i : Int) < (m : Int) := by omega
      obtain ⟨bq, oq, rfl, x0, x1, x2, x3, hr, hnc⟩ := H1.out i hlt
      have g0 := cell_below x0 hb
      have g1 := cell_below x1 hb
      have g2 := cell_below x2 hb
      have g3 := cell_below x3 hb
      have hti := hts i
      have htm := ht (i + 1) (by omega)
      clear x0 x1 x2 x3
      generalize hXi : X i = Y at *
      generalize Pp i = P at *
      generalize Cc i = C at *
      generalize Ks i = K at *
      generalize As i = A at *
      generalize Ts i = T at *
      obtain ⟨k, hk⟩ : ∃ k : Nat, (k : Int) = A % 4 := ⟨(A % 4).toNat, by omega⟩
      have hk4 : k < 4 := by omega
      have fA : ∀ W : World, Calls Try.prog 23 #[.int .i64 A] W fun e w' => e = .returned (.int .i64 k) ∧ w' = W := fun W => by rw [hk]; exact four_any A W
      clear hk
      go_wp2_with (first | (refine wpList_store_rowTo rfl 49 _ _ rfl rfl wr.heap.size #[.int .i64 K, .int .i64 A, .int .i64 T, .slice P Y.length C] rfl rfl 49 _ (heap_alloc_new wr _) (by kernel_rfl) rfl rfl ?_; rw [World.setRow_alloc_new]) | (go_at_call 23; fail))
      have hX := heap_alloc_new wr (.cells #[.int .i64 K, .int .i64 A, .int .i64 T, .slice P Y.length C] 49)
      have hXc : Xc (wr.alloc (.cells #[.int .i64 K, .int .i64 A, .int .i64 T, .slice P Y.length C] 49)) wr.heap.size K A T P Y.length C := by
        unfold Xc
        refine ⟨?_, ?_, ?_, ?_⟩ <;> (rw [cell_of_row _ _ _ _ _ (0, 0) hX]; rfl)
      have hbX : Below wr.heap.size wr (wr.alloc (.cells #[.int .i64 K, .int .i64 A, .int .i64 T, .slice P Y.length C] 49)) := (Below.refl _ _).alloc (Nat.le_refl _) _
      have hzX : (wr.alloc (.cells #[.int .i64 K, .int .i64 A, .int .i64 T, .slice P Y.length C] 49)).heap.size = wr.heap.size + 1 := by simp
      clear hX
      generalize wr.alloc (.cells #[.int .i64 K, .int .i64 A, .int .i64 T, .slice P Y.length C] 49) = W1 at *
      have hS1 := hS.below hbX
      have hW1 := hW.below hbX
      have hb1 := bt hb hbX
      obtain ⟨gx, hgx⟩ : ∃ gx, gx = wr.heap.size := ⟨_, rfl⟩
      have HX : Hid (gs < gx ∧ gw < gx ∧ U ≤ gx ∧ gx < W1.heap.size ∧ B0 ≤ gx) := by
        have h1 := HG.out
        have h2 := hU.out
        show _ ∧ _; omega
      rw [← hgx] at hXc ⊢
      have hT : Hid ((∀ k, k < 4 → (Bs k).length ≤ tot i) ∧ U ≤ W1.heap.size ∧ B0 ≤ U) := ⟨hU.out.2.2, by have := hU.out.1; omega, hU.out.2.1⟩
      clear hS hW hb hbX hzX hgx hU g0 g1 g2 g3
      obtain ⟨y0, y1, y2, y3⟩ : W1.cell? ⟨gx, 0, none⟩ = some (.int .i64 K) ∧ W1.cell? ⟨gx, 1, none⟩ = some (.int .i64 A) ∧ W1.cell? ⟨gx, 2, none⟩ = some (.int .i64 T) ∧ W1.cell? ⟨gx, 3, none⟩ = some (.slice P Y.length C) := by unfold Xc at hXc; exact hXc
      have hyl : Y.length ≤ 140737488355328 := by omega
      have hk5 : (k : Int) < 4 := by omega
      have hSk := hS1 k hk4
      have hCk := hW1.cell k hk4
      have hRk := hW1.rd k hk4
      have hLk := hT.out.1 k hk4
      have HT1 : Hid (∀ k, k < 4 → (Bs k).length ≤ tot (i + 1)) := fun k hk => Nat.le_trans (hT.out.1 k hk) (by omega)
      have nx : Hid (gs ≠ gw) := by have := HG.out; show _ ≠ _; omega
      by_cases K5 : K = 5
      · subst K5
        go_wp2_with (first | (go_at_call 23; refine (fA _).mono ?_; rintro e w' ⟨rfl, hw⟩; rw [hw]; clear hw) | (go_at_call 19; refine (twin_any (hr.below hb1) _ C rfl hyl).mono ?_; rintro e w2 ⟨v2, rfl, ho2, hb2⟩; obtain ⟨p2, c2, rfl, _, _⟩ := ho2.rd; clear ho2) | (go_at_call 25; refine (nothing_any _ _ _ _).mono ?_; rintro e w' ⟨rfl, hw⟩; rw [hw]; clear hw))
        go_roundw
        case rel => exact ⟨i + 1, U, Bs, ps, cs, by omega, by go_num, hS1.below hb2, hW1.below hb2, ⟨by have := hT.out.2.1; have := hb2.size; omega, hT.out.2.2, HT1.out⟩, bt hb1 hb2⟩
        case measure => simp [intOf]; omega
      · by_cases K1 : K = 1
        · subst K1
          have KS : Hid (W1.drew.cell? ⟨gw, k, none⟩ = some (.slice (ps k) (Bs k).length (cs k))) := cell_below hCk (Below.refl _ _).drew
          have Bd := (Below.refl W1.heap.size W1).drew
          go_wp2_with (go_at_call 23; refine (fA _).mono ?_; rintro e w' ⟨rfl, hw⟩; rw [hw]; clear hw)
          go_region_held3 (fun X => X.cell? ⟨gw, k, none⟩ = some (.slice (ps k) (Bs k).length (cs k))) (first | exact KH.out | exact KS.out | go_keep)
            (first
              | (go_at_call 10; refine (ssum_any (hSk.below Bd)).mono ?_; rintro e w' ⟨rfl, hw⟩; rw [hw]; clear hw)
              | (go_at_call 18; refine (refSum_any (hRk.below Bd) _ (cs k) rfl (by omega)).mono ?_; rintro e w3 ⟨rfl, hb3⟩; have B3 := bt Bd hb3; have KH := (show Hid (w3.cell? ⟨gw, k, none⟩ = some (.slice (ps k) (Bs k).length (cs k))) from cell_below hCk B3)))
          all_goals
            go_wp2_with (fail)
            go_roundw
            case rel => exact ⟨i + 1, U, Bs, ps, cs, by omega, by go_num, hS1.below B3, hW1.below B3, ⟨by have := hT.out.2.1; have := B3.size; omega, hT.out.2.2, HT1.out⟩, bt hb1 B3⟩
            case measure => simp [intOf]; omega
        · by_cases K2 : K = 2
          · subst K2
            have hu1 : IntKind.u64.wrap ((Bs k).length : Int) = ((Bs k).length : Int) := by rw [IntKind.wrap_u64]; omega
            have KS : Hid (W1.drew.cell? ⟨gw, k, none⟩ = some (.slice (ps k) (Bs k).length (cs k))) := cell_below hCk (Below.refl _ _).drew
            have Bd := (Below.refl W1.heap.size W1).drew
            go_wp2_with (go_at_call 23; refine (fA _).mono ?_; rintro e w' ⟨rfl, hw⟩; rw [hw]; clear hw)
            go_region_held3 (fun X => X.cell? ⟨gw, k, none⟩ = some (.slice (ps k) (Bs k).length (cs k))) (first | exact KS.out | go_keep)
              (first
                | (go_at_call 11; refine (slen_any (hSk.below Bd)).mono ?_; rintro e w' ⟨rfl, hw⟩; rw [hw]; clear hw))
            all_goals
              go_wp2_with (fail)
              go_roundw
              case rel => exact ⟨i + 1, U, Bs, ps, cs, by omega, by go_num, hS1.below Bd, hW1.below Bd, ⟨by have := hT.out.2.1; have := Bd.size; omega, hT.out.2.2, HT1.out⟩, bt hb1 Bd⟩
              case measure => simp [intOf]; omega
          · by_cases K3 : K = 3
            · subst K3
              go_wp2_with (first | (go_at_call 23; refine (fA _).mono ?_; rintro e w' ⟨rfl, hw⟩; rw [hw]; clear hw) | (go_at_call 12; refine (sreset_any hSk).mono ?_; rintro e w2 ⟨rfl, hw⟩; have hS2 : Sg w2 gs (up Bs k []) := (by rw [hw]; exact hS1.updr hk4); have hW2 : Wg w2 gw B0 U Bs ps cs := (by rw [hw]; exact (hW1.other (a := ⟨gs, k * 2, none⟩) nx.out (.inl (by have := HG.out; show gs < B0; omega))).other (a := ⟨gs, k * 2 + 1, none⟩) nx.out (.inl (by have := HG.out; show gs < B0; omega))); have hb2 : Below w.heap.size w w2 := (by rw [hw]; exact (hb1.setCell (p := ⟨gs, k * 2, none⟩) HG.out.2.2 _).setCell (p := ⟨gs, k * 2 + 1, none⟩) HG.out.2.2 _); have hz2 : Hid (w2.heap.size = W1.heap.size) := (by rw [hw]; show _ = _; simp); have c2 := hW2.cell k hk4; have z2 := hW2.fz k hk4; clear hw))
              go_roundw
              case rel => exact ⟨i + 1, U, up Bs k [], up ps k none, up cs k 0, by omega, by go_num, hS2.other (fun e => nx.out e.symm), hW2.upd hk4 (Nat.le_refl _) HG.out.2.1 (L := []) 0 (by unfold Rd; exact .inl rfl) (fun a e => by cases e), ⟨by have := hT.out.2.1; have := hz2.out; simp; omega, hT.out.2.2, fun j hj => by
                  by_cases e : j = k
                  · subst e; rw [up_same]; exact Nat.zero_le _
                  · rw [up_ne _ _ _ e]; exact HT1.out j hj⟩, hb2.setCell (by have := HG.out; show w.heap.size ≤ gw; omega) _⟩
              case measure => simp [intOf]; omega
            · by_cases K4 : K = 4
              · subst K4
                obtain ⟨t, htt⟩ : ∃ t : Nat, (t : Int) = T % 4 := ⟨(T % 4).toNat, by omega⟩
                have ht4 : t < 4 := by omega
                have ht5 : (t : Int) < 4 := by omega
                have fT : ∀ W : World, Calls Try.prog 23 #[.int .i64 T] W fun e w' => e = .returned (.int .i64 t) ∧ w' = W := fun W => by rw [htt]; exact four_any T W
                clear htt
                obtain ⟨s1, s2, s3, s4⟩ : W1.cell? ⟨gs, k * 2, none⟩ = some (.int .u64 ((Bs k).length : Nat)) ∧ W1.cell? ⟨gs, k * 2 + 1, none⟩ = some (.int .u32 (rg (cmo 0#32 (Bs k)))) ∧ W1.frozen? ⟨gs, k * 2, none⟩ = false ∧ W1.frozen? ⟨gs, k * 2 + 1, none⟩ = false := by unfold Sm at hSk; exact hSk
                obtain ⟨u1, u2, u3, u4⟩ : W1.cell? ⟨gs, t * 2, none⟩ = some (.int .u64 ((Bs t).length : Nat)) ∧ W1.cell? ⟨gs, t * 2 + 1, none⟩ = some (.int .u32 (rg (cmo 0#32 (Bs t)))) ∧ W1.frozen? ⟨gs, t * 2, none⟩ = false ∧ W1.frozen? ⟨gs, t * 2 + 1, none⟩ = false := by have := hS1 t ht4; unfold Sm at this; exact this
                go_wp2_with (go_at_call 23; refine (fA _).mono ?_; rintro e w' ⟨rfl, hw⟩; rw [hw]; clear hw)
                go_region_with (first | (go_at_call 23; refine (fT _).mono ?_; rintro e w' ⟨rfl, hw⟩; rw [hw]; clear hw))
                all_goals
                  have hS2 : Sg ((W1.setCell ⟨gs, t * 2, none⟩ (.int .u64 ((Bs k).length : Nat))).setCell ⟨gs, t * 2 + 1, none⟩ (.int .u32 (rg (cmo 0#32 (Bs k))))).drew gs (up Bs t (Bs k)) := (hS1.updf ht4 (Bs k)).below (Below.refl _ _).drew
                  have hW2 : Wg ((W1.setCell ⟨gs, t * 2, none⟩ (.int .u64 ((Bs k).length : Nat))).setCell ⟨gs, t * 2 + 1, none⟩ (.int .u32 (rg (cmo 0#32 (Bs k))))).drew gw B0 U Bs ps cs := ((hW1.other (a := ⟨gs, t * 2, none⟩) nx.out (.inl (by have := HG.out; show gs < B0; omega))).other (a := ⟨gs, t * 2 + 1, none⟩) nx.out (.inl (by have := HG.out; show gs < B0; omega))).below (Below.refl _ _).drew
                  have hX2 : Xc ((W1.setCell ⟨gs, t * 2, none⟩ (.int .u64 ((Bs k).length : Nat))).setCell ⟨gs, t * 2 + 1, none⟩ (.int .u32 (rg (cmo 0#32 (Bs k))))).drew gx 4 A T P Y.length C := ((hXc.other (a := ⟨gs, t * 2, none⟩) (by have := HX.out; show gs ≠ gx; omega)).other (a := ⟨gs, t * 2 + 1, none⟩) (by have := HX.out; show gs ≠ gx; omega)).below (Below.refl _ _).drew
                  have hb2 : Below w.heap.size w ((W1.setCell ⟨gs, t * 2, none⟩ (.int .u64 ((Bs k).length : Nat))).setCell ⟨gs, t * 2 + 1, none⟩ (.int .u32 (rg (cmo 0#32 (Bs k))))).drew := ((hb1.setCell (p := ⟨gs, t * 2, none⟩) HG.out.2.2 _).setCell (p := ⟨gs, t * 2 + 1, none⟩) HG.out.2.2 _).drew
                  have hz2 : Hid (((W1.setCell ⟨gs, t * 2, none⟩ (.int .u64 ((Bs k).length : Nat))).setCell ⟨gs, t * 2 + 1, none⟩ (.int .u32 (rg (cmo 0#32 (Bs k))))).drew.heap.size = W1.heap.size) := by show _ = _; simp
                  generalize ((W1.setCell ⟨gs, t * 2, none⟩ (.int .u64 ((Bs k).length : Nat))).setCell ⟨gs, t * 2 + 1, none⟩ (.int .u32 (rg (cmo 0#32 (Bs k))))).drew = W2 at *
                  clear s1 s2 s3 s4 u1 u2 u3 u4 y0 y1 y2 y3 hSk hCk hS1 hW1 hXc hb1
                  obtain ⟨_, _, y2', _⟩ : W2.cell? ⟨gx, 0, none⟩ = some (.int .i64 4) ∧ W2.cell? ⟨gx, 1, none⟩ = some (.int .i64 A) ∧ W2.cell? ⟨gx, 2, none⟩ = some (.int .i64 T) ∧ W2.cell? ⟨gx, 3, none⟩ = some (.slice P Y.length C) := by unfold Xc at hX2; exact hX2
                  have ck := hW2.cell k hk4
                  have ct := hW2.cell t ht4
                  have zt := hW2.fz t ht4
                  go_wp2_with (fail)
                  go_region_with (first | (go_at_call 23; refine (fT _).mono ?_; rintro e w' ⟨rfl, hw⟩; rw [hw]; clear hw))
                  all_goals
                    go_wp2_with (fail)
                    go_roundw
                    case rel => exact ⟨i + 1, U, up Bs t (Bs k), up ps t (ps k), up cs t (cs k), by omega, by go_num, (hS2.other (p := ⟨gw, t, none⟩) (fun e => nx.out e.symm)).below (Below.refl _ _).drew, (hW2.upd ht4 (Nat.le_refl _) HG.out.2.1 (cs k) (hW2.rd k hk4) (hW2.ab k hk4)).below (Below.refl _ _).drew, ⟨by have := hT.out.2.1; have := hz2.out; simp; omega, hT.out.2.2, fun j hj => by
                        by_cases e : j = t
                        · subst e; rw [up_same]; exact HT1.out k hk4
                        · rw [up_ne _ _ _ e]; exact HT1.out j hj⟩, (hb2.setCell (p := ⟨gw, t, none⟩) (by have := HG.out; show w.heap.size ≤ gw; omega) _).drew⟩
                    case measure => simp [intOf]; omega
              · by_cases K0 : K = 0
                · subst K0
                  have eM := cmo_app 0#32 (Bs k) Y
                  have eU : IntKind.u64.wrap (((Bs k).length : Nat) + (Y.length : Nat) : Int) = (((Bs k ++ Y).length : Nat) : Int) := by rw [IntKind.wrap_u64, List.length_append]; omega
                  go_wp2_with (first | (go_at_call 23; refine (fA _).mono ?_; rintro e w' ⟨rfl, hw⟩; rw [hw]; clear hw) | (go_at_call 19; refine (twin_any (hr.below hb1) _ C rfl hyl).mono ?_; rintro e w2 ⟨v2, rfl, ho2, hb2⟩; obtain ⟨p2, c2, e2, hcap2, r2⟩ := ho2.rd; subst e2; have d2 := bt hb1 hb2; have hSk2 := hSk.below hb2) | (go_at_call 9; refine (swrite_any hSk2 r2 _ c2 rfl hyl).mono ?_; rintro e w3 ⟨wx, rfl, hbx, hw⟩; rw [eM, eU] at hw; have hS3 : Sg w3 gs (up Bs k (Bs k ++ Y)) := (by rw [hw]; exact ((hS1.below hb2).below hbx).upd hk4 (Bs k ++ Y)); have hW3 : Wg w3 gw B0 U Bs ps cs := (by rw [hw]; exact (((hW1.below hb2).below hbx).other (a := ⟨gs, k * 2 + 1, none⟩) nx.out (.inl (by have := HG.out; show gs < B0; omega))).other (a := ⟨gs, k * 2, none⟩) nx.out (.inl (by have := HG.out; show gs < B0; omega))); have hX3 : Xc w3 gx 0 A T P Y.length C := (by rw [hw]; exact (((hXc.below hb2).below hbx).other (a := ⟨gs, k * 2 + 1, none⟩) (by have := HX.out; show gs ≠ gx; omega)).other (a := ⟨gs, k * 2, none⟩) (by have := HX.out; show gs ≠ gx; omega)); have hb3 : Below w.heap.size w w3 := (by rw [hw]; exact ((bt d2 hbx).setCell (p := ⟨gs, k * 2 + 1, none⟩) HG.out.2.2 _).setCell (p := ⟨gs, k * 2, none⟩) HG.out.2.2 _); have hO3 : Ow w3 W1.heap.size (.slice p2 Y.length c2) Y := (by rw [hw]; exact ((ho2.below hbx).other (a := ⟨gs, k * 2 + 1, none⟩) (by have := HX.out; show gs < W1.heap.size; omega) rfl).other (a := ⟨gs, k * 2, none⟩) (by have := HX.out; show gs < W1.heap.size; omega) rfl); have hz3 : Hid (W1.heap.size ≤ w3.heap.size) := (by rw [hw]; have := hb2.size; have := hbx.size; show _ ≤ _; simp; omega); clear hw hbx))
                  clear hSk hSk2 hCk hS1 hW1 hXc ho2 r2 hb2 d2 hb1 y0 y1 y2 y3 hRk
                  go_loopw [9] (fun v wr => ∃ (j : Nat) (L : List (BitVec 8)), j ≤ Y.length ∧ v = .int .i64 j ∧ L.length = Y.length ∧ Ow wr W1.heap.size (.slice p2 Y.length c2) L ∧ Sg wr gs (up Bs k (Bs k ++ Y)) ∧ Wg wr gw B0 U Bs ps cs ∧ Xc wr gx 0 A T P Y.length C ∧ Hid (W1.heap.size ≤ wr.heap.size) ∧ Below w.heap.size w wr) (fun v _ => Y.length - (intOf v).toNat)
                  case atStart => exact ⟨0, Y, Nat.zero_le _, rfl, rfl, hO3, hS3, hW3, hX3, hz3, hb3⟩
                  case round =>
                    clear hO3 hS3 hW3 hX3 hz3 hb3
                    obtain ⟨j, L, hj, rfl, hL, hO, hS, hW, hX, hz, hb⟩ := hrel
                    by_cases hlj : j < Y.length
                    · have hij : (j : Int) < (Y.length : Int) := by omega
                      obtain ⟨g, c3, e3, hg, hWr⟩ := hO.wr (by omega)
                      injection e3 with e4 _ e5
                      subst e4
                      have g1 := hWr.cell (i := j) (by omega)
                      have g2 := hWr.frozen j
                      have hx85 : bits .xor .u8 (el (fn L j)) 85 = el (fn L j ^^^ 85#8) := by rw [show (85 : Int) = el 85#8 by unfold el; rfl, el_xor]
                      have HL : Hid (L.length = Y.length) := hL
                      have HY : Hid (j < Y.length) := hlj
                      clear e5 eM eU hL hlj
                      generalize Y.length = yl at *
                      go_wp2_with (fail)
                      go_roundw
                      case rel => exact ⟨j + 1, L.set j (fn L j ^^^ 85#8), by omega, by go_num, by rw [List.length_set]; exact HL.out, hO.setw (by have := HL.out; have := HY.out; omega) HL.out, hS.other (by have := HX.out; show g ≠ gs; omega), hW.other (by have := HX.out; show g ≠ gw; omega) (.inr (by have := HX.out; show U ≤ g; omega)), hX.other (by have := HX.out; show g ≠ gx; omega), (by have := hz.out; show _ ≤ _; simpa using this), hb.setCell (by have := HX.out; have := HG.out; show w.heap.size ≤ g; omega) _⟩
                      case measure => simp [intOf]; omega
                    · obtain rfl : j = Y.length := by omega
                      have ck := hW.cell k hk4
                      have zk := hW.fz k hk4
                      obtain ⟨_, _, _, y3'⟩ : wr.cell? ⟨gx, 0, none⟩ = some (.int .i64 0) ∧ wr.cell? ⟨gx, 1, none⟩ = some (.int .i64 A) ∧ wr.cell? ⟨gx, 2, none⟩ = some (.int .i64 T) ∧ wr.cell? ⟨gx, 3, none⟩ = some (.slice P Y.length C) := by unfold Xc at hX; exact hX
                      have Bd := (Below.refl wr.heap.size wr).drew
                      have Wr1 : ∀ c, Calls Try.prog 24 #[.agg #[.slice (ps k) (Bs k).length c], .slice P Y.length C] wr.drew fun e w' => ∃ p4 c4, e = .returned (.agg #[.slice p4 (Bs k ++ Y).length c4]) ∧ Ow w' wr.heap.size (.slice p4 (Bs k ++ Y).length c4) (Bs k ++ Y) ∧ Below wr.heap.size wr w' := fun c =>
                        (refWrite_any ((hW.rd k hk4).below Bd) ((hr.below hb).below Bd) _ c _ C rfl rfl hnc (by omega)).mono fun e w' ⟨v, h1, h2, h3⟩ => by
                          obtain ⟨p4, c4, e4, _, _⟩ := h2.rd
                          subst e4
                          exact ⟨p4, c4, h1, h2, bt Bd h3⟩
                      clear eM eU
                      go_wp2_with (fail)
                      go_region_with (first | (go_at_call 24; refine (Wr1 _).mono ?_; rintro e w4 ⟨p4, c4, rfl, ho4, hb4⟩; have ck4 := cell_below ck hb4; have zk4 := (hW.below hb4).fz k hk4))
                      all_goals
                        have hl4 : (Bs k ++ Y).length = (Bs k).length + Y.length := List.length_append
                        have HR4 : Hid (Rd w4 p4 (Bs k ++ Y) ∧ ∀ a, p4 = some a → B0 ≤ a.block ∧ a.block < w4.heap.size) := ⟨by
                          obtain ⟨p5, c5, e5, _, h5⟩ := ho4.rd
                          injection e5 with e6 _ _
                          rw [e6]; exact h5, fun a ha => by
                          have h1 := ho4.lt (g := a.block) (by rw [ha]; rfl)
                          have h2 := hz.out
                          have h3 := HX.out
                          omega⟩
                        have hw5 : Wg (w4.setCell ⟨gw, k, none⟩ (.slice p4 ((Bs k).length + Y.length) c4)) gw B0 w4.heap.size (up Bs k (Bs k ++ Y)) (up ps k p4) (up cs k c4) := by
                          rw [← hl4]
                          exact (hW.below hb4).upd hk4 (by have := hz.out; have := HX.out; have := hb4.size; omega) HG.out.2.1 c4 HR4.out.1 HR4.out.2
                        go_wp2_with (fail)
                        go_roundw
                        case rel => exact ⟨i + 1, w4.heap.size, up Bs k (Bs k ++ Y), up ps k p4, up cs k c4, by omega, by go_num, (hS.below hb4).other (fun e => nx.out e.symm), hw5, ⟨by simp, by have := hz.out; have := HX.out; have := hb4.size; omega, fun j hj => by
                            by_cases e : j = k
                            · subst e; rw [up_same, hl4]; have := hT.out.1 j hj; omega
                            · rw [up_ne _ _ _ e]; exact HT1.out j hj⟩, (bt hb hb4).setCell (by have := HG.out; show w.heap.size ≤ gw; omega) _⟩
                        case measure => simp [intOf]; omega
                · have e0 : (K == 0) = false := by simpa using K0
                  have e1 : (K == 1) = false := by simpa using K1
                  have e2 : (K == 2) = false := by simpa using K2
                  have e3 : (K == 3) = false := by simpa using K3
                  have e4 : (K == 4) = false := by simpa using K4
                  have e5 : (K == 5) = false := by simpa using K5
                  go_wp2_with (go_at_call 23; refine (fA _).mono ?_; rintro e w' ⟨rfl, hw⟩; rw [hw]; clear hw)
                  go_roundw
                  case rel => exact ⟨i + 1, U, Bs, ps, cs, by omega, by go_num, hS1, hW1, ⟨hT.out.2.1, hT.out.2.2, HT1.out⟩, hb1⟩
                  case measure => simp [intOf]; omega
    · obtain rfl : i = m := by omega
      have htm := ht i (Nat.le_refl _)
      have hb0 : Hid (∀ k, k < 4 → (Bs k).length ≤ 1048576) := fun k hk => Nat.le_trans (hU.out.2.2 k hk) htm
      clear hU H1 hts ht
      go_wp2_with (fail)
      go_loopw [10] (fun v wr => ∃ j : Nat, j ≤ 4 ∧ v = .int .i64 j ∧ Sg wr gs Bs ∧ Wg wr gw B0 U Bs ps cs ∧ Below w.heap.size w wr) (fun v _ => 4 - (intOf v).toNat)
      case atStart => exact ⟨0, Nat.zero_le _, rfl, hS, hW, hb⟩
      case round =>
        clear hS hW hb
        obtain ⟨j, hj, rfl, hS, hW, hb⟩ := hrel
        by_cases hlj : j < 4
        · have hij : (j : Int) < 4 := by omega
          have hlen := hb0.out j hlj
          have hSk := hS j hlj
          have hCk := hW.cell j hlj
          have hRk := hW.rd j hlj
          have hu1 : IntKind.u64.wrap ((Bs j).length : Int) = ((Bs j).length : Int) := by rw [IntKind.wrap_u64]; omega
          have KS : Hid (wr.drew.cell? ⟨gw, j, none⟩ = some (.slice (ps j) (Bs j).length (cs j))) := cell_below hCk (Below.refl _ _).drew
          have Bd := (Below.refl wr.heap.size wr).drew
          go_wp2_with (fail)
          go_region_held3 (fun X => X.cell? ⟨gw, j, none⟩ = some (.slice (ps j) (Bs j).length (cs j))) (first | exact KH.out | exact KS.out | go_keep)
            (first
              | (go_at_call 10; refine (ssum_any (hSk.below Bd)).mono ?_; rintro e w' ⟨rfl, hw⟩; rw [hw]; clear hw)
              | (go_at_call 18; refine (refSum_any (hRk.below Bd) _ (cs j) rfl (by omega)).mono ?_; rintro e w3 ⟨rfl, hb3⟩; have B3 := bt Bd hb3; have KH := (show Hid (w3.cell? ⟨gw, j, none⟩ = some (.slice (ps j) (Bs j).length (cs j))) from cell_below hCk B3))
              | (go_at_call 11; refine (slen_any (hSk.below B3)).mono ?_; rintro e w' ⟨rfl, hw⟩; rw [hw]; clear hw))
          all_goals
            go_wp2_with (fail)
            go_roundw
            case rel => exact ⟨j + 1, by omega, by go_num, hS.below B3, hW.below B3, bt hb B3⟩
            case measure => simp [intOf]; omega
        · obtain rfl : j = 4 := by omega
          go_wp2_with (go_at_call 17; refine (known_any _).mono ?_; rintro e w3 ⟨rfl, hb3⟩)
          go_ret
          exact ⟨rfl, bt hb hb3⟩
end
end Go.Proofs.Ytmpccpcnbenpfaa
