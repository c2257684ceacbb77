/-
  Flip of a drive.
-/
import Derived.Test.YtaddgmbglhdfdaaDsJ
import Derived.Laws.BitsAllLaws
namespace Go.Proofs.Ytaddgmbglhdfdaa
open Go.RowKit Go.Maps Go.Sort
/-- Bytes of which k from the place a on are turned. -/
def flp (d : Tx) (a : Nat) (p : Tx) (k : Nat) : Tx := (List.range d.length).map fun j => if a ≤ j ∧ j < a + k then d.getD j 0 ^^^ p.getD (j - a) 0 else d.getD j 0
theorem flp_len (d : Tx) (a : Nat) (p : Tx) (k : Nat) : (flp d a p k).length = d.length := by simp [flp]
theorem flp_zero (d : Tx) (a : Nat) (p : Tx) : flp d a p 0 = d := by
  apply List.ext_getElem
  · simp [flp]
  · intro j h1 h2
    have h3 : ¬ (a ≤ j ∧ j < a + 0) := by omega
    simp only [flp, List.getElem_map, List.getElem_range, if_neg h3]
    simp [List.getD, h2]
theorem flp_succ (d : Tx) (a : Nat) (p : Tx) (k : Nat) : flp d a p (k + 1) = (flp d a p k).set (a + k) (d.getD (a + k) 0 ^^^ p.getD k 0) := by
  apply List.ext_getElem
  · simp [flp]
  · intro j h1 h2
    rw [List.getElem_set]
    simp only [flp, List.getElem_map, List.getElem_range]
    by_cases e : a + k = j
    · subst e
      simp
    · rw [if_neg e]
      by_cases h : a ≤ j ∧ j < a + k
      · rw [if_pos h, if_pos (by omega)]
      · rw [if_neg h, if_neg (by omega)]
theorem flp_get (d : Tx) (a : Nat) (p : Tx) (k : Nat) (h : a + k < d.length) : (flp d a p k).getD (a + k) 0 = d.getD (a + k) 0 := by
  have h3 : ¬ (a ≤ a + k ∧ a + k < a + k) := by omega
  simp [flp, List.getD, h]
/-- Bits of a file are turned. -/
def Ds.flip (σ : Ds) (x : Tx) (a : Int) (p : Tx) : Nat × Ds := match σ.harm x a with
  | .inl e => (e, σ)
  | .inr i => (0, σ.setBody i ⟨flp (σ.body i).data (min a.toNat (σ.body i).data.length) p (min ((σ.body i).data.length - min a.toNat (σ.body i).data.length) p.length), (σ.body i).safe⟩)
theorem ob_set {w : World} {base g c : Nat} {d : Tx} (h : Ob w base (.slice (some ⟨g, 0, none⟩) d.length c) d) (j : Nat) (y : UInt8) : Ob (w.setCell ⟨g, j, none⟩ (u8v y)) base (.slice (some ⟨g, 0, none⟩) d.length c) (d.set j y) := by
  refine ⟨by simp, ?_⟩
  rw [List.length_set]
  rcases h.2 with ⟨hv, h1⟩ | ⟨g', cap, cur, hv, h1, h2, h3, h4, h5, h6⟩
  · cases hv
  · injection hv with e1 e2 e3
    injection e1 with e1
    injection e1 with e1
    subst e1 e3
    refine .inr ⟨g, c, cur.setIfInBounds j (u8v y), rfl, h1, ?_, h3, h4, by simpa using h5, ?_⟩
    · rw [heap_setCell_same w g j _ _ _ h2]
    · rw [Array.toList_setIfInBounds, List.take_set, h6, List.map_set]
theorem flip_end {w1 w' : World} {db i : Nat} {F : Nat → Prop} {σ : Ds} {m : List Nat} {rv : Nat → Value} {st sf : Option Nat} {pv : Value} (S : StAt w1 db σ.room σ.used st sf pv) (R : Rest w1 F σ m rv st sf pv) (hFd : F db) (hFw : ∀ b, F b → b < w1.heap.size) (hi : i < σ.bs.length) (d' : Tx) (hd : Ob w' 0 (rv i) d') (hT : Tn (fun b => (rv i).ownBlock = some b) w1 w') (hs : w'.heap.size = w1.heap.size) : DrAt w' db (σ.setBody i ⟨d', (σ.body i).safe⟩) F ∧ Tn F w1 w' := by
  have B := R.bod i hi
  have hk : ∀ bl, bl < w1.heap.size → (rv i).ownBlock ≠ some bl → w'.heap[bl]? = w1.heap[bl]? := fun bl h1 h2 => hT.block bl h1 h2
  refine ⟨⟨hFd, fun b hb => by have := hFw b hb; omega, m, (fun j => if j = i then rv i else rv j), st, sf, pv, ?_, ?_⟩, hT.more (fun b hb => B.rowF b hb)⟩
  · exact (hk db (blt S) (fun e => row_typed B.row S (fun c r => cells_ne (by decide)) e.symm)).trans S
  · refine R.setBody (w' := w') (G := F) hFw (fun b hb => hb) i hi ⟨d', (σ.body i).safe⟩ (rv i) ?_ ?_ hd (.inl rfl) σ.used
    · intro bl o hF ho n1 n2 n3
      exact hk bl (blt ho) (fun e => n2 e.symm)
    · exact (hk _ (blt B.blk) (fun e => row_typed B.row B.blk (fun c r => cells_ne (by decide)) e.symm)).trans B.blk
/-- While the bits are turned. -/
structure Flv (w1 : World) (g c L : Nat) (d : Tx) (a bp op : Nat) (pt : Tx) (k : Nat) (wr : World) : Prop where
  row : Ob wr 0 (.slice (some ⟨g, 0, none⟩) L c) (flp d a pt k)
  tn : Tn (· = g) w1 wr
  sz : wr.heap.size = w1.heap.size
  pat : Rx wr (some ⟨bp, op, none⟩) pt
theorem Flv.zero {w1 : World} {g c L : Nat} {d : Tx} {a bp op : Nat} {pt : Tx} (h : Ob w1.drew 0 (.slice (some ⟨g, 0, none⟩) L c) d) (hp : Rx w1.drew (some ⟨bp, op, none⟩) pt) : Flv w1 g c L d a bp op pt 0 w1.drew := ⟨by rw [flp_zero]; exact h, Tn.of_below ⟨rfl, rfl, rfl, Nat.le_refl _, fun _ _ => rfl⟩, rfl, hp⟩
theorem u8_xor (x y : UInt8) : Value.int .u8 (bits .xor .u8 (x.toNat : Int) (y.toNat : Int)) = u8v (x ^^^ y) := by
  rw [u8_xor_nat _ _ x.toNat_lt y.toNat_lt]
  unfold u8v
  rw [UInt8.toNat_xor]
theorem ob_cell {w : World} {base g c n : Nat} {d : Tx} (h : Ob w base (.slice (some ⟨g, 0, none⟩) n c) d) (j : Nat) (hj : j < d.length) : w.cell? ⟨g, j, none⟩ = some (u8v (d.getD j 0)) ∧ w.frozen? ⟨g, j, none⟩ = false ∧ d.length = n := by
  rcases h.2 with ⟨hv, h1⟩ | ⟨g', cap, cur, hv, h1, h2, h3, h4, h5, h6⟩
  · cases hv
  · injection hv with e1 e2 e3
    injection e1 with e1
    injection e1 with e1
    subst e1 e3
    refine ⟨?_, frozen_of_row w g j _ _ h2, by omega⟩
    rw [cell_of_row w g j _ _ _ h2, ← Array.getElem?_toList]
    have h7 : (cur.toList.take (d.length * 1))[j]? = some (u8v (d.getD j 0)) := by rw [h6]; simp [hj]
    rw [List.getElem?_take, if_pos (by omega)] at h7
    exact h7
theorem cell_other {w : World} {b g i j : Nat} {v : Value} (h : b ≠ g) : (w.setCell ⟨g, j, none⟩ v).cell? ⟨b, i, none⟩ = w.cell? ⟨b, i, none⟩ := by
  have h1 := Below.heap_setCell w ⟨g, j, none⟩ v b h
  unfold World.cell?
  rw [h1]
theorem Flv.step {w1 wr : World} {g c L : Nat} {d : Tx} {a bp op : Nat} {pt : Tx} {k : Nat} (h : Flv w1 g c L d a bp op pt k wr) (hk : a + k < d.length) (hp : k < pt.length) (hbg : bp ≠ g) : ∃ X Y : UInt8, wr.drew.cell? ⟨g, a + k, none⟩ = some (.int .u8 (X.toNat : Int)) ∧ wr.drew.frozen? ⟨g, a + k, none⟩ = false ∧ wr.drew.cell? ⟨bp, op + k, none⟩ = some (.int .u8 (Y.toNat : Int)) ∧ Flv w1 g c L d a bp op pt (k + 1) (wr.setCell ⟨g, a + k, none⟩ (.int .u8 (bits .xor .u8 (X.toNat : Int) (Y.toNat : Int)))).drew := by
  obtain ⟨h1, h2, h3⟩ := ob_cell h.row (a + k) (by rw [flp_len]; exact hk)
  rw [flp_get d a pt k hk] at h1
  rw [flp_len] at h3
  have h4 : wr.cell? ⟨bp, op + k, none⟩ = some (u8v (pt.getD k 0)) := by
    rcases h.pat with e | ⟨b, o, e, hc⟩
    · rw [e] at hp; simp at hp
    · injection e with e
      injection e with e1 e2
      subst e1 e2
      exact hc k hp
  refine ⟨_, _, h1, h2, h4, ?_, ?_, ?_, ?_⟩
  · rw [u8_xor, flp_succ]
    have h9 := h.row
    rw [← h3, ← flp_len d a pt k] at h9
    have := ob_set h9 (a + k) (d.getD (a + k) 0 ^^^ pt.getD k 0)
    rw [flp_len, h3] at this
    exact this
  · exact (h.tn.trans (Tn.setCell (F := (· = g)) wr ⟨g, a + k, none⟩ rfl _)).trans (Tn.of_below ⟨rfl, rfl, rfl, Nat.le_refl _, fun _ _ => rfl⟩)
  · have := h.sz
    simpa [World.setCell] using this
  · rcases h.pat with e | ⟨b, o, e, hc⟩
    · exact .inl e
    · injection e with e
      injection e with e1 e2
      subst e1 e2
      refine .inr ⟨bp, op, rfl, fun j hj => ?_⟩
      have := hc j hj
      show (wr.setCell ⟨g, a + k, none⟩ _).cell? ⟨bp, op + j, none⟩ = _
      rw [cell_other hbg]
      exact this
section
attribute [local irreducible] Calls
set_option maxHeartbeats 4000000 in
set_option maxRecDepth 1000000 in
theorem flip_any {w : World} {db : Nat} {σ : Ds} {F : Nat → Prop} (h : DrAt w db σ F) (x : Tx) (hx : x.length ≤ 9223372036854775807) (a : Int) (pp : Option Addr) (np cp : Nat) (pt : Tx) (hp : Rx w pp pt) (hnp : pt.length = np) (hpm : np ≤ 140737488355328) (hpF : ∀ b o, pp = some ⟨b, o, none⟩ → ¬ F b) (hm : ∀ i, (σ.body i).data.length ≤ 140737488355328) : Calls Try.prog 51 #[.pointer (some ⟨db, 0, none⟩), encStr x, .int .i64 a, .slice pp np cp] w fun e w' => e = .returned (.int .i64 (σ.flip x a pt).1) ∧ DrAt w' db (σ.flip x a pt).2 F ∧ Tn F w w' := by
  have h0 := (show Hid (DrAt w db σ F) from h)
  obtain ⟨hFd, hFw, m, rv, st, sf, pv, S, R⟩ := h
  have hF := (show Hid _ from harmed_any S R hFw x hx a)
  unfold Ds.flip
  cases hf : σ.harm x a with
  | inl e9 =>
    dsimp only
    rw [hf] at hF
    unfold fndv at hF
    have he := harm_inl hf
    have g1 : ((e9 : Int) != 0) = true := by
      rcases he with rfl | rfl | rfl <;> rfl
    have g2 : ¬ (e9 : Int) = 0 := by rcases he with rfl | rfl | rfl <;> decide
    clear S R he hf hFw hFd hp hpF
    go_enter Try.func51, Try.ntmps51
    go_wp2_with (go_at_call 70; refine hF.out.mono ?_; rintro e w1 ⟨rfl, hb⟩)
    go_ret
    exact ⟨rfl, h0.out.below hb, Tn.of_below hb⟩
  | inr i =>
    dsimp only
    obtain ⟨_, hn0, hfi⟩ := harm_inr hf
    have hi := R.found hfi
    rw [hf] at hF
    unfold fndv ptv pta at hF
    simp only at hF
    have h2 := hm i
    have FE := (show Hid (∀ w1 w' d', Below w.heap.size w w1 → _ → _ → _ → _) from fun w1 w' d' (hb : Below w.heap.size w w1) h7 h8 h9 => flip_end (w' := w') (S.below hb) (R.below hb) hFd (fun b hF => Nat.lt_of_lt_of_le (hFw b hF) hb.size) hi d' h7 h8 h9)
    rcases (R.bod i hi).row.2 with ⟨hv, hl0⟩ | ⟨g, c, cur, hv, _, hgb, hlc, hcm, _⟩
    · have KB := (show Hid (∀ w1, Below w.heap.size w w1 → w1.drew.cell? ⟨m.getD i 0, 0, none⟩ = some (.slice none 0 0) ∧ Ob w1.drew 0 (rv i) (σ.body i).data) from fun w1 (hb : Below w.heap.size w w1) => by
        have hB := (R.below hb).bod i hi
        have := hB.cells.1
        rw [hv] at this
        exact ⟨this, hB.row⟩)
      have ha : min a 0 = 0 := by omega
      have hnp0 : min (0 : Int) (np : Int) = 0 := by omega
      have e0 : min ((σ.body i).data.length - min a.toNat (σ.body i).data.length) pt.length = 0 := by omega
      rw [e0, flp_zero]
      clear hFd hFw hi hf hfi S R hp hpF e0
      generalize m.getD i 0 = q at *
      go_enter Try.func51, Try.ntmps51
      go_wp2_with (go_at_call 70; refine hF.out.mono ?_; rintro e w1 ⟨rfl, hb⟩; obtain ⟨k0, k1⟩ := KB.out w1 hb; have HB := (show Hid (_ ∧ _) from ⟨hb, k1⟩); clear hb k1)
      go_region
      go_wp2
      go_loopw [40] (fun i wr => i = .int .i64 0 ∧ wr = w1.drew) (fun i _ => 0)
      case atStart => exact ⟨rfl, rfl⟩
      case round =>
        obtain ⟨rfl, rfl⟩ := hrel
        go_wp2
        go_ret
        have h9 := FE.out w1 _ _ HB.out.1 HB.out.2 (Tn.of_below ⟨rfl, rfl, rfl, Nat.le_refl _, fun _ _ => rfl⟩) rfl
        exact ⟨rfl, h9.1, (Tn.of_below HB.out.1).trans h9.2⟩
    · have hk2 := (show Hid _ from hm)
      have KB := (show Hid (∀ w1, Below w.heap.size w w1 → w1.drew.cell? ⟨m.getD i 0, 0, none⟩ = some (.slice (some ⟨g, 0, none⟩) (σ.body i).data.length c) ∧ Ob w1.drew 0 (.slice (some ⟨g, 0, none⟩) (σ.body i).data.length c) (σ.body i).data ∧ Rx w1.drew pp pt) from fun w1 (hb : Below w.heap.size w w1) => by
        have hB := (R.below hb).bod i hi
        have h1 := hB.cells.1
        have h3 := hB.row
        rw [hv] at h1 h3
        exact ⟨h1, h3, (hp.below hb).below ⟨rfl, rfl, rfl, Nat.le_refl _, fun _ _ => rfl⟩⟩)
      have hgF : F g := (R.bod i hi).rowF g (by rw [hv]; rfl)
      have HG := (show Hid (∀ b o, pp = some ⟨b, o, none⟩ → b ≠ g) from fun b o e e2 => hpF b o e (e2 ▸ hgF))
      obtain ⟨L, hL⟩ : ∃ L, L = (σ.body i).data.length := ⟨_, rfl⟩
      obtain ⟨a', ha'⟩ : ∃ a' : Nat, a' = min a.toNat L := ⟨_, rfl⟩
      obtain ⟨K, hK⟩ : ∃ K : Nat, K = min (L - a') pt.length := ⟨_, rfl⟩
      rw [← hL] at KB h2 hlc
      rw [← hL, ← ha', ← hK]
      have hai : min a (L : Int) = (a' : Int) := by omega
      have haL : (a' : Int) ≤ (L : Int) := by omega
      have haL2 : a' ≤ L := by omega
      have haL3 : (a' : Int) ≤ (c : Int) := by omega
      have hKi : min ((L - a' : Nat) : Int) (np : Int) = (K : Int) := by omega
      have HV := (show Hid _ from hv)
      have HLL := (show Hid _ from hL)
      have HKK := (show Hid (K ≤ L - a' ∧ K ≤ pt.length ∧ K ≤ 140737488355328) from ⟨by omega, by omega, by omega⟩)
      clear hFd hFw hi hf hfi S R hpF hgb hL ha' hK hm hv hgF
      generalize m.getD i 0 = q at *
      by_cases hcase : K = 0
      · subst hcase
        rw [flp_zero]
        rw [Int.ofNat_zero] at hKi
        clear HG HKK hp
        go_enter Try.func51, Try.ntmps51
        go_wp2_with (go_at_call 70; refine hF.out.mono ?_; rintro e w1 ⟨rfl, hb⟩; obtain ⟨k0, k1⟩ := KB.out w1 hb; have HB := (show Hid (_ ∧ _ ∧ _) from ⟨hb, k1⟩); clear hb k1)
        go_region
        all_goals go_wp2
        all_goals
          go_loopw [40] (fun v wr => v = .int .i64 0 ∧ wr = w1.drew) (fun v _ => 0)
          case atStart => exact ⟨rfl, rfl⟩
          case round =>
            obtain ⟨rfl, rfl⟩ := hrel
            go_wp2
            go_ret
            have h8 := HB.out.2.1
            rw [HLL.out, ← HV.out] at h8
            have h9 := FE.out w1 _ _ HB.out.1 h8 (Tn.of_below ⟨rfl, rfl, rfl, Nat.le_refl _, fun _ _ => rfl⟩) rfl
            exact ⟨rfl, h9.1, (Tn.of_below HB.out.1).trans h9.2⟩
      · have hac : a' < c := by have := HKK.out; omega
        have hac2 : (a' : Int) < (c : Int) := by omega
        have hac3 : ¬ (c - a' = 0) := by omega
        obtain ⟨bp, op, rfl⟩ : ∃ bp op, pp = some ⟨bp, op, none⟩ := by
          rcases hp with hp | ⟨bp, op, e, _⟩
          · rw [hp] at HKK; have := HKK.out.2.1; simp at this; omega
          · exact ⟨bp, op, e⟩
        have hbg := HG.out bp op rfl
        have STEP := (show Hid (∀ (k : Nat) (w1 wr : World), k < K → Flv w1 g c L (σ.body i).data a' bp op pt k wr → _) from fun k w1 wr hk (hv : Flv w1 g c L (σ.body i).data a' bp op pt k wr) => hv.step (by have := HKK.out; have := HLL.out; omega) (by have := HKK.out; omega) hbg)
        clear hp HG
        go_enter Try.func51, Try.ntmps51
        go_wp2_with (go_at_call 70; refine hF.out.mono ?_; rintro e w1 ⟨rfl, hb⟩; obtain ⟨k0, k1⟩ := KB.out w1 hb; have HB := (show Hid (_ ∧ _ ∧ _) from ⟨hb, k1⟩); clear hb k1)
        go_region
        go_wp2
        go_loopw [40] (fun v wr => ∃ k : Nat, k ≤ K ∧ v = .int .i64 k ∧ Hid (Flv w1 g c L (σ.body i).data a' bp op pt k wr)) (fun v _ => K - (intOf v).toNat)
        case atStart => exact ⟨0, Nat.zero_le _, rfl, Flv.zero HB.out.2.1 HB.out.2.2⟩
        case round =>
          obtain ⟨k, hk, rfl, hR⟩ := hrel
          by_cases hlt : k < K
          · have hi : (k : Int) < (K : Int) := by omega
            have hkL : k < L - a' := by have := HKK.out; omega
            have hkn : k < np := by have := HKK.out; omega
            obtain ⟨X, Y, c1, c2, c3, hN⟩ := STEP.out k w1 wr hlt hR.out
            have HN := (show Hid _ from hN)
            clear hN hR
            go_wp2
            go_region
            go_wp2
            refine ⟨⟨k + 1, by omega, by go_num, ?_⟩, by simp [intOf]; omega⟩
            exact HN.out
          · obtain rfl : k = K := by omega
            have hi : ¬ (k : Int) < (k : Int) := by omega
            go_wp2
            go_ret
            have h8 := hR.out.row
            rw [HLL.out, ← HV.out] at h8
            have h9 := FE.out w1 _ _ HB.out.1 h8 (hR.out.tn.more (fun b e => by have : b = g := e; rw [HV.out, this]; rfl)) hR.out.sz
            exact ⟨rfl, h9.1, (Tn.of_below HB.out.1).trans h9.2⟩
end
end Go.Proofs.Ytaddgmbglhdfdaa
