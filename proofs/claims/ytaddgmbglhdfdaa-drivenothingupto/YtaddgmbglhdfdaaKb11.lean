/-
  Layer 11's laws: 'kept', 'spoil'.
-/
import Derived.Test.YtaddgmbglhdfdaaKa11
namespace Go.Proofs.Ytaddgmbglhdfdaa
open Go.RowKit Go.Maps
/-- string(row) of any row. -/
theorem conv_rx {w : World} {p : Option Addr} {d : Tx} (h : Rx w p d) (n c : Nat) (hn : d.length = n) : (convert 26 9 (.slice p n c)).run Try.prog w = .ok (encStr d) w := by
  subst hn
  cases p with
  | none =>
    have h0 : d = [] := by
      rcases h with h | ⟨b, o, e, _⟩
      · exact h
      · cases e
    subst h0
    rw [show ([] : Tx).length = 0 from rfl, run_convert_bytes_string w 26 9 5 none 0 c Try.underlying26 und5 undS]
    simp [Conv.bytesToString, encStr]
    first | rfl | skip
  | some a =>
    refine run_convert_bytes_back (P := Try.prog) w 26 9 5 a c d Try.underlying26 und5 undS fun j hj => ?_
    rcases h with h | ⟨b, o, e, hc⟩
    · subst h; simp at hj
    · injection e with e
      subst e
      have := hc j hj
      simp only [List.getD, List.getElem?_eq_getElem hj, Option.getD_some] at this
      rw [add_pl]
      exact this
theorem Lnt.rx {w : World} {base : Nat} {ms : List Value} {p : Option Addr} {n c : Nat} {d : Tx} (h : Lnt w base 5 (.slice p n c) (d.map u8v) ms) : Rx w p d := by
  rcases h.sr with e | ⟨b, o, e, hc⟩
  · exact .inl (by simpa using e)
  · refine .inr ⟨b, o, e, fun i hi => ?_⟩
    rw [hc i (by simpa using hi)]
    simp [hi]
/-- A block of which every cell up to N is of a kind. -/
def Spl (P : Value → Prop) (te : TypeId) (w0 : World) (g N : Nat) (w : World) : Prop := Tn (· = g) w0 w ∧ w.heap.size = w0.heap.size ∧ ∃ cs, w.heap[g]? = some (.cells cs te (0, 0)) ∧ ∀ i, i < N → ∃ u, P u ∧ cs[i]? = some u
theorem Spl.cell {P : Value → Prop} {te : TypeId} {w0 w : World} {g N : Nat} (h : Spl P te w0 g N w) {i : Nat} (hi : i < N) : (∃ u, P u ∧ w.cell? ⟨g, i, none⟩ = some u) ∧ w.frozen? ⟨g, i, none⟩ = false := by
  obtain ⟨_, _, cs, hg, hc⟩ := h
  obtain ⟨u, hu, e⟩ := hc i hi
  exact ⟨⟨u, hu, by rw [cell_of_row w g i _ _ _ hg]; exact e⟩, frozen_of_row w g i _ _ hg⟩
theorem Spl.set {P : Value → Prop} {te : TypeId} {w0 w : World} {g N : Nat} (h : Spl P te w0 g N w) (j : Nat) {v : Value} (hv : P v) : Spl P te w0 g N (w.setCell ⟨g, j, none⟩ v) := by
  obtain ⟨h1, h2, cs, hg, hc⟩ := h
  refine ⟨h1.trans (Tn.setCell (F := (· = g)) w ⟨g, j, none⟩ rfl v), by simp [World.setCell, h2], _, heap_setCell_same w g j _ _ v hg, fun i hi => ?_⟩
  obtain ⟨u, hu, e⟩ := hc i hi
  by_cases ej : i = j
  · subst ej
    refine ⟨v, hv, ?_⟩
    have : i < cs.size := (Array.getElem?_eq_some_iff.1 e).1
    simp [this]
  · exact ⟨u, hu, by rw [← e]; simp [Ne.symm ej]⟩
theorem Lnt.spl {P : Value → Prop} {w : World} {base : Nat} {te : TypeId} {xs ms : List Value} {g n c : Nat} (h : Lnt w base te (.slice (some ⟨g, 0, none⟩) n c) xs ms) (hP : ∀ u ∈ xs ++ ms, P u) : Spl P te w g (xs.length + ms.length) w := by
  obtain ⟨g1, cap, hv, hO⟩ := h
  injection hv with e1 e2 e3
  injection e1 with e1
  injection e1 with e1
  subst e1
  rcases hO.2 with ⟨hv', _⟩ | ⟨g2, c2, cur, hv', h1, hh, h2, h3, h4, h5⟩
  · cases hv'
  · injection hv' with e1 e2 e3
    injection e1 with e1
    injection e1 with e1
    subst e1
    refine ⟨Tn.refl _ _, rfl, cur, hh, fun i hi => ?_⟩
    have hl : i < (xs ++ ms).length := by simp; omega
    refine ⟨(xs ++ ms)[i], hP _ (List.getElem_mem _), ?_⟩
    have e : (xs ++ ms)[i]? = some (xs ++ ms)[i] := List.getElem?_eq_getElem hl
    rw [← e, ← h5]
    simp [hi]
theorem spl_tn {P : Value → Prop} {te : TypeId} {w0 w : World} {g N : Nat} (h : Spl P te w0 g N w) : Tn (· = g) w0 w ∧ w.heap.size = w0.heap.size := ⟨h.1, h.2.1⟩
def isU8 (v : Value) : Prop := ∃ u : UInt8, v = .int .u8 (u.toNat : Int)
theorem isU8_mod (x : UInt8) (k : Nat) : isU8 (.int .u8 (((x.toNat : Int) + (k : Int)) % 256)) := ⟨UInt8.ofNat (x.toNat + k), by rw [UInt8.toNat_ofNat']; congr 1 <;> omega⟩
theorem lent_u8 (d : Tx) (k : Nat) (hk : k ≤ 106) : ∀ u ∈ d.map u8v ++ mks k, isU8 u := by
  intro u hu
  rcases List.mem_append.1 hu with h | h
  · obtain ⟨x, _, rfl⟩ := List.mem_map.1 h
    exact ⟨x, rfl⟩
  · unfold mks at h
    obtain ⟨i, hi, rfl⟩ := List.mem_map.1 h
    have := List.mem_range.1 hi
    exact ⟨UInt8.ofNat (150 + i), by rw [UInt8.toNat_ofNat']; congr 1 <;> omega⟩
section
attribute [local irreducible] Calls mks Spl
set_option maxHeartbeats 1000000 in
set_option maxRecDepth 1000000 in
theorem kept_any {w : World} {base : Nat} {v : Value} {d : Tx} (hL : Lnt w base 5 v (d.map u8v) (mks 66)) {a : Option Addr} (h : Rx w a d) (n c : Nat) (hn : d.length = n) (hm : n ≤ 134217728) :
    Calls Try.prog 40 #[v, .slice a n c] w fun e w' => e = .returned (.bool true) ∧ Below w.heap.size w w' := by
  obtain ⟨g, cap, rfl, hcap, _, _, hcell, _⟩ := hL.cells
  have r0 := hL.rx
  have cv1 := conv_rx r0 n cap hn
  have cv2 := conv_rx h n c hn
  have bq : (d != d) = false := by simp
  have hln : (d.map u8v).length = n := by rw [List.length_map, hn]
  rw [hln, mks_len] at hcap hcell
  have hce : Hid (∀ i, i < 66 → w.cell? ⟨g, n + i, none⟩ = some (.int .u8 (((150 + i : Nat) : Int)))) := by
    intro i hi
    rw [hcell (n + i) (by omega), ← mks_get 66 i hi]
    simp [List.getD, List.getElem?_append_right (show (d.map u8v).length ≤ n + i by omega), show n + i - d.length = i by omega]
  rw [hln]
  have hcap2 : (n : Int) + 66 ≤ (cap : Int) := by omega
  clear hcell r0 h hL hln
  go_enter Try.func40, Try.ntmps40
  go_wp2
  go_loopw [6] (fun i wr => ∃ j : Nat, j ≤ 66 ∧ i = .int .i64 (j : Int) ∧ Below w.heap.size w wr) (fun i _ => 66 - (intOf i).toNat)
  case atStart => exact ⟨0, Nat.zero_le _, rfl, Below.refl _ _⟩
  case round =>
    obtain ⟨j, hj, rfl, hb⟩ := hrel
    by_cases hlt : j < 66
    · have hi : (j : Int) < 66 := by omega
      have g1 := cell_below (hce.out j hlt) hb
      obtain ⟨N, hN⟩ : ∃ N, n + j = N := ⟨_, rfl⟩
      rw [hN] at g1
      have e1 : (n : Int) + (j : Int) = (N : Int) := by omega
      have e2 : ((150 + j : Nat) : Int) = 150 + (j : Int) := by omega
      rw [e2] at g1
      have hN2 : (N : Int) < (n : Int) + 66 := by omega
      have hN3 : N < n + 66 := by omega
      go_wp2
      go_roundw
      case rel => exact ⟨j + 1, by omega, by go_num, hb⟩
      case measure => simp [intOf]; omega
    · obtain rfl : j = 66 := by omega
      go_wp2
      go_ret
      exact ⟨rfl, hb⟩
set_option maxHeartbeats 1000000 in
set_option maxRecDepth 1000000 in
theorem spoil_any {w : World} {base : Nat} {v : Value} {d : Tx} (hL : Lnt w base 5 v (d.map u8v) (mks 66)) (hm : d.length ≤ 134217728) :
    Calls Try.prog 41 #[v] w fun e w' => (∃ r, e = .returned r) ∧ Tn (fun b => v.ownBlock = some b) w w' ∧ w'.heap.size = w.heap.size := by
  obtain ⟨g, cap, rfl, hcap, hbg, hgl, hcell, hfr⟩ := hL.cells
  obtain ⟨n, hn⟩ : ∃ n, d.length = n := ⟨_, rfl⟩
  have hln : (d.map u8v).length = n := by rw [List.length_map, hn]
  have S0 := (show Hid _ from hL.spl (lent_u8 d 66 (by decide)))
  rw [hln, mks_len] at hcap hcell S0
  rw [hln]
  have hcap2 : (n : Int) + 66 ≤ (cap : Int) := by omega
  clear hcell hL hln hfr hbg
  go_enter Try.func41, Try.ntmps41
  go_wp2
  go_loopw [3] (fun i wr => ∃ j : Nat, j ≤ n + 66 ∧ i = .int .i64 (j : Int) ∧ Hid (Spl isU8 5 w g (n + 66) wr)) (fun i _ => n + 66 - (intOf i).toNat)
  case atStart => exact ⟨0, Nat.zero_le _, rfl, S0⟩
  case round =>
    obtain ⟨j, hj, rfl, hS⟩ := hrel
    by_cases hlt : j < n + 66
    · have hi : (j : Int) < (n : Int) + 66 := by omega
      obtain ⟨⟨_, ⟨u, rfl⟩, hu⟩, hf⟩ := hS.out.cell hlt
      go_wp2
      go_roundw
      case rel => exact ⟨j + 1, by omega, by go_num, hS.out.set j (isU8_mod u 77)⟩
      case measure => simp [intOf]; omega
    · obtain rfl : j = n + 66 := by omega
      go_wp2
      go_end0
      exact ⟨⟨_, rfl⟩, (spl_tn hS.out).1.more (fun b e => by rw [e]; rfl), (spl_tn hS.out).2⟩
end
end Go.Proofs.Ytaddgmbglhdfdaa
