/-
  Package frame: rows that are handed in; 'haveLengths'.
-/
import Derived.Test.YtfcjkaigmlfjnaaW8
namespace Go.Proofs.Ytfcjkaigmlfjnaa
open Go.RowKit
/-- A list of rows that reads so. -/
def Rws (w : World) (p : Option Addr) (bl : List (List (BitVec 8))) : Prop :=
  bl = [] ∨ ∃ b o, p = some ⟨b, o, none⟩ ∧ ∀ i, i < bl.length → ∃ q c, w.cell? ⟨b, o + i, none⟩ = some (.slice q (bl.getD i []).length c) ∧ (bl.getD i []).length ≤ c ∧ Rd w q (bl.getD i [])
theorem Rws.below {w w' : World} {p : Option Addr} {bl : List (List (BitVec 8))} (h : Rws w p bl) (hb : Below w.heap.size w w') : Rws w' p bl := by
  rcases h with h | ⟨b, o, e, hc⟩
  · exact .inl h
  · refine .inr ⟨b, o, e, fun i hi => ?_⟩
    obtain ⟨q, c, h1, h2, h3⟩ := hc i hi
    exact ⟨q, c, cell_below h1 hb, h2, h3.below hb⟩
theorem Rws.row {w : World} {p : Option Addr} {bl : List (List (BitVec 8))} (h : Rws w p bl) (i : Nat) (hi : i < bl.length) : ∃ b o q c, p = some ⟨b, o, none⟩ ∧ w.cell? ⟨b, o + i, none⟩ = some (.slice q (bl.getD i []).length c) ∧ (bl.getD i []).length ≤ c ∧ Rd w q (bl.getD i []) := by
  rcases h with h | ⟨b, o, e, hc⟩
  · subst h; simp at hi
  · obtain ⟨q, c, h1, h2, h3⟩ := hc i hi
    exact ⟨b, o, q, c, e, h1, h2, h3⟩
section
attribute [local irreducible] Calls el Hd.cs
set_option maxHeartbeats 1000000 in
set_option maxRecDepth 1000000 in
theorem haveLengths_any {w : World} {p q : Option Addr} {bl : List (List (BitVec 8))} {ns : List Nat} (ha : Rws w p bl) (hb : Vr w q (ic ns)) (n m c d : Nat) (hn : bl.length = n) (hm : ns.length = m) (hl : m ≤ 1099511627776) :
    Calls Try.prog 17 #[.slice p n c, .slice q m d] w fun e w' => e = .returned (.bool (decide (bl.map List.length = ns))) ∧ Below w.heap.size w w' := by
  subst hn hm
  by_cases h1 : bl.length = ns.length
  · have i0 : ((bl.length : Int) != (ns.length : Int)) = false := by simp [h1]
    have H1 : Hid (bl.length = ns.length) := h1
    clear h1
    go_enter Try.func17, Try.ntmps17
    go_wp2
    go_loopw [14] (fun i wr => ∃ t : Nat, t ≤ bl.length ∧ i = .int .i64 (t : Int) ∧ Hid ((bl.map List.length).take t = ns.take t) ∧ Below w.heap.size w wr) (fun i _ => bl.length - (intOf i).toNat)
    case atStart => exact ⟨0, Nat.zero_le _, rfl, rfl, Below.refl _ _⟩
    case round =>
      obtain ⟨t, ht, rfl, heq, hbw⟩ := hrel
      by_cases hlt : t < bl.length
      · have hlt2 : t < ns.length := by rw [← H1.out]; exact hlt
        obtain ⟨g1, o1, q1, c1, rfl, hc, hcap, _⟩ := ha.row t hlt
        obtain ⟨g2, o2, rfl, hd⟩ := hb.num t hlt2
        have hc' := cell_below hc hbw
        have hd' := cell_below hd hbw
        have hi : (t : Int) < (bl.length : Int) := by omega
        have hi2 : (t : Int) < (ns.length : Int) := by omega
        have hx := List.take_add_one (l := bl.map List.length) (i := t)
        have hy := List.take_add_one (l := ns) (i := t)
        have gx : (bl.map List.length)[t]? = some (bl.getD t []).length := by simp [List.getD, hlt]
        have gy : ns[t]? = some (ns.getD t 0) := by simp [List.getD, hlt2]
        rw [gx] at hx
        rw [gy] at hy
        generalize (bl.getD t []).length = dx at hc' hc hx gx hcap
        generalize ns.getD t 0 = dy at hd' hd hy gy
        by_cases he : dx = dy
        · have j0 : ((dx : Int) != (dy : Int)) = false := by simp [he]
          have hx' : (bl.map List.length).take (t + 1) = ns.take (t + 1) := by rw [hx, hy, heq.out, he]
          have HX : Hid ((bl.map List.length).take (t + 1) = ns.take (t + 1)) := hx'
          clear hx hy gx gy hc hd hx' he
          go_wp2
          go_roundw
          case rel => exact ⟨t + 1, hlt, by go_num, HX, hbw⟩
          case measure => simp [intOf]; omega
        · have j0 : ((dx : Int) != (dy : Int)) = true := by simp; omega
          have hne : Hid (¬ bl.map List.length = ns) := fun e => by rw [e, gy] at gx; injection gx with gx; exact he gx.symm
          clear hx hy gx gy hc hd he
          go_wp2
          go_ret
          rw [decide_eq_false hne.out]
          exact ⟨rfl, hbw⟩
      · obtain rfl : t = bl.length := by omega
        have he : Hid (bl.map List.length = ns) := by
          have := heq.out
          rw [List.take_of_length_le (by simp), List.take_of_length_le (by rw [H1.out]; exact Nat.le_refl _)] at this
          exact this
        go_wp2
        go_ret
        rw [decide_eq_true he.out]
        exact ⟨rfl, hbw⟩
  · have i0 : ((bl.length : Int) != (ns.length : Int)) = true := by simp; omega
    have hne : ¬ bl.map List.length = ns := fun e => h1 (by rw [← e, List.length_map])
    rw [decide_eq_false hne]
    go_enter Try.func17, Try.ntmps17
    go_wp2
    go_ret
    exact ⟨rfl, Below.refl _ _⟩
end
end Go.Proofs.Ytfcjkaigmlfjnaa
