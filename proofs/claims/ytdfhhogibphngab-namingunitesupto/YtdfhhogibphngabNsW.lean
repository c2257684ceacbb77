/-
  The law of the rising keys: the walk.
-/
import Derived.Test.YtdfhhogibphngabNi
namespace Go.Proofs.Ytdfhhogibphngab
open Go.RowKit Go.Maps Go.Sort
theorem nodup_le : ∀ (a b : List Tx), a.Nodup → (∀ x ∈ a, x ∈ b) → a.length ≤ b.length
  | [], _, _, _ => Nat.zero_le _
  | x :: a, b, hn, hs => by
    have hx := hs x List.mem_cons_self
    have h' := List.nodup_cons.1 hn
    have := nodup_le a (b.erase x) h'.2 (fun y hy => (List.mem_erase_of_ne (fun e => h'.1 (by rw [← e]; exact hy))).2 (hs y (List.mem_cons_of_mem _ hy)))
    rw [List.length_erase_of_mem hx] at this
    have hb : 0 < b.length := List.length_pos_of_mem hx
    simp only [List.length_cons]
    omega
theorem isU_len {ns l : List Tx} {p : Tx} (hU : IsU ns p l) : l.length ≤ ns.length := by
  have := nodup_le (l.map nm) ns (List.pairwise_map.2 (hU.1.imp fun h e => by rw [nm_inj] at e; subst e; exact List.lt_irrefl _ h)) (fun x hx => by
    obtain ⟨y, hy, rfl⟩ := List.mem_map.1 hx
    obtain ⟨n, hn, hk, _⟩ := (hU.2 y).1 hy
    rw [(nm_ky hk).1]; exact hn)
  simpa using this
theorem below_drewN {B : Nat} {a w : World} (h : Below B a w) (n : Nat) : Below B a (w.drewN n) := ⟨h.os, h.tape, h.output, h.size, h.block⟩
theorem isU_at {ns l : List Tx} {p : Tx} (hU : IsU ns p l) {k : Nat} (hk : k < l.length) : p <+: l.getD k [] ∧ fitK (l.getD k []) ∧ nm (l.getD k []) ∈ ns := by
  have hm : l.getD k [] ∈ l := by simp only [List.getD, List.getElem?_eq_getElem hk, Option.getD_some]; exact List.getElem_mem hk
  obtain ⟨n, hn, hy, hp⟩ := (hU.2 _).1 hm
  have := nm_ky hy
  exact ⟨hp, this.2, by rw [this.1]; exact hn⟩
theorem isU_up {ns l : List Tx} {p : Tx} (hU : IsU ns p l) {k : Nat} (hk : k + 1 < l.length) : l.getD k [] < l.getD (k + 1) [] := by
  have h1 : k < l.length := by omega
  simp only [List.getD, List.getElem?_eq_getElem hk, List.getElem?_eq_getElem h1, Option.getD_some]
  exact List.pairwise_iff_getElem.1 hU.1 k (k + 1) h1 hk (by omega)
section
attribute [local irreducible] Calls
set_option maxHeartbeats 8000000 in
set_option maxRecDepth 1000000 in
theorem sorted_core (b off n c : Nat) (ns : List Tx) (p : Tx) (w : World) (hn : Hid (ns.length = n)) (hm : n ≤ 8796093022207) (H : Hid (∀ i, i < n → w.cell? ⟨b, off + i, none⟩ = some (encStr (ns.getD i [])))) :
    Calls Try.prog 5 #[.slice (some ⟨b, off, none⟩) n c, encStr p] w fun e w' => e = .returned (.bool true) ∧ Below w.heap.size w w' := by
  have h : Rs w (some ⟨b, off, none⟩) ns := .inr ⟨b, off, rfl, fun i hi => H.out i (by have := hn.out; omega)⟩
  have hu : ∀ w1, Below w.heap.size w w1 → _ := fun w1 hb => under_any (c := c) (h.below hb) hn.out (by omega) p
  have hin : ∀ w1, Below w.heap.size w w1 → ∀ t, _ := fun w1 hb t => in_any (c := c) (h.below hb) hn.out (by omega) t
  go_enter Try.func5, Try.ntmps5
  go_wp2_with (first
    | (go_at_call 8; refine (known_any _).mono ?_; rintro e w1 ⟨rfl, hb1⟩)
    | (go_at_call 14; refine (hu w1 hb1).mono ?_; rintro e w2 ⟨g, c2, l, rfl, hU, hO, hb2⟩))
  have hb12 := below_trans hb1 hb2 hb1.size
  have hRl := hO.rs.1
  have hll : Hid (l.length ≤ 8796093022208) := by have := isU_len hU; have := hn.out; show _ ≤ _; omega
  have HL : Hid (∀ i, i < l.length → w2.cell? ⟨g, i, none⟩ = some (encStr (l.getD i []))) := fun i hi => by
    rcases hRl with e | ⟨b', o', e, hc⟩
    · rw [e] at hi; simp at hi
    · injection e with e
      injection e with e1 e2
      subst e1
      subst e2
      have := hc i hi
      rw [Nat.zero_add] at this
      exact this
  have hll' := hll.out
  go_loopw [6] (fun i wr => ∃ k : Nat, k ≤ l.length ∧ i = .int .i64 k ∧ Below w2.heap.size w2 wr) (fun i _ => l.length - (intOf i).toNat)
  case atStart => exact ⟨0, Nat.zero_le _, rfl, Below.refl _ _⟩
  case round =>
    obtain ⟨k, hk, rfl, hb⟩ := hrel
    have hbw := below_trans hb12 hb hb12.size
    by_cases hlt : k < l.length
    · have hi1 : (k : Int) < (l.length : Int) := by omega
      obtain ⟨s, hs⟩ : ∃ s, s = l.getD k [] := ⟨_, rfl⟩
      obtain ⟨q1, q2, q3⟩ := isU_at hU hlt
      rw [← hs] at q1 q2 q3
      have g1 : wr.cell? ⟨g, k, none⟩ = some (encStr s) := by rw [hs]; exact cell_below (HL.out k hlt) hb
      have G2 : Hid (∀ wq, Below wr.heap.size wr wq → wq.cell? ⟨g, k, none⟩ = some (encStr s)) := fun wq hq => cell_below g1 hq
      have hbg := begins_any s p
      rw [decide_eq_true q1] at hbg
      have ho := object_ok s q2
      have q3' : Hid (nm s ∈ ns) := q3
      by_cases h0 : k = 0
      · subst h0
        clear hs q1 q2 q3
        go_wp2
        go_quiet (first | (go_at_call 13; refine Calls.quiet_of_same (hbg _)))
        go_wp2_with (first
          | (go_at_call 11; refine (ho _).mono ?_; rintro e w6 ⟨rfl, hb6⟩; have hbq := below_trans (below_drewN hbw _) hb6 hbw.size)
          | (go_at_call 15; refine (hin w6 hbq (nm s)).mono ?_; rintro e w7 ⟨rfl, hb7⟩; rw [decide_eq_true q3'.out]))
        go_roundw
        case rel => exact ⟨1, by omega, by go_num, below_trans (below_trans (below_drewN hb _) hb6 hb.size) hb7 (Nat.le_trans hb.size hb6.size)⟩
        case measure => simp [intOf]; omega
      · obtain ⟨j, hkj⟩ : ∃ j, k = j + 1 := ⟨k - 1, by omega⟩
        obtain ⟨t, ht⟩ : ∃ t, t = l.getD j [] := ⟨_, rfl⟩
        have g0 : wr.cell? ⟨g, j, none⟩ = some (encStr t) := by rw [ht]; exact cell_below (HL.out j (by omega)) hb
        have hless : Op.bytesLess t s = true := by
          rw [less_dec, ht, hs, hkj]
          exact decide_eq_true (isU_up hU (by omega))
        have hj1 : (j : Int) < (l.length : Int) := by omega
        have hj2 : (0 : Int) ≤ (j : Int) := by omega
        have hj3 : (0 : Int) ≤ (k : Int) := by omega
        have hk0 : (0 : Int) < (k : Int) := by omega
        have hw1 : IntKind.i64.wrap ((k : Int) - 1) = (j : Int) := by rw [wrap_i64 (by omega) (by omega)]; omega
        clear hs ht q1 q2 q3 h0 hkj
        go_wp2
        have hk1 : 0 < k := by omega
        have hd : decide (0 < k) = true := decide_eq_true hk1
        go_quiet (first | (go_at_call 13; refine Calls.quiet_of_same (hbg _)))
        go_wp2_with (first
          | (go_at_call 11; refine (ho _).mono ?_; rintro e w6 ⟨rfl, hb6⟩; have hbq := below_trans (below_drewN hbw _) hb6 hbw.size)
          | (go_at_call 15; refine (hin w6 hbq (nm s)).mono ?_; rintro e w7 ⟨rfl, hb7⟩; rw [decide_eq_true q3'.out]))
        go_roundw
        case rel => exact ⟨k + 1, by omega, by go_num, below_trans (below_trans (below_drewN hb _) hb6 hb.size) hb7 (Nat.le_trans hb.size hb6.size)⟩
        case measure => simp [intOf]; omega
    · obtain rfl : k = l.length := by omega
      go_wp2
      go_loopw [9] (fun i wq => ∃ k : Nat, k ≤ n ∧ i = .int .i64 k ∧ Below w2.heap.size w2 wq) (fun i _ => n - (intOf i).toNat)
      case atStart => exact ⟨0, Nat.zero_le _, rfl, hb⟩
      case round =>
        obtain ⟨k, hkn, rfl, hbq⟩ := hrel
        have hbwq := below_trans hb12 hbq hb12.size
        by_cases hlt2 : k < n
        · have hi1 : (k : Int) < (n : Int) := by omega
          obtain ⟨s, hs⟩ : ∃ s, s = ns.getD k [] := ⟨_, rfl⟩
          have g1 : wr.cell? ⟨b, off + k, none⟩ = some (encStr s) := by rw [hs]; exact cell_below (H.out k hlt2) hbwq
          have hsm : Hid (s ∈ ns) := by
            show _ ∈ _
            have h1 : k < ns.length := by have := hn.out; omega
            rw [hs]; simp only [List.getD, List.getElem?_eq_getElem h1, Option.getD_some]; exact List.getElem_mem h1
          have hkc := key_any s wr
          clear hs
          cases hy : ky s with
          | none =>
            rw [hy] at hkc
            go_wp2_with (go_at_call 9; refine hkc.mono ?_; rintro e w5 ⟨rfl, hb5⟩; unfold kres)
            go_roundw
            case rel => exact ⟨k + 1, by omega, by go_num, below_trans hbq hb5 hbq.size⟩
            case measure => simp [intOf]; omega
          | some x =>
            rw [hy] at hkc
            have hbg := begins_any x p
            by_cases hp : p <+: x
            · rw [decide_eq_true hp] at hbg
              have hxl : Hid (x ∈ l) := (hU.2 x).2 ⟨s, hsm.out, hy, hp⟩
              go_wp2_with (first
                | (go_at_call 9; refine hkc.mono ?_; rintro e w5 ⟨rfl, hb5⟩; unfold kres)
                | (go_at_call 13; refine (hbg _).mono ?_; rintro e w6 ⟨rfl, hw⟩; rw [hw]; clear hw w6)
                | (go_at_call 15; refine (in_any ((hRl.below hbq).below hb5) rfl hll.out x).mono ?_; rintro e w7 ⟨rfl, hb7⟩; rw [decide_eq_true hxl.out]))
              go_roundw
              case rel => exact ⟨k + 1, by omega, by go_num, below_trans (below_trans hbq hb5 hbq.size) hb7 (Nat.le_trans hbq.size hb5.size)⟩
              case measure => simp [intOf]; omega
            · rw [decide_eq_false hp] at hbg
              go_wp2_with (first
                | (go_at_call 9; refine hkc.mono ?_; rintro e w5 ⟨rfl, hb5⟩; unfold kres)
                | (go_at_call 13; refine (hbg _).mono ?_; rintro e w6 ⟨rfl, hw⟩; rw [hw]; clear hw w6))
              go_roundw
              case rel => exact ⟨k + 1, by omega, by go_num, below_trans hbq hb5 hbq.size⟩
              case measure => simp [intOf]; omega
        · obtain rfl : k = n := by omega
          go_wp2
          go_ret
          exact ⟨rfl, hbwq⟩
set_option maxHeartbeats 4000000 in
set_option maxRecDepth 1000000 in
theorem sorted_nil (a : Option Addr) (c : Nat) (p : Tx) (w : World) : Calls Try.prog 5 #[.slice a 0 c, encStr p] w fun e w' => e = .returned (.bool true) ∧ Below w.heap.size w w' := by
  have hu : ∀ w1, Calls Try.prog 14 #[.slice a 0 c, encStr p] w1 _ := fun w1 => under_any (a := a) (c := c) (ns := []) (w := w1) (.inl rfl) rfl (by decide) p
  go_enter Try.func5, Try.ntmps5
  go_wp2_with (first
    | (go_at_call 8; refine (known_any _).mono ?_; rintro e w1 ⟨rfl, hb1⟩)
    | (go_at_call 14; refine (hu w1).mono ?_; rintro e w2 ⟨g, c2, l, rfl, hU, hO, hb2⟩; obtain rfl := hU.eq (isU_nil p)))
  refine wp_loop_rounds 1 ?_
  rw [rounds_succ]
  go_wp2
  refine wp_loop_rounds 1 ?_
  rw [rounds_succ]
  go_wp2
  go_ret
  exact ⟨rfl, below_trans hb1 hb2 hb1.size⟩
theorem sorted_walk {a : Option Addr} {n c : Nat} {ns : List Tx} {w : World} (h : Rs w a ns) (hn : ns.length = n) (hm : n ≤ 8796093022207) (p : Tx) :
    Calls Try.prog 5 #[.slice a n c, encStr p] w fun e w' => e = .returned (.bool true) ∧ Below w.heap.size w w' := by
  rcases h with h | ⟨b, o, rfl, g⟩
  · subst h
    subst hn
    exact sorted_nil a c p w
  · exact sorted_core b o n c ns p w hn hm (fun i hi => g i (by omega))
end
end Go.Proofs.Ytdfhhogibphngab
