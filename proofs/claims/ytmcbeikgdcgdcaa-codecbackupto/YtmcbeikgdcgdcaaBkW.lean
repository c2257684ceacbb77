/-
  CodecBack: the walk.
-/
import Derived.Test.YtmcbeikgdcgdcaaTw
import Derived.Test.YtmcbeikgdcgdcaaAw7
namespace Go.Proofs.Ytmcbeikgdcgdcaa
open Go.RowKit
/-- Lists, one behind the other: k of them, from the number j on. -/
def fa (g : Nat → List (BitVec 8)) : Nat → Nat → List (BitVec 8)
  | _, 0 => []
  | j, k + 1 => g j ++ fa g (j + 1) k
theorem fa_snoc (g : Nat → List (BitVec 8)) (j k : Nat) : fa g j (k + 1) = fa g j k ++ g (j + k) := by
  induction k generalizing j with
  | zero => simp [fa]
  | succ k ih =>
    show g j ++ fa g (j + 1) (k + 1) = (g j ++ fa g (j + 1) k) ++ _
    rw [ih (j + 1), List.append_assoc, show j + 1 + k = j + (k + 1) by omega]
theorem fa_step (g : Nat → List (BitVec 8)) (j m : Nat) (h : j < m) : fa g j (m - j) = g j ++ fa g (j + 1) (m - (j + 1)) := by
  rw [show m - j = (m - (j + 1)) + 1 by omega]; rfl
theorem fa_split (g : Nat → List (BitVec 8)) (j m : Nat) (h : j ≤ m) : fa g 0 m = fa g 0 j ++ fa g j (m - j) := by
  induction j with
  | zero => rfl
  | succ j ih =>
    have e := fa_step g j m (by omega)
    have e2 := fa_snoc g 0 j
    rw [Nat.zero_add] at e2
    rw [ih (by omega), e, e2, List.append_assoc]
theorem eth_pos (t : Th) : 0 < (eth t).length := by
  unfold eth
  have h1 := sb_pos 9 t.U
  have h2 := sb_pos 9 (zg t.S).toNat
  have h3 := sb_pos 9 t.B.length
  have h4 := sb_pos 9 t.T.length
  split
  all_goals first | (rw [lb_len]; omega) | (unfold bl; rw [List.length_append]; omega) | (rw [List.length_append]; omega) | omega
theorem fa_pos (g : Nat → List (BitVec 8)) (h : ∀ i, 0 < (g i).length) (j k : Nat) : k ≤ (fa g j k).length := by
  induction k generalizing j with
  | zero => exact Nat.zero_le _
  | succ k ih =>
    show k + 1 ≤ (g j ++ fa g (j + 1) k).length
    rw [List.length_append]
    have := ih (j + 1)
    have := h j
    omega
/-- Things that lie in memory, one behind the other. -/
def Ths (w : World) (q0 : Option Addr) (m : Nat) (Kk : Nat → Int) (th : Nat → Th) (PB PT : Nat → Option Addr) (CB CT : Nat → Nat) : Prop :=
  ∀ i, i < m → Tin w (Kk i) (th i) (PB i) (PT i) ∧ ∃ b o, q0 = some ⟨b, o, none⟩ ∧ w.cell? ⟨b, o + i * 5, none⟩ = some (.int .i64 (Kk i)) ∧ w.cell? ⟨b, o + i * 5 + 1, none⟩ = some (.int .u64 ((th i).U : Int)) ∧ w.cell? ⟨b, o + i * 5 + 2, none⟩ = some (.int .i64 (th i).S) ∧ w.cell? ⟨b, o + i * 5 + 3, none⟩ = some (.slice (PB i) (th i).B.length (CB i)) ∧ w.cell? ⟨b, o + i * 5 + 4, none⟩ = some (.slice (PT i) (th i).T.length (CT i))
section
attribute [local irreducible] Calls el Ow Ot eth
set_option maxHeartbeats 8000000 in
set_option maxRecDepth 1000000 in
theorem codecBack_walk (w : World) (q0 : Option Addr) (m k0 : Nat) (cut : Int) (Kk : Nat → Int) (th : Nat → Th) (PB PT : Nat → Option Addr) (CB CT : Nat → Nat) (hm : m ≤ 1048576) (H1 : Hid (Ths w q0 m Kk th PB PT CB CT)) (htot : (fa (fun i => eth (th i)) 0 m).length ≤ 1000000000) :
    Calls Try.prog 6 #[.slice q0 m k0, .int .i64 cut] w fun e w' => e = .returned (.bool true) ∧ Below w.heap.size w w' := by
  have al : ∀ (W : World) (o : Obj), Below W.heap.size W (W.alloc o) := fun W o => (Below.refl _ _).alloc (Nat.le_refl _) o
  obtain ⟨g, hg⟩ : ∃ g, g = (fun i => eth (th i)) := ⟨_, rfl⟩
  have hgi : ∀ i, g i = eth (th i) := fun i => by rw [hg]
  rw [← hg] at htot
  clear hg
  have hpre : Hid (∀ j, j ≤ m → (fa g 0 j).length + (fa g j (m - j)).length = (fa g 0 m).length) := fun j hj => by rw [fa_split g j m hj, List.length_append]
  go_enter Try.func6, Try.ntmps6
  go_wp2_with (first
    | (go_at_call 37; refine (awake_any _).mono ?_; rintro e wA ⟨rfl, hbA⟩))
  go_loopw [5, 6] (fun o i wr => ∃ j : Nat, j ≤ m ∧ i = .int .i64 (j : Int) ∧ Ow wr w.heap.size o (fa g 0 j) ∧ Below w.heap.size w wr) (fun _ i _ => m - (intOf i).toNat)
  case atStart => exact ⟨0, Nat.zero_le _, rfl, Ow.nil _ _, hbA⟩
  case round =>
    clear hbA
    obtain ⟨j, hj, rfl, hO, hb⟩ := hrel
    by_cases hlt : j < m
    · have hi : (j : Int) < (m : Int) := by omega
      obtain ⟨hT, b, o, rfl, c0, c1, c2, c3, c4⟩ := H1.out j hlt
      replace c0 := cell_below c0 hb
      replace c1 := cell_below c1 hb
      replace c2 := cell_below c2 hb
      replace c3 := cell_below c3 hb
      replace c4 := cell_below c4 hb
      obtain ⟨p, c, rfl, _, rO⟩ := hO.rd
      have hsz := hpre.out j (by omega)
      have P := (show Hid _ from put_any rO (fa g 0 j).length c rfl (by omega) (hT.below hb) (CB j) (CT j))
      clear hT
      go_wp2_with (go_at_call 38; refine P.out.mono ?_; rintro e2 w1 ⟨v1, rfl, ho1, hb1⟩)
      go_roundw
      case rel =>
        refine ⟨j + 1, by omega, by go_num, ?_, bt hb hb1⟩
        rw [fa_snoc, Nat.zero_add, hgi]
        exact ho1.mono hb.size
      case measure => simp [intOf]; omega
    · obtain rfl : j = m := by omega
      obtain ⟨p, c, rfl, hpc, rO⟩ := hO.rd
      obtain ⟨N, hN⟩ : ∃ N, (fa g 0 j).length = N := ⟨_, rfl⟩
      rw [hN] at htot hpc ⊢
      go_wp2_with (first
        | (go_at_call 30; refine (open_any rO N c hN (by omega)).mono ?_; rintro e w3 ⟨r, rfl, hrr, hR3, hb3⟩; have ba3 := bt hb hb3; have hrw := Nat.le_trans hb.size hrr))
      obtain ⟨wB, hwB⟩ : ∃ W, W = wr := ⟨_, rfl⟩
      subst hwB
      obtain ⟨mm, hmm⟩ : ∃ mm, mm = j := ⟨_, rfl⟩
      subst hmm
      have hfp : mm ≤ (fa g 0 mm).length := fa_pos g (fun i => by rw [hgi]; exact eth_pos _) 0 mm
      rw [hN] at hfp
      have hpr : Hid (∀ j, j ≤ mm → (fa g j (mm - j)).length ≤ N) := fun j hj => by have := hpre.out j hj; rw [hN] at this; omega
      clear hpre hlt hj ba3
      go_loopw [8] (fun i wq => ∃ j : Nat, j ≤ mm ∧ i = .int .i64 (j : Int) ∧ Rdr wq r (fa g j (mm - j)) 0 ∧ Below wB.heap.size wB wq) (fun i _ => mm - (intOf i).toNat)
      case atStart => exact ⟨0, Nat.zero_le _, rfl, hR3, hb3⟩
      case round =>
        clear hR3 hb3
        obtain ⟨j, hj, rfl, hR, hbq⟩ := hrel
        by_cases hlt : j < mm
        · have hi : (j : Int) < (mm : Int) := by omega
          obtain ⟨hT, b, o, rfl, c0, c1, c2, c3, c4⟩ := H1.out j hlt
          have hbw := bt hb hbq
          replace c0 := cell_below c0 hbw
          replace c1 := cell_below c1 hbw
          replace c2 := cell_below c2 hbw
          replace c3 := cell_below c3 hbw
          replace c4 := cell_below c4 hbw
          have hsz := hpr.out j (by omega)
          rw [fa_step g j mm hlt, hgi] at hR hsz
          have P := (show Hid _ from back_put (hT.below hbw) hR (by omega) (CB j) (CT j))
          clear hT hR
          go_wp2_with (first
            | (go_at_call 39; refine P.out.mono ?_; rintro e2 w1 ⟨hG1, hR1, rfl⟩)
            | (go_at_call 40; refine (fault_any hR1).mono ?_; rintro e2 w2 ⟨rfl, h9⟩; obtain rfl := h9.symm))
          go_roundw
          case rel => exact ⟨j + 1, by omega, by go_num, hR1, gb hbq hG1 hrr⟩
          case measure => simp [intOf]; omega
        · obtain rfl : j = mm := by omega
          rw [Nat.sub_self] at hR
          have hR0 : Rdr wr r [] 0 := hR
          clear hR
          have E0 : en 0 0 = 0 := rfl
          by_cases hN0 : N = 0
          · subst hN0
            obtain rfl : j = 0 := by omega
            go_wp2_with (first
              | (go_at_call 41; refine (left_any hR0).mono ?_; rintro e2 w2 ⟨rfl, h9⟩; obtain rfl := h9.symm)
              | (go_at_call 42; refine (end_any hR0).mono ?_; rintro e2 w2 ⟨rfl, h9⟩; obtain rfl := h9.symm))
            go_ret
            exact ⟨rfl, bt hb hbq⟩
          · have hNi : ((N : Int) == 0) = false := by simp; omega
            obtain ⟨b, o, rfl, hc⟩ : ∃ b o, p = some ⟨b, o, none⟩ ∧ True := by
              rcases rO with h1 | ⟨b, o, e, _⟩
              · rw [h1] at hN; simp at hN; omega
              · exact ⟨b, o, e, trivial⟩
            obtain ⟨q, hq⟩ := Int.eq_ofNat_of_zero_le (Int.emod_nonneg cut (by omega : (N : Int) ≠ 0))
            have hql := Int.emod_lt_of_pos cut (by omega : (0 : Int) < (N : Int))
            have PK := (show Hid _ from pick_any cut (N : Int) (by omega) (by omega))
            rw [hq] at hql PK
            have hqN : q < N := by omega
            have hqc : q ≤ c := by omega
            have rQ := (rO.below hbq).take q
            have hQl : ((fa g 0 j).take q).length = q := by rw [List.length_take, hN]; omega
            clear hq hql hc rO
            go_wp2_with (first
              | (go_at_call 41; refine (left_any hR0).mono ?_; rintro e2 w2 ⟨rfl, h9⟩; obtain rfl := h9.symm)
              | (go_at_call 42; refine (end_any hR0).mono ?_; rintro e2 w2 ⟨rfl, h9⟩; obtain rfl := h9.symm)
              | (go_at_call 31; refine (PK.out _).mono ?_; rintro e2 w2 ⟨rfl, h9⟩; obtain rfl := h9.symm)
              | (go_at_call 30; refine (open_any rQ q c hQl (by omega)).mono ?_; rintro e w5 ⟨r5, rfl, hrr5, hR5, hb5⟩))
            have hbw5 := bt (bt hb hbq) hb5
            have hr5w := Nat.le_trans (bt hb hbq).size hrr5
            go_loopw [9] (fun i wq => ∃ (k q' : Nat), k ≤ j ∧ i = .int .i64 (k : Int) ∧ q' < (fa g k (j - k)).length ∧ Rdr wq r5 ((fa g k (j - k)).take q') 0 ∧ Below w.heap.size w wq) (fun i _ => j - (intOf i).toNat)
            case atStart => exact ⟨0, q, Nat.zero_le _, rfl, by rw [Nat.sub_zero, hN]; exact hqN, hR5, hbw5⟩
            case round =>
              clear hR5 hb5 hbw5 hR0 rQ hbq
              obtain ⟨k, q', hk, rfl, hq', hR, hbq⟩ := hrel
              have hlt : k < j := by
                rcases Nat.lt_or_ge k j with h1 | h1
                · exact h1
                · obtain rfl : k = j := by omega
                  rw [Nat.sub_self] at hq'
                  exact absurd hq' (by show ¬ q' < 0; omega)
              have hi : (k : Int) < (j : Int) := by omega
              obtain ⟨hT, b1, o1, hq0, c0, c1, c2, c3, c4⟩ := H1.out k hlt
              subst hq0
              replace c0 := cell_below c0 hbq
              replace c1 := cell_below c1 hbq
              replace c2 := cell_below c2 hbq
              replace c3 := cell_below c3 hbq
              replace c4 := cell_below c4 hbq
              have hsz := hpr.out k (by omega)
              rw [fa_step g k j hlt, hgi] at hR hsz hq'
              rw [List.length_append] at hsz hq'
              rw [List.take_append] at hR
              by_cases hqe : q' < (eth (th k)).length
              · rw [show q' - (eth (th k)).length = 0 by omega, List.take_zero, List.append_nil] at hR
                have P := (show Hid _ from back_cut (hT.below hbq) hqe hR (by omega) (CB k) (CT k))
                have E7 : en ((eth (th k)).take q').length 70 = 70 := rfl
                clear hT hR
                go_wp2_with (first
                  | (go_at_call 39; refine P.out.mono ?_; rintro e2 w1 ⟨hG1, hR1, bb, rfl⟩)
                  | (go_at_call 40; refine (fault_any hR1).mono ?_; rintro e2 w2 ⟨rfl, h9⟩; obtain rfl := h9.symm)
                  | (go_at_call 42; refine (end_any hR1).mono ?_; rw [E7]; rintro e2 w2 ⟨rfl, h9⟩; obtain rfl := h9.symm))
                go_ret
                exact ⟨rfl, gb hbq hG1 hr5w⟩
              · rw [List.take_of_length_le (by omega)] at hR
                have P := (show Hid _ from back_put (hT.below hbq) hR (by rw [List.length_append, List.length_take]; omega) (CB k) (CT k))
                clear hT hR
                go_wp2_with (first
                  | (go_at_call 39; refine P.out.mono ?_; rintro e2 w1 ⟨hG1, hR1, rfl⟩)
                  | (go_at_call 40; refine (fault_any hR1).mono ?_; rintro e2 w2 ⟨rfl, h9⟩; obtain rfl := h9.symm))
                go_roundw
                case rel => exact ⟨k + 1, q' - (eth (th k)).length, by omega, by go_num, by omega, hR1, gb hbq hG1 hr5w⟩
                case measure => simp [intOf]; omega
end
end Go.Proofs.Ytmcbeikgdcgdcaa
