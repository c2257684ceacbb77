/-
  Loading: readBits, mayScore.
-/
import Derived.Test.YtcfjinpjijcheabSv27
import Derived.Laws.BitsAllLaws
namespace Go.Proofs.Ytcfjinpjijcheab
open Go.RowKit
attribute [local irreducible] dW dR p2 fR fW fV fval sW sR
/-- The number whose bits stand there. -/
def rd4 (bs : List Nat) (o : Nat) : Nat := bs.getD o 0 + 256 * bs.getD (o + 1) 0 + 65536 * bs.getD (o + 2) 0 + 16777216 * bs.getD (o + 3) 0
def rdk (bs : List Nat) (o : Nat) : Nat → Nat
  | 0 => 0
  | t + 1 => rdk bs o t + 256 ^ t * bs.getD (o + t) 0
theorem rdk_4 (bs : List Nat) (o : Nat) : rdk bs o 4 = rd4 bs o := by simp [rdk, rd4]
theorem rdk_lt {bs : List Nat} (h : ∀ x ∈ bs, x < 256) (o : Nat) : ∀ t, rdk bs o t < 256 ^ t
  | 0 => by simp [rdk]
  | t + 1 => by
    have h1 := rdk_lt h o t
    have h2 : bs.getD (o + t) 0 ≤ 255 := by
      rcases Nat.lt_or_ge (o + t) bs.length with h3 | h3
      · rw [show bs.getD (o + t) 0 = bs[o + t] by simp [List.getD, h3]]; have := h _ (List.getElem_mem h3); omega
      · simp [List.getD, h3]
    show rdk bs o t + 256 ^ t * bs.getD (o + t) 0 < 256 ^ (t + 1)
    have h3 := Nat.mul_le_mul_left (256 ^ t) h2
    rw [Nat.pow_succ]
    omega
theorem or_step (t z y : Nat) (ht : t < 4) (hz : z < 256 ^ t) (hy : y < 256) : bits .or .u32 (z : Int) ((y : Int) * 2 ^ (8 * t) % 4294967296) = ((z + 256 ^ t * y : Nat) : Int) := by
  have p : (256 : Nat) ^ t = 2 ^ (8 * t) := by rw [Nat.pow_mul]
  rw [p] at hz ⊢
  have hp : 2 ^ (8 * t) ≤ 2 ^ 24 := Nat.pow_le_pow_right (by omega) (by omega)
  have hy2 : 2 ^ (8 * t) * y ≤ 2 ^ 24 * 255 := Nat.mul_le_mul hp (by omega)
  have e1 : (y : Int) * 2 ^ (8 * t) = ((2 ^ (8 * t) * y : Nat) : Int) := by rw [Int.natCast_mul, Int.natCast_pow, Int.mul_comm]; rfl
  rw [e1]
  have e2 : ((2 ^ (8 * t) * y : Nat) : Int) % 4294967296 = ((2 ^ (8 * t) * y : Nat) : Int) := by omega
  rw [e2, u32_or_nat _ _ (by omega) (by omega), Nat.or_comm, ← Nat.two_pow_add_eq_or_of_lt hz y, Nat.add_comm]
/-- Bytes that are read. -/
def Br (w : World) (p : Option Addr) (bs : List Nat) : Prop := Vr w p (bc bs)
theorem Br.at {w : World} {p : Option Addr} {bs : List Nat} (h : Br w p bs) (h0 : 0 < bs.length) : ∃ b o, p = some ⟨b, o, none⟩ ∧ ∀ i, i < bs.length → w.cell? ⟨b, o + i, none⟩ = some (.int .u8 ((bs.getD i 0 : Nat) : Int)) := by
  rcases h with h | ⟨b, o, e, hc⟩
  · have := bc_len bs; rw [h] at this; simp at this; omega
  · exact ⟨b, o, e, fun i hi => hc i _ (bc_at bs i hi)⟩
section
attribute [local irreducible] Calls
set_option maxRecDepth 1000000 in
set_option maxHeartbeats 2000000 in
theorem readBits_any {w : World} {b o : Nat} {bs : List Nat} (hc : ∀ i, i < bs.length → w.cell? ⟨b, o + i, none⟩ = some (.int .u8 ((bs.getD i 0 : Nat) : Int))) (h256 : ∀ x ∈ bs, x < 256) (at0 m c : Nat) (hm : at0 + m = bs.length) (h4 : 4 ≤ m) :
    Calls Try.prog 27 #[.slice (some ⟨b, o + at0, none⟩) m c] w fun e w' => e = .returned (.float .f32 (rd4 bs at0)) ∧ w' = w := by
  have rf := run_from32
  have HC := (show Hid _ from hc)
  have H2 := (show Hid _ from h256)
  clear hc h256
  go_enter Try.func27, Try.ntmps27
  go_wp2
  go_loopw [3, 5] (fun u i wr => ∃ t : Nat, t ≤ 4 ∧ i = .int .i64 (t : Int) ∧ u = .int .u32 ((rdk bs at0 t : Nat) : Int) ∧ wr = w) (fun _ i _ => 4 - (intOf i).toNat)
  case atStart => exact ⟨0, by omega, rfl, rfl, rfl⟩
  case round =>
    obtain ⟨t, ht, rfl, rfl, rfl⟩ := hrel
    by_cases hlt : t < 4
    · have hi : (t : Int) < 4 := by omega
      have hi2 : (t : Int) < (m : Int) := by omega
      have g1 := HC.out (at0 + t) (by omega)
      rw [← Nat.add_assoc] at g1
      have hb : bs.getD (at0 + t) 0 < 256 := by
        rw [show bs.getD (at0 + t) 0 = bs[at0 + t]'(by omega) by simp [List.getD, show at0 + t < bs.length by omega]]
        exact H2.out _ (List.getElem_mem _)
      have hr := rdk_lt H2.out at0 t
      have es : rdk bs at0 (t + 1) = rdk bs at0 t + 256 ^ t * bs.getD (at0 + t) 0 := rfl
      obtain ⟨y, hy⟩ : ∃ y, bs.getD (at0 + t) 0 = y := ⟨_, rfl⟩
      obtain ⟨z, hz⟩ : ∃ y, rdk bs at0 t = y := ⟨_, rfl⟩
      rw [hy] at g1 hb es
      rw [hz] at hr es ⊢
      have HE := (show Hid _ from es)
      clear es hy hz rf
      go_wp2
      refine ⟨⟨t + 1, by omega, by go_num, ?_, trivial⟩, ?_⟩
      · rw [HE.out, or_step t z y hlt hr hb]
      · simp [intOf]; omega
    · obtain rfl : t = 4 := by omega
      rw [rdk_4]
      go_wp2
      go_ret
      exact ⟨rfl, rfl⟩
end
end Go.Proofs.Ytcfjinpjijcheab
