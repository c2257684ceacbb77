/-
  What readings keep to: faults, and what is left.
-/
import Derived.Test.YtmcbeikgdcgdcaaAsk
namespace Go.Proofs.Ytmcbeikgdcgdcaa
def Gd {α : Type} (bs : List (BitVec 8)) (R : Ans α) : Prop := match R with
  | .error e => 0 < e ∧ e < 1000
  | .ok (_, l) => l.length ≤ bs.length
theorem gd_uv (bs : List (BitVec 8)) : Gd bs (uv bs) := by
  unfold uv
  cases rsk 9 (nt bs) with
  | error e => cases e <;> exact ⟨by decide, by decide⟩
  | ok al => obtain ⟨v, n⟩ := al; show (bs.drop n).length ≤ _; rw [List.length_drop]; omega
theorem gd_tk (n : Nat) (bs : List (BitVec 8)) : Gd bs (tk n bs) := by
  unfold tk
  by_cases e : bs.length < n
  · rw [if_pos e]; exact ⟨by decide, by decide⟩
  · rw [if_neg e]; show (bs.drop n).length ≤ _; rw [List.length_drop]; omega
theorem Gd.le {α : Type} {a b : List (BitVec 8)} {R : Ans α} (h : Gd a R) (hl : a.length ≤ b.length) : Gd b R := by
  cases R with
  | error e => exact h
  | ok al => obtain ⟨x, l⟩ := al; exact Nat.le_trans h hl
theorem gd_ct (m : Nat) (bs : List (BitVec 8)) : Gd bs (ct m bs) := by
  unfold ct
  have h := gd_uv bs
  cases hu : uv bs with
  | error e => rw [hu] at h; exact h
  | ok al =>
    obtain ⟨v, l⟩ := al
    rw [hu] at h
    show Gd bs (if m < v then .error 71 else .ok (v, l))
    by_cases e : m < v
    · rw [if_pos e]; exact ⟨by decide, by decide⟩
    · rw [if_neg e]; exact h
theorem gd_bk (m : Nat) (bs : List (BitVec 8)) : Gd bs (bk m bs) := by
  unfold bk
  have h := gd_ct m bs
  cases hu : ct m bs with
  | error e => rw [hu] at h; exact h
  | ok al => obtain ⟨v, l⟩ := al; rw [hu] at h; exact (gd_tk v l).le h
theorem gd_txs (each n : Nat) (bs : List (BitVec 8)) : Gd bs (txs each n bs) := by
  induction n generalizing bs with
  | zero => exact Nat.le_refl _
  | succ n ih =>
    unfold txs
    have h := gd_bk each bs
    cases hu : bk each bs with
    | error e => rw [hu] at h; exact h
    | ok al =>
      obtain ⟨x, l⟩ := al
      rw [hu] at h
      have h2 := ih l
      show Gd bs (match txs each n l with
        | .error e => .error e
        | .ok (xs, l') => .ok ((x :: xs), l'))
      cases ht : txs each n l with
      | error e => rw [ht] at h2; exact h2
      | ok al => obtain ⟨xs, l'⟩ := al; rw [ht] at h2; exact Nat.le_trans h2 h
theorem gd_tx (m each : Nat) (bs : List (BitVec 8)) : Gd bs (tx m each bs) := by
  unfold tx
  have h := gd_ct m bs
  cases hu : ct m bs with
  | error e => rw [hu] at h; exact h
  | ok al => obtain ⟨n, l⟩ := al; rw [hu] at h; exact (gd_txs each n l).le h
theorem gd_ge0 {α : Type} {bs : List (BitVec 8)} (n : Int) {R : Ans α} (h : Gd bs R) : Gd bs (ge0 n R) := by
  unfold ge0
  by_cases e : n < 0
  · rw [if_pos e]; exact ⟨by decide, by decide⟩
  · rw [if_neg e]; exact h
theorem gd_fx (n : Nat) (bs : List (BitVec 8)) : Gd bs (fx n bs) := by
  unfold fx
  have h := gd_tk n bs
  cases hu : tk n bs with
  | error e => rw [hu] at h; exact h
  | ok al => obtain ⟨x, l⟩ := al; rw [hu] at h; exact h
theorem gd_zv (bs : List (BitVec 8)) : Gd bs (zv bs) := by
  unfold zv
  have h := gd_uv bs
  cases hu : uv bs with
  | error e => rw [hu] at h; exact h
  | ok al => obtain ⟨x, l⟩ := al; rw [hu] at h; exact h
/-- What every reading keeps to. -/
def Keeps (bs : List (BitVec 8)) (f : Int) (x : Tl × List (BitVec 8) × Int) : Prop :=
  (f ≠ 0 → x = (⟨0, [], []⟩, bs, f)) ∧ (f = 0 → x.2.2 ≠ 0 → x.1 = ⟨0, [], []⟩ ∧ x.2.1 = bs) ∧ x.2.1.length ≤ bs.length ∧ (0 ≤ f ∧ f < 1000 → 0 ≤ x.2.2 ∧ x.2.2 < 1000)
theorem keeps_of {α : Type} {bs : List (BitVec 8)} {f : Int} {z : α} {R : Ans α} (h : Gd bs R) (t : α → Tl) (ht : t z = ⟨0, [], []⟩) : Keeps bs f (t (res z f bs R).1, (res z f bs R).2) := by
  unfold res
  by_cases e : f = 0
  · rw [if_pos e]
    subst e
    cases R with
    | error c => exact ⟨fun h => absurd rfl h, fun _ _ => ⟨ht, rfl⟩, Nat.le_refl _, fun _ => ⟨by have := h.1; show 0 ≤ c; omega, h.2⟩⟩
    | ok al => obtain ⟨a, l⟩ := al; exact ⟨fun h => absurd rfl h, fun _ h => absurd rfl h, h, fun _ => ⟨by show (0 : Int) ≤ 0; omega, by show (0 : Int) < 1000; omega⟩⟩
  · rw [if_neg e]
    exact ⟨fun _ => by show (t z, bs, f) = _; rw [ht], fun h => absurd h e, Nat.le_refl _, fun h => h⟩
theorem asks_keeps (k : Nat) (hk : k < 10) (n e : Int) (bs : List (BitVec 8)) (f : Int) : Keeps bs f (asks k n e bs f) := by
  match k, hk with
  | 0, _ => exact keeps_of (gd_fx 1 bs) (fun u : Nat => (⟨(u : Int), [], []⟩ : Tl)) rfl
  | 1, _ => exact keeps_of (gd_fx 2 bs) (fun u : Nat => (⟨(u : Int), [], []⟩ : Tl)) rfl
  | 2, _ => exact keeps_of (gd_fx 4 bs) (fun u : Nat => (⟨(u : Int), [], []⟩ : Tl)) rfl
  | 3, _ => exact keeps_of (gd_fx 8 bs) (fun u : Nat => (⟨(u : Int), [], []⟩ : Tl)) rfl
  | 4, _ => exact keeps_of (gd_fx 2 bs) (fun u : Nat => (⟨(u : Int), [], []⟩ : Tl)) rfl
  | 5, _ => exact keeps_of (gd_uv bs) (fun u : Nat => (⟨(u : Int), [], []⟩ : Tl)) rfl
  | 6, _ => exact keeps_of (gd_zv bs) (fun u : Int => (⟨u % 18446744073709551616, [], []⟩ : Tl)) rfl
  | 7, _ => exact keeps_of (gd_ge0 n (gd_tk n.toNat bs)) (fun u => (⟨0, u, []⟩ : Tl)) rfl
  | 8, _ => exact keeps_of (gd_ge0 n (gd_bk n.toNat bs)) (fun u => (⟨0, u, []⟩ : Tl)) rfl
  | 9, _ => exact keeps_of (gd_ge0 n (gd_ge0 e (gd_tx n.toNat e.toNat bs))) (fun u => (⟨0, [], u⟩ : Tl)) rfl
end Go.Proofs.Ytmcbeikgdcgdcaa
