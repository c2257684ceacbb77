/-
  The bytes that stand for what was told: what is read is just what is put.
-/
import Derived.Test.YtmcbeikgdcgdcaaAf
import Derived.Test.YtmcbeikgdcgdcaaPt
import Derived.Test.YtmcbeikgdcgdcaaPn
namespace Go.Proofs.Ytmcbeikgdcgdcaa
open Go.RowKit
/-- A number of 64 bits with a sign. -/
def si (u : Int) : Int := if u < 9223372036854775808 then u else u - 18446744073709551616
theorem si_wrap (u : Int) (h : 0 ≤ u ∧ u < 18446744073709551616) : wrap64 u = si u := by
  unfold wrap64 si
  by_cases e : u < 9223372036854775808
  · rw [if_pos e]; omega
  · rw [if_neg e]; omega
theorem si_range (u : Int) (h : 0 ≤ u ∧ u < 18446744073709551616) : -9223372036854775808 ≤ si u ∧ si u ≤ 9223372036854775807 := by
  unfold si
  by_cases e : u < 9223372036854775808
  · rw [if_pos e]; omega
  · rw [if_neg e]; omega
theorem si_mod (x : Int) (h : -9223372036854775808 ≤ x ∧ x ≤ 9223372036854775807) : si (x % 18446744073709551616) = x := by
  unfold si
  by_cases e : x % 18446744073709551616 < 9223372036854775808
  · rw [if_pos e]; omega
  · rw [if_neg e]; omega
/-- The bytes that stand for what was told by the call k. -/
def enc (k : Nat) (t : Tl) : List (BitVec 8) := match k with
  | 0 => lb 1 t.U.toNat
  | 1 => lb 2 t.U.toNat
  | 2 => lb 4 t.U.toNat
  | 3 => lb 8 t.U.toNat
  | 4 => lb 2 t.U.toNat
  | 5 => sb 9 t.U.toNat
  | 6 => sb 9 (zg (si t.U)).toNat
  | 7 => t.B
  | 8 => bl t.B
  | _ => sb 9 t.T.length ++ tl t.T
theorem tk_app {n : Nat} {bs x l : List (BitVec 8)} (h : tk n bs = .ok (x, l)) : bs = x ++ l ∧ x.length = n := by
  unfold tk at h
  by_cases e : bs.length < n
  · rw [if_pos e] at h; cases h
  · rw [if_neg e] at h
    injection h with h; injection h with h1 h2
    subst h1 h2
    exact ⟨(List.take_append_drop _ _).symm, by rw [List.length_take]; omega⟩
theorem fx_app {n v : Nat} {bs l : List (BitVec 8)} (h : fx n bs = .ok (v, l)) : bs = lb n v ++ l := by
  unfold fx at h
  cases ht : tk n bs with
  | error e => rw [ht] at h; cases h
  | ok al =>
    obtain ⟨x, k⟩ := al
    rw [ht] at h
    injection h with h; injection h with h1 h2
    subst h1 h2
    obtain ⟨q1, q2⟩ := tk_app ht
    rw [← q2, lb_lv]; exact q1
theorem uv_app {v : Nat} {bs l : List (BitVec 8)} (h : uv bs = .ok (v, l)) : bs = sb 9 v ++ l := by
  unfold uv at h
  cases hr : rsk 9 (nt bs) with
  | error e => rw [hr] at h; cases e <;> cases h
  | ok al =>
    obtain ⟨u, n⟩ := al
    rw [hr] at h
    injection h with h; injection h with h1 h2
    subst h1 h2
    obtain ⟨_, q1, q2, _⟩ := sfk_rsk 9 _ u n (Nat.le_refl _) (nt_byte bs) hr
    have e : sb 9 u = bs.take n := by
      unfold sb
      rw [← q1]
      unfold nt
      rw [← List.map_take, List.map_map]
      conv => rhs; rw [← List.map_id (bs.take n)]
      apply List.map_congr_left
      intro x _
      show BitVec.ofNat 8 x.toNat = x
      apply BitVec.eq_of_toNat_eq
      rw [BitVec.toNat_ofNat]
      have := x.isLt
      omega
    rw [e]; exact (List.take_append_drop _ _).symm
theorem bk_app {m : Nat} {bs x l : List (BitVec 8)} (h : bk m bs = .ok (x, l)) : bs = bl x ++ l := by
  unfold bk at h
  cases hu : ct m bs with
  | error e => rw [hu] at h; cases h
  | ok al =>
    obtain ⟨u, k⟩ := al
    rw [hu] at h
    obtain ⟨q1, q2⟩ := tk_app h
    have q3 := uv_app (ct_ok hu).1
    unfold bl
    rw [q2, List.append_assoc, ← q1]; exact q3
theorem txs_app {each n : Nat} {bs l : List (BitVec 8)} {xs : List (List (BitVec 8))} (h : txs each n bs = .ok (xs, l)) : bs = tl xs ++ l ∧ xs.length = n := by
  induction n generalizing bs xs with
  | zero => injection h with h; injection h with h1 h2; subst h1 h2; exact ⟨rfl, rfl⟩
  | succ n ih =>
    unfold txs at h
    cases hb : bk each bs with
    | error e => rw [hb] at h; cases h
    | ok al =>
      obtain ⟨x, k⟩ := al
      rw [hb] at h
      have h : (match txs each n k with
        | .error e => Except.error e
        | .ok (xs, l') => Except.ok ((x :: xs), l')) = .ok (xs, l) := h
      cases ht : txs each n k with
      | error e => rw [ht] at h; cases h
      | ok al =>
        obtain ⟨ys, l'⟩ := al
        rw [ht] at h
        injection h with h; injection h with h1 h2
        subst h1 h2
        obtain ⟨q1, q2⟩ := ih ht
        have q3 := bk_app hb
        refine ⟨?_, by rw [List.length_cons, q2]⟩
        show bs = (bl x ++ tl ys) ++ l'
        rw [List.append_assoc, ← q1]; exact q3
theorem tx_app {m each : Nat} {bs l : List (BitVec 8)} {xs : List (List (BitVec 8))} (h : tx m each bs = .ok (xs, l)) : bs = (sb 9 xs.length ++ tl xs) ++ l := by
  unfold tx at h
  cases hu : ct m bs with
  | error e => rw [hu] at h; cases h
  | ok al =>
    obtain ⟨n, k⟩ := al
    rw [hu] at h
    obtain ⟨q1, q2⟩ := txs_app h
    have q3 := uv_app (ct_ok hu).1
    rw [q2, List.append_assoc, ← q1]; exact q3
theorem ge0_inv {α : Type} {n : Int} {R : Ans α} {a : α} {l : List (BitVec 8)} (h : ge0 n R = .ok (a, l)) : R = .ok (a, l) := by
  unfold ge0 at h
  by_cases e : n < 0
  · rw [if_pos e] at h; cases h
  · rw [if_neg e] at h; exact h
theorem gd_ne {α : Type} {bs : List (BitVec 8)} {e : Int} (h : Gd bs (.error e : Ans α)) : e ≠ 0 := by have := h.1; omega
theorem res_inv {α : Type} {z a : α} {bs l : List (BitVec 8)} {R : Ans α} (hg : Gd bs R) (h : res z 0 bs R = (a, l, 0)) : R = .ok (a, l) := by
  cases R with
  | error e =>
    have h : (z, bs, e) = (a, l, 0) := h
    simp only [Prod.mk.injEq] at h
    exact absurd h.2.2 (gd_ne hg)
  | ok al =>
    obtain ⟨b, k⟩ := al
    have h : (b, k, (0 : Int)) = (a, l, 0) := h
    simp only [Prod.mk.injEq] at h
    rw [h.1, h.2.1]
theorem pr3 {α β : Type} {x : α × β × Int} {t : α → Tl} {T : Tl} {l : β} (h : (t x.1, x.2) = (T, l, (0 : Int))) : ∃ a, x = (a, l, 0) ∧ t a = T := by
  obtain ⟨a, b, c⟩ := x
  simp only [Prod.mk.injEq] at h
  exact ⟨a, by rw [h.2.1, h.2.2], h.1⟩
theorem ug_range7 (u : Nat) (h : u < 18446744073709551616) : -9223372036854775808 ≤ ug (u : Int) ∧ ug (u : Int) ≤ 9223372036854775807 := by
  unfold ug
  by_cases e : (u : Int) % 2 = 0
  · rw [if_pos e]; omega
  · rw [if_neg e]; omega
/-- What a reading takes without a fault is just what its answer stands for. -/
theorem asks_enc (k : Nat) (hk : k < 10) (n e : Int) (bs l : List (BitVec 8)) (T : Tl) (h : asks k n e bs 0 = (T, l, 0)) : bs = enc k T ++ l := by
  match k, hk with
  | 0, _ =>
    obtain ⟨a, h1, h2⟩ := pr3 (t := fun u : Nat => (⟨(u : Int), [], []⟩ : Tl)) h
    subst h2
    have := fx_app (res_inv (gd_fx 1 bs) h1)
    show bs = lb 1 ((a : Int)).toNat ++ l
    rw [Int.toNat_natCast]; exact this
  | 1, _ =>
    obtain ⟨a, h1, h2⟩ := pr3 (t := fun u : Nat => (⟨(u : Int), [], []⟩ : Tl)) h
    subst h2
    have := fx_app (res_inv (gd_fx 2 bs) h1)
    show bs = lb 2 ((a : Int)).toNat ++ l
    rw [Int.toNat_natCast]; exact this
  | 2, _ =>
    obtain ⟨a, h1, h2⟩ := pr3 (t := fun u : Nat => (⟨(u : Int), [], []⟩ : Tl)) h
    subst h2
    have := fx_app (res_inv (gd_fx 4 bs) h1)
    show bs = lb 4 ((a : Int)).toNat ++ l
    rw [Int.toNat_natCast]; exact this
  | 3, _ =>
    obtain ⟨a, h1, h2⟩ := pr3 (t := fun u : Nat => (⟨(u : Int), [], []⟩ : Tl)) h
    subst h2
    have := fx_app (res_inv (gd_fx 8 bs) h1)
    show bs = lb 8 ((a : Int)).toNat ++ l
    rw [Int.toNat_natCast]; exact this
  | 4, _ =>
    obtain ⟨a, h1, h2⟩ := pr3 (t := fun u : Nat => (⟨(u : Int), [], []⟩ : Tl)) h
    subst h2
    have := fx_app (res_inv (gd_fx 2 bs) h1)
    show bs = lb 2 ((a : Int)).toNat ++ l
    rw [Int.toNat_natCast]; exact this
  | 5, _ =>
    obtain ⟨a, h1, h2⟩ := pr3 (t := fun u : Nat => (⟨(u : Int), [], []⟩ : Tl)) h
    subst h2
    have := uv_app (res_inv (gd_uv bs) h1)
    show bs = sb 9 ((a : Int)).toNat ++ l
    rw [Int.toNat_natCast]; exact this
  | 6, _ =>
    obtain ⟨a, h1, h2⟩ := pr3 (t := fun u : Int => (⟨u % 18446744073709551616, [], []⟩ : Tl)) h
    subst h2
    have hz := res_inv (gd_zv bs) h1
    unfold zv at hz
    cases hu : uv bs with
    | error e => rw [hu] at hz; cases hz
    | ok al =>
      obtain ⟨u, k⟩ := al
      rw [hu] at hz
      injection hz with hz
      injection hz with z1 z2
      subst z1 z2
      have hlt := uv_lt hu
      show bs = sb 9 (zg (si (ug (u : Int) % 18446744073709551616))).toNat ++ k
      rw [si_mod _ (ug_range7 u hlt), zg_ug _ (by omega), Int.toNat_natCast]
      exact uv_app hu
  | 7, _ =>
    obtain ⟨a, h1, h2⟩ := pr3 (t := fun u => (⟨0, u, []⟩ : Tl)) h
    subst h2
    exact (tk_app (ge0_inv (res_inv (gd_ge0 n (gd_tk n.toNat bs)) h1))).1
  | 8, _ =>
    obtain ⟨a, h1, h2⟩ := pr3 (t := fun u => (⟨0, u, []⟩ : Tl)) h
    subst h2
    exact bk_app (ge0_inv (res_inv (gd_ge0 n (gd_bk n.toNat bs)) h1))
  | 9, _ =>
    obtain ⟨a, h1, h2⟩ := pr3 (t := fun u => (⟨0, [], u⟩ : Tl)) h
    subst h2
    exact tx_app (ge0_inv (ge0_inv (res_inv (gd_ge0 n (gd_ge0 e (gd_tx n.toNat e.toNat bs))) h1)))
end Go.Proofs.Ytmcbeikgdcgdcaa
