/-
  The laws' 'pick', and what 'ask' of a reader comes to.
-/
import Derived.Test.YtmcbeikgdcgdcaaRf
import Derived.Test.YtmcbeikgdcgdcaaSx
import Derived.Test.YtmcbeikgdcgdcaaRn
import Derived.Test.YtmcbeikgdcgdcaaZf
namespace Go.Proofs.Ytmcbeikgdcgdcaa
open Go.RowKit
theorem pick_num (k n : Int) (h : 0 < n) : (k.tmod n < 0 → k.tmod n + n = k % n) ∧ (¬ k.tmod n < 0 → k.tmod n = k % n) := by
  have h1 := Int.emod_nonneg k (by omega : n ≠ 0)
  have h2 := Int.emod_lt_of_pos k h
  have h3 := Int.tmod_lt_of_pos k h
  have h4 : -n < k.tmod n := by
    rcases Int.lt_or_le k 0 with hk | hk
    · have := Int.tmod_lt_of_pos (-k) h
      rw [Int.neg_tmod] at this
      omega
    · have := Int.tmod_nonneg n hk
      omega
  have e1 : n * k.tdiv n + k.tmod n = k := Int.mul_tdiv_add_tmod k n
  have e2 : n * (k / n) + k % n = k := Int.mul_ediv_add_emod k n
  have e3 : n * (k.tdiv n - k / n) = k % n - k.tmod n := by rw [Int.mul_sub]; omega
  constructor
  · intro hneg
    have : k.tdiv n - k / n = 1 := by
      rcases Int.lt_or_le (k.tdiv n - k / n) 1 with hq | hq
      · have := Int.mul_le_mul_of_nonneg_left (show k.tdiv n - k / n ≤ 0 by omega) (show 0 ≤ n by omega)
        omega
      · rcases Int.lt_or_le 1 (k.tdiv n - k / n) with hq2 | hq2
        · have := Int.mul_le_mul_of_nonneg_left (show 2 ≤ k.tdiv n - k / n by omega) (show 0 ≤ n by omega)
          omega
        · omega
    rw [this] at e3
    omega
  · intro hneg
    have : k.tdiv n - k / n = 0 := by
      rcases Int.lt_or_le (k.tdiv n - k / n) 0 with hq | hq
      · have := Int.mul_le_mul_of_nonneg_left (show k.tdiv n - k / n ≤ -1 by omega) (show 0 ≤ n by omega)
        omega
      · rcases Int.lt_or_le 0 (k.tdiv n - k / n) with hq2 | hq2
        · have := Int.mul_le_mul_of_nonneg_left (show 1 ≤ k.tdiv n - k / n by omega) (show 0 ≤ n by omega)
          omega
        · omega
    rw [this] at e3
    omega
/-- What is told: a number, bytes, texts. -/
structure Tl where
  U : Int
  B : List (BitVec 8)
  T : List (List (BitVec 8))
def tlU (x : Int × List (BitVec 8) × Int) : Tl × List (BitVec 8) × Int := (⟨x.1, [], []⟩, x.2)
def tlN (x : Nat × List (BitVec 8) × Int) : Tl × List (BitVec 8) × Int := (⟨(x.1 : Int), [], []⟩, x.2)
def tlB (x : List (BitVec 8) × List (BitVec 8) × Int) : Tl × List (BitVec 8) × Int := (⟨0, x.1, []⟩, x.2)
def tlT (x : List (List (BitVec 8)) × List (BitVec 8) × Int) : Tl × List (BitVec 8) × Int := (⟨0, [], x.1⟩, x.2)
/-- The calls, by their numbers. -/
def asks (k : Nat) (n e : Int) (bs : List (BitVec 8)) (f : Int) : Tl × List (BitVec 8) × Int :=
  match k with
  | 0 => tlN (res 0 f bs (fx 1 bs))
  | 1 => tlN (res 0 f bs (fx 2 bs))
  | 2 => tlN (res 0 f bs (fx 4 bs))
  | 3 => tlN (res 0 f bs (fx 8 bs))
  | 4 => tlN (res 0 f bs (fx 2 bs))
  | 5 => tlN (res 0 f bs (uv bs))
  | 6 => (⟨(res 0 f bs (zv bs)).1 % 18446744073709551616, [], []⟩, (res 0 f bs (zv bs)).2)
  | 7 => tlB (res [] f bs (ge0 n (tk n.toNat bs)))
  | 8 => tlB (res [] f bs (ge0 n (bk n.toNat bs)))
  | 9 => tlT (res [] f bs (ge0 n (ge0 e (tx n.toNat e.toNat bs))))
  | 10 => (⟨(bs.length : Int), [], []⟩, bs, f)
  | 11 => (⟨f, [], []⟩, bs, f)
  | _ => (⟨en bs.length f, [], []⟩, bs, f)
def Askd (w : World) (r : Nat) (x : Tl × List (BitVec 8) × Int) (e : Ending) (w' : World) : Prop :=
  w.grownBy w' (some r) ∧ Rdr w' r x.2.1 x.2.2 ∧ ∃ vB vT, e = .returned (.agg #[.int .u64 x.1.U, vB, vT]) ∧ Ow w' w.heap.size vB x.1.B ∧ Ot w' w.heap.size vT x.1.T
theorem told_fin {w1 : World} {c : Nat} {a0 b0 d0 : Value} {t : TypeId} (h : w1.heap[c]? = some (.cells #[a0, b0, d0] t (0, 0))) (a b d : Value) :
    (((w1.setCell ⟨c, 0, none⟩ a).setCell ⟨c, 1, none⟩ b).setCell ⟨c, 2, none⟩ d).heap[c]? = some (.cells #[a, b, d] t (0, 0)) ∧ w1.grownBy (((w1.setCell ⟨c, 0, none⟩ a).setCell ⟨c, 1, none⟩ b).setCell ⟨c, 2, none⟩ d) (some c) := by
  have e1 := heap_setCell_same w1 c 0 _ _ a h
  have e2 := heap_setCell_same _ c 1 _ _ b e1
  have e3 := heap_setCell_same _ c 2 _ _ d e2
  exact ⟨e3, gtrans (gtrans (grown_set w1 c 0 a) (grown_set _ c 1 b)) (grown_set _ c 2 d)⟩
theorem told_nb {w1 : World} {c : Nat} {t : TypeId} (h : w1.heap[c]? = some (.cells #[.int .u64 0, .slice none 0 0, .slice none 0 0] t (0, 0))) : Nb w1 c := by
  refine nb_of h (fun i z e => ?_)
  match i with
  | 0 => simp at e
  | 1 => simp at e
  | 2 => simp at e
  | i + 3 => simp at e
section
attribute [local irreducible] Calls el
set_option maxRecDepth 1000000 in
theorem pick_any (k n : Int) (h : 0 < n) (hn : n ≤ 4611686018427387903) (w : World) : Calls Try.prog 31 #[.int .i64 k, .int .i64 n] w fun e w' => e = .returned (.int .i64 (k % n)) ∧ w' = w := by
  obtain ⟨p1, p2⟩ := pick_num k n h
  have h1 := Int.emod_nonneg k (by omega : n ≠ 0)
  have h2 := Int.emod_lt_of_pos k h
  have hn0 : (n == 0) = false := by simp; omega
  have hn1 : ¬ n = 0 := by omega
  obtain ⟨m, hm⟩ : ∃ m, k.tmod n = m := ⟨_, rfl⟩
  obtain ⟨d, hd⟩ : ∃ d, k % n = d := ⟨_, rfl⟩
  rw [hm, hd] at p1 p2
  rw [hd] at h1 h2 ⊢
  by_cases hneg : m < 0
  · have e1 : Hid (m + n = d) := p1 hneg
    have e2 : Hid (wrap64 (m + n) = d) := (show wrap64 (m + n) = d by have := e1.out; unfold wrap64; omega)
    clear p1 p2 hd
    go_enter Try.func31, Try.ntmps31
    go_wp2
    go_ret
    first | exact ⟨ret_int e2.out, rfl⟩ | exact ⟨ret_int e1.out, rfl⟩
  · have e1 : Hid (m = d) := p2 hneg
    clear p1 p2 hd
    go_enter Try.func31, Try.ntmps31
    go_wp2
    go_ret
    exact ⟨ret_int e1.out, rfl⟩
end
end Go.Proofs.Ytmcbeikgdcgdcaa
