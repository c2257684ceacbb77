/-
  The laws' 'again', every call of it.
-/
import Derived.Test.YtmcbeikgdcgdcaaAgA
import Derived.Test.YtmcbeikgdcgdcaaAgB
namespace Go.Proofs.Ytmcbeikgdcgdcaa
open Go.RowKit
/-- How great a number the call k tells. -/
def lim (k : Nat) : Int := match k with
  | 0 => 256
  | 1 => 65536
  | 2 => 4294967296
  | 4 => 65536
  | _ => 18446744073709551616
theorem res_lt {bs : List (BitVec 8)} {f : Int} {R : Ans Nat} {m : Nat} (h0 : 0 < m) (h : ∀ v l, R = .ok (v, l) → v < m) : (res 0 f bs R).1 < m := by
  unfold res
  by_cases e : f = 0
  · rw [if_pos e]
    cases R with
    | error c => exact h0
    | ok al => obtain ⟨v, l⟩ := al; exact h v l rfl
  · rw [if_neg e]; exact h0
theorem asks_lim (k : Nat) (hk : k < 10) (n e : Int) (bs : List (BitVec 8)) (f : Int) : 0 ≤ (asks k n e bs f).1.U ∧ (asks k n e bs f).1.U < lim k := by
  match k, hk with
  | 0, _ => have := res_lt (bs := bs) (f := f) (R := fx 1 bs) (m := 256) (by decide) (fun v l h => fx_lt h); exact ⟨Int.natCast_nonneg _, Int.ofNat_lt.2 this⟩
  | 1, _ => have := res_lt (bs := bs) (f := f) (R := fx 2 bs) (m := 65536) (by decide) (fun v l h => fx_lt h); exact ⟨Int.natCast_nonneg _, Int.ofNat_lt.2 this⟩
  | 2, _ => have := res_lt (bs := bs) (f := f) (R := fx 4 bs) (m := 4294967296) (by decide) (fun v l h => fx_lt h); exact ⟨Int.natCast_nonneg _, Int.ofNat_lt.2 this⟩
  | 3, _ => have := res_lt (bs := bs) (f := f) (R := fx 8 bs) (m := 18446744073709551616) (by decide) (fun v l h => fx_lt h); exact ⟨Int.natCast_nonneg _, Int.ofNat_lt.2 this⟩
  | 4, _ => have := res_lt (bs := bs) (f := f) (R := fx 2 bs) (m := 65536) (by decide) (fun v l h => fx_lt h); exact ⟨Int.natCast_nonneg _, Int.ofNat_lt.2 this⟩
  | 5, _ => have := res_lt (bs := bs) (f := f) (R := uv bs) (m := 18446744073709551616) (by decide) (fun v l h => uv_lt h); exact ⟨Int.natCast_nonneg _, Int.ofNat_lt.2 this⟩
  | 6, _ => exact ⟨Int.emod_nonneg _ (by decide), Int.emod_lt_of_pos _ (by decide)⟩
  | 7, _ => exact ⟨by show (0 : Int) ≤ 0; omega, by show (0 : Int) < 18446744073709551616; omega⟩
  | 8, _ => exact ⟨by show (0 : Int) ≤ 0; omega, by show (0 : Int) < 18446744073709551616; omega⟩
  | 9, _ => exact ⟨by show (0 : Int) ≤ 0; omega, by show (0 : Int) < 18446744073709551616; omega⟩
theorem tz_tl (ts : List (List (BitVec 8))) : tz ts ≤ 10 * (tl ts).length := by
  induction ts with
  | nil => simp [tz]
  | cons t ts ih =>
    unfold tl tz at *
    rw [List.flatMap_cons, List.length_append, List.map_cons, List.sum_cons]
    have : t.length + 1 ≤ (bl t).length := by unfold bl; rw [List.length_append]; have := sb_pos 9 t.length; omega
    omega
theorem again_any {w : World} {a : Option Addr} {bs : List (BitVec 8)} (h : Rd w a bs) (n c : Nat) (hn : bs.length = n) (hm : n ≤ 1048576) (q x e : Int) (k : Nat) (hk : k < 10) (U : Int) (B : List (BitVec 8)) (T : List (List (BitVec 8))) (pB pT : Option Addr) (cB cT : Nat) (hU : 0 ≤ U ∧ U < lim k) (hB : Rd w pB B) (hbB : ∀ b, pB = some b → b.block < w.heap.size) (hT : Rs' w pT T) (hl : (enc k ⟨U, B, T⟩).length ≤ 1048576) :
    Calls Try.prog 43 #[.slice a n c, .agg #[.int .i64 q, .int .i64 (k : Int), .int .i64 x, .int .i64 e], .agg #[.int .u64 U, .slice pB B.length cB, .slice pT T.length cT]] w fun e' w' => ∃ o', e' = .returned o' ∧ Ow w' w.heap.size o' (bs ++ enc k ⟨U, B, T⟩) ∧ Below w.heap.size w w' := by
  match k, hk with
  | 0, _ => exact again0 h n c hn hm q _ x e rfl U B T pB pT cB cT hU
  | 1, _ => exact again1 h n c hn hm q _ x e rfl U B T pB pT cB cT hU
  | 2, _ => exact again2 h n c hn hm q _ x e rfl U B T pB pT cB cT hU
  | 3, _ => exact again3 h n c hn hm q _ x e rfl U B T pB pT cB cT hU
  | 4, _ => exact again4 h n c hn hm q _ x e rfl U B T pB pT cB cT hU
  | 5, _ => exact again5 h n c hn hm q _ x e rfl U B T pB pT cB cT hU
  | 6, _ => exact again6 h n c hn hm q _ x e rfl U B T pB pT cB cT hU
  | 7, _ => exact again7 h n c hn hm q _ x e rfl U B T pB pT cB cT hB hl
  | 8, _ => exact again8 h n c hn hm q _ x e rfl U B T pB pT cB cT hB hbB (by
      have h1 : (bl B).length ≤ 1048576 := hl
      unfold bl at h1; rw [List.length_append] at h1; omega)
  | 9, _ => exact again9 h n c hn hm q _ x e rfl U B T pB pT cB cT hT (by
      have h1 : (sb 9 T.length ++ tl T).length ≤ 1048576 := hl
      have h2 := tz_tl T
      rw [List.length_append] at h1; omega)
end Go.Proofs.Ytmcbeikgdcgdcaa
