/-
  'ask', every call.
-/
import Derived.Test.YtmcbeikgdcgdcaaAsA
import Derived.Test.YtmcbeikgdcgdcaaAsB
import Derived.Test.YtmcbeikgdcgdcaaAsC
namespace Go.Proofs.Ytmcbeikgdcgdcaa
open Go.RowKit
theorem ask_any {w : World} {r : Nat} {bs : List (BitVec 8)} {f : Int} (h : Rdr w r bs f) (hl : bs.length ≤ 1099511627000) (hf : 0 ≤ f ∧ f < 1000) (q kk n e : Int) (hn : n ≤ 9223372036854775807) (he : e ≤ 9223372036854775807) :
    Calls Try.prog 33 #[.pointer (some ⟨r, 0, none⟩), .agg #[.int .i64 q, .int .i64 kk, .int .i64 n, .int .i64 e]] w fun e' w' => Askd w r (asks (kk % 13).toNat n e bs f) e' w' := by
  have h1 := Int.emod_nonneg kk (by omega : (13 : Int) ≠ 0)
  have h2 := Int.emod_lt_of_pos kk (by omega : (0 : Int) < 13)
  obtain ⟨m, hm⟩ := Int.eq_ofNat_of_zero_le h1
  have hm2 : m < 13 := by omega
  rw [hm, Int.toNat_natCast]
  match m, hm2, hm with
  | 0, _, hm => exact ask0 h hl hf q kk n e hn he hm
  | 1, _, hm => exact ask1 h hl hf q kk n e hn he hm
  | 2, _, hm => exact ask2 h hl hf q kk n e hn he hm
  | 3, _, hm => exact ask3 h hl hf q kk n e hn he hm
  | 4, _, hm => exact ask4 h hl hf q kk n e hn he hm
  | 5, _, hm => exact ask5 h hl hf q kk n e hn he hm
  | 6, _, hm => exact ask6 h hl hf q kk n e hn he hm
  | 7, _, hm => exact ask7 h hl hf q kk n e hn he hm
  | 8, _, hm => exact ask8 h hl hf q kk n e hn he hm
  | 9, _, hm => exact ask9 h hl hf q kk n e hn he hm
  | 10, _, hm => exact ask10 h hl hf q kk n e hn he hm
  | 11, _, hm => exact ask11 h hl hf q kk n e hn he hm
  | 12, _, hm => exact ask12 h hl hf q kk n e hn he hm
end Go.Proofs.Ytmcbeikgdcgdcaa
