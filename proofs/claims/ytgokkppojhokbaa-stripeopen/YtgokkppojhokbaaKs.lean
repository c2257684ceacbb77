/-
  Rows of bytes as strings.
-/
import Derived.Test.YtgokkppojhokbaaKz
import Derived.Laws.IdiomStrings
import Derived.Laws.Strings
namespace Go.Proofs.Ytgokkppojhokbaa
open Go.RowKit
/-- Bytes as a string has them. -/
def us (xs : List (BitVec 8)) : List UInt8 := xs.map (fun b => UInt8.ofNat b.toNat)
def bstr (xs : List (BitVec 8)) : ByteArray := ⟨(us xs).toArray⟩
theorem us_len (xs : List (BitVec 8)) : (us xs).length = xs.length := by simp [us]
theorem us_at (xs : List (BitVec 8)) (j : Nat) (hj : j < (us xs).length) : ((us xs)[j].toNat : Int) = el (xs.getD j 0#8) := by
  have h' : j < xs.length := by rw [us_len] at hj; exact hj
  have e : (us xs)[j] = UInt8.ofNat (xs.getD j 0#8).toNat := by simp [us, List.getD, h']
  have := (xs.getD j 0#8).isLt
  rw [e]
  unfold el
  simp
theorem u8_inj {a b : BitVec 8} (h : UInt8.ofNat a.toNat = UInt8.ofNat b.toNat) : a = b := by
  apply BitVec.eq_of_toNat_eq
  have h1 := congrArg UInt8.toNat h
  simpa using h1
theorem us_inj {xs ys : List (BitVec 8)} (h : us xs = us ys) : xs = ys := by
  induction xs generalizing ys with
  | nil => cases ys with
    | nil => rfl
    | cons y ys => simp [us] at h
  | cons x xs ih => cases ys with
    | nil => simp [us] at h
    | cons y ys =>
      simp only [us, List.map_cons, List.cons.injEq] at h
      rw [u8_inj h.1, ih h.2]
theorem bstr_inj {xs ys : List (BitVec 8)} (h : bstr xs = bstr ys) : xs = ys := by
  unfold bstr at h
  injection h with h
  exact us_inj (List.toArray_inj h)
theorem bstr_eq (xs ys : List (BitVec 8)) : (bstr xs = bstr ys) = (xs = ys) := propext ⟨bstr_inj, fun h => by rw [h]⟩
theorem bstr_toList (xs : List (BitVec 8)) : (bstr xs).toList = us xs := by rw [ByteArray.toList_eq]; rfl
theorem bstr_beq (xs ys : List (BitVec 8)) : ((bstr xs).toList == (bstr ys).toList) = decide (xs = ys) := by
  rw [bstr_toList, bstr_toList]
  by_cases e : xs = ys
  · rw [e, decide_eq_true rfl]; simp
  · rw [decide_eq_false e]
    have : ¬ us xs = us ys := fun h => e (us_inj h)
    simp [this]
theorem und5N : Try.prog.underlying 5 = some (.int .u8) := Try.underlying5
theorem undSN : Try.prog.underlying 9 = some .string := Try.underlying9
theorem conv_rd {w : World} {p : Option Addr} {xs : List (BitVec 8)} (h : Rd w p xs) (n c : Nat) (hn : xs.length = n) : (convert 23 9 (.slice p n c)).run Try.prog w = .ok (.string (bstr xs)) w := by
  subst hn
  cases p with
  | none =>
    have h0 : xs = [] := by
      rcases h with h | ⟨b, o, e, _⟩
      · exact h
      · cases e
    subst h0
    rw [show ([] : List (BitVec 8)).length = 0 from rfl, run_convert_bytes_string w 23 9 5 none 0 c Try.underlying23 und5N undSN]
    simp [Conv.bytesToString, bstr, us]
    first | rfl | skip
  | some a =>
    have hb : ∀ j (hj : j < (us xs).length), w.cell? (a.add j) = some (.int .u8 ((us xs)[j].toNat : Int)) := fun j hj => by
      have hjn : j < xs.length := by rw [us_len] at hj; exact hj
      rcases h with h | ⟨b, o, e, hc⟩
      · subst h; simp at hjn
      · injection e with e
        subst e
        rw [add_plN, hc j hjn, us_at]
    have := run_convert_bytes_back (P := Try.prog) w 23 9 5 a c (us xs) Try.underlying23 und5N undSN hb
    rw [us_len] at this
    exact this
/-- The beginning of a row. -/
theorem Rd.take {w : World} {p : Option Addr} {xs : List (BitVec 8)} (h : Rd w p xs) (m : Nat) : Rd w p (xs.take m) := by
  rcases h with h | ⟨b, o, e, hc⟩
  · subst h; exact .inl (by simp)
  · refine .inr ⟨b, o, e, fun i hi => ?_⟩
    have h1 : i < xs.length := by rw [List.length_take] at hi; omega
    have h2 : i < m := by rw [List.length_take] at hi; omega
    rw [hc i h1]
    simp [List.getD, h2]
end Go.Proofs.Ytgokkppojhokbaa
