/-
  Bytes as strings (seat aa).
-/
import Derived.Test.YtcfjinpjijcheaaNm27
import Derived.Laws.IdiomStrings
import Derived.Laws.Strings
namespace Go.Proofs.Ytcfjinpjijcheaa
open Go.RowKit
def us (xs : List Nat) : List UInt8 := xs.map UInt8.ofNat
def bstr (xs : List Nat) : ByteArray := ⟨(us xs).toArray⟩
theorem us_len (xs : List Nat) : (us xs).length = xs.length := by simp [us]
theorem us_at {xs : List Nat} (h : ∀ x ∈ xs, x < 256) (j : Nat) (hj : j < (us xs).length) : ((us xs)[j].toNat : Int) = ((xs.getD j 0 : Nat) : Int) := by
  have h' : j < xs.length := by rw [us_len] at hj; exact hj
  have e : (us xs)[j] = UInt8.ofNat (xs.getD j 0) := by simp [us, List.getD, h']
  have := h _ (List.getElem_mem h')
  rw [e, show xs.getD j 0 = xs[j] by simp [List.getD, h']]
  simp
  omega
theorem bstr_beq (xs : List Nat) : ((bstr xs).toList == (bstr xs).toList) = true := by simp
theorem und5 : Try.prog.underlying 5 = some (.int .u8) := Try.underlying5
theorem undS : Try.prog.underlying 9 = some .string := Try.underlying9
theorem conv_rd {w : World} {p : Option Addr} {xs : List Nat} (h : Vr w p (bc xs)) (h2 : ∀ x ∈ xs, x < 256) (n c : Nat) (hn : xs.length = n) : (convert 34 9 (.slice p n c)).run Try.prog w = .ok (.string (bstr xs)) w := by
  subst hn
  by_cases h0 : xs = []
  · subst h0
    cases p with
    | none =>
      rw [show ([] : List Nat).length = 0 from rfl, run_convert_bytes_string w 34 9 5 none 0 c Try.underlying34 und5 undS]
      simp [Conv.bytesToString, bstr, us]
      first | rfl | skip
    | some a =>
      have := run_convert_bytes_back (P := Try.prog) w 34 9 5 a c (us []) Try.underlying34 und5 undS (fun j hj => by simp [us] at hj)
      rw [us_len] at this
      exact this
  · have hne : bc xs ≠ [] := by
      intro e
      have := bc_len xs
      rw [e] at this
      exact h0 (List.length_eq_zero_iff.1 this.symm)
    obtain ⟨b, o, rfl, hc⟩ := h.resolve_left hne
    have hb : ∀ j (hj : j < (us xs).length), w.cell? ((⟨b, o, none⟩ : Addr).add j) = some (.int .u8 ((us xs)[j].toNat : Int)) := fun j hj => by
      have hjn : j < xs.length := by rw [us_len] at hj; exact hj
      rw [add_pl, us_at h2]
      exact hc j _ (bc_at xs j hjn)
    have := run_convert_bytes_back (P := Try.prog) w 34 9 5 ⟨b, o, none⟩ c (us xs) Try.underlying34 und5 undS hb
    rw [us_len] at this
    exact this
end Go.Proofs.Ytcfjinpjijcheaa
