/-
  PolyThroughBack: the ten ways, put together.
-/
import Derived.Test.YtpjebfcdjhcfnabBackN
namespace Go.Proofs.Ytpjebfcdjhcfnab
open Go.RowKit

theorem polyThroughBack_walk {w : World} {va vb vc : Value} {xs ps ys : List (BitVec 8)} (ha : Sr w va xs) (hps : Sr w vb ps) (hc : Sr w vc ys) (n1 : xs.length ≤ 140737488351232) (n2 : ps.length ≤ 140737488351232) (n3 : ys.length ≤ 140737488351232) :
    Calls Try.prog 5 #[va, vb, vc] w fun e w' => e = .returned (.bool true) ∧ Below w.heap.size w w' := by
  have nd : (trim xs).length ≤ 140737488351232 := Nat.le_trans (trim_len xs) n1
  have hD : Hid ((trim xs).length = (trim xs).length) := (rfl : (trim xs).length = (trim xs).length)
  have hY : Hid (ys.length = ys.length) := (rfl : ys.length = ys.length)
  by_cases p0 : ps = []
  · subst p0
    by_cases y0 : ys = []
    · subst y0
      rcases Nat.lt_or_ge 0 (trim xs).length with h | h
      · exact back_X0y0_cut ha hps hc n1 _ hD nd h
      · exact back_X0y0_keep ha hps hc n1 _ hD nd h
    · have yp := List.length_pos_iff.2 y0
      rcases Nat.lt_or_ge 0 (trim xs).length with h | h
      · exact back_X0y1_cut ha hps hc n1 n3 _ hY yp n3 _ hD nd h
      · exact back_X0y1_keep ha hps hc n1 n3 _ hY yp n3 _ hD nd h
  · obtain ⟨u, hu⟩ : ∃ u, onc ps ps.length = u := ⟨_, rfl⟩
    have up : 0 < u.length := by rw [← hu]; exact onc_ne p0
    have un : u.length ≤ 140737488351232 := by rw [← hu]; exact Nat.le_trans (onc_len _ _) n2
    have hU : Hid (u.length = u.length) := (rfl : u.length = u.length)
    by_cases y0 : ys = []
    · subst y0
      rcases Nat.lt_or_ge u.length (trim xs).length with h | h
      · exact back_X1_cut ha hps hc n1 n2 hu p0 _ hU up un _ hD nd h
      · exact back_X1_keep ha hps hc n1 n2 hu p0 _ hU up un _ hD nd h
    · have yp := List.length_pos_iff.2 y0
      rcases Nat.lt_or_ge u.length (trim xs).length with h | h
      · rcases Nat.lt_or_ge u.length ys.length with g | g
        · exact back_X2_cut ha hps hc n1 n2 hu p0 _ hU up un n3 _ hY yp n3 _ hD nd h g
        · exact back_X3_cut ha hps hc n1 n2 hu p0 _ hU up un n3 _ hY yp n3 _ hD nd h g
      · rcases Nat.lt_or_ge u.length ys.length with g | g
        · exact back_X2_keep ha hps hc n1 n2 hu p0 _ hU up un n3 _ hY yp n3 _ hD nd h g
        · exact back_X3_keep ha hps hc n1 n2 hu p0 _ hU up un n3 _ hY yp n3 _ hD nd h g
end Go.Proofs.Ytpjebfcdjhcfnab
