/-
  MatrixPoints: what its calls answer there.
-/
import Derived.Test.YtchmggehbajebabKw
import Derived.Test.YtchmggehbajebabUl
import Derived.Test.YtchmggehbajebabMr
import Derived.Test.YtchmggehbajebabKq
namespace Go.Proofs.Ytchmggehbajebab
open Go.RowKit
theorem pigeon (n : Nat) : ∀ (L : List Int), L.Nodup → (∀ x, x ∈ L → 0 ≤ x ∧ x < n) → L.length ≤ n := by
  induction n with
  | zero =>
    intro L _ h
    cases L with
    | nil => exact Nat.le_refl _
    | cons a t => have := h a (List.mem_cons_self ..); omega
  | succ n ih =>
    intro L hn h
    have h1 := ih (L.erase (n : Int)) (hn.erase _) (fun x hx => by
      rw [hn.mem_erase_iff] at hx
      have := h x hx.2
      have := hx.1
      omega)
    have h2 := List.length_erase (a := (n : Int)) (l := L)
    by_cases e : (n : Int) ∈ L
    · rw [if_pos (by simpa using e)] at h2; omega
    · rw [if_neg (by simpa using e)] at h2; omega
theorem pwk_po (x : BitVec 8) (j : Nat) : pwk tiE x 1#8 j = po fdE x j := by
  induction j with
  | zero => rfl
  | succ j ih => rw [pwk_succ, ih]; rfl
theorem pc_ok {m n : Nat} (hm : m ≤ 255) (hn : n ≤ 255) : pc (m : Int) n = 0 := by unfold pc; rw [if_neg (by omega), if_neg (by omega), if_neg (by omega)]
theorem NmE.congr {w : World} {v : Value} {r : Nat} {l : Nat → Nat} {N N' : Nat → Nat → BitVec 8} (h : NmE w v r l N) (e : ∀ i, i < r → ∀ j, j < l i → N i j = N' i j) : NmE w v r l N' := by
  obtain ⟨rows, h1, h2⟩ := h
  exact ⟨rows, h1, fun i hi => Sv.congr (h2 i hi) (fun j hj => by unfold clE; rw [e i hi j hj])⟩
theorem powers_pts {w : World} {v : Value} {n m : Nat} {f : Nat → BitVec 8} (h : NrE w v n f) (hn : n ≤ 255) (hm : m ≤ 255) :
    Calls Try.prog 21 #[v, .int .i64 (m : Int), .int .u8 (el 1#8)] w fun e w' => ∃ v', e = .returned (.tuple #[v', .int .i64 0]) ∧ NmE w' v' n (fun _ => m) (fun i j => po fdE (f i) j) ∧ Below w.heap.size w w' := by
  have h1 := powersE_any h (m : Int) 1#8
  rw [pc_ok hm hn, show pn (m : Int) n = n by unfold pn; rw [pc_ok hm hn, if_pos rfl], Int.toNat_natCast] at h1
  exact h1.mono fun e w' ⟨v', he, hN, hb⟩ => ⟨v', he, hN.congr (fun i _ j _ => pwk_po _ _), hb⟩
theorem fc_const {n m : Nat} (hn : n ≤ 255) (hm : m ≤ 255) : fc n (fun _ => m) = 0 := fc_ok (by omega) (fun k _ => by omega) (fun k _ => rfl)
theorem cw_const {n m : Nat} (h : m ≤ n) : cw n (fun _ => m) = m := by unfold cw; by_cases e : n = 0; rw [if_pos e]; omega; rw [if_neg e]
theorem rows_pts {w : World} {v1 v2 : Value} {n m : Nat} {N : Nat → Nat → BitVec 8} {f : Nat → Int} (h1 : NmE w v1 n (fun _ => m) N) (h2 : Jr w v2 m f) (hn : n ≤ 255) (hm : m ≤ n) (hf : ∀ i, i < m → 0 ≤ f i ∧ f i < n) :
    Calls Try.prog 24 #[v1, v2] w fun e w' => ∃ v, e = .returned (.tuple #[v, .int .i64 0]) ∧ NmE w' v m (fun _ => m) (fun i j => N (f i).toNat j) ∧ Below w.heap.size w w' := by
  have hc : rc n (fun _ => m) m f = 0 := rc_ok (fc_const hn (by omega)) (by omega) (fun k hk => by
    have := hf k hk
    unfold bad
    have e1 : decide (f k < 0) = false := by simp; omega
    have e2 : decide ((n : Int) ≤ f k) = false := by simp; omega
    rw [e1, e2]; rfl)
  have h := rowsE_any h1 h2
  rw [hc, rn_ok hc, cw_const hm] at h
  exact h
theorem vand_pts {m : Nat} {x : Nat → BitVec 8} (hx : ∀ i, i < m → ∀ j, j < m → i ≠ j → x i ≠ x j) : ∀ y : Nat → BitVec 8, (∀ i, i < m → sm fdE (fun j => fdE.ti (po fdE (x i) j) (y j)) m = fdE.oo) → ∀ j, j < m → y j = fdE.oo := fun y hy =>
  vander m x y hx (fun i hi => by
    rw [← hy i hi]
    exact sm_congr (fun j _ => fdE.ti_comm _ _))
theorem rank_pts {w : World} {v : Value} {m : Nat} {S : Nat → Nat → BitVec 8} (h : NmE w v m (fun _ => m) S) (hm : m ≤ 255) (hS : ∀ y : Nat → BitVec 8, (∀ i, i < m → sm fdE (fun j => fdE.ti (S i j) (y j)) m = fdE.oo) → ∀ j, j < m → y j = fdE.oo) :
    Calls Try.prog 25 #[v] w fun e w' => e = .returned (.tuple #[.int .i64 (m : Int), .int .i64 0]) ∧ Has m S ∧ Below w.heap.size w w' := by
  refine (rank_any h (fc_const hm hm)).mono fun e w' ⟨d, A, N, E, F, pv, he, hE, hA, hb⟩ => ?_
  rw [cw2] at hE hA
  have hd : d = m := hE.all hA hS
  subst hd
  exact ⟨he, hE.left hA, hb⟩
theorem times_pts {w : World} {v1 v2 : Value} {m : Nat} {S X : Nat → Nat → BitVec 8} (h1 : NmE w v1 m (fun _ => m) S) (h2 : NmE w v2 m (fun _ => m) X) (hm : m ≤ 255) (hI : ∀ i, i < m → ∀ j, j < m → mm fdE m S X i j = dl fdE i j) :
    Calls Try.prog 27 #[v1, v2] w fun e w' => ∃ v, e = .returned (.tuple #[v, .int .i64 0]) ∧ NmE w' v m (fun _ => m) (fun i j => dl fdE i j) ∧ Below w.heap.size w w' := by
  have h := timesE_new h1 h2 (tc2 m hm)
  rw [cw2] at h
  exact h.mono fun e w' ⟨v, he, hG, hb⟩ => ⟨v, he, (GxE.nm hG).congr (fun i hi j hj => by rw [skk_mm, hI i hi j hj]), hb⟩
theorem elem_one (w : World) : Calls Try.prog 23 #[.int .i64 1] w fun e w' => e = .returned (.int .u8 (el 1#8)) ∧ w' = w := elem_any 1#8 w
/-- Ints below 256 as elements. -/
theorem nuE_list (L : List Int) (h : ∀ x, x ∈ L → 0 ≤ x ∧ x < 256) : ∃ g : Nat → BitVec 8, ∀ j, j < L.length → nuE (g j) = L.getD j 0 :=
  ⟨fun j => (nuE_sur (L.getD j 0)).choose, fun j hj => by
    rw [(nuE_sur (L.getD j 0)).choose_spec]
    have hm : L.getD j 0 ∈ L := by
      rw [List.getD_eq_getElem?_getD, List.getElem?_eq_getElem hj]; exact List.getElem_mem hj
    have := h _ hm
    omega⟩
theorem getD_inj {L : List Int} (hN : L.Nodup) {i j : Nat} (hi : i < L.length) (hj : j < L.length) (hne : i ≠ j) : L.getD i 0 ≠ L.getD j 0 := by
  rw [List.getD_eq_getElem?_getD, List.getD_eq_getElem?_getD, List.getElem?_eq_getElem hi, List.getElem?_eq_getElem hj]
  intro e
  have e2 : L[i] = L[j] := e
  rcases Nat.lt_or_ge i j with h | h
  · exact (List.pairwise_iff_getElem.1 hN i j hi hj h) e2
  · exact (List.pairwise_iff_getElem.1 hN j i hj hi (by omega)) e2.symm
theorem getD_mem {L : List Int} {j : Nat} (hj : j < L.length) : L.getD j 0 ∈ L := by
  rw [List.getD_eq_getElem?_getD, List.getElem?_eq_getElem hj]; exact List.getElem_mem hj
/-- The points that are picked are unlike. -/
theorem picked {L L2 : List Int} (hN : L.Nodup) (hN2 : L2.Nodup) {g : Nat → BitVec 8} (hg : ∀ j, j < L.length → nuE (g j) = L.getD j 0) {q : Nat} (hq : q ≤ L.length) (h2 : ∀ j, j < L2.length → 0 ≤ L2.getD j 0 ∧ L2.getD j 0 < q) :
    ∀ i, i < L2.length → ∀ j, j < L2.length → i ≠ j → g (L2.getD i 0).toNat ≠ g (L2.getD j 0).toNat := by
  intro i hi j hj hne e
  have a := h2 i hi
  have b := h2 j hj
  have c := getD_inj hN2 hi hj hne
  refine getD_inj hN (i := (L2.getD i 0).toNat) (j := (L2.getD j 0).toNat) (by omega) (by omega) (by omega) ?_
  rw [← hg _ (by omega), ← hg _ (by omega), e]
theorem owns_jr {w : World} {base : Nat} {v : Value} {L : List Int} (h : w.ownsRow base 3 1 v L.length (ivs L)) : Jr w v L.length (fun j => L.getD j 0) := by
  rw [ivs_lv] at h
  exact (own_ir h).jr
/-- The first q of them. -/
theorem jr_cut {w : World} {p : Option Addr} {n c q : Nat} {f : Nat → Int} (h : Jr w (.slice p n c) n f) (hq : q ≤ n) : Jr w (.slice p q c) q f := by
  obtain ⟨p', c', e, h⟩ := h
  injection e with e1 e2 e3
  subst e1 e3
  refine ⟨_, _, rfl, ?_⟩
  rcases h with h | ⟨b, o, e, hc⟩
  · exact .inl (by omega)
  · exact .inr ⟨b, o, e, fun i hi => hc i (by omega)⟩
end Go.Proofs.Ytchmggehbajebab
