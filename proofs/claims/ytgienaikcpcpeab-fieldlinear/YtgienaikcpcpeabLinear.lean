/-
  The walk of FieldLinear.
-/
import Derived.Test.YtgienaikcpcpeabEven
import Derived.Test.YtgienaikcpcpeabScaleb
import Derived.Test.YtgienaikcpcpeabPow
import Derived.Deep.Cut
namespace Go.Proofs.Ytgienaikcpcpeab
open Go.RowKit

theorem bt {u v x : World} (h : Below u.heap.size u v) (k : Below v.heap.size v x) : Below u.heap.size u x := h.trans (k.mono h.size)
theorem el_eqt {a b : BitVec 8} (h : a = b) : (el a == el b) = true := by rw [h]; simp
theorem Rd.cut {w : World} {a : Option Addr} {xs : List (BitVec 8)} (h : Rd w a xs) (n : Nat) : Rd w a (xs.take n) := by
  rcases h with h | ⟨b, o, ha, hc⟩
  · subst h; exact .inl (by simp)
  · refine .inr ⟨b, o, ha, fun i hi => ?_⟩
    have hi' : i < n ∧ i < xs.length := by rw [List.length_take] at hi; omega
    rw [hc i hi'.2]
    congr 3
    simp [List.getD, List.getElem?_take_of_lt hi'.1]
/-- The list of n elements. -/
def ls (f : Nat → BitVec 8) (n : Nat) : List (BitVec 8) := (List.range n).map f
theorem ls_len (f : Nat → BitVec 8) (n : Nat) : (ls f n).length = n := by simp [ls]
theorem ls_get (f : Nat → BitVec 8) (n i : Nat) (h : i < n) : (ls f n).getD i 0#8 = f i := by simp [ls, List.getD, h]
theorem dot_lin {n : Nat} (P Q R : List (BitVec 8)) (hp : P.length = n) (hq : Q.length = n) :
    dot (ls (fun i => P.getD i 0#8 ^^^ Q.getD i 0#8) n) R = dot P R ^^^ dot Q R := by
  unfold dot
  rw [ls_len, hp, hq, ← xs0_xor]
  apply xs0_congr
  intro i hi
  show gm ((ls (fun i => P.getD i 0#8 ^^^ Q.getD i 0#8) n).getD i 0#8) _ = _
  rw [ls_get _ n i hi, gm_xor_l]

theorem Own.rdl {w : World} {t : TypeId} {g : Nat} {f : Nat → BitVec 8} {n : Nat} (h : Own w t g f n) : Rd w (some ⟨g, 0, none⟩) (ls f n) := h.rd
attribute [local irreducible] el gm inv gpow Calls Own Rd dot ls

set_option maxHeartbeats 4000000 in
theorem linear_walk (a1 a2 a3 : Option Addr) (n1 c1 n2 c2 n3 c3 : Nat) (xs ys zs : List (BitVec 8)) (c : BitVec 8) (w : World) (h1 : Rd w a1 xs) (h2 : Rd w a2 ys) (h3 : Rd w a3 zs)
    (hx : xs.length = n1) (hy : ys.length = n2) (hz : zs.length = n3) (hn1 : n1 ≤ c1) (hn2 : n2 ≤ c2) (hn3 : n3 ≤ c3) (hl1 : n1 ≤ 140737488355328) (hl2 : n2 ≤ 140737488355328) (hl3 : n3 ≤ 140737488355328) :
    Calls Try.prog 3 #[.slice a1 n1 c1, .slice a2 n2 c2, .slice a3 n3 c3, .int .u8 (el c)] w fun e w' => e = .returned (.bool true) ∧ Below w.heap.size w w' := by
  obtain ⟨M, hM⟩ : ∃ M, min n1 n2 = M := ⟨_, rfl⟩
  obtain ⟨N, hN⟩ : ∃ N, min M n3 = N := ⟨_, rfl⟩
  obtain ⟨X, hX⟩ : ∃ X, xs.take M = X := ⟨_, rfl⟩
  obtain ⟨Y, hY⟩ : ∃ Y, ys.take M = Y := ⟨_, rfl⟩
  obtain ⟨P, hP⟩ : ∃ P, X.take N = P := ⟨_, rfl⟩
  obtain ⟨Q, hQ⟩ : ∃ Q, Y.take N = Q := ⟨_, rfl⟩
  obtain ⟨R, hR⟩ : ∃ R, zs.take N = R := ⟨_, rfl⟩
  have hXl : X.length = M := by rw [← hX]; simp; omega
  have hYl : Y.length = M := by rw [← hY]; simp; omega
  have hPl : P.length = N := by rw [← hP]; simp; omega
  have hQl : Q.length = N := by rw [← hQ]; simp; omega
  have hRl : R.length = N := by rw [← hR]; simp; omega
  have hNM : N ≤ M := by omega
  have hMl : M ≤ 140737488355328 := by omega
  have hNl : N ≤ 140737488355328 := by omega
  have E1 := fun W h1 h2 => even_any (w := W) (a1 := a1) (a2 := a2) h1 h2 n1 c1 n2 c2 M hx hy hn1 hn2 hl1 hl2 hM X Y hX hY
  have E2 := fun W p k h1 h3 (hk : M ≤ k) => even_any (w := W) (a1 := p) (a2 := a3) h1 h3 M k n3 c3 N hXl hz hk hn3 hMl hl3 hN P R hP hR
  have E1' : Hid _ := E1
  have E2' : Hid _ := E2
  have HX : Hid (Y.take N = Q) := hQ
  have HP : Hid (P.length = N) := hPl
  have HQ : Hid (Q.length = N) := hQl
  have HR : Hid (R.length = N) := hRl
  clear E1 E2 hX hY hP hQ hR hXl hYl hPl hQl hRl hM hN hx hy hz
  go_enter Try.func3, Try.ntmps3
  go_upto_region 2 with (go_at_call 6; refine (E1'.out _ h1 h2).mono ?_; rintro e w1 ⟨p1, k1, p2, k2, rfl, hk1, hk2, hr1, hr2, hb1⟩)
  have h3 := h3.below hb1
  clear h1 h2
  go_upto_region 3 with (go_at_call 6; refine (E2'.out _ _ _ hr1 h3 hk1).mono ?_; rintro e w2 ⟨p3, k3, p4, k4, rfl, hk3, hk4, hr3, hr4, hb2⟩)
  have hr2 := (hr2.below hb2).cut N
  rw [HX.out] at hr2
  have hq : N ≤ k2 := by omega
  go_upto_region 4 with fail
  have HF : Hid (∀ i, i < N → gm ((ls (fun i => P.getD i 0#8 ^^^ Q.getD i 0#8) N).getD i 0#8) c = gm (P.getD i 0#8) c ^^^ gm (Q.getD i 0#8) c) := fun i hi => by rw [ls_get _ N i hi, gm_xor_l]
  have HG : Hid (∀ i, i < N → (ls (fun i => gm (P.getD i 0#8) c) N).getD i 0#8 ^^^ (ls (fun i => gm (Q.getD i 0#8) c) N).getD i 0#8 = gm (P.getD i 0#8) c ^^^ gm (Q.getD i 0#8) c) := fun i hi => by rw [ls_get _ N i hi, ls_get _ N i hi]
  have hD := el_eqt (dot_lin P Q R HP.out HQ.out)
  have LL : ∀ f, Hid ((ls f N).length = N) := fun f => ls_len f N
  go_upto_region 5 with (go_at_call 7; refine (sum_any hr3 hr2 N k3 k2 HP.out HQ.out hNl).mono ?_; rintro e w3 ⟨rfl, hS, hb3⟩)
  have hr3 := hr3.below hb3
  have hr2 := hr2.below hb3
  have hr4 := hr4.below hb3
  go_upto_region 6 with (first | (go_at_call 8; refine (scale_any hr3 c N k3 HP.out hNl).mono ?_; rintro e w4 ⟨g4, rfl, hg4, hO4, hb4⟩; have hr2b := hr2.below hb4) | (go_at_call 8; refine (scale_any hr2b c N k2 HQ.out hNl).mono ?_; rintro e w5 ⟨g5, rfl, hg5, hO5, hb5⟩; have hO4b := (hO4.below hb5).rdl; have hO5b := hO5.rdl) | (go_at_call 7; refine (sum_any hO4b hO5b N N N (LL _).out (LL _).out hNl).mono ?_; rintro e w6 ⟨rfl, hT, hb6⟩))
  have hb46 := bt (bt hb4 hb5) hb6
  have hr3 := hr3.below hb46
  have hr2 := hr2.below hb46
  have hr4 := hr4.below hb46
  have hS := hS.below hb46
  have hSr := hS.rdl
  go_upto_region 7 with (go_at_call 9; refine (dot_any hSr hr4 N N k4 (LL _).out HR.out hNl).mono ?_; rintro e w7 ⟨rfl, hb7⟩)
  have hr3 := hr3.below hb7
  have hr4 := hr4.below hb7
  go_upto_region 8 with (go_at_call 9; refine (dot_any hr3 hr4 N k3 k4 HP.out HR.out hNl).mono ?_; rintro e w8 ⟨rfl, hb8⟩)
  have hb78 := bt hb7 hb8
  have hr2 := hr2.below hb78
  have hr4 := hr4.below hb8
  go_upto_region 9 with (go_at_call 9; refine (dot_any hr2 hr4 N k2 k4 HQ.out HR.out hNl).mono ?_; rintro e w9 ⟨rfl, hb9⟩)
  go_upto_region 11 with (go_at_call 10; refine (awake_any _).mono ?_; rintro e w10 ⟨rfl, hb10⟩)
  have hbX := bt (bt hb78 hb9) hb10
  have hSr := hSr.below hbX
  have hT := (hT.below hbX).congr HG.out
  go_wp2_with (first | (go_at_call 8; refine (scale_any hSr c N N (LL _).out hNl).mono ?_; rintro e w11 ⟨g11, rfl, hg11, hO11, hb11⟩; have hA := (hO11.congr HF.out).rdl; have hB := (hT.below hb11).rdl) | (go_at_call 11; refine (same_any hA hB N N N (LL _).out hNl).mono ?_; rintro e w12 ⟨rfl, hb12⟩) | (go_at_call 12; refine (plus_any _ _ _).mono ?_; rintro e w' ⟨rfl, rfl⟩))
  go_ret
  exact ⟨congrArg (fun b => Ending.returned (Value.bool b)) hD, bt (bt (bt (bt (bt (bt hb1 hb2) hb3) hb46) hbX) hb11) hb12⟩
end Go.Proofs.Ytgienaikcpcpeab
