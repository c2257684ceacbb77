/-
  Stripe: the bytes of some stripes are a part of the object: mathematics for Piece.
-/
import Derived.Test.YtkngfeciobalmaaSb10
import Derived.Test.YtkngfeciobalmaaBl10
import Derived.Test.YtkngfeciobalmaaAo10
namespace Go.Proofs.Ytkngfeciobalmaa
theorem obm_drop (k : Nat) : ∀ (f : Nat) (L : List Nat) (N : Nat → Nat → BitVec 8) (p : Nat), obm k L N (k * (L.take f).sum + p) = obm k (L.drop f) (fun i c => N i ((L.take f).sum + c)) p
  | 0, L, N, p => by simp
  | f + 1, [], N, p => by simp [obm]
  | f + 1, l :: ls, N, p => by
    rw [List.take_succ_cons, List.sum_cons, List.drop_succ_cons]
    show (if k * (l + (ls.take f).sum) + p < k * l then _ else obm k ls (fun i c => N i (l + c)) (k * (l + (ls.take f).sum) + p - k * l)) = _
    rw [Nat.mul_add, if_neg (by omega), show k * l + k * (ls.take f).sum + p - k * l = k * (ls.take f).sum + p by omega, obm_drop k f ls (fun i c => N i (l + c)) p]
    congr 1
    funext i c
    rw [Nat.add_assoc]
theorem obm_take (k : Nat) : ∀ (t : Nat) (L : List Nat) (N : Nat → Nat → BitVec 8) (p : Nat), p < k * (L.take t).sum → obm k (L.take t) N p = obm k L N p
  | 0, L, N, p, h => by simp at h
  | t + 1, [], N, p, h => by simp at h
  | t + 1, l :: ls, N, p, h => by
    rw [List.take_succ_cons] at h ⊢
    show (if p < k * l then N (p / l) (p % l) else obm k (ls.take t) (fun i c => N i (l + c)) (p - k * l)) = (if p < k * l then N (p / l) (p % l) else obm k ls (fun i c => N i (l + c)) (p - k * l))
    by_cases h1 : p < k * l
    · rw [if_pos h1, if_pos h1]
    · rw [if_neg h1, if_neg h1]
      exact obm_take k t ls (fun i c => N i (l + c)) (p - k * l) (by rw [List.sum_cons, Nat.mul_add] at h; omega)
/-- The bytes of the stripes from f to t. -/
theorem obm_sub (k : Nat) (L : List Nat) (N : Nat → Nat → BitVec 8) (f t p : Nat) (h : p < k * (sub L f t).sum) : obm k (sub L f t) (fun i c => N i ((L.take f).sum + c)) p = obm k L N (k * (L.take f).sum + p) := by
  unfold sub at h ⊢
  rw [obm_take k (t - f) (L.drop f) _ p h, obm_drop]
end Go.Proofs.Ytkngfeciobalmaa
/-
  Stripe: where a piece lies: the numbers for Piece.
-/
namespace Go.Proofs.Ytkngfeciobalmaa
/-- Where x bytes from off on lie, in plain numbers. -/
structure Pc (N K B : Nat) (L : List Nat) (off x f t s z : Nat) : Prop where
  ft : f < t
  tl : t ≤ L.length
  af : K * (L.take f).sum = f * (K * B)
  os : f * (K * B) + s = off
  sz : s < K * B
  ze : z + f * (K * B) = min N (t * (K * B))
  zn : z ≤ N
  sx : s + x ≤ z
  zc : z ≤ K * (sub L f t).sum
  p0 : 0 < (sub L f t).sum
theorem pc_of {h : Hd} {N K M B : Nat} {L : List Nat} (u : h.Nu N K M B L) (off x : Nat) (hx : 1 ≤ x) (ho : off + x ≤ N) :
    Pc N K B L off x (off / (K * B)) ((off + x - 1) / (K * B) + 1) (off % (K * B)) (min N (((off + x - 1) / (K * B) + 1) * (K * B)) - off / (K * B) * (K * B)) := by
  have hk := u.k1
  have hb := u.b1
  have hs : 1 ≤ K * B := Nat.mul_pos (show 0 < K by omega) (show 0 < B by omega)
  obtain ⟨S, hS⟩ : ∃ S, S = K * B := ⟨_, rfl⟩
  obtain ⟨f, hf⟩ : ∃ f, f = off / S := ⟨_, rfl⟩
  obtain ⟨r, hr⟩ : ∃ r, r = off % S := ⟨_, rfl⟩
  obtain ⟨t, ht⟩ : ∃ t, t = (off + x - 1) / S + 1 := ⟨_, rfl⟩
  have e1 : f * S + r = off := by rw [hf, hr]; exact Nat.div_add_mod' off S
  have r1 : r < S := by rw [hr, hS]; exact Nat.mod_lt _ hs
  have e2 : (t - 1) * S ≤ off + x - 1 := by rw [ht]; exact Nat.div_mul_le_self _ _
  have e3 : off + x - 1 < t * S := by
    rw [ht, Nat.mul_comm]
    exact Nat.lt_mul_div_succ _ (by omega)
  have ft : f < t := by
    have := Nat.div_le_div_right (c := S) (show off ≤ off + x - 1 by omega)
    rw [← hf] at this
    omega
  have hct := bls_count K (K * B) hs N N (Nat.le_refl _)
  rw [← u.l, ← hS] at hct
  have tl : t ≤ L.length := by
    have h1 : (t - 1) * S < L.length * S := by omega
    have := Nat.lt_of_mul_lt_mul_right h1
    omega
  have tk := fun j (hj : j < L.length) => bls_take K B (by omega) (by omega) N N j (Nat.le_refl _) (by rw [← u.l]; exact hj)
  have af := (tk f (by omega)).1
  rw [← u.l] at af
  have aK : K * (L.take f).sum = f * S := by rw [af, hS, Nat.mul_left_comm]
  have fS : f * S ≤ t * S := Nat.mul_le_mul_right S (by omega)
  have sm := take_sub L f t (t - f) (Nat.le_refl _)
  rw [show f + (t - f) = t by omega, List.take_of_length_le (l := sub L f t) (by rw [sub_len L f t tl]; exact Nat.le_refl _)] at sm
  have kt : min N (t * S) ≤ K * (L.take t).sum := by
    rcases Nat.lt_or_ge t L.length with h1 | h1
    · have h2 := (tk t h1).1
      rw [← u.l] at h2
      have h3 : K * (L.take t).sum = t * S := by rw [h2, hS, Nat.mul_left_comm]
      rw [h3]; exact Nat.min_le_right _ _
    · obtain rfl : t = L.length := by omega
      rw [List.take_length]
      exact Nat.le_trans (Nat.min_le_left _ _) u.c
  rw [sm, Nat.mul_add, aK] at kt
  rw [← hS, ← hf, ← hr, ← ht]
  have zc : min N (t * S) - f * S ≤ K * (sub L f t).sum := by omega
  have sx : r + x ≤ min N (t * S) - f * S := by omega
  exact ⟨ft, tl, by rw [← hS]; exact aK, by rw [← hS]; exact e1, by rw [← hS]; exact r1, by rw [← hS]; omega, by omega, sx, zc, by
    rcases Nat.eq_zero_or_pos (sub L f t).sum with h0 | h0
    · rw [h0, Nat.mul_zero] at zc; omega
    · exact h0⟩
end Go.Proofs.Ytkngfeciobalmaa
/-
  Stripe: the stripes of a piece; slices.Clone.
-/
namespace Go.Proofs.Ytkngfeciobalmaa
open Go.RowKit
/-- The bytes of the stripes in which a piece lies. -/
theorem Obs.part {w : World} {p : Option Addr} {c : Nat} {hs : Nat → Hd} {vs : Nat → Value} {m : Hd} {n K M B : Nat} {L : List Nat} {F D : Nat → Nat → BitVec 8} (h : Obs w (.slice p (K + M) c) hs vs m n K M B L F D) {off x f t s z : Nat} (pc : Pc n K B L off x f t s z) :
    Calls Try.prog 26 #[.agg m.cs, .slice p (K + M) c, .int .i64 (f : Int), .int .i64 (t : Int)] w fun e w' => ∃ g, e = .returned (.slice (some ⟨g, 0, none⟩) z z) ∧ NrE w' (.slice (some ⟨g, 0, none⟩) z z) z (fun j => obm K L D (f * (K * B) + j)) ∧ Below w.heap.size w w' := by
  have ze := pc.ze
  have hz : min (n : Int) ((t : Int) * ((K : Int) * (B : Int))) - (f : Int) * ((K : Int) * (B : Int)) = (z : Int) := by
    rw [← Int.natCast_mul, ← Int.natCast_mul, ← Int.natCast_mul]
    generalize t * (K * B) = a at *
    generalize f * (K * B) = b at *
    omega
  refine (stripes_ok m n K M B L h.sds h.hin h.sz h.nu h.z1 h.z2 F D h.fac (fun i hi ht => (h.all i hi ht).2) h.val h.cnt f t pc.ft pc.tl pc.p0 z hz pc.zn).mono fun e w' ⟨g, he, hO, hg, hb⟩ => ⟨g, he, ?_, hb⟩
  have hN := obt_nr hO pc.zc
  refine Sv.congr hN (fun j hj => ?_)
  unfold clE
  rw [obm_sub K L D f t j (Nat.lt_of_lt_of_le hj pc.zc), pc.af]
theorem eql_som10 (a : Addr) (n c : Nat) (W : World) : (binOp .eql 23 (.slice (some a) n c) (.slice none 0 0)).run Try.prog W = .ok (.bool false) W := by
  simp [binOp, run_equal_slice_nil _ 23 5 (some a) n c Try.underlying23]
section
attribute [local irreducible] Calls NrE ls Ow
set_option maxHeartbeats 4000000 in
set_option maxRecDepth 1000000 in
theorem clone10 {w : World} {a : Addr} {n c : Nat} {f : Nat → BitVec 8} (h : NrE w (.slice (some a) n c) n f) (hn : n ≤ 140737488355328) :
    Calls Try.prog 27 #[.slice (some a) n c] w fun e w' => ∃ q d, e = .returned (.slice q n d) ∧ NrE w' (.slice q n d) n f ∧ Below w.heap.size w w' := by
  have es := fun a n c => eql_som10 a n c w
  have al : ∀ (W : World) (o : Obj), Below W.heap.size W (W.alloc o) := fun W o => (Below.refl _ _).alloc (Nat.le_refl _) o
  have o1 := Ow.made w 0 (by omega)
  have hr := (show Hid (Rd _ (some a) (ls f n)) from nr_rd (NrE.below h (al w (.cells (Array.replicate 0 (.int .u8 0)) 5))))
  have hl : (ls f n).length = n := ls_len f n
  go_enter Try.func27, Try.ntmps27
  go_wp2_with (at_builtin; refine wpList_apa rfl (.tmp 5) (.tmp 6) rfl w.heap.size _ [] rfl o1 (some a) n c (ls f n) rfl hr.out hl (by simp; omega) (al _ _).size ?_; intro v1 w1 ho1 hg1 hk1)
  go_ret
  rw [List.nil_append] at ho1
  obtain ⟨⟨q, d, rfl⟩, hN⟩ := ow_nr ho1
  exact ⟨_, _, rfl, hN, o1.below_append (al _ _) (al _ _).size hg1 (Nat.le_refl _)⟩
end
end Go.Proofs.Ytkngfeciobalmaa
/-
  Stripe: Piece, where a range has bytes.
-/
namespace Go.Proofs.Ytkngfeciobalmaa
open Go.RowKit
theorem wh_nat {k m b : Int} {N K B : Nat} (hk : k = (K : Int)) (hb : b = (B : Int)) (hz : szC k m b (N : Int) = 0) (off n : Nat) (hn : 1 ≤ n) (ho : off < N) :
    whR k m b (N : Int) (off : Int) (n : Int) = ⟨((off / (K * B) : Nat) : Int), (((off + min n (N - off) - 1) / (K * B) + 1 : Nat) : Int), ((off % (K * B) : Nat) : Int), 0⟩ := by
  unfold whR
  rw [if_neg (not_not_intro hz), if_neg (by omega), if_neg (by omega), hk, hb, ← Int.natCast_mul]
  have e : (off : Int) + min (n : Int) ((N : Int) - (off : Int)) - 1 = ((off + min n (N - off) - 1 : Nat) : Int) := by omega
  rw [e, ← Int.natCast_ediv, ← Int.natCast_ediv, ← Int.natCast_emod]
  rfl
theorem run_frontb (g o s c l : Nat) (p : Option Addr) (hp : p = some ⟨g, o, none⟩) (hl : l ≤ s) (hc : s ≤ c) (h0 : 0 < l) : ∃ c', (∀ w', (Instr.slice 23 (.slice p s c) none (some (.int .i64 (l : Int))) none).run Try.prog w' = .ok (.slice p l c') w') := by
  subst hp
  have hu : Try.prog.underlying 23 = some (.slice (Try.prog.elem 23)) := by kernel_rfl
  have hz : ∀ w', (sizeOf (Try.prog.elem 23)).run Try.prog w' = .ok 1 w' := fun w' => by
    obtain ⟨i0, hi, hz0, hz1, hz2⟩ := info_parts info5
    have e : Try.prog.elem 23 = 5 := by kernel_rfl
    rw [e]
    simp [sizeOf, typeInfo, hi, hz1]
  obtain ⟨c', e'⟩ : ∃ c', sliced (some ⟨g, o, none⟩) 0 l c 1 = .slice (some ⟨g, o, none⟩) l c' := by
    unfold sliced
    refine ⟨c - 0, ?_⟩
    rw [if_neg (by omega), Nat.mul_one]
    rfl
  refine ⟨c', fun w' => ?_⟩
  rw [run_slice_h w' 23 _ s c hu .i64 (l : Int) (by omega) (by omega), hz]
  exact congrArg (fun v => Result.ok v w') e'
theorem nr_part {w : World} {g z s x c : Nat} {f : Nat → BitVec 8} (h : NrE w (.slice (some ⟨g, 0, none⟩) z z) z f) (hx : s + x ≤ z) : NrE w (.slice (some ⟨g, s, none⟩) x c) x (fun j => f (s + j)) := by
  obtain ⟨p, c', e, h⟩ := nr_un h
  injection e with e1 e2 e3
  subst e1
  refine ⟨_, _, rfl, ?_⟩
  by_cases h0 : x = 0
  · exact .inl h0
  · obtain ⟨b, o, e, hc⟩ := h (by omega)
    injection e with e
    injection e with e1 e2
    subst e1 e2
    refine .inr ⟨g, s, rfl, fun i hi => ?_⟩
    have := hc (s + i) (by omega)
    rw [Nat.zero_add] at this
    exact this
theorem pc_min {N K B : Nat} {L : List Nat} {off x f t s z n : Nat} (pc : Pc N K B L off x f t s z) (hx : x = min n (N - off)) : min n (z - s) = x ∧ x ≤ z - s := by
  have h1 := pc.ze
  have h2 := pc.os
  have h3 := pc.sx
  generalize f * (K * B) = a at *
  generalize t * (K * B) = b at *
  omega
section
attribute [local irreducible] Calls el Hd.cs NrE obm
set_option maxHeartbeats 8000000 in
set_option maxRecDepth 1000000 in
theorem piece_some {w : World} {p : Option Addr} {c : Nat} {hs : Nat → Hd} {vs : Nat → Value} {m : Hd} {n K M B : Nat} {L : List Nat} {F D : Nat → Nat → BitVec 8} (h : Obs w (.slice p (K + M) c) hs vs m n K M B L F D) (off k : Nat) (hk : 1 ≤ k) (hk2 : k ≤ 9223372036854775807) (hof : off < n) (x : Nat) (hx : x = min k (n - off)) :
    Calls Try.prog 12 #[.slice p (K + M) c, .int .i64 (off : Int), .int .i64 (k : Int)] w fun e w' => ∃ q d, e = .returned (.tuple #[.slice q x d, .int .i64 0]) ∧ NrE w' (.slice q x d) x (fun j => obm K L D (off + j)) ∧ Below w.heap.size w w' := by
  have HO := (show Hid _ from h)
  have CO := (show Hid _ from h.common)
  have hn1 := h.nu.n1
  have hnz : In64 (n : Int) := ⟨by omega, by omega⟩
  have WH := (show Hid _ from fun W => where_any m.k m.m m.b (n : Int) (off : Int) (k : Int) h.hin.m hnz ⟨by omega, by omega⟩ ⟨by omega, by omega⟩ W)
  have ek := h.nu.k
  have em := h.nu.m
  have eb := h.nu.b
  have es := h.sz
  rw [wh_nat ek eb h.z1 off k hk hof, ← hx] at WH
  have pc := pc_of h.nu off x (by omega) (by omega)
  rw [ek, em, eb] at WH
  unfold shC at WH
  obtain ⟨f, hf⟩ : ∃ f, f = off / (K * B) := ⟨_, rfl⟩
  obtain ⟨t, ht⟩ : ∃ t, t = (off + x - 1) / (K * B) + 1 := ⟨_, rfl⟩
  obtain ⟨s, hs'⟩ : ∃ s, s = off % (K * B) := ⟨_, rfl⟩
  rw [← hf, ← ht, ← hs'] at WH pc
  obtain ⟨z, hz⟩ : ∃ z, z = min n (t * (K * B)) - f * (K * B) := ⟨_, rfl⟩
  rw [← hz] at pc
  obtain ⟨m1, m2⟩ := pc_min pc hx
  have sx := pc.sx
  have x0 : 0 < x := by omega
  have os := pc.os
  have zn := pc.zn
  have PC := (show Hid _ from pc)
  have HOS := (show Hid (∀ j, f * (K * B) + (s + j) = off + j) from fun j => by rw [← Nat.add_assoc, os])
  clear h hf ht hs' hz pc hx os
  obtain ⟨S, hS⟩ : ∃ S : Nat, S = z - s := ⟨_, rfl⟩
  have mk : min (k : Int) (S : Int) = (x : Int) := by omega
  go_enter Try.func12, Try.ntmps12
  go_wp2_with (first
    | (go_at_call 25; refine CO.out.mono ?_; rintro e w1 ⟨rfl, hb1⟩)
    | (refine wpList_alHd rfl rfl ?_; intro wa Za hba hsa)
    | (refine wpList_stHd m rfl _ _ rfl rfl w1.heap.size rfl rfl Za ?_; intro w2 H2 hBu2; have hb2 := (show Hid (Below w1.heap.size w1 w2) from hba.trans hBu2.bl); obtain ⟨a8, a9, a10, a11, a12, a13, a14, a15⟩ := H2.cells; rw [ek] at a8; rw [em] at a9; rw [eb] at a10; rw [es] at a12)
    | (go_at_call 16; refine (WH.out _).mono ?_; rintro e w3 ⟨rfl, hb3⟩; have H3 := H2.below hb3; have PT := (show Hid _ from Obs.part (((HO.out.below hb1).below hb2.out).below hb3) PC.out))
    | (refine wpList_loadHd rfl _ rfl w1.heap.size rfl H3 ?_)
    | (go_at_call 26; refine PT.out.mono ?_; rintro e w4 ⟨g, rfl, hN, hb4⟩; obtain ⟨q1, c1, hr1, hc1, hq1⟩ := cut_left g 0 z z s (some ⟨g, 0, none⟩) (fun _ => rfl) (Nat.le_refl _) (by omega); rw [← hS] at hr1 hc1 hq1))
  all_goals
    obtain rfl := hq1 (by omega)
    rw [Nat.zero_add]
    first
      | (obtain rfl : x = k := by omega
         go_at_call 27
         refine (clone10 (f := fun j => obm K L D (off + j)) (by have h9 := nr_part (c := c1) hN sx; have e9 : (fun j => obm K L D (f * (K * B) + (s + j))) = (fun j => obm K L D (off + j)) := (funext fun j => by rw [HOS.out]); rw [e9] at h9; exact h9) (by omega)).mono ?_
         rintro e w5 ⟨q5, d5, rfl, hN5, hb5⟩
         go_wp2
         go_ret2
         exact ⟨_, _, rfl, hN5, bt (bt (bt (bt hb1 hb2.out) hb3) hb4) hb5⟩)
      | (have exs : z - s = x := by omega
         rw [exs]
         go_at_call 27
         refine (clone10 (f := fun j => obm K L D (off + j)) (by have h9 := nr_part (c := c1) hN sx; have e9 : (fun j => obm K L D (f * (K * B) + (s + j))) = (fun j => obm K L D (off + j)) := (funext fun j => by rw [HOS.out]); rw [e9] at h9; exact h9) (by omega)).mono ?_
         rintro e w5 ⟨q5, d5, rfl, hN5, hb5⟩
         go_wp2
         go_ret2
         exact ⟨_, _, rfl, hN5, bt (bt (bt (bt hb1 hb2.out) hb3) hb4) hb5⟩)
end
end Go.Proofs.Ytkngfeciobalmaa
/-
  Stripe: Piece, where the range has no bytes or is none.
-/
namespace Go.Proofs.Ytkngfeciobalmaa
open Go.RowKit
theorem eql_non10 (W : World) : (binOp .eql 23 (.slice none 0 0) (.slice none 0 0)).run Try.prog W = .ok (.bool true) W := by
  simp [binOp, run_equal_slice_nil _ 23 5 none 0 0 Try.underlying23]
section
attribute [local irreducible] Calls
set_option maxRecDepth 1000000 in
theorem clone_nil10 (w : World) : Calls Try.prog 27 #[.slice none 0 0] w fun e w' => e = .returned (.slice none 0 0) ∧ Below w.heap.size w w' := by
  have en := eql_non10 w
  go_enter Try.func27, Try.ntmps27
  go_wp2
  go_ret
  exact ⟨rfl, Below.refl _ _⟩
end
theorem wh_none {k m b : Int} {N : Nat} (hz : szC k m b (N : Int) = 0) (off n : Nat) (hn : n = 0 ∨ N ≤ off) : whR k m b (N : Int) (off : Int) (n : Int) = ⟨0, 0, 0, 0⟩ := by
  unfold whR
  rw [if_neg (not_not_intro hz), if_neg (by omega), if_pos (by omega)]
theorem wh_arg {k m b : Int} {N : Nat} (hz : szC k m b (N : Int) = 0) (off n : Int) (hn : off < 0 ∨ n < 0) : whR k m b (N : Int) off n = ⟨0, 0, 0, 2⟩ := by
  unfold whR
  rw [if_neg (not_not_intro hz), if_pos hn]
section
attribute [local irreducible] Calls el Hd.cs
set_option maxHeartbeats 8000000 in
set_option maxRecDepth 1000000 in
theorem piece_none {w : World} {p : Option Addr} {c : Nat} {hs : Nat → Hd} {vs : Nat → Value} {m : Hd} {n K M B : Nat} {L : List Nat} {F D : Nat → Nat → BitVec 8} (h : Obs w (.slice p (K + M) c) hs vs m n K M B L F D) (off k : Nat) (ho2 : off ≤ 9223372036854775807) (hk2 : k ≤ 9223372036854775807) (hof : k = 0 ∨ n ≤ off) :
    Calls Try.prog 12 #[.slice p (K + M) c, .int .i64 (off : Int), .int .i64 (k : Int)] w fun e w' => e = .returned (.tuple #[.slice none 0 0, .int .i64 0]) ∧ Below w.heap.size w w' := by
  have CO := (show Hid _ from h.common)
  have hn1 := h.nu.n1
  have hnz : In64 (n : Int) := ⟨by omega, by omega⟩
  have WH := (show Hid _ from fun W => where_any m.k m.m m.b (n : Int) (off : Int) (k : Int) h.hin.m hnz ⟨by omega, by omega⟩ ⟨by omega, by omega⟩ W)
  have ek := h.nu.k
  have em := h.nu.m
  have eb := h.nu.b
  have es := h.sz
  rw [wh_none h.z1 off k hof] at WH
  rw [ek, em, eb] at WH
  unfold shC at WH
  have ST := (show Hid _ from fun W => stripes_none m (.slice p (K + M) c) 0 W)
  have CL := (show Hid _ from clone_nil10)
  clear h
  go_enter Try.func12, Try.ntmps12
  go_wp2_with (first
    | (go_at_call 25; refine CO.out.mono ?_; rintro e w1 ⟨rfl, hb1⟩)
    | (refine wpList_alHd rfl rfl ?_; intro wa Za hba hsa)
    | (refine wpList_stHd m rfl _ _ rfl rfl w1.heap.size rfl rfl Za ?_; intro w2 H2 hBu2; have hb2 := (show Hid (Below w1.heap.size w1 w2) from hba.trans hBu2.bl); obtain ⟨a8, a9, a10, a11, a12, a13, a14, a15⟩ := H2.cells; rw [ek] at a8; rw [em] at a9; rw [eb] at a10; rw [es] at a12)
    | (go_at_call 16; refine (WH.out _).mono ?_; rintro e w3 ⟨rfl, hb3⟩; have H3 := H2.below hb3)
    | (refine wpList_loadHd rfl _ rfl w1.heap.size rfl H3 ?_)
    | (go_at_call 26; refine (ST.out _).mono ?_; rintro e w4 ⟨rfl, hb4⟩)
    | (go_at_call 27; refine (CL.out _).mono ?_; rintro e w5 ⟨rfl, hb5⟩))
  all_goals first
    | (go_ret2
       exact ⟨rfl, bt (bt (bt (bt hb1 hb2.out) hb3) hb4) hb5⟩)
    | (obtain rfl : k = 0 := by omega
       go_at_call 27
       refine (CL.out _).mono ?_
       rintro e w5 ⟨rfl, hb5⟩
       go_wp2
       go_ret2
       exact ⟨rfl, bt (bt (bt (bt hb1 hb2.out) hb3) hb4) hb5⟩)
set_option maxHeartbeats 8000000 in
set_option maxRecDepth 1000000 in
theorem piece_arg {w : World} {p : Option Addr} {c : Nat} {hs : Nat → Hd} {vs : Nat → Value} {m : Hd} {n K M B : Nat} {L : List Nat} {F D : Nat → Nat → BitVec 8} (h : Obs w (.slice p (K + M) c) hs vs m n K M B L F D) (off k : Int) (ho2 : In64 off) (hk2 : In64 k) (hof : off < 0 ∨ k < 0) :
    Calls Try.prog 12 #[.slice p (K + M) c, .int .i64 off, .int .i64 k] w fun e w' => e = .returned (.tuple #[.slice none 0 0, .int .i64 2]) ∧ Below w.heap.size w w' := by
  have CO := (show Hid _ from h.common)
  have hn1 := h.nu.n1
  have hnz : In64 (n : Int) := ⟨by omega, by omega⟩
  have WH := (show Hid _ from fun W => where_any m.k m.m m.b (n : Int) off k h.hin.m hnz ho2 hk2 W)
  have ek := h.nu.k
  have em := h.nu.m
  have eb := h.nu.b
  have es := h.sz
  rw [wh_arg h.z1 off k hof] at WH
  rw [ek, em, eb] at WH
  unfold shC at WH
  clear h
  go_enter Try.func12, Try.ntmps12
  go_wp2_with (first
    | (go_at_call 25; refine CO.out.mono ?_; rintro e w1 ⟨rfl, hb1⟩)
    | (refine wpList_alHd rfl rfl ?_; intro wa Za hba hsa)
    | (refine wpList_stHd m rfl _ _ rfl rfl w1.heap.size rfl rfl Za ?_; intro w2 H2 hBu2; have hb2 := (show Hid (Below w1.heap.size w1 w2) from hba.trans hBu2.bl); obtain ⟨a8, a9, a10, a11, a12, a13, a14, a15⟩ := H2.cells; rw [ek] at a8; rw [em] at a9; rw [eb] at a10; rw [es] at a12)
    | (go_at_call 16; refine (WH.out _).mono ?_; rintro e w3 ⟨rfl, hb3⟩))
  go_ret2
  exact ⟨rfl, bt (bt hb1 hb2.out) hb3⟩
end
end Go.Proofs.Ytkngfeciobalmaa
