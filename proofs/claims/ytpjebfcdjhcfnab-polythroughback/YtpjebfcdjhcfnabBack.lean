/-
  'values'; an append that leaves the row that it is made of as it was.
-/
import Derived.Test.YtpjebfcdjhcfnabFewW
import Derived.ArgAppend
namespace Go.Proofs.Ytpjebfcdjhcfnab
open Go.RowKit

theorem vs_co_map (u : List (BitVec 8)) (f : BitVec 8 → BitVec 8) (k : Nat) (hk : k ≤ u.length) : vs (co (u.map f)) k = vs (fun i => f (co u i)) k :=
  vs_congr (fun i hi => by unfold co; simp [List.getD_eq_getElem?_getD, List.getElem?_eq_getElem (show i < u.length by omega)])
section
attribute [local irreducible] Calls el gm co vs ev Sl
set_option maxHeartbeats 4000000 in
set_option maxRecDepth 1000000 in
theorem values_core (vp : Value) (b o n c : Nat) (pl u : List (BitVec 8)) (w : World) (hp : Hid (Sl w vp pl)) (hpl : Hid (pl.length ≤ 281474976710656)) (hn : n ≤ 140737488351232)
    (H1 : Hid (∀ i, i < n → w.cell? ⟨b, o + i, none⟩ = some (.int .u8 (el (co u i))))) :
    Calls Try.prog 25 #[vp, .slice (some ⟨b, o, none⟩) n c] w fun e w' => ∃ v, e = .returned v ∧ w'.ownsRow w.heap.size 28 1 v n (vs (fun i => ev (co u i) pl) n) ∧ Below w.heap.size w w' := by
  obtain ⟨i0, hi, hz0, hz1, hz2⟩ := info_parts infoE
  go_enter Try.func25, Try.ntmps25
  go_wp2
  go_loopw [5, 6] (fun v i wr => ∃ k : Nat, k ≤ n ∧ i = .int .i64 k ∧ wr.ownsRow w.heap.size 28 1 v k (vs (fun i => ev (co u i) pl) k) ∧ Below w.heap.size w wr) (fun _ i _ => n - (intOf i).toNat)
  case atStart => exact ⟨0, Nat.zero_le _, rfl, own_none _ _ _ _, Below.refl _ _⟩
  case round =>
    obtain ⟨k, hk, rfl, hown, hb⟩ := hrel
    by_cases hlt : k < n
    · have g1 := cell_below (H1.out k hlt) hb
      have j1 : (k : Int) < (n : Int) := by omega
      have M1 : Hid (k + 1 ≤ maxLen) := by show _ ≤ _; unfold maxLen; omega
      have HA := (show Hid _ from pat_any (hp.out.below hb) hpl.out (co u k))
      go_wp2_with (first
        | (go_at_call 16; refine HA.out.mono ?_; rintro e w2 ⟨rfl, hb2⟩; have hown2 := owns_below hown hb2; have hb3 := bt hb hb2; have M2 : Hid (∀ o : Obj, w.heap.size ≤ (w2.alloc o).heap.size) := (fun o => by have := hb3.size; simp; omega))
        | (at_builtin; refine wpList_append_own _ rfl _ _ 26 rfl w.heap.size 28 i0 (.int .u8 0) 1 1 Try.underlying26 hi hz0 hz1 hz2 rfl (by decide) _ _ _ rfl (hown2.alloc _) ⟨w2.heap.size, 0, none⟩ 1 1 [.int .u8 (el (ev (co u k) pl))] rfl rfl (one_new _ _ _) (one_cell _ _) M1.out (by omega) (M2.out _) ?_; intro v' w1 hown' hgrow _))
      rw [← vs_succ (fun i => ev (co u i) pl) k] at hown'
      have hb' := below_append (hb3.alloc hb3.size _) (M2.out _) hgrow (hown2.alloc _) (Nat.le_refl _)
      clear hown hgrow g1 hown2
      go_roundw
      case rel => exact ⟨k + 1, by omega, by go_num, hown', hb'⟩
      case measure => simp [intOf]; omega
    · obtain rfl : k = n := by omega
      go_wp2
      go_ret
      exact ⟨_, rfl, hown, hb⟩
set_option maxRecDepth 1000000 in
theorem values_nil (vp : Value) (a : Option Addr) (c : Nat) (w : World) :
    Calls Try.prog 25 #[vp, .slice a 0 c] w fun e w' => e = .returned (.slice none 0 0) ∧ w' = w := by
  go_enter Try.func25, Try.ntmps25
  go_wp2
  refine wp_loop_rounds 1 ?_
  rw [rounds_succ]
  go_wp2
  go_ret
  exact ⟨rfl, rfl⟩
end
theorem values_any {w : World} {vp vx : Value} {pl u : List (BitVec 8)} (hp : Sl w vp pl) (hx : Sr w vx u) (hpl : pl.length ≤ 281474976710656) (hn : u.length ≤ 140737488351232) :
    Calls Try.prog 25 #[vp, vx] w fun e w' => ∃ v, e = .returned v ∧ Rs 28 w.heap.size w' v (u.map (fun a => ev a pl)) ∧ Below w.heap.size w w' := by
  by_cases h0 : u = []
  · subst h0
    obtain ⟨p, c, rfl⟩ := hx.empty
    exact (values_nil vp p c w).mono fun e w' ⟨he, hw⟩ => ⟨_, he, by rw [hw]; exact Rs.nil _ _ _, by rw [hw]; exact Below.refl _ _⟩
  · obtain ⟨b, o, c, rfl, _, hc⟩ := hx.cells h0
    refine (values_core vp b o _ c pl u w hp hpl hn hc).mono fun e w' ⟨v, he, ho, hb⟩ => ⟨v, he, ?_, hb⟩
    unfold Rs
    rw [List.length_map, vs_co_map u (fun a => ev a pl) _ (Nat.le_refl _)]; exact ho
theorem thr_self {u pl : List (BitVec 8)} (ht : trim pl = pl) (hl : pl.length ≤ u.length) : IsThr u (u.map (fun a => ev a pl)) pl :=
  ⟨ht, hl, fun i hi => by simp [List.getD_eq_getElem?_getD, List.getElem?_eq_getElem hi]⟩
theorem thr_vals {x y t : List (BitVec 8)} (h : IsThr x y t) (hl : x.length = y.length) : x.map (fun a => ev a t) = y := by
  apply List.ext_getElem (by rw [List.length_map, hl])
  intro i h1 h2
  rw [List.length_map] at h1
  have := h.ev i h1
  simpa [List.getD_eq_getElem?_getD, List.getElem?_eq_getElem h1, List.getElem?_eq_getElem h2] using this
theorem owns_prefix {t : TypeId} {B g cap n k : Nat} {w : World} {l l2 : List Value} (h : w.ownsRow B t 1 (.slice (some ⟨g, 0, none⟩) n cap) n (l ++ l2)) (hl : l.length = k) (hk : k ≤ n) : w.ownsRow B t 1 (.slice (some ⟨g, 0, none⟩) k cap) k l := by
  rcases h.2 with ⟨hv, _⟩ | ⟨g', cap', c, hv, hg, hh, hc, hm, hs, ht⟩
  · cases hv
  · injection hv with e1 e2 e3
    injection e1 with e1
    injection e1 with e1
    subst e1 e3
    refine ⟨by rw [hl, Nat.mul_one], .inr ⟨g, cap, c, rfl, hg, hh, by omega, hm, hs, ?_⟩⟩
    rw [Nat.mul_one] at ht ⊢
    have h3 := congrArg (List.take k) ht
    rw [List.take_take, Nat.min_eq_left hk, List.take_append_of_le_length (by omega)] at h3
    rw [h3, List.take_of_length_le (by omega)]
/-- One element more, behind a row of the call's own: the row itself is as it was. -/
theorem wpList_append_keep {P : Program} {w : World} {ops : Array Oper} {rest : List Oper} {o : Oper} {a : Act} {Q : Exit → Act → World → Prop} (hgd : o.guard = none) (s x : Operand) (t : TypeId)
    (ho : o.op = .call { callee := .builtin .append, args := #[s, x], argTypes := #[t, t] })
    (base : Nat) (e : TypeId) (i : TypeInfo) (z : Value) (ht : P.underlying t = some (.slice e)) (hi : P.info? e = some i) (hz : i.zero = some z) (hsize : i.size = 1) (hby : i.bytes = 1) (hzs : z.cells.size = 1)
    (g n cap : Nat) (xs : List Value) (hs : a.eval s = .slice (some ⟨g, 0, none⟩) n cap) (hown : w.ownsRow base e 1 (.slice (some ⟨g, 0, none⟩) n cap) n xs)
    (ad : Addr) (c : Nat) (u : Value) (hx : a.eval x = .slice (some ad) 1 c) (hnews : ∀ j v, ([u] : List Value)[j]? = some v → w.cell? (ad.add j) = some v) (h1 : ∀ v ∈ ([u] : List Value), v.oneCell' = true)
    (h63 : n + 1 ≤ maxLen) (hbytes : (n + 1) * 1 ≤ 140737488355328) (hbase : base ≤ w.heap.size)
    (h : ∀ v' w', w'.ownsRow base e 1 v' (n + 1) (xs ++ [u]) → w'.ownsRow base e 1 (.slice (some ⟨g, 0, none⟩) n cap) n xs → w.grownBy w' (some g) → wpList P ops Q rest (a.put o.dst v') w') : wpList P ops Q (o :: rest) a w := by
  have hxl : xs.length = n := by have := hown.1; omega
  by_cases hc : n + 1 ≤ cap
  · refine wpList_append_fits w hgd s x t ho base e i 1 ht hi hsize g n cap xs hs hown ad 1 c [u] hx rfl hnews h1 hc ?_
    intro w' h2 h3
    exact h _ w' h2 (owns_prefix h2 hxl (by omega)) h3
  · refine wpList_append_grows w hgd s x t ho e i z 1 1 ht hi hz hsize hby hzs (by decide) (some ⟨g, 0, none⟩) n cap xs hs (fun hh => by cases hh) (by rw [hxl, Nat.mul_one]) (fun b hb j v hv => ?_) ad 1 c [u] hx rfl hnews h1 (by omega) h63 hbytes ?_
    · injection hb with hb
      subst hb
      exact hown.cells rfl j v hv
    · intro v' w' h2 h3
      have h4 : w'.ownsRow base e 1 v' (n + 1) (xs ++ [u]) := by
        refine ⟨h2.1, ?_⟩
        rcases h2.2 with h5 | ⟨g5, c5, r5, hv5, hg5, hr5⟩
        · exact .inl h5
        · exact .inr ⟨g5, c5, r5, hv5, Nat.le_trans hbase hg5, hr5⟩
      refine h v' w' h4 (hown.kept h3 (.inr (by simp [Value.ownBlock]))) ⟨h3.os, h3.tape, h3.output, h3.size, fun k hk _ => h3.block k hk (by simp)⟩
end Go.Proofs.Ytpjebfcdjhcfnab
