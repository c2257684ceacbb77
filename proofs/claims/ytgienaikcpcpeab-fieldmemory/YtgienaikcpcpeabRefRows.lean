/-
  The document's rows: cairnref01's Scale, Sum, Dot.
-/
import Derived.Test.YtgienaikcpcpeabOwn
import Derived.Test.YtgienaikcpcpeabRefT
import Derived.Deep.RegionLaw
namespace Go.Proofs.Ytgienaikcpcpeab
open Go.RowKit

/-- The list of n elements. -/
def ls (f : Nat → BitVec 8) (n : Nat) : List (BitVec 8) := (List.range n).map f
theorem ls_len (f : Nat → BitVec 8) (n : Nat) : (ls f n).length = n := by simp [ls]
theorem ls_get (f : Nat → BitVec 8) (n i : Nat) (h : i < n) : (ls f n).getD i 0#8 = f i := by simp [ls, List.getD, h]
theorem ls_congr {f g : Nat → BitVec 8} {n : Nat} (h : ∀ i, i < n → f i = g i) : ls f n = ls g n := by
  unfold ls; apply List.map_congr_left; intro i hi; exact h i (List.mem_range.1 hi)
theorem ls_self (xs : List (BitVec 8)) : ls (fun i => xs.getD i 0#8) xs.length = xs := by
  apply List.ext_getElem?
  intro i
  unfold ls
  rw [List.getElem?_map]
  by_cases hi : i < xs.length
  · rw [List.getElem?_range hi, List.getElem?_eq_getElem hi]
    simp [List.getElem?_eq_getElem hi]
  · rw [List.getElem?_eq_none (by simp; omega), List.getElem?_eq_none (by omega)]; rfl
theorem Own.rdl {w : World} {t : TypeId} {g : Nat} {f : Nat → BitVec 8} {n : Nat} (h : Own w t g f n) : Rd w (some ⟨g, 0, none⟩) (ls f n) := h.rd

def vs (x : Nat → BitVec 8) (m : Nat) : List Value := (List.range m).map fun i => Value.int .u8 (el (x i))
theorem vs_zero (x : Nat → BitVec 8) : vs x 0 = [] := rfl
theorem el_w (a : BitVec 8) : wrap64 (el a) = el a := by have := el_bd a; unfold wrap64; omega
theorem own_none (w : World) (base : Nat) (x : Nat → BitVec 8) : w.ownsRow base 5 1 (.slice none 0 0) 0 (vs x 0) := World.ownsRow_nil _ _ _ _
theorem vs_succ (x : Nat → BitVec 8) (m : Nat) : vs x (m + 1) = vs x m ++ [.int .u8 (el (x m))] := by
  unfold vs; rw [List.range_succ, List.map_append]; rfl
theorem vs_at (x : Nat → BitVec 8) (m j : Nat) (h : j < m) : (vs x m)[j]? = some (.int .u8 (el (x j))) := by
  unfold vs; rw [List.getElem?_map, List.getElem?_range h]; rfl
theorem add_pl (b o j : Nat) : (⟨b, o, none⟩ : Addr).add j = ⟨b, o + j, none⟩ := by unfold Addr.add; split <;> simp_all
/-- What is owned reads so. -/
theorem rd_owns {w : World} {base n : Nat} {v : Value} {x : Nat → BitVec 8} (h : w.ownsRow base 5 1 v n (vs x n)) : ∃ p cap, v = .slice p n cap ∧ n ≤ cap ∧ Rd w p (ls x n) := by
  rcases h.2 with ⟨hv, h0⟩ | ⟨g, cap, c, hv, hg, hh, hc, hm, hs, ht⟩
  · subst h0; exact ⟨none, 0, hv, Nat.le_refl _, .inl rfl⟩
  · refine ⟨some ⟨g, 0, none⟩, cap, hv, hc, .inr ⟨g, 0, rfl, fun i hi => ?_⟩⟩
    have hi' : i < n := by rwa [ls_len] at hi
    rw [Nat.zero_add, cell_of_row w g i _ _ _ hh, ls_get _ _ _ hi']
    rw [Nat.mul_one] at ht
    have h1 : (c.toList.take n)[i]? = some (.int .u8 (el (x i))) := by rw [ht, vs_at x n i hi']
    rw [List.getElem?_take_of_lt hi'] at h1
    simpa using h1
theorem below_append {w w' : World} {base n : Nat} {v : Value} {xs : List Value} {B : Nat} {a : World} (hb : Below B a w) (hB : B ≤ w.heap.size) (hg : w.grownBy w' v.ownBlock) (ho : w.ownsRow base 5 1 v n xs) (hbase : B ≤ base) : Below B a w' :=
  hb.grown hg hB (fun k hk => Nat.le_trans hbase (ho.lt k hk).1)
theorem one_new (w : World) (v : Value) (t : TypeId) : ∀ j u, ([v] : List Value)[j]? = some u → (w.alloc (.cells #[v] t)).cell? ((⟨w.heap.size, 0, none⟩ : Addr).add j) = some u := by
  intro j u hj
  match j, hj with
  | 0, hj =>
    simp at hj; subst hj
    rw [add_pl, cell_of_row _ _ _ _ _ (0, 0) (heap_alloc_new w _)]; rfl
theorem one_cell (k : IntKind) (z : Int) : ∀ u ∈ ([.int k z] : List Value), u.oneCell' = true := by
  intro u hu; simp at hu; subst hu; rfl
theorem step_append_own {P : Program} {ops : Array Oper} {o : Oper} {a : Act} {w : World} {K : Act → World → Prop} {Q : Exit → Act → World → Prop} {E : Prop}
    (hg : o.guard = none) (s x : Operand) (t : TypeId) (ho : o.op = .call { callee := .builtin .append, args := #[s, x], argTypes := #[t, t] })
    (base : Nat) (e : TypeId) (i : TypeInfo) (z : Value) (size bytes : Nat) (ht : P.underlying t = some (.slice e)) (hi : P.info? e = some i) (hz : i.zero = some z)
    (hsize : i.size = size) (hby : i.bytes = bytes) (hzs : z.cells.size = size) (hsz : 0 < size)
    (v : Value) (n : Nat) (xs : List Value) (hs : a.eval s = v) (hown : w.ownsRow base e size v n xs)
    (ad : Addr) (m c : Nat) (news : List Value) (hx : a.eval x = .slice (some ad) m c) (hl : news.length = m * size) (hnews : ∀ j u, news[j]? = some u → w.cell? (ad.add j) = some u) (h1 : ∀ u ∈ news, u.oneCell' = true)
    (h63 : n + m ≤ maxLen) (hbytes : (n + m) * bytes ≤ 140737488355328) (hbase : base ≤ w.heap.size)
    (h : ∀ v' w', w'.ownsRow base e size v' (n + m) (xs ++ news) → w.grownBy w' v.ownBlock → K (a.put o.dst v') w') :
    if Region.wanted o (yielded ops a.tmps) = true then Oper.wp P o a w K Q else E := by
  have hw : Region.wanted o (yielded ops a.tmps) = true := by simp [Region.wanted, hg]
  rw [if_pos hw]
  exact wp_append_own w s x t ho base e i z size bytes ht hi hz hsize hby hzs hsz v n xs hs hown ad m c news hx hl hnews h1 h63 hbytes hbase (fun v' w' a b _ => h v' w' a b)

section
attribute [local irreducible] Calls el gm vs
set_option maxHeartbeats 1000000 in
set_option maxRecDepth 1000000 in
theorem refScale_core (b1 o1 n c1 : Nat) (x : Nat → BitVec 8) (c : BitVec 8) (w : World) (hn : n ≤ 140737488355328)
    (H1 : Hid (∀ i, i < n → w.cell? ⟨b1, o1 + i, none⟩ = some (.int .u8 (el (x i))))) :
    Calls Try.prog 17 #[.slice (some ⟨b1, o1, none⟩) n c1, .int .i64 (el c)] w fun e w' => ∃ v, e = .returned v ∧ w'.ownsRow w.heap.size 5 1 v n (vs (fun i => gm (x i) c) n) ∧ Below w.heap.size w w' := by
  obtain ⟨i0, hi, hz0, hz1, hz2⟩ := info_parts info5
  have hw8 : ∀ a, el a % 256 = el a := fun a => by have := el_bd a; omega
  have hw := el_w
  go_enter Try.func17, Try.ntmps17
  go_wp2
  go_loopw [5, 6] (fun v i wr => ∃ k : Nat, k ≤ n ∧ i = .int .i64 k ∧ wr.ownsRow w.heap.size 5 1 v k (vs (fun i => gm (x i) c) k) ∧ Below w.heap.size w wr) (fun _ i _ => n - (intOf i).toNat)
  case atStart => exact ⟨0, Nat.zero_le _, rfl, own_none _ _ _, Below.refl _ _⟩
  case round =>
    obtain ⟨k, hk, rfl, hown, hb⟩ := hrel
    by_cases hlt : k < n
    · have g1 := cell_below (H1.out k hlt) hb
      have hi1 : (k : Int) < (n : Int) := by omega
      go_wp2_with (first | (go_at_call 23; refine (refTimes_any _ _ _).mono ?_; rintro e w' ⟨rfl, hw'⟩; obtain rfl := hw'.symm) | (at_builtin; refine wpList_append_own _ rfl _ _ 22 rfl w.heap.size 5 i0 (.int .u8 0) 1 1 Try.underlying22 hi hz0 hz1 hz2 rfl (by decide) _ _ _ rfl (hown.alloc _) ⟨wr.heap.size, 0, none⟩ 1 1 [.int .u8 (el (gm (x k) c))] rfl rfl (one_new _ _ _) (one_cell _ _) ?c3 ?c4 ?c5 ?_))
      case c3 => unfold maxLen; omega
      case c4 => omega
      case c5 => have := hb.size; simp; omega
      · intro v' w1 hown' hgrow _
        rw [← vs_succ (fun i => gm (x i) c) k] at hown'
        have hb' := below_append (hb.alloc hb.size _) (Nat.le_trans hb.size (by simp)) hgrow (hown.alloc _) (Nat.le_refl _)
        clear hown hgrow g1
        go_wp2
        go_roundw
        case rel => exact ⟨k + 1, by omega, by go_num, hown', hb'⟩
        case measure => simp [intOf]; omega
    · obtain rfl : k = n := by omega
      go_wp2
      go_ret
      exact ⟨_, rfl, hown, hb⟩
set_option maxRecDepth 1000000 in
theorem refScale_nil (a1 : Option Addr) (c1 : Nat) (c : BitVec 8) (w : World) :
    Calls Try.prog 17 #[.slice a1 0 c1, .int .i64 (el c)] w fun e w' => e = .returned (.slice none 0 0) ∧ w' = w := by
  go_enter Try.func17, Try.ntmps17
  go_wp2
  refine wp_loop_rounds 1 ?_
  rw [rounds_succ]
  go_wp2
  go_ret
  exact ⟨rfl, rfl⟩
set_option maxHeartbeats 2000000 in
set_option maxRecDepth 1000000 in
theorem refSum_core (b1 o1 b2 o2 n c1 c2 : Nat) (x y : Nat → BitVec 8) (w : World) (hn : n ≤ 140737488355328)
    (H1 : Hid (∀ i, i < n → w.cell? ⟨b1, o1 + i, none⟩ = some (.int .u8 (el (x i))))) (H2 : Hid (∀ i, i < n → w.cell? ⟨b2, o2 + i, none⟩ = some (.int .u8 (el (y i))))) :
    Calls Try.prog 18 #[.slice (some ⟨b1, o1, none⟩) n c1, .slice (some ⟨b2, o2, none⟩) n c2] w fun e w' => ∃ v, e = .returned (.tuple #[v, .int .i64 0]) ∧ w'.ownsRow w.heap.size 5 1 v n (vs (fun i => x i ^^^ y i) n) ∧ Below w.heap.size w w' := by
  obtain ⟨i0, hi, hz0, hz1, hz2⟩ := info_parts info5
  have hx := el_xor
  go_enter Try.func18, Try.ntmps18
  go_wp2
  go_loopw [6, 7] (fun v i wr => ∃ k : Nat, k ≤ n ∧ i = .int .i64 k ∧ wr.ownsRow w.heap.size 5 1 v k (vs (fun i => x i ^^^ y i) k) ∧ Below w.heap.size w wr) (fun _ i _ => n - (intOf i).toNat)
  case atStart => exact ⟨0, Nat.zero_le _, rfl, own_none _ _ _, Below.refl _ _⟩
  case round =>
    obtain ⟨k, hk, rfl, hown, hb⟩ := hrel
    by_cases hlt : k < n
    · have g1 := cell_below (H1.out k hlt) hb
      have g2 := cell_below (H2.out k hlt) hb
      have hi1 : (k : Int) < (n : Int) := by omega
      have M1 : Hid (k + 1 ≤ maxLen) := by show _ ≤ _; unfold maxLen; omega
      have M2 : Hid (∀ o : Obj, w.heap.size ≤ (wr.alloc o).heap.size) := fun o => by have := hb.size; simp; omega
      go_wp2
      go_region_law (refine step_append_own rfl (.tmp 19) (.tmp 29) 22 rfl w.heap.size 5 i0 (.int .u8 0) 1 1 Try.underlying22 hi hz0 hz1 hz2 rfl (by decide) _ k _ (by first | (simp [Act.eval]; done) | simp [Act.eval, Act.put]) (hown.alloc _).drew ⟨wr.heap.size, 0, none⟩ 1 1 [.int .u8 (el (x k ^^^ y k))] (by first | (simp [Act.eval]; done) | simp [Act.eval, Act.put]) rfl (one_new wr _ _) (one_cell _ _) M1.out (by omega) (M2.out _) ?_; intro v' w1 hown' hgrow)
      all_goals
        rw [← vs_succ (fun i => x i ^^^ y i) k] at hown'
        have hb' := below_append (hb.alloc hb.size _).drew (M2.out _) hgrow (hown.alloc _).drew (Nat.le_refl _)
        go_wp2
        go_roundw
        case rel => exact ⟨k + 1, by omega, by go_num, hown', hb'⟩
        case measure => simp [intOf]; omega
    · obtain rfl : k = n := by omega
      go_wp2
      go_ret2
      exact ⟨_, rfl, hown, hb⟩
set_option maxRecDepth 1000000 in
theorem refSum_nil (a1 a2 : Option Addr) (c1 c2 : Nat) (w : World) :
    Calls Try.prog 18 #[.slice a1 0 c1, .slice a2 0 c2] w fun e w' => e = .returned (.tuple #[.slice none 0 0, .int .i64 0]) ∧ w' = w := by
  go_enter Try.func18, Try.ntmps18
  go_wp2
  refine wp_loop_rounds 1 ?_
  rw [rounds_succ]
  go_wp2
  go_ret2
  exact ⟨rfl, rfl⟩
theorem refSum_uneven (a1 a2 : Option Addr) (n m c1 c2 : Nat) (h : ¬ n = m) (w : World) :
    Calls Try.prog 18 #[.slice a1 n c1, .slice a2 m c2] w fun e w' => e = .returned (.tuple #[.slice none 0 0, .int .i64 11]) ∧ w' = w := by
  have h0 : ((n : Int) != (m : Int)) = true := by simp; omega
  go_enter Try.func18, Try.ntmps18
  go_wp2
  go_ret2
  exact ⟨rfl, rfl⟩
end
theorem refScale_any {w : World} {a1 : Option Addr} {xs : List (BitVec 8)} (h1 : Rd w a1 xs) (c : BitVec 8) (n c1 : Nat) (hn : xs.length = n) (hm : n ≤ 140737488355328) :
    Calls Try.prog 17 #[.slice a1 n c1, .int .i64 (el c)] w fun e w' => ∃ p cap, e = .returned (.slice p n cap) ∧ Rd w' p (ls (fun i => gm (xs.getD i 0#8) c) n) ∧ Below w.heap.size w w' := by
  rcases h1 with h1 | ⟨b1, o1, rfl, hc1⟩
  · subst h1; subst hn
    refine (refScale_nil a1 c1 c w).mono ?_
    rintro e w' ⟨rfl, rfl⟩
    exact ⟨none, 0, rfl, .inl rfl, Below.refl _ _⟩
  · rw [hn] at hc1
    refine (refScale_core b1 o1 n c1 (fun i => xs.getD i 0#8) c w hm hc1).mono ?_
    rintro e w' ⟨v, rfl, ho, hb⟩
    obtain ⟨p, cap, rfl, _, hr⟩ := rd_owns ho
    exact ⟨p, cap, rfl, hr, hb⟩
theorem refSum_any {w : World} {a1 a2 : Option Addr} {xs ys : List (BitVec 8)} (h1 : Rd w a1 xs) (h2 : Rd w a2 ys) (n c1 c2 : Nat) (hn : xs.length = n) (hn2 : ys.length = n) (hm : n ≤ 140737488355328) :
    Calls Try.prog 18 #[.slice a1 n c1, .slice a2 n c2] w fun e w' => ∃ p cap, e = .returned (.tuple #[.slice p n cap, .int .i64 0]) ∧ Rd w' p (ls (fun i => xs.getD i 0#8 ^^^ ys.getD i 0#8) n) ∧ Below w.heap.size w w' := by
  have nil : n = 0 → Calls Try.prog 18 #[.slice a1 n c1, .slice a2 n c2] w fun e w' => ∃ p cap, e = .returned (.tuple #[.slice p n cap, .int .i64 0]) ∧ Rd w' p (ls (fun i => xs.getD i 0#8 ^^^ ys.getD i 0#8) n) ∧ Below w.heap.size w w' := by
    rintro rfl
    refine (refSum_nil a1 a2 c1 c2 w).mono ?_
    rintro e w' ⟨rfl, rfl⟩
    exact ⟨none, 0, rfl, .inl rfl, Below.refl _ _⟩
  rcases h1 with h1 | ⟨b1, o1, rfl, hc1⟩
  · subst h1; exact nil hn.symm
  · rcases h2 with h2 | ⟨b2, o2, rfl, hc2⟩
    · subst h2; exact nil hn2.symm
    · rw [hn] at hc1
      rw [hn2] at hc2
      refine (refSum_core b1 o1 b2 o2 n c1 c2 (fun i => xs.getD i 0#8) (fun i => ys.getD i 0#8) w hm hc1 hc2).mono ?_
      rintro e w' ⟨v, rfl, ho, hb⟩
      obtain ⟨p, cap, rfl, _, hr⟩ := rd_owns ho
      exact ⟨p, cap, rfl, hr, hb⟩
end Go.Proofs.Ytgienaikcpcpeab
