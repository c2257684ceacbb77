/-
  Lists and rows of the call's own.
-/
import Derived.Test.YtgokkppojhokbaaScaleb
import Derived.Deep.RegionLaw
namespace Go.Proofs.Ytgokkppojhokbaa
open Go.RowKit

/-- The list of n elements. -/
def ls (f : Nat → BitVec 8) (n : Nat) : List (BitVec 8) := (List.range n).map f
theorem ls_len (f : Nat → BitVec 8) (n : Nat) : (ls f n).length = n := by simp [ls]
theorem ls_get (f : Nat → BitVec 8) (n i : Nat) (h : i < n) : (ls f n).getD i 0#8 = f i := by simp [ls, List.getD, h]
theorem ls_congr {f g : Nat → BitVec 8} {n : Nat} (h : ∀ i, i < n → f i = g i) : ls f n = ls g n := by
  unfold ls; apply List.map_congr_left; intro i hi; exact h i (List.mem_range.1 hi)
theorem ls_self (xs : List (BitVec 8)) : ls (fun i => xs.getD i 0#8) xs.length = xs := by
  apply List.ext_getElem?
  intro i
  unfold ls
  rw [List.getElem?_map]
  by_cases hi : i < xs.length
  · rw [List.getElem?_range hi, List.getElem?_eq_getElem hi]
    simp [List.getElem?_eq_getElem hi]
  · rw [List.getElem?_eq_none (by simp; omega), List.getElem?_eq_none (by omega)]; rfl
theorem Own.rdl {w : World} {t : TypeId} {g : Nat} {f : Nat → BitVec 8} {n : Nat} (h : Own w t g f n) : Rd w (some ⟨g, 0, none⟩) (ls f n) := h.rd

def vs (x : Nat → BitVec 8) (m : Nat) : List Value := (List.range m).map fun i => Value.int .u8 (el (x i))
theorem vs_zero (x : Nat → BitVec 8) : vs x 0 = [] := rfl
theorem el_w (a : BitVec 8) : wrap64 (el a) = el a := by have := el_bd a; unfold wrap64; omega
theorem own_none (t : TypeId) (w : World) (base : Nat) (x : Nat → BitVec 8) : w.ownsRow base t 1 (.slice none 0 0) 0 (vs x 0) := World.ownsRow_nil _ _ _ _
theorem vs_succ (x : Nat → BitVec 8) (m : Nat) : vs x (m + 1) = vs x m ++ [.int .u8 (el (x m))] := by
  unfold vs; rw [List.range_succ, List.map_append]; rfl
theorem vs_at (x : Nat → BitVec 8) (m j : Nat) (h : j < m) : (vs x m)[j]? = some (.int .u8 (el (x j))) := by
  unfold vs; rw [List.getElem?_map, List.getElem?_range h]; rfl
theorem add_plN (b o j : Nat) : (⟨b, o, none⟩ : Addr).add j = ⟨b, o + j, none⟩ := by unfold Addr.add; split <;> simp_all
/-- What is owned reads so. -/
theorem rd_owns {t : TypeId} {w : World} {base n : Nat} {v : Value} {x : Nat → BitVec 8} (h : w.ownsRow base t 1 v n (vs x n)) : ∃ p cap, v = .slice p n cap ∧ n ≤ cap ∧ Rd w p (ls x n) := by
  rcases h.2 with ⟨hv, h0⟩ | ⟨g, cap, c, hv, hg, hh, hc, hm, hs, ht⟩
  · subst h0; exact ⟨none, 0, hv, Nat.le_refl _, .inl rfl⟩
  · refine ⟨some ⟨g, 0, none⟩, cap, hv, hc, .inr ⟨g, 0, rfl, fun i hi => ?_⟩⟩
    have hi' : i < n := by rwa [ls_len] at hi
    rw [Nat.zero_add, cell_of_row w g i _ _ _ hh, ls_get _ _ _ hi']
    rw [Nat.mul_one] at ht
    have h1 : (c.toList.take n)[i]? = some (.int .u8 (el (x i))) := by rw [ht, vs_at x n i hi']
    rw [List.getElem?_take_of_lt hi'] at h1
    simpa using h1
theorem below_appendN {t : TypeId} {w w' : World} {base n : Nat} {v : Value} {xs : List Value} {B : Nat} {a : World} (hb : Below B a w) (hB : B ≤ w.heap.size) (hg : w.grownBy w' v.ownBlock) (ho : w.ownsRow base t 1 v n xs) (hbase : B ≤ base) : Below B a w' :=
  hb.grown hg hB (fun k hk => Nat.le_trans hbase (ho.lt k hk).1)
theorem one_newN (w : World) (v : Value) (t : TypeId) : ∀ j u, ([v] : List Value)[j]? = some u → (w.alloc (.cells #[v] t)).cell? ((⟨w.heap.size, 0, none⟩ : Addr).add j) = some u := by
  intro j u hj
  match j, hj with
  | 0, hj =>
    simp at hj; subst hj
    rw [add_plN, cell_of_row _ _ _ _ _ (0, 0) (heap_alloc_new w _)]; rfl
theorem one_cell (k : IntKind) (z : Int) : ∀ u ∈ ([.int k z] : List Value), u.oneCell' = true := by
  intro u hu; simp at hu; subst hu; rfl
theorem step_append_own {P : Program} {ops : Array Oper} {o : Oper} {a : Act} {w : World} {K : Act → World → Prop} {Q : Exit → Act → World → Prop} {E : Prop}
    (hg : o.guard = none) (s x : Operand) (t : TypeId) (ho : o.op = .call { callee := .builtin .append, args := #[s, x], argTypes := #[t, t] })
    (base : Nat) (e : TypeId) (i : TypeInfo) (z : Value) (size bytes : Nat) (ht : P.underlying t = some (.slice e)) (hi : P.info? e = some i) (hz : i.zero = some z)
    (hsize : i.size = size) (hby : i.bytes = bytes) (hzs : z.cells.size = size) (hsz : 0 < size)
    (v : Value) (n : Nat) (xs : List Value) (hs : a.eval s = v) (hown : w.ownsRow base e size v n xs)
    (ad : Addr) (m c : Nat) (news : List Value) (hx : a.eval x = .slice (some ad) m c) (hl : news.length = m * size) (hnews : ∀ j u, news[j]? = some u → w.cell? (ad.add j) = some u) (h1 : ∀ u ∈ news, u.oneCell' = true)
    (h63 : n + m ≤ maxLen) (hbytes : (n + m) * bytes ≤ 140737488355328) (hbase : base ≤ w.heap.size)
    (h : ∀ v' w', w'.ownsRow base e size v' (n + m) (xs ++ news) → w.grownBy w' v.ownBlock → K (a.put o.dst v') w') :
    if Region.wanted o (yielded ops a.tmps) = true then Oper.wp P o a w K Q else E := by
  have hw : Region.wanted o (yielded ops a.tmps) = true := by simp [Region.wanted, hg]
  rw [if_pos hw]
  exact wp_append_own w s x t ho base e i z size bytes ht hi hz hsize hby hzs hsz v n xs hs hown ad m c news hx hl hnews h1 h63 hbytes hbase (fun v' w' a b _ => h v' w' a b)

theorem vs_congr {f g : Nat → BitVec 8} {n : Nat} (h : ∀ i, i < n → f i = g i) : vs f n = vs g n := by
  unfold vs; apply List.map_congr_left; intro i hi; rw [h i (List.mem_range.1 hi)]
theorem vs_len (f : Nat → BitVec 8) (n : Nat) : (vs f n).length = n := by simp [vs]
theorem vs_one (x : Nat → BitVec 8) (m : Nat) : ∀ u ∈ vs x m, u.oneCell' = true := by
  intro u hu
  unfold vs at hu
  obtain ⟨i, _, rfl⟩ := List.mem_map.1 hu
  rfl
theorem vs_src {w : World} {b o n : Nat} {x : Nat → BitVec 8} (hc : ∀ i, i < n → w.cell? ⟨b, o + i, none⟩ = some (.int .u8 (el (x i)))) : ∀ j u, (vs x n)[j]? = some u → w.cell? ((⟨b, o, none⟩ : Addr).add j) = some u := by
  intro j u hu
  have hj : j < n := by
    rcases Nat.lt_or_ge j n with h | h
    · exact h
    · rw [List.getElem?_eq_none (by rw [vs_len]; exact h)] at hu; cases hu
  rw [vs_at x n j hj] at hu
  rw [add_plN, hc j hj]; exact hu

end Go.Proofs.Ytgokkppojhokbaa
