/-
  Texts in memory: strings, own rows of bytes, own lists of texts.
-/
import Derived.Test.YtkljlfhplnoldaaN9
import Derived.WalkKit
import Derived.WalkLawsBesides
import Derived.Outline
import Derived.OwnWalk
import Derived.Laws.MakeOwn
import Derived.Laws.IdiomStrings
import Derived.Laws.Strings
import Derived.Lib.AppendStr
import Derived.WalkSpells
import Derived.Deep.QuietTactic
import Derived.BigQuiet
import Derived.Deep.RegionWith
import Derived.Deep.RegionLaw
namespace Go.Proofs.Ytkljlfhplnoldaa
open Go.RowKit
/-- A byte in a cell. -/
def u8v (b : UInt8) : Value := .int .u8 (b.toNat : Int)
theorem enc_size (t : Tx) : (⟨t.toArray⟩ : ByteArray).size = t.length := by simp [ByteArray.size]
theorem enc_list (t : Tx) : (⟨t.toArray⟩ : ByteArray).data.toList = t := by simp
theorem enc_back (s : ByteArray) : Value.string s = encStr s.data.toList := by cases s; simp [encStr]
theorem info5 : (Try.prog.info? 5).map (fun i => (i.zero, i.size, i.bytes)) = some (some (.int .u8 0), 1, 1) := by kernel_rfl
theorem info9 : (Try.prog.info? 9).map (fun i => (i.zero, i.size, i.bytes)) = some (some (.string ⟨#[]⟩), 1, 16) := by kernel_rfl
theorem und5 : Try.prog.underlying 5 = some (.int .u8) := Try.underlying5
theorem undS : Try.prog.underlying 9 = some .string := Try.underlying9
/-- An own row of bytes. -/
def Ob (w : World) (base : Nat) (v : Value) (xs : Tx) : Prop := w.ownsRow base 5 1 v xs.length (xs.map u8v)
/-- A block that is a row of bytes. -/
def Rb (w : World) (g : Nat) (xs : Tx) : Prop := w.heap[g]? = some (.cells (xs.map u8v).toArray 5 (0, 0))
theorem Rb.cell {w : World} {g : Nat} {xs : Tx} (h : Rb w g xs) {i : Nat} (hi : i < xs.length) : w.cell? ⟨g, i, none⟩ = some (u8v (xs.getD i 0)) := by
  rw [cell_of_row w g i _ _ _ h]
  simp [hi]
theorem Rb.frozen {w : World} {g : Nat} {xs : Tx} (h : Rb w g xs) (i : Nat) : w.frozen? ⟨g, i, none⟩ = false := frozen_of_row w g i _ _ h
theorem Rb.set {w : World} {g : Nat} {xs : Tx} (h : Rb w g xs) (k : Nat) (v : UInt8) : Rb (w.setCell ⟨g, k, none⟩ (u8v v)) g (xs.set k v) := by
  unfold Rb; rw [heap_setCell_same w g k _ _ _ h]
  congr 2
  simp [List.map_set]
theorem Rb.lt {w : World} {g : Nat} {xs : Tx} (h : Rb w g xs) : g < w.heap.size := by
  rcases Nat.lt_or_ge g w.heap.size with h1 | h1
  · exact h1
  · unfold Rb at h; rw [Array.getElem?_eq_none h1] at h; cases h
theorem Rb.below {w w' : World} {g : Nat} {xs : Tx} (h : Rb w g xs) (hb : Below w.heap.size w w') : Rb w' g xs := by
  unfold Rb; rw [hb.block g h.lt]; exact h
theorem rb_new (w : World) (n : Nat) : Rb (w.alloc (.cells (Array.replicate n (.int .u8 0)) 5)) w.heap.size (List.replicate n 0) := by
  unfold Rb; rw [heap_alloc_new]
  congr 2
  simp [u8v]
theorem make_bytes (n : Nat) (hn : n ≤ 140737488355328) (w : World) : (Instr.makeSlice 45 (.int .i64 (n : Int)) (.int .i64 (n : Int))).run Try.prog w = .ok (.slice (some ⟨w.heap.size, 0, none⟩) n n) (w.alloc (.cells (Array.replicate n (.int .u8 0)) 5)) := by
  obtain ⟨i0, hi, hz0, hz1, hz2⟩ := info_parts info5
  have h := run_make (P := Try.prog) w 45 5 i0 (.int .u8 0) Try.underlying45 hi hz0 .i64 .i64 (n : Int) (n : Int) (by omega) (by omega) (by rw [hz2]; omega) (by omega)
  rw [h, hz1]
  have e : madeCells (Value.int .u8 0).cells ((n : Int).toNat * 1) = Array.replicate n (.int .u8 0) := by
    apply Array.ext_getElem?
    intro i
    simp only [madeCells, Int.toNat_natCast, Nat.mul_one]
    by_cases hin : i < n
    · simp [hin, Value.cells]
      rw [Nat.mod_one]; rfl
    · rw [Array.getElem?_eq_none (by simp; omega), Array.getElem?_eq_none (by simp; omega)]
  rw [e, Int.toNat_natCast]
theorem add_pl (b o j : Nat) : (⟨b, o, none⟩ : Addr).add j = ⟨b, o + j, none⟩ := by unfold Addr.add; split <;> simp_all
/-- string(row), of a row whose bytes are known. -/
theorem conv_at {w : World} {b o : Nat} {xs : Tx} (h : ∀ i, i < xs.length → w.cell? ⟨b, o + i, none⟩ = some (u8v (xs.getD i 0))) (n c : Nat) (hn : xs.length = n) : (convert 45 9 (.slice (some ⟨b, o, none⟩) n c)).run Try.prog w = .ok (encStr xs) w := by
  subst hn
  refine run_convert_bytes_back (P := Try.prog) w 45 9 5 ⟨b, o, none⟩ c xs Try.underlying45 und5 undS fun j hj => ?_
  have := h j hj
  simp only [List.getD, List.getElem?_eq_getElem hj, Option.getD_some] at this
  rw [add_pl]
  exact this
theorem Ob.shape {w : World} {base : Nat} {v : Value} {xs : Tx} (h : Ob w base v xs) (hx : xs ≠ []) : ∃ g c, v = .slice (some ⟨g, 0, none⟩) xs.length c ∧ ∀ i, i < xs.length → w.cell? ⟨g, 0 + i, none⟩ = some (u8v (xs.getD i 0)) := by
  rcases h.2 with ⟨hv, h1⟩ | ⟨g, cap, cur, hv, hg, hb, h1, h2, h3, h4⟩
  · exfalso
    cases xs with
    | nil => exact hx rfl
    | cons a t => simp at h1
  · refine ⟨g, cap, hv, fun i hi => ?_⟩
    rw [Nat.zero_add, cell_of_row w g i _ _ _ hb]
    have : (xs.map u8v)[i]? = some (u8v (xs.getD i 0)) := by simp [hi]
    rw [← this, ← h4]
    simp [hi]
/-- A text's byte. -/
theorem idx_k (t : Tx) (k : IntKind) (i : Nat) (hi : i < t.length) (w : World) : (Instr.index 9 (.string ⟨t.toArray⟩) (.int k (i : Int))).run Try.prog w = .ok (u8v (t.getD i 0)) w := by
  have := run_index_string (P := Try.prog) (w := w) 9 ⟨t.toArray⟩ k (i : Int) undS
  have hs : i < (⟨t.toArray⟩ : ByteArray).size := by rw [enc_size]; exact hi
  rw [this, dif_pos ⟨by omega, by omega⟩]
  have e : (⟨t.toArray⟩ : ByteArray)[(i : Int).toNat]'(by omega) = t.getD i 0 := by
    simp only [Int.toNat_natCast, List.getD, List.getElem?_eq_getElem hi, Option.getD_some]
    rfl
  rw [e]
  rfl
theorem idx_at (t : Tx) (i : Nat) (hi : i < t.length) (w : World) : (Instr.index 9 (.string ⟨t.toArray⟩) (.int .i64 (i : Int))).run Try.prog w = .ok (u8v (t.getD i 0)) w := idx_k t .i64 i hi w
theorem step_append_own {P : Program} {ops : Array Oper} {o : Oper} {a : Act} {w : World} {K : Act → World → Prop} {Q : Exit → Act → World → Prop} {E : Prop}
    (hg : o.guard = none) (s x : Operand) (t : TypeId) (ho : o.op = .call { callee := .builtin .append, args := #[s, x], argTypes := #[t, t] })
    (base : Nat) (e : TypeId) (i : TypeInfo) (z : Value) (size bytes : Nat) (ht : P.underlying t = some (.slice e)) (hi : P.info? e = some i) (hz : i.zero = some z)
    (hsize : i.size = size) (hby : i.bytes = bytes) (hzs : z.cells.size = size) (hsz : 0 < size)
    (v : Value) (n : Nat) (xs : List Value) (hs : a.eval s = v) (hown : w.ownsRow base e size v n xs)
    (ad : Addr) (m c : Nat) (news : List Value) (hx : a.eval x = .slice (some ad) m c) (hl : news.length = m * size) (hnews : ∀ j u, news[j]? = some u → w.cell? (ad.add j) = some u) (h1 : ∀ u ∈ news, u.oneCell' = true)
    (h63 : n + m ≤ maxLen) (hbytes : (n + m) * bytes ≤ 140737488355328) (hbase : base ≤ w.heap.size)
    (h : ∀ v' w', w'.ownsRow base e size v' (n + m) (xs ++ news) → w.grownBy w' v.ownBlock → K (a.put o.dst v') w') :
    if Region.wanted o (yielded ops a.tmps) = true then Oper.wp P o a w K Q else E := by
  have hw : Region.wanted o (yielded ops a.tmps) = true := by simp [Region.wanted, hg]
  rw [if_pos hw]
  exact wp_append_own w s x t ho base e i z size bytes ht hi hz hsize hby hzs hsz v n xs hs hown ad m c news hx hl hnews h1 h63 hbytes hbase (fun v' w' a b _ => h v' w' a b)

/-- Two new cells. -/
theorem two_new (w : World) (u v : Value) (t : TypeId) : ∀ j x, ([u, v] : List Value)[j]? = some x → (w.alloc (.cells #[u, v] t)).cell? ((⟨w.heap.size, 0, none⟩ : Addr).add j) = some x := by
  intro j x hj
  match j, hj with
  | 0, hj =>
    simp at hj; subst hj
    rw [add_pl, cell_of_row _ _ _ _ _ (0, 0) (heap_alloc_new w _)]; rfl
  | 1, hj =>
    simp at hj; subst hj
    rw [add_pl, cell_of_row _ _ _ _ _ (0, 0) (heap_alloc_new w _)]; rfl
theorem one_new (w : World) (v : Value) (t : TypeId) : ∀ j u, ([v] : List Value)[j]? = some u → (w.alloc (.cells #[v] t)).cell? ((⟨w.heap.size, 0, none⟩ : Addr).add j) = some u := by
  intro j u hj
  match j, hj with
  | 0, hj =>
    simp at hj; subst hj
    rw [add_pl, cell_of_row _ _ _ _ _ (0, 0) (heap_alloc_new w _)]; rfl
/-- The table of digits. -/
def digs : Tx := [48, 49, 50, 51, 52, 53, 54, 55, 56, 57, 97, 98, 99, 100, 101, 102]
theorem digs_at (n : Nat) (h : n < 16) : digs.getD n 0 = dig n := by
  have : ∀ n < 16, digs.getD n 0 = dig n := by decide
  exact this n h
/-- A byte's two digits, as the program finds them. -/
theorem halves (c : UInt8) : ∃ q r d e : Int, Value.int .u8 d = u8v (dig (c.toNat / 16)) ∧ Value.int .u8 e = u8v (dig (c.toNat % 16)) ∧ (∀ w, (binOp .quo 5 (u8v c) (.int .u8 16)).run Try.prog w = .ok (.int .u8 q) w) ∧ (∀ w, (binOp .rem 5 (u8v c) (.int .u8 16)).run Try.prog w = .ok (.int .u8 r) w)
    ∧ (∀ w, (Instr.index 9 (.string ⟨#[48, 49, 50, 51, 52, 53, 54, 55, 56, 57, 97, 98, 99, 100, 101, 102]⟩) (.int .u8 q)).run Try.prog w = .ok (.int .u8 d) w) ∧ (∀ w, (Instr.index 9 (.string ⟨#[48, 49, 50, 51, 52, 53, 54, 55, 56, 57, 97, 98, 99, 100, 101, 102]⟩) (.int .u8 r)).run Try.prog w = .ok (.int .u8 e) w) := by
  have hc := UInt8.toNat_lt c
  refine ⟨((c.toNat / 16 : Nat) : Int), ((c.toNat % 16 : Nat) : Int), _, _, rfl, rfl, fun w => ?_, fun w => ?_, fun w => ?_, fun w => ?_⟩
  · unfold u8v
    go_simp
    unfold IntKind.wrap
    simp only [IntKind.signed, IntKind.bits]
    simp
    omega
  · unfold u8v
    go_simp
    exact Int.tmod_eq_emod_of_nonneg (by omega)
  · have := idx_k digs .u8 (c.toNat / 16) (by show _ < 16; omega) w
    rw [digs_at _ (by omega)] at this
    exact this
  · have := idx_k digs .u8 (c.toNat % 16) (by show _ < 16; omega) w
    rw [digs_at _ (by omega)] at this
    exact this
end Go.Proofs.Ytkljlfhplnoldaa
