/-
  Texts in memory (as Nb, without the names' mathematics).
-/
import Derived.Test.YtjobaeopokfekaaGreatRows
import Derived.Sort.KeysCollected
import Derived.WalkKit
import Derived.WalkLawsBesides
import Derived.Outline
import Derived.OwnWalk
import Derived.Laws.MakeOwn
import Derived.Laws.IdiomStrings
import Derived.Laws.Strings
import Derived.Lib.AppendStr
import Derived.WalkSpells
import Derived.Deep.QuietTactic
import Derived.BigQuiet
import Derived.Deep.RegionWith
import Derived.Deep.RegionLaw
import Derived.Maps.OwnSet
namespace Go.Proofs.YtjobaeopokfekaaGreat
open Go.RowKit
/-- A text: its bytes. -/
abbrev Tx := List UInt8
/-- A byte in a cell. -/
def u8v (b : UInt8) : Value := .int .u8 (b.toNat : Int)
theorem enc_size (t : Tx) : (⟨t.toArray⟩ : ByteArray).size = t.length := by simp [ByteArray.size]
theorem enc_list (t : Tx) : (⟨t.toArray⟩ : ByteArray).data.toList = t := by simp
theorem enc_back (s : ByteArray) : Value.string s = encStr s.data.toList := by cases s; simp [encStr]
theorem info5D : (Tryz.prog.info? 5).map (fun i => (i.zero, i.size, i.bytes)) = some (some (.int .u8 0), 1, 1) := by kernel_rfl
theorem info9D : (Tryz.prog.info? 9).map (fun i => (i.zero, i.size, i.bytes)) = some (some (.string ⟨#[]⟩), 1, 16) := by kernel_rfl
theorem und5D : Tryz.prog.underlying 5 = some (.int .u8) := Tryz.underlying5
theorem undSD : Tryz.prog.underlying 9 = some .string := Tryz.underlying9
/-- An own row of bytes. -/
def Ob (w : World) (base : Nat) (v : Value) (xs : Tx) : Prop := w.ownsRow base 5 1 v xs.length (xs.map u8v)
/-- A block that is a row of bytes. -/
def Rb (w : World) (g : Nat) (xs : Tx) : Prop := w.heap[g]? = some (.cells (xs.map u8v).toArray 5 (0, 0))
theorem Rb.cell {w : World} {g : Nat} {xs : Tx} (h : Rb w g xs) {i : Nat} (hi : i < xs.length) : w.cell? ⟨g, i, none⟩ = some (u8v (xs.getD i 0)) := by
  rw [cell_of_row w g i _ _ _ h]
  simp [hi]
theorem Rb.frozen {w : World} {g : Nat} {xs : Tx} (h : Rb w g xs) (i : Nat) : w.frozen? ⟨g, i, none⟩ = false := frozen_of_row w g i _ _ h
theorem Rb.set {w : World} {g : Nat} {xs : Tx} (h : Rb w g xs) (k : Nat) (v : UInt8) : Rb (w.setCell ⟨g, k, none⟩ (u8v v)) g (xs.set k v) := by
  unfold Rb; rw [heap_setCell_same w g k _ _ _ h]
  congr 2
  simp [List.map_set]
theorem Rb.lt {w : World} {g : Nat} {xs : Tx} (h : Rb w g xs) : g < w.heap.size := by
  rcases Nat.lt_or_ge g w.heap.size with h1 | h1
  · exact h1
  · unfold Rb at h; rw [Array.getElem?_eq_none h1] at h; cases h
theorem Rb.below {w w' : World} {g : Nat} {xs : Tx} (h : Rb w g xs) (hb : Below w.heap.size w w') : Rb w' g xs := by
  unfold Rb; rw [hb.block g h.lt]; exact h
theorem rb_new (w : World) (n : Nat) : Rb (w.alloc (.cells (Array.replicate n (.int .u8 0)) 5)) w.heap.size (List.replicate n 0) := by
  unfold Rb; rw [heap_alloc_new]
  congr 2
  simp [u8v]
theorem make_bytesD (n : Nat) (hn : n ≤ 140737488355328) (w : World) : (Instr.makeSlice 22 (.int .i64 (n : Int)) (.int .i64 (n : Int))).run Tryz.prog w = .ok (.slice (some ⟨w.heap.size, 0, none⟩) n n) (w.alloc (.cells (Array.replicate n (.int .u8 0)) 5)) := by
  obtain ⟨i0, hi, hz0, hz1, hz2⟩ := info_parts info5D
  have h := run_make (P := Tryz.prog) w 22 5 i0 (.int .u8 0) Tryz.underlying22 hi hz0 .i64 .i64 (n : Int) (n : Int) (by omega) (by omega) (by rw [hz2]; omega) (by omega)
  rw [h, hz1]
  have e : madeCells (Value.int .u8 0).cells ((n : Int).toNat * 1) = Array.replicate n (.int .u8 0) := by
    apply Array.ext_getElem?
    intro i
    simp only [madeCells, Int.toNat_natCast, Nat.mul_one]
    by_cases hin : i < n
    · simp [hin, Value.cells]
      rw [Nat.mod_one]; rfl
    · rw [Array.getElem?_eq_none (by simp; omega), Array.getElem?_eq_none (by simp; omega)]
  rw [e, Int.toNat_natCast]
theorem add_plD (b o j : Nat) : (⟨b, o, none⟩ : Addr).add j = ⟨b, o + j, none⟩ := by unfold Addr.add; split <;> simp_all
/-- string(row), of a row whose bytes are known. -/
theorem conv_at {w : World} {b o : Nat} {xs : Tx} (h : ∀ i, i < xs.length → w.cell? ⟨b, o + i, none⟩ = some (u8v (xs.getD i 0))) (n c : Nat) (hn : xs.length = n) : (convert 22 9 (.slice (some ⟨b, o, none⟩) n c)).run Tryz.prog w = .ok (encStr xs) w := by
  subst hn
  refine run_convert_bytes_back (P := Tryz.prog) w 22 9 5 ⟨b, o, none⟩ c xs Tryz.underlying22 und5D undSD fun j hj => ?_
  have := h j hj
  simp only [List.getD, List.getElem?_eq_getElem hj, Option.getD_some] at this
  rw [add_plD]
  exact this
theorem Ob.shape {w : World} {base : Nat} {v : Value} {xs : Tx} (h : Ob w base v xs) (hx : xs ≠ []) : ∃ g c, v = .slice (some ⟨g, 0, none⟩) xs.length c ∧ ∀ i, i < xs.length → w.cell? ⟨g, 0 + i, none⟩ = some (u8v (xs.getD i 0)) := by
  rcases h.2 with ⟨hv, h1⟩ | ⟨g, cap, cur, hv, hg, hb, h1, h2, h3, h4⟩
  · exfalso
    cases xs with
    | nil => exact hx rfl
    | cons a t => simp at h1
  · refine ⟨g, cap, hv, fun i hi => ?_⟩
    rw [Nat.zero_add, cell_of_row w g i _ _ _ hb]
    have : (xs.map u8v)[i]? = some (u8v (xs.getD i 0)) := by simp [hi]
    rw [← this, ← h4]
    simp [hi]
/-- A text's byte. -/
theorem idx_k (t : Tx) (k : IntKind) (i : Nat) (hi : i < t.length) (w : World) : (Instr.index 9 (.string ⟨t.toArray⟩) (.int k (i : Int))).run Tryz.prog w = .ok (u8v (t.getD i 0)) w := by
  have := run_index_string (P := Tryz.prog) (w := w) 9 ⟨t.toArray⟩ k (i : Int) undSD
  have hs : i < (⟨t.toArray⟩ : ByteArray).size := by rw [enc_size]; exact hi
  rw [this, dif_pos ⟨by omega, by omega⟩]
  have e : (⟨t.toArray⟩ : ByteArray)[(i : Int).toNat]'(by omega) = t.getD i 0 := by
    simp only [Int.toNat_natCast, List.getD, List.getElem?_eq_getElem hi, Option.getD_some]
    rfl
  rw [e]
  rfl
theorem idx_at (t : Tx) (i : Nat) (hi : i < t.length) (w : World) : (Instr.index 9 (.string ⟨t.toArray⟩) (.int .i64 (i : Int))).run Tryz.prog w = .ok (u8v (t.getD i 0)) w := idx_k t .i64 i hi w
theorem step_append_ownD {P : Program} {ops : Array Oper} {o : Oper} {a : Act} {w : World} {K : Act → World → Prop} {Q : Exit → Act → World → Prop} {E : Prop}
    (hg : o.guard = none) (s x : Operand) (t : TypeId) (ho : o.op = .call { callee := .builtin .append, args := #[s, x], argTypes := #[t, t] })
    (base : Nat) (e : TypeId) (i : TypeInfo) (z : Value) (size bytes : Nat) (ht : P.underlying t = some (.slice e)) (hi : P.info? e = some i) (hz : i.zero = some z)
    (hsize : i.size = size) (hby : i.bytes = bytes) (hzs : z.cells.size = size) (hsz : 0 < size)
    (v : Value) (n : Nat) (xs : List Value) (hs : a.eval s = v) (hown : w.ownsRow base e size v n xs)
    (ad : Addr) (m c : Nat) (news : List Value) (hx : a.eval x = .slice (some ad) m c) (hl : news.length = m * size) (hnews : ∀ j u, news[j]? = some u → w.cell? (ad.add j) = some u) (h1 : ∀ u ∈ news, u.oneCell' = true)
    (h63 : n + m ≤ maxLen) (hbytes : (n + m) * bytes ≤ 140737488355328) (hbase : base ≤ w.heap.size)
    (h : ∀ v' w', w'.ownsRow base e size v' (n + m) (xs ++ news) → w.grownBy w' v.ownBlock → K (a.put o.dst v') w') :
    if Region.wanted o (yielded ops a.tmps) = true then Oper.wp P o a w K Q else E := by
  have hw : Region.wanted o (yielded ops a.tmps) = true := by simp [Region.wanted, hg]
  rw [if_pos hw]
  exact wp_append_own w s x t ho base e i z size bytes ht hi hz hsize hby hzs hsz v n xs hs hown ad m c news hx hl hnews h1 h63 hbytes hbase (fun v' w' a b _ => h v' w' a b)

/-- Two new cells. -/
theorem two_newD (w : World) (u v : Value) (t : TypeId) : ∀ j x, ([u, v] : List Value)[j]? = some x → (w.alloc (.cells #[u, v] t)).cell? ((⟨w.heap.size, 0, none⟩ : Addr).add j) = some x := by
  intro j x hj
  match j, hj with
  | 0, hj =>
    simp at hj; subst hj
    rw [add_plD, cell_of_row _ _ _ _ _ (0, 0) (heap_alloc_new w _)]; rfl
  | 1, hj =>
    simp at hj; subst hj
    rw [add_plD, cell_of_row _ _ _ _ _ (0, 0) (heap_alloc_new w _)]; rfl
theorem one_newD (w : World) (v : Value) (t : TypeId) : ∀ j u, ([v] : List Value)[j]? = some u → (w.alloc (.cells #[v] t)).cell? ((⟨w.heap.size, 0, none⟩ : Addr).add j) = some u := by
  intro j u hj
  match j, hj with
  | 0, hj =>
    simp at hj; subst hj
    rw [add_plD, cell_of_row _ _ _ _ _ (0, 0) (heap_alloc_new w _)]; rfl
theorem cell_belowD {w w' : World} {p : Addr} {v : Value} (h : w.cell? p = some v) (hb : Below w.heap.size w w') : w'.cell? p = some v := by
  rw [hb.cell (p := p) (block_lt_of_cell h)]; exact h
theorem btD {u v x : World} (h : Below u.heap.size u v) (k : Below v.heap.size v x) : Below u.heap.size u x := h.trans (k.mono h.size)
theorem ballocD {w w' : World} (h : Below w.heap.size w w') (o : Obj) : Below w.heap.size w (w'.alloc o) := h.alloc h.size o
/-- A block's number is below the heap's size. -/
theorem blt {w : World} {g : Nat} {o : Obj} (h : w.heap[g]? = some o) : g < w.heap.size := (Array.getElem?_eq_some_iff.1 h).1
end Go.Proofs.YtjobaeopokfekaaGreat
/-
  A drive as mathematics: bodies by their numbers, two directories, pending changes.
-/
namespace Go.Proofs.YtjobaeopokfekaaGreat
open Go.RowKit Go.Maps
/-- A body: its bytes, how many of them are safe. -/
structure Bd where
  data : Tx
  safe : Nat
/-- A lead: a name, and the number of the body to which it leads; none: to none. -/
abbrev Ld := Tx × Option Nat
/-- A directory, as the library reads a map: of a name the number of its body. -/
abbrev Dir := DataW Unit
/-- A drive. -/
structure Ds where
  room : Nat
  used : Int
  st : Dir
  sf : Dir
  pend : List (List Ld)
  bs : List Bd
/-- A body's number as an element. -/
def ip (i : Nat) : DataW Unit := .lit (.int .i64 i)
/-- What an element says. -/
def pi (d : DataW Unit) : Option Nat := match d with
  | .lit (.int _ n) => some n.toNat
  | _ => none
/-- To which body a name leads. -/
def lk (D : Dir) (x : Tx) : Option Nat := pi (D.atKey (.string x) .nil)
theorem pi_ip (i : Nat) : pi (ip i) = some i := by simp [pi, ip]
theorem pi_nil : pi .nil = none := rfl
theorem lk_put_same {D : Dir} (h : IsMap D) (x : Tx) (i : Nat) : lk (D.put (.string x) (ip i)) x = some i := by
  unfold lk; rw [atKey_put_same h (by simp [WideAt.IsKeyLit]), pi_ip]
theorem lk_put_other {D : Dir} {x y : Tx} (h : y ≠ x) (i : Nat) : lk (D.put (.string x) (ip i)) y = lk D y := by
  unfold lk; rw [atKey_put_other (by intro e; injection e with e; exact h e)]
theorem lk_del_same {D : Dir} (x : Tx) : lk (D.del (.string x)) x = none := by
  unfold lk; rw [atKey_del_same]; rfl
theorem lk_del_other {D : Dir} {x y : Tx} (h : y ≠ x) : lk (D.del (.string x)) y = lk D y := by
  unfold lk; rw [atKey_del_other (by intro e; injection e with e; exact h e)]
theorem lk_none (x : Tx) : lk (.map []) x = none := rfl
/-- A lead followed. -/
def fol1 (D : Dir) (l : Ld) : Dir := match l.2 with
  | none => D.del (.string l.1)
  | some i => D.put (.string l.1) (ip i)
/-- A change followed. -/
def fol (D : Dir) (c : List Ld) : Dir := c.foldl fol1 D
theorem fol1_isMap {D : Dir} (h : IsMap D) (l : Ld) : IsMap (fol1 D l) := by
  unfold fol1; split
  · exact h.del _
  · exact h.put _ _
theorem fol_isMap {D : Dir} (h : IsMap D) (c : List Ld) : IsMap (fol D c) := by
  unfold fol
  induction c generalizing D with
  | nil => exact h
  | cons l c ih => exact ih (fol1_isMap h l)
/-- A body's size; none has none. -/
def sz (bs : List Bd) : Option Nat → Nat
  | none => 0
  | some i => (bs.getD i ⟨[], 0⟩).data.length
/-- What is used behind a change. -/
def usd (bs : List Bd) (D : Dir) (u : Int) (c : List Ld) : Int := c.foldl (fun u l => u + ((sz bs l.2 : Int) - (sz bs (lk D l.1) : Int))) u
/-- A change is made in what stands. -/
def Ds.change (σ : Ds) (c : List Ld) : Ds := { σ with used := usd σ.bs σ.st σ.used c, st := fol σ.st c, pend := σ.pend ++ [c] }
/-- Is it a name? -/
def isN (x : Tx) : Bool := decide (1 ≤ x.length) && decide (x.length ≤ 1024)
/-- A body's bytes. -/
def Ds.body (σ : Ds) (i : Nat) : Bd := σ.bs.getD i ⟨[], 0⟩
def Ds.setBody (σ : Ds) (i : Nat) (b : Bd) : Ds := { σ with bs := σ.bs.set i b }
/-- A name's body, or the error: 91 no name, 110 missing. -/
def Ds.find (σ : Ds) (x : Tx) : Nat ⊕ Nat := if isN x then (match lk σ.st x with | none => .inl 110 | some i => .inr i) else .inl 91
def Ds.create (σ : Ds) (x : Tx) : Nat × Ds :=
  if isN x then if lk σ.st x = none ∧ 65536 ≤ Maps.size σ.st then (112, σ) else (0, ({ σ with bs := σ.bs ++ [⟨[], 0⟩] } : Ds).change [(x, some σ.bs.length)]) else (91, σ)
def Ds.append (σ : Ds) (x d : Tx) : Nat × Ds := match σ.find x with
  | .inl e => (e, σ)
  | .inr i => if d = [] then (0, σ) else if (σ.room : Int) < σ.used + d.length then (111, σ) else (0, { (σ.setBody i ⟨(σ.body i).data ++ d, (σ.body i).safe⟩) with used := σ.used + d.length })
def Ds.sync (σ : Ds) (x : Tx) : Nat × Ds := match σ.find x with
  | .inl e => (e, σ)
  | .inr i => (0, σ.setBody i ⟨(σ.body i).data, (σ.body i).data.length⟩)
def Ds.rename (σ : Ds) (x y : Tx) : Nat × Ds := if isN y then (match σ.find x with
  | .inl e => (e, σ)
  | .inr i => if x = y then (0, σ) else (0, σ.change [(x, none), (y, some i)])) else (91, σ)
def Ds.remove (σ : Ds) (x : Tx) : Nat × Ds := match σ.find x with
  | .inl e => (e, σ)
  | .inr _ => (0, σ.change [(x, none)])
def Ds.syncDir (σ : Ds) : Ds := { σ with sf := σ.pend.foldl fol σ.sf, pend := [] }
def Ds.read (σ : Ds) (x : Tx) : Nat × Tx := match σ.find x with
  | .inl e => (e, [])
  | .inr i => (0, (σ.body i).data)
/-- A drive at first. -/
def Ds.new (room : Nat) : Ds := ⟨room, 0, .map [], .map [], [], []⟩
end Go.Proofs.YtjobaeopokfekaaGreat
/-
  A drive in memory.
-/
namespace Go.Proofs.YtjobaeopokfekaaGreat
open Go.RowKit Go.Maps
theorem lawS : Keyed Tryz.prog 9 := string_keyed Tryz.underlying9
theorem key_enc {x : Tx} (h : x.length ≤ maxLen) : keyOf Tryz.prog 9 (encStr x) = some (.string x) := by
  simp [keyOf, mapKey, enc_size, h]
/-- The pointer to a body. -/
def pta (m : List Nat) : Option Nat → Option Addr
  | none => none
  | some i => some ⟨m.getD i 0, 0, none⟩
def ptv (m : List Nat) (o : Option Nat) : Value := .pointer (pta m o)
/-- How an element of a directory reads: as its body's number. -/
def ptR (m : List Nat) : Value → Option (DataW Unit × List MemPlace)
  | .pointer (some a) => if a.off = 0 ∧ a.spot = none then (m.idxOf? a.block).map fun i => (ip i, []) else none
  | .pointer none => some (.nil, [])
  | _ => none
theorem idx_of {m : List Nat} (hn : m.Nodup) {i : Nat} (h : i < m.length) : m.idxOf? (m.getD i 0) = some i := by
  have e : m.getD i 0 = m[i] := by simp [h]
  rw [e, List.idxOf?_eq_some_iff]
  refine ⟨h, by simp, fun j hj e2 => ?_⟩
  have e3 : m[j] = m[i] := by simpa using e2
  have := (List.getElem_inj hn).1 e3
  omega
theorem idx_is {m : List Nat} {b i : Nat} (h : m.idxOf? b = some i) : i < m.length ∧ m.getD i 0 = b := by
  rw [List.idxOf?_eq_some_iff] at h
  obtain ⟨h1, h2, _⟩ := h
  exact ⟨h1, by simp [h1]; simpa using h2⟩
theorem idx_more {m : List Nat} {b i : Nat} (h : m.idxOf? b = some i) (more : List Nat) : (m ++ more).idxOf? b = some i := by
  rw [List.idxOf?_eq_some_iff] at h ⊢
  obtain ⟨h1, h2, h3⟩ := h
  refine ⟨by simp; omega, by rw [List.getElem_append_left h1]; exact h2, fun j hj => ?_⟩
  rw [List.getElem_append_left (by omega)]
  exact h3 j hj
theorem ptR_some {m : List Nat} (hn : m.Nodup) {i : Nat} (h : i < m.length) : ptR m (ptv m (some i)) = some (ip i, []) := by
  have := idx_of hn h
  unfold ptR ptv pta
  simp only [and_self, if_true, this, Option.map_some]
theorem ptR_inv {m : List Nat} {v : Value} {d : DataW Unit} {ps : List MemPlace} (h : ptR m v = some (d, ps)) : v = ptv m (pi d) ∧ ∀ i, pi d = some i → i < m.length := by
  unfold ptR at h
  split at h
  · split at h
    · rename_i a ha
      cases hx : m.idxOf? a.block with
      | none => rw [hx] at h; cases h
      | some i =>
        rw [hx] at h
        simp at h
        obtain ⟨rfl, rfl⟩ := h
        obtain ⟨h1, h2⟩ := idx_is hx
        rw [pi_ip]
        refine ⟨?_, fun j hj => by cases hj; exact h1⟩
        show _ = Value.pointer (some ⟨m.getD i 0, 0, none⟩)
        rw [h2]
        cases a
        simp at ha
        simp [ha]
    · cases h
  · cases h
    exact ⟨rfl, fun j hj => by cases hj⟩
  · cases h
theorem ptR_more {m : List Nat} {v : Value} {z : DataW Unit × List MemPlace} (h : ptR m v = some z) (more : List Nat) : ptR (m ++ more) v = some z := by
  unfold ptR at h ⊢
  split at h
  · split at h
    · rename_i a ha
      cases hx : m.idxOf? a.block with
      | none => rw [hx] at h; cases h
      | some i =>
        rw [hx] at h
        simp only [ha, and_self, if_true, idx_more hx more]
        exact h
    · cases h
  · exact h
  · cases h
/-- A directory in memory. -/
def MpAt (w : World) (m : List Nat) (s : Nat) (D : Dir) : Prop := w.ownsMap Tryz.prog 9 (ptR m) s (Maps.size D) D
theorem om_tight {w : World} {P : Program} {k : TypeId} {R : Value → Option (DataW Unit × List MemPlace)} {b n : Nat} {D : DataW Unit} (h : w.ownsMap P k R b n D) : w.ownsMap P k R b (Maps.size D) D := by
  obtain ⟨es, clock, hb, F, hs, hD⟩ := h
  refine ⟨es, clock, hb, F, ?_, hD⟩
  rw [hD]
  simp [Maps.size, length_sorted]
theorem om_same {w w' : World} {P : Program} {k : TypeId} {R : Value → Option (DataW Unit × List MemPlace)} {b n : Nat} {D : DataW Unit} (h : w.ownsMap P k R b n D) (hb : w'.heap[b]? = w.heap[b]?) : w'.ownsMap P k R b n D := by
  obtain ⟨es, clock, hh, F, h1, h2⟩ := h
  exact ⟨es, clock, by rw [hb]; exact hh, F, h1, h2⟩
theorem om_more {w : World} {m : List Nat} {s n : Nat} {D : Dir} (h : w.ownsMap Tryz.prog 9 (ptR m) s n D) (more : List Nat) : w.ownsMap Tryz.prog 9 (ptR (m ++ more)) s n D := by
  obtain ⟨es, clock, hh, F, h1, h2⟩ := h
  have := World.ownsMap_of_fit (R := ptR (m ++ more)) hh F (fun x _ z hz => ptR_more hz more)
  rw [← h2] at this
  exact this.mono h1
/-- A body in memory: its block, its row. -/
structure BdAt (w : World) (F : Nat → Prop) (b : Nat) (x : Bd) (v : Value) : Prop where
  blk : w.heap[b]? = some (.cells #[v, .int .i64 (x.safe : Int)] 103 (0, 0))
  row : Ob w 0 v x.data
  inF : F b
  rowF : ∀ g, v.ownBlock = some g → F g
/-- A change in memory. -/
def ldc (m : List Nat) (c : List Ld) : List Value := c.flatMap fun l => [encStr l.1, ptv m l.2]
structure LdAt (w : World) (F : Nat → Prop) (m : List Nat) (c : List Ld) (v : Value) : Prop where
  sl : ∃ g cap, v = .slice (some ⟨g, 0, none⟩) c.length cap ∧ F g ∧ w.heap[g]? = some (.cells (ldc m c).toArray 190 (0, 0))
  ids : ∀ l ∈ c, ∀ i, l.2 = some i → i < m.length
  txt : ∀ l ∈ c, l.1.length ≤ 1024
/-- All of a drive but its own block. -/
structure Rest (w : World) (F : Nat → Prop) (σ : Ds) (m : List Nat) (rv : Nat → Value) (st sf : Option Nat) (pv : Value) : Prop where
  dirs : (st = none ∧ sf = none ∧ σ.st = .map [] ∧ σ.sf = .map [] ∧ σ.pend = []) ∨ ∃ s f, st = some s ∧ sf = some f ∧ s ≠ f ∧ F s ∧ F f ∧ MpAt w m s σ.st ∧ MpAt w m f σ.sf
  len : m.length = σ.bs.length
  nodup : m.Nodup
  bod : ∀ i, i < σ.bs.length → BdAt w F (m.getD i 0) (σ.body i) (rv i)
  sep : ∀ i j g, i < σ.bs.length → j < σ.bs.length → i ≠ j → (rv i).ownBlock = some g → (rv j).ownBlock ≠ some g
  pnd : ∃ cv : List Value, w.ownsRow 0 193 1 pv σ.pend.length cv ∧ cv.length = σ.pend.length ∧ ∀ j, j < σ.pend.length → LdAt w F m (σ.pend.getD j []) (cv.getD j undef)
  pvF : ∀ g, pv.ownBlock = some g → F g
/-- The drive's own block. -/
def StAt (w : World) (db room : Nat) (used : Int) (st sf : Option Nat) (pv : Value) : Prop := w.heap[db]? = some (.cells #[.int .i64 (room : Int), .int .i64 used, .map st, .map sf, pv] 86 (0, 0))
/-- A drive in memory; all its blocks are among F. -/
def DrAt (w : World) (db : Nat) (σ : Ds) (F : Nat → Prop) : Prop := F db ∧ (∀ b, F b → b < w.heap.size) ∧ ∃ m rv st sf pv, StAt w db σ.room σ.used st sf pv ∧ Rest w F σ m rv st sf pv
/-- What a call of a drive does to memory: blocks among F and new ones alone turn. -/
structure Tn (F : Nat → Prop) (w w' : World) : Prop where
  os : w'.os = w.os
  tape : w'.tape = w.tape
  output : w'.output = w.output
  size : w.heap.size ≤ w'.heap.size
  block : ∀ k, k < w.heap.size → ¬ F k → w'.heap[k]? = w.heap[k]?
theorem Tn.refl (F : Nat → Prop) (w : World) : Tn F w w := ⟨rfl, rfl, rfl, Nat.le_refl _, fun _ _ _ => rfl⟩
theorem Tn.trans {F : Nat → Prop} {a b c : World} (h : Tn F a b) (k : Tn F b c) : Tn F a c :=
  ⟨k.os.trans h.os, k.tape.trans h.tape, k.output.trans h.output, Nat.le_trans h.size k.size, fun i hi hF => (k.block i (Nat.lt_of_lt_of_le hi h.size) hF).trans (h.block i hi hF)⟩
theorem Tn.of_below {F : Nat → Prop} {w w' : World} (h : Below w.heap.size w w') : Tn F w w' := ⟨h.os, h.tape, h.output, h.size, fun k hk _ => h.block k hk⟩
theorem Tn.grown {F : Nat → Prop} {w w' : World} {r : Option Nat} (h : w.grownBy w' r) (hr : ∀ g, r = some g → F g) : Tn F w w' := ⟨h.os, h.tape, h.output, h.size, fun k hk hF => h.block k hk (fun e => hF (hr k e.symm))⟩
theorem Tn.setCell {F : Nat → Prop} (w : World) (a : Addr) (h : F a.block) (u : Value) : Tn F w (w.setCell a u) := ⟨rfl, rfl, rfl, by simp [World.setCell], fun k _ hF => Below.heap_setCell _ _ _ _ (fun e => hF (e ▸ h))⟩
theorem Tn.more {F G : Nat → Prop} {w w' : World} (h : Tn F w w') (hs : ∀ b, F b → G b) : Tn G w w' := ⟨h.os, h.tape, h.output, h.size, fun k hk hG => h.block k hk (fun hF => hG (hs k hF))⟩
/-- What lies behind when new blocks are the drive's too. -/
def Fn (F : Nat → Prop) (w w' : World) (b : Nat) : Prop := F b ∨ (w.heap.size ≤ b ∧ b < w'.heap.size)
theorem ob_same {w w' : World} {base : Nat} {v : Value} {e : TypeId} {sz n : Nat} {xs : List Value} (h : w.ownsRow base e sz v n xs) (hb : ∀ g, v.ownBlock = some g → w'.heap[g]? = w.heap[g]?) : w'.ownsRow base e sz v n xs := by
  refine ⟨h.1, ?_⟩
  rcases h.2 with h1 | ⟨g, cap, c, hv, hg, hh, hc⟩
  · exact .inl h1
  · exact .inr ⟨g, cap, c, hv, hg, by rw [hb g (by rw [hv]; rfl)]; exact hh, hc⟩
/-- All but its own block stays where its blocks stay. -/
theorem Rest.same {w w' : World} {F : Nat → Prop} {σ : Ds} {m : List Nat} {rv : Nat → Value} {st sf : Option Nat} {pv : Value} (h : Rest w F σ m rv st sf pv) (hk : ∀ b o, F b → w.heap[b]? = some o → (∀ c r, o ≠ .cells c 86 r) → w'.heap[b]? = w.heap[b]?) : Rest w' F σ m rv st sf pv := by
  have hrow : ∀ {e : TypeId} {sz n : Nat} {v : Value} {xs : List Value}, w.ownsRow 0 e sz v n xs → e ≠ 86 → (∀ g, v.ownBlock = some g → F g) → w'.ownsRow 0 e sz v n xs := by
    intro e sz n v xs h1 hne hF
    refine ob_same h1 fun g hg => ?_
    rcases h1.2 with ⟨hv, _⟩ | ⟨g', cap, c, hv, _, hh, _⟩
    · rw [hv] at hg; cases hg
    · rw [hv] at hg
      simp [Value.ownBlock] at hg
      subst hg
      exact hk g' _ (hF g' (by rw [hv]; rfl)) hh (fun c r e1 => by injection e1 with _ e2; exact hne e2)
  have hmap : ∀ {s : Nat} {D : Dir}, F s → MpAt w m s D → MpAt w' m s D := by
    intro s D hF h1
    refine om_same h1 ?_
    obtain ⟨es, clock, hb, _⟩ := h1
    exact hk s _ hF hb (fun c r e1 => by cases e1)
  refine ⟨?_, h.len, h.nodup, fun i hi => ?_, h.sep, ?_, h.pvF⟩
  · rcases h.dirs with h1 | ⟨s, f, e1, e2, hne, f1, f2, h1, h2⟩
    · exact .inl h1
    · exact .inr ⟨s, f, e1, e2, hne, f1, f2, hmap f1 h1, hmap f2 h2⟩
  · have hb := h.bod i hi
    refine ⟨?_, hrow hb.row (by decide) hb.rowF, hb.inF, hb.rowF⟩
    rw [hk _ _ hb.inF hb.blk (fun c r e1 => by injection e1 with _ e2; revert e2; decide)]
    exact hb.blk
  · obtain ⟨cv, h1, h2, h3⟩ := h.pnd
    refine ⟨cv, hrow h1 (by decide) h.pvF, h2, fun j hj => ?_⟩
    obtain ⟨⟨g, cap, e1, hF, hg⟩, i1, i2⟩ := h3 j hj
    refine ⟨⟨g, cap, e1, hF, ?_⟩, i1, i2⟩
    rw [hk _ _ hF hg (fun c r e1 => by injection e1 with _ e2; revert e2; decide)]
    exact hg
theorem Rest.more {w : World} {F G : Nat → Prop} {σ : Ds} {m : List Nat} {rv : Nat → Value} {st sf : Option Nat} {pv : Value} (h : Rest w F σ m rv st sf pv) (hs : ∀ b, F b → G b) : Rest w G σ m rv st sf pv := by
  refine ⟨?_, h.len, h.nodup, fun i hi => ?_, h.sep, ?_, fun g hg => hs g (h.pvF g hg)⟩
  · rcases h.dirs with h1 | ⟨s, f, e1, e2, hne, f1, f2, h1, h2⟩
    · exact .inl h1
    · exact .inr ⟨s, f, e1, e2, hne, hs _ f1, hs _ f2, h1, h2⟩
  · have hb := h.bod i hi
    exact ⟨hb.blk, hb.row, hs _ hb.inF, fun g hg => hs g (hb.rowF g hg)⟩
  · obtain ⟨cv, h1, h2, h3⟩ := h.pnd
    refine ⟨cv, h1, h2, fun j hj => ?_⟩
    obtain ⟨⟨g, cap, e1, hF, hg⟩, i1, i2⟩ := h3 j hj
    exact ⟨⟨g, cap, e1, hs _ hF, hg⟩, i1, i2⟩
/-- A drive stays where its blocks stay. -/
theorem DrAt.same {w w' : World} {db : Nat} {σ : Ds} {F : Nat → Prop} (h : DrAt w db σ F) (hz : w.heap.size ≤ w'.heap.size) (hk : ∀ b, F b → w'.heap[b]? = w.heap[b]?) : DrAt w' db σ F := by
  obtain ⟨h1, h2, m, rv, st, sf, pv, h3, h4⟩ := h
  refine ⟨h1, fun b hb => Nat.lt_of_lt_of_le (h2 b hb) hz, m, rv, st, sf, pv, ?_, h4.same (fun b o hF _ _ => hk b hF)⟩
  unfold StAt at h3 ⊢
  rw [hk db h1]; exact h3
theorem DrAt.below {w w' : World} {db : Nat} {σ : Ds} {F : Nat → Prop} (h : DrAt w db σ F) (hb : Below w.heap.size w w') : DrAt w' db σ F := h.same hb.size (fun b hF => hb.block b (h.2.1 b hF))
/-- Another drive stays while this one turns. -/
theorem DrAt.tn {w w' : World} {db : Nat} {σ : Ds} {F G : Nat → Prop} (h : DrAt w db σ F) (ht : Tn G w w') (hd : ∀ b, F b → ¬ G b) : DrAt w' db σ F := h.same ht.size (fun b hF => ht.block b (h.2.1 b hF) (hd b hF))
end Go.Proofs.YtjobaeopokfekaaGreat
