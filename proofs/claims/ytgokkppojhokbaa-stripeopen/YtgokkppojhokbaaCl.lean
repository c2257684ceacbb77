/-
  Rows as strings; 'Check'; 'same'.
-/
import Derived.Test.YtgokkppojhokbaaCj
import Derived.Laws.IdiomStrings
import Derived.Deep.RegionHeld3
import Derived.ArgAppend
namespace Go.Proofs.Ytgokkppojhokbaa
open Go.RowKit
/-- The row as a string's bytes. -/
def bys (f : Nat → BitVec 8) (n : Nat) : List UInt8 := (List.range n).map (fun i => UInt8.ofNat (f i).toNat)
def str (f : Nat → BitVec 8) (n : Nat) : ByteArray := ⟨(bys f n).toArray⟩
theorem bys_len (f : Nat → BitVec 8) (n : Nat) : (bys f n).length = n := by simp [bys]
theorem bys_at (f : Nat → BitVec 8) (n j : Nat) (hj : j < (bys f n).length) : ((bys f n)[j].toNat : Int) = el (f j) := by
  have e : (bys f n)[j] = UInt8.ofNat (f j).toNat := by simp [bys]
  have := (f j).isLt
  rw [e]
  unfold el
  simp
theorem str_congr {f g : Nat → BitVec 8} {n : Nat} (h : ∀ i, i < n → f i = g i) : str f n = str g n := by
  unfold str bys
  congr 2
  exact List.map_congr_left (fun i hi => by rw [h i (List.mem_range.1 hi)])
theorem und5 : Try.prog.underlying 5 = some (.int .u8) := Try.underlying5
theorem undS : Try.prog.underlying 9 = some .string := Try.underlying9
theorem conv_row {w : World} {v : Value} {n : Nat} {f : Nat → BitVec 8} (h : NrE w v n f) : (convert 23 9 v).run Try.prog w = .ok (.string (str f n)) w := by
  obtain ⟨p, c, rfl, h2⟩ := nr_un h
  clear h
  cases p with
  | none =>
    have h0 : n = 0 := by
      rcases Nat.eq_zero_or_pos n with h1 | h1
      · exact h1
      · obtain ⟨b, o, e, _⟩ := h2 h1; cases e
    subst h0
    rw [run_convert_bytes_string w 23 9 5 none 0 c Try.underlying23 und5 undS]
    simp [Conv.bytesToString, str, bys]
    first | rfl | skip
  | some a =>
    have hb : ∀ j (hj : j < (bys f n).length), w.cell? (a.add j) = some (.int .u8 ((bys f n)[j].toNat : Int)) := fun j hj => by
      have hjn : j < n := by rw [bys_len] at hj; exact hj
      obtain ⟨b, o, e, hc⟩ := h2 (by omega)
      injection e with e
      subst e
      rw [add_pl, hc j hjn, bys_at]
    have := run_convert_bytes_back (P := Try.prog) w 23 9 5 a c (bys f n) Try.underlying23 und5 undS hb
    rw [bys_len] at this
    exact this
section
attribute [local irreducible] Calls NrE str
end
theorem nr_congr {w : World} {v : Value} {n : Nat} {f g : Nat → BitVec 8} (h : NrE w v n f) (e : ∀ i, i < n → f i = g i) : NrE w v n g := Sv.congr h (fun j hj => by unfold clE; rw [e j hj])
theorem ov_nr {w : World} {t : TypeId} {g n : Nat} {f : Nat → BitVec 8} (h : Ov w t g (clE f) n) : NrE w (.slice (some ⟨g, 0, none⟩) n n) n f := St.sv (h.st n n)
section
attribute [local irreducible] Calls el Ov clE NmE NrE Cd Fac mm skk tiE plE
end
end Go.Proofs.Ytgokkppojhokbaa
/-
  The law's helpers: 'same', 'copied', 'pick', 'cut'.
-/
namespace Go.Proofs.Ytgokkppojhokbaa
open Go.RowKit
/-- A row of bytes in a block of bytes. -/
def Br (w : World) (v : Value) (n : Nat) (f : Nat → BitVec 8) : Prop := St w 5 v n (clE f) n
theorem Br.nr {w : World} {v : Value} {n : Nat} {f : Nat → BitVec 8} (h : Br w v n f) : NrE w v n f := St.sv h
theorem Br.below {w w' : World} {v : Value} {n : Nat} {f : Nat → BitVec 8} (h : Br w v n f) (hb : Below w.heap.size w w') : Br w' v n f := St.below h hb
theorem Br.form {w : World} {v : Value} {n : Nat} {f : Nat → BitVec 8} (h : Br w v n f) : ∃ p c, v = .slice p n c := by obtain ⟨p, c, e, _⟩ := h; exact ⟨p, c, e⟩
set_option maxRecDepth 100000 in
theorem wpList_clone_b {w : World} {ops : Array Oper} {rest : List Oper} {o : Oper} {a : Act} {Q : Exit → Act → World → Prop} (hgd : o.guard = none) (s x : Operand) (ho : o.op = .call { callee := .builtin .append, args := #[s, x], argTypes := #[23, 23] })
    (hs : a.eval s = .slice none 0 0) (v : Value) (n : Nat) (f : Nat → BitVec 8) (hx : a.eval x = v) (hr : NrE w v n f) (hm : n ≤ 140737488355328)
    (h : ∀ v' w', Br w' v' n f → Below w.heap.size w w' → wpList Try.prog ops Q rest (a.put o.dst v') w') : wpList Try.prog ops Q (o :: rest) a w := by
  obtain ⟨i0, hi, hz0, hz1, hz2⟩ := info_parts info5
  obtain ⟨p, c, rfl, hr2⟩ := nr_un hr
  clear hr
  cases p with
  | none =>
    have hn : n = 0 := by
      rcases Nat.eq_zero_or_pos n with h1 | h1
      · exact h1
      · obtain ⟨b, o, e, _⟩ := hr2 h1; cases e
    subst hn
    refine wpList_plain hgd fun K hK => ?_
    have hrun := run_append_no (P := Try.prog) (w := w) 23 o.type 5 i0 Try.underlying23 hi c
    unfold Oper.wp
    simp [execOp, ho, resolve, invoke, builtin, hs, hx, hrun, Result.andThen]
    exact hK _ _ (h _ w ⟨none, 0, rfl, .inl rfl⟩ (Below.refl _ _))
  | some ad =>
    have S : ∀ j u, (lv (clE f) n)[j]? = some u → w.cell? (ad.add j) = some u := by
      intro j u hu
      have hjn : j < n := by
        rcases Nat.lt_or_ge j n with h | h
        · exact h
        · rw [List.getElem?_eq_none (by rw [lv_len]; exact h)] at hu; cases hu
      rw [lv_at _ n j hjn] at hu
      injection hu with hu
      obtain ⟨b, off, e, hc⟩ := hr2 (by omega)
      injection e with e
      subst e
      rw [add_pl, hc j hjn]; exact congrArg some hu
    refine wpList_append_own _ hgd _ _ 23 ho w.heap.size 5 i0 (.int .u8 0) 1 1 Try.underlying23 hi hz0 hz1 hz2 rfl (by decide) (.slice none 0 0) 0 [] hs (World.ownsRow_nil _ _ _ _) ad n c (lv (clE f) n) hx (by rw [lv_len, Nat.mul_one]) S (fun u hu => by unfold lv at hu; obtain ⟨i, _, rfl⟩ := List.mem_map.1 hu; rfl) (by unfold maxLen; omega) (by omega) (Nat.le_refl _) ?_
    intro v' w' ho' hg _
    rw [Nat.zero_add, List.nil_append] at ho'
    exact h v' w' (owns_st1 ho') (below_append (t := 5) (base := w.heap.size) (k := 1) (n := 0) (xs := []) (Below.refl _ _) (Nat.le_refl _) hg (World.ownsRow_nil _ _ _ _) (Nat.le_refl _))
section
attribute [local irreducible] Calls NmE NrE str
end
theorem push_br {W W3 : World} {base k : Nat} {v x : Value} {us : List Value} {rows : Nat → Value} {o : Obj} {l : Nat → Nat} {M : Nat → Nat → BitVec 8} (hown : W.ownsRow base 23 1 v k us) (hgrow : (W.alloc o).grownBy W3 v.ownBlock) (hR : ∀ i, i < k → Br W (rows i) (l i) (M i)) (hx : Br W x (l k) (M k)) : ∀ i, i < k + 1 → Br W3 ((fun i => if i = k then x else rows i) i) (l i) (M i) :=
  push_all (by decide) hown hgrow hR hx
/-- A list of rows, all of it the call's own. -/
def Bm (base : Nat) (w : World) (v : Value) (r : Nat) (L : Nat → Nat) (M : Nat → Nat → BitVec 8) : Prop := ∃ rows, w.ownsRow base 23 1 v r (lv rows r) ∧ ∀ i, i < r → Br w (rows i) (L i) (M i)
theorem Bm.nm {base : Nat} {w : World} {v : Value} {r : Nat} {L : Nat → Nat} {M : Nat → Nat → BitVec 8} (h : Bm base w v r L M) : NmE w v r L M := by
  obtain ⟨rows, h1, h2⟩ := h
  exact ⟨rows, St.sv (owns_st1 h1), fun i hi => (h2 i hi).nr⟩
section
attribute [local irreducible] Calls NmE NrE Br lv
end
theorem pick_num (k : Int) (n : Nat) (h1 : 1 ≤ n) : -(n : Int) < k.tmod n ∧ k.tmod n < n := by
  have := Int.tmod_lt_of_pos k (show (0 : Int) < n by omega)
  have h2 := Int.tmod_lt_of_pos (-k) (show (0 : Int) < n by omega)
  rw [Int.neg_tmod] at h2
  omega
section
attribute [local irreducible] Calls
end
end Go.Proofs.Ytgokkppojhokbaa
