/-
  Rows of values of one cell each, floats among them: read, owned, appended to.
-/
import Derived.Test.YtcfjinpjijcheaaRows
import Derived.WalkKit
import Derived.WalkLawsBesides
import Derived.Outline
import Derived.OwnWalk
import Derived.Laws.MakeOwn
import Derived.Laws.OwnMore
import Derived.ArgAppend
import Derived.Laws.AppendOwnNone
import Derived.Deep.QuietTactic
import Derived.Deep.RegionWith
import Derived.BigQuiet
import Derived.Below
namespace Go.Proofs.Ytcfjinpjijcheaa
open Go.RowKit
theorem add_pl (b o j : Nat) : (⟨b, o, none⟩ : Addr).add j = ⟨b, o + j, none⟩ := by unfold Addr.add; split <;> simp_all
theorem cell_below {w w' : World} {p : Addr} {v : Value} (h : w.cell? p = some v) (hb : Below w.heap.size w w') : w'.cell? p = some v := by
  rw [hb.cell (p := p) (block_lt_of_cell h)]; exact h
theorem below_drewN {B : Nat} {a w : World} (h : Below B a w) (n : Nat) : Below B a (w.drewN n) := ⟨h.os, h.tape, h.output, h.size, h.block⟩
theorem below_append {t : TypeId} {w w' : World} {base n : Nat} {v : Value} {xs : List Value} {B : Nat} {a : World} (hb : Below B a w) (hB : B ≤ w.heap.size) (hg : w.grownBy w' v.ownBlock) (ho : w.ownsRow base t 1 v n xs) (hbase : B ≤ base) : Below B a w' :=
  hb.grown hg hB (fun k hk => Nat.le_trans hbase (ho.lt k hk).1)
theorem bt {u v x : World} (h : Below u.heap.size u v) (k : Below v.heap.size v x) : Below u.heap.size u x := h.trans (k.mono h.size)
theorem balloc (w : World) (o : Obj) : Below w.heap.size w (w.alloc o) := (Below.refl _ _).alloc (Nat.le_refl _) o
theorem own_below {w w' : World} {base n : Nat} {t : TypeId} {v : Value} {xs : List Value} (h : w.ownsRow base t 1 v n xs) (hb : Below w.heap.size w w') : w'.ownsRow base t 1 v n xs := by
  refine ⟨h.1, ?_⟩
  rcases h.2 with h1 | ⟨g, cap, c, hv, hg, hh, hc⟩
  · exact .inl h1
  · refine .inr ⟨g, cap, c, hv, hg, ?_, hc⟩
    rw [hb.block g (by
      rcases Nat.lt_or_ge g w.heap.size with h1 | h1
      · exact h1
      · rw [Array.getElem?_eq_none h1] at hh; cases hh)]
    exact hh
/-- A row of values that reads so. -/
def Vr (w : World) (p : Option Addr) (xs : List Value) : Prop := xs = [] ∨ ∃ b o, p = some ⟨b, o, none⟩ ∧ ∀ i u, xs[i]? = some u → w.cell? ⟨b, o + i, none⟩ = some u
theorem Vr.below {w w' : World} {p : Option Addr} {xs : List Value} (h : Vr w p xs) (hb : Below w.heap.size w w') : Vr w' p xs := by
  rcases h with h | ⟨b, o, e, hc⟩
  · exact .inl h
  · exact .inr ⟨b, o, e, fun i u hu => cell_below (hc i u hu) hb⟩
theorem own_rd {t : TypeId} {w : World} {base n : Nat} {v : Value} {xs : List Value} (h : w.ownsRow base t 1 v n xs) (hn : xs.length = n) : ∃ p cap, v = .slice p n cap ∧ n ≤ cap ∧ Vr w p xs := by
  rcases h.2 with ⟨hv, h0⟩ | ⟨g, cap, c, hv, hg, hh, hc, hm, hs, ht⟩
  · subst h0; exact ⟨none, 0, hv, Nat.le_refl _, .inl (List.length_eq_zero_iff.1 hn)⟩
  · refine ⟨some ⟨g, 0, none⟩, cap, hv, hc, .inr ⟨g, 0, rfl, fun i u hu => ?_⟩⟩
    have := h.cells (g := g) (by rw [hv]; rfl) i u hu
    rwa [add_pl] at this
theorem run_append_nix {P : Program} {w : World} (t ty e : TypeId) (i : TypeInfo) (ht : P.underlying t = some (.slice e)) (hi : P.info? e = some i) (p : Option Addr) (n cap c : Nat) (h : n ≤ cap) :
    (Builtin.append_ #[t, t] ty #[.slice p n cap, .slice none 0 c]).run P w = .ok (.slice p n cap) w := by
  cases p <;> simp [Builtin.append_, run_underlying ht, sizeOf, typeInfo, hi, Builtin.lenOf, Builtin.firstCells, h, storeCells]
/-- append(v, x..): v a row of its own, x any row that reads so. -/
theorem wpList_apG {e st : TypeId} (hu : Try.prog.underlying st = some (.slice e)) {z : Value} {by' : Nat} (hinfo : (Try.prog.info? e).map (fun i => (i.zero, i.size, i.bytes)) = some (some z, 1, by')) (hz1 : z.cells.size = 1)
    {w : World} {ops : Array Oper} {rest : List Oper} {o : Oper} {a : Act} {Q : Exit → Act → World → Prop} (hgd : o.guard = none) (s x : Operand) (ho : o.op = .call { callee := .builtin .append, args := #[s, x], argTypes := #[st, st] })
    (base : Nat) (v : Value) (xs : List Value) (hs : a.eval s = v) (hown : w.ownsRow base e 1 v xs.length xs) (ad : Option Addr) (n c : Nat) (ys : List Value) (hx : a.eval x = .slice ad n c) (hr : Vr w ad ys) (hn : ys.length = n) (h1 : ∀ u ∈ ys, u.oneCell' = true)
    (hm : (xs.length + n) * by' ≤ 140737488355328) (hm2 : xs.length + n ≤ 140737488355328) (hbase : base ≤ w.heap.size)
    (h : ∀ v' w', w'.ownsRow base e 1 v' (xs ++ ys).length (xs ++ ys) → w.grownBy w' v.ownBlock → wpList Try.prog ops Q rest (a.put o.dst v') w') : wpList Try.prog ops Q (o :: rest) a w := by
  obtain ⟨i0, hi, hz0, hs1, hby⟩ := info_parts hinfo
  cases ad with
  | some ad =>
    have S : ∀ j u, ys[j]? = some u → w.cell? (ad.add j) = some u := by
      rcases hr with e | ⟨b, off, e, hc⟩
      · subst e; intro j u hu; simp at hu
      · cases e
        intro j u hu
        rw [add_pl]; exact hc j u hu
    refine wpList_append_own _ hgd _ _ st ho base e i0 z 1 by' hu hi hz0 hs1 hby hz1 (by decide) v xs.length xs hs hown ad n c ys hx (by rw [hn, Nat.mul_one]) S h1 (by unfold maxLen; omega) hm hbase ?_
    intro v' w' ho' hg _
    refine h v' w' ?_ hg
    rwa [List.length_append, hn]
  | none =>
    have hys : ys = [] := by
      rcases hr with e | ⟨b, off, e, _⟩
      · exact e
      · cases e
    subst hys
    obtain rfl : 0 = n := hn
    obtain ⟨p, cap, rfl, hcap, _⟩ := own_rd hown rfl
    refine wpList_plain hgd fun K hK => ?_
    have hrun := run_append_nix (P := Try.prog) (w := w) st o.type e i0 hu hi p xs.length cap c hcap
    unfold Oper.wp
    simp [execOp, ho, resolve, invoke, builtin, hs, hx, hrun, Result.andThen]
    exact hK _ _ (h _ w (by rw [List.append_nil]; exact hown) ⟨rfl, rfl, rfl, Nat.le_refl _, fun _ _ _ => rfl⟩)
theorem make_G {e st : TypeId} (hu : Try.prog.underlying st = some (.slice e)) {z : Value} {by' : Nat} (hinfo : (Try.prog.info? e).map (fun i => (i.zero, i.size, i.bytes)) = some (some z, 1, by')) (hz1 : z.cells = #[z])
    (n : Nat) (hn : (by' : Int) * (n : Int) ≤ 281474976710656) (hn2 : n ≤ 140737488355328) (w : World) : (Instr.makeSlice st (.int .i64 (n : Int)) (.int .i64 (n : Int))).run Try.prog w = .ok (.slice (some ⟨w.heap.size, 0, none⟩) n n) (w.alloc (.cells (List.replicate n z).toArray e)) := by
  obtain ⟨i0, hi, hz0, hs1, hby⟩ := info_parts hinfo
  have h := run_make (P := Try.prog) w st e i0 z hu hi hz0 .i64 .i64 (n : Int) (n : Int) (by omega) (by omega) (by rw [hby]; omega) (by omega)
  rw [h, hs1, hz1]
  simp only [Int.toNat_natCast, Nat.mul_one]
  rw [← toList_madeCells_one, Array.toArray_toList]
/-- A block of the call's own, of these values. -/
def Bl (w : World) (e : TypeId) (g : Nat) (xs : List Value) : Prop := w.heap[g]? = some (.cells xs.toArray e (0, 0))
theorem Bl.cell {w : World} {e : TypeId} {g : Nat} {xs : List Value} (h : Bl w e g xs) (i : Nat) : w.cell? ⟨g, i, none⟩ = xs[i]? := by
  rw [cell_of_row w g i _ _ _ h, List.getElem?_toArray]
theorem Bl.frozen {w : World} {e : TypeId} {g : Nat} {xs : List Value} (h : Bl w e g xs) (i : Nat) : w.frozen? ⟨g, i, none⟩ = false := frozen_of_row w g i _ _ h
theorem Bl.set {w : World} {e : TypeId} {g : Nat} {xs : List Value} (h : Bl w e g xs) (k : Nat) (v : Value) : Bl (w.setCell ⟨g, k, none⟩ v) e g (xs.set k v) := by
  unfold Bl
  rw [heap_setCell_same w g k _ _ _ h, List.setIfInBounds_toArray]
theorem Bl.lt {w : World} {e : TypeId} {g : Nat} {xs : List Value} (h : Bl w e g xs) : g < w.heap.size := by
  rcases Nat.lt_or_ge g w.heap.size with h1 | h1
  · exact h1
  · unfold Bl at h; rw [Array.getElem?_eq_none h1] at h; cases h
theorem Bl.below {w w' : World} {e : TypeId} {g : Nat} {xs : List Value} (h : Bl w e g xs) (hb : Below w.heap.size w w') : Bl w' e g xs := by
  unfold Bl; rw [hb.block g h.lt]; exact h
theorem bl_new (w : World) (e : TypeId) (xs : List Value) : Bl (w.alloc (.cells xs.toArray e)) e w.heap.size xs := heap_alloc_new w _
theorem Bl.rd {w : World} {e : TypeId} {g : Nat} {xs : List Value} (h : Bl w e g xs) : Vr w (some ⟨g, 0, none⟩) xs := .inr ⟨g, 0, rfl, fun i u hu => by rw [Nat.zero_add, h.cell]; exact hu⟩
theorem Bl.own {w : World} {e : TypeId} {g base : Nat} {xs : List Value} (h : Bl w e g xs) (hb : base ≤ g) (hm : xs.length ≤ maxLen) : w.ownsRow base e 1 (.slice (some ⟨g, 0, none⟩) xs.length xs.length) xs.length xs :=
  ⟨by omega, .inr ⟨g, xs.length, xs.toArray, rfl, hb, h, Nat.le_refl _, hm, by simp, by simp⟩⟩
-- floats of 64 bits
theorem run_store_flt (a : Addr) (k : FloatKind) (b : Nat) (m : Mode) (W : World) : (store a (.float k b) m).run Try.prog W = stored Try.prog W a (.float k b) m := run_store Try.prog W a _ m rfl
theorem infoF : (Try.prog.info? 23).map (fun i => (i.zero, i.size, i.bytes)) = some (some (.float .f64 0), 1, 8) := by kernel_rfl
def fc (xs : List Nat) : List Value := xs.map fun b => Value.float .f64 b
theorem fc_len (xs : List Nat) : (fc xs).length = xs.length := by simp [fc]
theorem fc_app (xs ys : List Nat) : fc (xs ++ ys) = fc xs ++ fc ys := by simp [fc]
theorem fc_at (xs : List Nat) (i : Nat) (h : i < xs.length) : (fc xs)[i]? = some (.float .f64 (xs.getD i 0)) := by simp [fc, List.getD, h]
theorem fc_one (xs : List Nat) : ∀ u ∈ fc xs, u.oneCell' = true := by
  intro u hu
  simp only [fc, List.mem_map] at hu
  obtain ⟨b, _, rfl⟩ := hu
  rfl
/-- A row of floats that is read. -/
def Fr (w : World) (p : Option Addr) (xs : List Nat) : Prop := Vr w p (fc xs)
theorem Fr.below {w w' : World} {p : Option Addr} {xs : List Nat} (h : Fr w p xs) (hb : Below w.heap.size w w') : Fr w' p xs := Vr.below h hb
theorem Fr.at {w : World} {p : Option Addr} {xs : List Nat} (h : Fr w p xs) (h0 : 0 < xs.length) : ∃ b o, p = some ⟨b, o, none⟩ ∧ ∀ i, i < xs.length → w.cell? ⟨b, o + i, none⟩ = some (.float .f64 (xs.getD i 0)) := by
  rcases h with h | ⟨b, o, e, hc⟩
  · have := fc_len xs; rw [h] at this; simp at this; omega
  · exact ⟨b, o, e, fun i hi => hc i _ (fc_at xs i hi)⟩
/-- A row of floats of the call's own. -/
def Of (w : World) (base : Nat) (v : Value) (xs : List Nat) : Prop := w.ownsRow base 23 1 v (fc xs).length (fc xs)
theorem Of.below {w w' : World} {base : Nat} {v : Value} {xs : List Nat} (h : Of w base v xs) (hb : Below w.heap.size w w') : Of w' base v xs := own_below h hb
theorem Of.nil (w : World) (base : Nat) : Of w base (.slice none 0 0) [] := World.ownsRow_nil _ _ _ _
theorem Of.rd {w : World} {base : Nat} {v : Value} {xs : List Nat} (h : Of w base v xs) : ∃ p cap, v = .slice p xs.length cap ∧ xs.length ≤ cap ∧ Fr w p xs := by
  obtain ⟨p, cap, h1, h2, h3⟩ := own_rd h rfl
  rw [fc_len] at h1 h2
  exact ⟨p, cap, h1, h2, h3⟩
theorem wpList_apF {w : World} {ops : Array Oper} {rest : List Oper} {o : Oper} {a : Act} {Q : Exit → Act → World → Prop} (hgd : o.guard = none) (s x : Operand) (ho : o.op = .call { callee := .builtin .append, args := #[s, x], argTypes := #[58, 58] })
    (base : Nat) (v : Value) (xs : List Nat) (hs : a.eval s = v) (hown : Of w base v xs) (ad : Option Addr) (n c : Nat) (ys : List Nat) (hx : a.eval x = .slice ad n c) (hr : Fr w ad ys) (hn : ys.length = n)
    (hm : xs.length + n ≤ 17592186044416) (hbase : base ≤ w.heap.size)
    (h : ∀ v' w', Of w' base v' (xs ++ ys) → w.grownBy w' v.ownBlock → wpList Try.prog ops Q rest (a.put o.dst v') w') : wpList Try.prog ops Q (o :: rest) a w := by
  refine wpList_apG Try.underlying58 infoF rfl hgd s x ho base v (fc xs) hs hown ad n c (fc ys) hx hr (by rw [fc_len, hn]) (fc_one ys) (by rw [fc_len]; omega) (by rw [fc_len]; omega) hbase ?_
  intro v' w' h1 h2
  refine h v' w' ?_ h2
  unfold Of; rw [fc_app]; exact h1
end Go.Proofs.Ytcfjinpjijcheaa
