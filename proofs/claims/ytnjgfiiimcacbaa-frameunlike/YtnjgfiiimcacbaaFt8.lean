/-
  The laws' fit: blocks of the right lengths.
-/
import Derived.Test.YtnjgfiiimcacbaaPz8
import Derived.Laws.CopyOwn
namespace Go.Proofs.Ytnjgfiiimcacbaa
open Go.RowKit
/-- A block of l bytes, out of what there is. -/
def padT (l : Nat) (x : List (BitVec 8)) : List (BitVec 8) := x.take l ++ List.replicate (l - x.length) 0#8
theorem padT_len (l : Nat) (x : List (BitVec 8)) : (padT l x).length = l := by unfold padT; simp; omega
def fitB (L : List Nat) (bl : List (List (BitVec 8))) : List (List (BitVec 8)) := (List.range L.length).map (fun j => padT (L.getD j 0) (bl.getD j []))
theorem fitB_len (L : List Nat) (bl : List (List (BitVec 8))) : (fitB L bl).length = L.length := by unfold fitB; simp
theorem fitB_ls (L : List Nat) (bl : List (List (BitVec 8))) : (fitB L bl).map List.length = L := by
  apply List.ext_getElem?
  intro i
  unfold fitB
  by_cases hi : i < L.length
  · simp [hi, padT_len]
  · rw [List.getElem?_eq_none (by simp; omega), List.getElem?_eq_none (by omega)]
theorem fitB_take (L : List Nat) (bl : List (List (BitVec 8))) (t : Nat) (ht : t < L.length) : (fitB L bl).take (t + 1) = (fitB L bl).take t ++ [padT (L.getD t 0) (bl.getD t [])] := by
  rw [List.take_add_one]
  congr 1
  unfold fitB
  simp [ht]
theorem vs_map (xs : List (BitVec 8)) : vs (fn xs) xs.length = xs.map (fun b => Value.int .u8 (el b)) := by
  apply List.ext_getElem?
  intro i
  by_cases hi : i < xs.length
  · simp [vs, fn, hi]
  · rw [List.getElem?_eq_none (by rw [vs_len]; omega), List.getElem?_eq_none (by simp; omega)]
theorem Ow.of_row {w : World} {base g : Nat} {xs : List (BitVec 8)} (hg : base ≤ g) (h : w.heap[g]? = some (.cells (xs.map (fun b => Value.int .u8 (el b))).toArray 5)) (hl : xs.length ≤ 140737488355328) : Ow w base (.slice (some ⟨g, 0, none⟩) xs.length xs.length) xs := by
  unfold Ow
  rw [vs_map]
  refine ⟨by simp, .inr ⟨g, xs.length, _, rfl, hg, h, Nat.le_refl _, by unfold maxLen; omega, by simp, by rw [Nat.mul_one]; exact List.take_of_length_le (by simp)⟩⟩
theorem padT_row (l : Nat) (x : List (BitVec 8)) : (Array.replicate l (Value.int .u8 0)).toList.take 0 ++ ((x.take l).map (fun b => Value.int .u8 (el b)) ++ (Array.replicate l (Value.int .u8 0)).toList.drop (0 + ((x.take l).map (fun b => Value.int .u8 (el b))).length)) = (padT l x).map (fun b => Value.int .u8 (el b)) := by
  unfold padT
  rw [List.map_append]
  simp
  exact ⟨by omega, .inr rfl⟩
theorem padT_nil (l : Nat) : (padT l []).map (fun b => Value.int .u8 (el b)) = List.replicate l (Value.int .u8 0) := by
  unfold padT
  simp
  exact .inr rfl
theorem Ow.blank (w : World) (l : Nat) (hl : l ≤ 140737488355328) : Ow (w.alloc (.cells (Array.replicate l (.int .u8 0)) 5)) w.heap.size (.slice (some ⟨w.heap.size, 0, none⟩) l l) (padT l []) := by
  have h := Ow.of_row (w := w.alloc (.cells (Array.replicate l (.int .u8 0)) 5)) (base := w.heap.size) (g := w.heap.size) (xs := padT l []) (Nat.le_refl _) (by rw [padT_nil, ← List.toArray_replicate]; exact heap_alloc_new w _) (by rw [padT_len]; exact hl)
  rw [padT_len] at h
  exact h
theorem Turned.refl (g : Nat) (w : World) : Turned g w w := ⟨fun _ _ => rfl, fun _ _ h _ => h, rfl⟩
/-- copy(block, x) onto a new block. -/
theorem wpList_cpT {w : World} {ops : Array Oper} {rest : List Oper} {o : Oper} {a : Act} {Q : Exit → Act → World → Prop} (hgd : o.guard = none) (d s : Operand) (ho : o.op = .call { callee := .builtin .copy, args := #[d, s], argTypes := #[32, 32] })
    (g l : Nat) (hd : a.eval d = .slice (some ⟨g, 0, none⟩) l l) (p : Option Addr) (c : Nat) (x : List (BitVec 8)) (hs : a.eval s = .slice p x.length c) (hr : Rd w p x) (hg : w.heap[g]? = some (.cells (Array.replicate l (.int .u8 0)) 5)) (hl : l ≤ 140737488355328)
    (h : ∀ w', Ow w' g (.slice (some ⟨g, 0, none⟩) l l) (padT l x) → Turned g w w' → wpList Try.prog ops Q rest (a.put o.dst (goInt ((x.take l).length))) w') : wpList Try.prog ops Q (o :: rest) a w := by
  have hsz : (Try.prog.info? 5).map (·.size) = some 1 := by kernel_rfl
  rcases hr with e | ⟨b, off, e, hc⟩
  · subst e
    refine wpList_copy_nothing hgd d s 32 32 ho 5 Try.underlying32 hsz _ _ _ _ _ _ hd hs (Nat.min_eq_left (Nat.zero_le _)) ?_
    have h9 := h w ?_ (Turned.refl _ _)
    · simpa using h9
    have h1 := Ow.of_row (w := w) (base := g) (g := g) (xs := padT l []) (Nat.le_refl _) (by rw [padT_nil, List.toArray_replicate]; exact hg) (by rw [padT_len]; exact hl)
    rw [padT_len] at h1
    exact h1
  · subst e
    refine wpList_copy_own hgd d s 32 32 ho 5 Try.underlying32 hsz g 0 l l ⟨b, off, none⟩ x.length c hd hs (Array.replicate l (.int .u8 0)) 5 hg ((x.take l).map (fun b => Value.int .u8 (el b))) (by simp [Nat.min_comm]) (fun j v hv => ?_) (by simp; omega) (fun v hv => by obtain ⟨_, _, rfl⟩ := List.mem_map.1 hv; rfl) ?_
    · have hj : j < x.length := by
        rcases Nat.lt_or_ge j x.length with h | h
        · exact h
        · rw [List.getElem?_eq_none (by simp; omega)] at hv; cases hv
      rw [add_pl, hc j hj]
      rw [List.getElem?_map, List.getElem?_take] at hv
      split at hv
      · rw [List.getElem?_eq_getElem hj] at hv
        simp only [Option.map_some, Option.some.injEq] at hv
        rw [← hv]
        simp [List.getD, hj]
      · cases hv
    · rw [padT_row, List.length_map]
      refine h _ ?_ ⟨fun k hk => setRow_other w g k _ hk, fun B w0 hb hB => below_setRow hb hB _, by simp⟩
      have h1 := Ow.of_row (w := w.setRow g ((padT l x).map (fun b => Value.int .u8 (el b))).toArray) (base := g) (g := g) (xs := padT l x) (Nat.le_refl _) (setRow_heap w g _ _ _ _ hg) (by rw [padT_len]; exact hl)
      rw [padT_len] at h1
      exact h1
end Go.Proofs.Ytnjgfiiimcacbaa
