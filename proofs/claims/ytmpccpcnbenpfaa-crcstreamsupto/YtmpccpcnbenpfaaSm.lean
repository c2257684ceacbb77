/-
  Package crc: a Stream.
-/
import Derived.Test.YtmpccpcnbenpfaaCz1
namespace Go.Proofs.Ytmpccpcnbenpfaa
open Go.RowKit Go.Great
/-- At this place lies a Stream of so many bytes and with this sum. -/
def Sm (w : World) (b o : Nat) (c : Int) (r : BitVec 32) : Prop :=
  w.cell? ⟨b, o, none⟩ = some (.int .u64 c) ∧ w.cell? ⟨b, o + 1, none⟩ = some (.int .u32 (rg r)) ∧ w.frozen? ⟨b, o, none⟩ = false ∧ w.frozen? ⟨b, o + 1, none⟩ = false
theorem Sm.lt {w : World} {b o : Nat} {c : Int} {r : BitVec 32} (h : Sm w b o c r) : b < w.heap.size := block_lt_of_cell h.1
theorem Sm.below {w w' : World} {b o : Nat} {c : Int} {r : BitVec 32} (h : Sm w b o c r) (hb : Below w.heap.size w w') : Sm w' b o c r :=
  ⟨cell_below h.1 hb, cell_below h.2.1 hb, by rw [hb.frozen (p := ⟨b, o, none⟩) h.lt]; exact h.2.2.1, by rw [hb.frozen (p := ⟨b, o + 1, none⟩) h.lt]; exact h.2.2.2⟩
theorem sm_new (W : World) (t : TypeId) : Sm (W.alloc (.cells #[.int .u64 0, .int .u32 0] t)) W.heap.size 0 0 0#32 := by
  have h := heap_alloc_new W (.cells #[.int .u64 0, .int .u32 0] t)
  exact ⟨by rw [cell_of_row _ _ _ _ _ (0, 0) h]; rfl, by rw [cell_of_row _ _ _ _ _ (0, 0) h]; rfl, frozen_of_row _ _ _ _ _ h, frozen_of_row _ _ _ _ _ h⟩
theorem infoSm : (Try.prog.info? 27).map (fun i => (i.zero, i.size)) = some (some (.agg #[.int .u64 0, .int .u32 0]), 2) := by kernel_rfl
theorem zeroSm : ∀ w, (zeroValue 27).run Try.prog w = .ok (.agg #[.int .u64 0, .int .u32 0]) w := (zero_of_info infoSm).1
theorem wpList_allocSm {w : World} {ops : Array Oper} {rest : List Oper} {o : Oper} {a : Act} {Q : Exit → Act → World → Prop} (hgd : o.guard = none) (ho : o.op = .alloc 27)
    (dst : Option Tmp) (hdst : o.dst = dst)
    (h : ∀ w', Sm w' w.heap.size 0 0 0#32 → Grew w w' → wpList Try.prog ops Q rest (a.put dst (.pointer (some ⟨w.heap.size, 0, none⟩))) w') : wpList Try.prog ops Q (o :: rest) a w := by
  subst hdst
  refine wpList_plain hgd fun K hK => ?_
  have h2 := h _ (sm_new w 27) ⟨by simp, (Below.refl _ _).alloc (Nat.le_refl _) _⟩
  unfold Oper.wp execOp
  simp only [ho, Sem.run_bind, Instr.alloc, newVar, newRow, zeroSm, run_newObj_alloc, Sem.run_pure, Result.andThen_ok, Value.cells]
  exact hK _ _ h2
theorem ad_ne (b o : Nat) : (⟨b, o + 1, none⟩ : Addr) ≠ ⟨b, o, none⟩ := fun e => by injection e with _ e; omega
theorem Sm.wrote {w : World} {b o : Nat} {c c' : Int} {r r' : BitVec 32} (h : Sm w b o c r) : Sm ((w.setCell ⟨b, o + 1, none⟩ (.int .u32 (rg r'))).setCell ⟨b, o, none⟩ (.int .u64 c')) b o c' r' := by
  obtain ⟨h1, h2, h3, h4⟩ := h
  refine ⟨?_, ?_, by simp [h3], by simp [h4]⟩
  · refine World.cell?_setCell_same _ _ _ (u := .int .u64 c) ?_
    rw [World.cell?_setCell_other _ _ _ _ (ad_ne b o)]; exact h1
  · rw [World.cell?_setCell_other _ _ _ _ (ad_ne b o).symm]
    exact World.cell?_setCell_same _ _ _ h2
theorem Sm.reset {w : World} {b o : Nat} {c c' : Int} {r r' : BitVec 32} (h : Sm w b o c r) : Sm ((w.setCell ⟨b, o, none⟩ (.int .u64 c')).setCell ⟨b, o + 1, none⟩ (.int .u32 (rg r'))) b o c' r' := by
  obtain ⟨h1, h2, h3, h4⟩ := h
  refine ⟨?_, ?_, by simp [h3], by simp [h4]⟩
  · rw [World.cell?_setCell_other _ _ _ _ (ad_ne b o)]
    exact World.cell?_setCell_same _ _ _ h1
  · refine World.cell?_setCell_same _ _ _ (u := .int .u32 (rg r)) ?_
    rw [World.cell?_setCell_other _ _ _ _ (ad_ne b o).symm]; exact h2
section
attribute [local irreducible] Calls rg ov
theorem ssum_any {w : World} {b o : Nat} {c : Int} {r : BitVec 32} (h : Sm w b o c r) :
    Calls Try.prog 10 #[.pointer (some ⟨b, o, none⟩)] w fun e w' => e = .returned (.int .u32 (rg r)) ∧ w' = w := by
  obtain ⟨h1, h2, h3, h4⟩ := h
  go_enter Try.func10, Try.ntmps10
  go_wp2
  go_ret
  exact ⟨rfl, rfl⟩
theorem slen_any {w : World} {b o : Nat} {c : Int} {r : BitVec 32} (h : Sm w b o c r) :
    Calls Try.prog 11 #[.pointer (some ⟨b, o, none⟩)] w fun e w' => e = .returned (.int .u64 c) ∧ w' = w := by
  obtain ⟨h1, h2, h3, h4⟩ := h
  go_enter Try.func11, Try.ntmps11
  go_wp2
  go_ret
  exact ⟨rfl, rfl⟩
theorem swrite_any {w : World} {b o : Nat} {c : Int} {r : BitVec 32} (h : Sm w b o c r) {p : Option Addr} {xs : List (BitVec 8)} (hr : Rd w p xs) (n cap : Nat) (hn : xs.length = n) (hm : n ≤ 140737488355328) :
    Calls Try.prog 9 #[.pointer (some ⟨b, o, none⟩), .slice p n cap] w fun e w' => ∃ w1, e = .returned (.tuple #[]) ∧ Below w.heap.size w w1 ∧ w' = (w1.setCell ⟨b, o + 1, none⟩ (.int .u32 (rg (cmo r xs)))).setCell ⟨b, o, none⟩ (.int .u64 (IntKind.u64.wrap (c + n))) := by
  have hS := h
  obtain ⟨h1, h2, h3, h4⟩ := h
  go_enter Try.func9, Try.ntmps9
  go_wp2_with (go_at_call 15; refine (cmore_any hr r n cap hn hm).mono ?_; rintro e w1 ⟨rfl, hb1⟩; obtain ⟨k1, k2, k3, k4⟩ := hS.below hb1)
  go_end0
  exact ⟨w1, rfl, hb1, rfl⟩
end
end Go.Proofs.Ytmpccpcnbenpfaa
