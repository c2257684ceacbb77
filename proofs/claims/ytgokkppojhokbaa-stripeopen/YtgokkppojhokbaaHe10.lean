/-
  Heads compared.
-/
import Derived.Test.YtgokkppojhokbaaSs10
import Derived.Laws.StructEq
namespace Go.Proofs.Ytgokkppojhokbaa
open Go.RowKit
theorem el_beq8 (a b : BitVec 8) : (el a == el b) = decide (a = b) := by
  by_cases h : a = b
  · subst h; simp
  · rw [decide_eq_false h]
    have : el a ≠ el b := fun e => h (by unfold el at e; exact BitVec.eq_of_toNat_eq (by omega))
    simp [this]
theorem pt0 (x : Nat → Int) (w : World) : (part 5 #[.int .u8 (x 0), .int .u8 (x 1), .int .u8 (x 2), .int .u8 (x 3), .int .u8 (x 4), .int .u8 (x 5), .int .u8 (x 6), .int .u8 (x 7)] 0).run Try.prog w = .ok (.int .u8 (x 0)) w := by kernel_rfl
theorem pt1 (x : Nat → Int) (w : World) : (part 5 #[.int .u8 (x 0), .int .u8 (x 1), .int .u8 (x 2), .int .u8 (x 3), .int .u8 (x 4), .int .u8 (x 5), .int .u8 (x 6), .int .u8 (x 7)] 1).run Try.prog w = .ok (.int .u8 (x 1)) w := by kernel_rfl
theorem pt2 (x : Nat → Int) (w : World) : (part 5 #[.int .u8 (x 0), .int .u8 (x 1), .int .u8 (x 2), .int .u8 (x 3), .int .u8 (x 4), .int .u8 (x 5), .int .u8 (x 6), .int .u8 (x 7)] 2).run Try.prog w = .ok (.int .u8 (x 2)) w := by kernel_rfl
theorem pt3 (x : Nat → Int) (w : World) : (part 5 #[.int .u8 (x 0), .int .u8 (x 1), .int .u8 (x 2), .int .u8 (x 3), .int .u8 (x 4), .int .u8 (x 5), .int .u8 (x 6), .int .u8 (x 7)] 3).run Try.prog w = .ok (.int .u8 (x 3)) w := by kernel_rfl
theorem pt4 (x : Nat → Int) (w : World) : (part 5 #[.int .u8 (x 0), .int .u8 (x 1), .int .u8 (x 2), .int .u8 (x 3), .int .u8 (x 4), .int .u8 (x 5), .int .u8 (x 6), .int .u8 (x 7)] 4).run Try.prog w = .ok (.int .u8 (x 4)) w := by kernel_rfl
theorem pt5 (x : Nat → Int) (w : World) : (part 5 #[.int .u8 (x 0), .int .u8 (x 1), .int .u8 (x 2), .int .u8 (x 3), .int .u8 (x 4), .int .u8 (x 5), .int .u8 (x 6), .int .u8 (x 7)] 5).run Try.prog w = .ok (.int .u8 (x 5)) w := by kernel_rfl
theorem pt6 (x : Nat → Int) (w : World) : (part 5 #[.int .u8 (x 0), .int .u8 (x 1), .int .u8 (x 2), .int .u8 (x 3), .int .u8 (x 4), .int .u8 (x 5), .int .u8 (x 6), .int .u8 (x 7)] 6).run Try.prog w = .ok (.int .u8 (x 6)) w := by kernel_rfl
theorem pt7 (x : Nat → Int) (w : World) : (part 5 #[.int .u8 (x 0), .int .u8 (x 1), .int .u8 (x 2), .int .u8 (x 3), .int .u8 (x 4), .int .u8 (x 5), .int .u8 (x 6), .int .u8 (x 7)] 7).run Try.prog w = .ok (.int .u8 (x 7)) w := by kernel_rfl
set_option maxRecDepth 100000 in
theorem eq_arr (x y : Nat → Int) (w : World) : (Op.equalIn 9999 22 (.agg #[.int .u8 (x 0), .int .u8 (x 1), .int .u8 (x 2), .int .u8 (x 3), .int .u8 (x 4), .int .u8 (x 5), .int .u8 (x 6), .int .u8 (x 7)]) (.agg #[.int .u8 (y 0), .int .u8 (y 1), .int .u8 (y 2), .int .u8 (y 3), .int .u8 (y 4), .int .u8 (y 5), .int .u8 (y 6), .int .u8 (y 7)])).run Try.prog w = .ok (x 0 == y 0 && (x 1 == y 1 && (x 2 == y 2 && (x 3 == y 3 && (x 4 == y 4 && (x 5 == y 5 && (x 6 == y 6 && x 7 == y 7))))))) w := by
  obtain ⟨i0, hi, hz0, hz1, hz2⟩ := info_parts info5
  have ei : ∀ (a b : Int) (w : World), (Op.equalIn 9998 5 (.int .u8 a) (.int .u8 b)).run Try.prog w = .ok (a == b) w := fun a b w => run_equalIn_int w 9997 5 .u8 .u8 a b Try.underlying5
  rw [Op.equalIn]
  simp only [Sem.run_bind, run_underlying Try.underlying22, Result.andThen_ok, sizeOf, typeInfo, run_program, hi]
  simp [List.range', hz1, pt0, pt1, pt2, pt3, pt4, pt5, pt6, pt7, ei]
  repeat' split
  all_goals simp [*]
def b8 (h : Hd) (i : Nat) : Int := el (h.st.getD i 0#8)
theorem st_eq (h g : Hd) : (b8 h 0 == b8 g 0 && (b8 h 1 == b8 g 1 && (b8 h 2 == b8 g 2 && (b8 h 3 == b8 g 3 && (b8 h 4 == b8 g 4 && (b8 h 5 == b8 g 5 && (b8 h 6 == b8 g 6 && b8 h 7 == b8 g 7))))))) = decide (h.st = g.st) := by
  unfold b8
  simp only [el_beq8]
  rw [Bool.eq_iff_iff]
  simp only [Bool.and_eq_true, decide_eq_true_eq]
  unfold Hd.st
  simp
def hq (h g : Hd) : Bool := decide (h.st = g.st) && (decide (h.k = g.k) && (decide (h.m = g.m) && (decide (h.b = g.b) && (decide (h.key = g.key) && (decide (h.sz = g.sz) && (decide (h.ix = g.ix) && (decide (h.ep = g.ep) && decide (h.ct = g.ct))))))))
theorem hq_iff (h g : Hd) : hq h g = true ↔ h = g := by
  unfold hq
  simp only [Bool.and_eq_true, decide_eq_true_eq]
  constructor
  · obtain ⟨⟩ := h
    obtain ⟨⟩ := g
    unfold Hd.st
    simp only [List.cons.injEq, Hd.mk.injEq]
    rintro ⟨⟨h0, h1, h2, h3, h4, h5, h6, h7, _⟩, hk, hm, hb, hy, hs, hi, he, hc⟩
    exact ⟨h0, h1, h2, h3, h4, h5, h6, h7, hk, hm, hb, hy, hs, hi, he, hc⟩
  · rintro rfl; simp
set_option maxHeartbeats 4000000 in
set_option maxRecDepth 100000 in
theorem eq_head (h g : Hd) (w : World) : (Op.equalIn 10000 33 (.agg h.cs) (.agg g.cs)).run Try.prog w = .ok (hq h g) w := by
  have ea : (Op.equalIn 9999 22 (.agg #[.int .u8 (el h.a0), .int .u8 (el h.a1), .int .u8 (el h.a2), .int .u8 (el h.a3), .int .u8 (el h.a4), .int .u8 (el h.a5), .int .u8 (el h.a6), .int .u8 (el h.a7)]) (.agg #[.int .u8 (el g.a0), .int .u8 (el g.a1), .int .u8 (el g.a2), .int .u8 (el g.a3), .int .u8 (el g.a4), .int .u8 (el g.a5), .int .u8 (el g.a6), .int .u8 (el g.a7)])).run Try.prog w = .ok (decide (h.st = g.st)) w := by
    rw [← st_eq]; exact eq_arr (b8 h) (b8 g) w
  have eb := bstr_beq h.key g.key
  unfold Hd.cs
  go_simp
  repeat' split
  all_goals simp [hq, *]
theorem neq_head (h g : Hd) (w : World) : (binOp .neq 33 (.agg h.cs) (.agg g.cs)).run Try.prog w = .ok (.bool (!hq h g)) w := by
  rw [run_neq_struct, eq_head]; rfl
theorem eql_head (h g : Hd) (w : World) : (binOp .eql 33 (.agg h.cs) (.agg g.cs)).run Try.prog w = .ok (.bool (hq h g)) w := by
  rw [run_eql_struct, eq_head]; rfl
end Go.Proofs.Ytgokkppojhokbaa
