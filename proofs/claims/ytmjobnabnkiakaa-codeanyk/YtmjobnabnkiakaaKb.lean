/-
  'blank': rows of zeros of the call's own.
-/
import Derived.Test.YtmjobnabnkiakaaVk
namespace Go.Proofs.Ytmjobnabnkiakaa
open Go.RowKit
theorem made_eq (z c : Value) (sz n : Nat) (h : z.cells = Array.replicate sz c) (h0 : 0 < sz) : madeCells z.cells (n * sz) = Array.replicate (n * sz) c := by
  apply Array.ext_getElem?
  intro i
  rw [h]
  simp only [madeCells]
  by_cases hin : i < n * sz
  · have : i % sz < sz := Nat.mod_lt _ h0
    simp [hin, this]
  · rw [Array.getElem?_eq_none (by simp; omega), Array.getElem?_eq_none (by simp; omega)]
theorem make_any {st et : TypeId} {z c : Value} {sz bs : Nat} (hu : Try.prog.underlying st = some (.slice et)) (hinf : (Try.prog.info? et).map (fun i => (i.zero, i.size, i.bytes)) = some (some z, sz, bs)) (h : z.cells = Array.replicate sz c) (h0 : 0 < sz) (n : Nat) (hn : bs * n ≤ 281474976710656) (hn2 : n ≤ 281474976710656) (w : World) :
    (Instr.makeSlice st (.int .i64 (n : Int)) (.int .i64 (n : Int))).run Try.prog w = .ok (.slice (some ⟨w.heap.size, 0, none⟩) n n) (w.alloc (.cells (Array.replicate (n * sz) c) et)) := by
  obtain ⟨i0, hi, hz0, hz1, hz2⟩ := info_parts hinf
  have hr := run_make (P := Try.prog) w st et i0 z hu hi hz0 .i64 .i64 (n : Int) (n : Int) (by omega) (by omega) (by rw [hz2, ← Int.natCast_mul]; omega) (by omega)
  rw [hr, hz1, Int.toNat_natCast, made_eq z c sz n h h0]
/-- A matrix of the call's own: the list of its rows at B, the row i at the block ρ i. -/
structure Gr (w : World) (to te : TypeId) (B r l m : Nat) (ρ : Nat → Nat) (M : Nat → Nat → Value) : Prop where
  out : Ov w to B (fun i => .slice (some ⟨ρ i, 0, none⟩) l l) r
  row : ∀ i, i < r → Ov w te (ρ i) (M i) m
  ne : ∀ i, i < r → ρ i ≠ B
  inj : ∀ i, i < r → ∀ j, j < r → ρ i = ρ j → i = j
theorem Gr.below {w w' : World} {to te : TypeId} {B r l m : Nat} {ρ : Nat → Nat} {M : Nat → Nat → Value} (h : Gr w to te B r l m ρ M) (hb : Below w.heap.size w w') : Gr w' to te B r l m ρ M :=
  ⟨h.out.below hb, fun i hi => (h.row i hi).below hb, h.ne, h.inj⟩
theorem Gr.congr {w : World} {to te : TypeId} {B r l m : Nat} {ρ : Nat → Nat} {M M' : Nat → Nat → Value} (h : Gr w to te B r l m ρ M) (e : ∀ i, i < r → ∀ j, j < m → M i j = M' i j) : Gr w to te B r l m ρ M' :=
  ⟨h.out, fun i hi => (h.row i hi).congr (e i hi), h.ne, h.inj⟩
theorem Gr.set {w W : World} {to te : TypeId} {B r l m : Nat} {ρ : Nat → Nat} {M : Nat → Nat → Value} (h : Gr w to te B r l m ρ M) {a j : Nat} (ha : a < r) (hj : j < m) (v : Value) (e : W.heap = (w.setCell ⟨ρ a, j, none⟩ v).heap) : Gr W to te B r l m ρ (fun i t => if i = a then (if t = j then v else M i t) else M i t) := by
  refine ⟨h.out.other (by show B ≠ ρ a; exact (h.ne a ha).symm) e, fun i hi => ?_, h.ne, h.inj⟩
  by_cases e2 : i = a
  · subst e2
    have := (h.row i hi).set hj v
    refine (this.heap e).congr (fun t _ => by rw [if_pos rfl])
  · refine ((h.row i hi).other (by show ρ i ≠ ρ a; exact fun x => e2 (h.inj i hi a ha x)) e).congr (fun t _ => by rw [if_neg e2])
def vE (x : BitVec 8) : Value := .int .u8 (el x)
def nuE (x : BitVec 8) : Int := el x
def clE (f : Nat → BitVec 8) (i : Nat) : Value := .int .u8 (el (f i))
def oE : BitVec 8 := 0#8
def vB (x : Bool) : Value := .bool x
def nuB (x : Bool) : Int := if x then 1 else 0
def clB (f : Nat → Bool) (i : Nat) : Value := .bool (f i)
def oB : Bool := false
def vF (x : Bool × Bool) : Value := .agg #[.bool x.1, .bool x.2]
def nuF (x : Bool × Bool) : Int := (if x.1 then 1 else 0) + (if x.2 then 2 else 0)
def clF (f : Nat → Bool × Bool) (i : Nat) : Value := .bool (if i % 2 = 0 then (f (i / 2)).1 else (f (i / 2)).2)
def oF : Bool × Bool := (false, false)
/-- A matrix of numbers of the call's own. -/
def GmE (w : World) (B r l : Nat) (ρ : Nat → Nat) (N : Nat → Nat → BitVec 8) : Prop := Gr w 69 73 B r l l ρ (fun i => clE (N i))
theorem GmE.below {w w' : World} {B r l : Nat} {ρ : Nat → Nat} {N : Nat → Nat → BitVec 8} (h : GmE w B r l ρ N) (hb : Below w.heap.size w w') : GmE w' B r l ρ N := Gr.below h hb
theorem GmE.out {w : World} {B r l : Nat} {ρ : Nat → Nat} {N : Nat → Nat → BitVec 8} (h : GmE w B r l ρ N) {i : Nat} (hi : i < r) : w.cell? ⟨B, i, none⟩ = some (.slice (some ⟨ρ i, 0, none⟩) l l) := (Gr.out h).cell hi
theorem GmE.ov {w : World} {B r l : Nat} {ρ : Nat → Nat} {N : Nat → Nat → BitVec 8} (h : GmE w B r l ρ N) {i : Nat} (hi : i < r) : Ov w 73 (ρ i) (clE (N i)) l := Gr.row h i hi
theorem GmE.congr {w : World} {B r l : Nat} {ρ : Nat → Nat} {N N' : Nat → Nat → BitVec 8} (h : GmE w B r l ρ N) (e : ∀ i, i < r → ∀ j, j < l → N i j = N' i j) : GmE w B r l ρ N' :=
  Gr.congr h (fun i hi j hj => by
    unfold clE
    rw [e i hi j hj])
theorem GmE.cell {w : World} {B r l : Nat} {ρ : Nat → Nat} {N : Nat → Nat → BitVec 8} (h : GmE w B r l ρ N) {i j : Nat} (hi : i < r) (hj : j < l) : w.cell? ⟨ρ i, j, none⟩ = some (vE (N i j)) := (Gr.row h i hi).cell hj
theorem GmE.frozen {w : World} {B r l : Nat} {ρ : Nat → Nat} {N : Nat → Nat → BitVec 8} (h : GmE w B r l ρ N) {i : Nat} (hi : i < r) (j : Nat) : w.frozen? ⟨ρ i, j, none⟩ = false := (Gr.row h i hi).frozen j
theorem GmE.put {w W : World} {B r l : Nat} {ρ : Nat → Nat} {N : Nat → Nat → BitVec 8} (h : GmE w B r l ρ N) {a j : Nat} (ha : a < r) (hj : j < l) (x : BitVec 8) (e : W.heap = (w.setCell ⟨ρ a, j, none⟩ (vE x)).heap) : GmE W B r l ρ (fun i t => if i = a then (if t = j then x else N i t) else N i t) := by
  refine (Gr.set h ha hj _ e).congr (fun i _ t _ => ?_)
  unfold clE vE
  by_cases e1 : i = a
  · by_cases e2 : t = j
    · simp [e1, e2]
    · simp [e1, e2]
  · simp [e1]
/-- A matrix of numbers of new memory, from the block b on. -/
def GxE (b : Nat) (w : World) (v : Value) (r l : Nat) (N : Nat → Nat → BitVec 8) : Prop := ∃ B ρ, v = .slice (some ⟨B, 0, none⟩) r r ∧ GmE w B r l ρ N ∧ b ≤ B ∧ ∀ i, i < r → b ≤ ρ i
theorem GxE.below {b : Nat} {w w' : World} {v : Value} {r l : Nat} {N : Nat → Nat → BitVec 8} (h : GxE b w v r l N) (hb : Below w.heap.size w w') : GxE b w' v r l N := by
  obtain ⟨B, ρ, e, h, hB, hr⟩ := h
  exact ⟨B, ρ, e, h.below hb, hB, hr⟩
theorem infoE : (Try.prog.info? 73).map (fun i => (i.zero, i.size, i.bytes)) = some (some (.int .u8 0), 1, 1) := by kernel_rfl
theorem infoER : (Try.prog.info? 69).map (fun i => (i.zero, i.size, i.bytes)) = some (some (.slice none 0 0), 1, 24) := by kernel_rfl
theorem makeE (n : Nat) (hn : n ≤ 1000) (w : World) : (Instr.makeSlice 69 (.int .i64 (n : Int)) (.int .i64 (n : Int))).run Try.prog w = .ok (.slice (some ⟨w.heap.size, 0, none⟩) n n) (w.alloc (.cells (Array.replicate (n * 1) (.int .u8 0)) 73)) :=
  make_any Try.underlying69 infoE rfl (by decide) n (by omega) (by omega) w
theorem makeER (n : Nat) (hn : n ≤ 1000) (w : World) : (Instr.makeSlice 59 (.int .i64 (n : Int)) (.int .i64 (n : Int))).run Try.prog w = .ok (.slice (some ⟨w.heap.size, 0, none⟩) n n) (w.alloc (.cells (Array.replicate (n * 1) (.slice none 0 0)) 69)) :=
  make_any Try.underlying59 infoER rfl (by decide) n (by omega) (by omega) w
section
attribute [local irreducible] Calls el Ov
set_option maxHeartbeats 2000000 in
set_option maxRecDepth 1000000 in
theorem blankE (r c : Nat) (hr : r ≤ 1000) (hc : c ≤ 1000) (w : World) : Calls Try.prog 64 #[.int .i64 r, .int .i64 c] w fun e w' => e = .returned (.slice (some ⟨w.heap.size, 0, none⟩) r r) ∧ Gr w' 69 73 w.heap.size r c c (fun i => w.heap.size + 1 + i) (fun _ _ => (.int .u8 0)) ∧ Below w.heap.size w w' ∧ w'.heap.size = w.heap.size + 1 + r := by
  have hm1 := makeER r (by omega)
  go_enter Try.func64, Try.ntmps64
  go_wp2
  clear hm1
  have hm2 := makeE c (by omega)
  go_loopw [11] (fun i wr => ∃ k : Nat, k ≤ r ∧ i = .int .i64 k ∧ Ov wr 69 w.heap.size (fun i => if i < k then .slice (some ⟨w.heap.size + 1 + i, 0, none⟩) c c else .slice none 0 0) r ∧ Hid (∀ i, i < k → Ov wr 73 (w.heap.size + 1 + i) (fun _ => (.int .u8 0)) c) ∧ Hid (wr.heap.size = w.heap.size + 1 + k) ∧ Below w.heap.size w wr) (fun i _ => r - (intOf i).toNat)
  case atStart => exact ⟨0, Nat.zero_le _, rfl, ov_new w _ _ r, fun i hi => by omega, by show _ = _; simp, (Below.refl _ _).alloc (Nat.le_refl _) _⟩
  case round =>
    obtain ⟨k, hk, rfl, hO, hR, hS, hb⟩ := hrel
    by_cases hlt : k < r
    · have hi : (k : Int) < (r : Int) := by omega
      have B1 := (Below.refl wr.heap.size wr).alloc (Nat.le_refl _) (.cells (Array.replicate c (.int .u8 0)) 73)
      have hO2 := hO.below B1
      have g3 := hO2.cell hlt
      have g4 := hO2.frozen k
      have hN := (show Hid _ from ov_new wr 73 (.int .u8 0) c)
      go_wp2
      clear g3 g4
      have hsz := hS.out
      go_roundw
      case rel =>
        refine ⟨k + 1, by omega, by go_num, ?_, fun i hi2 => ?_, ?_, ?_⟩
        · refine ((hO2.set hlt _).congr ?_)
          intro i hi2
          by_cases e : i = k
          · rw [if_pos e, if_pos (by omega), e, hsz]
          · rw [if_neg e]
            by_cases e2 : i < k
            · rw [if_pos e2, if_pos (by omega)]
            · rw [if_neg e2, if_neg (by omega)]
        · by_cases e : i = k
          · subst e
            rw [← hsz]
            exact hN.out.other (by have := hb.size; show wr.heap.size ≠ w.heap.size; omega) rfl
          · exact ((hR.out i (by omega)).below B1).other (by show w.heap.size + 1 + i ≠ w.heap.size; omega) rfl
        · show _ = _
          simp; omega
        · exact (hb.alloc hb.size _).setCell (Nat.le_refl _) _
      case measure => simp [intOf]; omega
    · obtain rfl : k = r := by omega
      go_wp2
      go_ret
      refine ⟨rfl, ⟨hO.congr (fun i hi => by rw [if_pos hi]), hR.out, fun i hi => by omega, fun i hi j hj h => by omega⟩, hb, hS.out⟩
end
theorem blankxE (r c : Nat) (hr : r ≤ 1000) (hc : c ≤ 1000) (w : World) : Calls Try.prog 64 #[.int .i64 r, .int .i64 c] w fun e w' => ∃ B, e = .returned (.slice (some ⟨B, 0, none⟩) r r) ∧ GmE w' B r c (fun i => B + 1 + i) (fun _ _ => oE) ∧ w.heap.size ≤ B ∧ Below w.heap.size w w' :=
  (blankE r c hr hc w).mono fun _ _ ⟨h1, h2, h3, _⟩ => ⟨_, h1, Gr.congr h2 (fun i _ j _ => by unfold clE oE; first | rfl | simp), Nat.le_refl _, h3⟩
section
attribute [local irreducible] Calls el Ov
end
section
attribute [local irreducible] Calls el Ov
end
end Go.Proofs.Ytmjobnabnkiakaa
