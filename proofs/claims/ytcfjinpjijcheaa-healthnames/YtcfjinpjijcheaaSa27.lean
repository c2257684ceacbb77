/-
  appendBits.
-/
import Derived.Test.YtcfjinpjijcheaaXa27
import Derived.Test.YtcfjinpjijcheaaFx27
namespace Go.Proofs.Ytcfjinpjijcheaa
open Go.RowKit
theorem infoB : (Try.prog.info? 5).map (fun i => (i.zero, i.size, i.bytes)) = some (some (.int .u8 0), 1, 1) := by kernel_rfl
def bc (xs : List Nat) : List Value := xs.map fun b : Nat => Value.int .u8 (b : Int)
theorem bc_len (xs : List Nat) : (bc xs).length = xs.length := by simp [bc]
theorem bc_app (xs ys : List Nat) : bc (xs ++ ys) = bc xs ++ bc ys := by simp [bc]
theorem bc_at (xs : List Nat) (i : Nat) (h : i < xs.length) : (bc xs)[i]? = some (.int .u8 ((xs.getD i 0 : Nat) : Int)) := by simp [bc, List.getD, h]
theorem bc_one (xs : List Nat) : ∀ u ∈ bc xs, u.oneCell' = true := by
  intro u hu
  simp only [bc, List.mem_map] at hu
  obtain ⟨b, _, rfl⟩ := hu
  rfl
/-- Bytes of the call's own. -/
def Ob (w : World) (base : Nat) (v : Value) (xs : List Nat) : Prop := w.ownsRow base 5 1 v (bc xs).length (bc xs)
theorem Ob.below {w w' : World} {base : Nat} {v : Value} {xs : List Nat} (h : Ob w base v xs) (hb : Below w.heap.size w w') : Ob w' base v xs := own_below h hb
theorem Ob.rd {w : World} {base : Nat} {v : Value} {xs : List Nat} (h : Ob w base v xs) : ∃ p cap, v = .slice p xs.length cap ∧ xs.length ≤ cap ∧ Vr w p (bc xs) := by
  obtain ⟨p, cap, h1, h2, h3⟩ := own_rd h rfl
  rw [bc_len] at h1 h2
  exact ⟨p, cap, h1, h2, h3⟩
theorem wpList_apB {w : World} {ops : Array Oper} {rest : List Oper} {o : Oper} {a : Act} {Q : Exit → Act → World → Prop} (hgd : o.guard = none) (s x : Operand) (ho : o.op = .call { callee := .builtin .append, args := #[s, x], argTypes := #[34, 34] })
    (base : Nat) (v : Value) (xs : List Nat) (hs : a.eval s = v) (hown : Ob w base v xs) (ad : Option Addr) (n c : Nat) (ys : List Nat) (hx : a.eval x = .slice ad n c) (hr : Vr w ad (bc ys)) (hn : ys.length = n)
    (hm : xs.length + n ≤ 140737488355328) (hbase : base ≤ w.heap.size)
    (h : ∀ v' w', Ob w' base v' (xs ++ ys) → w.grownBy w' v.ownBlock → wpList Try.prog ops Q rest (a.put o.dst v') w') : wpList Try.prog ops Q (o :: rest) a w := by
  refine wpList_apG Try.underlying34 infoB rfl hgd s x ho base v (bc xs) hs hown ad n c (bc ys) hx hr (by rw [bc_len, hn]) (bc_one ys) (by rw [bc_len]; omega) (by rw [bc_len]; omega) hbase ?_
  intro v' w' h1 h2
  refine h v' w' ?_ h2
  unfold Ob; rw [bc_app]; exact h1
/-- The four bytes of a number's bits. -/
def by4 (x : Nat) : List Nat := [x % 256, x / 256 % 256, x / 65536 % 256, x / 16777216 % 256]
def by4k (x k : Nat) : List Nat := (by4 x).take k
/-- What Save answers. -/
def svd (k : Nat) (ss : List Nat) : List Nat := ss.length % 256 :: by4 k ++ ss.flatMap by4
theorem room_B (n : Nat) (hn : n ≤ 1048576) (w : World) : (Instr.makeSlice 34 (.int .i64 0) (.int .i64 (n : Int))).run Try.prog w = .ok (.slice (some ⟨w.heap.size, 0, none⟩) 0 n) (w.alloc (.cells (List.replicate n (Value.int .u8 0)).toArray 5)) := by
  obtain ⟨i0, hi, hz0, hs1, hby⟩ := info_parts infoB
  have h := run_make (P := Try.prog) w 34 5 i0 (.int .u8 0) Try.underlying34 hi hz0 .i64 .i64 0 (n : Int) (by omega) (by omega) (by rw [hby]; omega) (by omega)
  rw [h, hs1]
  simp only [Int.toNat_natCast, Nat.mul_one, Int.toNat_zero]
  rw [show (Value.int IntKind.u8 0).cells = #[.int .u8 0] from rfl, ← toList_madeCells_one, Array.toArray_toList]
theorem ob_room (w : World) (n : Nat) (hn : n ≤ 1048576) : Ob (w.alloc (.cells (List.replicate n (Value.int .u8 0)).toArray 5)) w.heap.size (.slice (some ⟨w.heap.size, 0, none⟩) 0 n) [] :=
  ⟨by simp [bc], .inr ⟨w.heap.size, n, _, rfl, Nat.le_refl _, heap_alloc_new w _, Nat.zero_le _, by unfold maxLen; omega, by simp, by simp [bc]⟩⟩
section
attribute [local irreducible] Calls
set_option maxRecDepth 1000000 in
set_option maxHeartbeats 2000000 in
theorem apBits_any {w : World} {base : Nat} {v : Value} {xs : List Nat} (h : Ob w base v xs) (hb0 : base ≤ w.heap.size) (x : Nat) (hx : x < 4294967296) (hl : xs.length ≤ 1048576) :
    Calls Try.prog 31 #[v, .float .f32 x] w fun e w' => ∃ v', e = .returned v' ∧ Ob w' base v' (xs ++ by4 x) ∧ Below base w w' := by
  have rb := run_bits32
  have al := balloc
  have HH := (show Hid (Ob w base v xs) from h)
  clear h
  go_enter Try.func31, Try.ntmps31
  go_wp2
  clear rb
  go_loopw [0, 5, 8] (fun o u i wr => ∃ t : Nat, t ≤ 4 ∧ i = .int .i64 (t : Int) ∧ u = .int .u32 ((x / 256 ^ t : Nat) : Int) ∧ Ob wr base o (xs ++ by4k x t) ∧ Below base w wr) (fun _ _ i _ => 4 - (intOf i).toNat)
  case atStart => exact ⟨0, by omega, rfl, by simp, by simp [by4k]; exact HH.out, Below.refl _ _⟩
  case round =>
    obtain ⟨t, ht, rfl, rfl, hO, hb⟩ := hrel
    have hsz := hb.size
    by_cases hlt : t < 4
    · have hi : (t : Int) < 4 := by omega
      obtain ⟨y, hy⟩ : ∃ y, x / 256 ^ t = y := ⟨_, rfl⟩
      have hy2 : y < 4294967296 := by rw [← hy]; exact Nat.lt_of_le_of_lt (Nat.div_le_self _ _) hx
      have e1 : by4k x (t + 1) = by4k x t ++ [y % 256] := by
        rw [← hy]
        unfold by4k by4
        match t, hlt with
        | 0, _ => simp
        | 1, _ => simp
        | 2, _ => simp
        | 3, _ => simp
      have e2 : x / 256 ^ (t + 1) = y / 256 := by rw [Nat.pow_succ, ← Nat.div_div_eq_div_mul, hy]
      have e3 : (by4k x t).length ≤ 4 := by unfold by4k; rw [List.length_take]; omega
      rw [hy]
      have HE := (show Hid (_ ∧ _) from ⟨e1, e2⟩)
      have r1 : Vr (wr.alloc (.cells #[.int .u8 ((y : Int) % 256)] 5)) (some ⟨wr.heap.size, 0, none⟩) (bc [y % 256]) := by
        have := (bl_new wr 5 [.int .u8 ((y : Int) % 256)]).rd
        rwa [show bc [y % 256] = [Value.int .u8 ((y : Int) % 256)] by simp [bc]]
      clear e1 e2 hy
      go_wp2_with (at_builtin; refine wpList_apB rfl (.tmp 10) (.tmp 13) rfl base u0 (xs ++ by4k x t) rfl (hO.below (al _ _)) (some ⟨wr.heap.size, 0, none⟩) 1 1 [y % 256] rfl r1 rfl (by rw [List.length_append]; omega) (Nat.le_trans hb0 (Nat.le_trans hsz (al _ _).size)) ?_; intro v2 w2 ho2 hg2)
      go_roundw
      case rel =>
        refine ⟨t + 1, by omega, by go_num, ?_, ?_, below_append (t := 5) (hb.alloc (Nat.le_trans hb0 hsz) _) (Nat.le_trans hb0 (Nat.le_trans hsz (al _ _).size)) hg2 (hO.below (al _ _)) (Nat.le_refl _)⟩
        · rw [HE.out.2]; first | rfl | (simp; done) | go_num
        · rw [HE.out.1, ← List.append_assoc]; exact ho2
      case measure => simp [intOf]; omega
    · obtain rfl : t = 4 := by omega
      go_wp2
      go_ret
      rw [show by4k x 4 = by4 x from rfl] at hO
      exact ⟨_, rfl, hO, hb⟩
end
end Go.Proofs.Ytcfjinpjijcheaa
