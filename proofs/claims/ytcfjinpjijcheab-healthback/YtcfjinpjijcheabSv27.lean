/-
  Saving: appendBits, Save.
-/
import Derived.Test.YtcfjinpjijcheabXt27
import Derived.Test.YtcfjinpjijcheabPk27
namespace Go.Proofs.Ytcfjinpjijcheab
open Go.RowKit
attribute [local irreducible] dW dR p2 fR fW fV fval sW sR
theorem infoB : (Try.prog.info? 5).map (fun i => (i.zero, i.size, i.bytes)) = some (some (.int .u8 0), 1, 1) := by kernel_rfl
def bc (xs : List Nat) : List Value := xs.map fun b : Nat => Value.int .u8 (b : Int)
theorem bc_len (xs : List Nat) : (bc xs).length = xs.length := by simp [bc]
theorem bc_app (xs ys : List Nat) : bc (xs ++ ys) = bc xs ++ bc ys := by simp [bc]
theorem bc_at (xs : List Nat) (i : Nat) (h : i < xs.length) : (bc xs)[i]? = some (.int .u8 ((xs.getD i 0 : Nat) : Int)) := by simp [bc, List.getD, h]
theorem bc_one (xs : List Nat) : ∀ u ∈ bc xs, u.oneCell' = true := by
  intro u hu
  simp only [bc, List.mem_map] at hu
  obtain ⟨b, _, rfl⟩ := hu
  rfl
/-- Bytes of the call's own. -/
def Ob (w : World) (base : Nat) (v : Value) (xs : List Nat) : Prop := w.ownsRow base 5 1 v (bc xs).length (bc xs)
theorem Ob.below {w w' : World} {base : Nat} {v : Value} {xs : List Nat} (h : Ob w base v xs) (hb : Below w.heap.size w w') : Ob w' base v xs := own_below h hb
theorem Ob.rd {w : World} {base : Nat} {v : Value} {xs : List Nat} (h : Ob w base v xs) : ∃ p cap, v = .slice p xs.length cap ∧ xs.length ≤ cap ∧ Vr w p (bc xs) := by
  obtain ⟨p, cap, h1, h2, h3⟩ := own_rd h rfl
  rw [bc_len] at h1 h2
  exact ⟨p, cap, h1, h2, h3⟩
theorem wpList_apB {w : World} {ops : Array Oper} {rest : List Oper} {o : Oper} {a : Act} {Q : Exit → Act → World → Prop} (hgd : o.guard = none) (s x : Operand) (ho : o.op = .call { callee := .builtin .append, args := #[s, x], argTypes := #[35, 35] })
    (base : Nat) (v : Value) (xs : List Nat) (hs : a.eval s = v) (hown : Ob w base v xs) (ad : Option Addr) (n c : Nat) (ys : List Nat) (hx : a.eval x = .slice ad n c) (hr : Vr w ad (bc ys)) (hn : ys.length = n)
    (hm : xs.length + n ≤ 140737488355328) (hbase : base ≤ w.heap.size)
    (h : ∀ v' w', Ob w' base v' (xs ++ ys) → w.grownBy w' v.ownBlock → wpList Try.prog ops Q rest (a.put o.dst v') w') : wpList Try.prog ops Q (o :: rest) a w := by
  refine wpList_apG Try.underlying35 infoB rfl hgd s x ho base v (bc xs) hs hown ad n c (bc ys) hx hr (by rw [bc_len, hn]) (bc_one ys) (by rw [bc_len]; omega) (by rw [bc_len]; omega) hbase ?_
  intro v' w' h1 h2
  refine h v' w' ?_ h2
  unfold Ob; rw [bc_app]; exact h1
/-- The four bytes of a number's bits. -/
def by4 (x : Nat) : List Nat := [x % 256, x / 256 % 256, x / 65536 % 256, x / 16777216 % 256]
def by4k (x k : Nat) : List Nat := (by4 x).take k
/-- What Save answers. -/
def svd (k : Nat) (ss : List Nat) : List Nat := ss.length % 256 :: by4 k ++ ss.flatMap by4
theorem room_B (n : Nat) (hn : n ≤ 1048576) (w : World) : (Instr.makeSlice 35 (.int .i64 0) (.int .i64 (n : Int))).run Try.prog w = .ok (.slice (some ⟨w.heap.size, 0, none⟩) 0 n) (w.alloc (.cells (List.replicate n (Value.int .u8 0)).toArray 5)) := by
  obtain ⟨i0, hi, hz0, hs1, hby⟩ := info_parts infoB
  have h := run_make (P := Try.prog) w 35 5 i0 (.int .u8 0) Try.underlying35 hi hz0 .i64 .i64 0 (n : Int) (by omega) (by omega) (by rw [hby]; omega) (by omega)
  rw [h, hs1]
  simp only [Int.toNat_natCast, Nat.mul_one, Int.toNat_zero]
  rw [show (Value.int IntKind.u8 0).cells = #[.int .u8 0] from rfl, ← toList_madeCells_one, Array.toArray_toList]
theorem ob_room (w : World) (n : Nat) (hn : n ≤ 1048576) : Ob (w.alloc (.cells (List.replicate n (Value.int .u8 0)).toArray 5)) w.heap.size (.slice (some ⟨w.heap.size, 0, none⟩) 0 n) [] :=
  ⟨by simp [bc], .inr ⟨w.heap.size, n, _, rfl, Nat.le_refl _, heap_alloc_new w _, Nat.zero_le _, by unfold maxLen; omega, by simp, by simp [bc]⟩⟩
section
attribute [local irreducible] Calls
set_option maxRecDepth 1000000 in
set_option maxHeartbeats 2000000 in
theorem apBits_any {w : World} {base : Nat} {v : Value} {xs : List Nat} (h : Ob w base v xs) (hb0 : base ≤ w.heap.size) (x : Nat) (hx : x < 4294967296) (hl : xs.length ≤ 1048576) :
    Calls Try.prog 26 #[v, .float .f32 x] w fun e w' => ∃ v', e = .returned v' ∧ Ob w' base v' (xs ++ by4 x) ∧ Below base w w' := by
  have rb := run_bits32
  have al := balloc
  have HH := (show Hid (Ob w base v xs) from h)
  clear h
  go_enter Try.func26, Try.ntmps26
  go_wp2
  clear rb
  go_loopw [0, 5, 8] (fun o u i wr => ∃ t : Nat, t ≤ 4 ∧ i = .int .i64 (t : Int) ∧ u = .int .u32 ((x / 256 ^ t : Nat) : Int) ∧ Ob wr base o (xs ++ by4k x t) ∧ Below base w wr) (fun _ _ i _ => 4 - (intOf i).toNat)
  case atStart => exact ⟨0, by omega, rfl, by simp, by simp [by4k]; exact HH.out, Below.refl _ _⟩
  case round =>
    obtain ⟨t, ht, rfl, rfl, hO, hb⟩ := hrel
    have hsz := hb.size
    by_cases hlt : t < 4
    · have hi : (t : Int) < 4 := by omega
      obtain ⟨y, hy⟩ : ∃ y, x / 256 ^ t = y := ⟨_, rfl⟩
      have hy2 : y < 4294967296 := by rw [← hy]; exact Nat.lt_of_le_of_lt (Nat.div_le_self _ _) hx
      have e1 : by4k x (t + 1) = by4k x t ++ [y % 256] := by
        rw [← hy]
        unfold by4k by4
        match t, hlt with
        | 0, _ => simp
        | 1, _ => simp
        | 2, _ => simp
        | 3, _ => simp
      have e2 : x / 256 ^ (t + 1) = y / 256 := by rw [Nat.pow_succ, ← Nat.div_div_eq_div_mul, hy]
      have e3 : (by4k x t).length ≤ 4 := by unfold by4k; rw [List.length_take]; omega
      rw [hy]
      have HE := (show Hid (_ ∧ _) from ⟨e1, e2⟩)
      have r1 : Vr (wr.alloc (.cells #[.int .u8 ((y : Int) % 256)] 5)) (some ⟨wr.heap.size, 0, none⟩) (bc [y % 256]) := by
        have := (bl_new wr 5 [.int .u8 ((y : Int) % 256)]).rd
        rwa [show bc [y % 256] = [Value.int .u8 ((y : Int) % 256)] by simp [bc]]
      clear e1 e2 hy
      go_wp2_with (at_builtin; refine wpList_apB rfl (.tmp 10) (.tmp 13) rfl base u0 (xs ++ by4k x t) rfl (hO.below (al _ _)) (some ⟨wr.heap.size, 0, none⟩) 1 1 [y % 256] rfl r1 rfl (by rw [List.length_append]; omega) (Nat.le_trans hb0 (Nat.le_trans hsz (al _ _).size)) ?_; intro v2 w2 ho2 hg2)
      go_roundw
      case rel =>
        refine ⟨t + 1, by omega, by go_num, ?_, ?_, below_append (t := 5) (hb.alloc (Nat.le_trans hb0 hsz) _) (Nat.le_trans hb0 (Nat.le_trans hsz (al _ _).size)) hg2 (hO.below (al _ _)) (Nat.le_refl _)⟩
        · rw [HE.out.2]; first | rfl | (simp; done) | go_num
        · rw [HE.out.1, ← List.append_assoc]; exact ho2
      case measure => simp [intOf]; omega
    · obtain rfl : t = 4 := by omega
      go_wp2
      go_ret
      rw [show by4k x 4 = by4 x from rfl] at hO
      exact ⟨_, rfl, hO, hb⟩
def svk (k : Nat) (ss : List Nat) (t : Nat) : List Nat := ss.length % 256 :: by4 k ++ (ss.take t).flatMap by4
theorem by4_len (x : Nat) : (by4 x).length = 4 := rfl
theorem flat_len (l : List Nat) : (l.flatMap by4).length = 4 * l.length := by
  induction l with
  | nil => rfl
  | cons a l ih => rw [List.flatMap_cons, List.length_append, ih, by4_len, List.length_cons]; omega
theorem svk_len (k : Nat) (ss : List Nat) (t : Nat) (h : t ≤ ss.length) : (svk k ss t).length = 5 + 4 * t := by
  unfold svk
  rw [List.length_append, List.length_cons, by4_len, flat_len, List.length_take]
  omega
theorem svk_succ (k : Nat) (ss : List Nat) (t : Nat) (h : t < ss.length) : svk k ss (t + 1) = svk k ss t ++ by4 (ss.getD t 0) := by
  unfold svk
  rw [List.take_add_one, List.getElem?_eq_getElem h, List.flatMap_append]
  simp only [Option.toList_some, List.flatMap_cons, List.flatMap_nil, List.append_nil]
  rw [show ss.getD t 0 = ss[t] by simp [List.getD, h], List.append_assoc]
theorem svk_full (k : Nat) (ss : List Nat) : svk k ss ss.length = svd k ss := by unfold svk svd; rw [List.take_length]
set_option maxRecDepth 1000000 in
set_option maxHeartbeats 4000000 in
theorem save_any {w : World} {b s k : Nat} {ss : List Nat} (h : Bd w b s k ss) (hk : k < 4294967296) (hs : ∀ x ∈ ss, Sc x) (n : Nat) (hn : ss.length = n) (h2 : n ≤ 255) :
    Calls Try.prog 14 #[.pointer (some ⟨b, 0, none⟩)] w fun e w' => ∃ v', e = .returned v' ∧ Ob w' w.heap.size v' (svd k ss) ∧ Below w.heap.size w w' := by
  have AB := (show Hid _ from fun (W : World) (v : Value) (xs : List Nat) (x : Nat) (hO : Ob W w.heap.size v xs) (hW : w.heap.size ≤ W.heap.size) (hx : x < 4294967296) (hl : xs.length ≤ 1048576) => apBits_any hO hW x hx hl)
  have al := balloc
  have rm : ∀ W : World, (Instr.makeSlice 35 (.int .i64 0) (.int .i64 (5 + 4 * (n : Int)))).run Try.prog W = .ok (.slice (some ⟨W.heap.size, 0, none⟩) 0 (5 + 4 * n)) (W.alloc (.cells (List.replicate (5 + 4 * n) (Value.int .u8 0)).toArray 5)) := fun W => by
    have := room_B (5 + 4 * n) (by omega) W
    rwa [show ((5 + 4 * n : Nat) : Int) = 5 + 4 * (n : Int) by omega] at this
  obtain ⟨W1, hW1⟩ : ∃ W1, W1 = w.alloc (.cells (List.replicate (5 + 4 * n) (Value.int .u8 0)).toArray 5) := ⟨_, rfl⟩
  have rm1 : (Instr.makeSlice 35 (.int .i64 0) (.int .i64 (5 + 4 * (n : Int)))).run Try.prog w = .ok (.slice (some ⟨w.heap.size, 0, none⟩) 0 (5 + 4 * n)) W1 := by rw [hW1]; exact rm w
  have hO1 : Ob W1 w.heap.size (.slice (some ⟨w.heap.size, 0, none⟩) 0 (5 + 4 * n)) [] := by rw [hW1]; exact ob_room w _ (by omega)
  have hb1 : Below w.heap.size w W1 := by rw [hW1]; exact balloc _ _
  have h1 := h.below hb1
  have c0 := h.c1
  have c1 := h1.c1
  have c2 := h1.c0
  rw [hn] at c0 c1
  have HB := (show Hid (Bd w b s k ss) from h)
  have n256 : ss.length % 256 = n := by omega
  have nw : (n : Int) % 256 = (n : Int) := by omega
  clear rm hW1 h h1
  go_enter Try.func14, Try.ntmps14
  have r1 : Vr (W1.alloc (.cells #[.int .u8 (n : Int)] 5)) (some ⟨W1.heap.size, 0, none⟩) (bc [n]) := by
    have := (bl_new W1 5 [.int .u8 (n : Int)]).rd
    rwa [show bc [n] = [Value.int .u8 (n : Int)] by simp [bc]]
  have HN := (show Hid (_ ∧ _) from ⟨hn, n256⟩)
  have HB1 := (show Hid (Below w.heap.size w W1) from hb1)
  have HK := (show Hid _ from hk)
  have HSS := (show Hid _ from hs)
  clear n256 hb1 hs
  go_wp2_with (first
    | (at_builtin; refine wpList_apB rfl (.tmp 16) (.tmp 23) rfl w.heap.size _ [] rfl (hO1.below (al _ _)) (some ⟨W1.heap.size, 0, none⟩) 1 1 [n] rfl r1 rfl (by simp) (Nat.le_trans HB1.out.size (al _ _).size) ?_; intro v2 w2 ho2 hg2; have hb2 : Below w.heap.size w w2 := below_append (t := 5) (HB1.out.alloc HB1.out.size _) (Nat.le_trans HB1.out.size (al _ _).size) hg2 (hO1.below (al _ _)) (Nat.le_refl _); have q0 := (HB.out.below hb2).c0; have q1 := (HB.out.below hb2).c1; rw [HN.out.1] at q1)
    | (go_at_call 26; refine (AB.out _ _ _ k ho2 hb2.size HK.out (by simp)).mono ?_; rintro e w3 ⟨v3, rfl, hO3, hb3⟩; have q3 := (HB.out.below (hb2.trans hb3)).c1; rw [HN.out.1] at q3))
  have hbw : Below w.heap.size w w3 := hb2.trans hb3
  have HB3 := (show Hid (Below w.heap.size w w3) from hbw)
  clear hb2 hb3 hbw
  go_loopw [3, 36] (fun o i wr => ∃ t : Nat, t ≤ n ∧ i = .int .i64 (t : Int) ∧ Ob wr w.heap.size o (svk k ss t) ∧ Below w.heap.size w wr) (fun _ i _ => n - (intOf i).toNat)
  case atStart =>
    refine ⟨0, Nat.zero_le _, rfl, ?_, HB3.out⟩
    have e : svk k ss 0 = [] ++ [n] ++ by4 k := by unfold svk; rw [HN.out.2]; simp
    rw [e]; exact hO3
  case round =>
    obtain ⟨t, ht, rfl, hO, hb⟩ := hrel
    have hsz := hb.size
    by_cases hlt : t < n
    · have hi : (t : Int) < (n : Int) := by omega
      have hbd := HB.out.below hb
      have g1 := hbd.at t (by omega)
      have e1 := svk_succ k ss t (by omega)
      have e2 := svk_len k ss t (by omega)
      have hy2 : ss.getD t 0 < 4294967296 := by
        have := HSS.out (ss.getD t 0) (by rw [show ss.getD t 0 = ss[t]'(by omega) by simp [List.getD, show t < ss.length by omega]]; exact List.getElem_mem _)
        unfold Sc at this
        omega
      obtain ⟨y, hy⟩ : ∃ y, ss.getD t 0 = y := ⟨_, rfl⟩
      rw [hy] at g1 e1 hy2
      have A1 := (show Hid _ from AB.out wr u3 (svk k ss t) y hO hsz hy2 (by omega))
      have HE := (show Hid _ from e1)
      clear e1 hbd hy
      go_wp2_with (go_at_call 26; refine A1.out.mono ?_; rintro e w4 ⟨v4, rfl, hO4, hb4⟩)
      go_roundw
      case rel => exact ⟨t + 1, hlt, by go_num, by rw [HE.out]; exact hO4, hb.trans hb4⟩
      case measure => simp [intOf]; omega
    · obtain rfl : t = n := by omega
      go_wp2
      go_ret
      have e := svk_full k ss
      rw [HN.out.1] at e
      exact ⟨_, rfl, by rw [← e]; exact hO, hb⟩
end
end Go.Proofs.Ytcfjinpjijcheab
