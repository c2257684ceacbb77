/-
  The Puts of bytes and texts.
-/
import Derived.Test.YtmcbeikgdcgdcaaPu
import Derived.Test.YtmcbeikgdcgdcaaKs
import Derived.Lib.AppendStr
namespace Go.Proofs.Ytmcbeikgdcgdcaa
open Go.RowKit
theorem bstr_surj (s : ByteArray) : ∃ t, s = bstr t := by
  refine ⟨s.data.toList.map (fun u => BitVec.ofNat 8 u.toNat), ?_⟩
  unfold bstr us
  rw [List.map_map]
  have e : s.data.toList.map ((fun b : BitVec 8 => UInt8.ofNat b.toNat) ∘ fun u => BitVec.ofNat 8 u.toNat) = s.data.toList := by
    conv => rhs; rw [← List.map_id s.data.toList]
    apply List.map_congr_left
    intro u _
    show UInt8.ofNat (BitVec.ofNat 8 u.toNat).toNat = u
    rw [BitVec.toNat_ofNat]
    have := u.toNat_lt
    rw [Nat.mod_eq_of_lt (by omega)]
    simp
  rw [e]
theorem bstr_size (t : List (BitVec 8)) : (bstr t).size = t.length := by
  show (us t).toArray.size = _
  rw [List.size_toArray, us_len]
theorem strCells_bstr (t : List (BitVec 8)) : Lib.strCells (bstr t) = vs (fn t) t.length := by
  unfold Lib.strCells bstr
  apply List.ext_getElem?
  intro i
  by_cases h : i < t.length
  · rw [vs_at _ _ _ h]
    have h' : i < (us t).length := by rw [us_len]; exact h
    rw [List.getElem?_map, List.getElem?_eq_getElem (by simpa using h')]
    simp only [Option.map_some]
    congr 2
    exact us_at t i h'
  · rw [List.getElem?_eq_none (by simp [us_len]; omega), List.getElem?_eq_none (by rw [vs_len]; omega)]
/-- append(v, s..) of a string's bytes. -/
theorem wpList_aps {w : World} {ops : Array Oper} {rest : List Oper} {o : Oper} {a : Act} {Q : Exit → Act → World → Prop} (hgd : o.guard = none) (s x : Operand) (ho : o.op = .call { callee := .builtin .append, args := #[s, x], argTypes := #[22, 9] })
    (base : Nat) (v : Value) (xs : List (BitVec 8)) (hs : a.eval s = v) (hown : Ow w base v xs) (t : List (BitVec 8)) (hx : a.eval x = .string (bstr t)) (hm : xs.length + t.length ≤ 140737488355328) (hbase : base ≤ w.heap.size)
    (h : ∀ v' w', Ow w' base v' (xs ++ t) → w.grownBy w' v.ownBlock → wpList Try.prog ops Q rest (a.put o.dst v') w') : wpList Try.prog ops Q (o :: rest) a w := by
  obtain ⟨i0, hi, hz0, hz1, hz2⟩ := info_parts info5
  refine Lib.wpList_append_own_string w hgd s x 22 9 ho base 5 i0 Try.underlying22 undS hi hz0 hz1 hz2 v xs.length _ hs hown (bstr t) hx (by rw [bstr_size]; unfold maxLen; omega) (by rw [bstr_size]; omega) hbase ?_
  intro v' w' ho' hg _
  refine h v' w' ?_ hg
  rw [bstr_size, strCells_bstr] at ho'
  unfold Ow
  rw [List.length_append, vs_fn_app]; exact ho'
/-- A slice of texts that reads as these. -/
def Rs' (w : World) (a : Option Addr) (ts : List (List (BitVec 8))) : Prop :=
  ts = [] ∨ ∃ b off, a = some ⟨b, off, none⟩ ∧ ∀ i, i < ts.length → w.cell? ⟨b, off + i, none⟩ = some (.string (bstr (ts.getD i [])))
theorem Rs'.below {w w' : World} {a : Option Addr} {ts : List (List (BitVec 8))} (h : Rs' w a ts) (hb : Below w.heap.size w w') : Rs' w' a ts := by
  rcases h with h | ⟨b, off, ha, hc⟩
  · exact .inl h
  · exact .inr ⟨b, off, ha, fun i hi => cell_below (hc i hi) hb⟩
/-- A text as a block. -/
def bl (t : List (BitVec 8)) : List (BitVec 8) := sb 9 t.length ++ t
/-- Texts, one behind the other. -/
def tl (ts : List (List (BitVec 8))) : List (BitVec 8) := ts.flatMap bl
/-- How much texts may take. -/
def tz (ts : List (List (BitVec 8))) : Nat := (ts.map fun t => t.length + 10).sum
theorem bl_len (t : List (BitVec 8)) : (bl t).length ≤ t.length + 10 := by
  unfold bl; rw [List.length_append]; have := sb_len 9 t.length; omega
theorem tl_len (ts : List (List (BitVec 8))) : (tl ts).length ≤ tz ts := by
  induction ts with
  | nil => simp [tl, tz]
  | cons t ts ih =>
    unfold tl tz at *
    rw [List.flatMap_cons, List.length_append, List.map_cons, List.sum_cons]
    have := bl_len t
    omega
theorem tl_snoc (ts : List (List (BitVec 8))) (t : List (BitVec 8)) : tl (ts ++ [t]) = tl ts ++ bl t := by unfold tl; rw [List.flatMap_append]; simp
theorem tz_append (a b : List (List (BitVec 8))) : tz (a ++ b) = tz a + tz b := by unfold tz; rw [List.map_append, List.sum_append]
theorem tz_len (ts : List (List (BitVec 8))) : ts.length ≤ tz ts := by
  induction ts with
  | nil => simp
  | cons t ts ih => unfold tz at *; rw [List.map_cons, List.sum_cons, List.length_cons]; omega
section
attribute [local irreducible] Calls el sb bstr
set_option maxRecDepth 1000000 in
theorem blockS_any {w : World} {base : Nat} {o : Value} {xs : List (BitVec 8)} (h : Ow w base o xs) (hB : base ≤ w.heap.size) (t : List (BitVec 8)) (hx : xs.length + t.length ≤ 140737488355000) :
    Calls Try.prog 87 #[o, .string (bstr t)] w fun e w' => ∃ o', e = .returned o' ∧ Ow w' base o' (xs ++ bl t) ∧ Below base w w' := by
  have hlen := bstr_size t
  have S := (show Hid _ from shortForm_any h hB (by omega) t.length (by omega))
  have hsl := sb_len 9 t.length
  go_enter Try.func87, Try.ntmps87
  go_wp2_with (first
    | (go_at_call 85; refine S.out.mono ?_; rintro e w1 ⟨v1, rfl, ho1, hb1⟩)
    | (at_builtin; refine wpList_aps rfl (.tmp 9) (.tmp 10) rfl base v1 _ rfl ho1 t rfl (by rw [List.length_append]; omega) (Nat.le_trans hB hb1.size) ?_; intro v2 w2 ho2 hg2))
  go_ret
  rw [List.append_assoc] at ho2
  exact ⟨_, rfl, ho2, ho1.below_append hb1 (Nat.le_trans hB hb1.size) hg2 (Nat.le_refl _)⟩
set_option maxRecDepth 1000000 in
theorem blockB_any {w : World} {base : Nat} {o : Value} {xs : List (BitVec 8)} (h : Ow w base o xs) (hB : base ≤ w.heap.size) {a : Option Addr} {t : List (BitVec 8)} (hr : Rd w a t) (hlt : ∀ b, a = some b → b.block < base) (n c : Nat) (hn : t.length = n) (hx : xs.length + n ≤ 140737488355000) :
    Calls Try.prog 86 #[o, .slice a n c] w fun e w' => ∃ o', e = .returned o' ∧ Ow w' base o' (xs ++ bl t) ∧ Below base w w' := by
  subst hn
  have S := (show Hid _ from shortForm_any h hB (by omega) t.length (by omega))
  have hsl := sb_len 9 t.length
  have rdk : Hid (∀ w1, Below base w w1 → Rd w1 a t) := by
    intro w1 hb
    rcases hr with hr | ⟨b, of, e, hc⟩
    · exact .inl hr
    · refine .inr ⟨b, of, e, fun i hi => ?_⟩
      have hb' : b < base := hlt _ e
      rw [hb.cell (p := ⟨b, of + i, none⟩) hb']; exact hc i hi
  go_enter Try.func86, Try.ntmps86
  go_wp2_with (first
    | (go_at_call 85; refine S.out.mono ?_; rintro e w1 ⟨v1, rfl, ho1, hb1⟩)
    | (at_builtin; refine wpList_apa rfl (.tmp 9) (.tmp 10) rfl base v1 _ rfl ho1 a t.length c t rfl (rdk.out _ hb1) rfl (by rw [List.length_append]; omega) (Nat.le_trans hB hb1.size) ?_; intro v2 w2 ho2 hg2 hk2))
  go_ret
  rw [List.append_assoc] at ho2
  exact ⟨_, rfl, ho2, ho1.below_append hb1 (Nat.le_trans hB hb1.size) hg2 (Nat.le_refl _)⟩
set_option maxRecDepth 1000000 in
theorem putB_any {w : World} {a a2 : Option Addr} {bs p : List (BitVec 8)} (h : Rd w a bs) (hp : Rd w a2 p) (hlt : ∀ b, a2 = some b → b.block < w.heap.size) (n c m d : Nat) (hn : bs.length = n) (hm : p.length = m) (hx : n + m ≤ 140737488350000) :
    Calls Try.prog 55 #[.slice a n c, .slice a2 m d] w fun e w' => ∃ o', e = .returned o' ∧ Ow w' w.heap.size o' (bs ++ bl p) ∧ Below w.heap.size w w' := by
  have A1 := (show Hid _ from anew_any h n c (10 + m) hn (by omega))
  rw [Int.natCast_add] at A1
  go_enter Try.func55, Try.ntmps55
  go_wp2_with (first
    | (go_at_call 59; refine A1.out.mono ?_; rintro e w1 ⟨v1, rfl, ho1, hb1⟩)
    | (go_at_call 86; refine (blockB_any ho1 hb1.size (hp.below hb1) hlt m d hm (by omega)).mono ?_; rintro e w2 ⟨v2, rfl, ho2, hb2⟩))
  go_ret
  exact ⟨_, rfl, ho2, hb1.trans hb2⟩
set_option maxHeartbeats 1000000 in
set_option maxRecDepth 1000000 in
theorem putT_any {w : World} {a a2 : Option Addr} {bs : List (BitVec 8)} {ts : List (List (BitVec 8))} (h : Rd w a bs) (hp : Rs' w a2 ts) (n c m d : Nat) (hn : bs.length = n) (hm : ts.length = m) (hx : n + tz ts ≤ 140737488350000) :
    Calls Try.prog 56 #[.slice a n c, .slice a2 m d] w fun e w' => ∃ o', e = .returned o' ∧ Ow w' w.heap.size o' (bs ++ (sb 9 m ++ tl ts)) ∧ Below w.heap.size w w' := by
  have hzl := tz_len ts
  have A1 := (show Hid _ from anew_any h n c 10 hn (by omega))
  have hsl := sb_len 9 m
  go_enter Try.func56, Try.ntmps56
  go_wp2_with (first
    | (go_at_call 59; refine A1.out.mono ?_; rintro e w1 ⟨v1, rfl, ho1, hb1⟩)
    | (go_at_call 85; refine (shortForm_any ho1 hb1.size (by omega) m (by omega)).mono ?_; rintro e w2 ⟨v2, rfl, ho2, hb2⟩))
  have hb12 := hb1.trans hb2
  go_loopw [5, 16] (fun o i wr => ∃ j : Nat, j ≤ m ∧ i = .int .i64 (j : Int) ∧ Ow wr w.heap.size o (bs ++ (sb 9 m ++ tl (ts.take j))) ∧ Below w.heap.size w wr) (fun _ i _ => m - (intOf i).toNat)
  case atStart => exact ⟨0, Nat.zero_le _, rfl, by rw [List.take_zero, show tl [] = [] from rfl, List.append_nil]; exact ho2, hb12⟩
  case round =>
    obtain ⟨j, hj, rfl, hO, hb⟩ := hrel
    by_cases hlt : j < m
    · have hi : (j : Int) < (m : Int) := by omega
      obtain ⟨b, of, rfl, hc⟩ : ∃ b o, a2 = some ⟨b, o, none⟩ ∧ ∀ i, i < m → w.cell? ⟨b, o + i, none⟩ = some (.string (bstr (ts.getD i []))) := by
        rcases hp with hp | ⟨b, o, e, hc⟩
        · subst hp; simp at hm; omega
        · rw [hm] at hc; exact ⟨b, o, e, hc⟩
      obtain ⟨t, htd⟩ : ∃ t, t = ts.getD j [] := ⟨_, rfl⟩
      have g1 := cell_below (hc j hlt) hb
      rw [← htd] at g1
      have hts : ts.take (j + 1) = ts.take j ++ [t] := by
        rw [htd, List.take_add_one]
        simp [List.getD, List.getElem?_eq_getElem (show j < ts.length by omega)]
      have hz := tz_append (ts.take (j + 1)) (ts.drop (j + 1))
      rw [List.take_append_drop, hts, tz_append] at hz
      have hl1 := tl_len (ts.take j)
      have hl2 : tz [t] = t.length + 10 := by simp [tz]
      have Bs := (show Hid _ from blockS_any hO hb.size t (by rw [List.length_append, List.length_append]; omega))
      clear htd
      go_wp2_with (go_at_call 87; refine Bs.out.mono ?_; rintro e w3 ⟨v3, rfl, ho3, hb3⟩)
      go_roundw
      case rel =>
        refine ⟨j + 1, by omega, by go_num, ?_, hb.trans hb3⟩
        rw [hts, tl_snoc]
        simpa [List.append_assoc] using ho3
      case measure => simp [intOf]; omega
    · obtain rfl : j = m := by omega
      rw [List.take_of_length_le (by omega)] at hO
      go_wp2
      go_ret
      exact ⟨_, rfl, hO, hb⟩
end
end Go.Proofs.Ytmcbeikgdcgdcaa
