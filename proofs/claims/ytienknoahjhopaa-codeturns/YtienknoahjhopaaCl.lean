/-
  Rows as strings; 'Check'; 'same'.
-/
import Derived.Test.YtienknoahjhopaaCj
import Derived.Laws.IdiomStrings
import Derived.Deep.RegionHeld3
import Derived.ArgAppend
namespace Go.Proofs.Ytienknoahjhopaa
open Go.RowKit
/-- The row as a string's bytes. -/
def bys (f : Nat → BitVec 8) (n : Nat) : List UInt8 := (List.range n).map (fun i => UInt8.ofNat (f i).toNat)
def str (f : Nat → BitVec 8) (n : Nat) : ByteArray := ⟨(bys f n).toArray⟩
theorem bys_len (f : Nat → BitVec 8) (n : Nat) : (bys f n).length = n := by simp [bys]
theorem bys_at (f : Nat → BitVec 8) (n j : Nat) (hj : j < (bys f n).length) : ((bys f n)[j].toNat : Int) = el (f j) := by
  have e : (bys f n)[j] = UInt8.ofNat (f j).toNat := by simp [bys]
  have := (f j).isLt
  rw [e]
  unfold el
  simp
theorem str_congr {f g : Nat → BitVec 8} {n : Nat} (h : ∀ i, i < n → f i = g i) : str f n = str g n := by
  unfold str bys
  congr 2
  exact List.map_congr_left (fun i hi => by rw [h i (List.mem_range.1 hi)])
theorem und5 : Try.prog.underlying 5 = some (.int .u8) := Try.underlying5
theorem undS : Try.prog.underlying 9 = some .string := Try.underlying9
theorem conv_row {w : World} {v : Value} {n : Nat} {f : Nat → BitVec 8} (h : NrE w v n f) : (convert 23 9 v).run Try.prog w = .ok (.string (str f n)) w := by
  obtain ⟨p, c, rfl, h2⟩ := nr_un h
  clear h
  cases p with
  | none =>
    have h0 : n = 0 := by
      rcases Nat.eq_zero_or_pos n with h1 | h1
      · exact h1
      · obtain ⟨b, o, e, _⟩ := h2 h1; cases e
    subst h0
    rw [run_convert_bytes_string w 23 9 5 none 0 c Try.underlying23 und5 undS]
    simp [Conv.bytesToString, str, bys]
    first | rfl | skip
  | some a =>
    have hb : ∀ j (hj : j < (bys f n).length), w.cell? (a.add j) = some (.int .u8 ((bys f n)[j].toNat : Int)) := fun j hj => by
      have hjn : j < n := by rw [bys_len] at hj; exact hj
      obtain ⟨b, o, e, hc⟩ := h2 (by omega)
      injection e with e
      subst e
      rw [add_pl, hc j hjn, bys_at]
    have := run_convert_bytes_back (P := Try.prog) w 23 9 5 a c (bys f n) Try.underlying23 und5 undS hb
    rw [bys_len] at this
    exact this
section
attribute [local irreducible] Calls NrE str
set_option maxHeartbeats 4000000 in
set_option maxRecDepth 1000000 in
theorem equal_ok {w : World} {v1 v2 : Value} {n : Nat} {f : Nat → BitVec 8} (h1 : NrE w v1 n f) (h2 : NrE w v2 n f) : Calls Try.prog 37 #[v1, v2] w fun e w' => e = .returned (.bool true) ∧ w' = w := by
  have e1 := conv_row h1
  have e2 := conv_row h2
  clear h1 h2
  go_enter Try.func37, Try.ntmps37
  go_wp2
  go_ret
  exact ⟨rfl, rfl⟩
end
theorem nr_congr {w : World} {v : Value} {n : Nat} {f g : Nat → BitVec 8} (h : NrE w v n f) (e : ∀ i, i < n → f i = g i) : NrE w v n g := Sv.congr h (fun j hj => by unfold clE; rw [e j hj])
theorem ov_nr {w : World} {t : TypeId} {g n : Nat} {f : Nat → BitVec 8} (h : Ov w t g (clE f) n) : NrE w (.slice (some ⟨g, 0, none⟩) n n) n f := St.sv (h.st n n)
section
attribute [local irreducible] Calls el Ov clE NmE NrE Cd Fac mm skk tiE plE
set_option maxHeartbeats 8000000 in
set_option maxRecDepth 1000000 in
theorem check_core {w : World} {v vW : Value} {k m n : Nat} {F W : Nat → Nat → BitVec 8} (hk : 1 ≤ k) (hm : 1 ≤ m) (hkm : k + m ≤ 255) (hn : n ≤ 140737488355328) (hC : Hid (Cd w v k m F)) (hN : Hid (NmE w vW (k + m) (fun _ => n) W)) (hW : Hid (∀ i, k ≤ i → i < k + m → ∀ c, c < n → W i c = skk plE oE (fun j => tiE (F i j) (W j c)) k)) :
    Calls Try.prog 17 #[v, vW] w fun e w' => e = .returned (.tuple #[.bool true, .int .i64 0]) ∧ Below w.heap.size w w' := by
  obtain ⟨cb, pF, cF, ev, c1, c2, _, hNF⟩ := cd_open hC.out
  subst ev
  obtain ⟨bF, oF, rowsF, e2, hcF, hrF⟩ := nm_at hNF (by omega)
  subst e2
  obtain ⟨pW, cW, eW⟩ := nmE_form hN.out
  subst eW
  obtain ⟨bW, oW, rowsW, e3, hcW, hrW⟩ := nm_at hN.out (by omega)
  subst e3
  have HCF : Hid (∀ i, i < k + m → w.cell? ⟨bF, oF + i, none⟩ = some (rowsF i)) := hcF
  have HRF : Hid (∀ i, i < k + m → NrE w (rowsF i) k (F i)) := hrF
  have HCW : Hid (∀ i, i < k + m → w.cell? ⟨bW, oW + i, none⟩ = some (rowsW i)) := hcW
  have HRW : Hid (∀ i, i < k + m → NrE w (rowsW i) n (W i)) := hrW
  have NO := (show Hid _ from none_ok hC.out hk)
  have FO := (show Hid _ from fault_ok (some ⟨bW, oW, none⟩) (k + m) cW n w (by omega) (NmE.lm hN.out))
  rw [Int.natCast_add] at FO
  clear hNF hcF hrF hcW hrW
  go_enter Try.func17, Try.ntmps17
  go_wp2_with (first
    | (go_at_call 30; refine NO.out.mono ?_; rintro e w' ⟨rfl, h⟩; obtain rfl := h.symm)
    | (go_at_call 36; refine FO.out.mono ?_; rintro e w' ⟨rfl, h⟩; obtain rfl := h.symm))
  go_loopw [7] (fun i wr => ∃ t : Nat, k ≤ t ∧ t ≤ k + m ∧ i = .int .i64 t ∧ Below w.heap.size w wr) (fun i _ => k + m - (intOf i).toNat)
  case atStart => exact ⟨k, Nat.le_refl _, by omega, rfl, Below.refl _ _⟩
  case round =>
    obtain ⟨t, hkt, ht, rfl, hb⟩ := hrel
    by_cases hlt : t < k + m
    · have j1 : (t : Int) < (k : Int) + (m : Int) := by omega
      have hbd := (show Hid _ from hb.drew)
      obtain ⟨pr, cr, er, hra⟩ := nr_un (HRF.out t hlt)
      have f0 := HCF.out t hlt
      rw [er] at f0
      have g1 := cell_below (HCW.out t hlt) hb
      have g2 := cell_below c2 hb
      have g3 := cell_below f0 hb
      have KS := (show Hid (_ ∧ _ ∧ _) from ⟨cell_below (HCW.out t hlt) hbd.out, cell_below c2 hbd.out, cell_below f0 hbd.out⟩)
      have SU := (show Hid _ from codeSum_core pr (some ⟨bW, oW, none⟩) k cr (k + m) cW n (F t) W wr.drew (by omega) (by omega) (by omega) hn (fun h0 => by obtain ⟨b, o, e, h⟩ := hra h0; exact ⟨b, o, e, fun i hi => cell_below (h i hi) hbd.out⟩) (NmE.below hN.out hbd.out))
      have HRT := (show Hid _ from NrE.below (HRW.out t hlt) hbd.out)
      have HWT : Hid (∀ c, c < n → W t c = skk plE oE (fun j => tiE (F t j) (W j c)) k) := fun c hc => hW.out t hkt hlt c hc
      clear er hra hb
      go_wp2
      go_region_held3 (fun X => X.cell? ⟨bW, oW + t, none⟩ = some (rowsW t) ∧ X.cell? ⟨cb, 1, none⟩ = some (.slice (some ⟨bF, oF, none⟩) (k + m) cF) ∧ X.cell? ⟨bF, oF + t, none⟩ = some (.slice pr k cr)) (first | exact KH.out | exact KS.out | go_keep)
        (first
        | (go_at_call 38; refine SU.out.mono ?_; rintro e w3 ⟨g, rfl, hO3, hg3, hb3⟩; have KH := (show Hid (_ ∧ _ ∧ _) from ⟨cell_below KS.out.1 hb3, cell_below KS.out.2.1 hb3, cell_below KS.out.2.2 hb3⟩))
        | (go_at_call 37; refine (equal_ok (nr_congr (NrE.below HRT.out hb3) HWT.out) (ov_nr hO3)).mono ?_; rintro e w' ⟨rfl, h⟩; obtain rfl := h.symm))
      all_goals
        go_wp2
        go_roundw
        case rel => exact ⟨t + 1, by omega, by omega, by go_num, bt hbd.out hb3⟩
        case measure => simp [intOf]; omega
    · go_wp2
      go_ret2
      exact ⟨rfl, hb⟩
end
/-- A word is one. -/
theorem check_ok {w : World} {v vW : Value} {k m n : Nat} {F D : Nat → Nat → BitVec 8} (hk : 1 ≤ k) (hm : 1 ≤ m) (hkm : k + m ≤ 255) (hn : n ≤ 140737488355328) (hC : Cd w v k m F) (hF : Fac k F) (hN : NmE w vW (k + m) (fun _ => n) (mm fdE k F D)) :
    Calls Try.prog 17 #[v, vW] w fun e w' => e = .returned (.tuple #[.bool true, .int .i64 0]) ∧ Below w.heap.size w w' :=
  check_core hk hm hkm hn hC hN (fun i _ _ c _ => by
    rw [skk_mm (P := F) (Q := mm fdE k F D) (i := i) (j := c)]
    exact mm_congr (fun _ _ => rfl) (fun t ht => by rw [mm_congr (A' := dl fdE) (B' := D) (fun s hs => hF.id ht hs) (fun _ _ => rfl), mm_dl_l ht]))
end Go.Proofs.Ytienknoahjhopaa
/-
  The law's helpers: 'same', 'copied', 'pick', 'cut'.
-/
namespace Go.Proofs.Ytienknoahjhopaa
open Go.RowKit
/-- A row of bytes in a block of bytes. -/
def Br (w : World) (v : Value) (n : Nat) (f : Nat → BitVec 8) : Prop := St w 5 v n (clE f) n
theorem Br.nr {w : World} {v : Value} {n : Nat} {f : Nat → BitVec 8} (h : Br w v n f) : NrE w v n f := St.sv h
theorem Br.below {w w' : World} {v : Value} {n : Nat} {f : Nat → BitVec 8} (h : Br w v n f) (hb : Below w.heap.size w w') : Br w' v n f := St.below h hb
theorem Br.form {w : World} {v : Value} {n : Nat} {f : Nat → BitVec 8} (h : Br w v n f) : ∃ p c, v = .slice p n c := by obtain ⟨p, c, e, _⟩ := h; exact ⟨p, c, e⟩
set_option maxRecDepth 100000 in
theorem wpList_clone_b {w : World} {ops : Array Oper} {rest : List Oper} {o : Oper} {a : Act} {Q : Exit → Act → World → Prop} (hgd : o.guard = none) (s x : Operand) (ho : o.op = .call { callee := .builtin .append, args := #[s, x], argTypes := #[23, 23] })
    (hs : a.eval s = .slice none 0 0) (v : Value) (n : Nat) (f : Nat → BitVec 8) (hx : a.eval x = v) (hr : NrE w v n f) (hm : n ≤ 140737488355328)
    (h : ∀ v' w', Br w' v' n f → Below w.heap.size w w' → wpList Try.prog ops Q rest (a.put o.dst v') w') : wpList Try.prog ops Q (o :: rest) a w := by
  obtain ⟨i0, hi, hz0, hz1, hz2⟩ := info_parts info5
  obtain ⟨p, c, rfl, hr2⟩ := nr_un hr
  clear hr
  cases p with
  | none =>
    have hn : n = 0 := by
      rcases Nat.eq_zero_or_pos n with h1 | h1
      · exact h1
      · obtain ⟨b, o, e, _⟩ := hr2 h1; cases e
    subst hn
    refine wpList_plain hgd fun K hK => ?_
    have hrun := run_append_no (P := Try.prog) (w := w) 23 o.type 5 i0 Try.underlying23 hi c
    unfold Oper.wp
    simp [execOp, ho, resolve, invoke, builtin, hs, hx, hrun, Result.andThen]
    exact hK _ _ (h _ w ⟨none, 0, rfl, .inl rfl⟩ (Below.refl _ _))
  | some ad =>
    have S : ∀ j u, (lv (clE f) n)[j]? = some u → w.cell? (ad.add j) = some u := by
      intro j u hu
      have hjn : j < n := by
        rcases Nat.lt_or_ge j n with h | h
        · exact h
        · rw [List.getElem?_eq_none (by rw [lv_len]; exact h)] at hu; cases hu
      rw [lv_at _ n j hjn] at hu
      injection hu with hu
      obtain ⟨b, off, e, hc⟩ := hr2 (by omega)
      injection e with e
      subst e
      rw [add_pl, hc j hjn]; exact congrArg some hu
    refine wpList_append_own _ hgd _ _ 23 ho w.heap.size 5 i0 (.int .u8 0) 1 1 Try.underlying23 hi hz0 hz1 hz2 rfl (by decide) (.slice none 0 0) 0 [] hs (World.ownsRow_nil _ _ _ _) ad n c (lv (clE f) n) hx (by rw [lv_len, Nat.mul_one]) S (fun u hu => by unfold lv at hu; obtain ⟨i, _, rfl⟩ := List.mem_map.1 hu; rfl) (by unfold maxLen; omega) (by omega) (Nat.le_refl _) ?_
    intro v' w' ho' hg _
    rw [Nat.zero_add, List.nil_append] at ho'
    exact h v' w' (owns_st1 ho') (below_append (t := 5) (base := w.heap.size) (k := 1) (n := 0) (xs := []) (Below.refl _ _) (Nat.le_refl _) hg (World.ownsRow_nil _ _ _ _) (Nat.le_refl _))
section
attribute [local irreducible] Calls NmE NrE str
set_option maxHeartbeats 4000000 in
set_option maxRecDepth 1000000 in
theorem same_core (p q : Option Addr) (r c1 c2 : Nat) (L : Nat → Nat) (A B : Nat → Nat → BitVec 8) (w : World) (hr : r ≤ 140737488355328) (H1 : Hid (NmE w (.slice p r c1) r L A)) (H2 : Hid (NmE w (.slice q r c2) r L B)) (HE : Hid (∀ i, i < r → ∀ j, j < L i → A i j = B i j)) :
    Calls Try.prog 13 #[.slice p r c1, .slice q r c2] w fun e w' => e = .returned (.bool true) ∧ Below w.heap.size w w' := by
  have e0 : ((r : Int) != (r : Int)) = false := by simp
  go_enter Try.func13, Try.ntmps13
  go_wp2
  go_loopw [5] (fun i wr => ∃ k : Nat, k ≤ r ∧ i = .int .i64 k ∧ Below w.heap.size w wr) (fun i _ => r - (intOf i).toNat)
  case atStart => exact ⟨0, Nat.zero_le _, rfl, Below.refl _ _⟩
  case round =>
    obtain ⟨k, hk, rfl, hb⟩ := hrel
    by_cases hlt : k < r
    · have j1 : (k : Int) < (r : Int) := by omega
      obtain ⟨b1, o1, rows1, ep, hc1, hn1⟩ := nm_at H1.out (by omega)
      obtain ⟨b2, o2, rows2, eq, hc2, hn2⟩ := nm_at H2.out (by omega)
      subst ep eq
      have hbd := (show Hid _ from hb.drew)
      have g1 := cell_below (hc1 k hlt) hb
      have g2 := cell_below (hc2 k hlt) hb
      have e1 := conv_row (NrE.below (hn1 k hlt) hbd.out)
      have e2 := conv_row (NrE.below (hn2 k hlt) hbd.out)
      rw [← str_congr (HE.out k hlt)] at e2
      have KS := (show Hid (_ ∧ _ ∧ _ ∧ _) from ⟨cell_below (hc1 k hlt) hbd.out, cell_below (hc2 k hlt) hbd.out, e1, e2⟩)
      clear hc1 hc2 hn1 hn2
      go_wp2
      go_region_held3 (fun X => X.cell? ⟨b1, o1 + k, none⟩ = some (rows1 k) ∧ X.cell? ⟨b2, o2 + k, none⟩ = some (rows2 k) ∧ (convert 23 9 (rows1 k)).run Try.prog X = .ok (.string (str (A k) (L k))) X ∧ (convert 23 9 (rows2 k)).run Try.prog X = .ok (.string (str (A k) (L k))) X) (first | exact KS.out | go_keep) (fail)
      all_goals
        go_wp2
        go_roundw
        case rel => exact ⟨k + 1, by omega, by go_num, hbd.out⟩
        case measure => simp [intOf]; omega
    · go_wp2
      go_ret
      exact ⟨rfl, hb⟩
end
theorem push_br {W W3 : World} {base k : Nat} {v x : Value} {us : List Value} {rows : Nat → Value} {o : Obj} {l : Nat → Nat} {M : Nat → Nat → BitVec 8} (hown : W.ownsRow base 23 1 v k us) (hgrow : (W.alloc o).grownBy W3 v.ownBlock) (hR : ∀ i, i < k → Br W (rows i) (l i) (M i)) (hx : Br W x (l k) (M k)) : ∀ i, i < k + 1 → Br W3 ((fun i => if i = k then x else rows i) i) (l i) (M i) :=
  push_all (by decide) hown hgrow hR hx
/-- A list of rows, all of it the call's own. -/
def Bm (base : Nat) (w : World) (v : Value) (r : Nat) (L : Nat → Nat) (M : Nat → Nat → BitVec 8) : Prop := ∃ rows, w.ownsRow base 23 1 v r (lv rows r) ∧ ∀ i, i < r → Br w (rows i) (L i) (M i)
theorem Bm.nm {base : Nat} {w : World} {v : Value} {r : Nat} {L : Nat → Nat} {M : Nat → Nat → BitVec 8} (h : Bm base w v r L M) : NmE w v r L M := by
  obtain ⟨rows, h1, h2⟩ := h
  exact ⟨rows, St.sv (owns_st1 h1), fun i hi => (h2 i hi).nr⟩
section
attribute [local irreducible] Calls NmE NrE Br lv
set_option maxHeartbeats 8000000 in
set_option maxRecDepth 1000000 in
theorem copied_core (p : Option Addr) (r c : Nat) (L : Nat → Nat) (M : Nat → Nat → BitVec 8) (w : World) (hr : r ≤ 255) (hL : Hid (∀ i, i < r → L i ≤ 140737488355328)) (H1 : Hid (NmE w (.slice p r c) r L M)) :
    Calls Try.prog 10 #[.slice p r c] w fun e w' => ∃ v, e = .returned v ∧ Bm w.heap.size w' v r L M ∧ Below w.heap.size w w' := by
  obtain ⟨i0, hif, hz0, hz1, hz2⟩ := info_parts infoY
  go_enter Try.func10, Try.ntmps10
  go_wp2
  go_loopw [3, 4] (fun v i wr => ∃ (k : Nat) (rows : Nat → Value), k ≤ r ∧ i = .int .i64 k ∧ wr.ownsRow w.heap.size 23 1 v k (lv rows k) ∧ Hid (∀ i, i < k → Br wr (rows i) (L i) (M i)) ∧ Below w.heap.size w wr) (fun _ i _ => r - (intOf i).toNat)
  case atStart => exact ⟨0, fun _ => .bool false, Nat.zero_le _, rfl, lv_none _ _ _ _ _, fun i hi => by omega, Below.refl _ _⟩
  case round =>
    obtain ⟨k, rows, hk, rfl, hown, hR, hb⟩ := hrel
    by_cases hlt : k < r
    · have j1 : (k : Int) < (r : Int) := by omega
      have M1 : Hid (k + 1 ≤ maxLen) := by show _ ≤ _; unfold maxLen; omega
      obtain ⟨b1, o1, rows1, ep, hc1, hn1⟩ := nm_at H1.out (by omega)
      subst ep
      have g1 := cell_below (hc1 k hlt) hb
      have r1 := (show Hid _ from NrE.below (hn1 k hlt) hb)
      have HLk := (show Hid _ from hL.out k hlt)
      clear hc1 hn1
      go_wp2_with (first
        | (at_builtin; refine wpList_clone_b rfl _ _ rfl rfl _ (L k) (M k) rfl r1.out HLk.out ?_; intro v1 w2 hI2 hb2; obtain ⟨px, cx, ex⟩ := hI2.form; subst ex; have hown2 := owns_below hown hb2)
        | (at_builtin; refine wpList_append_own _ rfl _ _ 22 rfl w.heap.size 23 i0 (.slice none 0 0) 1 24 Try.underlying22 hif hz0 hz1 hz2 rfl (by decide) _ _ _ rfl (hown2.alloc _) ⟨_, 0, none⟩ 1 1 [.slice px (L k) cx] rfl rfl (one_new _ _ _) (one_cellv rfl) M1.out (by omega) (by have := hb.size; have := hb2.size; simp at *; omega) ?_; intro v' w3 hown' hgrow _))
      have hb3 := below_append ((bt hb hb2).alloc (by have := hb.size; have := hb2.size; omega) _) (by have := hb.size; have := hb2.size; simp at *; omega) hgrow (hown2.alloc _) (Nat.le_refl _)
      rw [push_lv] at hown'
      have hR3 : Hid (∀ i, i < k + 1 → Br w3 ((fun i => if i = k then .slice px (L k) cx else rows i) i) (L i) (M i)) := push_br hown2 hgrow (fun i hi => (hR.out i hi).below hb2) hI2
      clear hown hgrow hR hown2 g1 hI2 r1
      go_roundw
      case rel => exact ⟨k + 1, _, by omega, by go_num, hown', hR3, hb3⟩
      case measure => simp [intOf]; omega
    · obtain rfl : k = r := by omega
      go_wp2
      go_ret
      exact ⟨_, rfl, ⟨rows, hown, hR.out⟩, hb⟩
end
theorem pick_num (k : Int) (n : Nat) (h1 : 1 ≤ n) : -(n : Int) < k.tmod n ∧ k.tmod n < n := by
  have := Int.tmod_lt_of_pos k (show (0 : Int) < n by omega)
  have h2 := Int.tmod_lt_of_pos (-k) (show (0 : Int) < n by omega)
  rw [Int.neg_tmod] at h2
  omega
section
attribute [local irreducible] Calls
set_option maxRecDepth 1000000 in
theorem pick_ok (k : Int) (n : Nat) (h1 : 1 ≤ n) (h2 : n ≤ 255) (w : World) : Calls Try.prog 22 #[.int .i64 k, .int .i64 (n : Int)] w fun e w' => ∃ t : Nat, e = .returned (.int .i64 (t : Int)) ∧ t < n ∧ w' = w := by
  have hq := pick_num k n h1
  have j1 : ¬ (n : Int) < 1 := by omega
  have j2 : ¬ (n : Int) = 0 := by omega
  have j3 : ¬ n = 0 := by omega
  by_cases h0 : k.tmod n < 0
  · go_enter Try.func22, Try.ntmps22
    go_wp2
    go_ret
    refine ⟨(k.tmod n + n).toNat, ret_int ?_, by omega, rfl⟩
    rw [Int.toNat_of_nonneg (by omega)]
  · go_enter Try.func22, Try.ntmps22
    go_wp2
    go_ret
    exact ⟨(k.tmod n).toNat, ret_int (by rw [Int.toNat_of_nonneg (by omega)]), by omega, rfl⟩
end
end Go.Proofs.Ytienknoahjhopaa
