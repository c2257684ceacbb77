/-
  Package frame: 'rightBlock'; 'bytes.HasPrefix'.
-/
import Derived.Test.YtfcjkaigmlfjnaaP8
import Derived.Deep.QuietTactic
import Derived.BigQuiet
namespace Go.Proofs.Ytfcjkaigmlfjnaa
open Go.RowKit
/-- A block as it is told. -/
def vb (gb o n c : Nat) : Option (List (BitVec 8)) → Value
  | none => .slice none 0 0
  | some _ => .slice (some ⟨gb, o, none⟩) n c
section
attribute [local irreducible] Calls el Hd.cs cmo rg sm bsm
set_option maxHeartbeats 1000000 in
set_option maxRecDepth 1000000 in
theorem equal_any {w : World} {p q : Option Addr} {xs ys : List (BitVec 8)} (h1 : Rd w p xs) (h2 : Rd w q ys) (n m c d : Nat) (hn : xs.length = n) (hm : ys.length = m) :
    Calls Try.prog 45 #[.slice p n c, .slice q m d] w fun e w' => e = .returned (.bool (decide (xs = ys))) ∧ Below w.heap.size w w' := by
  have k1 := conv_rd h1 n c hn
  have k2 := conv_rd h2 m d hm
  have eq := bstr_beq xs ys
  go_enter Try.func45, Try.ntmps45
  go_wp2
  go_ret
  exact ⟨rfl, Below.refl _ _⟩
set_option maxHeartbeats 1000000 in
set_option maxRecDepth 1000000 in
theorem hasPrefix_any {w : World} {gb go : Nat} {q : Option Addr} {xs ys : List (BitVec 8)} (h1 : Rd w (some ⟨gb, go, none⟩) xs) (h2 : Rd w q ys) (n c d : Nat) (hn : xs.length = n) (hc : n ≤ c) (hm : ys.length = 4) (h4 : 4 ≤ n) :
    Calls Try.prog 34 #[.slice (some ⟨gb, go, none⟩) n c, .slice q 4 d] w fun e w' => e = .returned (.bool (decide (xs.take 4 = ys))) ∧ Below w.heap.size w w' := by
  have EQ := (show Hid _ from fun c' => equal_any (h1.take 4) h2 4 4 c' d (by rw [List.length_take]; omega) hm)
  have i1 : (4 : Int) ≤ (n : Int) := by omega
  have i2 : (4 : Int) ≤ (c : Int) := by omega
  generalize decide (xs.take 4 = ys) = z at EQ ⊢
  go_enter Try.func34, Try.ntmps34
  go_wp2_with (go_at_call 45; refine (EQ.out _).mono ?_; rintro e w1 ⟨rfl, hb1⟩)
  go_ret
  exact ⟨rfl, hb1⟩
set_option maxHeartbeats 1000000 in
set_option maxRecDepth 1000000 in
theorem rightBlock_any {w : World} {gb go : Nat} {bs : List (BitVec 8)} (h : Rd w (some ⟨gb, go, none⟩) bs) (n c a l j : Nat) (s : BitVec 32) (hn : bs.length = n) (hc : n ≤ c) (hcc : n ≤ 211106232532992) (ha : a + l ≤ 35184372088832) (hl : 1 ≤ l) (hj : j < 4294967296) :
    Calls Try.prog 37 #[.slice (some ⟨gb, go, none⟩) n c, .int .i64 (a : Int), .int .i64 (l : Int), .int .u32 (rg s), .int .i64 (j : Int)] w fun e w' => e = .returned (vb gb (go + a) l (c - a) (rb bs a l s j)) ∧ Below w.heap.size w w' := by
  have e1 : wrap64 ((a : Int) + (l : Int)) = (a : Int) + (l : Int) := by unfold wrap64; omega
  by_cases h1 : n < a + l + 4
  · have i1 : (n : Int) < (a : Int) + (l : Int) + 4 := by omega
    have er : rb bs a l s j = none := by unfold rb; rw [if_pos (by omega)]
    rw [er]
    go_enter Try.func37, Try.ntmps37
    go_wp2
    go_ret
    exact ⟨rfl, Below.refl _ _⟩
  · have i1 : ¬ (n : Int) < (a : Int) + (l : Int) + 4 := by omega
    have i2 : (a : Int) ≤ (a : Int) + (l : Int) := by omega
    have i3 : (a : Int) + (l : Int) ≤ (c : Int) := by omega
    have i4 : ¬ c = a := by omega
    have i5 : (0 : Int) ≤ (a : Int) := by omega
    have SA := (show Hid _ from fun W (hW : Below w.heap.size w W) => sumAt_any (h.below hW) n c (a + l) hn hc (by omega) (by omega))
    have BS := (show Hid _ from fun W (hW : Below w.heap.size w W) c' => blockSum_any ((h.below hW).cutl a l (by omega)) l c' (cutl_len _ _ _ (by omega)) (by omega) s j hj)
    have hrb : rb bs a l s j = if ¬ lv (cutl bs (a + l) 4) = (bsm s j (cutl bs a l)).toNat then none else some (cutl bs a l) := by unfold rb; rw [if_neg (by omega)]
    rw [hrb]
    clear hrb
    have hrg : ∀ x : BitVec 32, rg x = (x.toNat : Int) := fun x => by unfold rg; rfl
    rw [Int.natCast_add] at SA
    generalize lv (cutl bs (a + l) 4) = z at SA
    generalize bsm s j (cutl bs a l) = y at BS
    by_cases hz : z = y.toNat
    · have j0 : ((z : Int) != rg y) = false := by rw [hrg]; simp [hz]
      rw [if_neg (not_not_intro hz)]
      clear hrg hz
      go_enter Try.func37, Try.ntmps37
      go_wp2_with (first
        | (go_at_call 35; refine (SA.out _ (Below.refl _ _)).mono ?_; rintro e w1 ⟨rfl, hb1⟩)
        | (go_at_call 23; refine (BS.out _ hb1 _).mono ?_; rintro e w2 ⟨rfl, hb2⟩))
      go_ret
      exact ⟨rfl, bt hb1 hb2⟩
    · have j0 : ((z : Int) != rg y) = true := by rw [hrg]; simp; omega
      rw [if_pos hz]
      clear hrg hz
      go_enter Try.func37, Try.ntmps37
      go_wp2_with (first
        | (go_at_call 35; refine (SA.out _ (Below.refl _ _)).mono ?_; rintro e w1 ⟨rfl, hb1⟩)
        | (go_at_call 23; refine (BS.out _ hb1 _).mono ?_; rintro e w2 ⟨rfl, hb2⟩))
      go_ret
      exact ⟨rfl, bt hb1 hb2⟩
end
/-- An own list of rows. -/
def Or (w : World) (base : Nat) (v : Value) (us : List Value) : Prop := w.ownsRow base 35 1 v us.length us
theorem infoR : (Try.prog.info? 35).map (fun i => (i.zero, i.size, i.bytes)) = some (some (.slice none 0 0), 1, 24) := by kernel_rfl
theorem Or.nil (w : World) (base : Nat) : Or w base (.slice none 0 0) [] := World.ownsRow_nil _ _ _ _
theorem Or.below {w w' : World} {base : Nat} {v : Value} {us : List Value} (h : Or w base v us) (hb : Below w.heap.size w w') : Or w' base v us := own_below h hb
theorem Or.rd {w : World} {base : Nat} {v : Value} {us : List Value} (h : Or w base v us) : ∃ p cap, v = .slice p us.length cap ∧ us.length ≤ cap ∧ Vr w p us := own_rd h rfl
/-- append(v, x) of one row. -/
theorem wpList_apr {w : World} {ops : Array Oper} {rest : List Oper} {o : Oper} {a : Act} {Q : Exit → Act → World → Prop} (hgd : o.guard = none) (s x : Operand) (ho : o.op = .call { callee := .builtin .append, args := #[s, x], argTypes := #[29, 29] })
    (base : Nat) (v : Value) (us : List Value) (hs : a.eval s = v) (hown : Or w base v us) (ad : Addr) (c : Nat) (u : Value) (hu : u.oneCell' = true) (hx : a.eval x = .slice (some ad) 1 c) (hr : w.cell? ad = some u) (hm : us.length + 1 ≤ 1099511627776) (hbase : base ≤ w.heap.size)
    (h : ∀ v' w', Or w' base v' (us ++ [u]) → w.grownBy w' v.ownBlock → wpList Try.prog ops Q rest (a.put o.dst v') w') : wpList Try.prog ops Q (o :: rest) a w := by
  obtain ⟨i0, hi, hz0, hz1, hz2⟩ := info_parts infoR
  have S : ∀ j t, ([u] : List Value)[j]? = some t → w.cell? (ad.add j) = some t := by
    intro j t ht
    match j with
    | 0 =>
      simp at ht
      rw [show ad.add 0 = ad by unfold Addr.add; split <;> simp_all, hr, ht]
    | j + 1 => simp at ht
  refine wpList_append_own _ hgd _ _ 29 ho base 35 i0 (.slice none 0 0) 1 24 Try.underlying29 hi hz0 hz1 hz2 rfl (by decide) v us.length _ hs hown ad 1 c [u] hx rfl S (by intro t ht; simp at ht; subst ht; exact hu) (by unfold maxLen; omega) (by omega) hbase ?_
  intro v' w' ho' hg _
  refine h v' w' ?_ hg
  unfold Or
  simpa using ho'
end Go.Proofs.Ytfcjkaigmlfjnaa
