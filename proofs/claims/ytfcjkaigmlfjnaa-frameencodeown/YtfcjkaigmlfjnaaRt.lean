/-
  A reading on its way: 'needCounts', 'texts', and what the face hands in.
-/
import Derived.Test.YtfcjkaigmlfjnaaRx
import Derived.Test.YtfcjkaigmlfjnaaOb
namespace Go.Proofs.Ytfcjkaigmlfjnaa
open Go.RowKit
/-- So many texts. -/
def txs (each : Nat) : Nat → List (BitVec 8) → Ans (List (List (BitVec 8)))
  | 0, bs => .ok ([], bs)
  | n + 1, bs => match bk each bs with
    | .error e => .error e
    | .ok (x, l) => match txs each n l with
      | .error e => .error e
      | .ok (xs, l') => .ok ((x :: xs), l')
/-- Texts, at most so many. -/
def tx (most each : Nat) (bs : List (BitVec 8)) : Ans (List (List (BitVec 8))) := match ct most bs with
  | .error e => .error e
  | .ok (n, l) => txs each n l
/-- Behind what is there already. -/
def bh (ds : List (List (BitVec 8))) : Ans (List (List (BitVec 8))) → Ans (List (List (BitVec 8)))
  | .error e => .error e
  | .ok (xs, l) => .ok ((ds ++ xs), l)
theorem bh_nil (R : Ans (List (List (BitVec 8)))) : bh [] R = R := by cases R <;> rfl
theorem bh_no (ds : List (List (BitVec 8))) (each n : Nat) (bs : List (BitVec 8)) (e : Int) (h : bk each bs = .error e) : bh ds (txs each (n + 1) bs) = .error e := by
  unfold txs; rw [h]; rfl
theorem bh_ok (ds : List (List (BitVec 8))) (each n : Nat) (bs x l : List (BitVec 8)) (h : bk each bs = .ok (x, l)) : bh ds (txs each (n + 1) bs) = bh (ds ++ [x]) (txs each n l) := by
  conv => lhs; unfold txs; rw [h]
  show bh ds (match txs each n l with
    | .error e => .error e
    | .ok (xs, l') => .ok ((x :: xs), l')) = _
  cases txs each n l with
  | error e => rfl
  | ok al => obtain ⟨xs, l'⟩ := al; simp [bh]
/-- A list of texts of the call's own. -/
def Ot (w : World) (base : Nat) (v : Value) (ts : List (List (BitVec 8))) : Prop := w.ownsRow base 9 1 v ts.length (ts.map fun t => Value.string (bstr t))
theorem info9 : (Try.prog.info? 9).map (fun i => (i.zero, i.size, i.bytes)) = some (some (.string ⟨#[]⟩), 1, 16) := by kernel_rfl
theorem Ot.nil (w : World) (base : Nat) : Ot w base (.slice none 0 0) [] := World.ownsRow_nil _ _ _ _
section
attribute [local irreducible] Calls el
set_option maxRecDepth 1000000 in
theorem need1 {w : World} {b o c : Nat} (n : Int) (h : w.cell? ⟨b, o, none⟩ = some (.int .i64 n)) :
    Calls Try.prog 56 #[.slice (some ⟨b, o, none⟩) 1 c] w fun e w' => w' = w ∧ e = if n < 0 then pan 2 else .returned (.tuple #[]) := by
  have h0 : w.cell? ⟨b, o + 0, none⟩ = some (.int .i64 n) := h
  by_cases hn : n < 0
  · rw [if_pos hn]
    go_enter Try.func56, Try.ntmps56
    go_wp2
    refine wp_loop_rounds 1 ?_
    rw [rounds_succ]
    go_wp2
    exact ⟨rfl, rfl, rfl⟩
  · rw [if_neg hn]
    go_enter Try.func56, Try.ntmps56
    go_wp2
    refine wp_loop_rounds 2 ?_
    rw [rounds_succ]
    go_wp2
    rw [rounds_succ]
    go_wp2
    go_end0
    exact ⟨rfl, rfl⟩
set_option maxRecDepth 1000000 in
theorem need2 {w : World} {b o c : Nat} (n m : Int) (h : w.cell? ⟨b, o, none⟩ = some (.int .i64 n)) (k : w.cell? ⟨b, o + 1, none⟩ = some (.int .i64 m)) :
    Calls Try.prog 56 #[.slice (some ⟨b, o, none⟩) 2 c] w fun e w' => w' = w ∧ e = if n < 0 ∨ m < 0 then pan 2 else .returned (.tuple #[]) := by
  by_cases hn : n < 0
  · rw [if_pos (.inl hn)]
    go_enter Try.func56, Try.ntmps56
    go_wp2
    refine wp_loop_rounds 1 ?_
    rw [rounds_succ]
    go_wp2
    exact ⟨rfl, rfl, rfl⟩
  · by_cases hm : m < 0
    · rw [if_pos (.inr hm)]
      go_enter Try.func56, Try.ntmps56
      go_wp2
      refine wp_loop_rounds 2 ?_
      rw [rounds_succ]
      go_wp2
      rw [rounds_succ]
      go_wp2
      exact ⟨rfl, rfl, rfl⟩
    · rw [if_neg (by omega)]
      go_enter Try.func56, Try.ntmps56
      go_wp2
      refine wp_loop_rounds 3 ?_
      rw [rounds_succ]
      go_wp2
      rw [rounds_succ]
      go_wp2
      rw [rounds_succ]
      go_wp2
      go_end0
      exact ⟨rfl, rfl⟩
end
/-- What is taken leaves less. -/
theorem tk_len {n : Nat} {bs x l : List (BitVec 8)} (h : tk n bs = .ok (x, l)) : l.length ≤ bs.length ∧ x.length = n := by
  unfold tk at h
  by_cases e : bs.length < n
  · rw [if_pos e] at h; cases h
  · rw [if_neg e] at h
    injection h with h; injection h with h1 h2
    subst h1 h2
    rw [List.length_drop, List.length_take]
    omega
theorem uv_len {bs l : List (BitVec 8)} {v : Nat} (h : uv bs = .ok (v, l)) : l.length < bs.length := by
  unfold uv at h
  cases hr : rsk 9 (nt bs) with
  | error e => rw [hr] at h; cases e <;> cases h
  | ok al =>
    obtain ⟨u, n⟩ := al
    rw [hr] at h
    injection h with h; injection h with h1 h2
    subst h1 h2
    obtain ⟨_, q1, q2, _⟩ := sfk_rsk 9 _ u n (Nat.le_refl _) (nt_byte bs) hr
    have hp := sfk_pos 9 u
    have hl := congrArg List.length q1
    rw [List.length_take, nt_len] at hl
    rw [List.length_drop]
    omega
theorem ct_ok {m : Nat} {bs l : List (BitVec 8)} {v : Nat} (h : ct m bs = .ok (v, l)) : uv bs = .ok (v, l) ∧ v ≤ m := by
  unfold ct at h
  cases hu : uv bs with
  | error e => rw [hu] at h; cases h
  | ok al =>
    obtain ⟨u, k⟩ := al
    rw [hu] at h
    have h : (if m < u then (.error 71 : Ans Nat) else .ok (u, k)) = .ok (v, l) := h
    by_cases e : m < u
    · rw [if_pos e] at h; cases h
    · rw [if_neg e] at h
      injection h with h; injection h with h1 h2
      subst h1 h2
      exact ⟨rfl, by omega⟩
theorem bk_len {m : Nat} {bs x l : List (BitVec 8)} (h : bk m bs = .ok (x, l)) : l.length < bs.length := by
  unfold bk at h
  cases hu : ct m bs with
  | error e => rw [hu] at h; cases h
  | ok al =>
    obtain ⟨u, k⟩ := al
    rw [hu] at h
    have h1 := tk_len h
    have h2 := uv_len (ct_ok hu).1
    omega
theorem grown_opt {w w1 w2 : World} {r o : Option Nat} (h : w.grownBy w1 r) (k : w1.grownBy w2 o) (ho : ∀ b, o = some b → w.heap.size ≤ b) : w.grownBy w2 r :=
  ⟨k.os.trans h.os, k.tape.trans h.tape, k.output.trans h.output, Nat.le_trans h.size k.size, fun i hi hne => (k.block i (Nat.lt_of_lt_of_le hi h.size) (fun e => by have := ho i e.symm; omega)).trans (h.block i hi hne)⟩
theorem grownBelow_alloc (w : World) (o : Obj) (r : Option Nat) : w.grownBy (w.alloc o) r := World.grownBy_alloc w o r
section
attribute [local irreducible] Calls el bstr
/-- What stands behind a number of the caller's. -/
def ge0 {α : Type} (n : Int) (R : Ans α) : Ans α := if n < 0 then .error 2 else R
theorem ge0_no {α : Type} {n : Int} (R : Ans α) (h : n < 0) : ge0 n R = .error 2 := if_pos h
theorem ge0_ok {α : Type} {n : Int} (R : Ans α) (h : ¬ n < 0) : ge0 n R = R := if_neg h
set_option maxHeartbeats 1000000 in
set_option maxRecDepth 1000000 in
theorem bytes1_any {B : Nat} {w : World} {g q : Nat} {bs : List (BitVec 8)} (h : Wk B w g bs) (n : Int) (hq : w.cell? ⟨q, 0, none⟩ = some (.int .i64 n)) (hl : bs.length ≤ 140737488355000) :
    Calls Try.prog 55 #[.pointer (some ⟨g, 0, none⟩), .pointer (some ⟨q, 0, none⟩)] w fun e w' => Tell B w g (fun xs W v => Ow W w.heap.size v xs) (ge0 n (tk n.toNat bs)) e w' := by
  have al : ∀ (W : World) (o : Obj), Below W.heap.size W (W.alloc o) := fun W o => (Below.refl _ _).alloc (Nat.le_refl _) o
  have N1 := (show Hid _ from need1 (w := w.alloc (.cells #[.int .i64 n] 3)) (b := w.heap.size) (o := 0) (c := 1) n (cell_of_row _ w.heap.size 0 _ _ (0, 0) (heap_alloc_new w _)))
  have hq1 := cell_below hq (al w (.cells #[.int .i64 n] 3))
  have hga := grownBelow_alloc w (.cells #[.int .i64 n] 3)
  by_cases hneg : n < 0
  · rw [if_pos hneg] at N1
    have R : Hid (ge0 n (tk n.toNat bs) = .error 2) := (ge0_no _ hneg)
    go_enter Try.func55, Try.ntmps55
    go_wp2_with (go_at_call 56; refine N1.out.mono ?_; rintro e w1 ⟨hw, rfl⟩; obtain rfl := hw.symm)
    exact ⟨rfl, hga _, by rw [R.out]⟩
  · rw [if_neg hneg] at N1
    obtain ⟨m, rfl⟩ := Int.eq_ofNat_of_zero_le (show 0 ≤ n by omega)
    have R : Hid (ge0 (m : Int) (tk (m : Int).toNat bs) = tk m bs) := (show ge0 (m : Int) (tk (m : Int).toNat bs) = tk m bs by rw [ge0_ok _ hneg, Int.toNat_natCast])
    have T := (show Hid _ from tk_next (h.below (al w (.cells #[.int .i64 (m : Int)] 3))) m)
    cases ht : tk m bs with
    | error c =>
      rw [ht] at T
      go_enter Try.func55, Try.ntmps55
      go_wp2_with (first | (go_at_call 56; refine N1.out.mono ?_; rintro e w1 ⟨hw, rfl⟩; obtain rfl := hw.symm) | (go_at_call 57; refine T.out.mono ?_; rintro e w1 ⟨hG, rfl⟩))
      exact ⟨rfl, gtrans (hga _) hG, by rw [R.out, ht]⟩
    | ok al =>
      obtain ⟨xs, l⟩ := al
      rw [ht] at T
      have hxl := (tk_len ht).2
      have hxb : xs.length ≤ bs.length := by
        unfold tk at ht
        by_cases e : bs.length < m
        · rw [if_pos e] at ht; cases ht
        · omega
      go_enter Try.func55, Try.ntmps55
      go_wp2_with (first | (go_at_call 56; refine N1.out.mono ?_; rintro e w1 ⟨hw, rfl⟩; obtain rfl := hw.symm) | (go_at_call 57; refine T.out.mono ?_; rintro e w1 ⟨hG, v1, rfl, hs1, hW1⟩; obtain ⟨p1, c1, rfl, _, hr1⟩ := hs1.rd) | (go_at_call 42; refine (anew0 hr1 m c1 hxl (by omega)).mono ?_; rintro e w2 ⟨v2, rfl, ho2, hb2⟩))
      go_ret
      have hsz := Nat.le_trans (al w (.cells #[.int .i64 (m : Int)] 3)).size hG.size
      exact ⟨grown_below (gtrans (hga _) hG) hb2, by rw [R.out, ht]; exact ⟨_, rfl, ho2.mono hsz, hW1.below hb2⟩⟩
theorem tk_xlen {n : Nat} {bs x l : List (BitVec 8)} (h : tk n bs = .ok (x, l)) : x.length ≤ bs.length := by
  unfold tk at h
  by_cases e : bs.length < n
  · rw [if_pos e] at h; cases h
  · rw [if_neg e] at h
    injection h with h; injection h with h1 h2
    subst h1 h2
    rw [List.length_take]
    omega
theorem bk_xlen {m : Nat} {bs x l : List (BitVec 8)} (h : bk m bs = .ok (x, l)) : x.length ≤ bs.length := by
  unfold bk at h
  cases hu : ct m bs with
  | error e => rw [hu] at h; cases h
  | ok al =>
    obtain ⟨u, k⟩ := al
    rw [hu] at h
    have h1 := tk_xlen h
    have h2 := uv_len (ct_ok hu).1
    omega
theorem Ot.mono {w : World} {base base' : Nat} {v : Value} {ts : List (List (BitVec 8))} (h : Ot w base v ts) (hb : base' ≤ base) : Ot w base' v ts := by
  refine ⟨h.1, ?_⟩
  rcases h.2 with h1 | ⟨g, cap, c, hv, hg, hh, hc⟩
  · exact .inl h1
  · exact .inr ⟨g, cap, c, hv, Nat.le_trans hb hg, hh, hc⟩
end
end Go.Proofs.Ytfcjkaigmlfjnaa
