/-
  A reading on its way: 'count', 'block'.
-/
import Derived.Test.YtjobaeopokfekaaGreatZf
import Derived.Test.YtjobaeopokfekaaGreatKz
import Derived.Defers
import Derived.Recover
namespace Go.Proofs.YtjobaeopokfekaaGreat
open Go.RowKit
theorem tk_next {B : Nat} {w : World} {g : Nat} {bs : List (BitVec 8)} (h : Wk B w g bs) (n : Nat) :
    Calls Tryz.prog 95 #[.pointer (some ⟨g, 0, none⟩), .int .i64 (n : Int)] w fun e w' => Tell B w g (fun xs W v => Sq W v xs) (tk n bs) e w' := by
  unfold tk
  by_cases hn : bs.length < n
  · rw [if_pos hn]
    exact (next_cut h n (by omega)).mono fun e w' ⟨he, hw⟩ => ⟨by rw [hw]; exact grefl _ _, he⟩
  · rw [if_neg hn]
    have h' : Wk B w g (bs.take n ++ bs.drop n) := by rw [List.take_append_drop]; exact h
    exact (next_ok h' n (by rw [List.length_take]; omega)).mono fun e w' ⟨v, he, hs, hW, hG⟩ => ⟨hG, v, he, hs, hW⟩
section
attribute [local irreducible] Calls el
end
end Go.Proofs.YtjobaeopokfekaaGreat
/-
  Rows of the call's own, of any kind: what is kept.
-/
namespace Go.Proofs.YtjobaeopokfekaaGreat
open Go.RowKit
theorem own_below {w w' : World} {base n : Nat} {t : TypeId} {v : Value} {xs : List Value} (h : w.ownsRow base t 1 v n xs) (hb : Below w.heap.size w w') : w'.ownsRow base t 1 v n xs := by
  refine ⟨h.1, ?_⟩
  rcases h.2 with h1 | ⟨g, cap, c, hv, hg, hh, hc⟩
  · exact .inl h1
  · refine .inr ⟨g, cap, c, hv, hg, ?_, hc⟩
    rw [hb.block g (by
      rcases Nat.lt_or_ge g w.heap.size with h1 | h1
      · exact h1
      · rw [Array.getElem?_eq_none h1] at hh; cases hh)]
    exact hh
theorem own_lt {w : World} {base n g : Nat} {t : TypeId} {v : Value} {xs : List Value} (h : w.ownsRow base t 1 v n xs) (hg : v.ownBlock = some g) : base ≤ g ∧ g < w.heap.size ∧ ∃ cs, w.heap[g]? = some (.cells cs t (0, 0)) := by
  rcases h.2 with ⟨hv, _⟩ | ⟨g', cap, c, hv, hb, hh, hc⟩
  · rw [hv] at hg; cases hg
  · rw [hv] at hg
    simp [Value.ownBlock] at hg
    subst hg
    refine ⟨hb, ?_, c, hh⟩
    rcases Nat.lt_or_ge g' w.heap.size with h1 | h1
    · exact h1
    · rw [Array.getElem?_eq_none h1] at hh; cases hh
theorem own_kept {w w' : World} {base n g : Nat} {t : TypeId} {v : Value} {xs : List Value} (h : w.ownsRow base t 1 v n xs) (hne : v.ownBlock ≠ some g) (hg : w.grownBy w' (some g)) : w'.ownsRow base t 1 v n xs :=
  h.kept hg (.inr hne)
end Go.Proofs.YtjobaeopokfekaaGreat
/-
  A reading on its way: 'needCounts', 'texts', and what the face hands in.
-/
namespace Go.Proofs.YtjobaeopokfekaaGreat
open Go.RowKit
/-- So many texts. -/
def txs (each : Nat) : Nat → List (BitVec 8) → Ans (List (List (BitVec 8)))
  | 0, bs => .ok ([], bs)
  | n + 1, bs => match bk each bs with
    | .error e => .error e
    | .ok (x, l) => match txs each n l with
      | .error e => .error e
      | .ok (xs, l') => .ok ((x :: xs), l')
/-- Texts, at most so many. -/
def tx (most each : Nat) (bs : List (BitVec 8)) : Ans (List (List (BitVec 8))) := match ct most bs with
  | .error e => .error e
  | .ok (n, l) => txs each n l
/-- Behind what is there already. -/
def bh (ds : List (List (BitVec 8))) : Ans (List (List (BitVec 8))) → Ans (List (List (BitVec 8)))
  | .error e => .error e
  | .ok (xs, l) => .ok ((ds ++ xs), l)
theorem bh_nil (R : Ans (List (List (BitVec 8)))) : bh [] R = R := by cases R <;> rfl
theorem bh_no (ds : List (List (BitVec 8))) (each n : Nat) (bs : List (BitVec 8)) (e : Int) (h : bk each bs = .error e) : bh ds (txs each (n + 1) bs) = .error e := by
  unfold txs; rw [h]; rfl
theorem bh_ok (ds : List (List (BitVec 8))) (each n : Nat) (bs x l : List (BitVec 8)) (h : bk each bs = .ok (x, l)) : bh ds (txs each (n + 1) bs) = bh (ds ++ [x]) (txs each n l) := by
  conv => lhs; unfold txs; rw [h]
  show bh ds (match txs each n l with
    | .error e => .error e
    | .ok (xs, l') => .ok ((x :: xs), l')) = _
  cases txs each n l with
  | error e => rfl
  | ok al => obtain ⟨xs, l'⟩ := al; simp [bh]
/-- A list of texts of the call's own. -/
def Ot (w : World) (base : Nat) (v : Value) (ts : List (List (BitVec 8))) : Prop := w.ownsRow base 9 1 v ts.length (ts.map fun t => Value.string (bstr t))
theorem info9 : (Tryz.prog.info? 9).map (fun i => (i.zero, i.size, i.bytes)) = some (some (.string ⟨#[]⟩), 1, 16) := by kernel_rfl
theorem Ot.nil (w : World) (base : Nat) : Ot w base (.slice none 0 0) [] := World.ownsRow_nil _ _ _ _
/-- append(v, x) of one text. -/
theorem wpList_apt {w : World} {ops : Array Oper} {rest : List Oper} {o : Oper} {a : Act} {Q : Exit → Act → World → Prop} (hgd : o.guard = none) (s x : Operand) (ho : o.op = .call { callee := .builtin .append, args := #[s, x], argTypes := #[119, 119] })
    (base : Nat) (v : Value) (ts : List (List (BitVec 8))) (hs : a.eval s = v) (hown : Ot w base v ts) (ad : Addr) (c : Nat) (t : List (BitVec 8)) (hx : a.eval x = .slice (some ad) 1 c) (hr : w.cell? ad = some (.string (bstr t))) (hm : ts.length + 1 ≤ 1099511627776) (hbase : base ≤ w.heap.size)
    (h : ∀ v' w', Ot w' base v' (ts ++ [t]) → w.grownBy w' v.ownBlock → wpList Tryz.prog ops Q rest (a.put o.dst v') w') : wpList Tryz.prog ops Q (o :: rest) a w := by
  obtain ⟨i0, hi, hz0, hz1, hz2⟩ := info_parts info9
  have S : ∀ j u, ([.string (bstr t)] : List Value)[j]? = some u → w.cell? (ad.add j) = some u := by
    intro j u hu
    match j with
    | 0 =>
      simp at hu
      rw [show ad.add 0 = ad by unfold Addr.add; split <;> simp_all, hr, hu]
    | j + 1 => simp at hu
  refine wpList_append_own _ hgd _ _ 119 ho base 9 i0 (.string ⟨#[]⟩) 1 16 Tryz.underlying119 hi hz0 hz1 hz2 rfl (by decide) v ts.length _ hs hown ad 1 c [.string (bstr t)] hx rfl S (by intro u hu; simp at hu; subst hu; rfl) (by unfold maxLen; omega) (by omega) hbase ?_
  intro v' w' ho' hg _
  refine h v' w' ?_ hg
  unfold Ot
  simpa using ho'
section
attribute [local irreducible] Calls el
end
/-- What is taken leaves less. -/
theorem tk_len {n : Nat} {bs x l : List (BitVec 8)} (h : tk n bs = .ok (x, l)) : l.length ≤ bs.length ∧ x.length = n := by
  unfold tk at h
  by_cases e : bs.length < n
  · rw [if_pos e] at h; cases h
  · rw [if_neg e] at h
    injection h with h; injection h with h1 h2
    subst h1 h2
    rw [List.length_drop, List.length_take]
    omega
theorem uv_len {bs l : List (BitVec 8)} {v : Nat} (h : uv bs = .ok (v, l)) : l.length < bs.length := by
  unfold uv at h
  cases hr : rsk 9 (nt bs) with
  | error e => rw [hr] at h; cases e <;> cases h
  | ok al =>
    obtain ⟨u, n⟩ := al
    rw [hr] at h
    injection h with h; injection h with h1 h2
    subst h1 h2
    obtain ⟨_, q1, q2, _⟩ := sfk_rsk 9 _ u n (Nat.le_refl _) (nt_byte bs) hr
    have hp := sfk_pos 9 u
    have hl := congrArg List.length q1
    rw [List.length_take, nt_len] at hl
    rw [List.length_drop]
    omega
theorem ct_ok {m : Nat} {bs l : List (BitVec 8)} {v : Nat} (h : ct m bs = .ok (v, l)) : uv bs = .ok (v, l) ∧ v ≤ m := by
  unfold ct at h
  cases hu : uv bs with
  | error e => rw [hu] at h; cases h
  | ok al =>
    obtain ⟨u, k⟩ := al
    rw [hu] at h
    have h : (if m < u then (.error 71 : Ans Nat) else .ok (u, k)) = .ok (v, l) := h
    by_cases e : m < u
    · rw [if_pos e] at h; cases h
    · rw [if_neg e] at h
      injection h with h; injection h with h1 h2
      subst h1 h2
      exact ⟨rfl, by omega⟩
theorem bk_len {m : Nat} {bs x l : List (BitVec 8)} (h : bk m bs = .ok (x, l)) : l.length < bs.length := by
  unfold bk at h
  cases hu : ct m bs with
  | error e => rw [hu] at h; cases h
  | ok al =>
    obtain ⟨u, k⟩ := al
    rw [hu] at h
    have h1 := tk_len h
    have h2 := uv_len (ct_ok hu).1
    omega
theorem grown_opt {w w1 w2 : World} {r o : Option Nat} (h : w.grownBy w1 r) (k : w1.grownBy w2 o) (ho : ∀ b, o = some b → w.heap.size ≤ b) : w.grownBy w2 r :=
  ⟨k.os.trans h.os, k.tape.trans h.tape, k.output.trans h.output, Nat.le_trans h.size k.size, fun i hi hne => (k.block i (Nat.lt_of_lt_of_le hi h.size) (fun e => by have := ho i e.symm; omega)).trans (h.block i hi hne)⟩
theorem grownBelow_alloc (w : World) (o : Obj) (r : Option Nat) : w.grownBy (w.alloc o) r := World.grownBy_alloc w o r
section
attribute [local irreducible] Calls el bstr
/-- What stands behind a number of the caller's. -/
def ge0 {α : Type} (n : Int) (R : Ans α) : Ans α := if n < 0 then .error 2 else R
theorem ge0_no {α : Type} {n : Int} (R : Ans α) (h : n < 0) : ge0 n R = .error 2 := if_pos h
theorem ge0_ok {α : Type} {n : Int} (R : Ans α) (h : ¬ n < 0) : ge0 n R = R := if_neg h
theorem tk_xlen {n : Nat} {bs x l : List (BitVec 8)} (h : tk n bs = .ok (x, l)) : x.length ≤ bs.length := by
  unfold tk at h
  by_cases e : bs.length < n
  · rw [if_pos e] at h; cases h
  · rw [if_neg e] at h
    injection h with h; injection h with h1 h2
    subst h1 h2
    rw [List.length_take]
    omega
theorem bk_xlen {m : Nat} {bs x l : List (BitVec 8)} (h : bk m bs = .ok (x, l)) : x.length ≤ bs.length := by
  unfold bk at h
  cases hu : ct m bs with
  | error e => rw [hu] at h; cases h
  | ok al =>
    obtain ⟨u, k⟩ := al
    rw [hu] at h
    have h1 := tk_xlen h
    have h2 := uv_len (ct_ok hu).1
    omega
theorem Ot.mono {w : World} {base base' : Nat} {v : Value} {ts : List (List (BitVec 8))} (h : Ot w base v ts) (hb : base' ≤ base) : Ot w base' v ts := by
  refine ⟨h.1, ?_⟩
  rcases h.2 with h1 | ⟨g, cap, c, hv, hg, hh, hc⟩
  · exact .inl h1
  · exact .inr ⟨g, cap, c, hv, Nat.le_trans hb hg, hh, hc⟩
end
end Go.Proofs.YtjobaeopokfekaaGreat
/-
  Readings: 'reading' and its deferred function.
-/
namespace Go.Proofs.YtjobaeopokfekaaGreat
open Go.RowKit
/-- A reader: what is left, and its fault. -/
def Rdr (w : World) (r : Nat) (bs : List (BitVec 8)) (f : Int) : Prop := ∃ v, w.heap[r]? = some (.cells #[v, .int .i64 f] 128 (0, 0)) ∧ Sq w v bs ∧ ∀ b, v.ownBlock = some b → b < r
theorem Rdr.nb {w : World} {r : Nat} {bs : List (BitVec 8)} {f : Int} (h : Rdr w r bs f) : Nb w r := by
  obtain ⟨v, hg, hs, _⟩ := h
  refine nb_of hg (fun i z e => ?_)
  match i with
  | 0 => simp at e; exact sq_nint hs z e
  | 1 => simp at e
  | i + 2 => simp at e
theorem Nb.heap {w w' : World} {g : Nat} (h : Nb w g) (e : w'.heap[g]? = w.heap[g]?) : Nb w' g := by
  intro i z hc
  exact h i z (by rw [← hc]; exact (World.cell?_of_block (a := ⟨g, i, none⟩) e).symm)
theorem Rdr.lt {w : World} {r : Nat} {bs : List (BitVec 8)} {f : Int} (h : Rdr w r bs f) : r < w.heap.size := by
  obtain ⟨v, hg, hs, _⟩ := h
  rcases Nat.lt_or_ge r w.heap.size with h1 | h1
  · exact h1
  · rw [Array.getElem?_eq_none h1] at hg; cases hg
theorem Rdr.below {w w' : World} {r : Nat} {bs : List (BitVec 8)} {f : Int} (h : Rdr w r bs f) (hb : Below w.heap.size w w') : Rdr w' r bs f := by
  have hl := h.lt
  obtain ⟨v, hg, hs, hv⟩ := h
  exact ⟨v, by rw [hb.block r hl]; exact hg, hs.below hb, hv⟩
theorem Rdr.kept {w w' : World} {r g : Nat} {bs : List (BitVec 8)} {f : Int} (h : Rdr w r bs f) (hne : r ≠ g) (hb : Nb w g) (hg : w.grownBy w' (some g)) : Rdr w' r bs f := by
  have hl := h.lt
  obtain ⟨v, hh, hs, hv⟩ := h
  exact ⟨v, by rw [hg.block r hl (fun e => hne (by injection e))]; exact hh, hs.kept hb hg, hv⟩
/-- What a reading comes to at the reader's face. -/
def Face {α : Type} (w : World) (r : Nat) (bs : List (BitVec 8)) (z : Value) (f : α → World → Value → Prop) (R : Ans α) (e : Ending) (w' : World) : Prop :=
  w.grownBy w' (some r) ∧ match R with
  | .error c => e = .returned z ∧ Rdr w' r bs c
  | .ok (a, l) => ∃ v, e = .returned v ∧ f a w' v ∧ Rdr w' r l 0
theorem alloc_size (w : World) (o : Obj) : (w.alloc o).heap.size = w.heap.size + 1 := Array.size_push ..
theorem two_new (w : World) (o1 o2 : Obj) (W : World) (e : W = (w.alloc o1).alloc o2) : Below w.heap.size w W ∧ W.heap[w.heap.size]? = some o1 ∧ W.heap[w.heap.size + 1]? = some o2 ∧ W.heap.size = w.heap.size + 2 := by
  have al : ∀ (W : World) (o : Obj), Below W.heap.size W (W.alloc o) := fun W o => (Below.refl _ _).alloc (Nat.le_refl _) o
  subst e
  refine ⟨bt (al _ _) (al _ _), ?_, ?_, by rw [alloc_size, alloc_size]⟩
  · rw [(al (w.alloc o1) o2).block w.heap.size (by rw [alloc_size]; omega)]
    exact heap_alloc_new _ _
  · rw [← alloc_size w o1]; exact heap_alloc_new _ _
theorem ta_errno (c : Int) (w : World) : (Instr.typeAssert (.iface 38 (.int .i64 c)) 20 38 true).run Tryz.prog w = .ok (.tuple #[.int .i64 c, .bool true]) w := by kernel_rfl
theorem ta_nil (w : World) : (Instr.typeAssert .nilIface 20 38 true).run Tryz.prog w = .ok (.tuple #[.int .i64 0, .bool false]) w := by kernel_rfl
theorem set_fault {w : World} {r : Nat} {v : Value} {f c : Int} {bs : List (BitVec 8)} (hr : w.heap[r]? = some (.cells #[v, .int .i64 f] 128 (0, 0))) (hb : Nb w r) (hs : Sq w v bs) (hv : ∀ b, v.ownBlock = some b → b < r) : Rdr (w.setCell ⟨r, 1, none⟩ (.int .i64 c)) r bs c :=
  ⟨v, heap_setCell_same w r 1 _ _ _ hr, hs.kept hb (grown_set w r 1 _), hv⟩
theorem set_left {w : World} {r : Nat} {u v : Value} {f : Int} {bs : List (BitVec 8)} (hr : w.heap[r]? = some (.cells #[u, .int .i64 f] 128 (0, 0))) (hb : Nb w r) (hs : Sq w v bs) (hv : ∀ b, v.ownBlock = some b → b < r) : Rdr (w.setCell ⟨r, 0, none⟩ v) r bs f :=
  ⟨v, heap_setCell_same w r 0 _ _ _ hr, hs.kept hb (grown_set w r 0 _), hv⟩
/-- Blocks that are new are nothing to what was there. -/
theorem grown_new {w w1 w2 : World} {r g : Nat} (h : w.grownBy w1 (some r)) (hg : w.heap.size ≤ g) (k : w1.grownBy w2 (some g)) : w.grownBy w2 (some r) :=
  ⟨k.os.trans h.os, k.tape.trans h.tape, k.output.trans h.output, Nat.le_trans h.size k.size, fun i hi hne => (k.block i (Nat.lt_of_lt_of_le hi h.size) (fun e => by injection e; omega)).trans (h.block i hi hne)⟩
section
attribute [local irreducible] Calls el
set_option maxRecDepth 1000000 in
theorem fault_any {w : World} {r : Nat} {bs : List (BitVec 8)} {f : Int} (h : Rdr w r bs f) : Calls Tryz.prog 93 #[.pointer (some ⟨r, 0, none⟩)] w fun e w' => e = .returned (.int .i64 f) ∧ w' = w := by
  obtain ⟨v, hg, hs, _⟩ := h
  have h1 : w.cell? ⟨r, 1, none⟩ = some (.int .i64 f) := cell_of_row w r 1 _ _ (0, 0) hg
  go_enter Tryz.func93, Tryz.ntmps93
  go_wp2
  go_ret
  exact ⟨rfl, rfl⟩
set_option maxRecDepth 1000000 in
theorem fault_nil (w : World) : Calls Tryz.prog 93 #[.pointer none] w fun e w' => e = .returned (.int .i64 1) ∧ w' = w := by
  go_enter Tryz.func93, Tryz.ntmps93
  go_wp2
  go_ret
  exact ⟨rfl, rfl⟩
/-- What End answers. -/
def en (n : Nat) (f : Int) : Int := if f = 0 then (if n = 0 then 0 else 72) else f
end
end Go.Proofs.YtjobaeopokfekaaGreat
/-
  The deferred function of 'reading', of each kind.
-/
namespace Go.Proofs.YtjobaeopokfekaaGreat
open Go.RowKit
section
attribute [local irreducible] Calls el
-- u8
set_option maxRecDepth 1000000 in
theorem catch_u8 {q r : Nat} {w : World} {v : Value} {f : Int} (c : Int) (older : List PanicEntry) (hq : w.cell? ⟨q, 0, none⟩ = some (.pointer (some ⟨r, 0, none⟩))) (hr : w.heap[r]? = some (.cells #[v, .int .i64 f] 128 (0, 0))) :
    CallsD Tryz.prog 94 #[.pointer (some ⟨q, 0, none⟩)] (.panicking ({ v := .iface 38 (.int .i64 c), recovered := false } :: older)) w fun e u' w' =>
      e = .returned (.tuple #[]) ∧ u' = .panicking ({ v := .iface 38 (.int .i64 c), recovered := true } :: older) ∧ w' = w.setCell ⟨r, 1, none⟩ (.int .i64 c) := by
  have h1 : w.cell? ⟨r, 1, none⟩ = some (.int .i64 f) := cell_of_row w r 1 _ _ (0, 0) hr
  have h2 := frozen_of_row w r 1 _ _ hr
  refine callsD_of_wpS Tryz.func94 rfl fun c₀ cs hu => ?_
  apply wpS_seq
  apply wpS_region
  simp [wpOpsS, go_sem, recoverD, hu, ta_errno, Tryz.ntmps94, Exit.thenS]
  apply wpS_seq
  apply wpS_region
  simp [wpOpsS, go_sem, Exit.thenS]
  refine wpS_cond (t := true) (by simp [Act.eval, Array.replicate]) ?_
  simp only [if_true]
  apply wpS_region
  simp [wpOpsS, go_sem, hq, h1, h2, bodyPostS, results, Tryz.results94]
set_option maxRecDepth 1000000 in
theorem idle_u8 {q : Nat} {w : World} :
    CallsD Tryz.prog 94 #[.pointer (some ⟨q, 0, none⟩)] .returning w fun e u' w' => e = .returned (.tuple #[]) ∧ u' = .returning ∧ w' = w := by
  refine callsD_of_wpS Tryz.func94 rfl fun c₀ cs hu => ?_
  apply wpS_seq
  apply wpS_region
  simp [wpOpsS, go_sem, recoverD, hu, ta_nil, Tryz.ntmps94, Exit.thenS]
  apply wpS_seq
  apply wpS_region
  simp [wpOpsS, go_sem, Exit.thenS]
  refine wpS_cond (t := false) (by simp [Act.eval, Array.replicate]) ?_
  simp only [Bool.false_eq_true, if_false]
  refine wpS_of_wp (wp_skip ?_)
  cases c₀
  simp_all [bodyPostS, results, Tryz.results94]
-- u16
set_option maxRecDepth 1000000 in
theorem catch_u32 {q r : Nat} {w : World} {v : Value} {f : Int} (c : Int) (older : List PanicEntry) (hq : w.cell? ⟨q, 0, none⟩ = some (.pointer (some ⟨r, 0, none⟩))) (hr : w.heap[r]? = some (.cells #[v, .int .i64 f] 128 (0, 0))) :
    CallsD Tryz.prog 96 #[.pointer (some ⟨q, 0, none⟩)] (.panicking ({ v := .iface 38 (.int .i64 c), recovered := false } :: older)) w fun e u' w' =>
      e = .returned (.tuple #[]) ∧ u' = .panicking ({ v := .iface 38 (.int .i64 c), recovered := true } :: older) ∧ w' = w.setCell ⟨r, 1, none⟩ (.int .i64 c) := by
  have h1 : w.cell? ⟨r, 1, none⟩ = some (.int .i64 f) := cell_of_row w r 1 _ _ (0, 0) hr
  have h2 := frozen_of_row w r 1 _ _ hr
  refine callsD_of_wpS Tryz.func96 rfl fun c₀ cs hu => ?_
  apply wpS_seq
  apply wpS_region
  simp [wpOpsS, go_sem, recoverD, hu, ta_errno, Tryz.ntmps96, Exit.thenS]
  apply wpS_seq
  apply wpS_region
  simp [wpOpsS, go_sem, Exit.thenS]
  refine wpS_cond (t := true) (by simp [Act.eval, Array.replicate]) ?_
  simp only [if_true]
  apply wpS_region
  simp [wpOpsS, go_sem, hq, h1, h2, bodyPostS, results, Tryz.results96]
set_option maxRecDepth 1000000 in
theorem idle_u32 {q : Nat} {w : World} :
    CallsD Tryz.prog 96 #[.pointer (some ⟨q, 0, none⟩)] .returning w fun e u' w' => e = .returned (.tuple #[]) ∧ u' = .returning ∧ w' = w := by
  refine callsD_of_wpS Tryz.func96 rfl fun c₀ cs hu => ?_
  apply wpS_seq
  apply wpS_region
  simp [wpOpsS, go_sem, recoverD, hu, ta_nil, Tryz.ntmps96, Exit.thenS]
  apply wpS_seq
  apply wpS_region
  simp [wpOpsS, go_sem, Exit.thenS]
  refine wpS_cond (t := false) (by simp [Act.eval, Array.replicate]) ?_
  simp only [Bool.false_eq_true, if_false]
  refine wpS_of_wp (wp_skip ?_)
  cases c₀
  simp_all [bodyPostS, results, Tryz.results96]
-- u64
set_option maxRecDepth 1000000 in
theorem catch_u64 {q r : Nat} {w : World} {v : Value} {f : Int} (c : Int) (older : List PanicEntry) (hq : w.cell? ⟨q, 0, none⟩ = some (.pointer (some ⟨r, 0, none⟩))) (hr : w.heap[r]? = some (.cells #[v, .int .i64 f] 128 (0, 0))) :
    CallsD Tryz.prog 97 #[.pointer (some ⟨q, 0, none⟩)] (.panicking ({ v := .iface 38 (.int .i64 c), recovered := false } :: older)) w fun e u' w' =>
      e = .returned (.tuple #[]) ∧ u' = .panicking ({ v := .iface 38 (.int .i64 c), recovered := true } :: older) ∧ w' = w.setCell ⟨r, 1, none⟩ (.int .i64 c) := by
  have h1 : w.cell? ⟨r, 1, none⟩ = some (.int .i64 f) := cell_of_row w r 1 _ _ (0, 0) hr
  have h2 := frozen_of_row w r 1 _ _ hr
  refine callsD_of_wpS Tryz.func97 rfl fun c₀ cs hu => ?_
  apply wpS_seq
  apply wpS_region
  simp [wpOpsS, go_sem, recoverD, hu, ta_errno, Tryz.ntmps97, Exit.thenS]
  apply wpS_seq
  apply wpS_region
  simp [wpOpsS, go_sem, Exit.thenS]
  refine wpS_cond (t := true) (by simp [Act.eval, Array.replicate]) ?_
  simp only [if_true]
  apply wpS_region
  simp [wpOpsS, go_sem, hq, h1, h2, bodyPostS, results, Tryz.results97]
set_option maxRecDepth 1000000 in
theorem idle_u64 {q : Nat} {w : World} :
    CallsD Tryz.prog 97 #[.pointer (some ⟨q, 0, none⟩)] .returning w fun e u' w' => e = .returned (.tuple #[]) ∧ u' = .returning ∧ w' = w := by
  refine callsD_of_wpS Tryz.func97 rfl fun c₀ cs hu => ?_
  apply wpS_seq
  apply wpS_region
  simp [wpOpsS, go_sem, recoverD, hu, ta_nil, Tryz.ntmps97, Exit.thenS]
  apply wpS_seq
  apply wpS_region
  simp [wpOpsS, go_sem, Exit.thenS]
  refine wpS_cond (t := false) (by simp [Act.eval, Array.replicate]) ?_
  simp only [Bool.false_eq_true, if_false]
  refine wpS_of_wp (wp_skip ?_)
  cases c₀
  simp_all [bodyPostS, results, Tryz.results97]
-- tall
end
end Go.Proofs.YtjobaeopokfekaaGreat
/-
  The reader's face: what its methods share; 'Open'.
-/
namespace Go.Proofs.YtjobaeopokfekaaGreat
open Go.RowKit
/-- A reading's answer, and what is left, and the fault behind it. -/
def res {α : Type} (z : α) (f : Int) (bs : List (BitVec 8)) (R : Ans α) : α × List (BitVec 8) × Int :=
  if f = 0 then (match R with
    | .error c => (z, bs, c)
    | .ok (a, l) => (a, l, 0)) else (z, bs, f)
theorem res_fault {α : Type} (z : α) {f : Int} (bs : List (BitVec 8)) (R : Ans α) (h : f ≠ 0) : res z f bs R = (z, bs, f) := if_neg h
theorem res_no {α : Type} (z : α) (bs : List (BitVec 8)) (c : Int) : res z 0 bs (.error c) = (z, bs, c) := rfl
theorem res_ok {α : Type} (z : α) (bs l : List (BitVec 8)) (a : α) : res z 0 bs (.ok (a, l)) = (a, l, 0) := rfl
/-- What a method of a reader comes to. -/
def Says {α : Type} (w : World) (r : Nat) (p : α → World → Value → Prop) (x : α × List (BitVec 8) × Int) (e : Ending) (w' : World) : Prop :=
  w.grownBy w' (some r) ∧ Rdr w' r x.2.1 x.2.2 ∧ ∃ v, e = .returned v ∧ p x.1 w' v
theorem Tell.mono {α : Type} {B : Nat} {w : World} {g : Nat} {f f' : α → World → Value → Prop} {R : Ans α} {e : Ending} {w' : World} (h : Tell B w g f R e w') (hf : ∀ a W v, f a W v → f' a W v) : Tell B w g f' R e w' := by
  refine ⟨h.1, ?_⟩
  have h2 := h.2
  cases R with
  | error c => exact h2
  | ok al =>
    obtain ⟨a, l⟩ := al
    obtain ⟨v, he, hv, hW⟩ := h2
    exact ⟨v, he, hf _ _ _ hv, hW⟩
theorem Face.says {α : Type} {w0 w : World} {r : Nat} {bs : List (BitVec 8)} {z : Value} {p : α → World → Value → Prop} {R : Ans α} {e : Ending} {w' : World} (h : Face w r bs z p R e w') (z0 : α) (hz : ∀ W, p z0 W z) (hb : Below w0.heap.size w0 w) : Says w0 r p (res z0 0 bs R) e w' := by
  obtain ⟨hg, h2⟩ := h
  have hg' : w0.grownBy w' (some r) := gtrans (grown_below (grefl w0 _) hb) hg
  cases R with
  | error c => exact ⟨hg', h2.2, z, h2.1, hz _⟩
  | ok al =>
    obtain ⟨a, l⟩ := al
    obtain ⟨v, he, hv, hR⟩ := h2
    exact ⟨hg', hR, v, he, hv⟩
theorem says_fault {α : Type} {w0 w w' : World} {r : Nat} {bs : List (BitVec 8)} {f : Int} {z : Value} {p : α → World → Value → Prop} (h : Rdr w r bs f) (hf : f ≠ 0) (z0 : α) (R : Ans α) (hz : p z0 w' z) (hb0 : Below w0.heap.size w0 w) (hb : Below w.heap.size w w') : Says w0 r p (res z0 f bs R) (.returned z) w' := by
  rw [res_fault z0 bs R hf]
  exact ⟨grown_below (grown_below (grefl w0 _) hb0) hb, h.below hb, z, rfl, hz⟩
theorem ow_kept {w w' : World} {base r : Nat} {v : Value} {xs : List (BitVec 8)} (h : Ow w base v xs) (hr : r < base) (hg : w.grownBy w' (some r)) : Ow w' base v xs :=
  World.ownsRow.kept h hg (.inr (fun e => by have := h.lt e; omega))
theorem os_kept {w w' : World} {base r : Nat} {v : Value} {ts : List (List (BitVec 8))} (h : Ot w base v ts) (hr : r < base) (hg : w.grownBy w' (some r)) : Ot w' base v ts :=
  World.ownsRow.kept h hg (.inr (fun e => by have := own_lt h e; omega))
section
attribute [local irreducible] Calls el
set_option maxRecDepth 1000000 in
theorem open_any {w : World} {a : Option Addr} {bs : List (BitVec 8)} (h : Rd w a bs) (n c : Nat) (hn : bs.length = n) (hm : n ≤ 140737488355328) :
    Calls Tryz.prog 68 #[.slice a n c] w fun e w' => ∃ r, e = .returned (.pointer (some ⟨r, 0, none⟩)) ∧ w.heap.size ≤ r ∧ Rdr w' r bs 0 ∧ Below w.heap.size w w' := by
  have al : ∀ (W : World) (o : Obj), Below W.heap.size W (W.alloc o) := fun W o => (Below.refl _ _).alloc (Nat.le_refl _) o
  subst hn
  have A1 := (show Hid _ from anew0 h bs.length c rfl hm)
  go_enter Tryz.func68, Tryz.ntmps68
  go_wp2_with (go_at_call 64; refine A1.out.mono ?_; rintro e w1 ⟨v1, rfl, ho1, hb1⟩; obtain ⟨p1, c1, rfl, hc1, hr1⟩ := ho1.rd)
  go_ret
  refine ⟨w1.heap.size, rfl, hb1.size, ⟨_, heap_alloc_new w1 _, ho1.sq.below (al _ _), fun b hb => ?_⟩, bt hb1 (al _ _)⟩
  exact (ho1.lt hb).2
end
end Go.Proofs.YtjobaeopokfekaaGreat
