/-
  A reading on its way: 'needCounts', 'texts', and what the face hands in.
-/
import Derived.Test.YtpmcdkijlpcmeaaRx
import Derived.Test.YtpmcdkijlpcmeaaOb
namespace Go.Proofs.Ytpmcdkijlpcmeaa
open Go.RowKit
/-- So many texts. -/
def txs (each : Nat) : Nat → List (BitVec 8) → Ans (List (List (BitVec 8)))
  | 0, bs => .ok ([], bs)
  | n + 1, bs => match bk each bs with
    | .error e => .error e
    | .ok (x, l) => match txs each n l with
      | .error e => .error e
      | .ok (xs, l') => .ok ((x :: xs), l')
/-- Texts, at most so many. -/
def tx (most each : Nat) (bs : List (BitVec 8)) : Ans (List (List (BitVec 8))) := match ct most bs with
  | .error e => .error e
  | .ok (n, l) => txs each n l
/-- Behind what is there already. -/
def bh (ds : List (List (BitVec 8))) : Ans (List (List (BitVec 8))) → Ans (List (List (BitVec 8)))
  | .error e => .error e
  | .ok (xs, l) => .ok ((ds ++ xs), l)
theorem bh_nil (R : Ans (List (List (BitVec 8)))) : bh [] R = R := by cases R <;> rfl
theorem bh_no (ds : List (List (BitVec 8))) (each n : Nat) (bs : List (BitVec 8)) (e : Int) (h : bk each bs = .error e) : bh ds (txs each (n + 1) bs) = .error e := by
  unfold txs; rw [h]; rfl
theorem bh_ok (ds : List (List (BitVec 8))) (each n : Nat) (bs x l : List (BitVec 8)) (h : bk each bs = .ok (x, l)) : bh ds (txs each (n + 1) bs) = bh (ds ++ [x]) (txs each n l) := by
  conv => lhs; unfold txs; rw [h]
  show bh ds (match txs each n l with
    | .error e => .error e
    | .ok (xs, l') => .ok ((x :: xs), l')) = _
  cases txs each n l with
  | error e => rfl
  | ok al => obtain ⟨xs, l'⟩ := al; simp [bh]
/-- A list of texts of the call's own. -/
def Ot (w : World) (base : Nat) (v : Value) (ts : List (List (BitVec 8))) : Prop := w.ownsRow base 9 1 v ts.length (ts.map fun t => Value.string (bstr t))
theorem info9 : (Try.prog.info? 9).map (fun i => (i.zero, i.size, i.bytes)) = some (some (.string ⟨#[]⟩), 1, 16) := by kernel_rfl
theorem Ot.nil (w : World) (base : Nat) : Ot w base (.slice none 0 0) [] := World.ownsRow_nil _ _ _ _
/-- append(v, x) of one text. -/
theorem wpList_apt {w : World} {ops : Array Oper} {rest : List Oper} {o : Oper} {a : Act} {Q : Exit → Act → World → Prop} (hgd : o.guard = none) (s x : Operand) (ho : o.op = .call { callee := .builtin .append, args := #[s, x], argTypes := #[128, 128] })
    (base : Nat) (v : Value) (ts : List (List (BitVec 8))) (hs : a.eval s = v) (hown : Ot w base v ts) (ad : Addr) (c : Nat) (t : List (BitVec 8)) (hx : a.eval x = .slice (some ad) 1 c) (hr : w.cell? ad = some (.string (bstr t))) (hm : ts.length + 1 ≤ 1099511627776) (hbase : base ≤ w.heap.size)
    (h : ∀ v' w', Ot w' base v' (ts ++ [t]) → w.grownBy w' v.ownBlock → wpList Try.prog ops Q rest (a.put o.dst v') w') : wpList Try.prog ops Q (o :: rest) a w := by
  obtain ⟨i0, hi, hz0, hz1, hz2⟩ := info_parts info9
  have S : ∀ j u, ([.string (bstr t)] : List Value)[j]? = some u → w.cell? (ad.add j) = some u := by
    intro j u hu
    match j with
    | 0 =>
      simp at hu
      rw [show ad.add 0 = ad by unfold Addr.add; split <;> simp_all, hr, hu]
    | j + 1 => simp at hu
  refine wpList_append_own _ hgd _ _ 128 ho base 9 i0 (.string ⟨#[]⟩) 1 16 Try.underlying128 hi hz0 hz1 hz2 rfl (by decide) v ts.length _ hs hown ad 1 c [.string (bstr t)] hx rfl S (by intro u hu; simp at hu; subst hu; rfl) (by unfold maxLen; omega) (by omega) hbase ?_
  intro v' w' ho' hg _
  refine h v' w' ?_ hg
  unfold Ot
  simpa using ho'
section
attribute [local irreducible] Calls el
end
/-- What is taken leaves less. -/
theorem tk_len {n : Nat} {bs x l : List (BitVec 8)} (h : tk n bs = .ok (x, l)) : l.length ≤ bs.length ∧ x.length = n := by
  unfold tk at h
  by_cases e : bs.length < n
  · rw [if_pos e] at h; cases h
  · rw [if_neg e] at h
    injection h with h; injection h with h1 h2
    subst h1 h2
    rw [List.length_drop, List.length_take]
    omega
theorem uv_len {bs l : List (BitVec 8)} {v : Nat} (h : uv bs = .ok (v, l)) : l.length < bs.length := by
  unfold uv at h
  cases hr : rsk 9 (nt bs) with
  | error e => rw [hr] at h; cases e <;> cases h
  | ok al =>
    obtain ⟨u, n⟩ := al
    rw [hr] at h
    injection h with h; injection h with h1 h2
    subst h1 h2
    obtain ⟨_, q1, q2, _⟩ := sfk_rsk 9 _ u n (Nat.le_refl _) (nt_byte bs) hr
    have hp := sfk_pos 9 u
    have hl := congrArg List.length q1
    rw [List.length_take, nt_len] at hl
    rw [List.length_drop]
    omega
theorem ct_ok {m : Nat} {bs l : List (BitVec 8)} {v : Nat} (h : ct m bs = .ok (v, l)) : uv bs = .ok (v, l) ∧ v ≤ m := by
  unfold ct at h
  cases hu : uv bs with
  | error e => rw [hu] at h; cases h
  | ok al =>
    obtain ⟨u, k⟩ := al
    rw [hu] at h
    have h : (if m < u then (.error 71 : Ans Nat) else .ok (u, k)) = .ok (v, l) := h
    by_cases e : m < u
    · rw [if_pos e] at h; cases h
    · rw [if_neg e] at h
      injection h with h; injection h with h1 h2
      subst h1 h2
      exact ⟨rfl, by omega⟩
theorem bk_len {m : Nat} {bs x l : List (BitVec 8)} (h : bk m bs = .ok (x, l)) : l.length < bs.length := by
  unfold bk at h
  cases hu : ct m bs with
  | error e => rw [hu] at h; cases h
  | ok al =>
    obtain ⟨u, k⟩ := al
    rw [hu] at h
    have h1 := tk_len h
    have h2 := uv_len (ct_ok hu).1
    omega
theorem grown_opt {w w1 w2 : World} {r o : Option Nat} (h : w.grownBy w1 r) (k : w1.grownBy w2 o) (ho : ∀ b, o = some b → w.heap.size ≤ b) : w.grownBy w2 r :=
  ⟨k.os.trans h.os, k.tape.trans h.tape, k.output.trans h.output, Nat.le_trans h.size k.size, fun i hi hne => (k.block i (Nat.lt_of_lt_of_le hi h.size) (fun e => by have := ho i e.symm; omega)).trans (h.block i hi hne)⟩
theorem grownBelow_alloc (w : World) (o : Obj) (r : Option Nat) : w.grownBy (w.alloc o) r := World.grownBy_alloc w o r
section
attribute [local irreducible] Calls el bstr
/-- What stands behind a number of the caller's. -/
def ge0 {α : Type} (n : Int) (R : Ans α) : Ans α := if n < 0 then .error 2 else R
theorem ge0_no {α : Type} {n : Int} (R : Ans α) (h : n < 0) : ge0 n R = .error 2 := if_pos h
theorem ge0_ok {α : Type} {n : Int} (R : Ans α) (h : ¬ n < 0) : ge0 n R = R := if_neg h
theorem tk_xlen {n : Nat} {bs x l : List (BitVec 8)} (h : tk n bs = .ok (x, l)) : x.length ≤ bs.length := by
  unfold tk at h
  by_cases e : bs.length < n
  · rw [if_pos e] at h; cases h
  · rw [if_neg e] at h
    injection h with h; injection h with h1 h2
    subst h1 h2
    rw [List.length_take]
    omega
theorem bk_xlen {m : Nat} {bs x l : List (BitVec 8)} (h : bk m bs = .ok (x, l)) : x.length ≤ bs.length := by
  unfold bk at h
  cases hu : ct m bs with
  | error e => rw [hu] at h; cases h
  | ok al =>
    obtain ⟨u, k⟩ := al
    rw [hu] at h
    have h1 := tk_xlen h
    have h2 := uv_len (ct_ok hu).1
    omega
theorem Ot.mono {w : World} {base base' : Nat} {v : Value} {ts : List (List (BitVec 8))} (h : Ot w base v ts) (hb : base' ≤ base) : Ot w base' v ts := by
  refine ⟨h.1, ?_⟩
  rcases h.2 with h1 | ⟨g, cap, c, hv, hg, hh, hc⟩
  · exact .inl h1
  · exact .inr ⟨g, cap, c, hv, Nat.le_trans hb hg, hh, hc⟩
end
end Go.Proofs.Ytpmcdkijlpcmeaa
