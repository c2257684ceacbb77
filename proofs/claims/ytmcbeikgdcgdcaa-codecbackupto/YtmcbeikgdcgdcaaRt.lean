/-
  Rows of the call's own, of any kind: what is kept.
-/
import Derived.Test.YtmcbeikgdcgdcaaKz
import Derived.Test.YtmcbeikgdcgdcaaRx
namespace Go.Proofs.Ytmcbeikgdcgdcaa
open Go.RowKit
theorem own_below {w w' : World} {base n : Nat} {t : TypeId} {v : Value} {xs : List Value} (h : w.ownsRow base t 1 v n xs) (hb : Below w.heap.size w w') : w'.ownsRow base t 1 v n xs := by
  refine ⟨h.1, ?_⟩
  rcases h.2 with h1 | ⟨g, cap, c, hv, hg, hh, hc⟩
  · exact .inl h1
  · refine .inr ⟨g, cap, c, hv, hg, ?_, hc⟩
    rw [hb.block g (by
      rcases Nat.lt_or_ge g w.heap.size with h1 | h1
      · exact h1
      · rw [Array.getElem?_eq_none h1] at hh; cases hh)]
    exact hh
theorem own_lt {w : World} {base n g : Nat} {t : TypeId} {v : Value} {xs : List Value} (h : w.ownsRow base t 1 v n xs) (hg : v.ownBlock = some g) : base ≤ g ∧ g < w.heap.size ∧ ∃ cs, w.heap[g]? = some (.cells cs t (0, 0)) := by
  rcases h.2 with ⟨hv, _⟩ | ⟨g', cap, c, hv, hb, hh, hc⟩
  · rw [hv] at hg; cases hg
  · rw [hv] at hg
    simp [Value.ownBlock] at hg
    subst hg
    refine ⟨hb, ?_, c, hh⟩
    rcases Nat.lt_or_ge g' w.heap.size with h1 | h1
    · exact h1
    · rw [Array.getElem?_eq_none h1] at hh; cases hh
theorem own_kept {w w' : World} {base n g : Nat} {t : TypeId} {v : Value} {xs : List Value} (h : w.ownsRow base t 1 v n xs) (hne : v.ownBlock ≠ some g) (hg : w.grownBy w' (some g)) : w'.ownsRow base t 1 v n xs :=
  h.kept hg (.inr hne)
end Go.Proofs.Ytmcbeikgdcgdcaa
/-
  A reading on its way: 'needCounts', 'texts', and what the face hands in.
-/
namespace Go.Proofs.Ytmcbeikgdcgdcaa
open Go.RowKit
/-- So many texts. -/
def txs (each : Nat) : Nat → List (BitVec 8) → Ans (List (List (BitVec 8)))
  | 0, bs => .ok ([], bs)
  | n + 1, bs => match bk each bs with
    | .error e => .error e
    | .ok (x, l) => match txs each n l with
      | .error e => .error e
      | .ok (xs, l') => .ok ((x :: xs), l')
/-- Texts, at most so many. -/
def tx (most each : Nat) (bs : List (BitVec 8)) : Ans (List (List (BitVec 8))) := match ct most bs with
  | .error e => .error e
  | .ok (n, l) => txs each n l
/-- Behind what is there already. -/
def bh (ds : List (List (BitVec 8))) : Ans (List (List (BitVec 8))) → Ans (List (List (BitVec 8)))
  | .error e => .error e
  | .ok (xs, l) => .ok ((ds ++ xs), l)
theorem bh_nil (R : Ans (List (List (BitVec 8)))) : bh [] R = R := by cases R <;> rfl
theorem bh_no (ds : List (List (BitVec 8))) (each n : Nat) (bs : List (BitVec 8)) (e : Int) (h : bk each bs = .error e) : bh ds (txs each (n + 1) bs) = .error e := by
  unfold txs; rw [h]; rfl
theorem bh_ok (ds : List (List (BitVec 8))) (each n : Nat) (bs x l : List (BitVec 8)) (h : bk each bs = .ok (x, l)) : bh ds (txs each (n + 1) bs) = bh (ds ++ [x]) (txs each n l) := by
  conv => lhs; unfold txs; rw [h]
  show bh ds (match txs each n l with
    | .error e => .error e
    | .ok (xs, l') => .ok ((x :: xs), l')) = _
  cases txs each n l with
  | error e => rfl
  | ok al => obtain ⟨xs, l'⟩ := al; simp [bh]
/-- A list of texts of the call's own. -/
def Ot (w : World) (base : Nat) (v : Value) (ts : List (List (BitVec 8))) : Prop := w.ownsRow base 9 1 v ts.length (ts.map fun t => Value.string (bstr t))
theorem info9 : (Try.prog.info? 9).map (fun i => (i.zero, i.size, i.bytes)) = some (some (.string ⟨#[]⟩), 1, 16) := by kernel_rfl
theorem Ot.nil (w : World) (base : Nat) : Ot w base (.slice none 0 0) [] := World.ownsRow_nil _ _ _ _
/-- append(v, x) of one text. -/
theorem wpList_apt {w : World} {ops : Array Oper} {rest : List Oper} {o : Oper} {a : Act} {Q : Exit → Act → World → Prop} (hgd : o.guard = none) (s x : Operand) (ho : o.op = .call { callee := .builtin .append, args := #[s, x], argTypes := #[24, 24] })
    (base : Nat) (v : Value) (ts : List (List (BitVec 8))) (hs : a.eval s = v) (hown : Ot w base v ts) (ad : Addr) (c : Nat) (t : List (BitVec 8)) (hx : a.eval x = .slice (some ad) 1 c) (hr : w.cell? ad = some (.string (bstr t))) (hm : ts.length + 1 ≤ 1099511627776) (hbase : base ≤ w.heap.size)
    (h : ∀ v' w', Ot w' base v' (ts ++ [t]) → w.grownBy w' v.ownBlock → wpList Try.prog ops Q rest (a.put o.dst v') w') : wpList Try.prog ops Q (o :: rest) a w := by
  obtain ⟨i0, hi, hz0, hz1, hz2⟩ := info_parts info9
  have S : ∀ j u, ([.string (bstr t)] : List Value)[j]? = some u → w.cell? (ad.add j) = some u := by
    intro j u hu
    match j with
    | 0 =>
      simp at hu
      rw [show ad.add 0 = ad by unfold Addr.add; split <;> simp_all, hr, hu]
    | j + 1 => simp at hu
  refine wpList_append_own _ hgd _ _ 24 ho base 9 i0 (.string ⟨#[]⟩) 1 16 Try.underlying24 hi hz0 hz1 hz2 rfl (by decide) v ts.length _ hs hown ad 1 c [.string (bstr t)] hx rfl S (by intro u hu; simp at hu; subst hu; rfl) (by unfold maxLen; omega) (by omega) hbase ?_
  intro v' w' ho' hg _
  refine h v' w' ?_ hg
  unfold Ot
  simpa using ho'
section
attribute [local irreducible] Calls el
set_option maxRecDepth 1000000 in
theorem need1 {w : World} {b o c : Nat} (n : Int) (h : w.cell? ⟨b, o, none⟩ = some (.int .i64 n)) :
    Calls Try.prog 104 #[.slice (some ⟨b, o, none⟩) 1 c] w fun e w' => w' = w ∧ e = if n < 0 then pan 2 else .returned (.tuple #[]) := by
  have h0 : w.cell? ⟨b, o + 0, none⟩ = some (.int .i64 n) := h
  by_cases hn : n < 0
  · rw [if_pos hn]
    go_enter Try.func104, Try.ntmps104
    go_wp2
    refine wp_loop_rounds 1 ?_
    rw [rounds_succ]
    go_wp2
    exact ⟨rfl, rfl, rfl⟩
  · rw [if_neg hn]
    go_enter Try.func104, Try.ntmps104
    go_wp2
    refine wp_loop_rounds 2 ?_
    rw [rounds_succ]
    go_wp2
    rw [rounds_succ]
    go_wp2
    go_end0
    exact ⟨rfl, rfl⟩
set_option maxRecDepth 1000000 in
theorem need2 {w : World} {b o c : Nat} (n m : Int) (h : w.cell? ⟨b, o, none⟩ = some (.int .i64 n)) (k : w.cell? ⟨b, o + 1, none⟩ = some (.int .i64 m)) :
    Calls Try.prog 104 #[.slice (some ⟨b, o, none⟩) 2 c] w fun e w' => w' = w ∧ e = if n < 0 ∨ m < 0 then pan 2 else .returned (.tuple #[]) := by
  by_cases hn : n < 0
  · rw [if_pos (.inl hn)]
    go_enter Try.func104, Try.ntmps104
    go_wp2
    refine wp_loop_rounds 1 ?_
    rw [rounds_succ]
    go_wp2
    exact ⟨rfl, rfl, rfl⟩
  · by_cases hm : m < 0
    · rw [if_pos (.inr hm)]
      go_enter Try.func104, Try.ntmps104
      go_wp2
      refine wp_loop_rounds 2 ?_
      rw [rounds_succ]
      go_wp2
      rw [rounds_succ]
      go_wp2
      exact ⟨rfl, rfl, rfl⟩
    · rw [if_neg (by omega)]
      go_enter Try.func104, Try.ntmps104
      go_wp2
      refine wp_loop_rounds 3 ?_
      rw [rounds_succ]
      go_wp2
      rw [rounds_succ]
      go_wp2
      rw [rounds_succ]
      go_wp2
      go_end0
      exact ⟨rfl, rfl⟩
end
/-- What is taken leaves less. -/
theorem tk_len {n : Nat} {bs x l : List (BitVec 8)} (h : tk n bs = .ok (x, l)) : l.length ≤ bs.length ∧ x.length = n := by
  unfold tk at h
  by_cases e : bs.length < n
  · rw [if_pos e] at h; cases h
  · rw [if_neg e] at h
    injection h with h; injection h with h1 h2
    subst h1 h2
    rw [List.length_drop, List.length_take]
    omega
theorem uv_len {bs l : List (BitVec 8)} {v : Nat} (h : uv bs = .ok (v, l)) : l.length < bs.length := by
  unfold uv at h
  cases hr : rsk 9 (nt bs) with
  | error e => rw [hr] at h; cases e <;> cases h
  | ok al =>
    obtain ⟨u, n⟩ := al
    rw [hr] at h
    injection h with h; injection h with h1 h2
    subst h1 h2
    obtain ⟨_, q1, q2, _⟩ := sfk_rsk 9 _ u n (Nat.le_refl _) (nt_byte bs) hr
    have hp := sfk_pos 9 u
    have hl := congrArg List.length q1
    rw [List.length_take, nt_len] at hl
    rw [List.length_drop]
    omega
theorem ct_ok {m : Nat} {bs l : List (BitVec 8)} {v : Nat} (h : ct m bs = .ok (v, l)) : uv bs = .ok (v, l) ∧ v ≤ m := by
  unfold ct at h
  cases hu : uv bs with
  | error e => rw [hu] at h; cases h
  | ok al =>
    obtain ⟨u, k⟩ := al
    rw [hu] at h
    have h : (if m < u then (.error 71 : Ans Nat) else .ok (u, k)) = .ok (v, l) := h
    by_cases e : m < u
    · rw [if_pos e] at h; cases h
    · rw [if_neg e] at h
      injection h with h; injection h with h1 h2
      subst h1 h2
      exact ⟨rfl, by omega⟩
theorem bk_len {m : Nat} {bs x l : List (BitVec 8)} (h : bk m bs = .ok (x, l)) : l.length < bs.length := by
  unfold bk at h
  cases hu : ct m bs with
  | error e => rw [hu] at h; cases h
  | ok al =>
    obtain ⟨u, k⟩ := al
    rw [hu] at h
    have h1 := tk_len h
    have h2 := uv_len (ct_ok hu).1
    omega
theorem grown_opt {w w1 w2 : World} {r o : Option Nat} (h : w.grownBy w1 r) (k : w1.grownBy w2 o) (ho : ∀ b, o = some b → w.heap.size ≤ b) : w.grownBy w2 r :=
  ⟨k.os.trans h.os, k.tape.trans h.tape, k.output.trans h.output, Nat.le_trans h.size k.size, fun i hi hne => (k.block i (Nat.lt_of_lt_of_le hi h.size) (fun e => by have := ho i e.symm; omega)).trans (h.block i hi hne)⟩
theorem grownBelow_alloc (w : World) (o : Obj) (r : Option Nat) : w.grownBy (w.alloc o) r := World.grownBy_alloc w o r
section
attribute [local irreducible] Calls el bstr
set_option maxHeartbeats 4000000 in
set_option maxRecDepth 1000000 in
theorem texts_any {B : Nat} {w : World} {g : Nat} {bs : List (BitVec 8)} (h : Wk B w g bs) (m k : Nat) (hm : m ≤ 9223372036854775807) (hk : k ≤ 9223372036854775807) (hl : bs.length ≤ 1099511627000) :
    Calls Try.prog 110 #[.pointer (some ⟨g, 0, none⟩), .int .i64 (m : Int), .int .i64 (k : Int)] w fun e w' => Tell B w g (fun ts W v => Ot W w.heap.size v ts) (tx m k bs) e w' := by
  have S := (show Hid _ from count_any h m hm)
  have hgl := h.lt
  have hBg : B ≤ g := h.choose_spec.2.2.1
  have al : ∀ (W : World) (o : Obj), Below W.heap.size W (W.alloc o) := fun W o => (Below.refl _ _).alloc (Nat.le_refl _) o
  cases hu : ct m bs with
  | error c =>
    rw [hu] at S
    have R : Hid (tx m k bs = .error c) := (show tx m k bs = .error c by unfold tx; rw [hu])
    go_enter Try.func110, Try.ntmps110
    go_wp2_with (go_at_call 118; refine S.out.mono ?_; rintro e w1 ⟨hG, rfl⟩)
    exact ⟨rfl, hG, by rw [R.out]⟩
  | ok al =>
    obtain ⟨n, l⟩ := al
    rw [hu] at S
    have hll := uv_len (ct_ok hu).1
    have hnm := (ct_ok hu).2
    have R : Hid (tx m k bs = txs k n l) := (show tx m k bs = txs k n l by unfold tx; rw [hu])
    clear h hu
    go_enter Try.func110, Try.ntmps110
    go_wp2_with (go_at_call 118; refine S.out.mono ?_; rintro e w1 ⟨hG, v1, rfl, ⟨rfl, hvm⟩, hW⟩)
    go_loopw [7, 11] (fun o i wr => ∃ (j : Nat) (ds : List (List (BitVec 8))) (rest : List (BitVec 8)), j ≤ n ∧ ds.length = j ∧ i = .int .i64 (j : Int) ∧ j + rest.length ≤ l.length ∧ Ot wr w.heap.size o ds ∧ bh ds (txs k (n - j) rest) = txs k n l ∧ Wk B wr g rest ∧ w.grownBy wr (some g)) (fun _ i _ => n - (intOf i).toNat)
    case atStart => exact ⟨0, [], l, Nat.zero_le _, rfl, rfl, by omega, Ot.nil _ _, bh_nil _, hW, hG⟩
    case round =>
      obtain ⟨j, ds, rest, hj, hdl, rfl, hjl, hO, hR, hWr, hGr⟩ := hrel
      by_cases hlt : j < n
      · have hi : (j : Int) < (n : Int) := by omega
        have Bk := (show Hid _ from block_any hWr k hk)
        cases hb : bk k rest with
        | error c =>
          rw [hb] at Bk
          have R2 : Hid (tx m k bs = .error c) := (show tx m k bs = .error c by rw [R.out, ← hR, show n - j = (n - (j + 1)) + 1 by omega, bh_no _ _ _ _ _ hb])
          go_wp2_with (go_at_call 107; refine Bk.out.mono ?_; rintro e w2 ⟨hG2, rfl⟩)
          exact ⟨rfl, gtrans hGr hG2, by rw [R2.out]⟩
        | ok al =>
          obtain ⟨x, l2⟩ := al
          rw [hb] at Bk
          have hl2 := bk_len hb
          go_wp2_with (first | (go_at_call 107; refine Bk.out.mono ?_; rintro e w2 ⟨hG2, v2, rfl, hs2, hW2⟩; obtain ⟨p2, c2, rfl, _, hr2⟩ := hs2.rd; have cv := conv_rd hr2 _ c2 rfl; have hO2 : Ot w2 w.heap.size u7 ds := own_kept hO (fun e => by have := own_lt hO e; omega) hG2; have hs3 := hG2.size; have hs4 := hGr.size) | (at_builtin; refine wpList_apt rfl (.tmp 13) (.tmp 18) rfl w.heap.size u7 ds rfl (own_below hO2 (al _ _)) ⟨w2.heap.size, 0, none⟩ 1 x rfl (cell_of_row _ w2.heap.size 0 _ _ (0, 0) (heap_alloc_new w2 _)) (by omega) (Nat.le_trans (Nat.le_trans hs4 hs3) (al _ _).size) ?_; intro v3 w3 ho3 hg3))
          go_roundw
          case rel =>
            have yg : ∀ kk, u7.ownBlock = some kk → w.heap.size ≤ kk := fun kk e => (own_lt hO e).1
            refine ⟨j + 1, ds ++ [x], l2, by omega, by simp; omega, by go_num, by omega, ho3, ?_, (hW2.below (al _ _)).young hg3 (fun kk e => by have := yg kk e; omega), grown_opt (grown_below (gtrans hGr hG2) (al _ _)) hg3 yg⟩
            rw [show n - j = (n - (j + 1)) + 1 by omega, bh_ok _ _ _ _ _ _ hb] at hR
            exact hR
          case measure => simp [intOf]; omega
      · obtain rfl : j = n := by omega
        have R2 : Hid (tx m k bs = .ok (ds, rest)) := (show tx m k bs = .ok (ds, rest) by rw [R.out, ← hR, Nat.sub_self]; simp [txs, bh])
        go_wp2
        go_ret
        exact ⟨hGr, by rw [R2.out]; exact ⟨_, rfl, hO, hWr⟩⟩
/-- What stands behind a number of the caller's. -/
def ge0 {α : Type} (n : Int) (R : Ans α) : Ans α := if n < 0 then .error 2 else R
theorem ge0_no {α : Type} {n : Int} (R : Ans α) (h : n < 0) : ge0 n R = .error 2 := if_pos h
theorem ge0_ok {α : Type} {n : Int} (R : Ans α) (h : ¬ n < 0) : ge0 n R = R := if_neg h
set_option maxHeartbeats 1000000 in
set_option maxRecDepth 1000000 in
theorem bytes1_any {B : Nat} {w : World} {g q : Nat} {bs : List (BitVec 8)} (h : Wk B w g bs) (n : Int) (hq : w.cell? ⟨q, 0, none⟩ = some (.int .i64 n)) (hl : bs.length ≤ 140737488355000) :
    Calls Try.prog 103 #[.pointer (some ⟨g, 0, none⟩), .pointer (some ⟨q, 0, none⟩)] w fun e w' => Tell B w g (fun xs W v => Ow W w.heap.size v xs) (ge0 n (tk n.toNat bs)) e w' := by
  have al : ∀ (W : World) (o : Obj), Below W.heap.size W (W.alloc o) := fun W o => (Below.refl _ _).alloc (Nat.le_refl _) o
  have N1 := (show Hid _ from need1 (w := w.alloc (.cells #[.int .i64 n] 3)) (b := w.heap.size) (o := 0) (c := 1) n (cell_of_row _ w.heap.size 0 _ _ (0, 0) (heap_alloc_new w _)))
  have hq1 := cell_below hq (al w (.cells #[.int .i64 n] 3))
  have hga := grownBelow_alloc w (.cells #[.int .i64 n] 3)
  by_cases hneg : n < 0
  · rw [if_pos hneg] at N1
    have R : Hid (ge0 n (tk n.toNat bs) = .error 2) := (ge0_no _ hneg)
    go_enter Try.func103, Try.ntmps103
    go_wp2_with (go_at_call 104; refine N1.out.mono ?_; rintro e w1 ⟨hw, rfl⟩; obtain rfl := hw.symm)
    exact ⟨rfl, hga _, by rw [R.out]⟩
  · rw [if_neg hneg] at N1
    obtain ⟨m, rfl⟩ := Int.eq_ofNat_of_zero_le (show 0 ≤ n by omega)
    have R : Hid (ge0 (m : Int) (tk (m : Int).toNat bs) = tk m bs) := (show ge0 (m : Int) (tk (m : Int).toNat bs) = tk m bs by rw [ge0_ok _ hneg, Int.toNat_natCast])
    have T := (show Hid _ from tk_next (h.below (al w (.cells #[.int .i64 (m : Int)] 3))) m)
    cases ht : tk m bs with
    | error c =>
      rw [ht] at T
      go_enter Try.func103, Try.ntmps103
      go_wp2_with (first | (go_at_call 104; refine N1.out.mono ?_; rintro e w1 ⟨hw, rfl⟩; obtain rfl := hw.symm) | (go_at_call 105; refine T.out.mono ?_; rintro e w1 ⟨hG, rfl⟩))
      exact ⟨rfl, gtrans (hga _) hG, by rw [R.out, ht]⟩
    | ok al =>
      obtain ⟨xs, l⟩ := al
      rw [ht] at T
      have hxl := (tk_len ht).2
      have hxb : xs.length ≤ bs.length := by
        unfold tk at ht
        by_cases e : bs.length < m
        · rw [if_pos e] at ht; cases ht
        · omega
      go_enter Try.func103, Try.ntmps103
      go_wp2_with (first | (go_at_call 104; refine N1.out.mono ?_; rintro e w1 ⟨hw, rfl⟩; obtain rfl := hw.symm) | (go_at_call 105; refine T.out.mono ?_; rintro e w1 ⟨hG, v1, rfl, hs1, hW1⟩; obtain ⟨p1, c1, rfl, _, hr1⟩ := hs1.rd) | (go_at_call 59; refine (anew0 hr1 m c1 hxl (by omega)).mono ?_; rintro e w2 ⟨v2, rfl, ho2, hb2⟩))
      go_ret
      have hsz := Nat.le_trans (al w (.cells #[.int .i64 (m : Int)] 3)).size hG.size
      exact ⟨grown_below (gtrans (hga _) hG) hb2, by rw [R.out, ht]; exact ⟨_, rfl, ho2.mono hsz, hW1.below hb2⟩⟩
theorem tk_xlen {n : Nat} {bs x l : List (BitVec 8)} (h : tk n bs = .ok (x, l)) : x.length ≤ bs.length := by
  unfold tk at h
  by_cases e : bs.length < n
  · rw [if_pos e] at h; cases h
  · rw [if_neg e] at h
    injection h with h; injection h with h1 h2
    subst h1 h2
    rw [List.length_take]
    omega
theorem bk_xlen {m : Nat} {bs x l : List (BitVec 8)} (h : bk m bs = .ok (x, l)) : x.length ≤ bs.length := by
  unfold bk at h
  cases hu : ct m bs with
  | error e => rw [hu] at h; cases h
  | ok al =>
    obtain ⟨u, k⟩ := al
    rw [hu] at h
    have h1 := tk_xlen h
    have h2 := uv_len (ct_ok hu).1
    omega
set_option maxHeartbeats 1000000 in
set_option maxRecDepth 1000000 in
theorem block1_any {B : Nat} {w : World} {g q : Nat} {bs : List (BitVec 8)} (h : Wk B w g bs) (n : Int) (hn : n ≤ 9223372036854775807) (hq : w.cell? ⟨q, 0, none⟩ = some (.int .i64 n)) (hl : bs.length ≤ 140737488355000) :
    Calls Try.prog 106 #[.pointer (some ⟨g, 0, none⟩), .pointer (some ⟨q, 0, none⟩)] w fun e w' => Tell B w g (fun xs W v => Ow W w.heap.size v xs) (ge0 n (bk n.toNat bs)) e w' := by
  have al : ∀ (W : World) (o : Obj), Below W.heap.size W (W.alloc o) := fun W o => (Below.refl _ _).alloc (Nat.le_refl _) o
  have N1 := (show Hid _ from need1 (w := w.alloc (.cells #[.int .i64 n] 3)) (b := w.heap.size) (o := 0) (c := 1) n (cell_of_row _ w.heap.size 0 _ _ (0, 0) (heap_alloc_new w _)))
  have hq1 := cell_below hq (al w (.cells #[.int .i64 n] 3))
  have hga := grownBelow_alloc w (.cells #[.int .i64 n] 3)
  by_cases hneg : n < 0
  · rw [if_pos hneg] at N1
    have R : Hid (ge0 n (bk n.toNat bs) = .error 2) := (ge0_no _ hneg)
    go_enter Try.func106, Try.ntmps106
    go_wp2_with (go_at_call 104; refine N1.out.mono ?_; rintro e w1 ⟨hw, rfl⟩; obtain rfl := hw.symm)
    exact ⟨rfl, hga _, by rw [R.out]⟩
  · rw [if_neg hneg] at N1
    obtain ⟨m, rfl⟩ := Int.eq_ofNat_of_zero_le (show 0 ≤ n by omega)
    have R : Hid (ge0 (m : Int) (bk (m : Int).toNat bs) = bk m bs) := (show ge0 (m : Int) (bk (m : Int).toNat bs) = bk m bs by rw [ge0_ok _ hneg, Int.toNat_natCast])
    have T := (show Hid _ from block_any (h.below (al w (.cells #[.int .i64 (m : Int)] 3))) m (by omega))
    cases ht : bk m bs with
    | error c =>
      rw [ht] at T
      go_enter Try.func106, Try.ntmps106
      go_wp2_with (first | (go_at_call 104; refine N1.out.mono ?_; rintro e w1 ⟨hw, rfl⟩; obtain rfl := hw.symm) | (go_at_call 107; refine T.out.mono ?_; rintro e w1 ⟨hG, rfl⟩))
      exact ⟨rfl, gtrans (hga _) hG, by rw [R.out, ht]⟩
    | ok al =>
      obtain ⟨xs, l⟩ := al
      rw [ht] at T
      have hxb := bk_xlen ht
      go_enter Try.func106, Try.ntmps106
      go_wp2_with (first | (go_at_call 104; refine N1.out.mono ?_; rintro e w1 ⟨hw, rfl⟩; obtain rfl := hw.symm) | (go_at_call 107; refine T.out.mono ?_; rintro e w1 ⟨hG, v1, rfl, hs1, hW1⟩; obtain ⟨p1, c1, rfl, _, hr1⟩ := hs1.rd) | (go_at_call 59; refine (anew0 hr1 xs.length c1 rfl (by omega)).mono ?_; rintro e w2 ⟨v2, rfl, ho2, hb2⟩))
      go_ret
      have hsz := Nat.le_trans (al w (.cells #[.int .i64 (m : Int)] 3)).size hG.size
      exact ⟨grown_below (gtrans (hga _) hG) hb2, by rw [R.out, ht]; exact ⟨_, rfl, ho2.mono hsz, hW1.below hb2⟩⟩
theorem Ot.mono {w : World} {base base' : Nat} {v : Value} {ts : List (List (BitVec 8))} (h : Ot w base v ts) (hb : base' ≤ base) : Ot w base' v ts := by
  refine ⟨h.1, ?_⟩
  rcases h.2 with h1 | ⟨g, cap, c, hv, hg, hh, hc⟩
  · exact .inl h1
  · exact .inr ⟨g, cap, c, hv, Nat.le_trans hb hg, hh, hc⟩
set_option maxHeartbeats 1000000 in
set_option maxRecDepth 1000000 in
theorem texts1_any {B : Nat} {w : World} {g q q2 : Nat} {bs : List (BitVec 8)} (h : Wk B w g bs) (n k : Int) (hn : n ≤ 9223372036854775807) (hk : k ≤ 9223372036854775807) (hq : w.cell? ⟨q, 0, none⟩ = some (.int .i64 n)) (hq2 : w.cell? ⟨q2, 0, none⟩ = some (.int .i64 k)) (hl : bs.length ≤ 1099511627000) :
    Calls Try.prog 109 #[.pointer (some ⟨g, 0, none⟩), .pointer (some ⟨q, 0, none⟩), .pointer (some ⟨q2, 0, none⟩)] w fun e w' => Tell B w g (fun ts W v => Ot W w.heap.size v ts) (ge0 n (ge0 k (tx n.toNat k.toNat bs))) e w' := by
  have al : ∀ (W : World) (o : Obj), Below W.heap.size W (W.alloc o) := fun W o => (Below.refl _ _).alloc (Nat.le_refl _) o
  have N1 := (show Hid _ from need2 (w := w.alloc (.cells #[.int .i64 n, .int .i64 k] 3)) (b := w.heap.size) (o := 0) (c := 2) n k (cell_of_row _ w.heap.size 0 _ _ (0, 0) (heap_alloc_new w _)) (cell_of_row _ w.heap.size 1 _ _ (0, 0) (heap_alloc_new w _)))
  have hq1 := cell_below hq (al w (.cells #[.int .i64 n, .int .i64 k] 3))
  have hq3 := cell_below hq2 (al w (.cells #[.int .i64 n, .int .i64 k] 3))
  have hga := grownBelow_alloc w (.cells #[.int .i64 n, .int .i64 k] 3)
  by_cases hneg : n < 0 ∨ k < 0
  · rw [if_pos hneg] at N1
    have R : Hid (ge0 n (ge0 k (tx n.toNat k.toNat bs)) = .error 2) := by
      by_cases e : n < 0
      · exact ge0_no _ e
      · exact (ge0_ok _ e).trans (ge0_no _ (by omega))
    go_enter Try.func109, Try.ntmps109
    go_wp2_with (go_at_call 104; refine N1.out.mono ?_; rintro e w1 ⟨hw, rfl⟩; obtain rfl := hw.symm)
    exact ⟨rfl, hga _, by rw [R.out]⟩
  · rw [if_neg hneg] at N1
    obtain ⟨m, rfl⟩ := Int.eq_ofNat_of_zero_le (show 0 ≤ n by omega)
    obtain ⟨j, rfl⟩ := Int.eq_ofNat_of_zero_le (show 0 ≤ k by omega)
    have R : Hid (ge0 (m : Int) (ge0 (j : Int) (tx (m : Int).toNat (j : Int).toNat bs)) = tx m j bs) := (show ge0 (m : Int) (ge0 (j : Int) (tx (m : Int).toNat (j : Int).toNat bs)) = tx m j bs by rw [ge0_ok _ (by omega), ge0_ok _ (by omega), Int.toNat_natCast, Int.toNat_natCast])
    have T := (show Hid _ from texts_any (h.below (al w (.cells #[.int .i64 (m : Int), .int .i64 (j : Int)] 3))) m j (by omega) (by omega) hl)
    cases ht : tx m j bs with
    | error c =>
      rw [ht] at T
      go_enter Try.func109, Try.ntmps109
      go_wp2_with (first | (go_at_call 104; refine N1.out.mono ?_; rintro e w1 ⟨hw, rfl⟩; obtain rfl := hw.symm) | (go_at_call 110; refine T.out.mono ?_; rintro e w1 ⟨hG, rfl⟩))
      exact ⟨rfl, gtrans (hga _) hG, by rw [R.out, ht]⟩
    | ok al =>
      obtain ⟨xs, l⟩ := al
      rw [ht] at T
      go_enter Try.func109, Try.ntmps109
      go_wp2_with (first | (go_at_call 104; refine N1.out.mono ?_; rintro e w1 ⟨hw, rfl⟩; obtain rfl := hw.symm) | (go_at_call 110; refine T.out.mono ?_; rintro e w1 ⟨hG, v1, rfl, ho1, hW1⟩))
      go_ret
      have hsz := (al w (.cells #[.int .i64 (m : Int), .int .i64 (j : Int)] 3)).size
      exact ⟨gtrans (hga _) hG, by rw [R.out, ht]; exact ⟨_, rfl, ho1.mono hsz, hW1⟩⟩
end
end Go.Proofs.Ytmcbeikgdcgdcaa
