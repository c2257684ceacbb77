/-
  Turned bits and patterns: what they make of a label's bytes.
-/
import Derived.Test.YtlhacjenpginbabMe15
namespace Go.Proofs.Ytlhacjenpginbab
open Go.RowKit
theorem xl_len : ∀ (l m : List (BitVec 8)), l.length = m.length → (xl l m).length = l.length
  | [], [], _ => rfl
  | x :: l, y :: m, h => by unfold xl; simp at h ⊢; exact xl_len l m h
/-- The block g holds these bytes, and may be written. -/
def Wr (w : World) (g : Nat) (xs : List (BitVec 8)) : Prop := ∃ cur : Array Value, w.heap[g]? = some (.cells cur 5 (0, 0)) ∧ xs.length ≤ cur.size ∧ ∀ i, i < xs.length → cur[i]? = some (.int .u8 (el (fn xs i)))
theorem Wr.cell {w : World} {g : Nat} {xs : List (BitVec 8)} (h : Wr w g xs) {i : Nat} (hi : i < xs.length) : w.cell? ⟨g, i, none⟩ = some (.int .u8 (el (fn xs i))) := by
  obtain ⟨cur, hh, hs, hc⟩ := h
  rw [cell_of_row w g i _ _ _ hh]; exact hc i hi
theorem Wr.frozen {w : World} {g : Nat} {xs : List (BitVec 8)} (h : Wr w g xs) (i : Nat) : w.frozen? ⟨g, i, none⟩ = false := by
  obtain ⟨cur, hh, hs, hc⟩ := h
  exact frozen_of_row w g i _ _ hh
theorem Wr.rd {w : World} {g : Nat} {xs : List (BitVec 8)} (h : Wr w g xs) : Rd w (some ⟨g, 0, none⟩) xs :=
  .inr ⟨g, 0, rfl, fun i hi => by rw [Nat.zero_add]; exact h.cell hi⟩
theorem Wr.set {w W : World} {g : Nat} {xs : List (BitVec 8)} (h : Wr w g xs) {k : Nat} {b : BitVec 8} (hk : k < xs.length) (e : W.heap = (w.setCell ⟨g, k, none⟩ (.int .u8 (el b))).heap) : Wr W g (xs.set k b) := by
  obtain ⟨cur, hh, hs, hc⟩ := h
  refine ⟨cur.setIfInBounds k (.int .u8 (el b)), by rw [e, heap_setCell_same w g k _ _ _ hh], by simpa using hs, fun i hi => ?_⟩
  have hi' : i < xs.length := by simpa using hi
  rw [Array.getElem?_setIfInBounds]
  by_cases e2 : k = i
  · subst e2; rw [if_pos rfl, if_pos (by omega)]; simp [fn, hi']
  · rw [if_neg e2, hc i hi']
    unfold fn; simp [List.getElem?_set_ne e2]
theorem Wr.lt {w : World} {g : Nat} {xs : List (BitVec 8)} (h : Wr w g xs) : g < w.heap.size := by
  obtain ⟨cur, hh, hs, hc⟩ := h
  rcases Nat.lt_or_ge g w.heap.size with h1 | h1
  · exact h1
  · rw [Array.getElem?_eq_none h1] at hh; cases hh
theorem Wr.below {w w' : World} {g : Nat} {xs : List (BitVec 8)} (h : Wr w g xs) (hb : Below w.heap.size w w') : Wr w' g xs := by
  have hl := h.lt
  obtain ⟨cur, hh, hs, hc⟩ := h
  exact ⟨cur, by rw [hb.block g hl]; exact hh, hs, hc⟩
theorem Ow.wr {w : World} {base : Nat} {v : Value} {xs : List (BitVec 8)} (h : Ow w base v xs) (h0 : 0 < xs.length) : ∃ g cap, v = .slice (some ⟨g, 0, none⟩) xs.length cap ∧ base ≤ g ∧ Wr w g xs := by
  rcases h.2 with ⟨hv, h1⟩ | ⟨g, cap, c, hv, hg, hh, hc, hm, hs, ht⟩
  · omega
  · refine ⟨g, cap, hv, hg, c, hh, by omega, fun i hi => ?_⟩
    rw [Nat.mul_one] at ht
    have h1 : (c.toList.take xs.length)[i]? = some (.int .u8 (el (fn xs i))) := by rw [ht, vs_at _ _ i hi]
    rw [List.getElem?_take_of_lt hi] at h1
    simpa using h1
/-- The text with the bit k turned. -/
def tb (xs : List (BitVec 8)) (k : Nat) : List (BitVec 8) := xs.set (k / 8) (fn xs (k / 8) ^^^ 1#8 <<< (k % 8))
theorem tb_len (xs : List (BitVec 8)) (k : Nat) : (tb xs k).length = xs.length := by simp [tb]
theorem ov_tb (xs : List (BitVec 8)) (k : Nat) (hk : k < 8 * xs.length) (r : BitVec 32) : ov r (tb xs k) = ov r xs ^^^ e1 (8 * xs.length - k) := by
  unfold tb fn
  rw [ov_turn xs r (k / 8) (k % 8) (by omega) (by omega)]
  congr 2; omega
theorem el_bitx (x : BitVec 8) (c : Nat) : bits .xor .u8 (el x) ((2 : Int) ^ c % 256) = el (x ^^^ 1#8 <<< c) := by
  have h : (2 : Int) ^ c % 256 = el (1#8 <<< c) := by
    unfold el; rw [BitVec.toNat_shiftLeft, Nat.shiftLeft_eq, Int.natCast_emod]; simp
  rw [h, el_xor]
/-! ### What some turned bits make -/
def se (d : Nat) : List Nat → BitVec 32
  | [] => 0#32
  | k :: K => e1 (d - k) ^^^ se d K
theorem se_snoc (d : Nat) (K : List Nat) (k : Nat) : se d (K ++ [k]) = se d K ^^^ e1 (d - k) := by
  induction K with
  | nil => show e1 (d - k) ^^^ 0#32 = 0#32 ^^^ e1 (d - k); rw [BitVec.xor_zero, BitVec.zero_xor]
  | cons a K ih => show e1 (d - a) ^^^ se d (K ++ [k]) = e1 (d - a) ^^^ se d K ^^^ e1 (d - k); rw [ih, BitVec.xor_assoc]
theorem par_se (d : Nat) (K : List Nat) : par (se d K) = if K.length % 2 = 1 then 1#32 else 0#32 := by
  induction K with
  | nil => show par 0#32 = _; rw [Lin.par.zero]; rfl
  | cons a K ih =>
    show par (e1 (d - a) ^^^ se d K) = _
    rw [Lin.par, par_e1, ih, List.length_cons]
    by_cases h : K.length % 2 = 1
    · rw [if_pos h, if_neg (by omega)]; decide
    · rw [if_neg h, if_pos (by omega)]; decide
theorem se_odd (d : Nat) (K : List Nat) (h : K.length % 2 = 1) : se d K ≠ 0#32 := by
  intro e
  have := par_se d K
  rw [if_pos h, e, Lin.par.zero] at this
  exact absurd this (by decide)
theorem se_two (d a b : Nat) (h : a ≠ b) (ha : a < d) (hb : b < d) (hd : d < 2147483647) : se d [a, b] ≠ 0#32 := by
  intro e
  have e2 : e1 (d - a) = e1 (d - b) := xx_eq (by
    have : e1 (d - a) ^^^ (e1 (d - b) ^^^ 0#32) = 0#32 := e
    rwa [BitVec.xor_zero] at this)
  by_cases h1 : a < b
  · exact e1_apart (d - b) (d - a) (by omega) (by omega) e2.symm
  · exact e1_apart (d - a) (d - b) (by omega) (by omega) e2
/-- The theorem of the stage: one, two, three unlike bits, or an odd number of them, are seen. -/
theorem se_ne (d : Nat) (K : List Nat) (hn : K.Nodup) (hk : ∀ k ∈ K, k < d) (hd : d < 2147483647) (h : (0 < K.length ∧ K.length ≤ 3) ∨ K.length % 2 = 1) : se d K ≠ 0#32 := by
  by_cases ho : K.length % 2 = 1
  · exact se_odd d K ho
  · have h2 : K.length = 2 := by omega
    match K, h2 with
    | [a, b], _ =>
      have hab : a ≠ b := by
        intro e; subst e; simp at hn
      exact se_two d a b hab (hk a (by simp)) (hk b (by simp)) hd
/-- The text L is xs with these bits turned. -/
structure Tk (xs L : List (BitVec 8)) (K : List Nat) : Prop where
  len : L.length = xs.length
  ov : ∀ r, ov r L = ov r xs ^^^ se (8 * xs.length) K
  nodup : K.Nodup
  lt : ∀ k ∈ K, k < 8 * xs.length
theorem Tk.next {xs L : List (BitVec 8)} {K : List Nat} (h : Tk xs L K) {k : Nat} (hk : k < 8 * xs.length) (hnot : k ∉ K) : Tk xs (tb L k) (K ++ [k]) := by
  refine ⟨by rw [tb_len]; exact h.len, fun r => ?_, ?_, fun j hj => ?_⟩
  · rw [ov_tb L k (by rw [h.len]; exact hk), h.ov, se_snoc, BitVec.xor_assoc, h.len]
  · rw [List.nodup_append]
    refine ⟨h.nodup, by simp, fun a ha b hb => ?_⟩
    simp at hb; subst hb
    intro e; subst e; exact hnot ha
  · rcases List.mem_append.1 hj with h1 | h1
    · exact h.lt j h1
    · simp at h1; subst h1; exact hk
theorem Tk.blind {xs L : List (BitVec 8)} {K : List Nat} (h : Tk xs L K) : Go.Proofs.Ytlhacjenpginbab.ov 0#32 (xl L xs) = se (8 * xs.length) K := by
  have e := ov_xl L xs 0#32 0#32 h.len
  rw [BitVec.xor_self, h.ov, BitVec.xor_comm (Go.Proofs.Ytlhacjenpginbab.ov 0#32 xs), BitVec.xor_assoc, BitVec.xor_self, BitVec.xor_zero] at e
  exact e
/-! ### Rows of numbers -/
def vi (K : List Nat) : List Value := K.map fun (k : Nat) => Value.int .i64 (k : Int)
theorem vi_snoc (K : List Nat) (k : Nat) : vi (K ++ [k]) = vi K ++ [.int .i64 (k : Int)] := by unfold vi; rw [List.map_append]; rfl
theorem infoI : (Try.prog.info? 3).map (fun i => (i.zero, i.size, i.bytes)) = some (some (.int .i64 0), 1, 8) := by kernel_rfl
theorem owns_cells {w : World} {base : Nat} {t : TypeId} {v : Value} {n : Nat} {xs : List Value} (h : w.ownsRow base t 1 v n xs) : ∃ p c, v = .slice p n c ∧ (0 < n → ∃ g, p = some ⟨g, 0, none⟩ ∧ base ≤ g ∧ ∀ i u, xs[i]? = some u → w.cell? ⟨g, i, none⟩ = some u) := by
  rcases h.2 with ⟨hv, h1⟩ | ⟨g, cap, c, hv, hg, hh, hc, hm, hs, ht⟩
  · subst h1; exact ⟨none, 0, hv, fun h => absurd h (by omega)⟩
  · refine ⟨_, cap, hv, fun _ => ⟨g, rfl, hg, fun i u hu => ?_⟩⟩
    rw [cell_of_row w g i _ _ _ hh]
    have hi : i < n := by
      have := (List.getElem?_eq_some_iff.1 hu).1
      have := h.1; omega
    rw [Nat.mul_one] at ht
    have h1 : (c.toList.take n)[i]? = some u := by rw [ht]; exact hu
    rw [List.getElem?_take_of_lt hi] at h1
    simpa using h1
theorem owns_setCell {w W : World} {base : Nat} {t : TypeId} {v : Value} {n : Nat} {xs : List Value} {a : Addr} {u : Value} (h : w.ownsRow base t 1 v n xs) (ha : a.block < base) (e : W.heap = (w.setCell a u).heap) : W.ownsRow base t 1 v n xs := by
  refine ⟨h.1, ?_⟩
  rcases h.2 with h1 | ⟨g, cap, c, hv, hg, hh, hc⟩
  · exact .inl h1
  · refine .inr ⟨g, cap, c, hv, hg, ?_, hc⟩
    rw [e, heap_setCell_other w a g u (by omega)]; exact hh
theorem Wr.grown {w w' : World} {g base n : Nat} {t : TypeId} {v : Value} {xs : List (BitVec 8)} {ys : List Value} (h : Wr w g xs) (hg : w.grownBy w' v.ownBlock) (ho : w.ownsRow base t 1 v n ys) (hb : g < base) : Wr w' g xs := by
  have hl := h.lt
  obtain ⟨cur, hh, hs, hc⟩ := h
  refine ⟨cur, ?_, hs, hc⟩
  rw [hg.block g hl (fun e => by have := (ho.lt g e.symm).1; omega)]; exact hh
theorem vi_at (K : List Nat) (i : Nat) (h : i < K.length) : (vi K)[i]? = some (.int .i64 ((K[i] : Nat) : Int)) := by
  unfold vi; rw [List.getElem?_map, List.getElem?_eq_getElem h]; rfl
theorem vi_len (K : List Nat) : (vi K).length = K.length := by simp [vi]
theorem take_mem_succ (K : List Nat) (k c : Nat) (h : c < K.length) : (k ∈ K.take (c + 1)) ↔ (k ∈ K.take c ∨ K[c] = k) := by
  rw [List.take_add_one, List.getElem?_eq_getElem h, List.mem_append]
  show _ ∨ k ∈ [K[c]] ↔ _
  rw [List.mem_singleton]
  exact ⟨fun h => h.imp id Eq.symm, fun h => h.imp id Eq.symm⟩
/-- The four bytes of a register, the lowest first. -/
def by4 (r : BitVec 32) : List (BitVec 8) := [r.setWidth 8, (r >>> 8).setWidth 8, (r >>> 16).setWidth 8, (r >>> 24).setWidth 8]
theorem sw8_xor (x y : BitVec 32) : (x ^^^ y).setWidth 8 = x.setWidth 8 ^^^ y.setWidth 8 := by
  apply BitVec.eq_of_getLsbD_eq; intro i hi
  simp only [BitVec.getLsbD_setWidth, BitVec.getLsbD_xor]
  simp [hi]
theorem by4_xor (r s : BitVec 32) : by4 (r ^^^ s) = xl (by4 r) (by4 s) := by
  have e : ∀ k, (r ^^^ s) >>> k = r >>> k ^^^ s >>> k := fun k => Lin.shr k r s
  unfold by4 xl
  rw [e, e, e, sw8_xor, sw8_xor, sw8_xor, sw8_xor]
  rfl
theorem ov_by4 (r : BitVec 32) : ov r (by4 r) = 0#32 := by
  have hl : Lin (fun r => ov r (by4 r)) := fun a b => by
    show ov (a ^^^ b) (by4 (a ^^^ b)) = _
    rw [by4_xor, ov_xl (by4 a) (by4 b) a b rfl]
  exact lin_ext (g := fun _ => 0#32) hl (fun _ _ => by show 0#32 = 0#32 ^^^ 0#32; rfl) (by decide +kernel) r
theorem sm_by4 (s : BitVec 32) : smL s = by4 s := by
  have e : ∀ (k : Nat), BitVec.ofNat 8 (s.toNat / 2 ^ k) = (s >>> k).setWidth 8 := fun k => by
    apply BitVec.eq_of_toNat_eq
    rw [BitVec.toNat_ofNat, BitVec.toNat_setWidth, BitVec.toNat_ushiftRight, Nat.shiftRight_eq_div_pow]
  have e0 : BitVec.ofNat 8 s.toNat = s.setWidth 8 := by
    apply BitVec.eq_of_toNat_eq
    rw [BitVec.toNat_ofNat, BitVec.toNat_setWidth]
  show [BitVec.ofNat 8 s.toNat, BitVec.ofNat 8 (s.toNat / 256), BitVec.ofNat 8 (s.toNat / 256 / 256), BitVec.ofNat 8 (s.toNat / 256 / 256 / 256)] = by4 s
  unfold by4
  rw [Nat.div_div_eq_div_mul, Nat.div_div_eq_div_mul, e0, show (256 : Nat) = 2 ^ 8 from rfl, show (2 ^ 8 * 2 ^ 8 : Nat) = 2 ^ 16 from rfl, show (2 ^ 16 * 2 ^ 8 : Nat) = 2 ^ 24 from rfl, e, e, e]
/-- What the register is behind every label's bytes. -/
def RS : BitVec 32 := ov 0#32 (by4 4294967295#32)
theorem not_ones (r : BitVec 32) : ~~~ r = r ^^^ 4294967295#32 := by
  rw [show (4294967295#32) = BitVec.allOnes 32 from rfl, BitVec.xor_allOnes]
theorem by4_len (r : BitVec 32) : (by4 r).length = 4 := rfl
section
attribute [local irreducible] ov by4
theorem res_by4 (r : BitVec 32) : ov r (by4 (~~~ r)) = RS := by
  have h := ov_xl (by4 r) (by4 4294967295#32) r 0#32 (by rw [by4_len, by4_len])
  rw [BitVec.xor_zero, ← by4_xor, ov_by4, BitVec.zero_xor] at h
  rw [not_ones r, h]
  unfold RS
  rfl
theorem fm_res (h : Lbl) : ov (~~~ 0#32) h.fm = RS := by
  unfold Lbl.fm
  rw [ov_append, sm_by4]
  unfold cmo
  exact res_by4 _
theorem pL_res {L : List (BitVec 8)} {h : Lbl} (e : pL L = (0, h)) : ov (~~~ 0#32) L = RS := by
  obtain ⟨_, hb⟩ := pL_inv L h e
  rw [hb]; exact fm_res h
theorem xl_self : ∀ (a p : List (BitVec 8)), a.length = p.length → xl a (xl a p) = p
  | [], [], _ => rfl
  | x :: a, y :: p, h => by
    show (x ^^^ (x ^^^ y)) :: xl a (xl a p) = y :: p
    rw [xl_self a p (by simpa using h), ← BitVec.xor_assoc, BitVec.xor_self, BitVec.zero_xor]
  | [], _ :: _, h => by simp at h
  | _ :: _, [], h => by simp at h
theorem told_pat (h : Lbl) (p : List (BitVec 8)) (hp : p.length = 31) (hb : ov 0#32 p ≠ 0#32) : pL (xl h.fm p) = (150, lb0) := by
  rcases pL_or (xl h.fm p) with ⟨l, hq⟩ | hq
  · exfalso
    have hl : h.fm.length = p.length := by rw [h.fm_len, hp]
    have e1 := ov_xl h.fm (xl h.fm p) (~~~ 0#32) (~~~ 0#32) (by rw [xl_len _ _ hl])
    rw [BitVec.xor_self, xl_self _ _ hl, fm_res, pL_res hq, BitVec.xor_self] at e1
    exact hb e1
  · exact hq
theorem told_bits (h : Lbl) {L : List (BitVec 8)} {K : List Nat} (t : Tk h.fm L K) (hs : se (8 * h.fm.length) K ≠ 0#32) : pL L = (150, lb0) := by
  rcases pL_or L with ⟨l, hq⟩ | hq
  · exfalso
    have e1 := t.ov (~~~ 0#32)
    rw [fm_res, pL_res hq] at e1
    refine hs (xx_left (a := RS) ?_)
    rw [← e1, BitVec.xor_zero]
  · exact hq
end
end Go.Proofs.Ytlhacjenpginbab
