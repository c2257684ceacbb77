/-
  'apart'.
-/
import Derived.Test.YtgienaikcpcpeabSt
import Derived.Deep.Cut
namespace Go.Proofs.Ytgienaikcpcpeab
open Go.RowKit

/-- All but the six rows is as it was. -/
structure Kept6 (w w' : World) (gs : Nat → Nat) : Prop where
  os : w'.os = w.os
  tape : w'.tape = w.tape
  output : w'.output = w.output
  size : w.heap.size ≤ w'.heap.size
  block : ∀ k, k < w.heap.size → (∀ m, m < 6 → k ≠ gs m) → w'.heap[k]? = w.heap[k]?
theorem Kept6.refl (w : World) (gs : Nat → Nat) : Kept6 w w gs := ⟨rfl, rfl, rfl, Nat.le_refl _, fun _ _ _ => rfl⟩
theorem Kept6.set {w w' : World} {gs : Nat → Nat} (h : Kept6 w w' gs) {i j : Nat} (hi : i < 6) (v : Value) : Kept6 w (w'.setCell ⟨gs i, j, none⟩ v) gs :=
  ⟨h.os, h.tape, h.output, by have := h.size; simpa using this, fun k hk hm => by rw [heap_setCell_other _ _ _ _ (hm i hi)]; exact h.block k hk hm⟩
theorem Kept6.cell {w w' : World} {gs : Nat → Nat} (h : Kept6 w w' gs) {G m : Nat} {v : Value} (hc : w.cell? ⟨G, m, none⟩ = some v) (hG : ∀ m, m < 6 → G ≠ gs m) : w'.cell? ⟨G, m, none⟩ = some v := by
  rw [World.cell?_of_block (w := w) (h.block G (block_lt_of_cell hc) hG)]; exact hc
theorem Kept6.below {w w1 w' : World} {gs : Nat → Nat} (h : Kept6 w w1 gs) (hb : Below w1.heap.size w1 w') : Kept6 w w' gs :=
  ⟨hb.os.trans h.os, hb.tape.trans h.tape, hb.output.trans h.output, Nat.le_trans h.size hb.size, fun k hk hm => by rw [hb.block k (Nat.lt_of_lt_of_le hk h.size)]; exact h.block k hk hm⟩
/-- The rows while they are filled: those before i, and i up to j. -/
def ff (f : Nat → Nat → BitVec 8) (i j m t : Nat) : BitVec 8 := if m < i ∨ (m = i ∧ t < j) then tn 10 m else f m t
theorem ff_set {w W : World} {gs ns : Nat → Nat} {f : Nat → Nat → BitVec 8} {i j : Nat} (h : ∀ m, m < 6 → Own w 5 (gs m) (ff f i j m) (ns m)) (hd : ∀ m m', m < 6 → m' < 6 → m ≠ m' → gs m ≠ gs m') (hi : i < 6) (hj : j < ns i)
    (e : W.heap = (w.setCell ⟨gs i, j, none⟩ (.int .u8 (el (tn 10 i)))).heap) : ∀ m, m < 6 → Own W 5 (gs m) (ff f i (j + 1) m) (ns m) := by
  intro m hm
  by_cases em : m = i
  · subst em
    have h1 := ((h m hm).set hj (tn 10 m)).congr (f' := ff f m (j + 1) m) (fun t ht => by
      unfold ff
      by_cases et : t = j
      · subst et; rw [if_pos rfl, if_pos (.inr ⟨rfl, by omega⟩)]
      · rw [if_neg et]
        by_cases h2 : m < m ∨ (m = m ∧ t < j)
        · rw [if_pos h2, if_pos (by omega)]
        · rw [if_neg h2, if_neg (by omega)])
    unfold Own at h1 ⊢
    rw [e]; exact h1
  · have h1 := (h m hm).congr (f' := ff f i (j + 1) m) (fun t ht => by
      unfold ff
      by_cases h2 : m < i ∨ (m = i ∧ t < j)
      · rw [if_pos h2, if_pos (by omega)]
      · rw [if_neg h2, if_neg (by omega)])
    unfold Own at h1 ⊢
    rw [e, heap_setCell_other _ _ _ _ (hd m i hm hi em)]; exact h1
theorem ff_next {w : World} {gs ns : Nat → Nat} {f : Nat → Nat → BitVec 8} {i : Nat} (h : ∀ m, m < 6 → Own w 5 (gs m) (ff f i (ns i) m) (ns m)) : ∀ m, m < 6 → Own w 5 (gs m) (ff f (i + 1) 0 m) (ns m) := fun m hm =>
  (h m hm).congr (fun t ht => by
    unfold ff
    by_cases em : m = i
    · subst em; rw [if_pos (.inr ⟨rfl, ht⟩), if_pos (.inl (by omega))]
    · by_cases h2 : m < i ∨ (m = i ∧ t < ns i)
      · rw [if_pos h2, if_pos (by omega)]
      · rw [if_neg h2, if_neg (by omega)])
theorem ff_start {w : World} {gs ns : Nat → Nat} {f : Nat → Nat → BitVec 8} (h : ∀ m, m < 6 → Own w 5 (gs m) (f m) (ns m)) : ∀ m, m < 6 → Own w 5 (gs m) (ff f 0 0 m) (ns m) := fun m hm =>
  (h m hm).congr (fun t ht => by unfold ff; rw [if_neg (by omega)])
theorem ff_done {w : World} {gs ns : Nat → Nat} {f : Nat → Nat → BitVec 8} (h : ∀ m, m < 6 → Own w 5 (gs m) (ff f 6 0 m) (ns m)) : ∀ m, m < 6 → Own w 5 (gs m) (fun _ => tn 10 m) (ns m) := fun m hm =>
  (h m hm).congr (fun t ht => by unfold ff; rw [if_pos (.inl hm)])

theorem made_src {w : World} {g cap n : Nat} {x : Nat → BitVec 8} (h : Made w g cap n x) : ∀ j u, (vals x n)[j]? = some u → w.cell? ((⟨g, 0, none⟩ : Addr).add j) = some u := by
  intro j u hu
  obtain ⟨hj, rfl⟩ := vals_get hu
  rw [add_plain, Nat.zero_add]; exact h.cell hj
theorem row_form {w : World} {base T n : Nat} {v : Value} {xs : List Value} (h : w.ownsRow base T 1 v n xs) : ∃ a cap, v = .slice a n cap ∧ Hid (∀ j u, xs[j]? = some u → ∃ g, a = some ⟨g, 0, none⟩ ∧ w.cell? ⟨g, j, none⟩ = some u) := by
  rcases h.2 with ⟨hv, h0⟩ | ⟨g, cap, c, hv, hg, hh, hc, hm, hs, ht⟩
  · refine ⟨none, 0, by rw [h0]; exact hv, fun j u hu => ?_⟩
    have hl : xs.length = 0 := by rw [h.1, h0]
    rw [List.getElem?_eq_none (by omega)] at hu; cases hu
  · refine ⟨some ⟨g, 0, none⟩, cap, hv, fun j u hu => ⟨g, rfl, ?_⟩⟩
    rw [cell_of_row w g j _ _ _ hh]
    rw [Nat.mul_one] at ht
    rw [← ht] at hu
    have hj : j < n := by
      rcases Nat.lt_or_ge j n with h1 | h1
      · exact h1
      · rw [List.getElem?_eq_none (by simp; omega)] at hu; cases hu
    rw [List.getElem?_take_of_lt hj] at hu
    simpa using hu
theorem head_of {w : World} {a : Option Addr} {xs : List Value} (h : ∀ j u, xs[j]? = some u → ∃ g, a = some ⟨g, 0, none⟩ ∧ w.cell? ⟨g, j, none⟩ = some u) (hn : 0 < xs.length) : ∃ g, a = some ⟨g, 0, none⟩ := by
  obtain ⟨g, hg, _⟩ := h 0 xs[0] (List.getElem?_eq_getElem hn)
  exact ⟨g, hg⟩
theorem ent_at {w : World} {gl gw q : Nat} {K : List Ent} (hl : ∀ j u, (K.map Ent.V)[j]? = some u → ∃ g, some (⟨gl, 0, none⟩ : Addr) = some ⟨g, 0, none⟩ ∧ w.cell? ⟨g, j, none⟩ = some u) (hw : ∀ j u, (K.map Ent.I)[j]? = some u → ∃ g, some (⟨gw, 0, none⟩ : Addr) = some ⟨g, 0, none⟩ ∧ w.cell? ⟨g, j, none⟩ = some u) (hq : q < K.length) :
    ∃ e, e ∈ K ∧ w.cell? ⟨gl, q, none⟩ = some e.V ∧ w.cell? ⟨gw, q, none⟩ = some e.I := by
  obtain ⟨g, hg, hc⟩ := hl q K[q].V (by rw [List.getElem?_map, List.getElem?_eq_getElem hq]; rfl)
  obtain ⟨g', hg', hc'⟩ := hw q K[q].I (by rw [List.getElem?_map, List.getElem?_eq_getElem hq]; rfl)
  cases hg; cases hg'
  exact ⟨K[q], List.getElem_mem hq, hc, hc'⟩
theorem infoS : (Try.prog.info? 22).map (fun i => (i.zero, i.size, i.bytes)) = some (some (.slice none 0 0), 1, 24) := by kernel_rfl
theorem infoI : (Try.prog.info? 3).map (fun i => (i.zero, i.size, i.bytes)) = some (some (.int .i64 0), 1, 8) := by kernel_rfl
theorem own_made {w : World} {g n : Nat} {f x : Nat → BitVec 8} (h : Own w 5 g f n) (hn : n ≤ 140737488351232) (e : ∀ t, t < n → f t = x t) : Made w g n (n + 0) x := by
  refine ⟨⟨rowC f n, h, rowC_size f n, ?_⟩, by omega, by unfold maxLen; omega⟩
  rw [Nat.add_zero, List.take_of_length_le (by simp [rowC_size])]
  unfold rowC vals
  rw [List.toList_toArray]
  apply List.map_congr_left
  intro i hi; rw [e i (List.mem_range.1 hi)]
section
attribute [local irreducible] Calls el gm Own tn
set_option maxHeartbeats 4000000 in
set_option maxRecDepth 1000000 in
theorem apart_walk (G cG : Nat) (gs ns : Nat → Nat) (f : Nat → Nat → BitVec 8) (w : World)
    (HG : Hid (∀ m, m < 6 → w.cell? ⟨G, m, none⟩ = some (.slice (some ⟨gs m, 0, none⟩) (ns m) (ns m)))) (HN : Hid (∀ m, m < 6 → ns m ≤ 140737488351232)) (HO : Hid (∀ m, m < 6 → Own w 5 (gs m) (f m) (ns m)))
    (HD : Hid (∀ m m', m < 6 → m' < 6 → m ≠ m' → gs m ≠ gs m')) (HS : Hid (∀ m, m < 6 → G ≠ gs m)) :
    Calls Try.prog 19 #[.slice (some ⟨G, 0, none⟩) 6 cG] w fun e w' => e = .returned (.bool true) ∧ Kept6 w w' gs := by
  go_enter Try.func19, Try.ntmps19
  go_wp2
  go_loopw [3] (fun s3 wr => ∃ i : Nat, i ≤ 6 ∧ s3 = .int .i64 i ∧ Hid (∀ m, m < 6 → Own wr 5 (gs m) (ff f i 0 m) (ns m)) ∧ Kept6 w wr gs) (fun s3 _ => 6 - (intOf s3).toNat)
  case atStart => exact ⟨0, Nat.zero_le _, rfl, ff_start HO.out, Kept6.refl _ _⟩
  case round =>
    obtain ⟨i, hi6, rfl, HF, hk⟩ := hrel
    by_cases hlt : i < 6
    · have hii : (i : Int) < 6 := by omega
      have hni := HN.out i hlt
      go_wp2
      go_loopw [4] (fun s4 wr => ∃ j : Nat, j ≤ ns i ∧ s4 = .int .i64 j ∧ Hid (∀ m, m < 6 → Own wr 5 (gs m) (ff f i j m) (ns m)) ∧ Kept6 w wr gs) (fun s4 _ => ns i - (intOf s4).toNat)
      case atStart => exact ⟨0, Nat.zero_le _, rfl, HF, hk⟩
      case round =>
        clear HF hk
        obtain ⟨j, hj, rfl, HF, hk⟩ := hrel
        have gc := hk.cell (HG.out i hlt) HS.out
        by_cases hjl : j < ns i
        · have hji : (j : Int) < (ns i : Int) := by omega
          have g1 := (HF.out i hlt).cell hjl
          have g2 := (HF.out i hlt).frozen j
          have he : (10 : Int) + (i : Int) = el (tn 10 i) := (el_tn 10 i (by omega)).symm
          go_wp2
          go_roundw
          case rel => exact ⟨j + 1, by omega, by go_num, ff_set HF.out HD.out hlt hjl rfl, hk.set hlt _⟩
          case measure => simp [intOf]; omega
        · have hjn : j = ns i := by omega
          go_wp2
          go_roundw
          case rel => exact ⟨i + 1, by omega, by go_num, ff_next (by rw [← hjn]; exact HF.out), hk⟩
          case measure => simp [intOf]; omega
    · obtain rfl : i = 6 := by omega
      have HW : Hid (∀ m, m < 6 → Own wr 5 (gs m) (fun _ => tn 10 m) (ns m)) := ff_done HF.out
      have HC : Hid (∀ m, m < 6 → wr.cell? ⟨G, m, none⟩ = some (.slice (some ⟨gs m, 0, none⟩) (ns m) (ns m))) := fun m hm => hk.cell (HG.out m hm) HS.out
      clear HF
      obtain ⟨w1, hw1⟩ : ∃ w1, w1 = wr := ⟨wr, rfl⟩
      subst hw1
      obtain ⟨i0, hi, hz0, hz1, hz2⟩ := info_parts info5
      obtain ⟨j0, hj, hy0, hy1, hy2⟩ := info_parts infoS
      obtain ⟨l0, hl, hx0, hx1, hx2⟩ := info_parts infoI
      go_wp2
      go_loopw [5, 6, 7] (fun vl vw s7 wr => ∃ (i : Nat) (K : List Ent), i ≤ 6 ∧ s7 = .int .i64 i ∧ wr.ownsRow w1.heap.size 22 1 vl K.length (K.map Ent.V) ∧ wr.ownsRow w1.heap.size 3 1 vw K.length (K.map Ent.I) ∧ Hid (∀ e ∈ K, Good ns w1.heap.size wr e) ∧ K.length ≤ 64 * i ∧ Below w1.heap.size w1 wr) (fun _ _ s7 _ => 6 - (intOf s7).toNat)
      case atStart => exact ⟨0, [], Nat.zero_le _, rfl, World.ownsRow_nil _ _ _ _, World.ownsRow_nil _ _ _ _, (fun e he => by cases he), Nat.zero_le _, Below.refl _ _⟩
      case round =>
        obtain ⟨i, K, hi6, rfl, hvl, hvw, HK, hlen, hb⟩ := hrel
        by_cases hlt : i < 6
        · have hii : (i : Int) < 6 := by omega
          have hni := HN.out i hlt
          have gc := cell_below (HC.out i hlt) hb
          have he : (100 : Int) + (i : Int) = el (tn 100 i) := (el_tn 100 i (by omega)).symm
          have hgl := (HW.out i hlt).lt
          have hM0 := own_made ((HW.out i hlt).below hb) hni (x := mf ns i) (fun t ht => by unfold mf; rw [if_pos ht])
          go_wp2
          go_loopw [5, 6, 8, 9] (fun vl vw s8 s9 wr => ∃ (k B C : Nat) (K : List Ent), k ≤ 64 ∧ s9 = .int .i64 k ∧ s8 = .slice (some ⟨B, 0, none⟩) (ns i + k) C ∧ St ns w1 wr i (ns i + k) B C K K vl vw ∧ K.length ≤ 64 * i + k) (fun _ _ _ s9 _ => 64 - (intOf s9).toNat)
          case atStart => exact ⟨0, gs i, ns i, K, Nat.zero_le _, rfl, rfl, ⟨hvl, hvw, HK.out, hb, hM0, .inl rfl, (fun e he eb => absurd eb (by have := (HK.out e he).new; omega))⟩, by omega⟩
          case round =>
            clear hvl hvw HK hlen hb hM0
            obtain ⟨k, B, C, K, hk64, rfl, rfl, hS, hlen⟩ := hrel
            by_cases hkl : k < 64
            · have hki : (k : Int) < 64 := by omega
              have VL : Hid ((vals (mf ns i) (ns i + k)).length = (ns i + k) * 1) := by show _ = _; rw [vals_len, Nat.mul_one]
              have M1 : Hid (ns i + k + 1 ≤ maxLen) := by show _ ≤ _; unfold maxLen; omega
              have M2 : Hid (K.length + 1 ≤ maxLen) := by show _ ≤ _; unfold maxLen; omega
              by_cases hr : ns i + k < C
              · skip
                go_upto_region 18 with (at_builtin; refine wpList_append_fits _ rfl (.tmp 51) (.tmp 55) 22 rfl 0 5 i0 1 Try.underlying22 hi hz1 B (ns i + k) C (vals (mf ns i) (ns i + k)) rfl (hS.alloc _).made.owns ⟨wr.heap.size, 0, none⟩ 1 1 [.int .u8 (el (tn 100 i))] rfl rfl (one_new' _ _ _) (one_val _ rfl) (by omega) ?_; intro w2 ho2 hg2; obtain ⟨hS2, hB2⟩ := (hS.alloc _).room hr (by omega) ho2 hg2)
                by_cases k16 : k < 16
                · have k16i : (k : Int) < 16 := by omega
                  go_upto_region 20 with (at_builtin; refine wpList_append_own _ rfl (.tmp 63) (.tmp 65) 45 rfl w1.heap.size 22 j0 (.slice none 0 0) 1 24 Try.underlying45 hj hy0 hy1 hy2 rfl (by decide) _ _ _ rfl (hS2.alloc _).long ⟨w2.heap.size, 0, none⟩ 1 1 [.slice (some ⟨B, 0, none⟩) (ns i + k + 1) C] rfl rfl (one_new' _ _ _) (one_val _ rfl) M2.out (by omega) (Nat.le_trans hS2.below.size (by simp)) ?_; intro vl3 w3 ho3 hg3 _; have hS3 := (hS2.alloc _).keepL hlt (by omega) (by omega) hB2 ho3 hg3)
                  go_wp2_with (at_builtin; refine wpList_append_own _ rfl (.tmp 67) (.tmp 69) 51 rfl w1.heap.size 3 l0 (.int .i64 0) 1 8 Try.underlying51 hl hx0 hx1 hx2 rfl (by decide) _ _ _ rfl (hS3.alloc _).whose ⟨w3.heap.size, 0, none⟩ 1 1 [.int .i64 (i : Int)] rfl rfl (one_new' _ _ _) (one_val _ rfl) M2.out (by omega) (Nat.le_trans hS3.below.size (by simp)) ?_; intro vw4 w4 ho4 hg4 _; have hS4 := (hS3.alloc _).keepW ⟨i, B, C, ns i + k + 1⟩ rfl ho4 hg4)
                  go_roundw
                  case rel => first | exact ⟨k + 1, B, C, K ++ [⟨i, B, C, ns i + k + 1⟩], by omega, by go_num, rfl, hS4, by simp; omega⟩ | exact ⟨_, _, _, _, ⟨k + 1, by omega, rfl, B, C, rfl, K ++ [⟨i, B, C, ns i + k + 1⟩], hS4, by simp; omega⟩, rfl, rfl, rfl, by go_num⟩ | ((repeat apply Exists.intro); exact ⟨⟨k + 1, B, C, K ++ [⟨i, B, C, ns i + k + 1⟩], by omega, by go_num, rfl, hS4, by simp; omega⟩, rfl⟩)
                  case measure => simp [intOf]; omega
                · have k16d : decide ((k : Int) < 16) = false := by simp; omega
                  have k16n : ¬ (k : Int) < 16 := by omega
                  by_cases k63 : k = 63
                  · have k63i : ((k : Int) == 63) = true := by rw [k63]; rfl
                    have K63 : Hid (k = 63) := k63
                    clear k63
                    go_upto_region 20 with (at_builtin; refine wpList_append_own _ rfl (.tmp 63) (.tmp 65) 45 rfl w1.heap.size 22 j0 (.slice none 0 0) 1 24 Try.underlying45 hj hy0 hy1 hy2 rfl (by decide) _ _ _ rfl (hS2.alloc _).long ⟨w2.heap.size, 0, none⟩ 1 1 [.slice (some ⟨B, 0, none⟩) (ns i + k + 1) C] rfl rfl (one_new' _ _ _) (one_val _ rfl) M2.out (by omega) (Nat.le_trans hS2.below.size (by simp)) ?_; intro vl3 w3 ho3 hg3 _; have hS3 := (hS2.alloc _).keepL hlt (by omega) (by omega) hB2 ho3 hg3)
                    go_wp2_with (at_builtin; refine wpList_append_own _ rfl (.tmp 67) (.tmp 69) 51 rfl w1.heap.size 3 l0 (.int .i64 0) 1 8 Try.underlying51 hl hx0 hx1 hx2 rfl (by decide) _ _ _ rfl (hS3.alloc _).whose ⟨w3.heap.size, 0, none⟩ 1 1 [.int .i64 (i : Int)] rfl rfl (one_new' _ _ _) (one_val _ rfl) M2.out (by omega) (Nat.le_trans hS3.below.size (by simp)) ?_; intro vw4 w4 ho4 hg4 _; have hS4 := (hS3.alloc _).keepW ⟨i, B, C, ns i + k + 1⟩ rfl ho4 hg4)
                    go_roundw
                    case rel => first | exact ⟨k + 1, B, C, K ++ [⟨i, B, C, ns i + k + 1⟩], by omega, by go_num, rfl, hS4, by simp; omega⟩ | exact ⟨_, _, _, _, ⟨k + 1, by omega, rfl, B, C, rfl, K ++ [⟨i, B, C, ns i + k + 1⟩], hS4, by simp; omega⟩, rfl, rfl, rfl, by go_num⟩ | ((repeat apply Exists.intro); exact ⟨⟨k + 1, B, C, K ++ [⟨i, B, C, ns i + k + 1⟩], by omega, by go_num, rfl, hS4, by simp; omega⟩, rfl⟩)
                    case measure => simp [intOf]; omega
                  · have k63i : ((k : Int) == 63) = false := by simp; omega
                    go_wp2
                    go_roundw
                    case rel => first | exact ⟨k + 1, B, C, K, by omega, by go_num, rfl, hS2, by omega⟩ | exact ⟨_, _, _, _, ⟨k + 1, by omega, rfl, B, C, rfl, K, hS2, by omega⟩, rfl, rfl, rfl, by go_num⟩ | ((repeat apply Exists.intro); exact ⟨⟨k + 1, B, C, K, by omega, by go_num, rfl, hS2, by omega⟩, rfl⟩)
                    case measure => simp [intOf]; omega
              · skip
                go_upto_region 18 with (at_builtin; refine wpList_append_grows _ rfl (.tmp 51) (.tmp 55) 22 rfl 5 i0 (.int .u8 0) 1 1 Try.underlying22 hi hz0 hz1 hz2 rfl (by decide) (some ⟨B, 0, none⟩) (ns i + k) C (vals (mf ns i) (ns i + k)) rfl (fun h => by cases h) VL.out (fun b hb => by cases hb; exact made_src (hS.alloc _).made) ⟨wr.heap.size, 0, none⟩ 1 1 [.int .u8 (el (tn 100 i))] rfl rfl (one_new' _ _ _) (one_val _ rfl) (by omega) M1.out (by omega) ?_; intro v2 w2 ho2 hg2; obtain ⟨B2, C2, hv2, hS2, hB2⟩ := (hS.alloc _).grow (by omega) ho2 hg2; rw [hv2]; clear hv2)
                by_cases k16 : k < 16
                · have k16i : (k : Int) < 16 := by omega
                  go_upto_region 20 with (at_builtin; refine wpList_append_own _ rfl (.tmp 63) (.tmp 65) 45 rfl w1.heap.size 22 j0 (.slice none 0 0) 1 24 Try.underlying45 hj hy0 hy1 hy2 rfl (by decide) _ _ _ rfl (hS2.alloc _).long ⟨w2.heap.size, 0, none⟩ 1 1 [.slice (some ⟨B2, 0, none⟩) (ns i + k + 1) C2] rfl rfl (one_new' _ _ _) (one_val _ rfl) M2.out (by omega) (Nat.le_trans hS2.below.size (by simp)) ?_; intro vl3 w3 ho3 hg3 _; have hS3 := (hS2.alloc _).keepL hlt (by omega) (by omega) hB2 ho3 hg3)
                  go_wp2_with (at_builtin; refine wpList_append_own _ rfl (.tmp 67) (.tmp 69) 51 rfl w1.heap.size 3 l0 (.int .i64 0) 1 8 Try.underlying51 hl hx0 hx1 hx2 rfl (by decide) _ _ _ rfl (hS3.alloc _).whose ⟨w3.heap.size, 0, none⟩ 1 1 [.int .i64 (i : Int)] rfl rfl (one_new' _ _ _) (one_val _ rfl) M2.out (by omega) (Nat.le_trans hS3.below.size (by simp)) ?_; intro vw4 w4 ho4 hg4 _; have hS4 := (hS3.alloc _).keepW ⟨i, B2, C2, ns i + k + 1⟩ rfl ho4 hg4)
                  go_roundw
                  case rel => first | exact ⟨k + 1, B2, C2, K ++ [⟨i, B2, C2, ns i + k + 1⟩], by omega, by go_num, rfl, hS4, by simp; omega⟩ | exact ⟨_, _, _, _, ⟨k + 1, by omega, rfl, B2, C2, rfl, K ++ [⟨i, B2, C2, ns i + k + 1⟩], hS4, by simp; omega⟩, rfl, rfl, rfl, by go_num⟩ | ((repeat apply Exists.intro); exact ⟨⟨k + 1, B2, C2, K ++ [⟨i, B2, C2, ns i + k + 1⟩], by omega, by go_num, rfl, hS4, by simp; omega⟩, rfl⟩)
                  case measure => simp [intOf]; omega
                · have k16d : decide ((k : Int) < 16) = false := by simp; omega
                  have k16n : ¬ (k : Int) < 16 := by omega
                  by_cases k63 : k = 63
                  · have k63i : ((k : Int) == 63) = true := by rw [k63]; rfl
                    have K63 : Hid (k = 63) := k63
                    clear k63
                    go_upto_region 20 with (at_builtin; refine wpList_append_own _ rfl (.tmp 63) (.tmp 65) 45 rfl w1.heap.size 22 j0 (.slice none 0 0) 1 24 Try.underlying45 hj hy0 hy1 hy2 rfl (by decide) _ _ _ rfl (hS2.alloc _).long ⟨w2.heap.size, 0, none⟩ 1 1 [.slice (some ⟨B2, 0, none⟩) (ns i + k + 1) C2] rfl rfl (one_new' _ _ _) (one_val _ rfl) M2.out (by omega) (Nat.le_trans hS2.below.size (by simp)) ?_; intro vl3 w3 ho3 hg3 _; have hS3 := (hS2.alloc _).keepL hlt (by omega) (by omega) hB2 ho3 hg3)
                    go_wp2_with (at_builtin; refine wpList_append_own _ rfl (.tmp 67) (.tmp 69) 51 rfl w1.heap.size 3 l0 (.int .i64 0) 1 8 Try.underlying51 hl hx0 hx1 hx2 rfl (by decide) _ _ _ rfl (hS3.alloc _).whose ⟨w3.heap.size, 0, none⟩ 1 1 [.int .i64 (i : Int)] rfl rfl (one_new' _ _ _) (one_val _ rfl) M2.out (by omega) (Nat.le_trans hS3.below.size (by simp)) ?_; intro vw4 w4 ho4 hg4 _; have hS4 := (hS3.alloc _).keepW ⟨i, B2, C2, ns i + k + 1⟩ rfl ho4 hg4)
                    go_roundw
                    case rel => first | exact ⟨k + 1, B2, C2, K ++ [⟨i, B2, C2, ns i + k + 1⟩], by omega, by go_num, rfl, hS4, by simp; omega⟩ | exact ⟨_, _, _, _, ⟨k + 1, by omega, rfl, B2, C2, rfl, K ++ [⟨i, B2, C2, ns i + k + 1⟩], hS4, by simp; omega⟩, rfl, rfl, rfl, by go_num⟩ | ((repeat apply Exists.intro); exact ⟨⟨k + 1, B2, C2, K ++ [⟨i, B2, C2, ns i + k + 1⟩], by omega, by go_num, rfl, hS4, by simp; omega⟩, rfl⟩)
                    case measure => simp [intOf]; omega
                  · have k63i : ((k : Int) == 63) = false := by simp; omega
                    go_wp2
                    go_roundw
                    case rel => first | exact ⟨k + 1, B2, C2, K, by omega, by go_num, rfl, hS2, by omega⟩ | exact ⟨_, _, _, _, ⟨k + 1, by omega, rfl, B2, C2, rfl, K, hS2, by omega⟩, rfl, rfl, rfl, by go_num⟩ | ((repeat apply Exists.intro); exact ⟨⟨k + 1, B2, C2, K, by omega, by go_num, rfl, hS2, by omega⟩, rfl⟩)
                    case measure => simp [intOf]; omega
            · obtain rfl : k = 64 := by omega
              go_wp2
              go_roundw
              case rel => exact ⟨i + 1, K, by omega, by go_num, hS.long, hS.whose, hS.good, by omega, hS.below⟩
              case measure => simp [intOf]; omega
        · obtain rfl : i = 6 := by omega
          have hK384 : K.length ≤ 384 := by omega
          obtain ⟨al, cl, hal, Hl⟩ := row_form hvl
          obtain ⟨aw, cw, haw, Hw⟩ := row_form hvw
          rw [hal, haw]
          clear hal haw hvl hvw
          by_cases hK0 : K.length = 0
          · rw [hK0]
            go_wp2
            refine wp_loop_rounds 1 ?_
            rw [rounds_succ]
            go_wp2
            go_ret
            exact ⟨rfl, hk.below hb⟩
          · obtain ⟨gl, hgl⟩ := head_of Hl.out (by simpa using Nat.pos_of_ne_zero hK0)
            obtain ⟨gw, hgw⟩ := head_of Hw.out (by simpa using Nat.pos_of_ne_zero hK0)
            rw [hgl, hgw]
            rw [hgl] at Hl
            rw [hgw] at Hw
            clear hgl hgw
            obtain ⟨w9, hw9⟩ : ∃ w9, w9 = wr := ⟨wr, rfl⟩
            subst hw9
            go_wp2
            go_loopw [10] (fun s10 wq => ∃ q : Nat, q ≤ K.length ∧ s10 = .int .i64 q ∧ Below w9.heap.size w9 wq) (fun s10 _ => K.length - (intOf s10).toNat)
            case atStart => exact ⟨0, Nat.zero_le _, rfl, Below.refl _ _⟩
            case round =>
              obtain ⟨q, hq, rfl, hb9⟩ := hrel
              by_cases hql : q < K.length
              · have hqi : (q : Int) < (K.length : Int) := by omega
                obtain ⟨e, hme, hce, hcw⟩ := ent_at Hl.out Hw.out hql
                have hgood := HK.out e hme
                obtain ⟨ei, eB, eC, eL⟩ := e
                obtain ⟨h6, hlo, hhi, _, hM⟩ := hgood
                simp only at h6 hlo hhi hM
                have HCI : Hid (w9.cell? ⟨gl, q, none⟩ = some (.slice (some ⟨eB, 0, none⟩) eL eC)) := hce
                have hcj : wr.cell? ⟨gw, q, none⟩ = some (.int .i64 (ei : Int)) := cell_below hcw hb9
                have GC : Hid (w9.cell? ⟨G, ei, none⟩ = some (.slice (some ⟨gs ei, 0, none⟩) (ns ei) (ns ei))) := cell_below (HC.out ei h6) hb
                have hei : (ei : Int) < 6 := by omega
                have hne := HN.out ei h6
                have HO1 : Hid (Own w9 5 (gs ei) (fun _ => tn 10 ei) (ns ei)) := (HW.out ei h6).below hb
                have he1 : (10 : Int) + (ei : Int) = el (tn 10 ei) := (el_tn 10 ei (by omega)).symm
                have he2 : (100 : Int) + (ei : Int) = el (tn 100 ei) := (el_tn 100 ei (by omega)).symm
                have HM : Hid (Made w9 eB eC eL (mf ns ei)) := hM
                clear hM hce hcw hme
                go_wp2
                go_loopw [12] (fun s12 wq => ∃ j : Nat, j ≤ eL ∧ s12 = .int .i64 j ∧ Below w9.heap.size w9 wq) (fun s12 _ => eL - (intOf s12).toNat)
                case atStart => exact ⟨0, Nat.zero_le _, rfl, hb9⟩
                case round =>
                  clear hb9 hcj
                  obtain ⟨j, hj, rfl, hb9⟩ := hrel
                  have hci := cell_below HCI.out hb9
                  have gc := cell_below GC.out hb9
                  by_cases hjl : j < eL
                  · have hji : (j : Int) < (eL : Int) := by omega
                    have g2 := cell_below (HM.out.cell hjl) hb9
                    by_cases hjn : j < ns ei
                    · have hjni : (j : Int) < (ns ei : Int) := by omega
                      have hjnn : ¬ (ns ei : Int) ≤ (j : Int) := by omega
                      have g1 := cell_below (HO1.out.cell hjn) hb9
                      rw [show mf ns ei j = tn 10 ei by unfold mf; rw [if_pos hjn]] at g2
                      go_wp2
                      go_roundw
                      case rel => exact ⟨j + 1, by omega, by go_num, hb9⟩
                      case measure => simp [intOf]; omega
                    · have hjni : ¬ (j : Int) < (ns ei : Int) := by omega
                      have hjnn : (ns ei : Int) ≤ (j : Int) := by omega
                      rw [mf_ge (by omega)] at g2
                      go_wp2
                      go_roundw
                      case rel => exact ⟨j + 1, by omega, by go_num, hb9⟩
                      case measure => simp [intOf]; omega
                  · go_wp2
                    go_roundw
                    case rel => first | exact ⟨q + 1, by omega, by go_num, hb9⟩ | ((repeat apply Exists.intro); refine ⟨?_, rfl⟩; exact ⟨q + 1, by omega, by go_num, hb9⟩) | ((repeat apply Exists.intro); exact ⟨⟨q + 1, by omega, by go_num, hb9⟩, rfl⟩)
                    case measure => simp [intOf]; omega
              · go_wp2
                go_ret
                exact ⟨rfl, hk.below (hb.trans (hb9.mono hb.size))⟩
end
end Go.Proofs.Ytgienaikcpcpeab
