/-
  CrcPieces: its walk.
-/
import Derived.Test.YtmpccpcnbenpfabThW
import Derived.Test.YtmpccpcnbenpfabSm
import Derived.Laws.Bits64
namespace Go.Proofs.Ytmpccpcnbenpfab
open Go.RowKit Go.Great
theorem cmo_app (s : BitVec 32) (A B : List (BitVec 8)) : cmo (cmo s A) B = cmo s (A ++ B) := by
  unfold cmo; rw [BitVec.not_not, ov_append]
theorem join_app (A B : List (BitVec 8)) : stps (8 * B.length) (cmo 0#32 A) ^^^ cmo 0#32 B = cmo 0#32 (A ++ B) := by
  unfold cmo
  rw [ov_append, ov_split B (ov _ A), ov_split B (~~~ 0#32)]
  generalize ov (~~~ 0#32) A = a
  generalize ov 0#32 B = b
  have e0 : (~~~ 0#32 : BitVec 32) = 4294967295#32 := by decide +kernel
  rw [e0, ← ones_xor a, Lin.stps, ← ones_xor (b ^^^ _), ← ones_xor (b ^^^ _)]
  generalize stps (8 * B.length) 4294967295#32 = c
  generalize stps (8 * B.length) a = d
  rw [BitVec.xor_comm c d, ← BitVec.xor_assoc 4294967295#32 b c, xx4 d c _ c, BitVec.xor_self, BitVec.xor_zero, BitVec.xor_comm d, BitVec.xor_assoc]
def cat (X : Nat → List (BitVec 8)) : Nat → List (BitVec 8)
  | 0 => []
  | k + 1 => cat X k ++ X k
def suf (X : Nat → List (BitVec 8)) (m : Nat) : Nat → List (BitVec 8)
  | 0 => []
  | j + 1 => X (m - 1 - j) ++ suf X m j
theorem cat_succ (X : Nat → List (BitVec 8)) (k : Nat) : cat X (k + 1) = cat X k ++ X k := rfl
theorem suf_succ (X : Nat → List (BitVec 8)) (m j : Nat) : suf X m (j + 1) = X (m - 1 - j) ++ suf X m j := rfl
theorem Ow.rds {w : World} {base : Nat} {p : Option Addr} {n c : Nat} {xs : List (BitVec 8)} (h : Ow w base (.slice p n c) xs) : Rd w p xs := by
  obtain ⟨p', c', e, _, hr⟩ := h.rd
  injection e with e1 _ _
  rw [e1]; exact hr
theorem cat_suf (X : Nat → List (BitVec 8)) (m j : Nat) (h : j ≤ m) : cat X (m - j) ++ suf X m j = cat X m := by
  induction j with
  | zero => simp [suf]
  | succ j ih =>
    have := ih (by omega)
    rw [show m - j = (m - (j + 1)) + 1 by omega] at this
    rw [← this]
    show _ ++ (X (m - 1 - j) ++ suf X m j) = (cat X (m - (j + 1)) ++ X (m - (j + 1))) ++ suf X m j
    rw [List.append_assoc, show m - 1 - j = m - (j + 1) by omega]
theorem cat_le (X : Nat → List (BitVec 8)) (m k : Nat) (h : k ≤ m) : (cat X k).length ≤ (cat X m).length := by
  induction m with
  | zero => obtain rfl : k = 0 := by omega
            exact Nat.le_refl _
  | succ m ih =>
    by_cases e : k = m + 1
    · rw [e]; exact Nat.le_refl _
    · have := ih (by omega)
      show _ ≤ (cat X m ++ X m).length
      rw [List.length_append]; omega
theorem Ow.other {w W : World} {base : Nat} {v : Value} {xs : List (BitVec 8)} {a : Addr} {u : Value} (h : Ow w base v xs) (ha : a.block < base) (e : W.heap = (w.setCell a u).heap) : Ow W base v xs := by
  unfold Ow at h ⊢; exact owns_setCell h ha e
theorem Ow.len {w : World} {base : Nat} {v : Value} {xs : List (BitVec 8)} (h : Ow w base v xs) : ∃ p c, v = .slice p xs.length c := by
  obtain ⟨p, c, e, _, _⟩ := h.rd
  exact ⟨p, c, e⟩
/-- append(v, x..) for whatever slice x. -/
theorem wpList_appx {w : World} {ops : Array Oper} {rest : List Oper} {o : Oper} {a : Act} {Q : Exit → Act → World → Prop} (hgd : o.guard = none) (s x : Operand) (ho : o.op = .call { callee := .builtin .append, args := #[s, x], argTypes := #[23, 23] })
    (base : Nat) (v : Value) (xs : List (BitVec 8)) (hs : a.eval s = v) (hown : Ow w base v xs) (p : Option Addr) (n c : Nat) (ys : List (BitVec 8)) (hx : a.eval x = .slice p n c) (hr : Rd w p ys) (hn : ys.length = n) (hnc : p = none → c = 0) (hm : xs.length + n ≤ 140737488355328) (hbase : base ≤ w.heap.size)
    (h : ∀ v' w', Ow w' base v' (xs ++ ys) → w.grownBy w' v.ownBlock → wpList Try.prog ops Q rest (a.put o.dst v') w') : wpList Try.prog ops Q (o :: rest) a w := by
  obtain ⟨i0, hi, hz0, hz1, hz2⟩ := info_parts info5
  cases p with
  | some ad => exact wpList_app hgd s x ho base v xs hs hown ad n c ys hx hr hn hm hbase (fun v' w' h1 h2 _ => h v' w' h1 h2)
  | none =>
    obtain rfl := hnc rfl
    have hys : ys = [] := by
      rcases hr with e | ⟨b, off, e, _⟩
      · exact e
      · cases e
    subst hys
    obtain rfl : n = 0 := hn.symm
    refine wpList_append_own_none hgd _ _ 23 ho base 5 i0 1 Try.underlying23 hi v xs.length (vs (fn xs) xs.length) hs hown hx ?_
    exact h v w (by rw [List.append_nil]; exact hown) ⟨rfl, rfl, rfl, Nat.le_refl _, fun _ _ _ => rfl⟩
theorem Sm.grown {w w' : World} {b o base : Nat} {c : Int} {r : BitVec 32} {v : Value} {xs : List (BitVec 8)} (h : Sm w b o c r) (hg : w.grownBy w' v.ownBlock) (ho : Ow w base v xs) (hb : b < base) : Sm w' b o c r := by
  have e : w'.heap[b]? = w.heap[b]? := hg.block b h.lt (fun e => by have := (ho.lt e.symm).1; omega)
  obtain ⟨h1, h2, h3, h4⟩ := h
  exact ⟨by rw [World.cell?_of_block (a := ⟨b, o, none⟩) e]; exact h1, by rw [World.cell?_of_block (a := ⟨b, o + 1, none⟩) e]; exact h2, by rw [World.frozen?_of_block (a := ⟨b, o, none⟩) e]; exact h3, by rw [World.frozen?_of_block (a := ⟨b, o + 1, none⟩) e]; exact h4⟩
section
attribute [local irreducible] Calls rg ov cmo el Ow Rd Sm stps cat suf
set_option maxHeartbeats 8000000 in
set_option maxRecDepth 1000000 in
theorem crcPieces_walk (w : World) (q0 : Option Addr) (m k0 : Nat) (X : Nat → List (BitVec 8)) (Pp : Nat → Option Addr) (Cc : Nat → Nat) (hm : m ≤ 1048576) (ht : (cat X m).length ≤ 1048576)
    (H1 : Hid (∀ i, i < m → ∃ b o, q0 = some ⟨b, o, none⟩ ∧ w.cell? ⟨b, o + i, none⟩ = some (.slice (Pp i) (X i).length (Cc i)) ∧ Rd w (Pp i) (X i) ∧ (Pp i = none → Cc i = 0))) :
    Calls Try.prog 3 #[.slice q0 m k0] w fun e w' => e = .returned (.bool true) ∧ Below w.heap.size w w' := by
  obtain ⟨i0, hi0, hz0, hz1, hz2⟩ := info_parts info5
  have s0 : ∀ W : World, Calls Try.prog 9 #[.slice none 0 0] W fun e w' => e = .returned (.int .u32 (rg (cmo 0#32 []))) ∧ Below W.heap.size W w' := fun W => csum_any (w := W) (a1 := none) (xs := []) (by unfold Rd; exact .inl rfl) 0 0 rfl (by omega)
  go_enter Try.func3, Try.ntmps3
  go_wp2_with (first | (refine wpList_allocSm rfl rfl (some 4) rfl ?_; intro w1 hS1 hG1) | (go_at_call 9; refine (s0 w1).mono ?_; rintro e w2 ⟨rfl, hb2⟩) | (go_at_call 9; refine (s0 w2).mono ?_; rintro e w3 ⟨rfl, hb3⟩))
  have d3 : Below w.heap.size w w3 := bt (bt hG1.2 hb2) hb3
  have hS3 := (hS1.below hb2).below hb3
  obtain ⟨B, hB⟩ : ∃ B, B = w3.heap.size := ⟨_, rfl⟩
  have HG : Hid (w.heap.size < B) := by
    show _ < _
    have := hS3.lt; omega
  have hBw : Hid (B ≤ w3.heap.size) := by show _ ≤ _; omega
  have e0 : cmo 0#32 [] = cmo 0#32 (cat X 0) := by unfold cat; rfl
  rw [e0]
  clear e0 hB hS1 hG1 hb2 hb3
  go_loopw [3, 5, 6, 7, 8] (fun v a b i _ wr => ∃ k : Nat, k ≤ m ∧ i = .int .i64 k ∧ Ow wr B v (cat X k) ∧ a = .int .u32 (rg (cmo 0#32 (cat X k))) ∧ b = .int .u32 (rg (cmo 0#32 (cat X k))) ∧ Sm wr w.heap.size 0 ((cat X k).length : Nat) (cmo 0#32 (cat X k)) ∧ Hid (B ≤ wr.heap.size) ∧ Below w.heap.size w wr) (fun _ _ _ i _ _ => m - (intOf i).toNat)
  case atStart => exact ⟨0, Nat.zero_le _, rfl, by unfold cat; exact Ow.nil _ _, rfl, rfl, (by have e1 : cmo 0#32 (cat X 0) = 0#32 := (by unfold cat cmo; rw [ov_nil, BitVec.not_not]); have e2 : (cat X 0).length = 0 := (by unfold cat; rfl); rw [e1, e2]; exact hS3), hBw, d3⟩
  case round =>
    clear hS3 hBw d3
    obtain ⟨k, hk, rfl, hO, rfl, rfl, hS, hBw, hb⟩ := hrel
    by_cases hlt : k < m
    · have hi : (k : Int) < (m : Int) := by omega
      obtain ⟨bq, oq, rfl, hc, hr, hnc⟩ := H1.out k hlt
      have g1 := cell_below hc hb
      have hsum : (cat X k).length + (X k).length ≤ 1048576 := by
        have h1 := cat_le X m (k + 1) (by omega)
        rw [cat_succ, List.length_append] at h1; omega
      have eU : IntKind.u64.wrap (((cat X k).length : Nat) + ((X k).length : Nat) : Int) = (((cat X k ++ X k).length : Nat) : Int) := by rw [IntKind.wrap_u64, List.length_append]; omega
      have eJ : stps (8 * ((X k).length : Int).toNat) (cmo 0#32 (cat X k)) ^^^ cmo 0#32 (X k) = cmo 0#32 (cat X k ++ X k) := by rw [Int.toNat_natCast]; exact join_app _ _
      have eM := cmo_app 0#32 (cat X k) (X k)
      have hcs := cat_succ X k
      have HCS : Hid (cat X (k + 1) = cat X k ++ X k) := hcs
      have hlen : (X k).length ≤ 140737488355328 := by omega
      clear hc hcs
      generalize cat X k = A at *
      generalize hXk : X k = Y at *
      generalize Pp k = P at *
      generalize Cc k = C at *
      obtain ⟨pv, cv, rfl⟩ := hO.len
      go_wp2_with (first | (at_builtin; refine wpList_appx rfl (.tmp 25) (.tmp 26) rfl B _ A rfl hO P Y.length C Y rfl (hr.below hb) rfl hnc (by omega) hBw.out ?_; intro v4 w4 hO4 hg4; have d4 := hO.below_append hb hb.size hg4 (Nat.le_of_lt HG.out); have hS4 := hS.grown hg4 hO HG.out; have z4 : B ≤ w4.heap.size := Nat.le_trans hBw.out hg4.size) | (go_at_call 10; refine (cmore_any (hr.below d4) (cmo 0#32 A) Y.length C rfl hlen).mono ?_; rw [eM]; rintro e w5 ⟨rfl, hb5⟩; have d5 := bt d4 hb5; have hS5 := hS4.below hb5; have hO5 := hO4.below hb5) | (go_at_call 9; refine (csum_any (hr.below d5) Y.length C rfl hlen).mono ?_; rintro e w6 ⟨rfl, hb6⟩; have d6 := bt d5 hb6; have hS6 := hS5.below hb6; have hO6 := hO5.below hb6) | (go_at_call 11; refine (join_any (cmo 0#32 A) (cmo 0#32 Y) (Y.length : Int) _).mono ?_; rw [eJ]; rintro e w7 ⟨rfl, hb7⟩; have d7 := bt d6 hb7; have hS7 := hS6.below hb7; have hO7 := hO6.below hb7) | (go_at_call 12; refine (swrite_any hS7 (hr.below d7) Y.length C rfl hlen).mono ?_; rintro e w8 ⟨wx, rfl, hbx, hw⟩; rw [eU, eM] at hw; have hS8 : Sm w8 w.heap.size 0 (((A ++ Y).length : Nat) : Int) (cmo 0#32 (A ++ Y)) := (by rw [hw]; exact (hS7.below hbx).wrote); have hO8 : Ow w8 B v4 (A ++ Y) := (by rw [hw]; exact ((hO7.below hbx).other (a := ⟨w.heap.size, 0 + 1, none⟩) HG.out rfl).other (a := ⟨w.heap.size, 0, none⟩) HG.out rfl); have d8 : Below w.heap.size w w8 := (by rw [hw]; exact ((bt d7 hbx).setCell (p := ⟨w.heap.size, 0 + 1, none⟩) (Nat.le_refl _) _).setCell (p := ⟨w.heap.size, 0, none⟩) (Nat.le_refl _) _); have z8 : B ≤ w8.heap.size := (by rw [hw]; have t5 := hb5.size; have t6 := hb6.size; have t7 := hb7.size; have tx := hbx.size; simp; omega); clear hw hbx))
      go_roundw
      case rel => exact ⟨k + 1, by omega, by go_num, by rw [HCS.out]; exact hO8, by rw [HCS.out], by rw [HCS.out], by rw [HCS.out]; exact hS8, z8, d8⟩
      case measure => simp [intOf]; omega
    · obtain rfl : k = m := by omega
      obtain ⟨pa, ca, rfl⟩ := hO.len
      have s1 : ∀ W : World, Calls Try.prog 9 #[.slice none 0 0] W fun e w' => e = .returned (.int .u32 (rg (cmo 0#32 (suf X k 0)))) ∧ Below W.heap.size W w' := fun W => by unfold suf; exact s0 W
      have hz : (suf X k 0).length = 0 := by unfold suf; rfl
      go_wp2_with (go_at_call 9; refine (s1 _).mono ?_; rintro e w4 ⟨rfl, hb4⟩)
      have d4 := bt hb hb4
      have hS4 := hS.below hb4
      have hO4 := hO.below hb4
      clear hS hO hb hb4 hBw s1
      go_loopw [9, 10, 11] (fun r n i wr => ∃ (j : Nat) (z : Int), j ≤ k ∧ z = (k : Int) - 1 - (j : Int) ∧ r = .int .u32 (rg (cmo 0#32 (suf X k j))) ∧ n = .int .i64 ((suf X k j).length : Nat) ∧ i = .int .i64 z ∧ Ow wr B (.slice pa (cat X k).length ca) (cat X k) ∧ Sm wr w.heap.size 0 ((cat X k).length : Nat) (cmo 0#32 (cat X k)) ∧ Below w.heap.size w wr) (fun _ _ i _ => (intOf i + 1).toNat)
      case atStart => exact ⟨0, _, Nat.zero_le _, by go_num, rfl, by rw [hz]; rfl, rfl, hO4, hS4, d4⟩
      case round =>
        clear hO4 hS4 d4 hz
        obtain ⟨j, z, hj, hzj, rfl, rfl, rfl, hO, hS, hb⟩ := hrel
        by_cases hlt : j < k
        · obtain ⟨i, hi⟩ : ∃ i : Nat, i = k - 1 - j := ⟨_, rfl⟩
          obtain rfl : z = (i : Int) := by omega
          have hik : (i : Int) < (k : Int) := by omega
          obtain ⟨bq, oq, rfl, hc, hr, hnc⟩ := H1.out i (by omega)
          have g1 := cell_below hc hb
          have hss : suf X k (j + 1) = X i ++ suf X k j := by rw [hi]; exact suf_succ X k j
          have hcs := cat_suf X k (j + 1) (by omega)
          have hl2 : (X i).length + (suf X k j).length ≤ 1048576 := by
            have h1 : (cat X (k - (j + 1)) ++ suf X k (j + 1)).length = (cat X k).length := by rw [hcs]
            rw [List.length_append, hss, List.length_append] at h1; omega
          have eJ : stps (8 * ((suf X k j).length : Int).toNat) (cmo 0#32 (X i)) ^^^ cmo 0#32 (suf X k j) = cmo 0#32 (X i ++ suf X k j) := by rw [Int.toNat_natCast]; exact join_app _ _
          have HSS : Hid (suf X k (j + 1) = X i ++ suf X k j) := hss
          have hlen : (X i).length ≤ 140737488355328 := by omega
          have hiz : Hid ((i : Int) - 1 = (k : Int) - 1 - ((j + 1 : Nat) : Int)) := by show _ = _; omega
          clear hc hss hcs hi hzj
          generalize suf X k j = A at *
          generalize hXk : X i = Y at *
          generalize Pp i = P at *
          generalize Cc i = C at *
          go_wp2_with (first | (go_at_call 9; refine (csum_any (hr.below hb) Y.length C rfl hlen).mono ?_; rintro e w6 ⟨rfl, hb6⟩; have d6 := bt hb hb6; have hS6 := hS.below hb6; have hO6 := hO.below hb6; have g6 := cell_below g1 hb6) | (go_at_call 11; refine (join_any (cmo 0#32 Y) (cmo 0#32 A) (A.length : Int) _).mono ?_; rw [eJ]; rintro e w7 ⟨rfl, hb7⟩; have d7 := bt d6 hb7; have hS7 := hS6.below hb7; have hO7 := hO6.below hb7; have g7 := cell_below g6 hb7))
          go_roundw
          case rel => exact ⟨j + 1, _, by omega, hiz.out, by rw [HSS.out], by rw [HSS.out, List.length_append]; go_num, rfl, hO7, hS7, d7⟩
          case measure => simp [intOf]
        · obtain rfl : j = k := by omega
          have hzn : z = -1 := by omega
          subst hzn
          have hcs : suf X j j = cat X j := by
            have := cat_suf X j j (Nat.le_refl _)
            rw [Nat.sub_self, show cat X 0 = [] by unfold cat; rfl, List.nil_append] at this
            exact this
          rw [hcs]
          have hl9 : (cat X j).length ≤ 140737488355328 := by omega
          generalize cat X j = A at *
          go_wp2_with (first | (go_at_call 9; refine (csum_any hO.rds A.length ca rfl hl9).mono ?_; rintro e w6 ⟨rfl, hb6⟩; have d6 := bt hb hb6; have hS6 := hS.below hb6) | (go_at_call 13; refine (known_any _).mono ?_; rintro e w7 ⟨rfl, hb7⟩; have d7 := bt d6 hb7; have hS7 := hS6.below hb7) | (go_at_call 14; refine (ssum_any hS7).mono ?_; rintro e w' ⟨rfl, hw⟩; rw [hw]; clear hw) | (go_at_call 15; refine (slen_any hS7).mono ?_; rintro e w' ⟨rfl, hw⟩; rw [hw]; clear hw))
          go_ret
          exact ⟨rfl, d7⟩
end
end Go.Proofs.Ytmpccpcnbenpfab
