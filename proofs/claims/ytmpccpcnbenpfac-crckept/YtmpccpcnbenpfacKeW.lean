/-
  CrcKept: its walk.
-/
import Derived.Test.YtmpccpcnbenpfacLd
import Derived.Test.YtmpccpcnbenpfacLcW
import Derived.Test.YtmpccpcnbenpfacSm
namespace Go.Proofs.Ytmpccpcnbenpfac
open Go.RowKit Go.Great
def m8 : List (BitVec 8) := [77, 78, 79, 80, 81, 82, 83, 84]
theorem rd_m8 (W : World) : Rd (W.alloc (.cells #[.int .u8 77, .int .u8 78, .int .u8 79, .int .u8 80, .int .u8 81, .int .u8 82, .int .u8 83, .int .u8 84] 5)) (some ⟨W.heap.size, 0, none⟩) m8 := rd_newl W m8 _ _
theorem m8_at (i : Nat) (h : i < 8) : el (fn m8 i) = 77 + (i : Int) := by
  have : i = 0 ∨ i = 1 ∨ i = 2 ∨ i = 3 ∨ i = 4 ∨ i = 5 ∨ i = 6 ∨ i = 7 := by omega
  rcases this with rfl | rfl | rfl | rfl | rfl | rfl | rfl | rfl <;> rfl
theorem Ow.wrc {w : World} {base : Nat} {v : Value} {xs : List (BitVec 8)} (h : Ow w base v xs) (h0 : 0 < xs.length) : ∃ g cap, v = .slice (some ⟨g, 0, none⟩) xs.length cap ∧ base ≤ g ∧ xs.length ≤ cap ∧ Wr w g xs := by
  obtain ⟨p, c, e, hc, _⟩ := h.rd
  obtain ⟨g, c2, e2, hg, hW⟩ := h.wr h0
  rw [e] at e2
  injection e2 with e3 _ e4
  subst e3 e4
  exact ⟨g, c, e, hg, hc, hW⟩
theorem Wr.other {w W : World} {g : Nat} {xs : List (BitVec 8)} {p : Addr} {u : Value} (h : Wr w g xs) (hp : g ≠ p.block) (e : W.heap = (w.setCell p u).heap) : Wr W g xs := by
  obtain ⟨cur, hh, hs, hc⟩ := h
  exact ⟨cur, by rw [e, heap_setCell_other w p g u hp]; exact hh, hs, hc⟩
theorem Sm.other {w : World} {b o : Nat} {c : Int} {r : BitVec 32} {p : Addr} {u : Value} (h : Sm w b o c r) (hp : p.block ≠ b) : Sm (w.setCell p u) b o c r := by
  obtain ⟨h1, h2, h3, h4⟩ := h
  have n1 : p ≠ ⟨b, o, none⟩ := fun e => hp (by rw [e])
  have n2 : p ≠ ⟨b, o + 1, none⟩ := fun e => hp (by rw [e])
  exact ⟨by rw [World.cell?_setCell_other _ _ _ _ n1]; exact h1, by rw [World.cell?_setCell_other _ _ _ _ n2]; exact h2, by simp [h3], by simp [h4]⟩
theorem Wr.rdt {w : World} {g : Nat} {xs ys : List (BitVec 8)} (h : Wr w g xs) (n : Nat) (e : xs.take n = ys) : Rd w (some ⟨g, 0, none⟩) ys := by rw [← e]; exact h.rd.take n
theorem fn_take (xs : List (BitVec 8)) (n i : Nat) (h : i < n) : fn (xs.take n) i = fn xs i := by unfold fn; simp [List.getD, List.getElem?_take_of_lt h]
theorem list_ext_fn {xs ys : List (BitVec 8)} (hl : xs.length = ys.length) (h : ∀ i, i < xs.length → fn xs i = fn ys i) : xs = ys := by
  apply List.ext_getElem hl
  intro i h1 h2
  have := h i h1
  unfold fn at this
  simpa [List.getD, List.getElem?_eq_getElem h1, List.getElem?_eq_getElem h2] using this
theorem fn_app_l (a b : List (BitVec 8)) (i : Nat) (h : i < a.length) : fn (a ++ b) i = fn a i := by unfold fn; simp [List.getElem?_append_left h]
theorem fn_app_r (a b : List (BitVec 8)) (i : Nat) : fn (a ++ b) (a.length + i) = fn b i := by unfold fn; simp [List.getElem?_append_right]
section
attribute [local irreducible] Calls rg ov cmo el Ow Wr fn Rd Sm m8
set_option maxHeartbeats 8000000 in
set_option maxRecDepth 1000000 in
theorem crcKept_walk {w : World} {q0 q1 : Option Addr} {x y : List (BitVec 8)} (h0 : Rd w q0 x) (h1 : Rd w q1 y) (n0 n1 k0 k1 : Nat) (l0 : x.length = n0) (l1 : y.length = n1) (c0 : n0 ≤ k0) (c1 : n1 ≤ k1) (mm : k0 ≤ 140737488351232) :
    Calls Try.prog 3 #[.slice q0 n0 k0, .slice q1 n1 k1] w fun e w' => e = .returned (.bool true) ∧ Below w.heap.size w w' := by
  obtain ⟨n, hn⟩ : ∃ n, n = min n0 n1 := ⟨_, rfl⟩
  obtain ⟨a, ha⟩ : ∃ a, a = x.take n := ⟨_, rfl⟩
  obtain ⟨b, hb⟩ : ∃ b, b = y.take n := ⟨_, rfl⟩
  have ra : Rd w q0 a := by rw [ha]; exact h0.take n
  have rb : Rd w q1 b := by rw [hb]; exact h1.take n
  have la : a.length = n := by rw [ha, List.length_take]; omega
  have lb : b.length = n := by rw [hb, List.length_take]; omega
  have hm : n ≤ 140737488355328 := by omega
  have b0 : n ≤ n0 := by omega
  have b1 : n ≤ n1 := by omega
  have hm9 : n ≤ 140737488351232 := by omega
  have hmin : min (n0 : Int) (n1 : Int) = (n : Int) := by omega
  have al : ∀ (W : World) (o : Obj), Below W.heap.size W (W.alloc o) := fun W o => (Below.refl _ _).alloc (Nat.le_refl _) o
  have lm : Hid (m8.length = 8) := by unfold m8; rfl
  have q5 : rg 5#32 = 5 := by unfold rg; rfl
  have M5 : ∀ {W : World} {p : Option Addr} {c : Nat} {l : List (BitVec 8)}, Rd W p l → l.length = n → Calls Try.prog 6 #[.int .u32 5, .slice p n c] W fun e w' => e = .returned (.int .u32 (rg (cmo 5#32 l))) ∧ Below W.heap.size W w' := by
    intro W p c l hr hl
    have h := cmore_any hr 5#32 n c hl hm
    rwa [q5] at h
  have u1 : IntKind.u64.wrap (0 + (n : Int)) = n := by simp only [IntKind.wrap, IntKind.bits, IntKind.signed]; simp; omega
  have u2 : IntKind.u64.wrap ((n : Int) + (n : Int)) = 2 * (n : Int) := by simp only [IntKind.wrap, IntKind.bits, IntKind.signed]; simp; omega
  clear ha hb h0 h1 hn q5
  go_enter Try.func3, Try.ntmps3
  go_wp2_with (first | (go_at_call 4; refine (twin_any ra n _ la hm).mono ?_; rintro e w1 ⟨v1, rfl, ho1, hb1⟩) | (at_builtin; refine wpList_app rfl (.tmp 25) (.tmp 26) rfl w.heap.size v1 a rfl (ho1.below (al _ _)) ⟨w1.heap.size, 0, none⟩ 8 8 m8 rfl (rd_m8 w1) lm.out (by omega) (balloc hb1 _).size ?_; intro v2 w2 ho2 hg2 hk2; have d2 := (ho1.below (al _ _)).below_append (balloc hb1 _) (balloc hb1 _).size hg2 (Nat.le_refl _); obtain ⟨g, cg, rfl, hg, hcg, hW2⟩ := ho2.wrc (by rw [List.length_append, lm.out]; omega); have lam : (a ++ m8).length = n + 8 := (by rw [List.length_append, la, lm.out]); rw [lam] at hcg ⊢; clear ho1 ho2 hg2 hk2) | (go_at_call 5; refine (csum_any (hW2.rdt n (by rw [← la]; exact List.take_left)) n cg la hm).mono ?_; rintro e w3 ⟨rfl, hb3⟩; have d3 := bt d2 hb3; have hW3 := hW2.below hb3) | (go_at_call 6; refine (M5 (hW3.rdt n (by rw [← la]; exact List.take_left)) la).mono ?_; rintro e w4 ⟨rfl, hb4⟩; have d4 := bt d3 hb4; have hW4 := hW3.below hb4) | (go_at_call 7; refine (cblind_any (hW4.rdt n (by rw [← la]; exact List.take_left)) n cg la hm).mono ?_; rintro e w5 ⟨rfl, hb5⟩; have d5 := bt d4 hb5; have hW5 := hW4.below hb5) | (refine wpList_allocSm rfl rfl (some 11) rfl ?_; intro w6 hS6 hG6; have d6 := hG6.below d5 d5.size; have hW6 := hW5.below hG6.2; have hgs : Hid (g < w5.heap.size ∧ w.heap.size ≤ w5.heap.size) := ⟨hW5.lt, d5.size⟩) | (go_at_call 8; refine (swrite_any hS6 (hW6.rdt n (by rw [← la]; exact List.take_left)) n cg la hm).mono ?_; rintro e w7 ⟨wx, rfl, hbx, hw⟩; rw [u1] at hw; have hS7 : Sm w7 w5.heap.size 0 (n : Int) (cmo 0#32 a) := (by rw [hw]; exact (hS6.below hbx).wrote); have hW7 : Wr w7 g (a ++ m8) := (by rw [hw]; exact ((hW6.below hbx).other (p := ⟨w5.heap.size, 0 + 1, none⟩) (by have := hgs.out.1; show g ≠ w5.heap.size; omega) rfl).other (p := ⟨w5.heap.size, 0, none⟩) (by have := hgs.out.1; show g ≠ w5.heap.size; omega) rfl); have d7 : Below w.heap.size w w7 := (by rw [hw]; exact ((bt d6 hbx).setCell (p := ⟨w5.heap.size, 0 + 1, none⟩) hgs.out.2 _).setCell (p := ⟨w5.heap.size, 0, none⟩) hgs.out.2 _); clear hw hbx hS6 hW6) | (go_at_call 4; refine (twin_any (ra.below d7) n _ la hm).mono ?_; rintro e w8 ⟨v8, rfl, ho8, hb8⟩; obtain ⟨p8, c8, rfl, _, r8⟩ := ho8.rd; have d8 := bt d7 hb8; have hW8 := hW7.below hb8; have hS8 := hS7.below hb8; clear ho8) | (go_at_call 5; refine (csum_any r8 n c8 la hm).mono ?_; rintro e w9 ⟨rfl, hb9⟩; have d9 := bt d8 hb9; have hW9 := hW8.below hb9; have hS9 := hS8.below hb9) | (go_at_call 4; refine (twin_any (ra.below d9) n _ la hm).mono ?_; rintro e w10 ⟨v10, rfl, ho10, hb10⟩; obtain ⟨p10, c10, rfl, _, r10⟩ := ho10.rd; have d10 := bt d9 hb10; have hW10 := hW9.below hb10; have hS10 := hS9.below hb10; clear ho10) | (go_at_call 6; refine (M5 r10 la).mono ?_; rintro e w11 ⟨rfl, hb11⟩; have d11 := bt d10 hb11; have hW11 := hW10.below hb11; have hS11 := hS10.below hb11) | (go_at_call 4; refine (twin_any (ra.below d11) n _ la hm).mono ?_; rintro e w12 ⟨v12, rfl, ho12, hb12⟩; obtain ⟨p12, c12, rfl, _, r12⟩ := ho12.rd; have d12 := bt d11 hb12; have hW12 := hW11.below hb12; have hS12 := hS11.below hb12; clear ho12) | (go_at_call 7; refine (cblind_any r12 n c12 la hm).mono ?_; rintro e w13 ⟨rfl, hb13⟩; have d13 := bt d12 hb13; have hW13 := hW12.below hb13; have hS13 := hS12.below hb13) | (go_at_call 9; refine (ssum_any hS13).mono ?_; rintro e w14 ⟨rfl, hw⟩; rw [hw]; clear hw))
  obtain ⟨gs, hgs'⟩ : ∃ gs, gs = w5.heap.size := ⟨_, rfl⟩
  rw [← hgs'] at hgs hS13 ⊢
  clear hgs' hG6 hS7 hS8 hS9 hS10 hS11 hS12 hW2 hW3 hW4 hW5 hW7 hW8 hW9 hW10 hW11 hW12 d2 d3 d4 d5 d6 d7 d8 d9 d10 d11 d12 hb1 hb3 hb4 hb5 hb8 hb9 hb10 hb11 hb12 hb13 r8 r10 r12
  go_loopw [12] (fun i wr => ∃ k : Nat, k ≤ n ∧ i = .int .i64 k ∧ Wr wr g (a ++ m8) ∧ Sm wr gs 0 (n : Int) (cmo 0#32 a) ∧ Below w.heap.size w wr) (fun i _ => n - (intOf i).toNat)
  case atStart => exact ⟨0, Nat.zero_le _, rfl, hW13, hS13, d13⟩
  case round =>
    clear hW13 hS13 d13
    obtain ⟨k, hk, rfl, hW, hS, hb⟩ := hrel
    by_cases hlt : k < n
    · have hi : (k : Int) < (n : Int) := by omega
      have g1 := hW.cell (i := k) (by omega)
      rw [fn_app_l a m8 k (by omega)] at g1
      obtain ⟨bx, ox, hq, g2⟩ : ∃ b o, q0 = some ⟨b, o, none⟩ ∧ wr.cell? ⟨b, o + k, none⟩ = some (.int .u8 (el (fn a k))) := by
        have r1 := ra.below hb
        unfold Rd at r1
        rcases r1 with e | ⟨b, o, e, hc⟩
        · rw [e] at la; simp at la; omega
        · exact ⟨b, o, e, by unfold fn; exact hc k (by omega)⟩
      subst hq
      go_wp2_with (fail)
      go_quiet (fail)
      go_wp2_with (fail)
      go_roundw
      case rel => exact ⟨k + 1, by omega, by go_num, hW.below (bdn (Below.refl _ _) _), hS.below (bdn (Below.refl _ _) _), bdn hb _⟩
      case measure => simp [intOf]; omega
    · obtain rfl : k = n := by omega
      go_wp2_with (fail)
      go_loopw [13] (fun i wr => ∃ j : Nat, j ≤ 8 ∧ i = .int .i64 j ∧ Wr wr g (a ++ m8) ∧ Sm wr gs 0 (k : Int) (cmo 0#32 a) ∧ Below w.heap.size w wr) (fun i _ => 8 - (intOf i).toNat)
      case atStart => exact ⟨0, Nat.zero_le _, rfl, hW, hS, hb⟩
      case round =>
        clear hW hS hb
        obtain ⟨j, hj, rfl, hW, hS, hb⟩ := hrel
        by_cases hlj : j < 8
        · have hi : (j : Int) < 8 := by omega
          have hi2 : (k : Int) + (j : Int) < (k : Int) + 8 := by omega
          have g1 := hW.cell (i := k + j) (by omega)
          rw [show fn (a ++ m8) (k + j) = fn m8 j by rw [← la]; exact fn_app_r a m8 j, m8_at j hlj] at g1
          have h77 : (77 + (j : Int)) % 256 = 77 + (j : Int) := by omega
          go_wp2_with (fail)
          go_roundw
          case rel => exact ⟨j + 1, by omega, by go_num, hW, hS, hb⟩
          case measure => simp [intOf]; omega
        · obtain rfl : j = 8 := by omega
          go_wp2_with (first | (go_at_call 5; refine (csum_any (hW.rdt k (by rw [← la]; exact List.take_left)) k cg la hm).mono ?_; rintro e w15 ⟨rfl, hb15⟩; have d15 := bt hb hb15; have hW15 := hW.below hb15; have hS15 := hS.below hb15) | (go_at_call 6; refine (M5 (hW15.rdt k (by rw [← la]; exact List.take_left)) la).mono ?_; rintro e w16 ⟨rfl, hb16⟩; have d16 := bt d15 hb16; have hW16 := hW15.below hb16; have hS16 := hS15.below hb16) | (go_at_call 7; refine (cblind_any (hW16.rdt k (by rw [← la]; exact List.take_left)) k cg la hm).mono ?_; rintro e w17 ⟨rfl, hb17⟩; have d17 := bt d16 hb17; have hW17 := hW16.below hb17; have hS17 := hS16.below hb17))
          clear hW hS hb hW15 hW16 hS15 hS16 d15 d16 hb15 hb16 hb17
          go_loopw [14] (fun i wr => ∃ (c : Nat) (L : List (BitVec 8)), c ≤ k ∧ i = .int .i64 c ∧ L.length = k + 8 ∧ Hid (∀ t, t < k → fn L t = if t < c then fn b t else fn a t) ∧ Wr wr g L ∧ Sm wr gs 0 (k : Int) (cmo 0#32 a) ∧ Below w.heap.size w wr) (fun i _ => k - (intOf i).toNat)
          case atStart => exact ⟨0, a ++ m8, Nat.zero_le _, rfl, lam, (fun t ht => by rw [if_neg (by omega), fn_app_l a m8 t (by omega)]), hW17, hS17, d17⟩
          case round =>
            clear hW17 hS17 d17
            obtain ⟨c, L, hc, rfl, hL, hf, hW, hS, hb⟩ := hrel
            by_cases hlc : c < k
            · have hi : (c : Int) < (k : Int) := by omega
              have g1 := hW.cell (i := c) (by omega)
              have g3 := hW.frozen c
              obtain ⟨bx, ox, hq, g2⟩ : ∃ b' o, q1 = some ⟨b', o, none⟩ ∧ wr.cell? ⟨b', o + c, none⟩ = some (.int .u8 (el (fn b c))) := by
                have r1 := rb.below hb
                unfold Rd at r1
                rcases r1 with e | ⟨b', o, e, hcc⟩
                · rw [e] at lb; simp at lb; omega
                · exact ⟨b', o, e, by unfold fn; exact hcc c (by omega)⟩
              subst hq
              go_wp2_with (fail)
              go_roundw
              case rel => exact ⟨c + 1, L.set c (fn b c), by omega, by go_num, by rw [List.length_set]; exact hL, (fun t ht => by
                  by_cases e : t = c
                  · subst e
                    rw [if_pos (by omega)]
                    unfold fn; simp [show t < L.length by omega]
                  · have h2 := hf.out t ht
                    have h3 : fn (L.set c (fn b c)) t = fn L t := by unfold fn; simp [List.getElem?_set_ne (fun h => e h.symm)]
                    rw [h3, h2]
                    by_cases h4 : t < c
                    · rw [if_pos h4, if_pos (by omega)]
                    · rw [if_neg h4, if_neg (by omega)]), hW.set (by omega) rfl, hS.other (by have := hgs.out.1; show g ≠ gs; omega), hb.setCell (by show w.heap.size ≤ g; exact hg) _⟩
              case measure => simp [intOf]; omega
            · obtain rfl : c = k := by omega
              have hLb : L.take c = b := list_ext_fn (by rw [List.length_take]; omega) (fun i hi => by
                have hi' : i < c := by rw [List.length_take] at hi; omega
                rw [fn_take L c i hi', hf.out i hi', if_pos hi'])
              go_wp2_with (first | (go_at_call 8; refine (swrite_any hS (hW.rdt c hLb) c cg lb hm).mono ?_; rintro e w18 ⟨wx, rfl, hbx, hw⟩; rw [u2] at hw; have hS18 : Sm w18 gs 0 (2 * (c : Int)) (cmo (cmo 0#32 a) b) := (by rw [hw]; exact (hS.below hbx).wrote); have hW18 : Wr w18 g L := (by rw [hw]; exact ((hW.below hbx).other (p := ⟨gs, 0 + 1, none⟩) (by have := hgs.out.1; show g ≠ gs; omega) rfl).other (p := ⟨gs, 0, none⟩) (by have := hgs.out.1; show g ≠ gs; omega) rfl); have d18 : Below w.heap.size w w18 := (by rw [hw]; exact ((bt hb hbx).setCell (p := ⟨gs, 0 + 1, none⟩) hgs.out.2 _).setCell (p := ⟨gs, 0, none⟩) hgs.out.2 _); clear hw hbx) | (go_at_call 4; refine (twin_any (rb.below d18) c _ lb hm).mono ?_; rintro e w19 ⟨v19, rfl, ho19, hb19⟩; obtain ⟨p19, c19, rfl, _, r19⟩ := ho19.rd; have d19 := bt d18 hb19; have hW19 := hW18.below hb19; have hS19 := hS18.below hb19; clear ho19) | (go_at_call 5; refine (csum_any (hW19.rdt c hLb) c cg lb hm).mono ?_; rintro e w20 ⟨rfl, hb20⟩; have d20 := bt d19 hb20; have hW20 := hW19.below hb20; have hS20 := hS19.below hb20; have r20 := r19.below hb20) | (go_at_call 5; refine (csum_any r20 c c19 lb hm).mono ?_; rintro e w21 ⟨rfl, hb21⟩; have d21 := bt d20 hb21; have hW21 := hW20.below hb21; have hS21 := hS20.below hb21; have r21 := r20.below hb21) | (go_at_call 6; refine (M5 (hW21.rdt c hLb) lb).mono ?_; rintro e w22 ⟨rfl, hb22⟩; have d22 := bt d21 hb22; have hW22 := hW21.below hb22; have hS22 := hS21.below hb22; have r22 := r21.below hb22) | (go_at_call 6; refine (M5 r22 lb).mono ?_; rintro e w23 ⟨rfl, hb23⟩; have d23 := bt d22 hb23; have hW23 := hW22.below hb23; have hS23 := hS22.below hb23; have r23 := r22.below hb23) | (go_at_call 7; refine (cblind_any (hW23.rdt c hLb) c cg lb hm).mono ?_; rintro e w24 ⟨rfl, hb24⟩; have d24 := bt d23 hb24; have hW24 := hW23.below hb24; have hS24 := hS23.below hb24; have r24 := r23.below hb24) | (go_at_call 7; refine (cblind_any r24 c c19 lb hm).mono ?_; rintro e w25 ⟨rfl, hb25⟩; have d25 := bt d24 hb25; have hW25 := hW24.below hb25; have hS25 := hS24.below hb25; have r25 := r24.below hb25) | (go_at_call 10; refine (known_any _).mono ?_; rintro e w26 ⟨rfl, hb26⟩; have d26 := bt d25 hb26; have hW26 := hW25.below hb26; have hS26 := hS25.below hb26; have r26 := r25.below hb26) | (go_at_call 9; refine (ssum_any hS26).mono ?_; rintro e w' ⟨rfl, hw⟩; rw [hw]; clear hw) | (go_at_call 6; refine (cmore_any r26 (cmo 0#32 a) c c19 lb hm).mono ?_; rintro e w27 ⟨rfl, hb27⟩; have d27 := bt d26 hb27; have hW27 := hW26.below hb27; have hS27 := hS26.below hb27; have r27 := r26.below hb27) | (go_at_call 11; refine (slen_any hS27).mono ?_; rintro e w' ⟨rfl, hw⟩; rw [hw]; clear hw))
              go_ret
              exact ⟨rfl, d27⟩
end
end Go.Proofs.Ytmpccpcnbenpfac
