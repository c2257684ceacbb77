/-
  HealthRisks: the walk itself.
-/
import Derived.Test.YtcfjinpjijcheabRw27
namespace Go.Proofs.Ytcfjinpjijcheab
open Go.RowKit
attribute [local irreducible] dW dR p2 fR fW fV fval sW sR
def wasv (L : List Nat) (m : Nat) : Nat := if m = 0 then 4607182418800017408 else chm L (m - 1)
theorem wasv_ok {L : List Nat} (h : ∀ f ∈ L, isCh f = true) (hl : L.length ≤ 255) (m : Nat) : Cn 0 (wasv L m) ∧ chm L m ≤ wasv L m := by
  unfold wasv
  split
  · refine ⟨cn_one 0, ?_⟩
    have := chm_cn h hl m
    unfold Cn at this
    omega
  · rename_i h0
    obtain ⟨i, rfl⟩ : ∃ i, m = i + 1 := ⟨m - 1, by omega⟩
    exact ⟨chm_cn h hl _, chm_mono h hl _⟩
theorem wasv_succ (L : List Nat) (m : Nat) : wasv L (m + 1) = chm L m := by unfold wasv; rw [if_neg (by omega), Nat.add_sub_cancel]
theorem le_order {x y : Nat} (hx : Cn 0 x) (hy : Cn 0 y) (h : x ≤ y) : (FloatKind.f64.format.order x y == some .lt || FloatKind.f64.format.order x y == some .eq) = true := by
  rw [cn_order hx hy]
  by_cases h0 : x = y
  · rw [Nat.compare_eq_eq.2 h0]; rfl
  · rw [Nat.compare_eq_lt.2 (by omega)]; rfl
theorem cutF (g n : Nat) (c : Nat) (h : 1 ≤ c) (o : Nat) : ∀ w', (Instr.slice 28 (.slice (some ⟨g, o, none⟩) n c) none (some (.int .i64 1)) none).run Try.prog w' = .ok (.slice (some ⟨g, o, none⟩) 1 c) w' := by
  have hu : Try.prog.underlying 28 = some (.slice (Try.prog.elem 28)) := by kernel_rfl
  have hz : ∀ w', (sizeOf (Try.prog.elem 28)).run Try.prog w' = .ok 1 w' := fun w' => by
    obtain ⟨i0, hi, hz0, hz1, hz2⟩ := info_parts infoF
    have e : Try.prog.elem 28 = 22 := by kernel_rfl
    rw [e]
    simp [sizeOf, typeInfo, hi, hz1]
  intro w'
  have e' : sliced (some ⟨g, o, none⟩) 0 1 c 1 = .slice (some ⟨g, o, none⟩) 1 c := by
    unfold sliced
    rw [if_neg (by omega), Nat.mul_one]
    congr 1
  rw [run_slice_h w' 28 _ n c hu .i64 1 (by omega) (by omega), hz]
  exact congrArg (fun v => Result.ok v w') e'
section
attribute [local irreducible] Calls wi wil chm wasv chv
set_option maxRecDepth 1000000 in
set_option maxHeartbeats 8000000 in
theorem healthRisks_walk {w : World} {a : Option Addr} {xs : List Nat} (h : Fr w a xs) (n c : Nat) (hn : xs.length = n) (hm : n ≤ 140737488355328) :
    Calls Try.prog 7 #[.slice a n c] w fun e w' => e = .returned (.bool true) ∧ Below w.heap.size w w' := by
  have AW := (show Hid _ from awake_any w)
  have HH := (show Hid (Fr w a xs) from h)
  obtain ⟨N, hN⟩ : ∃ N, N = min n 255 := ⟨_, rfl⟩
  have hN2 : N ≤ 255 := by omega
  have hch := wil_ch xs N
  have hlen := wil_len xs N (by omega)
  obtain ⟨L, hL⟩ : ∃ L, Hid (wil xs N = L) := ⟨_, rfl⟩
  rw [hL.out] at hch hlen
  have HCH := (show Hid _ from hch)
  have HN := (show Hid _ from hN)
  clear h hch hN
  have al := balloc
  have mk : ∀ W : World, (Instr.makeSlice 28 (.int .i64 (N : Int)) (.int .i64 (N : Int))).run Try.prog W = .ok (.slice (some ⟨W.heap.size, 0, none⟩) N N) (W.alloc (.cells (fc (List.replicate N 0)).toArray 22)) := fun W => by
    rw [show fc (List.replicate N 0) = List.replicate N (Value.float .f64 0) by simp [fc]]
    exact make_F N (by omega) W
  go_enter Try.func7, Try.ntmps7
  go_wp2_with (first
    | (go_at_call 9; refine AW.out.mono ?_; rintro e w1 ⟨rfl, hb1⟩)
    | (go_at_call 18; refine (within_any (HH.out.below hb1) n c hn hm).mono ?_; rintro e w2 ⟨v, rfl, hO, hb2⟩; rw [← HN.out, hL.out] at hO; obtain ⟨p, cp, rfl, hcp, hF⟩ := hO.rd; rw [hlen] at hcp ⊢))
  have HF := (show Hid (Fr w2 p L) from hF)
  have HB2 := (show Hid (Below w.heap.size w w2) from bt hb1 hb2)
  obtain ⟨W3, hW3⟩ : ∃ W3, W3 = w2.alloc (.cells (fc (List.replicate N 0)).toArray 22) := ⟨_, rfl⟩
  have HZ : Hid (Bl W3 22 w2.heap.size (fc (List.replicate N 0))) := by
    show Bl _ _ _ _
    rw [hW3]
    exact bl_new _ _ _
  have HB3 : Hid (Below w2.heap.size w2 W3) := by show Below _ _ _; rw [hW3]; exact balloc _ _
  rw [← hW3]
  clear hW3 hO hF hb1 hb2 AW mk
  go_loopw [5, 6] (fun o i wr => ∃ t : Nat, t ≤ N ∧ i = .int .i64 (t : Int) ∧ Of wr W3.heap.size o (List.replicate t 4607182418800017408) ∧ Below W3.heap.size W3 wr) (fun _ i _ => N - (intOf i).toNat)
  case atStart => exact ⟨0, Nat.zero_le _, rfl, Of.nil _ _, Below.refl _ _⟩
  case round =>
    obtain ⟨t, ht, rfl, hO, hb⟩ := hrel
    have hsz := hb.size
    by_cases hlt : t < N
    · have hi : (t : Int) < (N : Int) := by omega
      have r1 : Fr (wr.alloc (.cells #[.float .f64 4607182418800017408] 22)) (some ⟨wr.heap.size, 0, none⟩) [4607182418800017408] := (bl_new wr 22 [.float .f64 4607182418800017408]).rd
      go_wp2_with (at_builtin; refine wpList_apF rfl (.tmp 30) (.tmp 31) rfl W3.heap.size u5 (List.replicate t 4607182418800017408) rfl (hO.below (al _ _)) (some ⟨wr.heap.size, 0, none⟩) 1 1 [4607182418800017408] rfl r1 rfl (by simp; omega) (Nat.le_trans hsz (al _ _).size) ?_; intro v2 w4 ho2 hg2)
      go_roundw
      case rel => exact ⟨t + 1, hlt, by go_num, by rw [List.replicate_succ']; exact ho2, below_append (t := 22) (hb.alloc hsz _) (Nat.le_trans hsz (al _ _).size) hg2 (hO.below (al _ _)) (Nat.le_refl _)⟩
      case measure => simp [intOf]; omega
    · obtain rfl : t = N := by omega
      obtain ⟨p1, cp1, rfl, hcp1, hF1⟩ := hO.rd
      rw [List.length_replicate] at hcp1 ⊢
      obtain ⟨V, hV⟩ : ∃ V, V = wr := ⟨_, rfl⟩
      subst hV
      have H1 := (show Hid (Fr V p1 (List.replicate t 4607182418800017408)) from hF1)
      have H0 : Hid (Fr V (some ⟨w2.heap.size, 0, none⟩) (List.replicate t 0)) := Fr.below (show Fr W3 _ _ from (Bl.rd HZ.out)) hb
      have HL : Hid (Fr V p L) := HF.out.below (bt HB3.out hb)
      have HBV : Hid (Below w.heap.size w V) := bt HB2.out (bt HB3.out hb)
      clear hO hF1 hb HZ HF HB3
      go_wp2
      go_loopw [7, 8] (fun o i wr => ∃ m : Nat, m ≤ t + 2 ∧ i = .int .i64 (m : Int) ∧ o = .float .f64 (wasv L m) ∧ Below V.heap.size V wr) (fun _ i _ => t + 2 - (intOf i).toNat)
      case atStart => exact ⟨0, Nat.zero_le _, rfl, by unfold wasv; rfl, Below.refl _ _⟩
      case round =>
        obtain ⟨m, hm2, rfl, rfl, hbm⟩ := hrel
        by_cases hlm : m ≤ t + 1
        · have hmi : (m : Int) ≤ (t : Int) + 1 := by omega
          have C1 := (show Hid _ from fun (W : World) (hW : Below V.heap.size V W) => chance_any (HL.out.below hW) t cp (m : Int) hlen (by omega))
          have C2 := (show Hid _ from fun (W : World) (hW : Below V.heap.size V W) => chance_any (H0.out.below hW) t t (m : Int) (by simp) (by omega))
          have C3 := (show Hid _ from fun (W : World) (hW : Below V.heap.size V W) => chance_any (H1.out.below hW) t cp1 (m : Int) (by simp) (by omega))
          rw [chv_chm HCH.out (by omega) m] at C1
          rw [chv_chm (L := List.replicate t 0) (fun f hf => by obtain ⟨-, rfl⟩ := List.mem_replicate.1 hf; exact isCh_zero) (by simp; omega) m, chm_zeros t hN2 m] at C2
          rw [chv_chm (L := List.replicate t 4607182418800017408) (fun f hf => by obtain ⟨-, rfl⟩ := List.mem_replicate.1 hf; exact isCh_one) (by simp; omega) m] at C3
          obtain ⟨wc, wl⟩ := wasv_ok HCH.out (by omega) m
          have cc := chm_cn HCH.out (by omega) m
          obtain ⟨k1, k2⟩ := isCh_cn cc
          have k3 := le_order cc wc wl
          have k4 := cn_self (cn_zero 0)
          have k5 := cn_self (cn_one 0)
          have htop : t ≤ m → chm L m = 0 ∧ chm (List.replicate t 4607182418800017408) m = 0 := fun hh => ⟨chm_top m (by omega), chm_top m (by simp; omega)⟩
          have hlow : m < t → chm (List.replicate t 4607182418800017408) m = 4607182418800017408 := fun hh => chm_ones t hN2 m hh
          have hsu := wasv_succ L m
          obtain ⟨y, hy⟩ : ∃ y, chm L m = y := ⟨_, rfl⟩
          obtain ⟨z, hz⟩ : ∃ y, chm (List.replicate t 4607182418800017408) m = y := ⟨_, rfl⟩
          obtain ⟨u, hu⟩ : ∃ y, wasv L m = y := ⟨_, rfl⟩
          rw [hy] at C1 k1 k2 k3 htop hsu
          rw [hz] at C3 htop hlow
          rw [hu] at k3 ⊢
          have HSU := (show Hid _ from hsu)
          clear hy hz hu hsu cc wc wl
          rcases Nat.lt_or_ge m t with hmt | hmt
          · obtain rfl := hlow hmt
            have m1 : ¬ (t : Int) ≤ (m : Int) := by omega
            have m2 : (m : Int) < (t : Int) := by omega
            clear htop hlow
            go_wp2_with (first
              | (go_at_call 19; refine (C1.out _ hbm).mono ?_; rintro e w5 ⟨rfl, hb5⟩)
              | (go_at_call 19; refine (C2.out _ (bt hbm hb5)).mono ?_; rintro e w6 ⟨rfl, hb6⟩)
              | (go_at_call 19; refine (C3.out _ (bt hbm (bt hb5 hb6))).mono ?_; rintro e w7 ⟨rfl, hb7⟩))
            go_roundw
            case rel => exact ⟨m + 1, by omega, by go_num, by rw [HSU.out], bt hbm (bt hb5 (bt hb6 hb7))⟩
            case measure => simp [intOf]; omega
          · obtain ⟨rfl, rfl⟩ := htop hmt
            have m1 : (t : Int) ≤ (m : Int) := by omega
            have m2 : ¬ (m : Int) < (t : Int) := by omega
            clear htop hlow
            go_wp2_with (first
              | (go_at_call 19; refine (C1.out _ hbm).mono ?_; rintro e w5 ⟨rfl, hb5⟩)
              | (go_at_call 19; refine (C2.out _ (bt hbm hb5)).mono ?_; rintro e w6 ⟨rfl, hb6⟩)
              | (go_at_call 19; refine (C3.out _ (bt hbm (bt hb5 hb6))).mono ?_; rintro e w7 ⟨rfl, hb7⟩))
            go_roundw
            case rel => exact ⟨m + 1, by omega, by go_num, by rw [HSU.out], bt hbm (bt hb5 (bt hb6 hb7))⟩
            case measure => simp [intOf]; omega
        · have hmi : ¬ (m : Int) ≤ (t : Int) + 1 := by omega
          by_cases ht0 : 0 < t
          · have hti : (0 : Int) < (t : Int) := by omega
            obtain ⟨bl, ol, rfl, hd⟩ := Fr.at (HL.out.below hbm) (by omega)
            have g1 := hd 0 (by omega)
            have hin : isCh (L.getD 0 0) = true := HCH.out _ (by rw [show L.getD 0 0 = L[0]'(by omega) by simp [List.getD, show 0 < L.length by omega]]; exact List.getElem_mem _)
            obtain ⟨y, hy⟩ : ∃ y, L.getD 0 0 = y := ⟨_, rfl⟩
            rw [hy] at g1 hin
            have HF1 : Hid (Fr wr (some ⟨bl, ol, none⟩) [y]) := .inr ⟨bl, ol, rfl, fun i u hu => by
              match i with
              | 0 => simp [fc] at hu; subst hu; exact g1
              | i + 1 => simp [fc] at hu⟩
            have C4 := (show Hid _ from chance_any HF1.out 1 cp 0 rfl (by omega))
            rw [show (0 : Int) = ((0 : Nat) : Int) from rfl, chv_chm (L := [y]) (fun f hf => by simp at hf; subst hf; exact hin) (by simp) 0] at C4
            have ko : (FloatKind.f64.format.order (chm [y] 0) y == some .eq) = true := by rw [show FloatKind.f64.format.order (chm [y] 0) y = some .eq from chm_one hin]; rfl
            obtain ⟨z, hz⟩ : ∃ z, chm [y] 0 = z := ⟨_, rfl⟩
            rw [hz] at C4 ko
            have cu := cutF bl t cp (by omega) ol
            rw [Nat.add_zero] at g1
            clear hd hy hin hz
            go_wp2_with (go_at_call 19; refine C4.out.mono ?_; rintro e w5 ⟨rfl, hb5⟩; have g2 := cell_below g1 hb5)
            go_ret
            exact ⟨rfl, bt HBV.out (bt hbm hb5)⟩
          · obtain rfl : t = 0 := by omega
            go_wp2
            go_ret
            exact ⟨rfl, bt HBV.out hbm⟩
end
end Go.Proofs.Ytcfjinpjijcheab
