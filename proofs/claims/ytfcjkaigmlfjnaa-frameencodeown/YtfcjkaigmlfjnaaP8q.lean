/-
  Package frame: 'ParseHead', all its ways.
-/
import Derived.Test.YtfcjkaigmlfjnaaP8p
namespace Go.Proofs.Ytfcjkaigmlfjnaa
open Go.RowKit
theorem cutl_le (f : List (BitVec 8)) (a n : Nat) : (cutl f a n).length ≤ n := by unfold cutl; rw [List.length_take]; omega
theorem rhd_in (f key : List (BitVec 8)) : (rhd f key).In := by
  have h4 : ∀ a, lv (cutl f a 4) < 4294967296 := fun a => lv4 _ (cutl_le f a 4)
  have h1 : ∀ a, lv (cutl f a 1) < 256 := fun a => lv1 _ (cutl_le f a 1)
  have i : ∀ z : Nat, z < 4294967296 → In64 (z : Int) := fun z hz => by unfold In64; omega
  exact ⟨i _ (by have := h1 12; omega), i _ (by have := h1 13; omega), i _ (h4 14), i _ (h4 18), i _ (by have := h1 22; omega), i _ (h4 23), i _ (h4 27)⟩
theorem Turned.hd {g g' : Nat} {w w' : World} {h : Hd} (T : Turned g' w w') (H : HdAt w g h) (hne : g ≠ g') : HdAt w' g h := by
  unfold HdAt at *; rw [T.1 g hne]; exact H
theorem rhd_key (f key : List (BitVec 8)) : (rhd f key).key = key := rfl
section
attribute [local irreducible] Calls el Hd.cs cmo rg sm bsm rhd lv cutl kl
set_option maxHeartbeats 4000000 in
set_option maxRecDepth 1000000 in
theorem pHead_sum1 {w : World} {gb go : Nat} {bs : List (BitVec 8)} (hr : Rd w (some ⟨gb, go, none⟩) bs) (n c : Nat) (hn : bs.length = n) (hc : n ≤ c) (hcc : n ≤ 211106232532992) (h1 : ¬ n < 36) (h2 : bs.take 4 = mk8) (h3 : ¬ lv (cutl bs 32 4) = (cmo 0#32 (bs.take 32)).toNat) :
    Calls Try.prog 24 #[.slice (some ⟨gb, go, none⟩) n c] w fun e w' => e = .returned (.tuple #[.agg hd0.cs, .int .i64 82]) ∧ Below w.heap.size w w' := by
  have al : ∀ (W : World) (o : Obj), Below W.heap.size W (W.alloc o) := fun W o => (Below.refl _ _).alloc (Nat.le_refl _) o
  have i0 : ¬ (n : Int) < 36 := by omega
  have kc := Lib.run_convert_bytes_const (P := Try.prog) (w.alloc (.cells #[.int .u8 0, .int .u8 0, .int .u8 0, .int .u8 0, .int .u8 0, .int .u8 0, .int .u8 0, .int .u8 0, .int .i64 0, .int .i64 0, .int .i64 0, .string ⟨#[]⟩, .int .i64 0, .int .i64 0, .int .i64 0, .int .i64 0] 28)) 35 5 #[.int .u8 67, .int .u8 82, .int .u8 78, .int .u8 2] 4 4 Try.underlying35 Try.underlying5
  have rm := rd_mark (w.alloc (.cells #[.int .u8 0, .int .u8 0, .int .u8 0, .int .u8 0, .int .u8 0, .int .u8 0, .int .u8 0, .int .u8 0, .int .i64 0, .int .i64 0, .int .i64 0, .string ⟨#[]⟩, .int .i64 0, .int .i64 0, .int .i64 0, .int .i64 0] 28)) (4, 5)
  rw [World.size_alloc] at kc rm
  have HZ := HdAt.below (hz0 (heap_alloc_new w _)) (al (w.alloc (.cells #[.int .u8 0, .int .u8 0, .int .u8 0, .int .u8 0, .int .u8 0, .int .u8 0, .int .u8 0, .int .u8 0, .int .i64 0, .int .i64 0, .int .i64 0, .string ⟨#[]⟩, .int .i64 0, .int .i64 0, .int .i64 0, .int .i64 0] 28)) (.cells #[.int .u8 67, .int .u8 82, .int .u8 78, .int .u8 2] 5 (4, 5)))
  have hbw := bt (al w (.cells #[.int .u8 0, .int .u8 0, .int .u8 0, .int .u8 0, .int .u8 0, .int .u8 0, .int .u8 0, .int .u8 0, .int .i64 0, .int .i64 0, .int .i64 0, .string ⟨#[]⟩, .int .i64 0, .int .i64 0, .int .i64 0, .int .i64 0] 28)) (al _ (.cells #[.int .u8 67, .int .u8 82, .int .u8 78, .int .u8 2] 5 (4, 5)))
  have HP := (show Hid (∀ (W : World), Below w.heap.size w W → ∀ (q : Option Addr), Rd W q mk8 → _) from fun W hW q hq => hasPrefix_any (hr.below hW) hq n c 4 hn hc rfl (by omega))
  have hL := kl_lt bs
  have SU := (show Hid (∀ (W : World), Below w.heap.size w W → ∀ c', _) from fun W hW c' => csum_any ((hr.below hW).take 32) 32 c' (by rw [List.length_take]; omega) (by omega))
  have S1 := (show Hid (∀ (W : World), Below w.heap.size w W → Calls Try.prog 35 #[.slice (some ⟨gb, go, none⟩) n c, .int .i64 32] W fun e w' => e = .returned (.int .u32 (lv (cutl bs 32 4) : Int)) ∧ Below W.heap.size W w') from fun W hW => sumAt_any (hr.below hW) n c 32 hn hc (by omega) (by omega))
  have hrg : ∀ x : BitVec 32, rg x = (x.toNat : Int) := fun x => by unfold rg; rfl
  have f3 : ((lv (cutl bs 32 4) : Int) != rg (cmo 0#32 (bs.take 32))) = true := by rw [hrg]; simp; omega
  clear hrg
  go_enter Try.func24, Try.ntmps24
  go_wp2_with (first
    | (refine wpList_stH hd0 rfl _ _ rfl rfl w.heap.size rfl (by rw [hd0_cs]; rfl) HZ ?_; intro w9 HZ9 hT9)
    | (go_at_call 34; refine (HP.out _ hbw _ rm).mono ?_; rintro e w2 ⟨rfl, hb⟩; rw [decide_eq_true h2]; replace HZ := HZ.below hb; replace hbw := bt hbw hb)
    | (go_at_call 20; refine (SU.out _ hbw _).mono ?_; rintro e w3 ⟨rfl, hb⟩; replace HZ := HZ.below hb; replace hbw := bt hbw hb; have g31 := Rd.byte (hr.below hbw) 31 (by omega); rw [kl_el] at g31)
    | (go_at_call 35; first | (refine (S1.out _ hbw).mono ?_; rintro e w4 ⟨rfl, hb⟩; replace HZ := HZ.below hb; replace hbw := bt hbw hb; replace g31 := cell_below g31 hb)))
  refine bodyPost_ret (v := .tuple #[.agg hd0.cs, .int .i64 82]) ?_ rfl ⟨rfl, hT9.2.1 _ _ hbw (Nat.le_refl _)⟩
  exact res_hd rfl _ _ w.heap.size hd0 _ rfl rfl HZ9
set_option maxHeartbeats 4000000 in
set_option maxRecDepth 1000000 in
theorem pHead_cut2 {w : World} {gb go : Nat} {bs : List (BitVec 8)} (hr : Rd w (some ⟨gb, go, none⟩) bs) (n c : Nat) (hn : bs.length = n) (hc : n ≤ c) (hcc : n ≤ 211106232532992) (h1 : ¬ n < 36) (h2 : bs.take 4 = mk8) (h3 : lv (cutl bs 32 4) = (cmo 0#32 (bs.take 32)).toNat) (h4 : n < 40 + kl bs) :
    Calls Try.prog 24 #[.slice (some ⟨gb, go, none⟩) n c] w fun e w' => e = .returned (.tuple #[.agg hd0.cs, .int .i64 70]) ∧ Below w.heap.size w w' := by
  have al : ∀ (W : World) (o : Obj), Below W.heap.size W (W.alloc o) := fun W o => (Below.refl _ _).alloc (Nat.le_refl _) o
  have i0 : ¬ (n : Int) < 36 := by omega
  have kc := Lib.run_convert_bytes_const (P := Try.prog) (w.alloc (.cells #[.int .u8 0, .int .u8 0, .int .u8 0, .int .u8 0, .int .u8 0, .int .u8 0, .int .u8 0, .int .u8 0, .int .i64 0, .int .i64 0, .int .i64 0, .string ⟨#[]⟩, .int .i64 0, .int .i64 0, .int .i64 0, .int .i64 0] 28)) 35 5 #[.int .u8 67, .int .u8 82, .int .u8 78, .int .u8 2] 4 4 Try.underlying35 Try.underlying5
  have rm := rd_mark (w.alloc (.cells #[.int .u8 0, .int .u8 0, .int .u8 0, .int .u8 0, .int .u8 0, .int .u8 0, .int .u8 0, .int .u8 0, .int .i64 0, .int .i64 0, .int .i64 0, .string ⟨#[]⟩, .int .i64 0, .int .i64 0, .int .i64 0, .int .i64 0] 28)) (4, 5)
  rw [World.size_alloc] at kc rm
  have HZ := HdAt.below (hz0 (heap_alloc_new w _)) (al (w.alloc (.cells #[.int .u8 0, .int .u8 0, .int .u8 0, .int .u8 0, .int .u8 0, .int .u8 0, .int .u8 0, .int .u8 0, .int .i64 0, .int .i64 0, .int .i64 0, .string ⟨#[]⟩, .int .i64 0, .int .i64 0, .int .i64 0, .int .i64 0] 28)) (.cells #[.int .u8 67, .int .u8 82, .int .u8 78, .int .u8 2] 5 (4, 5)))
  have hbw := bt (al w (.cells #[.int .u8 0, .int .u8 0, .int .u8 0, .int .u8 0, .int .u8 0, .int .u8 0, .int .u8 0, .int .u8 0, .int .i64 0, .int .i64 0, .int .i64 0, .string ⟨#[]⟩, .int .i64 0, .int .i64 0, .int .i64 0, .int .i64 0] 28)) (al _ (.cells #[.int .u8 67, .int .u8 82, .int .u8 78, .int .u8 2] 5 (4, 5)))
  have HP := (show Hid (∀ (W : World), Below w.heap.size w W → ∀ (q : Option Addr), Rd W q mk8 → _) from fun W hW q hq => hasPrefix_any (hr.below hW) hq n c 4 hn hc rfl (by omega))
  have hL := kl_lt bs
  have SU := (show Hid (∀ (W : World), Below w.heap.size w W → ∀ c', _) from fun W hW c' => csum_any ((hr.below hW).take 32) 32 c' (by rw [List.length_take]; omega) (by omega))
  have S1 := (show Hid (∀ (W : World), Below w.heap.size w W → Calls Try.prog 35 #[.slice (some ⟨gb, go, none⟩) n c, .int .i64 32] W fun e w' => e = .returned (.int .u32 (lv (cutl bs 32 4) : Int)) ∧ Below W.heap.size W w') from fun W hW => sumAt_any (hr.below hW) n c 32 hn hc (by omega) (by omega))
  have hrg : ∀ x : BitVec 32, rg x = (x.toNat : Int) := fun x => by unfold rg; rfl
  have f3 : ((lv (cutl bs 32 4) : Int) != rg (cmo 0#32 (bs.take 32))) = false := by rw [hrg]; simp [h3]
  clear h3
  have f4 : (n : Int) < 36 + ((kl bs : Nat) : Int) + 4 := by omega
  clear hrg
  go_enter Try.func24, Try.ntmps24
  go_wp2_with (first
    | (refine wpList_stH hd0 rfl _ _ rfl rfl w.heap.size rfl (by rw [hd0_cs]; rfl) HZ ?_; intro w9 HZ9 hT9)
    | (go_at_call 34; refine (HP.out _ hbw _ rm).mono ?_; rintro e w2 ⟨rfl, hb⟩; rw [decide_eq_true h2]; replace HZ := HZ.below hb; replace hbw := bt hbw hb)
    | (go_at_call 20; refine (SU.out _ hbw _).mono ?_; rintro e w3 ⟨rfl, hb⟩; replace HZ := HZ.below hb; replace hbw := bt hbw hb; have g31 := Rd.byte (hr.below hbw) 31 (by omega); rw [kl_el] at g31)
    | (go_at_call 35; first | (refine (S1.out _ hbw).mono ?_; rintro e w4 ⟨rfl, hb⟩; replace HZ := HZ.below hb; replace hbw := bt hbw hb; replace g31 := cell_below g31 hb)))
  refine bodyPost_ret (v := .tuple #[.agg hd0.cs, .int .i64 70]) ?_ rfl ⟨rfl, hT9.2.1 _ _ hbw (Nat.le_refl _)⟩
  exact res_hd rfl _ _ w.heap.size hd0 _ rfl rfl HZ9
set_option maxHeartbeats 4000000 in
set_option maxRecDepth 1000000 in
theorem pHead_sum2 {w : World} {gb go : Nat} {bs : List (BitVec 8)} (hr : Rd w (some ⟨gb, go, none⟩) bs) (n c : Nat) (hn : bs.length = n) (hc : n ≤ c) (hcc : n ≤ 211106232532992) (h1 : ¬ n < 36) (h2 : bs.take 4 = mk8) (h3 : lv (cutl bs 32 4) = (cmo 0#32 (bs.take 32)).toNat) (h4 : ¬ n < 40 + kl bs) (h5 : ¬ lv (cutl bs (36 + kl bs) 4) = (cmo (cmo 0#32 (bs.take 32)) (cutl bs 36 (kl bs))).toNat) :
    Calls Try.prog 24 #[.slice (some ⟨gb, go, none⟩) n c] w fun e w' => e = .returned (.tuple #[.agg hd0.cs, .int .i64 82]) ∧ Below w.heap.size w w' := by
  have al : ∀ (W : World) (o : Obj), Below W.heap.size W (W.alloc o) := fun W o => (Below.refl _ _).alloc (Nat.le_refl _) o
  have i0 : ¬ (n : Int) < 36 := by omega
  have kc := Lib.run_convert_bytes_const (P := Try.prog) (w.alloc (.cells #[.int .u8 0, .int .u8 0, .int .u8 0, .int .u8 0, .int .u8 0, .int .u8 0, .int .u8 0, .int .u8 0, .int .i64 0, .int .i64 0, .int .i64 0, .string ⟨#[]⟩, .int .i64 0, .int .i64 0, .int .i64 0, .int .i64 0] 28)) 35 5 #[.int .u8 67, .int .u8 82, .int .u8 78, .int .u8 2] 4 4 Try.underlying35 Try.underlying5
  have rm := rd_mark (w.alloc (.cells #[.int .u8 0, .int .u8 0, .int .u8 0, .int .u8 0, .int .u8 0, .int .u8 0, .int .u8 0, .int .u8 0, .int .i64 0, .int .i64 0, .int .i64 0, .string ⟨#[]⟩, .int .i64 0, .int .i64 0, .int .i64 0, .int .i64 0] 28)) (4, 5)
  rw [World.size_alloc] at kc rm
  have HZ := HdAt.below (hz0 (heap_alloc_new w _)) (al (w.alloc (.cells #[.int .u8 0, .int .u8 0, .int .u8 0, .int .u8 0, .int .u8 0, .int .u8 0, .int .u8 0, .int .u8 0, .int .i64 0, .int .i64 0, .int .i64 0, .string ⟨#[]⟩, .int .i64 0, .int .i64 0, .int .i64 0, .int .i64 0] 28)) (.cells #[.int .u8 67, .int .u8 82, .int .u8 78, .int .u8 2] 5 (4, 5)))
  have hbw := bt (al w (.cells #[.int .u8 0, .int .u8 0, .int .u8 0, .int .u8 0, .int .u8 0, .int .u8 0, .int .u8 0, .int .u8 0, .int .i64 0, .int .i64 0, .int .i64 0, .string ⟨#[]⟩, .int .i64 0, .int .i64 0, .int .i64 0, .int .i64 0] 28)) (al _ (.cells #[.int .u8 67, .int .u8 82, .int .u8 78, .int .u8 2] 5 (4, 5)))
  have HP := (show Hid (∀ (W : World), Below w.heap.size w W → ∀ (q : Option Addr), Rd W q mk8 → _) from fun W hW q hq => hasPrefix_any (hr.below hW) hq n c 4 hn hc rfl (by omega))
  have hL := kl_lt bs
  have SU := (show Hid (∀ (W : World), Below w.heap.size w W → ∀ c', _) from fun W hW c' => csum_any ((hr.below hW).take 32) 32 c' (by rw [List.length_take]; omega) (by omega))
  have S1 := (show Hid (∀ (W : World), Below w.heap.size w W → Calls Try.prog 35 #[.slice (some ⟨gb, go, none⟩) n c, .int .i64 32] W fun e w' => e = .returned (.int .u32 (lv (cutl bs 32 4) : Int)) ∧ Below W.heap.size W w') from fun W hW => sumAt_any (hr.below hW) n c 32 hn hc (by omega) (by omega))
  have hrg : ∀ x : BitVec 32, rg x = (x.toNat : Int) := fun x => by unfold rg; rfl
  have e36 : ((36 + kl bs : Nat) : Int) = 36 + ((kl bs : Nat) : Int) := by omega
  have S2 := (show Hid (∀ (W : World), Below w.heap.size w W → _) from fun W hW => sumAt_any (hr.below hW) n c (36 + kl bs) hn hc (by omega) (by omega))
  rw [e36] at S2
  have MO := (show Hid (∀ (W : World), Below w.heap.size w W → ∀ c', _) from fun W hW c' => cmore_any ((hr.below hW).cutl 36 (kl bs) (by omega)) (cmo 0#32 (bs.take 32)) (kl bs) c' (cutl_len _ _ _ (by omega)) (by omega))
  have j5 : (36 : Int) ≤ 36 + ((kl bs : Nat) : Int) := by omega
  have j6 : 36 + ((kl bs : Nat) : Int) ≤ (c : Int) := by omega
  have j7 : ¬ c = 36 := by omega
  clear e36
  have f3 : ((lv (cutl bs 32 4) : Int) != rg (cmo 0#32 (bs.take 32))) = false := by rw [hrg]; simp [h3]
  clear h3
  have f4 : ¬ (n : Int) < 36 + ((kl bs : Nat) : Int) + 4 := by omega
  have f5 : ((lv (cutl bs (36 + kl bs) 4) : Int) != rg (cmo (cmo 0#32 (bs.take 32)) (cutl bs 36 (kl bs)))) = true := by rw [hrg]; simp; omega
  clear hrg
  go_enter Try.func24, Try.ntmps24
  go_wp2_with (first
    | (refine wpList_stH hd0 rfl _ _ rfl rfl w.heap.size rfl (by rw [hd0_cs]; rfl) HZ ?_; intro w9 HZ9 hT9)
    | (go_at_call 34; refine (HP.out _ hbw _ rm).mono ?_; rintro e w2 ⟨rfl, hb⟩; rw [decide_eq_true h2]; replace HZ := HZ.below hb; replace hbw := bt hbw hb)
    | (go_at_call 20; refine (SU.out _ hbw _).mono ?_; rintro e w3 ⟨rfl, hb⟩; replace HZ := HZ.below hb; replace hbw := bt hbw hb; have g31 := Rd.byte (hr.below hbw) 31 (by omega); rw [kl_el] at g31)
    | (go_at_call 35; first | (refine (S1.out _ hbw).mono ?_; rintro e w4 ⟨rfl, hb⟩; replace HZ := HZ.below hb; replace hbw := bt hbw hb; replace g31 := cell_below g31 hb) | (refine (S2.out _ hbw).mono ?_; rintro e w5 ⟨rfl, hb⟩; replace HZ := HZ.below hb; replace hbw := bt hbw hb))
    | (go_at_call 21; refine (MO.out _ hbw _).mono ?_; rintro e w6 ⟨rfl, hb⟩; replace HZ := HZ.below hb; replace hbw := bt hbw hb))
  refine bodyPost_ret (v := .tuple #[.agg hd0.cs, .int .i64 82]) ?_ rfl ⟨rfl, hT9.2.1 _ _ hbw (Nat.le_refl _)⟩
  exact res_hd rfl _ _ w.heap.size hd0 _ rfl rfl HZ9
set_option maxHeartbeats 4000000 in
set_option maxRecDepth 1000000 in
theorem pHead_head {w : World} {gb go : Nat} {bs : List (BitVec 8)} (hr : Rd w (some ⟨gb, go, none⟩) bs) (n c : Nat) (hn : bs.length = n) (hc : n ≤ c) (hcc : n ≤ 211106232532992) (h1 : ¬ n < 36) (h2 : bs.take 4 = mk8) (RHD : RHd) (h3 : lv (cutl bs 32 4) = (cmo 0#32 (bs.take 32)).toNat) (h4 : ¬ n < 40 + kl bs) (h5 : lv (cutl bs (36 + kl bs) 4) = (cmo (cmo 0#32 (bs.take 32)) (cutl bs 36 (kl bs))).toNat) (h6 : ¬ chk (rhd (bs.take 32) (cutl bs 36 (kl bs))) = 0) :
    Calls Try.prog 24 #[.slice (some ⟨gb, go, none⟩) n c] w fun e w' => e = .returned (.tuple #[.agg hd0.cs, .int .i64 81]) ∧ Below w.heap.size w w' := by
  have al : ∀ (W : World) (o : Obj), Below W.heap.size W (W.alloc o) := fun W o => (Below.refl _ _).alloc (Nat.le_refl _) o
  have i0 : ¬ (n : Int) < 36 := by omega
  have kc := Lib.run_convert_bytes_const (P := Try.prog) (w.alloc (.cells #[.int .u8 0, .int .u8 0, .int .u8 0, .int .u8 0, .int .u8 0, .int .u8 0, .int .u8 0, .int .u8 0, .int .i64 0, .int .i64 0, .int .i64 0, .string ⟨#[]⟩, .int .i64 0, .int .i64 0, .int .i64 0, .int .i64 0] 28)) 35 5 #[.int .u8 67, .int .u8 82, .int .u8 78, .int .u8 2] 4 4 Try.underlying35 Try.underlying5
  have rm := rd_mark (w.alloc (.cells #[.int .u8 0, .int .u8 0, .int .u8 0, .int .u8 0, .int .u8 0, .int .u8 0, .int .u8 0, .int .u8 0, .int .i64 0, .int .i64 0, .int .i64 0, .string ⟨#[]⟩, .int .i64 0, .int .i64 0, .int .i64 0, .int .i64 0] 28)) (4, 5)
  rw [World.size_alloc] at kc rm
  have HZ := HdAt.below (hz0 (heap_alloc_new w _)) (al (w.alloc (.cells #[.int .u8 0, .int .u8 0, .int .u8 0, .int .u8 0, .int .u8 0, .int .u8 0, .int .u8 0, .int .u8 0, .int .i64 0, .int .i64 0, .int .i64 0, .string ⟨#[]⟩, .int .i64 0, .int .i64 0, .int .i64 0, .int .i64 0] 28)) (.cells #[.int .u8 67, .int .u8 82, .int .u8 78, .int .u8 2] 5 (4, 5)))
  have hbw := bt (al w (.cells #[.int .u8 0, .int .u8 0, .int .u8 0, .int .u8 0, .int .u8 0, .int .u8 0, .int .u8 0, .int .u8 0, .int .i64 0, .int .i64 0, .int .i64 0, .string ⟨#[]⟩, .int .i64 0, .int .i64 0, .int .i64 0, .int .i64 0] 28)) (al _ (.cells #[.int .u8 67, .int .u8 82, .int .u8 78, .int .u8 2] 5 (4, 5)))
  have HP := (show Hid (∀ (W : World), Below w.heap.size w W → ∀ (q : Option Addr), Rd W q mk8 → _) from fun W hW q hq => hasPrefix_any (hr.below hW) hq n c 4 hn hc rfl (by omega))
  have hL := kl_lt bs
  have SU := (show Hid (∀ (W : World), Below w.heap.size w W → ∀ c', _) from fun W hW c' => csum_any ((hr.below hW).take 32) 32 c' (by rw [List.length_take]; omega) (by omega))
  have S1 := (show Hid (∀ (W : World), Below w.heap.size w W → Calls Try.prog 35 #[.slice (some ⟨gb, go, none⟩) n c, .int .i64 32] W fun e w' => e = .returned (.int .u32 (lv (cutl bs 32 4) : Int)) ∧ Below W.heap.size W w') from fun W hW => sumAt_any (hr.below hW) n c 32 hn hc (by omega) (by omega))
  have hrg : ∀ x : BitVec 32, rg x = (x.toNat : Int) := fun x => by unfold rg; rfl
  have e36 : ((36 + kl bs : Nat) : Int) = 36 + ((kl bs : Nat) : Int) := by omega
  have S2 := (show Hid (∀ (W : World), Below w.heap.size w W → _) from fun W hW => sumAt_any (hr.below hW) n c (36 + kl bs) hn hc (by omega) (by omega))
  rw [e36] at S2
  have MO := (show Hid (∀ (W : World), Below w.heap.size w W → ∀ c', _) from fun W hW c' => cmore_any ((hr.below hW).cutl 36 (kl bs) (by omega)) (cmo 0#32 (bs.take 32)) (kl bs) c' (cutl_len _ _ _ (by omega)) (by omega))
  have j5 : (36 : Int) ≤ 36 + ((kl bs : Nat) : Int) := by omega
  have j6 : 36 + ((kl bs : Nat) : Int) ≤ (c : Int) := by omega
  have j7 : ¬ c = 36 := by omega
  clear e36
  have hkl : (cutl bs 36 (kl bs)).length = kl bs := cutl_len _ _ _ (by omega)
  have RH := (show Hid (∀ (W : World), Below w.heap.size w W → ∀ cf ck, 32 ≤ cf → _) from fun W hW cf ck hcf => RHD W gb go (some ⟨gb, go + 36, none⟩) (bs.take 32) (cutl bs 36 (kl bs)) ((hr.below hW).take 32) ((hr.below hW).cutl 36 (kl bs) (by omega)) cf (kl bs) ck (by rw [List.length_take]; omega) hcf hkl)
  have CK := (show Hid _ from fun W => check_any (rhd (bs.take 32) (cutl bs 36 (kl bs))) (rhd_in _ _) (by rw [rhd_key]; omega) W)
  have f3 : ((lv (cutl bs 32 4) : Int) != rg (cmo 0#32 (bs.take 32))) = false := by rw [hrg]; simp [h3]
  clear h3
  have f4 : ¬ (n : Int) < 36 + ((kl bs : Nat) : Int) + 4 := by omega
  have f5 : ((lv (cutl bs (36 + kl bs) 4) : Int) != rg (cmo (cmo 0#32 (bs.take 32)) (cutl bs 36 (kl bs)))) = false := by rw [hrg]; simp [h5]
  clear h5
  generalize chk (rhd (bs.take 32) (cutl bs 36 (kl bs))) = z at h6 CK
  clear hrg
  go_enter Try.func24, Try.ntmps24
  go_wp2_with (first
    | (refine wpList_stH hd0 rfl _ _ rfl rfl w.heap.size rfl (by rw [hd0_cs]; rfl) HZ ?_; intro w9 HZ9 hT9)
    | (refine wpList_stH (rhd (bs.take 32) (cutl bs 36 (kl bs))) rfl _ _ rfl rfl w7.heap.size rfl rfl (hz0 (heap_alloc_new w7 _)) ?_; intro wA HA hTA; replace HZ := Turned.hd hTA (HZ.below (al _ _)) (Nat.ne_of_lt (Nat.lt_of_lt_of_le HZ.lt (Nat.le_refl _))); replace hbw := hTA.2.1 _ _ (hbw.alloc hbw.size _) hbw.size)
    | (refine wpList_loadHd rfl _ rfl w7.heap.size rfl HA ?_)
    | (go_at_call 34; refine (HP.out _ hbw _ rm).mono ?_; rintro e w2 ⟨rfl, hb⟩; rw [decide_eq_true h2]; replace HZ := HZ.below hb; replace hbw := bt hbw hb)
    | (go_at_call 20; refine (SU.out _ hbw _).mono ?_; rintro e w3 ⟨rfl, hb⟩; replace HZ := HZ.below hb; replace hbw := bt hbw hb; have g31 := Rd.byte (hr.below hbw) 31 (by omega); rw [kl_el] at g31)
    | (go_at_call 35; first | (refine (S1.out _ hbw).mono ?_; rintro e w4 ⟨rfl, hb⟩; replace HZ := HZ.below hb; replace hbw := bt hbw hb; replace g31 := cell_below g31 hb) | (refine (S2.out _ hbw).mono ?_; rintro e w5 ⟨rfl, hb⟩; replace HZ := HZ.below hb; replace hbw := bt hbw hb))
    | (go_at_call 21; refine (MO.out _ hbw _).mono ?_; rintro e w6 ⟨rfl, hb⟩; replace HZ := HZ.below hb; replace hbw := bt hbw hb)
    | (go_at_call 36; refine (RH.out _ hbw _ _ (by omega)).mono ?_; rintro e w7 ⟨rfl, hb⟩; replace HZ := HZ.below hb; replace hbw := bt hbw hb)
    | (go_at_call 28; refine (CK.out _).mono ?_; rintro e w8 ⟨rfl, hb⟩; replace HA := HA.below hb; replace HZ := HZ.below hb; replace hbw := bt hbw hb))
  refine bodyPost_ret (v := .tuple #[.agg hd0.cs, .int .i64 81]) ?_ rfl ⟨rfl, hT9.2.1 _ _ hbw (Nat.le_refl _)⟩
  exact res_hd rfl _ _ w.heap.size hd0 _ rfl rfl HZ9
set_option maxHeartbeats 4000000 in
set_option maxRecDepth 1000000 in
theorem pHead_ok {w : World} {gb go : Nat} {bs : List (BitVec 8)} (hr : Rd w (some ⟨gb, go, none⟩) bs) (n c : Nat) (hn : bs.length = n) (hc : n ≤ c) (hcc : n ≤ 211106232532992) (h1 : ¬ n < 36) (h2 : bs.take 4 = mk8) (RHD : RHd) (h3 : lv (cutl bs 32 4) = (cmo 0#32 (bs.take 32)).toNat) (h4 : ¬ n < 40 + kl bs) (h5 : lv (cutl bs (36 + kl bs) 4) = (cmo (cmo 0#32 (bs.take 32)) (cutl bs 36 (kl bs))).toNat) (h6 : chk (rhd (bs.take 32) (cutl bs 36 (kl bs))) = 0) :
    Calls Try.prog 24 #[.slice (some ⟨gb, go, none⟩) n c] w fun e w' => e = .returned (.tuple #[.agg (rhd (bs.take 32) (cutl bs 36 (kl bs))).cs, .int .i64 0]) ∧ Below w.heap.size w w' := by
  have al : ∀ (W : World) (o : Obj), Below W.heap.size W (W.alloc o) := fun W o => (Below.refl _ _).alloc (Nat.le_refl _) o
  have i0 : ¬ (n : Int) < 36 := by omega
  have kc := Lib.run_convert_bytes_const (P := Try.prog) (w.alloc (.cells #[.int .u8 0, .int .u8 0, .int .u8 0, .int .u8 0, .int .u8 0, .int .u8 0, .int .u8 0, .int .u8 0, .int .i64 0, .int .i64 0, .int .i64 0, .string ⟨#[]⟩, .int .i64 0, .int .i64 0, .int .i64 0, .int .i64 0] 28)) 35 5 #[.int .u8 67, .int .u8 82, .int .u8 78, .int .u8 2] 4 4 Try.underlying35 Try.underlying5
  have rm := rd_mark (w.alloc (.cells #[.int .u8 0, .int .u8 0, .int .u8 0, .int .u8 0, .int .u8 0, .int .u8 0, .int .u8 0, .int .u8 0, .int .i64 0, .int .i64 0, .int .i64 0, .string ⟨#[]⟩, .int .i64 0, .int .i64 0, .int .i64 0, .int .i64 0] 28)) (4, 5)
  rw [World.size_alloc] at kc rm
  have HZ := HdAt.below (hz0 (heap_alloc_new w _)) (al (w.alloc (.cells #[.int .u8 0, .int .u8 0, .int .u8 0, .int .u8 0, .int .u8 0, .int .u8 0, .int .u8 0, .int .u8 0, .int .i64 0, .int .i64 0, .int .i64 0, .string ⟨#[]⟩, .int .i64 0, .int .i64 0, .int .i64 0, .int .i64 0] 28)) (.cells #[.int .u8 67, .int .u8 82, .int .u8 78, .int .u8 2] 5 (4, 5)))
  have hbw := bt (al w (.cells #[.int .u8 0, .int .u8 0, .int .u8 0, .int .u8 0, .int .u8 0, .int .u8 0, .int .u8 0, .int .u8 0, .int .i64 0, .int .i64 0, .int .i64 0, .string ⟨#[]⟩, .int .i64 0, .int .i64 0, .int .i64 0, .int .i64 0] 28)) (al _ (.cells #[.int .u8 67, .int .u8 82, .int .u8 78, .int .u8 2] 5 (4, 5)))
  have HP := (show Hid (∀ (W : World), Below w.heap.size w W → ∀ (q : Option Addr), Rd W q mk8 → _) from fun W hW q hq => hasPrefix_any (hr.below hW) hq n c 4 hn hc rfl (by omega))
  have hL := kl_lt bs
  have SU := (show Hid (∀ (W : World), Below w.heap.size w W → ∀ c', _) from fun W hW c' => csum_any ((hr.below hW).take 32) 32 c' (by rw [List.length_take]; omega) (by omega))
  have S1 := (show Hid (∀ (W : World), Below w.heap.size w W → Calls Try.prog 35 #[.slice (some ⟨gb, go, none⟩) n c, .int .i64 32] W fun e w' => e = .returned (.int .u32 (lv (cutl bs 32 4) : Int)) ∧ Below W.heap.size W w') from fun W hW => sumAt_any (hr.below hW) n c 32 hn hc (by omega) (by omega))
  have hrg : ∀ x : BitVec 32, rg x = (x.toNat : Int) := fun x => by unfold rg; rfl
  have e36 : ((36 + kl bs : Nat) : Int) = 36 + ((kl bs : Nat) : Int) := by omega
  have S2 := (show Hid (∀ (W : World), Below w.heap.size w W → _) from fun W hW => sumAt_any (hr.below hW) n c (36 + kl bs) hn hc (by omega) (by omega))
  rw [e36] at S2
  have MO := (show Hid (∀ (W : World), Below w.heap.size w W → ∀ c', _) from fun W hW c' => cmore_any ((hr.below hW).cutl 36 (kl bs) (by omega)) (cmo 0#32 (bs.take 32)) (kl bs) c' (cutl_len _ _ _ (by omega)) (by omega))
  have j5 : (36 : Int) ≤ 36 + ((kl bs : Nat) : Int) := by omega
  have j6 : 36 + ((kl bs : Nat) : Int) ≤ (c : Int) := by omega
  have j7 : ¬ c = 36 := by omega
  clear e36
  have hkl : (cutl bs 36 (kl bs)).length = kl bs := cutl_len _ _ _ (by omega)
  have RH := (show Hid (∀ (W : World), Below w.heap.size w W → ∀ cf ck, 32 ≤ cf → _) from fun W hW cf ck hcf => RHD W gb go (some ⟨gb, go + 36, none⟩) (bs.take 32) (cutl bs 36 (kl bs)) ((hr.below hW).take 32) ((hr.below hW).cutl 36 (kl bs) (by omega)) cf (kl bs) ck (by rw [List.length_take]; omega) hcf hkl)
  have CK := (show Hid _ from fun W => check_any (rhd (bs.take 32) (cutl bs 36 (kl bs))) (rhd_in _ _) (by rw [rhd_key]; omega) W)
  have f3 : ((lv (cutl bs 32 4) : Int) != rg (cmo 0#32 (bs.take 32))) = false := by rw [hrg]; simp [h3]
  clear h3
  have f4 : ¬ (n : Int) < 36 + ((kl bs : Nat) : Int) + 4 := by omega
  have f5 : ((lv (cutl bs (36 + kl bs) 4) : Int) != rg (cmo (cmo 0#32 (bs.take 32)) (cutl bs 36 (kl bs)))) = false := by rw [hrg]; simp [h5]
  clear h5
  rw [h6] at CK
  clear h6
  clear hrg
  go_enter Try.func24, Try.ntmps24
  go_wp2_with (first
    | (refine wpList_stH (rhd (bs.take 32) (cutl bs 36 (kl bs))) rfl _ _ rfl rfl w.heap.size rfl rfl HZ ?_; intro w9 HZ9 hT9)
    | (refine wpList_stH (rhd (bs.take 32) (cutl bs 36 (kl bs))) rfl _ _ rfl rfl w7.heap.size rfl rfl (hz0 (heap_alloc_new w7 _)) ?_; intro wA HA hTA; replace HZ := Turned.hd hTA (HZ.below (al _ _)) (Nat.ne_of_lt (Nat.lt_of_lt_of_le HZ.lt (Nat.le_refl _))); replace hbw := hTA.2.1 _ _ (hbw.alloc hbw.size _) hbw.size)
    | (refine wpList_loadHd rfl _ rfl w7.heap.size rfl HA ?_)
    | (go_at_call 34; refine (HP.out _ hbw _ rm).mono ?_; rintro e w2 ⟨rfl, hb⟩; rw [decide_eq_true h2]; replace HZ := HZ.below hb; replace hbw := bt hbw hb)
    | (go_at_call 20; refine (SU.out _ hbw _).mono ?_; rintro e w3 ⟨rfl, hb⟩; replace HZ := HZ.below hb; replace hbw := bt hbw hb; have g31 := Rd.byte (hr.below hbw) 31 (by omega); rw [kl_el] at g31)
    | (go_at_call 35; first | (refine (S1.out _ hbw).mono ?_; rintro e w4 ⟨rfl, hb⟩; replace HZ := HZ.below hb; replace hbw := bt hbw hb; replace g31 := cell_below g31 hb) | (refine (S2.out _ hbw).mono ?_; rintro e w5 ⟨rfl, hb⟩; replace HZ := HZ.below hb; replace hbw := bt hbw hb))
    | (go_at_call 21; refine (MO.out _ hbw _).mono ?_; rintro e w6 ⟨rfl, hb⟩; replace HZ := HZ.below hb; replace hbw := bt hbw hb)
    | (go_at_call 36; refine (RH.out _ hbw _ _ (by omega)).mono ?_; rintro e w7 ⟨rfl, hb⟩; replace HZ := HZ.below hb; replace hbw := bt hbw hb)
    | (go_at_call 28; refine (CK.out _).mono ?_; rintro e w8 ⟨rfl, hb⟩; replace HA := HA.below hb; replace HZ := HZ.below hb; replace hbw := bt hbw hb))
  refine bodyPost_ret (v := .tuple #[.agg (rhd (bs.take 32) (cutl bs 36 (kl bs))).cs, .int .i64 0]) ?_ rfl ⟨rfl, hT9.2.1 _ _ hbw (Nat.le_refl _)⟩
  exact res_hd rfl _ _ w.heap.size (rhd (bs.take 32) (cutl bs 36 (kl bs))) _ rfl rfl HZ9
theorem pHead_any (RHD : RHd) {w : World} {p : Option Addr} {bs : List (BitVec 8)} (hr : Rd w p bs) (n c : Nat) (hn : bs.length = n) (hc : n ≤ c) (hcc : n ≤ 211106232532992) :
    Calls Try.prog 24 #[.slice p n c] w fun e w' => e = .returned (.tuple #[.agg (pH bs).2.cs, .int .i64 (pH bs).1]) ∧ Below w.heap.size w w' := by
  unfold pH
  rw [hn]
  by_cases h1 : n < 36
  · rw [if_pos h1]; exact pHead_cut n c h1
  rw [if_neg h1]
  obtain ⟨gb, go, rfl⟩ : ∃ gb go, p = some ⟨gb, go, none⟩ := by
    rcases hr with h | ⟨b, o, e, _⟩
    · subst h; simp at hn; omega
    · exact ⟨b, o, e⟩
  by_cases h2 : bs.take 4 = mk8
  · rw [if_neg (not_not_intro h2)]
    by_cases h3 : lv (cutl bs 32 4) = (cmo 0#32 (bs.take 32)).toNat
    · rw [if_neg (not_not_intro h3)]
      by_cases h4 : n < 40 + kl bs
      · rw [if_pos h4]; exact pHead_cut2 hr n c hn hc hcc h1 h2 h3 h4
      · rw [if_neg h4]
        by_cases h5 : lv (cutl bs (36 + kl bs) 4) = (cmo (cmo 0#32 (bs.take 32)) (cutl bs 36 (kl bs))).toNat
        · rw [if_neg (not_not_intro h5)]
          by_cases h6 : chk (rhd (bs.take 32) (cutl bs 36 (kl bs))) = 0
          · rw [if_neg (not_not_intro h6)]; exact pHead_ok hr n c hn hc hcc h1 h2 RHD h3 h4 h5 h6
          · rw [if_pos h6]; exact pHead_head hr n c hn hc hcc h1 h2 RHD h3 h4 h5 h6
        · rw [if_pos h5]; exact pHead_sum2 hr n c hn hc hcc h1 h2 h3 h4 h5
    · rw [if_pos h3]; exact pHead_sum1 hr n c hn hc hcc h1 h2 h3
  · rw [if_pos h2]; exact pHead_magic hr n c hn hc h1 h2
end
end Go.Proofs.Ytfcjkaigmlfjnaa
