/-
  What the Puts stand on: 'anew', 'shortForm', 'PutUvarint'.
-/
import Derived.Test.YtmcbeikgdcgdcabKz
import Derived.Test.YtmcbeikgdcgdcabVf
import Derived.Laws.Bits64
namespace Go.Proofs.Ytmcbeikgdcgdcab
open Go.RowKit
/-- The short form as bytes. -/
def sb (k v : Nat) : List (BitVec 8) := (sfk k v).map (BitVec.ofNat 8)
theorem sb_small (k v : Nat) (h : v < 128) : sb k v = [BitVec.ofNat 8 v] := by unfold sb; rw [sfk_small k v h]; rfl
theorem sb_big (k v : Nat) (h : ¬ v < 128) : sb (k + 1) v = BitVec.ofNat 8 (128 + v % 128) :: sb k (v / 128) := by unfold sb; rw [sfk_big k v h]; rfl
theorem sb_len (k v : Nat) : (sb k v).length ≤ k + 1 := by unfold sb; rw [List.length_map]; exact sfk_len k v
theorem sb_pos (k v : Nat) : 0 < (sb k v).length := by unfold sb; rw [List.length_map]; exact sfk_pos k v
theorem el_ofNat (n : Nat) : el (BitVec.ofNat 8 n) = ((n % 256 : Nat) : Int) := by unfold el; rw [BitVec.toNat_ofNat]
theorem wrap_u8 (n : Int) : IntKind.u8.wrap n = n % 256 := by simp [IntKind.wrap, IntKind.bits, IntKind.signed]
theorem byte_conv (n : Nat) : (n : Int) % 256 = el (BitVec.ofNat 8 n) := by rw [el_ofNat]; omega
theorem or128 : ∀ x : BitVec 8, bits .or .u8 (el x) 128 = el (x ||| 128#8) := by decide +kernel
theorem or128n : ∀ x : Fin 256, BitVec.ofNat 8 x.val ||| 128#8 = BitVec.ofNat 8 (128 + x.val % 128) := by decide +kernel
theorem ofNat_mod (n : Nat) : BitVec.ofNat 8 (n % 256) = BitVec.ofNat 8 n := by
  apply BitVec.eq_of_toNat_eq; rw [BitVec.toNat_ofNat, BitVec.toNat_ofNat]; omega
theorem byte_on (n : Nat) : bits .or .u8 ((n : Int) % 256) 128 = el (BitVec.ofNat 8 (128 + n % 128)) := by
  rw [byte_conv, or128]
  have h := or128n ⟨n % 256, by omega⟩
  simp only at h
  rw [ofNat_mod, show n % 256 % 128 = n % 128 by omega] at h
  rw [h]
theorem rd_k (W : World) (k : Nat) (hk : k < 256) : Rd (W.alloc (.cells #[.int .u8 (k : Int)] 5)) (some ⟨W.heap.size, 0, none⟩) [BitVec.ofNat 8 k] := by
  have h := rd_new1 W (BitVec.ofNat 8 k) 5
  have e : el (BitVec.ofNat 8 k) = (k : Int) := by unfold el; rw [BitVec.toNat_ofNat]; omega
  rwa [e] at h
section
attribute [local irreducible] Calls el sb
set_option maxRecDepth 1000000 in
theorem anew_any {w : World} {a : Option Addr} {bs : List (BitVec 8)} (h : Rd w a bs) (n c m : Nat) (hn : bs.length = n) (hm : n + m ≤ 140737488355328) :
    Calls Try.prog 31 #[.slice a n c, .int .i64 (m : Int)] w fun e w' => ∃ v, e = .returned v ∧ Ow w' w.heap.size v bs ∧ Below w.heap.size w w' := by
  have hmk : ∀ w, (Instr.makeSlice 23 (.int .i64 0) (.int .i64 ((n : Int) + (m : Int)))).run Try.prog w = .ok (.slice (some ⟨w.heap.size, 0, none⟩) 0 (n + m)) (w.alloc (.cells (Array.replicate (n + m) (.int .u8 0)) 5)) := fun w => by rw [← Int.natCast_add]; exact make_room (n + m) hm w
  have al : ∀ (W : World) (o : Obj), Below W.heap.size W (W.alloc o) := fun W o => (Below.refl _ _).alloc (Nat.le_refl _) o
  have o1 := Ow.made w (n + m) hm
  go_enter Try.func31, Try.ntmps31
  go_wp2_with (at_builtin; refine wpList_apa rfl (.tmp 9) (.tmp 10) rfl w.heap.size _ [] rfl o1 a n c bs rfl (h.below (al _ _)) hn (by simp; omega) ((al _ _).size) ?_; intro v1 w1 ho1 hg1 hk1)
  go_ret
  exact ⟨_, rfl, ho1, o1.below_append (al _ _) (al _ _).size hg1 (Nat.le_refl _)⟩
theorem anew0 {w : World} {a : Option Addr} {bs : List (BitVec 8)} (h : Rd w a bs) (n c : Nat) (hn : bs.length = n) (hm : n ≤ 140737488355328) :
    Calls Try.prog 31 #[.slice a n c, .int .i64 0] w fun e w' => ∃ v, e = .returned v ∧ Ow w' w.heap.size v bs ∧ Below w.heap.size w w' := anew_any h n c 0 hn hm
set_option maxHeartbeats 1000000 in
set_option maxRecDepth 1000000 in
theorem shortForm_any {w : World} {base : Nat} {o : Value} {xs : List (BitVec 8)} (h : Ow w base o xs) (hB : base ≤ w.heap.size) (hx : xs.length ≤ 140737488355000) (v : Nat) (hv : v < 18446744073709551616) :
    Calls Try.prog 30 #[o, .int .u64 (v : Int)] w fun e w' => ∃ o', e = .returned o' ∧ Ow w' base o' (xs ++ sb 9 v) ∧ Below base w w' := by
  have al : ∀ (W : World) (o : Obj), Below W.heap.size W (W.alloc o) := fun W o => (Below.refl _ _).alloc (Nat.le_refl _) o
  go_enter Try.func30, Try.ntmps30
  go_wp2
  go_loopw [0, 1] (fun o1 i wr => ∃ k u : Nat, ∃ ys : List (BitVec 8), k ≤ 9 ∧ ys.length = xs.length + (9 - k) ∧ i = .int .u64 (u : Int) ∧ u < 2 ^ (7 * k + 1) ∧ ys ++ sb k u = xs ++ sb 9 v ∧ Ow wr base o1 ys ∧ Below base w wr) (fun _ i _ => (intOf i).toNat)
  case atStart => exact ⟨9, v, xs, Nat.le_refl _, rfl, rfl, hv, rfl, h, Below.refl _ _⟩
  case round =>
    obtain ⟨k, u, ys, hk, hl, rfl, hu, he, hO, hb⟩ := hrel
    have hs := Nat.le_trans hB hb.size
    by_cases hlt : u < 128
    · have g0 : ¬ (128 : Int) ≤ (u : Int) := by omega
      have r1 := rd_k wr u (by omega)
      go_wp2_with (at_builtin; refine wpList_apa rfl (.tmp 15) (.tmp 18) rfl base u0 ys rfl (hO.below (al _ _)) (some ⟨wr.heap.size, 0, none⟩) 1 1 [BitVec.ofNat 8 u] rfl r1 rfl (by omega) (Nat.le_trans hs (al _ _).size) ?_; intro v1 w1 ho1 hg1 hk1)
      go_ret
      rw [← sb_small k u hlt, he] at ho1
      exact ⟨_, rfl, ho1, (hO.below (al _ _)).below_append (hb.alloc hs _) (Nat.le_trans hs (al _ _).size) hg1 (Nat.le_refl _)⟩
    · have g0 : (128 : Int) ≤ (u : Int) := by omega
      have e2 := byte_on u
      have r1 := rd_new1 wr (BitVec.ofNat 8 (128 + u % 128)) 5
      go_wp2_with (at_builtin; refine wpList_apa rfl (.tmp 9) (.tmp 13) rfl base u0 ys rfl (hO.below (al _ _)) (some ⟨wr.heap.size, 0, none⟩) 1 1 [BitVec.ofNat 8 (128 + u % 128)] rfl r1 rfl (by omega) (Nat.le_trans hs (al _ _).size) ?_; intro v1 w1 ho1 hg1 hk1)
      go_roundw
      case rel =>
        obtain ⟨k, rfl⟩ : ∃ j, k = j + 1 := by
          cases k with
          | zero => simp at hu; omega
          | succ j => exact ⟨j, rfl⟩
        rw [sb_big k u hlt, List.append_cons] at he
        exact ⟨k, u / 128, _, by omega, by rw [List.length_append]; simp; omega, by go_num, div_bound hu, he, ho1, (hO.below (al _ _)).below_append (hb.alloc hs _) (Nat.le_trans hs (al _ _).size) hg1 (Nat.le_refl _)⟩
      case measure => simp [intOf]; omega
set_option maxRecDepth 1000000 in
theorem putU_any {w : World} {a : Option Addr} {bs : List (BitVec 8)} (h : Rd w a bs) (n c : Nat) (hn : bs.length = n) (hm : n ≤ 140737488355000) (v : Nat) (hv : v < 18446744073709551616) :
    Calls Try.prog 6 #[.slice a n c, .int .u64 (v : Int)] w fun e w' => ∃ o', e = .returned o' ∧ Ow w' w.heap.size o' (bs ++ sb 9 v) ∧ Below w.heap.size w w' := by
  have A1 := (show Hid _ from anew_any h n c 10 hn (by omega))
  go_enter Try.func6, Try.ntmps6
  go_wp2_with (first
    | (go_at_call 31; refine A1.out.mono ?_; rintro e w1 ⟨v1, rfl, ho1, hb1⟩)
    | (go_at_call 30; refine (shortForm_any ho1 hb1.size (by omega) v hv).mono ?_; rintro e w2 ⟨v2, rfl, ho2, hb2⟩))
  go_ret
  exact ⟨_, rfl, ho2, hb1.trans hb2⟩
end
end Go.Proofs.Ytmcbeikgdcgdcab
