/-
  What the Puts stand on: 'anew', 'shortForm', 'PutUvarint'.
-/
import Derived.Test.YtfcjkaigmlfjnaaKz
import Derived.Test.YtfcjkaigmlfjnaaVf
import Derived.Laws.Bits64
namespace Go.Proofs.Ytfcjkaigmlfjnaa
open Go.RowKit
/-- The short form as bytes. -/
def sb (k v : Nat) : List (BitVec 8) := (sfk k v).map (BitVec.ofNat 8)
theorem sb_small (k v : Nat) (h : v < 128) : sb k v = [BitVec.ofNat 8 v] := by unfold sb; rw [sfk_small k v h]; rfl
theorem sb_big (k v : Nat) (h : ¬ v < 128) : sb (k + 1) v = BitVec.ofNat 8 (128 + v % 128) :: sb k (v / 128) := by unfold sb; rw [sfk_big k v h]; rfl
theorem sb_len (k v : Nat) : (sb k v).length ≤ k + 1 := by unfold sb; rw [List.length_map]; exact sfk_len k v
theorem sb_pos (k v : Nat) : 0 < (sb k v).length := by unfold sb; rw [List.length_map]; exact sfk_pos k v
theorem el_ofNat (n : Nat) : el (BitVec.ofNat 8 n) = ((n % 256 : Nat) : Int) := by unfold el; rw [BitVec.toNat_ofNat]
theorem wrap_u8 (n : Int) : IntKind.u8.wrap n = n % 256 := by simp [IntKind.wrap, IntKind.bits, IntKind.signed]
theorem byte_conv (n : Nat) : (n : Int) % 256 = el (BitVec.ofNat 8 n) := by rw [el_ofNat]; omega
theorem or128 : ∀ x : BitVec 8, bits .or .u8 (el x) 128 = el (x ||| 128#8) := by decide +kernel
theorem or128n : ∀ x : Fin 256, BitVec.ofNat 8 x.val ||| 128#8 = BitVec.ofNat 8 (128 + x.val % 128) := by decide +kernel
theorem ofNat_mod (n : Nat) : BitVec.ofNat 8 (n % 256) = BitVec.ofNat 8 n := by
  apply BitVec.eq_of_toNat_eq; rw [BitVec.toNat_ofNat, BitVec.toNat_ofNat]; omega
theorem byte_on (n : Nat) : bits .or .u8 ((n : Int) % 256) 128 = el (BitVec.ofNat 8 (128 + n % 128)) := by
  rw [byte_conv, or128]
  have h := or128n ⟨n % 256, by omega⟩
  simp only at h
  rw [ofNat_mod, show n % 256 % 128 = n % 128 by omega] at h
  rw [h]
theorem rd_k (W : World) (k : Nat) (hk : k < 256) : Rd (W.alloc (.cells #[.int .u8 (k : Int)] 5)) (some ⟨W.heap.size, 0, none⟩) [BitVec.ofNat 8 k] := by
  have h := rd_new1 W (BitVec.ofNat 8 k) 5
  have e : el (BitVec.ofNat 8 k) = (k : Int) := by unfold el; rw [BitVec.toNat_ofNat]; omega
  rwa [e] at h
section
attribute [local irreducible] Calls el sb
set_option maxRecDepth 1000000 in
theorem anew_any {w : World} {a : Option Addr} {bs : List (BitVec 8)} (h : Rd w a bs) (n c m : Nat) (hn : bs.length = n) (hm : n + m ≤ 140737488355328) :
    Calls Try.prog 42 #[.slice a n c, .int .i64 (m : Int)] w fun e w' => ∃ v, e = .returned v ∧ Ow w' w.heap.size v bs ∧ Below w.heap.size w w' := by
  have hmk : ∀ w, (Instr.makeSlice 35 (.int .i64 0) (.int .i64 ((n : Int) + (m : Int)))).run Try.prog w = .ok (.slice (some ⟨w.heap.size, 0, none⟩) 0 (n + m)) (w.alloc (.cells (Array.replicate (n + m) (.int .u8 0)) 5)) := fun w => by rw [← Int.natCast_add]; exact make_room (n + m) hm w
  have al : ∀ (W : World) (o : Obj), Below W.heap.size W (W.alloc o) := fun W o => (Below.refl _ _).alloc (Nat.le_refl _) o
  have o1 := Ow.made w (n + m) hm
  go_enter Try.func42, Try.ntmps42
  go_wp2_with (at_builtin; refine wpList_apa rfl (.tmp 9) (.tmp 10) rfl w.heap.size _ [] rfl o1 a n c bs rfl (h.below (al _ _)) hn (by simp; omega) ((al _ _).size) ?_; intro v1 w1 ho1 hg1 hk1)
  go_ret
  exact ⟨_, rfl, ho1, o1.below_append (al _ _) (al _ _).size hg1 (Nat.le_refl _)⟩
theorem anew0 {w : World} {a : Option Addr} {bs : List (BitVec 8)} (h : Rd w a bs) (n c : Nat) (hn : bs.length = n) (hm : n ≤ 140737488355328) :
    Calls Try.prog 42 #[.slice a n c, .int .i64 0] w fun e w' => ∃ v, e = .returned v ∧ Ow w' w.heap.size v bs ∧ Below w.heap.size w w' := anew_any h n c 0 hn hm
end
end Go.Proofs.Ytfcjkaigmlfjnaa
