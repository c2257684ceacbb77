/-
  Layer 11's laws: 'touches', 'played'.
-/
import Derived.Test.YtaddgmbglhdfdaaKp11
namespace Go.Proofs.Ytaddgmbglhdfdaa
open Go.RowKit Go.Maps Go.Sort
/-- A drive behind the first acts of a script. -/
structure PlR (w0 : World) (db : Nat) (σ : Ds) (L : List Atp) (k0 k : Nat) (wr : World) : Prop where
  ex : ∃ F, DrAt wr db (σ.run (L.take k)) F ∧ ∀ b, F b → w0.heap.size ≤ b
  ok : Okk (k0 + aesz (L.take k)) (σ.run (L.take k))
  bl : Below w0.heap.size w0 wr
theorem run_succ (σ : Ds) (L : List Atp) (k : Nat) (h : k < L.length) : σ.run (L.take (k + 1)) = (σ.run (L.take k)).step L[k] := by
  unfold Ds.run
  rw [List.take_add_one, List.getElem?_eq_getElem h, List.foldl_append]
  rfl
theorem aesz_succ (L : List Atp) (k : Nat) (h : k < L.length) : aesz (L.take (k + 1)) = aesz (L.take k) + aez L[k] := by
  unfold aesz
  rw [List.take_add_one, List.getElem?_eq_getElem h, List.map_append, List.sum_append]
  simp
theorem aesz_le (L : List Atp) (k : Nat) : aesz (L.take k) ≤ aesz L := by
  unfold aesz
  conv => rhs; rw [← List.take_append_drop k L]
  rw [List.map_append, List.sum_append]
  omega
theorem PlR.below {w0 wr w' : World} {db : Nat} {σ : Ds} {L : List Atp} {k0 k : Nat} (h : PlR w0 db σ L k0 k wr) (hb : Below wr.heap.size wr w') : PlR w0 db σ L k0 k w' := by
  obtain ⟨⟨F, h1, h2⟩, h3, h4⟩ := h
  exact ⟨⟨F, h1.below hb, h2⟩, h3, h4.trans (hb.mono h4.size)⟩
theorem PlR.step {w0 wr w' : World} {db : Nat} {σ : Ds} {L : List Atp} {k0 k : Nat} {F : Nat → Prop} (h : PlR w0 db σ L k0 k wr) (hk : k < L.length) (hb : k0 + aesz L ≤ 134217728) (hF : DrAt wr db (σ.run (L.take k)) F) (hF0 : ∀ b, F b → w0.heap.size ≤ b) (hD : DrAt w' db ((σ.run (L.take k)).step L[k]) (Fn F wr w')) (hT : Tn F wr w') : PlR w0 db σ L k0 (k + 1) w' := by
  have hz := h.bl.size
  have h1 := aesz_le L k
  refine ⟨⟨_, by rw [run_succ σ L k hk]; exact hD, ?_⟩, ?_, tn_bel h.bl hT hF0⟩
  · rintro b (h | h)
    · exact hF0 b h
    · omega
  · rw [run_succ σ L k hk, aesz_succ L k hk, ← Nat.add_assoc]
    exact h.ok.act (by omega) hF _
section
attribute [local irreducible] Calls GB Ac.v anC DrAt
set_option maxHeartbeats 2000000 in
set_option maxRecDepth 1000000 in
theorem played_any {w0 w : World} {db k0 : Nat} {σ : Ds} (L : List Atp) (p : Option Addr) (n c : Nat) (hn : L.length = n) (hA : AcsAt w0 p L) (h : PlR w0 db σ L k0 0 w) (hb : k0 + aesz L ≤ 134217728) (hnn : n ≤ 134217728) : Calls Try.prog 11 #[.pointer (some ⟨db, 0, none⟩), .slice p n c] w fun e w' => (∃ r, e = .returned r) ∧ PlR w0 db σ L k0 n w' := by
  have P0 := (show Hid (PlR w0 db σ L k0 0 w) from h)
  have HA := (show Hid (AcsAt w0 p L) from hA)
  have HB := (show Hid (k0 + aesz L ≤ 134217728) from hb)
  clear h hA hb
  go_enter Try.func11, Try.ntmps11
  go_wp2
  go_loopw [4] (fun i wr => ∃ k : Nat, k ≤ n ∧ i = .int .i64 (k : Int) ∧ Hid (PlR w0 db σ L k0 k wr)) (fun i _ => n - (intOf i).toNat)
  case atStart => exact ⟨0, Nat.zero_le _, rfl, P0⟩
  case round =>
    obtain ⟨k, hk, rfl, hP⟩ := hrel
    by_cases hlt : k < n
    · have hi : (k : Int) < (n : Int) := by omega
      have hkl : k < L.length := by omega
      obtain ⟨F, hD, hF0⟩ := hP.out.ex
      obtain ⟨b, o, hp, hS, hAc⟩ := HA.out k hkl
      obtain ⟨a, ha⟩ : ∃ a, a = L[k] := ⟨_, rfl⟩
      have HS := (show Hid (∀ z, (loadVar 46 ⟨b, o + k * 7, none⟩).run Try.prog z = .ok (.agg (a.2.1.v a.1)) z → True) from fun _ _ => trivial)
      have hld := (hS.below hP.out.bl).run
      rw [← ha] at hld hAc
      have h1 := aesz_le L k
      have HD := (show Hid (Calls Try.prog 18 #[.pointer (some ⟨db, 0, none⟩), .agg (a.2.1.v a.1)] wr _) from do_any hD hP.out.ok (by have := HB.out; omega) hP.out.bl hF0 a.1 a.2.1 a.2.2 hAc)
      have HQ := (show Hid (∀ w', DrAt w' db ((σ.run (L.take k)).act a.1 a.2.1.x a.2.1.y a.2.1.n a.2.2).2 (Fn F wr w') → Tn F wr w' → PlR w0 db σ L k0 (k + 1) w') from fun w' h2 h3 => hP.out.step hkl HB.out hD hF0 (by rw [← ha]; exact h2) h3)
      obtain ⟨q, hq⟩ : ∃ q, p = q := ⟨_, rfl⟩
      subst hp
      clear hq hS hAc ha hD hF0 HS h1 hkl
      go_wp2_with (first
        | (refine wpList_ldAt rfl _ _ rfl b (o + k * 7) rfl _ hld ?_)
        | (go_at_call 18; refine HD.out.mono ?_; rintro e w2 ⟨⟨u1, u2, u3, u4, rfl⟩, hD2, hT2⟩; have HR := (show Hid (PlR w0 db σ L k0 (k + 1) w2) from HQ.out w2 hD2 hT2); clear hD2 hT2))
      go_roundw
      case rel => exact ⟨k + 1, by omega, by go_num, HR⟩
      case measure => simp [intOf]; omega
    · obtain rfl : n = k := by omega
      go_wp2
      go_end0
      exact ⟨⟨_, rfl⟩, hP.out⟩
end
end Go.Proofs.Ytaddgmbglhdfdaa
