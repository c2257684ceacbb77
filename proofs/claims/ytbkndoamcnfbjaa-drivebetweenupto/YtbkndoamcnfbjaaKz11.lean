/-
  A drive among memory that it leaves as it is; 'played' and 'content' there.
-/
import Derived.Test.YtbkndoamcnfbjaaKw11
import Derived.Test.YtbkndoamcnfbjaaKy11
import Derived.Test.YtbkndoamcnfbjaaKt11
namespace Go.Proofs.Ytbkndoamcnfbjaa
open Go.RowKit Go.Maps Go.Sort
/-- A drive of the blocks F of the world w, and new ones; all else of w is as it was. -/
structure Dv (w0 w : World) (F : Nat → Prop) (db k : Nat) (σ : Ds) (X : World) : Prop where
  ex : ∃ F', DrAt X db σ F' ∧ ∀ b, F' b → F b ∨ w.heap.size ≤ b
  ok : Okk k σ
  tn : Tn F w X
  fb : ∀ b, F b → w0.heap.size ≤ b ∧ b < w.heap.size
  b0 : Below w0.heap.size w0 w
theorem Dv.start {w0 w : World} {F : Nat → Prop} {db k : Nat} {σ : Ds} (h : DrAt w db σ F) (ok : Okk k σ) (hF : ∀ b, F b → w0.heap.size ≤ b) (hb : Below w0.heap.size w0 w) : Dv w0 w F db k σ w := ⟨⟨F, h, fun _ hb => .inl hb⟩, ok, Tn.refl _ _, fun b hb => ⟨hF b hb, h.2.1 b hb⟩, hb⟩
theorem Dv.bl {w0 w X : World} {F : Nat → Prop} {db k : Nat} {σ : Ds} (h : Dv w0 w F db k σ X) : Below w0.heap.size w0 X := tn_bel h.b0 h.tn (fun b hb => (h.fb b hb).1)
theorem Dv.below {w0 w X X' : World} {F : Nat → Prop} {db k : Nat} {σ : Ds} (h : Dv w0 w F db k σ X) (hb : Below X.heap.size X X') : Dv w0 w F db k σ X' := by
  obtain ⟨⟨F', h1, h2⟩, ok, tn, fb, b0⟩ := h
  exact ⟨⟨F', h1.below hb, h2⟩, ok, tn.trans (Tn.of_below hb), fb, b0⟩
theorem Dv.next {w0 w X X' : World} {F F' : Nat → Prop} {db k k' : Nat} {σ σ' : Ds} (h : Dv w0 w F db k σ X) (hF : ∀ b, F' b → F b ∨ w.heap.size ≤ b) (ok : Okk k' σ') (hD : DrAt X' db σ' (Fn F' X X')) (hT : Tn F' X X') : Dv w0 w F db k' σ' X' := by
  have hz := h.tn.size
  refine ⟨⟨_, hD, ?_⟩, ok, ⟨hT.os.trans h.tn.os, hT.tape.trans h.tn.tape, hT.output.trans h.tn.output, Nat.le_trans hz hT.size, fun g hg hn => ?_⟩, h.fb, h.b0⟩
  · rintro b (hb | hb)
    · exact hF b hb
    · exact .inr (by omega)
  · refine (hT.block g (by omega) (fun hb => ?_)).trans (h.tn.block g hg hn)
    rcases hF g hb with h9 | h9
    · exact hn h9
    · omega
theorem Dv.f0 {w0 w X : World} {F F' : Nat → Prop} {db k : Nat} {σ : Ds} (h : Dv w0 w F db k σ X) (hF : ∀ b, F' b → F b ∨ w.heap.size ≤ b) : ∀ b, F' b → w0.heap.size ≤ b := fun b hb => by
  have hz := h.b0.size
  rcases hF b hb with h9 | h9
  · exact (h.fb b h9).1
  · omega
theorem Dv.do {w0 w X : World} {F : Nat → Prop} {db k : Nat} {σ : Ds} (h : Dv w0 w F db k σ X) (hk : k ≤ 134217728) (a : Atp) (hA : AcAt w0 a.2.1 a.2.2) : Calls Try.prog 18 #[.pointer (some ⟨db, 0, none⟩), .agg (a.2.1.v a.1)] X fun e w' => (∃ u1 u2 u3 u4, e = .returned (.tuple #[.agg (anC (.int .i64 (σ.act a.1 a.2.1.x a.2.1.y a.2.1.n a.2.2).1) u1 u2 u3 u4), .bool true])) ∧ Dv w0 w F db (k + aez a) (σ.step a) w' := by
  obtain ⟨F', h1, h2⟩ := h.ex
  refine (do_any h1 h.ok hk h.bl (h.f0 h2) a.1 a.2.1 a.2.2 hA).mono ?_
  rintro e w' ⟨e1, hD, hT⟩
  exact ⟨e1, h.next h2 (h.ok.act hk h1 a) hD hT⟩
theorem Dv.do1 {w0 w X : World} {F : Nat → Prop} {db k : Nat} {σ : Ds} (h : Dv w0 w F db k σ X) (hk : k ≤ 134217728) (a : Atp) (hA : AcAt w0 a.2.1 a.2.2) : Calls Try.prog 18 #[.pointer (some ⟨db, 0, none⟩), .agg (a.2.1.v a.1)] X fun e w' => (∃ u1 u2 u3 u4, ((anC (.int .i64 (σ.act a.1 a.2.1.x a.2.1.y a.2.1.n a.2.2).1) u1 u2 u3 u4).all fun x => x.oneCell') = true ∧ e = .returned (.tuple #[.agg (anC (.int .i64 (σ.act a.1 a.2.1.x a.2.1.y a.2.1.n a.2.2).1) u1 u2 u3 u4), .bool true])) ∧ Dv w0 w F db (k + aez a) (σ.step a) w' := by
  obtain ⟨F', h1, h2⟩ := h.ex
  refine (do_one h1 h.ok hk h.bl (h.f0 h2) a.1 a.2.1 a.2.2 hA).mono ?_
  rintro e w' ⟨e1, hD, hT⟩
  exact ⟨e1, h.next h2 (h.ok.act hk h1 a) hD hT⟩
theorem Dv.more {w0 w X : World} {F : Nat → Prop} {db k k' : Nat} {σ : Ds} (h : Dv w0 w F db k σ X) (hk : k ≤ k') : Dv w0 w F db k' σ X := ⟨h.ex, h.ok.mono hk, h.tn, h.fb, h.b0⟩
theorem Dv.crash {w0 w X : World} {F : Nat → Prop} {db k : Nat} {σ : Ds} (h : Dv w0 w F db k σ X) (hk : k ≤ 134217728) (pd : Option Addr) (nd cd : Nat) (dirs : List Bool) (hdl : dirs.length = nd) (hd : Bls X pd dirs) (pc : Option Addr) (nc cc : Nat) (cuts : List Int) (hcl : cuts.length = nc) (hc : Ils X pc cuts) (hnd : nd ≤ 1000000000) (hnc : nc ≤ 1000000000) (hcF : 0 < nc → ∀ b o, pc = some ⟨b, o, none⟩ → b < w.heap.size ∧ ¬ F b) : Calls Try.prog 20 #[.pointer (some ⟨db, 0, none⟩), .agg (ftC (.slice pd nd cd) (.slice pc nc cc))] X fun e w' => e = .returned (.int .i64 0) ∧ Dv w0 w F db k (σ.crash dirs cuts) w' := by
  obtain ⟨F', h1, h2⟩ := h.ex
  refine (crash_gen h1 h.ok hk pd nd cd dirs hdl hd pc nc cc cuts hcl hc hnd hnc (fun h0 b o e hFb => by
    have h3 := hcF h0 b o e
    rcases h2 b hFb with h9 | h9
    · exact h3.2 h9
    · omega)).mono ?_
  rintro e w' ⟨e1, hD, hT⟩
  exact ⟨e1, h.next h2 (h.ok.crash hk dirs cuts h1) hD hT⟩
theorem Dv.image {w0 w X : World} {F : Nat → Prop} {db k : Nat} {σ : Ds} (h : Dv w0 w F db k σ X) (hk : k ≤ 134217728) : Calls Try.prog 24 #[.pointer (some ⟨db, 0, none⟩)] X fun e w' => ∃ v, e = .returned v ∧ FsAt w' X.heap.size v (tol σ (·.data) σ.st) ∧ Below X.heap.size X w' := by
  obtain ⟨F', h1, h2⟩ := h.ex
  exact image_any h1 h.ok hk
theorem Dv.pending {w0 w X : World} {F : Nat → Prop} {db k : Nat} {σ : Ds} (h : Dv w0 w F db k σ X) : Calls Try.prog 22 #[.pointer (some ⟨db, 0, none⟩)] X fun e w' => e = .returned (.int .i64 (σ.pend.length : Int)) ∧ w' = X := by
  obtain ⟨F', h1, h2⟩ := h.ex
  exact pending_any h1
theorem Dv.wfd {w0 w X : World} {F : Nat → Prop} {db k : Nat} {σ : Ds} (h : Dv w0 w F db k σ X) : Wfd σ := by
  obtain ⟨F', h1, h2⟩ := h.ex
  exact wfd_of h1 h.ok
section
attribute [local irreducible] Calls GB Ac.v anC DrAt
set_option maxHeartbeats 2000000 in
set_option maxRecDepth 1000000 in
theorem played_gen {w0 w X : World} {G : Nat → Prop} {db k0 : Nat} {σ : Ds} (L : List Atp) (p : Option Addr) (n c : Nat) (hn : L.length = n) (hA : AcsAt w0 p L) (h : Dv w0 w G db k0 σ X) (hb : k0 + aesz L ≤ 134217728) (hnn : n ≤ 134217728) : Calls Try.prog 11 #[.pointer (some ⟨db, 0, none⟩), .slice p n c] X fun e w' => (∃ r, e = .returned r) ∧ Dv w0 w G db (k0 + aesz L) (σ.run L) w' := by
  have P0 := (show Hid (Dv w0 w G db (k0 + aesz (L.take 0)) (σ.run (L.take 0)) X) from h)
  have HA := (show Hid (AcsAt w0 p L) from hA)
  have HB := (show Hid (k0 + aesz L ≤ 134217728) from hb)
  clear h hA hb
  go_enter Try.func11, Try.ntmps11
  go_wp2
  go_loopw [4] (fun i wr => ∃ k : Nat, k ≤ n ∧ i = .int .i64 (k : Int) ∧ Hid (Dv w0 w G db (k0 + aesz (L.take k)) (σ.run (L.take k)) wr)) (fun i _ => n - (intOf i).toNat)
  case atStart => exact ⟨0, Nat.zero_le _, rfl, P0⟩
  case round =>
    obtain ⟨k, hk, rfl, hP⟩ := hrel
    by_cases hlt : k < n
    · have hi : (k : Int) < (n : Int) := by omega
      have hkl : k < L.length := by omega
      obtain ⟨b, o, hp, hS, hAc⟩ := HA.out k hkl
      obtain ⟨a, ha⟩ : ∃ a, a = L[k] := ⟨_, rfl⟩
      have hld := (hS.below hP.out.bl).run
      rw [← ha] at hld hAc
      have h1 := aesz_le L k
      have HD := (show Hid (Calls Try.prog 18 #[.pointer (some ⟨db, 0, none⟩), .agg (a.2.1.v a.1)] wr fun e w' => (∃ u1 u2 u3 u4, e = .returned (.tuple #[.agg (anC (.int .i64 ((σ.run (L.take k)).act a.1 a.2.1.x a.2.1.y a.2.1.n a.2.2).1) u1 u2 u3 u4), .bool true])) ∧ Dv w0 w G db (k0 + aesz (L.take (k + 1))) (σ.run (L.take (k + 1))) w') from by
        have h9 := hP.out.do (by have := HB.out; omega) a hAc
        rw [run_succ σ L k hkl, aesz_succ L k hkl, ← Nat.add_assoc, ← ha]
        exact h9)
      subst hp
      clear hS hAc ha h1 hkl
      go_wp2_with (first
        | (refine wpList_ldAt rfl _ _ rfl b (o + k * 7) rfl _ hld ?_)
        | (go_at_call 18; refine HD.out.mono ?_; rintro e w2 ⟨⟨u1, u2, u3, u4, rfl⟩, hD2⟩; have HR := (show Hid (Dv w0 w G db (k0 + aesz (L.take (k + 1))) (σ.run (L.take (k + 1))) w2) from hD2); clear hD2))
      go_roundw
      case rel => exact ⟨k + 1, by omega, by go_num, HR⟩
      case measure => simp [intOf]; omega
    · obtain rfl : n = k := by omega
      go_wp2
      go_end0
      refine ⟨⟨_, rfl⟩, ?_⟩
      have h9 := hP.out
      rw [List.take_of_length_le (by omega)] at h9
      exact h9
end
theorem cnt_drop {L : List (Tx × Tx)} {x : Tx} {k : Nat} (h : k < L.length) : cnt (L.drop k) x = if (L.getD k ([], [])).1 = x then some (L.getD k ([], [])).2 else cnt (L.drop (k + 1)) x := by
  rw [List.drop_eq_getElem_cons h]
  unfold cnt
  rw [List.find?_cons]
  simp only [List.getD, List.getElem?_eq_getElem h, Option.getD_some]
  by_cases e : L[k].1 = x
  · rw [if_pos e]
    have : (L[k].1 == x) = true := by simpa using e
    simp only [this]
    rfl
  · rw [if_neg e]
    have : (L[k].1 == x) = false := by simpa using e
    simp only [this]
section
attribute [local irreducible] Calls
set_option maxHeartbeats 1000000 in
set_option maxRecDepth 1000000 in
theorem content_any {w : World} {base : Nat} {v : Value} {L : List (Tx × Tx)} (h : FsAt w base v L) (hL : L.length ≤ 1000000000) (x : Tx) : Calls Try.prog 31 #[v, encStr x] w fun e w' => e = .returned (.tuple #[encStr ((cnt L x).getD []), .bool (cnt L x).isSome]) ∧ Below w.heap.size w w' := by
  obtain ⟨n, hn⟩ : ∃ n, n = L.length := ⟨_, rfl⟩
  obtain ⟨p1, c1, rfl⟩ : ∃ p c, v = .slice p n c := by rw [hn]; exact h.len
  have HH := (show Hid (_ ∧ _) from ⟨h, hn⟩)
  rw [← hn] at hL
  clear h hn
  go_enter Try.func31, Try.ntmps31
  go_wp2
  go_loopw [6] (fun i wr => ∃ k : Nat, k ≤ n ∧ i = .int .i64 k ∧ Hid (wr = w ∧ cnt L x = cnt (L.drop k) x)) (fun i _ => n - (intOf i).toNat)
  case atStart => exact ⟨0, Nat.zero_le _, rfl, ⟨rfl, by rw [List.drop_zero]⟩⟩
  case round =>
    obtain ⟨k, hk, rfl, hB⟩ := hrel
    obtain ⟨h9, hc⟩ := hB.out
    subst h9
    by_cases hlt : k < n
    · have hi : (k : Int) < (n : Int) := by omega
      obtain ⟨h1, hn⟩ := HH.out
      obtain ⟨g, cg, pd, cd, e1, e2, e3, e4⟩ := h1.file k (by omega)
      replace e4 := conv_tv e4
      injection e1 with e1 en ec
      subst e1 ec
      rw [cnt_drop (by omega)] at hc
      generalize (L.getD k ([], [])).1 = y at *
      generalize (L.getD k ([], [])).2 = d at *
      generalize d.length = nd at *
      clear en hn hB
      by_cases hy : y = x
      · have hyx : (y == x) = true := by simpa using hy
        rw [if_pos hy] at hc
        have HC := (show Hid (cnt L x = some d) from hc)
        clear hc h1
        go_wp2
        refine bodyPost_ret (results_tmp2 rfl _ _ _) rfl ?_
        rw [HC.out]
        exact ⟨rfl, Below.refl _ _⟩
      · have hyx : (y == x) = false := by simpa using hy
        rw [if_neg hy] at hc
        have HC := (show Hid (wr = wr ∧ cnt L x = cnt (L.drop (k + 1)) x) from ⟨rfl, hc⟩)
        clear hc h1
        go_wp2
        go_roundw
        case rel => exact ⟨k + 1, by omega, by go_num, ⟨trivial, HC.out.2⟩⟩
        case measure => simp [intOf]; omega
    · obtain rfl : k = n := by omega
      have hi : ¬ (k : Int) < (k : Int) := by omega
      have hc2 := (show Hid (cnt L x = none) from by
        rw [List.drop_eq_nil_of_le (by rw [HH.out.2]; exact Nat.le_refl _)] at hc
        exact hc)
      clear hc hB
      go_wp2
      refine bodyPost_ret (results_tmp2 rfl _ _ _) rfl ?_
      rw [hc2.out]
      exact ⟨rfl, Below.refl _ _⟩
end
end Go.Proofs.Ytbkndoamcnfbjaa
