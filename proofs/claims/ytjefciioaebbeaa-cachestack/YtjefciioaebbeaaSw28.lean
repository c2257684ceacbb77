/-
  CacheStack.
-/
import Derived.Test.YtjefciioaebbeaaSm28
import Derived.Test.YtjefciioaebbeaaAw28
import Derived.Test.YtjefciioaebbeaaUs28
import Derived.Deep.CutBlock
namespace Go.Proofs.Ytjefciioaebbeaa
open Go.RowKit SS
theorem uv_of {w : World} {u : Nat} {x : Us} (h : GB w u 34 x.cs) : UV w u x := h
theorem keysR {w wx : World} {c d : Nat} {r s : Int} {S T : List Ent} {X : Nat → Prop} (H : Tw w wx c r S d s T X) (hl : S.length ≤ 8796093022207) : Calls Try.prog 13 #[.pointer (some ⟨c, 0, none⟩)] wx fun e w' => ∃ p k, e = .returned (.slice p S.length k) ∧ Hid (Rt w' p (S.map En.key)) ∧ Hid (Below wx.heap.size wx w') ∧ Hid (Tw w w' c r S d s T X) := by
  refine (H.keys hl).mono ?_
  rintro e w' ⟨v, rfl, h1, h2⟩
  obtain ⟨p, k, rfl, _, h3⟩ := rt_own h1
  rw [List.length_map]
  exact ⟨p, k, rfl, h3, h2, H.more h2 (fun b h => .inl h)⟩
/-- Two caches and the law's variable. -/
def Ps (w wx : World) (c : Nat) (r : Int) (S : List Ent) (d : Nat) (s : Int) (T : List Ent) (u : Nat) (x : Us) : Prop := Tw w wx c r S d s T (· = u) ∧ UV wx u x
/-- The variable's key and value. -/
def Kv (wx : World) (u : Nat) (x : Us) : Prop := wx.cell? ⟨u, 2, none⟩ = some (encStr x.key) ∧ wx.cell? ⟨u, 3, none⟩ = some (encStr x.val)
section
variable {w wx : World} {c d u : Nat} {r s : Int} {S T : List Ent} {x : Us}
theorem Ps.swap (H : Ps w wx c r S d s T u x) : Ps w wx d s T c r S u x := ⟨H.1.swap, H.2⟩
theorem Ps.kv (H : Ps w wx c r S d s T u x) : Kv wx u x := ⟨H.2.cells.2.1, H.2.cells.2.2.1⟩
theorem Ps.next {w' : World} {S' : List Ent} (H : Ps w wx c r S d s T u x) (h : Tw w w' c r S' d s T (· = u) ∧ Kx (· = u) wx w') : Kv w' u x ∧ Hid (Ps w w' c r S' d s T u x) := by
  have h2 : Ps w w' c r S' d s T u x := ⟨h.1, H.2.keep (h.2 u rfl)⟩
  exact ⟨h2.kv, h2⟩
theorem Ps.put (H : Ps w wx c r S d s T u x) : Calls Try.prog 29 #[.pointer (some ⟨c, 0, none⟩), encStr x.key, encStr x.val, .int .i64 1] wx fun e w' => (∃ b, e = .returned (.bool b)) ∧ Kv w' u x ∧ Hid (Ps w w' c r (cput txq r ⟨0, x.key, x.val, 1⟩ S).1 d s T u x) := by
  refine (H.1.put x.key x.val 1 (by simp [txq]) (by decide) (by decide)).mono ?_
  rintro e w' ⟨rfl, h⟩
  exact ⟨⟨_, rfl⟩, H.next h⟩
theorem Ps.get (H : Ps w wx c r S d s T u x) : Calls Try.prog 30 #[.pointer (some ⟨c, 0, none⟩), encStr x.key] wx fun e w' => e = .returned (.tuple #[encStr (((fnd txq x.key S).map En.val).getD []), .bool (fnd txq x.key S).isSome]) ∧ Kv w' u x ∧ Hid (Ps w w' c r (cget txq x.key S) d s T u x) := by
  refine (H.1.get x.key).mono ?_
  rintro e w' ⟨rfl, h⟩
  refine ⟨?_, H.next h⟩
  cases fnd txq x.key S <;> rfl
theorem Ps.get_none (H : Ps w wx c r S d s T u x) (hf : fnd txq x.key S = none) : Calls Try.prog 30 #[.pointer (some ⟨c, 0, none⟩), encStr x.key] wx fun e w' => e = .returned (.tuple #[encStr [], .bool false]) ∧ Kv w' u x ∧ Hid (Ps w w' c r (cget txq x.key S) d s T u x) := by
  have := H.get
  rw [hf] at this
  exact this
theorem Ps.get_some (H : Ps w wx c r S d s T u x) {e : Ent} (hf : fnd txq x.key S = some e) : Calls Try.prog 30 #[.pointer (some ⟨c, 0, none⟩), encStr x.key] wx fun e1 w' => e1 = .returned (.tuple #[encStr e.val, .bool true]) ∧ Kv w' u x ∧ Hid (Ps w w' c r (cget txq x.key S) d s T u x) := by
  have := H.get
  rw [hf] at this
  exact this
theorem Ps.get_any (H : Ps w wx c r S d s T u x) : Calls Try.prog 30 #[.pointer (some ⟨c, 0, none⟩), encStr x.key] wx fun e w' => (∃ v b, e = .returned (.tuple #[encStr v, .bool b])) ∧ Kv w' u x ∧ Hid (Ps w w' c r (cget txq x.key S) d s T u x) := by
  refine H.get.mono ?_
  rintro e w' ⟨rfl, h⟩
  exact ⟨⟨_, _, rfl⟩, h⟩
theorem Ps.drop (H : Ps w wx c r S d s T u x) : Calls Try.prog 31 #[.pointer (some ⟨c, 0, none⟩), encStr x.key] wx fun e w' => e = .returned (.bool (fnd txq x.key S).isSome) ∧ Kv w' u x ∧ Hid (Ps w w' c r (drp txq x.key S) d s T u x) := by
  refine (H.1.drop x.key).mono ?_
  rintro e w' ⟨rfl, h⟩
  exact ⟨rfl, H.next h⟩
theorem Ps.drop_is (H : Ps w wx c r S d s T u x) {b : Bool} (hf : (fnd txq x.key S).isSome = b) : Calls Try.prog 31 #[.pointer (some ⟨c, 0, none⟩), encStr x.key] wx fun e w' => e = .returned (.bool b) ∧ Kv w' u x ∧ Hid (Ps w w' c r (drp txq x.key S) d s T u x) := by
  rw [← hf]; exact H.drop
theorem Ps.clear (H : Ps w wx c r S d s T u x) : Calls Try.prog 32 #[.pointer (some ⟨c, 0, none⟩)] wx fun e w' => e = .returned (.tuple #[]) ∧ Kv w' u x ∧ Hid (Ps w w' c r [] d s T u x) := by
  refine H.1.clear.mono ?_
  rintro e w' ⟨rfl, h⟩
  exact ⟨rfl, H.next h⟩
end
theorem wrap_up {n k : Nat} (h : n * 56 ≤ 140737488351232) (hk : k < n) : wrap64 ((k : Int) + 1) = ((k + 1 : Nat) : Int) := by unfold wrap64; omega
section
attribute [local irreducible] Calls SI.Co SS.Co SS.Tw Rt UV UL
set_option maxHeartbeats 4000000 in
set_option maxRecDepth 1000000 in
theorem cacheStack_walk {w : World} (room more : Int) {p : Option Addr} {n c : Nat} {f : Nat → Us} (hU : UL w p n f) (hn : n * 56 ≤ 140737488351232) (hI : ∀ i, i < n → (f i).key.length ≤ 140737488351232 ∧ (f i).val.length ≤ 140737488351232 ∧ In64 (f i).wt ∧ In64 (f i).dk) :
    Calls Try.prog 6 #[.int .i64 room, .int .i64 more, .slice p n c] w fun e w' => e = .returned (.bool true) ∧ Below w.heap.size w w' := by
  obtain ⟨R, hR⟩ : ∃ R : Nat, room % ((1048576 : Nat) : Int) = R := ⟨(room % ((1048576 : Nat) : Int)).toNat, by omega⟩
  obtain ⟨D, hD⟩ : ∃ D : Nat, more % ((1048576 : Nat) : Int) = D := ⟨(more % ((1048576 : Nat) : Int)).toNat, by omega⟩
  have hR2 : R < 1048576 := by omega
  have hD2 : D < 1048576 := by omega
  have HP1 := (show Hid (∀ W, Calls Try.prog 18 #[.int .i64 room, .int .i64 1048576] W fun e w' => e = .returned (.int .i64 (R : Int)) ∧ w' = W) from fun W => by rw [← hR]; exact pick_any room 1048576 (by decide) (by decide) W)
  have HP2 := (show Hid (∀ W, Calls Try.prog 18 #[.int .i64 more, .int .i64 1048576] W fun e w' => e = .returned (.int .i64 (D : Int)) ∧ w' = W) from fun W => by rw [← hD]; exact pick_any more 1048576 (by decide) (by decide) W)
  have HAw := (show Hid _ from awake_any w)
  have hsum : wrap64 ((R : Int) + (D : Int)) = ((R + D : Nat) : Int) := by unfold wrap64; omega
  have HN1 := (show Hid (∀ w1 : World, Below w.heap.size w w1 → _) from fun w1 hb => new_co (R : Int) (by omega) (by omega) (w0 := w) (w := w1) hb)
  have HN2 := (show Hid (∀ (w2 : World) (c : Nat) (X : Nat → Prop), SS.Co w w2 c (R : Int) [] X → _) from fun w2 c X H => Co.two (w0 := w) (w := w2) (c := c) (X := X) H ((R + D : Nat) : Int) (by omega) (by omega))
  have HU := (show Hid (UL w p n f) from hU)
  have HI := (show Hid _ from hI)
  have HN := (show Hid (n * 56 ≤ 140737488351232) from hn)
  have HRD := (show Hid (R < 1048576 ∧ D < 1048576) from ⟨hR2, hD2⟩)
  clear hU hI hn hR hD hR2 hD2
  go_enter Try.func6, Try.ntmps6
  go_wp2_with (first
    | (go_at_call 28; refine HAw.out.mono ?_; rintro e1 w1 ⟨rfl, hb1⟩; have HB1 := (show Hid (Below _ _ _) from hb1); clear hb1)
    | (go_at_call 18; refine (HP1.out _).mono ?_; rintro e1 w2 ⟨rfl, h1⟩; obtain rfl := h1.symm)
    | (go_at_call 18; refine (HP2.out _).mono ?_; rintro e1 w2 ⟨rfl, h1⟩; obtain rfl := h1.symm)
    | (go_at_call 9; refine (HN2.out _ _ _ HC.out).mono ?_; rintro e1 w3 ⟨d, rfl, H1, hb2⟩; have HT := (show Hid (SS.Tw _ _ _ _ _ _ _ _ _) from H1); clear H1 hb2)
    | (go_at_call 9; refine (HN1.out _ HB1.out).mono ?_; rintro e1 w2 ⟨cc, rfl, H1, hb2⟩; have HC := (show Hid (SS.Co _ _ _ _ _ _) from H1); clear H1 hb2))
  go_loopg [12] n (fun q i wr => ∃ (k : Nat) (S T : List Ent), k ≤ n ∧ q = n - k ∧ i = .int .i64 k ∧ Hid (Tw w wr cc (R : Int) S d ((R + D : Nat) : Int) T (fun _ => False)) ∧ Hid (Stk D S T))
  case atStart => exact ⟨0, [], [], Nat.zero_le _, rfl, rfl, HT.out.more (Below.refl _ _) (fun b h => h.elim), Stk.nil D⟩
  case round =>
    obtain ⟨k, S, T, hk, hq, rfl, hT, hS⟩ := hrel
    have HK := (show Hid (gk = n - k) from hq)
    clear hq
    by_cases hlt : k < n
    · have hi : (k : Int) < (n : Int) := by omega
      obtain ⟨b, o, rfl, hld⟩ := HU.out.load hT.out.base hlt
      obtain ⟨x, hx⟩ : ∃ x, x = f k := ⟨_, rfl⟩
      rw [← hx] at hld
      have HX := (show Hid (x = f k) from hx)
      clear hx
      have HLD := (show Hid _ from hld)
      clear hld
      have HO : Hid (Okc txq (R : Int) S ∧ Okc txq ((R + D : Nat) : Int) T) := hT.out.ok
      have HS := (show Hid (Stk D S T ∧ True) from ⟨hS.out, trivial⟩)
      clear hS
      have STEP : Hid (∀ W1 W2 : World, GB W2 wr.heap.size 34 x.cs → Below wr.heap.size wr W1 → W1.grownBy W2 (some wr.heap.size) → Hid (W1.heap.size = wr.heap.size + 1) → W2.cell? ⟨wr.heap.size, 1, none⟩ = some (.int .i64 x.dk) ∧ Hid (Ps w W2 cc (R : Int) S d ((R + D : Nat) : Int) T wr.heap.size x)) := by
        intro W1 W2 G2 hb1 hg2 hs1
        have hs := hs1.out
        have hB := grown_below hb1 hg2 (by omega) (Nat.le_refl _)
        refine ⟨(UV.cells (uv_of G2)).1, hT.out.more hB (fun b hb => .inr ⟨by rw [show b = _ from hb]; exact Nat.le_refl _, ?_⟩), uv_of G2⟩
        rw [show b = _ from hb]
        have := hg2.size
        omega
      obtain ⟨u, hu⟩ : ∃ u, u = wr.heap.size := ⟨_, rfl⟩
      go_upto_block 2 with (first
        | (refine wpList_ldAt rfl 34 _ rfl b (o + k * 5) rfl x.cs HLD.out ?_)
        | (refine wpList_alB rfl rfl us_zero ?_; intro W1 G1 hb1 hs1)
        | (refine wpList_stB rfl _ _ rfl rfl wr.heap.size rfl rfl G1 us_size rfl (us_one x) ?_; intro W2 G2 hg2 hs2; obtain ⟨d1, HP⟩ := STEP.out W1 W2 G2 hb1 hg2 hs1; clear G1 hb1 hs1 G2 hg2 hs2))
      clear d1 STEP hT HLD
      rw [← hu] at HP ⊢
      clear hu
      go_cut [14, 15, 16, 17, 18] from 61 to 121 (fun _ _ _ _ _ wx => Hid (∃ S' T', Tw w wx cc (R : Int) S' d ((R + D : Nat) : Int) T' (fun _ => False) ∧ Stk D S' T'))
      case first =>
        have hkv := HP.out.kv
        obtain ⟨d2, d3⟩ := hkv
        by_cases h0 : x.dk = 0
        · go_wp2_with (first
            | (go_at_call 29; refine (Ps.put HP.out).mono ?_; rintro e1 w5 ⟨⟨bb5, rfl⟩, ⟨g25, g35⟩, HQ⟩)
            | (go_at_call 29; refine (Ps.put HQ.out.swap).mono ?_; rintro e1 w6 ⟨⟨bb6, rfl⟩, ⟨g26, g36⟩, HZ⟩))
          go_meet
          exact ⟨_, _, HZ.out.swap.1.less (fun b h => h.elim), stk_put HS.out.1 HO.out.1.un HO.out.1.le x.key x.val⟩
        · by_cases h1 : x.dk = 1
          · cases hf : fnd txq x.key S with
            | none =>
              have HF := (show Hid (fnd txq x.key S = none) from hf)
              clear hf
              go_wp2_with (first
                | (go_at_call 30; refine (Ps.get_none HP.out HF.out).mono ?_; rintro e1 w5 ⟨rfl, ⟨g25, g35⟩, HQ⟩)
                | (go_at_call 30; refine (Ps.get_any HQ.out.swap).mono ?_; rintro e1 w6 ⟨⟨v6, b6, rfl⟩, ⟨g26, g36⟩, HZ⟩))
              go_meet
              exact ⟨_, _, HZ.out.swap.1.less (fun b h => h.elim), stk_get HS.out.1 HO.out.1.un HO.out.2.un x.key⟩
            | some e =>
              have HF := (show Hid (fnd txq x.key S = some e) from hf)
              have HF2 := (show Hid (fnd txq x.key T = some e) from stk_fnd HS.out.1 HO.out.2.un hf)
              clear hf
              go_wp2_with (first
                | (go_at_call 30; refine (Ps.get_some HP.out HF.out).mono ?_; rintro e1 w5 ⟨rfl, ⟨g25, g35⟩, HQ⟩)
                | (go_at_call 30; refine (Ps.get_some HQ.out.swap HF2.out).mono ?_; rintro e1 w6 ⟨rfl, ⟨g26, g36⟩, HZ⟩))
              go_meet
              exact ⟨_, _, HZ.out.swap.1.less (fun b h => h.elim), stk_get HS.out.1 HO.out.1.un HO.out.2.un x.key⟩
          · by_cases h2 : x.dk = 2
            · cases hf : (fnd txq x.key S).isSome with
              | false =>
                have HF := (show Hid ((fnd txq x.key S).isSome = false) from hf)
                obtain ⟨b2, hb2⟩ : ∃ b2, (fnd txq x.key T).isSome = b2 := ⟨_, rfl⟩
                have HF2 := (show Hid ((fnd txq x.key T).isSome = b2) from hb2)
                clear hf hb2
                cases b2
                · go_wp2_with (first
                    | (go_at_call 31; refine (Ps.drop_is HP.out HF.out).mono ?_; rintro e1 w5 ⟨rfl, ⟨g25, g35⟩, HQ⟩)
                    | (go_at_call 31; refine (Ps.drop_is HQ.out.swap HF2.out).mono ?_; rintro e1 w6 ⟨rfl, ⟨g26, g36⟩, HZ⟩))
                  go_meet
                  exact ⟨_, _, HZ.out.swap.1.less (fun b h => h.elim), Stk.drop HS.out.1 HO.out.1.un x.key⟩
                · go_wp2_with (first
                    | (go_at_call 31; refine (Ps.drop_is HP.out HF.out).mono ?_; rintro e1 w5 ⟨rfl, ⟨g25, g35⟩, HQ⟩)
                    | (go_at_call 31; refine (Ps.drop_is HQ.out.swap HF2.out).mono ?_; rintro e1 w6 ⟨rfl, ⟨g26, g36⟩, HZ⟩))
                  go_meet
                  exact ⟨_, _, HZ.out.swap.1.less (fun b h => h.elim), Stk.drop HS.out.1 HO.out.1.un x.key⟩
              | true =>
                have HF := (show Hid ((fnd txq x.key S).isSome = true) from hf)
                have HF2 : Hid ((fnd txq x.key T).isSome = true) := by
                  obtain ⟨e, he⟩ := Option.isSome_iff_exists.1 hf
                  show _ = true
                  rw [stk_fnd HS.out.1 HO.out.2.un he]; rfl
                clear hf
                go_wp2_with (first
                  | (go_at_call 31; refine (Ps.drop_is HP.out HF.out).mono ?_; rintro e1 w5 ⟨rfl, ⟨g25, g35⟩, HQ⟩)
                  | (go_at_call 31; refine (Ps.drop_is HQ.out.swap HF2.out).mono ?_; rintro e1 w6 ⟨rfl, ⟨g26, g36⟩, HZ⟩))
                go_meet
                exact ⟨_, _, HZ.out.swap.1.less (fun b h => h.elim), Stk.drop HS.out.1 HO.out.1.un x.key⟩
            · by_cases h3 : x.dk = 3
              · go_wp2_with (first
                  | (go_at_call 32; refine (Ps.clear HP.out).mono ?_; rintro e1 w5 ⟨rfl, ⟨g25, g35⟩, HQ⟩)
                  | (go_at_call 32; refine (Ps.clear HQ.out.swap).mono ?_; rintro e1 w6 ⟨rfl, ⟨g26, g36⟩, HZ⟩))
                go_meet
                exact ⟨_, _, HZ.out.swap.1.less (fun b h => h.elim), Stk.nil D⟩
              · go_wp2
                go_meet
                exact ⟨_, _, HP.out.1.less (fun b h => h.elim), HS.out.1⟩
      case rest =>
        obtain ⟨S', T', hT', hS'⟩ := hcut.out
        have hok := hT'.ok
        have h1S : Go.Proofs.Ytjefciioaebbeaa.W1 S' := fun e he => hS'.one e (hS'.sub.subset he)
        have hl1 : S'.length ≤ R := by have := hok.1.le; rw [wsum_one h1S] at this; omega
        have hl2 : T'.length ≤ R + D := by have := hok.2.le; rw [wsum_one hS'.one] at this; omega
        have hrd := HRD.out
        have HT := (show Hid (Tw w wc cc (R : Int) S' d ((R + D : Nat) : Int) T' (fun _ => False)) from hT')
        have HWt := (show Hid (∀ wx, Tw w wx cc (R : Int) S' d ((R + D : Nat) : Int) T' (fun _ => False) → Calls Try.prog 15 #[.pointer (some ⟨cc, 0, none⟩)] wx fun e w' => e = .returned (.int .i64 (S'.length : Int)) ∧ w' = wx) from fun wx H => by rw [← wsum_one h1S]; exact H.weight)
        have HSS := (show Hid (Stk D S' T') from hS')
        have HL := (show Hid (S'.length ≤ 8796093022207 ∧ T'.length ≤ 8796093022207) from ⟨by omega, by omega⟩)
        have g1 : ¬ (R : Int) < (S'.length : Int) := by omega
        have HMP := (show Hid ((S'.map En.key).length = S'.length ∧ (T'.map En.key).length = T'.length ∧ (S'.map En.key).Sublist (T'.map En.key)) from ⟨by simp, by simp, hS'.sub.map _⟩)
        clear hcut hT' hS' hok h1S hl1 hl2 hrd
        obtain ⟨L, hL⟩ : ∃ L, L = S'.length := ⟨_, rfl⟩
        obtain ⟨M, hM⟩ : ∃ M, M = T'.length := ⟨_, rfl⟩
        rw [← hL] at g1 HWt HL HMP
        rw [← hM] at HL HMP
        have HK1 := (show Hid (∀ wx, Tw w wx cc (R : Int) S' d ((R + D : Nat) : Int) T' (fun _ => False) → Calls Try.prog 13 #[.pointer (some ⟨cc, 0, none⟩)] wx fun e w' => ∃ p k, e = .returned (.slice p L k) ∧ Hid (Rt w' p (S'.map En.key)) ∧ Hid (Below wx.heap.size wx w') ∧ Hid (Tw w w' cc (R : Int) S' d ((R + D : Nat) : Int) T' (fun _ => False))) from fun wx H => by rw [hL]; exact keysR H (by rw [← hL]; exact HL.out.1))
        have HK2 := (show Hid (∀ wx, Tw w wx cc (R : Int) S' d ((R + D : Nat) : Int) T' (fun _ => False) → Calls Try.prog 13 #[.pointer (some ⟨d, 0, none⟩)] wx fun e w' => ∃ p k, e = .returned (.slice p M k) ∧ Hid (Rt w' p (T'.map En.key)) ∧ Hid (Below wx.heap.size wx w') ∧ Hid (Tw w w' d ((R + D : Nat) : Int) T' cc (R : Int) S' (fun _ => False))) from fun wx H => by rw [hM]; exact keysR H.swap (by rw [← hM]; exact HL.out.2))
        clear hL hM
        go_wp2_with (first
          | (go_at_call 13; refine (HK1.out _ HT.out).mono ?_; rintro e1 w4 ⟨p1, k1, rfl, HR1, hB1, HT1⟩; replace HT := HT1; clear HT1 hB1)
          | (go_at_call 13; refine (HK2.out _ HT.out).mono ?_; rintro e1 w5 ⟨p2, k2, rfl, HR2, hB2, HT2⟩; replace HT := (show Hid (Tw _ _ _ _ _ _ _ _ _) from HT2.out.swap); replace HR1 := (show Hid (Rt _ _ _) from HR1.out.below hB2.out); clear HT2 hB2)
          | (go_at_call 33; refine (within_core _ _ _ _ _ _ _ _ _ HMP.out.1 HMP.out.2.1 HR1.out HR2.out HL.out.1 HL.out.2 HMP.out.2.2).mono ?_; rintro e1 w6 ⟨rfl, hB3⟩; replace HT := (show Hid (Tw _ _ _ _ _ _ _ _ _) from HT.out.more hB3 (fun b h => .inl h)); clear hB3)
          | (go_at_call 15; refine (HWt.out _ HT.out).mono ?_; rintro e1 w7 ⟨rfl, h1⟩; obtain rfl := h1.symm))
        go_roundg (n - (k + 1))
        case measure =>
          have := HK.out; omega
        case rel => exact ⟨k + 1, S', T', by omega, rfl, by rw [wrap_up HN.out hlt], HT.out, HSS.out⟩
    · obtain rfl : k = n := by omega
      have hi : ¬ (k : Int) < (k : Int) := by omega
      go_wp2
      go_ret
      exact ⟨rfl, hT.out.base⟩
end
end Go.Proofs.Ytjefciioaebbeaa
