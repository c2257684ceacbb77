/-
  CacheHolds.
-/
import Derived.Test.YtjefciioaebbeaaMn28
import Derived.Test.YtjefciioaebbeaaCiS28
import Derived.Test.YtjefciioaebbeaaAw28
import Derived.Deep.CutBlock
namespace Go.Proofs.Ytjefciioaebbeaa
open Go.RowKit SS
/-- What the law's map says of what is held. -/
structure Hi (φ : Tx → Option Nt) (S : List Ent) (k : Nat) : Prop where
  is : ∀ e ∈ S, φ e.key = some ⟨e.val, e.wt, true⟩
  len : S.length ≤ k
theorem Hi.put {φ : Tx → Option Nt} {S : List Ent} {k : Nat} (h : Hi φ S k) (r : Int) (x v : Tx) (wt : Int) : Hi (updn φ x ⟨v, wt, (cput txq r ⟨0, x, v, wt⟩ S).2⟩) (cput txq r ⟨0, x, v, wt⟩ S).1 (k + 1) := by
  have hd : ∀ e ∈ drp txq x S, ∀ n, updn φ x n e.key = some ⟨e.val, e.wt, true⟩ := by
    intro e he n
    have h1 := drp_not he
    have h2 : ¬ e.key = x := fun h => by rw [h] at h1; simp [txq] at h1
    unfold updn
    rw [if_neg h2]
    exact h.is e (List.mem_filter.1 he).1
  have hl : (drp txq x S).length ≤ S.length := List.length_filter_le _ _
  unfold cput
  simp only
  by_cases hc : wt < 0 ∨ r < wt
  · rw [if_pos hc]
    exact ⟨fun e he => hd e he _, Nat.le_succ_of_le (Nat.le_trans hl h.len)⟩
  · rw [if_neg hc]
    refine ⟨fun e he => ?_, ?_⟩
    · rcases List.mem_cons.1 he with rfl | he
      · unfold updn; rw [if_pos rfl]
      · exact hd e ((evc_pre' _ _).sublist.subset he) _
    · have h1 := (evc_pre' (r - wt) (drp txq x S)).length_le
      exact Nat.succ_le_succ (Nat.le_trans h1 (Nat.le_trans hl h.len))
theorem Hi.drop {φ : Tx → Option Nt} {S : List Ent} {k : Nat} (h : Hi φ S k) (x : Tx) : Hi (updn φ x nt0) (drp txq x S) (k + 1) := by
  refine ⟨fun e he => ?_, ?_⟩
  · have h1 := drp_not he
    have h2 : ¬ e.key = x := fun h => by rw [h] at h1; simp [txq] at h1
    unfold updn
    rw [if_neg h2]
    exact h.is e (List.mem_filter.1 he).1
  · have hl : (drp txq x S).length ≤ S.length := List.length_filter_le _ _
    have := h.len
    omega
theorem Hi.get {φ : Tx → Option Nt} {S : List Ent} {k : Nat} (h : Hi φ S k) (hu : Unl txq (S.map En.key)) (x : Tx) : Hi φ (cget txq x S) (k + 1) := by
  unfold cget
  cases hf : fnd txq x S with
  | none =>
    show Hi φ S (k + 1)
    exact ⟨h.is, Nat.le_succ_of_le h.len⟩
  | some e =>
    obtain ⟨A, B, rfl⟩ := fnd_at hf
    have he := (fnd_some hf).2
    show Hi φ (e :: drp txq x (A ++ e :: B)) (k + 1)
    rw [drp_at tkind.per hu he]
    have hp : (A ++ e :: B).Perm (e :: (A ++ B)) := List.perm_middle
    exact ⟨fun y hy => h.is y (hp.mem_iff.2 hy), by rw [← hp.length_eq]; exact Nat.le_succ_of_le h.len⟩
theorem Hi.at {φ : Tx → Option Nt} {S : List Ent} {k : Nat} (h : Hi φ S k) {x : Tx} {e : Ent} (hf : fnd txq x S = some e) : φ x = some ⟨e.val, e.wt, true⟩ := by
  have h1 := fnd_some hf
  rw [txq_iff.1 h1.2]
  exact h.is e h1.1
theorem put_is (r : Int) (x v : Tx) (wt : Int) (S : List Ent) : (cput txq r ⟨0, x, v, wt⟩ S).2 = (decide (0 ≤ wt) && decide (wt ≤ r)) := by
  unfold cput
  simp only
  by_cases hc : wt < 0 ∨ r < wt
  · rw [if_pos hc]
    rcases hc with h | h
    · rw [decide_eq_false (show ¬ 0 ≤ wt by omega)]; rfl
    · rw [decide_eq_false (show ¬ wt ≤ r by omega)]; simp
  · rw [if_neg hc, decide_eq_true (show 0 ≤ wt by omega), decide_eq_true (show wt ≤ r by omega)]; rfl
theorem put_head {r : Int} {x v : Tx} {wt : Int} {S : List Ent} (h : (cput txq r ⟨0, x, v, wt⟩ S).2 = true) : ∃ L, (cput txq r ⟨0, x, v, wt⟩ S).1 = ⟨0, x, v, wt⟩ :: L := by
  unfold cput at h ⊢
  split at h
  · cases h
  · rename_i hc; rw [if_neg hc]; exact ⟨_, rfl⟩
/-- A cache and the law's map. -/
def Hm (w wx : World) (cb : Nat) (r : Int) (S : List Ent) (lb : Nat) (φ : Tx → Option Nt) : Prop := ∃ o, Co w wx cb r S (· = lb) ∧ wx.heap[lb]? = some o ∧ MnO o φ ∧ w.heap.size ≤ lb
/-- .. and the law's variable. -/
def Hk (w wx : World) (cb : Nat) (r : Int) (S : List Ent) (lb : Nat) (φ : Tx → Option Nt) (u : Nat) (x : Us) : Prop := ∃ o, Co w wx cb r S (fun b => b = lb ∨ b = u) ∧ wx.heap[lb]? = some o ∧ MnO o φ ∧ w.heap.size ≤ lb ∧ UV wx u x ∧ lb ≠ u ∧ w.heap.size ≤ u
/-- The variable's fields. -/
def Kw (wx : World) (u : Nat) (x : Us) : Prop := wx.cell? ⟨u, 2, none⟩ = some (encStr x.key) ∧ wx.cell? ⟨u, 3, none⟩ = some (encStr x.val) ∧ wx.cell? ⟨u, 4, none⟩ = some (.int .i64 x.wt)
theorem hm_mk {w wx : World} {cb : Nat} {r : Int} {S : List Ent} {lb : Nat} {φ : Tx → Option Nt} {o : Obj} (h1 : Co w wx cb r S (· = lb)) (h2 : wx.heap[lb]? = some o) (h3 : MnO o φ) (h4 : w.heap.size ≤ lb) : Hm w wx cb r S lb φ := ⟨o, h1, h2, h3, h4⟩
theorem uv_of {w : World} {u : Nat} {x : Us} (h : GB w u 34 x.cs) : UV w u x := h
section
variable {w wx : World} {cb : Nat} {r : Int} {S : List Ent} {lb : Nat} {φ : Tx → Option Nt} {u : Nat} {x : Us}
theorem Hk.kw (H : Hk w wx cb r S lb φ u x) : Kw wx u x := by
  obtain ⟨o, _, _, _, _, h, _⟩ := H
  exact ⟨h.cells.2.1, h.cells.2.2.1, h.cells.2.2.2.1⟩
theorem Hk.base (H : Hk w wx cb r S lb φ u x) : Below w.heap.size w wx := by
  obtain ⟨o, h, _⟩ := H; exact h.base
theorem Hk.ok (H : Hk w wx cb r S lb φ u x) : Okc txq r S := by
  obtain ⟨o, h, _⟩ := H; exact h.ok.1
theorem Hm.ok (H : Hm w wx cb r S lb φ) : Okc txq r S := by
  obtain ⟨o, h, _⟩ := H; exact h.ok.1
theorem Hm.base (H : Hm w wx cb r S lb φ) : Below w.heap.size w wx := by
  obtain ⟨o, h, _⟩ := H; exact h.base
theorem Hk.m (H : Hk w wx cb r S lb φ u x) : Hm w wx cb r S lb φ := by
  obtain ⟨o, h1, h2, h3, h4, _⟩ := H
  exact ⟨o, h1.less (fun b h => .inl h), h2, h3, h4⟩
theorem Hm.more (H : Hm w wx cb r S lb φ) {w' : World} (hb : Below wx.heap.size wx w') : Hm w w' cb r S lb φ := by
  obtain ⟨o, h1, h2, h3, h4⟩ := H
  exact ⟨o, h1.more hb (fun b h => .inl h), by rw [hb.block lb (blt h2)]; exact h2, h3, h4⟩
theorem Hk.more (H : Hk w wx cb r S lb φ u x) {w' : World} (hb : Below wx.heap.size wx w') : Hk w w' cb r S lb φ u x := by
  obtain ⟨o, h1, h2, h3, h4, h5, h6, h7⟩ := H
  exact ⟨o, h1.more hb (fun b h => .inl h), by rw [hb.block lb (blt h2)]; exact h2, h3, h4, h5.keep (hb.block u (GB.lt h5)), h6, h7⟩
theorem Hm.var (H : Hm w wx cb r S lb φ) {w' : World} (hb : Below wx.heap.size wx w') (hv : UV w' wx.heap.size x) (hz : wx.heap.size < w'.heap.size) : Hk w w' cb r S lb φ wx.heap.size x := by
  have hbs := H.base.size
  obtain ⟨o, h1, h2, h3, h4⟩ := H
  have hlt := blt h2
  refine ⟨o, h1.more hb (fun b h => ?_), by rw [hb.block lb hlt]; exact h2, h3, h4, hv, by omega, hbs⟩
  rcases h with h | h
  · exact .inl h
  · exact .inr ⟨by rw [h]; exact Nat.le_refl _, by rw [h]; exact hz⟩
theorem Hk.next (H : Hk w wx cb r S lb φ u x) {w' : World} {S' : List Ent} (h : Co w w' cb r S' (fun b => b = lb ∨ b = u) ∧ Kx (fun b => b = lb ∨ b = u) wx w') : Kw w' u x ∧ Hid (Hk w w' cb r S' lb φ u x) := by
  obtain ⟨o, h1, h2, h3, h4, h5, h6, h7⟩ := H
  have hk : Hk w w' cb r S' lb φ u x := ⟨o, h.1, by rw [h.2 lb (.inl rfl)]; exact h2, h3, h4, h5.keep (h.2 u (.inr rfl)), h6, h7⟩
  exact ⟨hk.kw, hk⟩
theorem Hk.put (H : Hk w wx cb r S lb φ u x) (hw : In64 x.wt) : Calls Try.prog 29 #[.pointer (some ⟨cb, 0, none⟩), encStr x.key, encStr x.val, .int .i64 x.wt] wx fun e w' => e = .returned (.bool (cput txq r ⟨0, x.key, x.val, x.wt⟩ S).2) ∧ Kw w' u x ∧ Hid (Hk w w' cb r (cput txq r ⟨0, x.key, x.val, x.wt⟩ S).1 lb φ u x) := by
  obtain ⟨o, h1, _⟩ := id H
  refine (h1.put x.key x.val x.wt (by simp [txq]) hw.1 hw.2).mono ?_
  rintro e w' ⟨rfl, h⟩
  exact ⟨rfl, H.next h⟩
theorem Hk.get_none (H : Hk w wx cb r S lb φ u x) (hf : fnd txq x.key S = none) : Calls Try.prog 30 #[.pointer (some ⟨cb, 0, none⟩), encStr x.key] wx fun e w' => e = .returned (.tuple #[encStr [], .bool false]) ∧ Kw w' u x ∧ Hid (Hk w w' cb r (cget txq x.key S) lb φ u x) := by
  obtain ⟨o, h1, _⟩ := id H
  refine (h1.get x.key).mono ?_
  rintro e w' ⟨he, h⟩
  rw [hf] at he
  exact ⟨he, H.next h⟩
theorem Hk.get_some (H : Hk w wx cb r S lb φ u x) {y : Ent} (hf : fnd txq x.key S = some y) : Calls Try.prog 30 #[.pointer (some ⟨cb, 0, none⟩), encStr x.key] wx fun e w' => e = .returned (.tuple #[encStr y.val, .bool true]) ∧ Kw w' u x ∧ Hid (Hk w w' cb r (cget txq x.key S) lb φ u x) := by
  obtain ⟨o, h1, _⟩ := id H
  refine (h1.get x.key).mono ?_
  rintro e w' ⟨he, h⟩
  rw [hf] at he
  exact ⟨he, H.next h⟩
theorem Hk.drop (H : Hk w wx cb r S lb φ u x) : Calls Try.prog 31 #[.pointer (some ⟨cb, 0, none⟩), encStr x.key] wx fun e w' => (∃ b, e = .returned (.bool b)) ∧ Kw w' u x ∧ Hid (Hk w w' cb r (drp txq x.key S) lb φ u x) := by
  obtain ⟨o, h1, _⟩ := id H
  refine (h1.drop x.key).mono ?_
  rintro e w' ⟨he, h⟩
  exact ⟨⟨_, he⟩, H.next h⟩
theorem Hk.clear (H : Hk w wx cb r S lb φ u x) : Calls Try.prog 32 #[.pointer (some ⟨cb, 0, none⟩)] wx fun e w' => e = .returned (.tuple #[]) ∧ Kw w' u x ∧ Hid (Hk w w' cb r [] lb φ u x) := by
  obtain ⟨o, h1, _⟩ := id H
  refine h1.clear.mono ?_
  rintro e w' ⟨he, h⟩
  exact ⟨he, H.next h⟩
theorem Hm.keys (H : Hm w wx cb r S lb φ) (hl : S.length ≤ 8796093022207) : Calls Try.prog 13 #[.pointer (some ⟨cb, 0, none⟩)] wx fun e w' => ∃ p k, e = .returned (.slice p S.length k) ∧ Hid (Rt w' p (S.map En.key)) ∧ Hid (Below wx.heap.size wx w') := by
  obtain ⟨o, h1, _⟩ := H
  refine (h1.keys hl).mono ?_
  rintro e w' ⟨v, rfl, k1, k2⟩
  obtain ⟨p, k, rfl, _, h3⟩ := rt_own k1
  rw [List.length_map]
  exact ⟨p, k, rfl, h3, k2⟩
theorem Hk.keys_hd (H : Hk w wx cb r S lb φ u x) {y : Ent} {L : List Ent} (hS : S = y :: L) (hl : S.length ≤ 8796093022207) : Calls Try.prog 13 #[.pointer (some ⟨cb, 0, none⟩)] wx fun e w' => ∃ b o k, e = .returned (.slice (some ⟨b, o, none⟩) (L.length + 1) k) ∧ w'.cell? ⟨b, o, none⟩ = some (encStr y.key) ∧ Kw w' u x ∧ Hid (Hk w w' cb r S lb φ u x) := by
  refine (H.m.keys hl).mono ?_
  rintro e w' ⟨p, k, rfl, h1, h2⟩
  subst hS
  rcases h1.out with h4 | ⟨b, o, rfl, h4⟩
  · simp at h4
  · have h3 := h4 0 (by simp)
    exact ⟨b, o, k, rfl, h3, (H.more h2.out).kw, H.more h2.out⟩
theorem Hk.keys_any (H : Hk w wx cb r S lb φ u x) (hl : S.length ≤ 8796093022207) : Calls Try.prog 13 #[.pointer (some ⟨cb, 0, none⟩)] wx fun e w' => ∃ p k m, e = .returned (.slice p m k) ∧ Kw w' u x ∧ Hid (Hk w w' cb r S lb φ u x) := by
  refine (H.m.keys hl).mono ?_
  rintro e w' ⟨p, k, rfl, h1, h2⟩
  exact ⟨p, k, _, rfl, (H.more h2.out).kw, H.more h2.out⟩
theorem Hm.weight (H : Hm w wx cb r S lb φ) : Calls Try.prog 15 #[.pointer (some ⟨cb, 0, none⟩)] wx fun e w' => e = .returned (.int .i64 (wsum S)) ∧ w' = wx := by
  obtain ⟨o, h1, _⟩ := H
  exact h1.weight
theorem Hm.look (H : Hm w wx cb r S lb φ) (y : Tx) : (Instr.lookup 63 (.map (some lb)) (encStr y) false).run Try.prog wx = .ok ((φ y).getD nt0).v wx := by
  obtain ⟨o, _, h2, h3, _⟩ := H
  exact h3.look y lb wx h2
theorem Hk.upd (H : Hk w wx cb r S lb φ u x) (n : Nt) : ∃ o o', wx.heap[lb]? = some o ∧ (∀ w : World, w.heap[lb]? = some o → (Instr.mapUpdate 63 (.map (some lb)) (encStr x.key) n.v).run Try.prog w = .ok () (setB w lb o')) ∧ (Kw (setB wx lb o') u x ∧ Hid (Hk w (setB wx lb o') cb r S lb (updn φ x.key n) u x)) := by
  obtain ⟨o, h1, h2, h3, h4, h5, h6, h7⟩ := H
  obtain ⟨o', hr, ho'⟩ := h3.update x.key n lb
  have ht : Tn (fun b => b = lb ∨ b = u) wx (setB wx lb o') := Tn.setB wx lb o' (.inl rfl)
  have hk : Hk w (setB wx lb o') cb r S lb (updn φ x.key n) u x := ⟨o', h1.turn ht (fun b hb => by rcases hb with h | h <;> omega), setB_at h2 _, ho', h4, h5.keep (setB_other _ _ (Ne.symm h6)), h6, h7⟩
  exact ⟨o, o', h2, hr, hk.kw, hk⟩
end
theorem hk_new {w wx : World} {cb : Nat} {r : Int} {S : List Ent} {lb : Nat} {φ : Tx → Option Nt} {u : Nat} {x : Us} (H : Hk w wx cb r S lb φ u x) : Hm w (wx.alloc (.map #[] 0)) cb r S wx.heap.size (fun _ => none) := by
  have hb := H.base.size
  obtain ⟨o, h1, _⟩ := H
  refine ⟨.map #[] 0, h1.more ((Below.refl _ wx).alloc (Nat.le_refl _) _) (fun b hb => .inr ?_), heap_alloc_new _ _, MnO.new, hb⟩
  rw [show b = wx.heap.size from hb]
  exact ⟨Nat.le_refl _, by simp⟩
theorem wsum_take (S : List Ent) (hp : ∀ e ∈ S, 0 ≤ e.wt) (j : Nat) (e : Ent) (he : S[j]? = some e) : wsum (S.take (j + 1)) = wsum (S.take j) + e.wt ∧ 0 ≤ wsum (S.take j) ∧ wsum (S.take (j + 1)) ≤ wsum S := by
  have h1 : S.take (j + 1) = S.take j ++ [e] := by rw [List.take_add_one, he]; rfl
  refine ⟨by rw [h1, wsum_app, wsum_cons, wsum_nil]; omega, wsum_nonneg (fun y hy => hp y (List.take_subset _ _ hy)), wsum_sub hp (List.take_sublist _ _)⟩
theorem wrap_up {n k : Nat} (h : n * 56 ≤ 140737488351232) (hk : k < n) : wrap64 ((k : Int) + 1) = ((k + 1 : Nat) : Int) := by unfold wrap64; omega
theorem rt_or {w : World} {p : Option Addr} {ts : List Tx} (h : Rt w p ts) : ts = [] ∨ ∃ b o, p = some ⟨b, o, none⟩ ∧ ∀ i, i < ts.length → w.cell? ⟨b, o + i, none⟩ = some (encStr (ts.getD i [])) := h
theorem wrap_up2 {m t : Nat} (h : m ≤ 8796093022207) (ht : t < m) : wrap64 ((t : Int) + 1) = ((t + 1 : Nat) : Int) := by unfold wrap64; omega
section
attribute [local irreducible] Calls SI.Co SS.Co Rt UV UL Hm Hk GB
set_option maxHeartbeats 4000000 in
set_option maxRecDepth 1000000 in
theorem cacheHolds_walk {w : World} (room : Int) {p : Option Addr} {n c : Nat} {f : Nat → Us} (hU : UL w p n f) (hn : n * 56 ≤ 140737488351232) (hI : ∀ i, i < n → (f i).key.length ≤ 140737488351232 ∧ (f i).val.length ≤ 140737488351232 ∧ In64 (f i).wt ∧ In64 (f i).dk) :
    Calls Try.prog 7 #[.int .i64 room, .slice p n c] w fun e w' => e = .returned (.bool true) ∧ Below w.heap.size w w' := by
  obtain ⟨R, hR⟩ : ∃ R : Nat, room % ((1073741825 : Nat) : Int) = R := ⟨(room % ((1073741825 : Nat) : Int)).toNat, by omega⟩
  have hR2 : R ≤ 1073741824 := by omega
  have HP1 := (show Hid (∀ W, Calls Try.prog 18 #[.int .i64 room, .int .i64 1073741825] W fun e w' => e = .returned (.int .i64 (R : Int)) ∧ w' = W) from fun W => by rw [← hR]; exact pick_any room 1073741825 (by decide) (by decide) W)
  have HAw := (show Hid _ from awake_any w)
  have HN1 := (show Hid (∀ w1 : World, Below w.heap.size w w1 → _) from fun w1 hb => new_co (R : Int) (by omega) (by omega) (w0 := w) (w := w1) hb)
  have HU := (show Hid (UL w p n f) from hU)
  have HI := (show Hid _ from hI)
  have HN := (show Hid (n * 56 ≤ 140737488351232) from hn)
  have HRD := (show Hid (R ≤ 1073741824) from hR2)
  have hmm := @run_makeMap Try.prog
  clear hU hI hn hR hR2
  go_enter Try.func7, Try.ntmps7
  go_wp2_with (first
    | (go_at_call 28; refine HAw.out.mono ?_; rintro e1 w1 ⟨rfl, hb1⟩; have HB1 := (show Hid (Below _ _ _) from hb1); clear hb1)
    | (go_at_call 18; refine (HP1.out _).mono ?_; rintro e1 w2 ⟨rfl, h1⟩; obtain rfl := h1.symm)
    | (go_at_call 9; refine (HN1.out _ HB1.out).mono ?_; rintro e1 w2 ⟨cc, rfl, H1, hb2⟩; have HC := (show Hid (SS.Co _ _ _ _ _ _ ∧ Below _ _ _) from ⟨H1, hb2⟩); clear H1 hb2))
  go_loopg [8, 9] n (fun q l i wr => ∃ (k : Nat) (S : List Ent) (lb : Nat) (φ : Tx → Option Nt), k ≤ n ∧ q = n - k ∧ i = .int .i64 k ∧ l = .map (some lb) ∧ Hid (Hm w wr cc (R : Int) S lb φ) ∧ Hid (Hi φ S k))
  case atStart =>
    refine ⟨0, [], w2.heap.size, fun _ => none, Nat.zero_le _, rfl, rfl, rfl, hm_mk ?_ (heap_alloc_new _ _) MnO.new ?_, ⟨(fun e he => by cases he), Nat.le_refl _⟩⟩
    · refine HC.out.1.more ((Below.refl _ w2).alloc (Nat.le_refl _) _) (fun b hb => .inr ?_)
      rw [show b = w2.heap.size from hb]
      exact ⟨Nat.le_refl _, by simp⟩
    · exact Nat.le_trans HC.out.1.base.size (Nat.le_refl _)
  case round =>
    obtain ⟨k, S, lb, φ, hk, hq, rfl, rfl, hT, hS⟩ := hrel
    have HK := (show Hid (gk = n - k) from hq)
    clear hq
    by_cases hlt : k < n
    · have hi : (k : Int) < (n : Int) := by omega
      obtain ⟨b, o, rfl, hld⟩ := HU.out.load hT.out.base hlt
      obtain ⟨x, hx⟩ : ∃ x, x = f k := ⟨_, rfl⟩
      have hin := HI.out k hlt
      rw [← hx] at hld hin
      have HIN := (show Hid (_ ∧ _ ∧ _ ∧ _) from hin)
      clear hx hin
      have HLD := (show Hid _ from hld)
      clear hld
      have STEP : Hid (∀ W1 W2 : World, GB W2 wr.heap.size 34 x.cs → Below wr.heap.size wr W1 → W1.grownBy W2 (some wr.heap.size) → Hid (W1.heap.size = wr.heap.size + 1) → W2.cell? ⟨wr.heap.size, 1, none⟩ = some (.int .i64 x.dk) ∧ Hid (Hk w W2 cc (R : Int) S lb φ wr.heap.size x)) := by
        intro W1 W2 G2 hb1 hg2 hs1
        have hs := hs1.out
        have hB := grown_below hb1 hg2 (by omega) (Nat.le_refl _)
        have hz := hg2.size
        exact ⟨(UV.cells (uv_of G2)).1, hT.out.var hB (uv_of G2) (by omega)⟩
      have HE0 := (show Hid (Unl txq (S.map En.key)) from hT.out.ok.un)
      obtain ⟨u, hu⟩ : ∃ u, u = wr.heap.size := ⟨_, rfl⟩
      go_upto_block 2 with (first
        | (refine wpList_ldAt rfl 34 _ rfl b (o + k * 5) rfl x.cs HLD.out ?_)
        | (refine wpList_alB rfl rfl us_zero ?_; intro W1 G1 hb1 hs1)
        | (refine wpList_stB rfl _ _ rfl rfl wr.heap.size rfl rfl G1 us_size rfl (us_one x) ?_; intro W2 G2 hg2 hs2; obtain ⟨d1, HP⟩ := STEP.out W1 W2 G2 hb1 hg2 hs1; clear G1 hb1 hs1 G2 hg2 hs2))
      clear d1 STEP hT HLD
      rw [← hu] at HP ⊢
      clear hu
      go_cut [8, 11, 12, 13, 14, 15] from 47 to 141 (fun l _ _ _ _ _ wx => Hid (∃ S' lb' φ', l = .map (some lb') ∧ Hm w wx cc (R : Int) S' lb' φ' ∧ Hi φ' S' (k + 1)))
      case first =>
        obtain ⟨d2, d3, d4⟩ := HP.out.kw
        have hw4 := HIN.out.2.2.1
        by_cases h0 : x.dk = 0
        · by_cases hneg : x.wt < 0
          · have HPI : Hid ((cput txq (R : Int) ⟨0, x.key, x.val, x.wt⟩ S).2 = false) := by
              show _ = _
              rw [put_is]; simp; omega
            have HPUT := (show Hid (Calls Try.prog 29 #[.pointer (some ⟨cc, 0, none⟩), encStr x.key, encStr x.val, .int .i64 x.wt] W2 fun e w' => e = .returned (.bool false) ∧ Kw w' u x ∧ Hid (Hk w w' cc (R : Int) (cput txq (R : Int) ⟨0, x.key, x.val, x.wt⟩ S).1 lb φ u x)) from by rw [← HPI.out]; exact Hk.put HP.out hw4)
            have HL2 := (show Hid ((cput txq (R : Int) ⟨0, x.key, x.val, x.wt⟩ S).1.length ≤ 8796093022207) from by have h1 := (hS.out.put (R : Int) x.key x.val x.wt).len; have h2 := HN.out; show _ ≤ _; omega)
            have m1 : ¬ 0 ≤ x.wt := by omega
            go_wp2_with (first
              | (go_at_call 29; refine HPUT.out.mono ?_; rintro e1 w5 ⟨rfl, ⟨g25, g35, g45⟩, HQ⟩)
              | (at_mapUpdate; obtain ⟨o1, o2, q1, q2, ⟨g26, g36, g46⟩, HZ⟩ := Hk.upd HQ.out ⟨x.val, x.wt, false⟩; refine wpList_updO rfl _ _ _ _ rfl lb rfl (encStr x.key) (Nt.v ⟨x.val, x.wt, false⟩) rfl rfl o1 o2 q2 q1 ?_; intro w7 hw7; rw [← hw7.out] at HZ g26 g36 g46; clear q1 q2 hw7)
              | (go_at_call 13; refine (Hk.keys_any HZ.out HL2.out).mono ?_; rintro e1 w8 ⟨p8, k8, m8, rfl, ⟨g28, g38, g48⟩, HE⟩))
            go_quiet (fail)
            go_wp2
            go_meet
            refine ⟨_, lb, _, rfl, HE.out.m.more (below_drewN (Below.refl _ _) _), ?_⟩
            have h9 := hS.out.put (R : Int) x.key x.val x.wt
            rw [HPI.out] at h9
            exact h9
          · have m1 : 0 ≤ x.wt := by omega
            by_cases hbig : (R : Int) < x.wt
            · have m2 : ¬ x.wt ≤ (R : Int) := by omega
              have HPI : Hid ((cput txq (R : Int) ⟨0, x.key, x.val, x.wt⟩ S).2 = false) := by
                show _ = _
                rw [put_is]; simp; omega
              have HPUT := (show Hid (Calls Try.prog 29 #[.pointer (some ⟨cc, 0, none⟩), encStr x.key, encStr x.val, .int .i64 x.wt] W2 fun e w' => e = .returned (.bool false) ∧ Kw w' u x ∧ Hid (Hk w w' cc (R : Int) (cput txq (R : Int) ⟨0, x.key, x.val, x.wt⟩ S).1 lb φ u x)) from by rw [← HPI.out]; exact Hk.put HP.out hw4)
              have HL2 := (show Hid ((cput txq (R : Int) ⟨0, x.key, x.val, x.wt⟩ S).1.length ≤ 8796093022207) from by have h1 := (hS.out.put (R : Int) x.key x.val x.wt).len; have h2 := HN.out; show _ ≤ _; omega)
              skip
              go_wp2_with (first
                | (go_at_call 29; refine HPUT.out.mono ?_; rintro e1 w5 ⟨rfl, ⟨g25, g35, g45⟩, HQ⟩)
                | (at_mapUpdate; obtain ⟨o1, o2, q1, q2, ⟨g26, g36, g46⟩, HZ⟩ := Hk.upd HQ.out ⟨x.val, x.wt, false⟩; refine wpList_updO rfl _ _ _ _ rfl lb rfl (encStr x.key) (Nt.v ⟨x.val, x.wt, false⟩) rfl rfl o1 o2 q2 q1 ?_; intro w7 hw7; rw [← hw7.out] at HZ g26 g36 g46; clear q1 q2 hw7)
                | (go_at_call 13; refine (Hk.keys_any HZ.out HL2.out).mono ?_; rintro e1 w8 ⟨p8, k8, m8, rfl, ⟨g28, g38, g48⟩, HE⟩))
              go_quiet (fail)
              go_wp2
              go_meet
              refine ⟨_, lb, _, rfl, HE.out.m.more (below_drewN (Below.refl _ _) _), ?_⟩
              have h9 := hS.out.put (R : Int) x.key x.val x.wt
              rw [HPI.out] at h9
              exact h9
            · have m2 : x.wt ≤ (R : Int) := by omega
              have HPI : Hid ((cput txq (R : Int) ⟨0, x.key, x.val, x.wt⟩ S).2 = true) := by
                show _ = _
                rw [put_is]; simp; omega
              have HPUT := (show Hid (Calls Try.prog 29 #[.pointer (some ⟨cc, 0, none⟩), encStr x.key, encStr x.val, .int .i64 x.wt] W2 fun e w' => e = .returned (.bool true) ∧ Kw w' u x ∧ Hid (Hk w w' cc (R : Int) (cput txq (R : Int) ⟨0, x.key, x.val, x.wt⟩ S).1 lb φ u x)) from by rw [← HPI.out]; exact Hk.put HP.out hw4)
              have HL2 := (show Hid ((cput txq (R : Int) ⟨0, x.key, x.val, x.wt⟩ S).1.length ≤ 8796093022207) from by have h1 := (hS.out.put (R : Int) x.key x.val x.wt).len; have h2 := HN.out; show _ ≤ _; omega)
              obtain ⟨LL, hLL⟩ := put_head HPI.out
              have HHD := (show Hid _ from hLL)
              clear hLL
              go_wp2_with (first
                | (go_at_call 29; refine HPUT.out.mono ?_; rintro e1 w5 ⟨rfl, ⟨g25, g35, g45⟩, HQ⟩)
                | (at_mapUpdate; obtain ⟨o1, o2, q1, q2, ⟨g26, g36, g46⟩, HZ⟩ := Hk.upd HQ.out ⟨x.val, x.wt, true⟩; refine wpList_updO rfl _ _ _ _ rfl lb rfl (encStr x.key) (Nt.v ⟨x.val, x.wt, true⟩) rfl rfl o1 o2 q2 q1 ?_; intro w7 hw7; rw [← hw7.out] at HZ g26 g36 g46; clear q1 q2 hw7)
                | (go_at_call 13; refine (Hk.keys_hd HZ.out HHD.out HL2.out).mono ?_; rintro e1 w8 ⟨b8, o8, k8, rfl, c8, ⟨g28, g38, g48⟩, HE⟩))
              go_quiet (fail)
              go_wp2
              go_meet
              refine ⟨_, lb, _, rfl, HE.out.m.more (below_drewN (Below.refl _ _) _), ?_⟩
              have h9 := hS.out.put (R : Int) x.key x.val x.wt
              rw [HPI.out] at h9
              exact h9
        · by_cases h1 : x.dk = 1
          · cases hf : fnd txq x.key S with
            | none =>
              have HF := (show Hid (fnd txq x.key S = none) from hf)
              clear hf
              obtain ⟨nn, hnn⟩ : ∃ nn, nn = (φ x.key).getD nt0 := ⟨_, rfl⟩
              have HNN := (show Hid (∀ wx, Hm w wx cc (R : Int) (cget txq x.key S) lb φ → (Instr.lookup 63 (.map (some lb)) (encStr x.key) false).run Try.prog wx = .ok (.agg nn.cs) wx) from fun wx H => by rw [hnn]; exact H.look x.key)
              clear hnn
              go_upto_region 24 with (first
                | (go_at_call 30; refine (Hk.get_none HP.out HF.out).mono ?_; rintro e1 w5 ⟨rfl, ⟨g25, g35, g45⟩, HQ⟩; have hlk := HNN.out w5 HQ.out.m)
                | (revert hlk; intro hlk; refine wpList_alB rfl rfl nt_zero ?_; intro W3 G3 hb3 hs3)
                | (refine wpList_stB rfl _ _ rfl rfl w5.heap.size rfl rfl G3 nt_size rfl (nt_one nn) ?_; intro W4 G4 hg4 hs4; have HE := (show Hid (Hk _ _ _ _ _ _ _ _ _) from HQ.out.more (grown_below hb3 hg4 hb3.size (Nat.le_refl _))); clear G3 hb3 hs3 G4 hg4 hs4 hlk))
              go_wp2
              go_meet
              exact ⟨_, lb, _, rfl, HE.out.m, hS.out.get HE0.out x.key⟩
            | some y =>
              have HF := (show Hid (fnd txq x.key S = some y) from hf)
              have hat := hS.out.at hf
              clear hf
              have HNN := (show Hid (∀ wx, Hm w wx cc (R : Int) (cget txq x.key S) lb φ → (Instr.lookup 63 (.map (some lb)) (encStr x.key) false).run Try.prog wx = .ok (.agg (Nt.cs ⟨y.val, y.wt, true⟩)) wx) from fun wx H => by have := H.look x.key; rw [hat] at this; exact this)
              clear hat
              go_upto_region 24 with (first
                | (go_at_call 30; refine (Hk.get_some HP.out HF.out).mono ?_; rintro e1 w5 ⟨rfl, ⟨g25, g35, g45⟩, HQ⟩; have hlk := HNN.out w5 HQ.out.m)
                | (revert hlk; intro hlk; refine wpList_alB rfl rfl nt_zero ?_; intro W3 G3 hb3 hs3)
                | (refine wpList_stB rfl _ _ rfl rfl w5.heap.size rfl rfl G3 nt_size rfl (nt_one ⟨y.val, y.wt, true⟩) ?_; intro W4 G4 hg4 hs4; have n0 : W4.cell? ⟨w5.heap.size, 0, none⟩ = some (encStr y.val) := GB.cell G4 0; have n2 : W4.cell? ⟨w5.heap.size, 2, none⟩ = some (.bool true) := GB.cell G4 2; have HE := (show Hid (Hk _ _ _ _ _ _ _ _ _) from HQ.out.more (grown_below hb3 hg4 hb3.size (Nat.le_refl _))); clear G3 hb3 hs3 G4 hg4 hs4 hlk))
              go_wp2
              go_meet
              exact ⟨_, lb, _, rfl, HE.out.m, hS.out.get HE0.out x.key⟩
          · by_cases h2 : x.dk = 2
            · go_wp2_with (first
                | (go_at_call 31; refine (Hk.drop HP.out).mono ?_; rintro e1 w5 ⟨⟨bb, rfl⟩, ⟨g25, g35, g45⟩, HQ⟩)
                | (at_mapUpdate; obtain ⟨o1, o2, q1, q2, ⟨g26, g36, g46⟩, HZ⟩ := Hk.upd HQ.out nt0; refine wpList_updO rfl _ _ _ _ rfl lb rfl (encStr x.key) (Nt.v nt0) rfl rfl o1 o2 q2 q1 ?_; intro w7 hw7; rw [← hw7.out] at HZ g26 g36 g46; clear q1 q2 hw7))
              go_meet
              exact ⟨_, lb, _, rfl, HZ.out.m, hS.out.drop x.key⟩
            · by_cases h3 : x.dk = 3
              · go_wp2_with (go_at_call 32; refine (Hk.clear HP.out).mono ?_; rintro e1 w5 ⟨rfl, ⟨g25, g35, g45⟩, HQ⟩)
                go_meet
                refine ⟨[], w5.heap.size, fun _ => none, rfl, ?_, ⟨(fun e he => by cases he), Nat.zero_le _⟩⟩
                exact hk_new HQ.out
              · go_wp2
                go_meet
                exact ⟨S, lb, φ, rfl, HP.out.m, ⟨hS.out.is, Nat.le_succ_of_le hS.out.len⟩⟩
      case rest =>
        obtain ⟨S', lb', φ', rfl, hT', hS'⟩ := hcut.out
        have hok := hT'.ok
        have hle := hok.le
        have g1 : ¬ (R : Int) < wsum S' := by omega
        have HOK := (show Hid (Okc txq (R : Int) S') from hok)
        have HT := (show Hid (Hm w wc cc (R : Int) S' lb' φ') from hT')
        have HS := (show Hid (Hi φ' S' (k + 1)) from hS')
        obtain ⟨m, hm⟩ : ∃ m, m = S'.length := ⟨_, rfl⟩
        have hml : m ≤ 8796093022207 := by have h1 := hS'.len; have h2 := HN.out; omega
        have HKY := (show Hid (Calls Try.prog 13 #[.pointer (some ⟨cc, 0, none⟩)] wc fun e w' => ∃ p k, e = .returned (.slice p m k) ∧ Hid (Rt w' p (S'.map En.key)) ∧ Hid (Below wc.heap.size wc w')) from by rw [hm]; exact hT'.keys (by rw [← hm]; exact hml))
        obtain ⟨tot, htot⟩ : ∃ tot, tot = wsum S' := ⟨_, rfl⟩
        rw [← htot] at g1
        have HW := (show Hid (∀ wx, Hm w wx cc (R : Int) S' lb' φ' → Calls Try.prog 15 #[.pointer (some ⟨cc, 0, none⟩)] wx fun e w' => e = .returned (.int .i64 tot) ∧ w' = wx) from fun wx H => by rw [htot]; exact H.weight)
        have HM := (show Hid (m = S'.length ∧ tot = wsum S' ∧ tot ≤ (R : Int)) from ⟨hm, htot, by rw [htot]; exact hle⟩)
        clear hcut hT' hS' hok hle hm htot
        go_wp2_with (go_at_call 13; refine HKY.out.mono ?_; rintro e1 w8 ⟨p8, k8, rfl, HR8, HB8⟩; replace HT := (show Hid (Hm _ _ _ _ _ _ _) from HT.out.more HB8.out); clear HB8)
        go_loopg [16, 18] m (fun q sm j wr2 => ∃ (t : Nat) (z : Int), t ≤ m ∧ q = m - t ∧ j = .int .i64 t ∧ sm = .int .i64 z ∧ Hid (z = wsum (S'.take t)) ∧ Hid (Hm w wr2 cc (R : Int) S' lb' φ') ∧ Hid (Rt wr2 p8 (S'.map En.key)))
        case atStart => exact ⟨0, 0, Nat.zero_le _, rfl, rfl, rfl, by show (0 : Int) = _; simp [wsum], HT.out, HR8.out⟩
        case round =>
          obtain ⟨t, z, ht, hq2, rfl, rfl, hz, hT2, hR2⟩ := hrel
          have HK2 := (show Hid (gk = m - t) from hq2)
          clear hq2
          by_cases hlt2 : t < m
          · have hti : (t : Int) < (m : Int) := by omega
            obtain ⟨e, he⟩ : ∃ e, S'[t]? = some e := ⟨S'[t]'(by rw [← HM.out.1]; exact hlt2), by simp [← HM.out.1, hlt2]⟩
            have hem : e ∈ S' := List.mem_of_getElem? he
            have hwt := wsum_take S' HOK.out.wt t e he
            obtain ⟨z', hz'⟩ : ∃ z', z' = wsum (S'.take (t + 1)) := ⟨_, rfl⟩
            have hwr : wrap64 (z + e.wt) = z' := by
              have h1 := HM.out.2
              have h2 := HRD.out
              have h3 := hz.out
              have h4 := HOK.out.wt e hem
              rw [hz', hwt.1, h3]
              unfold wrap64
              omega
            rcases rt_or hR2.out with hR3 | ⟨b8, o8, rfl, hR3⟩
            · have := HM.out.1; rw [List.map_eq_nil_iff.1 hR3] at this; simp at this; omega
            have c8 := hR3 t (by simp [← HM.out.1, hlt2])
            rw [show (S'.map En.key).getD t [] = e.key from by simp [he]] at c8
            have hat := HS.out.is e hem
            have hlk : (Instr.lookup 63 (.map (some lb')) (encStr e.key) false).run Try.prog wr = .ok (.agg (Nt.cs ⟨e.val, e.wt, true⟩)) wr := by
              have := hT2.out.look e.key
              rw [hat] at this
              exact this
            have HZ2 := (show Hid (z' = wsum (S'.take (t + 1))) from hz')
            clear he hem hwt hz' hR3 hat
            go_upto_region 38 with (first
              | (revert hlk; intro hlk; refine wpList_alB rfl rfl nt_zero ?_; intro W3 G3 hb3 hs3)
              | (refine wpList_stB rfl _ _ rfl rfl wr.heap.size rfl rfl G3 nt_size rfl (nt_one ⟨e.val, e.wt, true⟩) ?_; intro W4 G4 hg4 hs4; have n1 : W4.cell? ⟨wr.heap.size, 1, none⟩ = some (.int .i64 e.wt) := GB.cell G4 1; have n2 : W4.cell? ⟨wr.heap.size, 2, none⟩ = some (.bool true) := GB.cell G4 2; have HB9 := (show Hid (Below _ _ _) from grown_below hb3 hg4 hb3.size (Nat.le_refl _)); clear G3 hb3 hs3 G4 hg4 hs4 hlk))
            go_wp2
            go_roundg (m - (t + 1))
            case measure => have := HK2.out; omega
            case rel => exact ⟨t + 1, z', by omega, rfl, by go_num, by first | rfl | rw [hwr], HZ2.out, hT2.out.more HB9.out, hR2.out.below HB9.out⟩
          · obtain rfl : t = m := by omega
            have hti : ¬ (t : Int) < (t : Int) := by omega
            obtain rfl : z = tot := by
              have h1 := hz.out
              rw [show S'.take t = S' from List.take_of_length_le (by rw [HM.out.1]; exact Nat.le_refl _)] at h1
              rw [h1, HM.out.2.1]
            go_wp2_with (go_at_call 15; refine (HW.out _ hT2.out).mono ?_; rintro e1 w9 ⟨rfl, h1⟩; obtain rfl := h1.symm)
            go_roundg (n - (k + 1))
            case measure => have := HK.out; omega
            case rel => exact ⟨k + 1, S', lb', φ', by omega, rfl, by rw [wrap_up HN.out hlt], rfl, hT2.out, HS.out⟩
    · obtain rfl : k = n := by omega
      have hi : ¬ (k : Int) < (k : Int) := by omega
      go_wp2
      go_ret
      exact ⟨rfl, hT.out.base⟩
end
end Go.Proofs.Ytjefciioaebbeaa
