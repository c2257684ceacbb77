/-
  Caches of string,string: giveUp, use, take.
-/
import Derived.Test.YtjefciioaebbeaaCbS28
import Derived.Deep.LoopGhost
namespace Go.Proofs.Ytjefciioaebbeaa.SS
open Go.RowKit Go.Proofs.Ytjefciioaebbeaa
def Own (hb mb : Nat) (L : List Ent) (b : Nat) : Prop := b = hb ∨ b = mb ∨ ∃ y ∈ L, b = y.nd
section
variable {w : World} {hb : Nat} {r : Int} {L : List Ent} {mb : Nat} {o : Obj} {g h : Addr → Addr} {s : Int} {M : List (Tx × Nat)}
theorem Hs.drewN (H : Hs w hb r L mb o g h s M) (n : Nat) : Hs (w.drewN n) hb r L mb o g h s M := H.heap rfl
theorem Hs.c1 (H : Hs w hb r L mb o g h s M) : w.cell? ⟨hb, 1, none⟩ = some (.int .i64 s) := by have := H.hd; unfold headO at this; rw [cell_of_row w hb 1 _ _ _ this]; rfl
theorem Hs.c0 (H : Hs w hb r L mb o g h s M) : w.cell? ⟨hb, 0, none⟩ = some (.int .i64 r) := by have := H.hd; unfold headO at this; rw [cell_of_row w hb 0 _ _ _ this]; rfl
theorem Hs.c2 (H : Hs w hb r L mb o g h s M) : w.cell? ⟨hb, 2, none⟩ = some (.map (some mb)) := by have := H.hd; unfold headO at this; rw [cell_of_row w hb 2 _ _ _ this]; rfl
theorem Hs.c6 (H : Hs w hb r L mb o g h s M) : w.cell? ⟨hb, 6, none⟩ = some (.pointer (some (h (ea hb)))) := by have := H.hd; unfold headO at this; rw [cell_of_row w hb 6 _ _ _ this]; rfl
theorem Hs.c7 (H : Hs w hb r L mb o g h s M) : w.cell? ⟨hb, 7, none⟩ = some (.pointer (some (g (ea hb)))) := by have := H.hd; unfold headO at this; rw [cell_of_row w hb 7 _ _ _ this]; rfl
theorem Hs.z (H : Hs w hb r L mb o g h s M) (i : Nat) : w.frozen? ⟨hb, i, none⟩ = false := by have := H.hd; unfold headO at this; exact frozen_of_row w hb _ _ _ this
theorem Hs.ltm (H : Hs w hb r L mb o g h s M) : mb < w.heap.size := blt H.mp
theorem Hs.lth (H : Hs w hb r L mb o g h s M) : hb < w.heap.size := blt H.hd
theorem Hs.sum (H : Hs w hb r L mb o g h s M) (s' : Int) : Hs (w.setCell ⟨hb, 1, none⟩ (.int .i64 s')) hb r L mb o g h s' M := by
  refine ⟨?_, ?_, H.mo, fun e he => ?_, H.rg, H.nn, H.nh⟩
  · have := H.hd
    unfold headO at this ⊢
    rw [heap_setCell_same w hb 1 _ _ _ this]; rfl
  · rw [heap_setCell_other _ ⟨hb, 1, none⟩ _ _ H.ne.1]; exact H.mp
  · rw [heap_setCell_other _ ⟨hb, 1, none⟩ _ _ (H.nh e he)]; exact H.nd e he
theorem Hs.setm (H : Hs w hb r L mb o g h s M) {o' : Obj} {M' : List (Tx × Nat)} (ho : MpO encStr o' M') : Hs (setB w mb o') hb r L mb o' g h s M' :=
  ⟨by rw [setB_other _ _ (Ne.symm H.ne.1)]; exact H.hd, setB_at H.mp _, ho, fun e he => by rw [setB_other _ _ (Ne.symm (H.ne.2 e he))]; exact H.nd e he, H.rg, H.nn, H.nh⟩
theorem Hs.perm (H : Hs w hb r L mb o g h s M) {M' : List (Tx × Nat)} (hp : M.Perm M') : Hs w hb r L mb o g h s M' := ⟨H.hd, H.mp, H.mo.perm hp, H.nd, H.rg, H.nn, H.nh⟩
theorem node_cells {n : Nat} {x : Ent} {nw od : Addr} (H : w.heap[n]? = some (nodeO x nw od)) : w.cell? ⟨n, 0, none⟩ = some (encStr x.key) ∧ w.cell? ⟨n, 1, none⟩ = some (encStr x.val) ∧ w.cell? ⟨n, 2, none⟩ = some (.int .i64 x.wt) := by
  unfold nodeO at H
  refine ⟨?_, ?_, ?_⟩ <;> rw [cell_of_row w n _ _ _ _ H] <;> rfl
theorem NewN.cells {n : Nat} {x : Ent} (H : NewN w n x) : w.cell? ⟨n, 0, none⟩ = some (encStr x.key) ∧ w.cell? ⟨n, 1, none⟩ = some (encStr x.val) ∧ w.cell? ⟨n, 2, none⟩ = some (.int .i64 x.wt) := by
  obtain ⟨a, b, H⟩ := H
  refine ⟨?_, ?_, ?_⟩ <;> rw [cell_of_row w n _ _ _ _ H] <;> rfl
theorem NewN.keep {n : Nat} {x : Ent} (H : NewN w n x) {w' : World} (e : w'.heap[n]? = w.heap[n]?) : NewN w' n x := by
  obtain ⟨a, b, H⟩ := H
  exact ⟨a, b, by rw [e]; exact H⟩
theorem NewN.drewN {n : Nat} {x : Ent} (H : NewN w n x) (k : Nat) : NewN (w.drewN k) n x := H.keep rfl
theorem node_new {n : Nat} {x : Ent} {nw od : Addr} (H : w.heap[n]? = some (nodeO x nw od)) : NewN w n x := ⟨_, _, H⟩
theorem NewN.ne (H : Hs w hb r L mb o g h s M) {n : Nat} {x : Ent} (hx : NewN w n x) : n ≠ mb := by
  obtain ⟨es, c, e1, _⟩ := H.mo
  obtain ⟨a, b, hx⟩ := hx
  rintro rfl
  have h1 := H.mp
  rw [hx, e1] at h1; cases h1
theorem own_more {hb mb : Nat} {L L' : List Ent} {w w' : World} (h : Tn (Own hb mb L) w w') (hs : ∀ y ∈ L, y ∈ L') : Tn (Own hb mb L') w w' := h.more (fun b _ hb => by
  rcases hb with h1 | h1 | ⟨y, hy, h1⟩
  · exact .inl h1
  · exact .inr (.inl h1)
  · exact .inr (.inr ⟨y, hs y hy, h1⟩))
theorem wrap_id {z : Int} (h1 : -9223372036854775808 ≤ z) (h2 : z ≤ 9223372036854775807) : IntKind.i64.wrap z = z := by rw [IntKind.wrap_i64]; omega
theorem wrap_id' {z : Int} (h1 : -9223372036854775808 ≤ z) (h2 : z ≤ 9223372036854775807) : wrap64 z = z := by unfold wrap64; omega
section
attribute [local irreducible] Calls
theorem unlink_at {A B : List Ent} {e : Ent} (H : Hs w hb r (A ++ e :: B) mb o g h s M) :
    Calls Try.prog 66 #[.pointer (some (na e.nd))] w fun e1 w' => e1 = .returned (.tuple #[]) ∧ (∃ g' h', Hs w' hb r (A ++ B) mb o g' h' s M) ∧ (∃ a b, w'.heap[e.nd]? = some (nodeO e a b)) ∧ Tn (Own hb mb (A ++ e :: B)) w w' := by
  obtain ⟨h1, g', h', h2, h3, h4⟩ := H.unlink
  refine h1.mono ?_
  rintro e1 w' ⟨rfl, k, rfl⟩
  refine ⟨rfl, ⟨g', h', h2.heap rfl⟩, ⟨_, _, h3⟩, (h4.drewN k).more (fun b _ hb => ?_)⟩
  rcases hb with h5 | h5
  · exact .inl h5
  · exact .inr (.inr h5)
theorem link_at (H : Hs w hb r L mb o g h s M) {x : Ent} (hx : NewN w x.nd x) (hn : x.nd ≠ hb) (hL : ∀ e ∈ L, x.nd ≠ e.nd) :
    Calls Try.prog 65 #[.pointer (some ⟨hb, 0, none⟩), .pointer (some (na x.nd))] w fun e1 w' => e1 = .returned (.tuple #[]) ∧ (∃ g' h', Hs w' hb r (x :: L) mb o g' h' s M) ∧ Tn (Own hb mb (x :: L)) w w' := by
  obtain ⟨h1, g', h', h2, h4⟩ := H.link hx hn hL
  refine h1.mono ?_
  rintro e1 w' ⟨rfl, k, rfl⟩
  refine ⟨rfl, ⟨g', h', h2.heap rfl⟩, (h4.drewN k).more (fun b _ hb => ?_)⟩
  rcases hb with h5 | h5 | ⟨y, hy, h5⟩
  · exact .inl h5
  · exact .inr (.inr ⟨x, by simp, h5⟩)
  · exact .inr (.inr ⟨y, by simp [hy], h5⟩)
theorem Hs.unl {A B : List Ent} {e : Ent} (H : Hs w hb r (A ++ e :: B) mb o g h s M) : (∀ y ∈ A ++ B, e.nd ≠ y.nd) ∧ e.nd ≠ hb := by
  refine ⟨fun y hy h1 => ?_, H.nh e (by simp)⟩
  have hn := H.nn
  have hp : (A ++ e :: B).Perm (e :: (A ++ B)) := List.perm_middle
  have hn2 : ((e :: (A ++ B)).map En.nd).Nodup := (hp.map _).nodup_iff.1 hn
  rw [List.map_cons] at hn2
  exact (List.nodup_cons.1 hn2).1 (List.mem_map.2 ⟨y, hy, h1.symm⟩)
set_option maxRecDepth 1000000 in
theorem use_at {A B : List Ent} {e : Ent} (H : Hs w hb r (A ++ e :: B) mb o g h s M) :
    Calls Try.prog 53 #[.pointer (some ⟨hb, 0, none⟩), .pointer (some (na e.nd))] w fun e1 w' => e1 = .returned (.tuple #[]) ∧ (∃ g' h', Hs w' hb r (e :: (A ++ B)) mb o g' h' s M) ∧ Tn (Own hb mb (A ++ e :: B)) w w' := by
  have HU := (show Hid _ from unlink_at H)
  have HN := (show Hid _ from H.unl)
  unfold na at HU ⊢
  go_enter Try.func53, Try.ntmps53
  go_wp2_with (first
    | (go_at_call 66; refine HU.out.mono ?_; rintro e1 w1 ⟨rfl, ⟨g1, h1, H1⟩, ⟨a1, b1, N1⟩, T1⟩; have HL := (show Hid _ from link_at H1 (node_new N1) HN.out.2 HN.out.1); have HT := (show Hid _ from T1); clear H1 N1 T1)
    | (go_at_call 65; refine HL.out.mono ?_; rintro e1 w2 ⟨rfl, H2, T2⟩; have HF := (show Hid _ from H2); have HT2 := (show Hid _ from T2); clear H2 T2))
  refine bodyPost_end (results_none rfl _ _ _) rfl ?_
  exact ⟨rfl, HF.out, HT.out.trans (own_more HT2.out (fun y hy => by
    rcases List.mem_cons.1 hy with rfl | hy
    · simp
    · rcases List.mem_append.1 hy with h | h <;> simp [h]))⟩
set_option maxRecDepth 1000000 in
theorem giveUp_at {A B : List Ent} {e : Ent} {MA MB : List (Tx × Nat)} (H : Hs w hb r (A ++ e :: B) mb o g h s (MA ++ (e.key, e.nd) :: MB)) (hu : Unl txq ((MA ++ (e.key, e.nd) :: MB).map (·.1))) (hq : txq e.key e.key = true) (b1 : 0 ≤ e.wt) (b2 : e.wt ≤ 1073741824) (b3 : 0 ≤ s) (b4 : s ≤ 1073741824) :
    Calls Try.prog 54 #[.pointer (some ⟨hb, 0, none⟩), .pointer (some (na e.nd))] w fun e1 w' => e1 = .returned (.tuple #[]) ∧ (∃ o' g' h', Hs w' hb r (A ++ B) mb o' g' h' (s - e.wt) (MA ++ MB)) ∧ Tn (Own hb mb (A ++ e :: B)) w w' := by
  have HU := (show Hid _ from unlink_at H)
  obtain ⟨o', hr, ho'⟩ := MpO.delete tkind Try.underlying76 H.mo hu hq mb
  have HR := (show Hid _ from hr)
  obtain ⟨z, hz⟩ : ∃ z, z = s - e.wt := ⟨_, rfl⟩
  have wr : IntKind.i64.wrap (s - e.wt) = z := by rw [hz]; exact wrap_id (by omega) (by omega)
  rw [← hz]
  have HO := (show Hid (MpO encStr o' (MA ++ MB) ∧ e.nd ≠ hb ∧ e.nd ≠ mb) from ⟨ho', H.nh e (by simp), fun h1 => (H.ne.2 e (by simp)) h1.symm⟩)
  clear hr ho' b1 b2 b3 b4 hz hu hq H
  unfold na at HU ⊢
  go_enter Try.func54, Try.ntmps54
  go_wp2_with (go_at_call 66; refine HU.out.mono ?_; rintro e1 w1 ⟨rfl, ⟨g1, h1, H1⟩, ⟨a1, b1, N1⟩, T1⟩; have c2 := H1.c2; have n0 := (node_cells N1).1; have HS1 := (show Hid _ from H1); have HN1 := (show Hid _ from N1); have HT := (show Hid _ from T1); clear H1 N1 T1)
  go_still_tail 8, (by kernel_rfl)
  go_wp2_with (at_delete; refine wpList_delO rfl _ _ _ _ rfl mb rfl _ rfl o o' HR.out HS1.out.mp ?_; intro w2 hw2)
  have H2 : Hs w2 hb r (A ++ B) mb o' g1 h1 s (MA ++ MB) := by rw [hw2.out]; exact Hs.setm (w := w1.drewN 1) (o := o) (M := MA ++ (e.key, e.nd) :: MB) (HS1.out.heap rfl) HO.out.1
  have N2 : w2.heap[e.nd]? = some (nodeO e a1 b1) := by rw [hw2.out, setB_other _ _ HO.out.2.2]; exact HN1.out
  have T2 : Tn (Own hb mb (A ++ e :: B)) w w2 := HT.out.trans (by rw [hw2.out]; exact ((Tn.refl _ _).drewN 1).trans (Tn.setB (w1.drewN 1) mb o' (.inr (.inl rfl))))
  have d1 := H2.c1
  have d2 := (node_cells N2).2.2
  have z1 := H2.z 1
  have HF := (show Hid _ from H2.sum z)
  have HT2 := (show Hid _ from T2)
  clear hw2 H2 N2 T2 HS1 HN1 HT HO c2 n0
  go_wp2
  go_still_tail 11, (by kernel_rfl)
  go_wp2
  refine bodyPost_end (results_none rfl _ _ _) rfl ?_
  exact ⟨rfl, ⟨o', g1, h1, HF.out.heap rfl⟩, HT2.out.trans ((Tn.setCell w2 ⟨hb, 1, none⟩ (.inl rfl) _).drewN 1)⟩
/-- The ones used longest ago are given up, while a new node waits. -/
def Tk (w0 : World) (hb mb : Nat) (r : Int) (c : Int) (L0 : List Ent) (x : Ent) (k : Nat) (wr : World) : Prop :=
  ∃ L' o g h, L'.length = k ∧ evc c L' = evc c L0 ∧ L' <+: L0 ∧ Hs wr hb r L' mb o g h (wsum L') (L'.map fun e => (e.key, e.nd)) ∧ NewN wr x.nd x ∧ Tn (Own hb mb L0) w0 wr
theorem last_split {L : List Ent} (h : L ≠ []) : ∃ e, L = L.dropLast ++ e :: [] := ⟨L.getLast h, (List.dropLast_concat_getLast h).symm⟩
set_option maxHeartbeats 1000000 in
set_option maxRecDepth 1000000 in
theorem take_at {x : Ent} (H : Hs w hb r L mb o g h (wsum L) (L.map fun e => (e.key, e.nd))) (hk : Okc txq r L) (hr : r ≤ 1073741824) (hx : NewN w x.nd x) (hn : x.nd ≠ hb) (hL : ∀ e ∈ L, x.nd ≠ e.nd) (hf : ∀ e ∈ L, txq x.key e.key = false) (hq : txq x.key x.key = true) (w1 : -9223372036854775808 ≤ x.wt) (w2 : x.wt ≤ 9223372036854775807) :
    Calls Try.prog 51 #[.pointer (some ⟨hb, 0, none⟩), .pointer (some (na x.nd))] w fun e1 w' => e1 = .returned (.bool (cput txq r x L).2) ∧ (∃ o' g' h', Hs w' hb r (cput txq r x L).1 mb o' g' h' (wsum (cput txq r x L).1) ((cput txq r x L).1.map fun e => (e.key, e.nd))) ∧ Tn (Own hb mb (x :: L)) w w' := by
  have hd : drp txq x.key L = L := by
    unfold drp
    rw [List.filter_eq_self]
    intro e he
    rw [hf e he]; rfl
  have r0 : 0 ≤ wsum L := wsum_nonneg hk.wt
  have r1 := hk.le
  unfold cput
  rw [hd]
  have n2 := hx.cells.2.2
  have n0 := hx.cells.1
  have c0 := H.c0
  obtain ⟨wt, hwt⟩ : ∃ wt, wt = x.wt := ⟨_, rfl⟩
  rw [← hwt] at w1 w2 n2 ⊢
  unfold na
  by_cases ha : wt < 0
  · rw [if_pos (.inl ha)]
    have HE := (show Hid _ from H)
    clear H hx hL hf hq hd hk r0 r1 hwt w1 w2 n0
    go_enter Try.func51, Try.ntmps51
    go_wp2
    go_quiet (fail)
    go_wp2
    go_ret
    exact ⟨rfl, ⟨o, g, h, HE.out.heap rfl⟩, (Tn.refl _ w).drewN _⟩
  · by_cases hb' : r < wt
    · rw [if_pos (.inr hb')]
      have HE := (show Hid _ from H)
      clear H hx hL hf hq hd hk r0 r1 hwt w1 w2 n0
      go_enter Try.func51, Try.ntmps51
      go_wp2
      go_quiet (fail)
      go_wp2
      go_ret
      exact ⟨rfl, ⟨o, g, h, HE.out.heap rfl⟩, (Tn.refl _ w).drewN _⟩
    · rw [if_neg (by omega)]
      have HK := (show Hid _ from hk)
      have HL := (show Hid _ from hL)
      have HQ := (show Hid (_ ∧ _ ∧ _) from ⟨hq, hf, hn⟩)
      have HX := (show Hid (x.wt = wt) from hwt.symm)
      have HT : Hid (Tk w hb mb r (r - wt) L x L.length (w.drewN 0)) := ⟨L, o, g, h, rfl, rfl, List.prefix_refl _, H.heap rfl, hx.keep rfl, (Tn.refl _ _).drewN _⟩
      obtain ⟨c, hcc⟩ : ∃ c, c = r - wt := ⟨_, rfl⟩
      have HC := (show Hid (c = r - wt ∧ 0 ≤ c ∧ c ≤ 1073741824) from ⟨hcc, by omega, by omega⟩)
      have hc : IntKind.i64.wrap (r - wt) = c := by rw [hcc]; exact wrap_id (by omega) (by omega)
      rw [← hcc] at HT ⊢
      clear H hx hL hf hq hd hk r1 hwt w1 w2 hcc hn r0
      go_enter Try.func51, Try.ntmps51
      go_wp2
      go_quiet (fail)
      clear n0 n2 c0
      go_wp2
      go_loopg [] L.length (fun k wr => Hid (Tk w hb mb r c L x k wr))
      case atStart =>
        obtain ⟨L', o', g', h', a1, a2, a3, a4, a5, a6⟩ := HT.out
        exact ⟨L', o', g', h', a1, a2, a3, a4.heap rfl, a5.keep rfl, a6.drewN _⟩
      case round =>
        obtain ⟨L', o', g', h', a1, a2, a3, a4, a5, a6⟩ := hrel.out
        have k0 := a4.c0
        have k1 := a4.c1
        have kn := a5.cells.2.2
        rw [HX.out] at kn
        obtain ⟨sm, hsm⟩ : ∃ sm, sm = wsum L' := ⟨_, rfl⟩
        rw [← hsm] at k1
        have HI := (show Hid (_ ∧ _ ∧ _ ∧ _ ∧ _ ∧ _) from ⟨a1, a2, a3, a4, a5, a6⟩)
        have HM := (show Hid (sm = wsum L') from hsm)
        by_cases hle : sm ≤ c
        · have hng : ¬ c < sm := by omega
          have c2 := a4.c2
          have n0 := a5.cells.1
          have hsub := a3.sublist
          have hf' : ∀ m ∈ L'.map fun e => (e.key, e.nd), txq x.key m.1 = false := by
            intro m hm
            obtain ⟨e, he, rfl⟩ := List.mem_map.1 hm
            exact HQ.out.2.1 e (hsub.subset he)
          obtain ⟨o2, hr2, ho2⟩ := MpO.update tkind Try.underlying76 a4.mo x.key x.nd hf' mb
          have HR := (show Hid _ from hr2)
          have HO := (show Hid _ from ho2)
          have hev : evc c L = L' := by rw [← a2]; exact evc_fits (by omega)
          have hs0 : 0 ≤ sm := by rw [hsm]; exact wsum_nonneg (fun e he => HK.out.wt e (hsub.subset he))
          have hcc := HC.out
          have hwa : IntKind.i64.wrap (sm + wt) = sm + wt := wrap_id (by omega) (by omega)
          have hnm := NewN.ne a4 a5
          have HE := (show Hid (evc c L = L' ∧ x.nd ≠ mb ∧ L'.Sublist L) from ⟨hev, hnm, hsub⟩)
          clear hrel a1 a2 a3 a4 a5 a6 hsm hf' hr2 ho2 hev hs0 hcc hnm hsub hle
          go_wp2
          go_quiet (fail)
          go_wp2
          have c2' : (wr.drewN nq).cell? ⟨hb, 2, none⟩ = some (.map (some mb)) := c2
          have n0' : (wr.drewN nq).cell? ⟨x.nd, 0, none⟩ = some (encStr x.key) := n0
          clear c2 n0 k0 k1 kn
          obtain ⟨W, hW⟩ : ∃ W, W = wr.drewN nq := ⟨_, rfl⟩
          rw [← hW] at c2' n0' ⊢
          have HW := (show Hid (W = wr.drewN nq) from hW)
          clear hW
          go_still_tail 9, (by kernel_rfl)
          go_wp2_with (at_mapUpdate; refine wpList_updO rfl _ _ _ _ rfl mb rfl (encStr x.key) (.pointer (some ⟨x.nd, 0, none⟩)) rfl rfl o' o2 HR.out (by show W.heap[mb]? = _; rw [HW.out]; exact HI.out.2.2.2.1.mp) ?_; intro w2 hw2)
          have HI2 := (show Hid _ from HI.out)
          obtain ⟨_, _, _, a4, a5, a6⟩ := HI.out
          have H2 : Hs w2 hb r L' mb o2 g' h' sm ((x.key, x.nd) :: L'.map fun e => (e.key, e.nd)) := by
            rw [hw2.out, HM.out, HW.out]
            exact Hs.setm (w := wr.drewN (nq + 1)) (o := o') (M := L'.map fun e => (e.key, e.nd)) (a4.drewN (nq + 1)) HO.out
          have N2 : NewN w2 x.nd x := a5.keep (by rw [hw2.out, setB_other _ _ HE.out.2.1, HW.out]; rfl)
          have T2 : Tn (Own hb mb (x :: L)) w w2 := (own_more a6 (fun y hy => by simp [hy])).trans (by rw [hw2.out, HW.out]; exact ((Tn.refl _ wr).drewN (nq + 1)).trans (Tn.setB (wr.drewN (nq + 1)) mb o2 (.inr (.inl rfl))))
          have d1 := H2.c1
          have d2 := N2.cells.2.2
          rw [HX.out] at d2
          have z1 := H2.z 1
          have H3 := H2.sum (sm + wt)
          have N3 : NewN (w2.setCell ⟨hb, 1, none⟩ (.int .i64 (sm + wt))) x.nd x := N2.keep (heap_setCell_other _ ⟨hb, 1, none⟩ _ _ HQ.out.2.2)
          have HLK := (show Hid (∀ n, Calls Try.prog 65 #[.pointer (some ⟨hb, 0, none⟩), .pointer (some (na x.nd))] ((w2.setCell ⟨hb, 1, none⟩ (.int .i64 (sm + wt))).drewN n) fun e1 w' => e1 = .returned (.tuple #[]) ∧ (∃ g' h', Hs w' hb r (x :: L') mb o2 g' h' (sm + wt) ((x.key, x.nd) :: L'.map fun e => (e.key, e.nd))) ∧ Tn (Own hb mb (x :: L')) ((w2.setCell ⟨hb, 1, none⟩ (.int .i64 (sm + wt))).drewN n) w') from fun n => link_at (H3.drewN n) (N3.drewN n) HQ.out.2.2 (fun e he => HL.out e (HE.out.2.2.subset he)))
          unfold na at HLK
          have HT2 := (show Hid _ from T2.trans (Tn.setCell w2 ⟨hb, 1, none⟩ (.inl rfl) (.int .i64 (sm + wt))))
          clear hw2 H2 N2 T2 H3 N3 a4 a5 a6 HI HI2 HR HO c2' n0' HT HW
          go_wp2
          go_still_tail 11, (by kernel_rfl)
          go_wp2_with (go_at_call 65; refine (HLK.out 1).mono ?_; rintro e1 w3 ⟨rfl, HF, T3⟩; have HF := (show Hid _ from HF); have HT3 := (show Hid _ from T3); clear T3)
          go_ret
          have hfin : wsum (x :: evc c L) = sm + wt := by rw [HE.out.1, wsum_cons, HX.out, HM.out]; omega
          rw [hfin, HE.out.1]
          obtain ⟨g3, h3, HF⟩ := HF.out
          exact ⟨rfl, ⟨o2, g3, h3, HF⟩, (HT2.out.drewN 1).trans (own_more HT3.out (fun y hy => by
            rcases List.mem_cons.1 hy with rfl | hy
            · simp
            · exact List.mem_cons_of_mem _ (HE.out.2.2.subset hy)))⟩
        · have hgt : c < sm := by omega
          have hne : L' ≠ [] := by
            rintro rfl
            rw [wsum_nil] at hsm
            have := HC.out.2.1
            omega
          obtain ⟨e, he⟩ := last_split hne
          obtain ⟨A, hA⟩ : ∃ A, A = L'.dropLast := ⟨_, rfl⟩
          rw [← hA] at he
          subst he
          have hrg := a4.rg
          rw [List.map_append] at hrg
          have hlast := rg_last hrg
          have c6 := a4.c6
          rw [hlast] at c6
          unfold na at c6
          have hsub := a3.sublist
          have hk' := HK.out.sub hsub
          have hu := hk'.un
          have hun : Unl txq ((A.map (fun e => (e.key, e.nd)) ++ (e.key, e.nd) :: []).map (·.1)) := by
            have : ((A.map (fun e => (e.key, e.nd)) ++ (e.key, e.nd) :: []).map (·.1)) = (A ++ e :: []).map En.key := by simp
            rw [this]; exact hu
          have hes : e.wt ≤ wsum (A ++ e :: []) := by
            have := wsum_sub hk'.wt (List.sublist_append_right A [e])
            rw [wsum_cons, wsum_nil] at this
            omega
          have hs2 : wsum (A ++ e :: []) ≤ r := hk'.le
          have HG := (show Hid _ from fun n => giveUp_at (w := wr.drewN n) (A := A) (B := []) (e := e) (MA := A.map fun e => (e.key, e.nd)) (MB := []) (s := wsum (A ++ e :: [])) (by simpa using a4.drewN n) hun (hk'.self e (by simp)) (hk'.wt e (by simp)) (by omega) (by have := hk'.wt e (by simp); omega) (by omega))
          unfold na at HG
          have hnm := NewN.ne a4 a5
          have HE := (show Hid (evc c (A ++ e :: []) = evc c A ∧ x.nd ≠ mb ∧ wsum (A ++ e :: []) - e.wt = wsum A) from ⟨by rw [evc_more (by simp) (by omega)]; simp, hnm, by rw [wsum_app, wsum_cons, wsum_nil]; omega⟩)
          clear hrel a1 a2 a3 a4 a5 a6 hsm hrg hlast hsub hk' hu hun hes hs2 hnm hA hne hle
          go_wp2
          go_quiet (fail)
          go_wp2_with (go_at_call 54; refine (HG.out _).mono ?_; rintro e1 w2 ⟨rfl, HF, T3⟩; have HF := (show Hid _ from HF); have HT3 := (show Hid _ from T3); clear T3)
          go_roundg A.length
          case measure =>
            have := HI.out.1
            rw [← this]; simp
          case rel =>
            obtain ⟨o2, g2, h2, HF⟩ := HF.out
            obtain ⟨a1, a2, a3, a4, a5, a6⟩ := HI.out
            rw [HE.out.2.2, List.append_nil, List.append_nil] at HF
            refine ⟨A, o2, g2, h2, rfl, by rw [← HE.out.1]; exact a2, (List.prefix_append _ _).trans a3, HF, a5.keep ?_, a6.trans ?_⟩
            · refine HT3.out.block _ ?_ ?_
              · obtain ⟨_, _, hx⟩ := a5; exact blt hx
              · rintro (h1 | h1 | ⟨y, hy, h1⟩)
                · exact HQ.out.2.2 h1
                · exact HE.out.2.1 h1
                · exact HL.out y (a3.sublist.subset hy) h1
            · exact ((Tn.refl _ wr).drewN _).trans (own_more HT3.out (fun y hy => a3.sublist.subset hy))
end
end
end Go.Proofs.Ytjefciioaebbeaa.SS
