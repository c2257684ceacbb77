/-
  Caches of string,string: find, Get, Drop, Put, Clear, Keys, Weight.
-/
import Derived.Test.YtjefciioaebbeaaCfS28
namespace Go.Proofs.Ytjefciioaebbeaa.SS
open Go.RowKit Go.Proofs.Ytjefciioaebbeaa
def nodev (e : Option Ent) : Value := .pointer (e.map fun e => ⟨e.nd, 0, none⟩)
theorem mpv_node (x : Tx) (L : List Ent) : mpv (mfn txq x (L.map fun e => (e.key, e.nd))) = nodev (fnd txq x L) := by
  unfold mpv mfn nodev fnd
  rw [List.find?_map]
  have : ((fun m : Tx × Nat => txq x m.1) ∘ fun e : Ent => (e.key, e.nd)) = fun e => txq x e.key := rfl
  rw [this]
  cases List.find? (fun e => txq x e.key) L <;> rfl
section
attribute [local irreducible] Calls
variable {w : World} {cb : Nat} {r : Int} {L : List Ent} {F : Nat → Prop} {hb mb : Nat} {o : Obj} {g h : Addr → Addr}
set_option maxRecDepth 1000000 in
theorem find_at (C : CcAt w cb r L F hb mb o g h) (x : Tx) : Calls Try.prog 52 #[.pointer (some ⟨cb, 0, none⟩), encStr x] w fun e1 w' => e1 = .returned (nodev (fnd txq x L)) ∧ w' = w := by
  have c0 := C.c0
  have c2 := C.hs.c2
  have hl := C.hs.mo.look tkind Try.underlying76 (et := 77) (fun w => by kernel_rfl) (by rw [List.map_map]; exact C.ok.un) x mb w C.hs.mp
  rw [mpv_node] at hl
  obtain ⟨p, hp⟩ : ∃ p, nodev (fnd txq x L) = .pointer p := ⟨_, rfl⟩
  rw [hp] at hl ⊢
  clear hp C
  go_enter Try.func52, Try.ntmps52
  go_wp2
  go_ret
  exact ⟨rfl, rfl⟩
theorem own_sub (C : CcAt w cb r L F hb mb o g h) {w' : World} {L' : List Ent} (hs : ∀ y ∈ L', F y.nd) (ht : Tn (Own hb mb L') w w') : Tn F w w' := ht.more (fun b _ hb1 => by
  rcases hb1 with rfl | rfl | ⟨y, hy, rfl⟩
  · exact C.fh
  · exact C.fm
  · exact hs y hy)
theorem CcAt.cbne (C : CcAt w cb r L F hb mb o g h) : ¬ Own hb mb L cb := by
  rintro (h1 | h1 | ⟨y, hy, h1⟩)
  · have h2 := C.blk; have h3 := C.hs.hd; rw [h1, h3] at h2; unfold headO at h2
    injection h2 with h2; injection h2 with h2 h4; have := congrArg Array.size h2; simp at this
  · obtain ⟨es, c, e1, _⟩ := C.hs.mo
    have h2 := C.blk; have h3 := C.hs.mp; rw [h1, h3, e1] at h2; cases h2
  · have h2 := C.blk; have h3 := C.hs.nd y hy; rw [h1, h3] at h2; unfold nodeO at h2
    injection h2 with h2; injection h2 with h2 h4; have := congrArg Array.size h2; simp at this
/-- The cache behind a call that turned what it holds. -/
theorem CcAt.turn (C : CcAt w cb r L F hb mb o g h) {w' : World} {L' L2 : List Ent} {mb' : Nat} {o' : Obj} {g' h' : Addr → Addr} {M : List (Tx × Nat)} {s : Int} (ht : Tn (Own hb mb L2) w w') (hL2 : ¬ Own hb mb L2 cb) (H : Hs w' hb r L' mb' o' g' h' s M) (hm : F mb') (hp : M.Perm (L'.map fun e => (e.key, e.nd))) (hsum : s = wsum L') (hn : ∀ e ∈ L', F e.nd) (hok : Okc txq r L') : CcAt w' cb r L' F hb mb' o' g' h' :=
  ⟨by rw [ht.block cb (blt C.blk) hL2]; exact C.blk, by rw [← hsum]; exact H.perm hp, C.fc, C.fh, hm, hn, fun b hb => Nat.lt_of_lt_of_le (C.lt b hb) ht.size, hok, C.r0, C.r1⟩
def getv (z : Option Ent) : Value := match z with
  | none => (.string ⟨#[]⟩)
  | some e => encStr e.val
set_option maxRecDepth 1000000 in
theorem get_at (C : CcAt w cb r L F hb mb o g h) (x : Tx) : Calls Try.prog 30 #[.pointer (some ⟨cb, 0, none⟩), encStr x] w fun e1 w' => e1 = .returned (.tuple #[getv (fnd txq x L), .bool (fnd txq x L).isSome]) ∧ (∃ mb' o' g' h', CcAt w' cb r (cget txq x L) F hb mb' o' g' h') ∧ Tn F w w' := by
  have HFi := (show Hid _ from find_at C x)
  unfold cget getv
  cases hf : fnd txq x L with
  | none =>
    rw [hf] at HFi
    unfold nodev at HFi
    have HC := (show Hid _ from C)
    clear hf C
    go_enter Try.func30, Try.ntmps30
    go_wp2_with (go_at_call 52; refine HFi.out.mono ?_; rintro e1 w1 ⟨rfl, h1⟩; obtain rfl := h1.symm)
    go_ret2
    exact ⟨rfl, ⟨_, _, _, _, HC.out⟩, Tn.refl _ _⟩
  | some e =>
    rw [hf] at HFi
    unfold nodev at HFi
    obtain ⟨A, B, hAB⟩ := fnd_at hf
    have he := (fnd_some hf).2
    subst hAB
    have HU := (show Hid _ from use_at C.hs)
    have c0 := C.c0
    have hpm : (A ++ e :: B).Perm (e :: (A ++ B)) := List.perm_middle
    have HC := (show Hid _ from C)
    have HE := (show Hid (Go.Proofs.Ytjefciioaebbeaa.drp txq x (A ++ e :: B) = A ++ B ∧ cget txq x (A ++ e :: B) = e :: Go.Proofs.Ytjefciioaebbeaa.drp txq x (A ++ e :: B)) from ⟨drp_at tkind.per C.ok.un he, by unfold cget; rw [hf]⟩)
    have n1 := (node_cells (C.hs.nd e (by simp))).2.1
    have STEP : Hid (∀ w' : World, (∃ g' h', Hs w' hb r (e :: (A ++ B)) mb o g' h' (wsum (A ++ e :: B)) ((A ++ e :: B).map fun e => (e.key, e.nd))) → Tn (Own hb mb (A ++ e :: B)) w w' → w'.cell? ⟨e.nd, 1, none⟩ = some (encStr e.val) ∧ Hid ((∃ mb' o' g' h', CcAt w' cb r (e :: (A ++ B)) F hb mb' o' g' h') ∧ Tn F w w')) := by
      rintro w' ⟨g', h', H'⟩ hT
      refine ⟨(node_cells (H'.nd e (by simp))).2.1, ⟨mb, o, g', h', HC.out.turn hT HC.out.cbne H' HC.out.fm (hpm.map _) ?_ ?_ ?_⟩, own_sub HC.out HC.out.fn hT⟩
      · rw [wsum_cons, wsum_app, wsum_app, wsum_cons]; omega
      · exact fun y hy => HC.out.fn y (hpm.mem_iff.2 hy)
      · have := HC.out.ok.get tkind.per x
        rw [HE.out.2, HE.out.1] at this
        exact this
    unfold na at HU
    clear hf he hpm C
    go_enter Try.func30, Try.ntmps30
    go_wp2_with (first
      | (go_at_call 52; refine HFi.out.mono ?_; rintro e1 w1 ⟨rfl, h1⟩; obtain rfl := h1.symm)
      | (go_at_call 53; refine HU.out.mono ?_; rintro e1 w2 ⟨rfl, H2, T2⟩; obtain ⟨d1, HD⟩ := STEP.out w2 H2 T2; clear H2 T2))
    go_ret2
    refine ⟨rfl, ?_, HD.out.2⟩
    show ∃ mb' o' g' h', CcAt w2 cb r (e :: Go.Proofs.Ytjefciioaebbeaa.drp txq x (A ++ e :: B)) F hb mb' o' g' h'
    rw [HE.out.1]
    exact HD.out.1
set_option maxRecDepth 1000000 in
theorem drop_at (C : CcAt w cb r L F hb mb o g h) (x : Tx) : Calls Try.prog 31 #[.pointer (some ⟨cb, 0, none⟩), encStr x] w fun e1 w' => e1 = .returned (.bool (fnd txq x L).isSome) ∧ (∃ mb' o' g' h', CcAt w' cb r (drp txq x L) F hb mb' o' g' h') ∧ Tn F w w' := by
  have HFi := (show Hid _ from find_at C x)
  cases hf : fnd txq x L with
  | none =>
    rw [hf] at HFi
    unfold nodev at HFi
    have HC := (show Hid _ from C)
    rw [drp_none hf]
    clear hf C
    go_enter Try.func31, Try.ntmps31
    go_wp2_with (go_at_call 52; refine HFi.out.mono ?_; rintro e1 w1 ⟨rfl, h1⟩; obtain rfl := h1.symm)
    go_ret
    exact ⟨rfl, ⟨_, _, _, _, HC.out⟩, Tn.refl _ _⟩
  | some e =>
    rw [hf] at HFi
    unfold nodev at HFi
    obtain ⟨A, B, hAB⟩ := fnd_at hf
    have he := (fnd_some hf).2
    subst hAB
    have hwe := C.ok.wt e (by simp)
    have hws : e.wt ≤ wsum (A ++ e :: B) := by
      have := wsum_sub C.ok.wt (show [e].Sublist (A ++ e :: B) from by simp)
      rw [wsum_cons, wsum_nil] at this
      omega
    have hle := C.ok.le
    have hr1 := C.r1
    have HU := (show Hid _ from giveUp_at (A := A) (B := B) (e := e) (MA := A.map fun e => (e.key, e.nd)) (MB := B.map fun e => (e.key, e.nd)) (by simpa using C.hs) (by have := C.ok.un; rw [List.map_append, List.map_cons] at this; rw [List.map_append, List.map_cons, List.map_map, List.map_map]; exact this) (C.ok.self e (by simp)) hwe (by omega) (by omega) (by omega))
    have c0 := C.c0
    have HC := (show Hid _ from C)
    rw [drp_at tkind.per C.ok.un he]
    have STEP : Hid (∀ w' : World, (∃ o' g' h', Hs w' hb r (A ++ B) mb o' g' h' (wsum (A ++ e :: B) - e.wt) ((A.map fun e => (e.key, e.nd)) ++ B.map fun e => (e.key, e.nd))) → Tn (Own hb mb (A ++ e :: B)) w w' → ((∃ mb' o' g' h', CcAt w' cb r (A ++ B) F hb mb' o' g' h') ∧ Tn F w w')) := by
      rintro w' ⟨o', g', h', H'⟩ hT
      refine ⟨⟨mb, o', g', h', HC.out.turn hT HC.out.cbne H' HC.out.fm (by rw [List.map_append]) ?_ ?_ ?_⟩, own_sub HC.out HC.out.fn hT⟩
      · rw [wsum_app, wsum_app, wsum_cons]; omega
      · exact fun y hy => HC.out.fn y (by rcases List.mem_append.1 hy with h | h <;> simp [h])
      · exact HC.out.ok.sub ((List.Sublist.refl _).append (List.sublist_cons_self _ _))
    unfold na at HU
    clear hf he C hwe hws hle hr1
    go_enter Try.func31, Try.ntmps31
    go_wp2_with (first
      | (go_at_call 52; refine HFi.out.mono ?_; rintro e1 w1 ⟨rfl, h1⟩; obtain rfl := h1.symm)
      | (go_at_call 54; refine HU.out.mono ?_; rintro e1 w2 ⟨rfl, H2, T2⟩; have HD := (show Hid (_ ∧ _) from STEP.out w2 H2 T2); clear H2 T2))
    go_ret
    exact ⟨rfl, HD.out⟩
set_option maxRecDepth 1000000 in
theorem put_at (C : CcAt w cb r L F hb mb o g h) (x : Tx) (v : Tx) (wt : Int) (hq : txq x x = true) (w1 : -9223372036854775808 ≤ wt) (w2 : wt ≤ 9223372036854775807) :
    Calls Try.prog 29 #[.pointer (some ⟨cb, 0, none⟩), encStr x, encStr v, .int .i64 wt] w fun e1 w' => ∃ n, e1 = .returned (.bool (cput txq r ⟨n, x, v, wt⟩ L).2) ∧ (∃ mb' o' g' h', CcAt w' cb r (cput txq r ⟨n, x, v, wt⟩ L).1 (Fn F w w') hb mb' o' g' h') ∧ Tn F w w' := by
  have HD := (show Hid _ from drop_at C x)
  have c0 := C.c0
  have HC := (show Hid _ from C)
  have HQ := (show Hid (_ ∧ _ ∧ _) from ⟨hq, w1, w2⟩)
  skip
  have STEP : Hid (∀ W : World, (∃ mb' o' g' h', CcAt W cb r (drp txq x L) F hb mb' o' g' h') → Tn F w W → W.cell? ⟨cb, 0, none⟩ = some (.pointer (some ⟨hb, 0, none⟩)) ∧ Hid (Calls Try.prog 51 #[.pointer (some ⟨hb, 0, none⟩), .pointer (some ⟨W.heap.size, 0, none⟩)] (W.alloc (.cells #[encStr x, encStr v, .int .i64 wt, .pointer none, .pointer none] 79)) fun e1 w' => e1 = .returned (.bool (cput txq r ⟨W.heap.size, x, v, wt⟩ L).2) ∧ (∃ mb' o' g' h', CcAt w' cb r (cput txq r ⟨W.heap.size, x, v, wt⟩ L).1 (Fn F w w') hb mb' o' g' h') ∧ Tn F w w')) := by
    rintro W ⟨mb', o', g', h', C1⟩ hT
    refine ⟨C1.c0, ?_⟩
    show Calls _ _ _ _ _
    have hal := (Below.refl _ W).alloc (Nat.le_refl _) (.cells #[encStr x, encStr v, .int .i64 wt, .pointer none, .pointer none] 79)
    have C2 : CcAt (W.alloc (.cells #[encStr x, encStr v, .int .i64 wt, .pointer none, .pointer none] 79)) cb r (drp txq x L) F hb mb' o' g' h' := C1.keep hal.size (fun b hb1 => hal.block b (C1.lt b hb1))
    have hnw : NewN (W.alloc (.cells #[encStr x, encStr v, .int .i64 wt, .pointer none, .pointer none] 79)) W.heap.size (⟨W.heap.size, x, v, wt⟩ : Ent) := ⟨none, none, heap_alloc_new W _⟩
    have hdd : cput txq r (⟨W.heap.size, x, v, wt⟩ : Ent) (drp txq x L) = cput txq r ⟨W.heap.size, x, v, wt⟩ L := by
      unfold cput
      have : drp txq x (drp txq x L) = drp txq x L := by
        show (List.filter _ (List.filter _ _)) = _
        rw [List.filter_filter]
        simp [drp]
      simp only [this]
    have hnl : ∀ e ∈ drp txq x L, W.heap.size ≠ e.nd := fun e he h1 => by
      have := C1.lt _ (C1.fn e he); omega
    have htk := take_at (x := ⟨W.heap.size, x, v, wt⟩) C2.hs C2.ok C2.r1 hnw (fun h1 => by have := C1.lt _ C1.fh; simp at h1; omega) hnl (fun e he => drp_not he) HQ.out.1 HQ.out.2.1 HQ.out.2.2
    rw [hdd] at htk
    refine htk.mono ?_
    rintro e1 w' ⟨rfl, ⟨o2, g2, h2, H2⟩, T2⟩
    have hz2 := T2.size
    have hW := hT.size
    have hz3 : (W.alloc (.cells #[encStr x, encStr v, .int .i64 wt, .pointer none, .pointer none] 79)).heap.size = W.heap.size + 1 := by simp
    have hmem : ∀ y ∈ (cput txq r (⟨W.heap.size, x, v, wt⟩ : Ent) L).1, y = ⟨W.heap.size, x, v, wt⟩ ∨ y ∈ drp txq x L := by
      intro y hy
      unfold cput at hy
      split at hy
      · exact .inr hy
      · rcases List.mem_cons.1 hy with h1 | h1
        · exact .inl h1
        · exact .inr ((evc_pre' _ _).sublist.subset h1)
    have hfn : ∀ y, (y = (⟨W.heap.size, x, v, wt⟩ : Ent) ∨ y ∈ drp txq x L) → Fn F w w' y.nd := by
      rintro y (rfl | hy)
      · exact .inr ⟨hW, by show W.heap.size < _; omega⟩
      · exact .inl (C1.fn y hy)
    have T3 : Tn (Own hb mb' (⟨W.heap.size, x, v, wt⟩ :: drp txq x L)) W w' := (Tn.of_below hal).trans T2
    have hcb : ¬ Own hb mb' (⟨W.heap.size, x, v, wt⟩ :: drp txq x L) cb := by
      have h1 := C1.cbne
      have h2 := C1.lt _ C1.fc
      rintro (h3 | h3 | ⟨y, hy, h3⟩)
      · exact h1 (.inl h3)
      · exact h1 (.inr (.inl h3))
      · rcases List.mem_cons.1 hy with rfl | hy
        · simp at h3; omega
        · exact h1 (.inr (.inr ⟨y, hy, h3⟩))
    have hok := HC.out.ok.put (⟨W.heap.size, x, v, wt⟩ : Ent) HQ.out.1
    refine ⟨rfl, ⟨mb', o2, g2, h2, ⟨by rw [T3.block cb (blt C1.blk) hcb]; exact C1.blk, H2, .inl C1.fc, .inl C1.fh, .inl C1.fm, fun e he => hfn e (hmem e he), ?_, hok, C1.r0, C1.r1⟩⟩, hT.trans (T3.more ?_)⟩
    · rintro b (hb1 | hb1)
      · have := HC.out.lt b hb1; omega
      · exact hb1.2
    · rintro b hb0 (h3 | h3 | ⟨y, hy, h3⟩)
      · rw [h3]; exact C1.fh
      · rw [h3]; exact C1.fm
      · rcases List.mem_cons.1 hy with rfl | hy
        · simp at h3; omega
        · rw [h3]; exact C1.fn y hy
  clear C hq w1 w2
  go_enter Try.func29, Try.ntmps29
  go_wp2_with (first
    | (go_at_call 31; refine HD.out.mono ?_; rintro e1 W ⟨rfl, H1, T1⟩; obtain ⟨d0, HT⟩ := STEP.out W H1 T1; clear H1 T1)
    | (go_at_call 51; refine HT.out.mono ?_; rintro e1 w2 ⟨rfl, H2, T2⟩; have HF := (show Hid (_ ∧ _) from ⟨H2, T2⟩); clear H2 T2))
  go_ret
  exact ⟨_, rfl, HF.out⟩
set_option maxRecDepth 1000000 in
theorem put_not (x : Tx) (v : Tx) (wt : Int) (hq : txq x x = false) (c : Option Addr) (w : World) : Calls Try.prog 29 #[.pointer c, encStr x, encStr v, .int .i64 wt] w fun e1 w' => e1 = .returned (.bool false) ∧ w' = w := by
  exact absurd hq (by simp [txq])
set_option maxRecDepth 1000000 in
theorem clear_any (C : CcAt w cb r L F hb mb o g h) : Calls Try.prog 32 #[.pointer (some ⟨cb, 0, none⟩)] w fun e1 w' => e1 = .returned (.tuple #[]) ∧ (∃ mb' o' g' h', CcAt w' cb r [] (Fn F w w') hb mb' o' g' h') ∧ Tn F w w' := by
  have HL := (show Hid _ from clear_at C.hs.hd)
  have c0 := C.c0
  have HC := (show Hid _ from C)
  clear C
  go_enter Try.func32, Try.ntmps32
  go_wp2_with (go_at_call 55; refine HL.out.mono ?_; rintro e1 w1 ⟨rfl, H1, T1, S1⟩; have HF := (show Hid (Hs _ _ _ _ _ _ _ _ _ _ ∧ Tn _ _ _ ∧ _ = _) from ⟨H1, T1, S1⟩); clear H1 T1 S1)
  refine bodyPost_end (results_none rfl _ _ _) rfl ?_
  obtain ⟨H1, T1, S1⟩ := HF.out
  have C := HC.out
  refine ⟨rfl, ⟨w.heap.size, _, _, _, ⟨?_, H1, .inl C.fc, .inl C.fh, .inr ⟨Nat.le_refl _, by omega⟩, (fun e he => by cases he), ?_, Okc.nil _ C.r0, C.r0, C.r1⟩⟩, T1.more ?_⟩
  · rw [T1.block cb (blt C.blk) (fun h1 => C.cbne (.inl h1))]; exact C.blk
  · rintro b (hb1 | hb1)
    · have := C.lt b hb1; omega
    · exact hb1.2
  · rintro b _ rfl; exact C.fh
set_option maxRecDepth 1000000 in
theorem keys_any (C : CcAt w cb r L F hb mb o g h) (hl : L.length ≤ 8796093022207) : Calls Try.prog 13 #[.pointer (some ⟨cb, 0, none⟩)] w fun e1 w' => ∃ v, e1 = .returned v ∧ Kl w' w.heap.size v (L.map En.key) ∧ Below w.heap.size w w' := by
  have HL := (show Hid _ from keys_at C.hs (by simp) hl)
  have c0 := C.c0
  clear C
  go_enter Try.func13, Try.ntmps13
  go_wp2_with (go_at_call 36; refine HL.out.mono ?_; rintro e1 w1 ⟨v, rfl, H1, T1⟩; have HF := (show Hid (Kl _ _ _ _ ∧ _) from ⟨H1, T1⟩); clear H1 T1)
  go_ret
  exact ⟨_, rfl, HF.out⟩
set_option maxRecDepth 1000000 in
theorem weight_any (C : CcAt w cb r L F hb mb o g h) : Calls Try.prog 15 #[.pointer (some ⟨cb, 0, none⟩)] w fun e1 w' => e1 = .returned (.int .i64 (wsum L)) ∧ w' = w := by
  have c0 := C.c0
  have c1 := C.hs.c1
  clear C
  go_enter Try.func15, Try.ntmps15
  go_wp2
  go_ret
  exact ⟨rfl, rfl⟩
end
end Go.Proofs.Ytjefciioaebbeaa.SS
