/-
  Create.
-/
import Derived.Test.YtjobaeopokfekaaGreatDh
namespace Go.Proofs.YtjobaeopokfekaaGreat
open Go.RowKit Go.Maps
theorem DrAt.more {w : World} {db : Nat} {σ : Ds} {F G : Nat → Prop} (h : DrAt w db σ F) (hs : ∀ b, F b → G b) (hG : ∀ b, G b → b < w.heap.size) : DrAt w db σ G := by
  obtain ⟨h1, _, m, rv, st, sf, pv, h3, h4⟩ := h
  exact ⟨hs _ h1, hG, m, rv, st, sf, pv, h3, h4.more hs⟩
theorem Tn.up {F F1 : Nat → Prop} {w wd w' : World} (h0 : Below w.heap.size w wd) (h : Tn F1 wd w') (hs : ∀ k, k < w.heap.size → F1 k → F k) : Tn F w w' :=
  ⟨h.os.trans h0.os, h.tape.trans h0.tape, h.output.trans h0.output, Nat.le_trans h0.size h.size, fun k hk hF => (h.block k (Nat.lt_of_lt_of_le hk h0.size) (fun h1 => hF (hs k hk h1))).trans (h0.block k hk)⟩
theorem Rest.below {w w' : World} {F : Nat → Prop} {σ : Ds} {m : List Nat} {rv : Nat → Value} {st sf : Option Nat} {pv : Value} (h : Rest w F σ m rv st sf pv) (hb : Below w.heap.size w w') : Rest w' F σ m rv st sf pv := h.same (fun b _ _ ho _ => hb.block b (blt ho))
theorem StAt.below {w w' : World} {db room : Nat} {used : Int} {st sf : Option Nat} {pv : Value} (h : StAt w db room used st sf pv) (hb : Below w.heap.size w w') : StAt w' db room used st sf pv := (hb.block db (blt h)).trans h
/-- How many names stand. -/
theorem Rest.len_st {w : World} {F : Nat → Prop} {σ : Ds} {m : List Nat} {rv : Nat → Value} {st sf : Option Nat} {pv : Value} (h : Rest w F σ m rv st sf pv) (ty : TypeId) : (Builtin.len_ #[83] ty #[.map st]).run Tryz.prog w = .ok (.int .i64 (Maps.size σ.st)) w := by
  rcases h.dirs with ⟨rfl, rfl, e1, _⟩ | ⟨s, f, rfl, rfl, _, _, _, h1, _⟩
  · rw [e1]
    exact Maps.len_nil Tryz.underlying83 ty
  · exact h1.len Tryz.underlying83 ty
theorem sz_add (bs : List Bd) (o : Option Nat) : sz (bs ++ [⟨[], 0⟩]) o = sz bs o := by
  cases o with
  | none => rfl
  | some i =>
    show ((bs ++ [(⟨[], 0⟩ : Bd)]).getD i ⟨[], 0⟩).data.length = (bs.getD i ⟨[], 0⟩).data.length
    by_cases h : i < bs.length
    · rw [getD_app _ _ _ h]
    · have e2 : bs[i]? = none := List.getElem?_eq_none (by omega)
      by_cases h2 : i = bs.length
      · subst h2; simp
      · have e1 : (bs ++ [(⟨[], 0⟩ : Bd)])[i]? = none := List.getElem?_eq_none (by simp; omega)
        simp only [List.getD, e1, e2]
theorem Okd.add {σ : Ds} (h : Okd σ) : Okd { σ with bs := σ.bs ++ [⟨[], 0⟩] } := ⟨h.u0, h.u1, fun o => by rw [sz_add]; exact h.sz o, h.sm, h.sp⟩
theorem isN_len {x : Tx} (h : isN x = true) : 1 ≤ x.length ∧ x.length ≤ 1024 := by
  unfold isN at h
  simpa using h
theorem create_end {w wd : World} {db : Nat} {σ : Ds} {F : Nat → Prop} {m : List Nat} {rv : Nat → Value} {st sf : Option Nat} {pv : Value} (S : StAt w db σ.room σ.used st sf pv) (R : Rest w F σ m rv st sf pv) (hFd : F db) (hFw : ∀ b, F b → b < w.heap.size) (ok : Okd σ) (x : Tx) (hx : x.length ≤ 1024)
    (hd : Below (w.alloc (.cells #[.slice none 0 0, .int .i64 0] 103)).heap.size (w.alloc (.cells #[.slice none 0 0, .int .i64 0] 103)) wd) :
    Calls Tryz.prog 140 #[.pointer (some ⟨db, 0, none⟩), .slice (some ⟨wd.heap.size, 0, none⟩) 1 1] (wd.alloc (.cells #[encStr x, .pointer (some ⟨w.heap.size, 0, none⟩)] 190)) fun e w' => (∃ v, e = .returned v) ∧ DrAt w' db (({ σ with bs := σ.bs ++ [⟨[], 0⟩] } : Ds).change [(x, some σ.bs.length)]) (Fn F w w') ∧ Tn F w w' := by
  have ba : Below w.heap.size w wd := btD ((Below.refl _ w).alloc (Nat.le_refl _) _) hd
  have bw : Below wd.heap.size wd (wd.alloc (.cells #[encStr x, .pointer (some ⟨w.heap.size, 0, none⟩)] 190)) := (Below.refl _ _).alloc (Nat.le_refl _) _
  have R1 := ((R.addBody hFw).below hd).below bw
  have S1 := (S.below ba).below bw
  have hsz : w.heap.size + 1 ≤ wd.heap.size := by have := hd.size; simpa using this
  have hlen := R.len
  have hld : ldc (m ++ [w.heap.size]) [(x, some σ.bs.length)] = [encStr x, .pointer (some ⟨w.heap.size, 0, none⟩)] := by
    simp only [ldc, List.flatMap_cons, List.flatMap_nil, List.append_nil, ptv, pta]
    rw [← hlen]
    simp
  refine (change_any (σ := { σ with bs := σ.bs ++ [⟨[], 0⟩] }) S1 R1 (.inl hFd) (fun b hb => ?_) ok.add [(x, some σ.bs.length)] wd.heap.size 1 1 rfl ?_ ?_ ?_ (by decide)).mono ?_
  · rcases hb with hb | rfl
    · have := hFw b hb; simp; omega
    · simp; omega
  · rw [hld]; exact heap_alloc_new wd _
  · intro l hl i e
    have : l = (x, some σ.bs.length) := by simpa using hl
    subst this
    injection e with e
    subst e
    simp
  · intro l hl
    have : l = (x, some σ.bs.length) := by simpa using hl
    subst this
    exact hx
  · rintro e w' ⟨h1, h2, h3⟩
    have hs3 := h3.size
    simp at hs3
    refine ⟨h1, h2.more ?_ ?_, Tn.up (btD ba bw) h3 ?_⟩
    · rintro b ((hF | rfl) | rfl | ⟨h4, h5⟩)
      · exact .inl hF
      · exact .inr ⟨Nat.le_refl _, by omega⟩
      · exact .inr ⟨by omega, by omega⟩
      · exact .inr ⟨by simp at h4; omega, h5⟩
    · rintro b (hF | ⟨h4, h5⟩)
      · have := hFw b hF; omega
      · exact h5
    · rintro k hk (hF | rfl)
      · exact hF
      · omega
section
attribute [local irreducible] Calls
set_option maxRecDepth 1000000 in
theorem create_none (x : Tx) (w : World) : Calls Tryz.prog 136 #[.pointer none, encStr x] w fun e w' => e = .returned (.int .i64 1) ∧ Below w.heap.size w w' := by
  have hF := (show Hid _ from fun v w => fault_nilD v w)
  go_enter Tryz.func136, Tryz.ntmps136
  go_wp2_with (go_at_call 72; refine (hF.out _ _).mono ?_; rintro e w1 ⟨rfl, rfl⟩)
  go_ret
  exact ⟨rfl, (Below.refl _ _).alloc (Nat.le_refl _) _⟩
set_option maxHeartbeats 4000000 in
set_option maxRecDepth 1000000 in
theorem create_any {w : World} {db : Nat} {σ : Ds} {F : Nat → Prop} (h : DrAt w db σ F) (ok : Okd σ) (x : Tx) (hx : x.length ≤ 140737488355328) :
    Calls Tryz.prog 136 #[.pointer (some ⟨db, 0, none⟩), encStr x] w fun e w' => e = .returned (.int .i64 (σ.create x).1) ∧ DrAt w' db (σ.create x).2 (Fn F w w') ∧ Tn F w w' := by
  have h0 := h
  obtain ⟨hFd, hFw, m, rv, st, sf, pv, S, R⟩ := h
  have al := (Below.refl _ w).alloc (Nat.le_refl _) (.cells #[encStr x] 9)
  have hfl := (show Hid _ from fault_anyD ⟨db, 0, none⟩ w.heap.size 1 [x] _ (by simp) (by simp; omega) (one_cellD w x 9))
  have hfe : flt [x] = if isN x then 0 else 91 := by simp [flt]
  rw [hfe] at hfl
  have hsame : Hid (∀ w', Below w.heap.size w w' → DrAt w' db σ (Fn F w w') ∧ Tn F w w') := fun w' hb => ⟨(h0.below hb).more (fun b hb => .inl hb) (fun b hb' => by
    rcases hb' with h1 | h1
    · exact Nat.lt_of_lt_of_le (hFw b h1) hb.size
    · exact h1.2), Tn.of_below hb⟩
  unfold Ds.create
  by_cases hN : isN x = true
  · rw [if_pos hN] at hfl ⊢
    have Sa := S.below al
    have Ra := R.below al
    have hlk := (Ra.look (x := x) (by unfold maxLen; omega)).1
    have hln := Ra.len_st
    have c2 := Sa.cell.2.2.1
    by_cases hfull : lk σ.st x = none ∧ 65536 ≤ Maps.size σ.st
    · rw [if_pos hfull]
      rw [hfull.1] at hlk
      unfold ptv pta at hlk
      have g1 : (65536 : Int) ≤ (Maps.size σ.st : Int) := by omega
      clear hfe Sa Ra S R
      go_enter Tryz.func136, Tryz.ntmps136
      go_wp2_with (go_at_call 72; refine hfl.out.mono ?_; rintro e w1 ⟨rfl, rfl⟩)
      go_ret
      exact ⟨rfl, hsame.out _ al⟩
    · rw [if_neg hfull]
      have HL := isN_len hN
      have hLT := (show Hid _ from fun w p => leadTo_any x (by omega) p w)
      have hFa : ∀ b, F b → b < (w.alloc (.cells #[encStr x] 9)).heap.size := fun b hb => Nat.lt_of_lt_of_le (hFw b hb) al.size
      have HC := (show Hid (∀ wd : World, _ → _) from fun (wd : World) hd => create_end (wd := wd) Sa Ra hFd hFa ok x HL.2 hd)
      have HFw := (show Hid (∀ b, F b → b < w.heap.size) from hFw)
      have AL := (show Hid (Below w.heap.size w (w.alloc (.cells #[encStr x] 9))) from al)
      have e1 : (w.alloc (.cells #[encStr x] 9)).heap.size = w.heap.size + 1 := by simp
      rw [e1] at HC
      clear hfe Sa Ra S R hFa hFw h0 ok al hFd HL hx e1
      cases hk : lk σ.st x with
      | none =>
        have g1 : ¬ (65536 : Int) ≤ (Maps.size σ.st : Int) := by
          have : ¬ 65536 ≤ Maps.size σ.st := fun h => hfull ⟨hk, h⟩
          omega
        have g2 : decide ((65536 : Int) ≤ (Maps.size σ.st : Int)) = false := by simpa using g1
        rw [hk] at hlk
        unfold ptv pta at hlk
        clear hfull hk
        go_enter Tryz.func136, Tryz.ntmps136
        go_wp2_with (first
          | (go_at_call 72; refine hfl.out.mono ?_; rintro e w1 ⟨rfl, rfl⟩; clear hfl)
          | (go_at_call 141; refine (hLT.out _ _).mono ?_; rintro e wc ⟨rfl, hbc⟩; have HC1 := (show Hid _ from HC.out wc hbc); clear HC hLT)
          | (go_at_call 140; refine HC1.out.mono ?_; rintro e w9 ⟨⟨v9, rfl⟩, hD9, hT9⟩; have H9 := (show Hid (_ ∧ _) from ⟨hD9, hT9⟩); clear hD9 hT9 HC1))
        go_ret
        obtain ⟨hD9, hT9⟩ := H9.out
        have hs9 := hT9.size
        simp at hs9
        refine ⟨rfl, hD9.more ?_ ?_, Tn.up AL.out hT9 (fun k _ hk => hk)⟩
        · rintro b (hF | ⟨h4, h5⟩)
          · exact .inl hF
          · exact .inr ⟨by simp at h4; omega, h5⟩
        · rintro b (hF | ⟨h4, h5⟩)
          · have := HFw.out b hF; omega
          · exact h5
      | some i =>
        rw [hk] at hlk
        unfold ptv pta at hlk
        simp only at hlk
        generalize m.getD i 0 = q at hlk
        clear hfull hk hln
        go_enter Tryz.func136, Tryz.ntmps136
        go_wp2_with (first
          | (go_at_call 72; refine hfl.out.mono ?_; rintro e w1 ⟨rfl, rfl⟩; clear hfl)
          | (go_at_call 141; refine (hLT.out _ _).mono ?_; rintro e wc ⟨rfl, hbc⟩; have HC1 := (show Hid _ from HC.out wc hbc); clear HC hLT)
          | (go_at_call 140; refine HC1.out.mono ?_; rintro e w9 ⟨⟨v9, rfl⟩, hD9, hT9⟩; have H9 := (show Hid (_ ∧ _) from ⟨hD9, hT9⟩); clear hD9 hT9 HC1))
        go_ret
        obtain ⟨hD9, hT9⟩ := H9.out
        have hs9 := hT9.size
        simp at hs9
        refine ⟨rfl, hD9.more ?_ ?_, Tn.up AL.out hT9 (fun k _ hk => hk)⟩
        · rintro b (hF | ⟨h4, h5⟩)
          · exact .inl hF
          · exact .inr ⟨by simp at h4; omega, h5⟩
        · rintro b (hF | ⟨h4, h5⟩)
          · have := HFw.out b hF; omega
          · exact h5
  · rw [if_neg hN] at hfl ⊢
    clear hfe
    go_enter Tryz.func136, Tryz.ntmps136
    go_wp2_with (go_at_call 72; refine hfl.out.mono ?_; rintro e w1 ⟨rfl, rfl⟩)
    go_ret
    exact ⟨rfl, hsame.out _ al⟩
end
end Go.Proofs.YtjobaeopokfekaaGreat
/-
  Append, Sync, Read.
-/
namespace Go.Proofs.YtjobaeopokfekaaGreat
open Go.RowKit Go.Maps
/-- A row of bytes that is read. -/
def Rx (w : World) (a : Option Addr) (d : Tx) : Prop := d = [] ∨ ∃ b off, a = some ⟨b, off, none⟩ ∧ ∀ i, i < d.length → w.cell? ⟨b, off + i, none⟩ = some (u8v (d.getD i 0))
theorem Rx.below {w w' : World} {a : Option Addr} {d : Tx} (h : Rx w a d) (hb : Below w.heap.size w w') : Rx w' a d := by
  rcases h with h | ⟨b, off, ha, hc⟩
  · exact .inl h
  · exact .inr ⟨b, off, ha, fun i hi => cell_belowD (hc i hi) hb⟩
/-- One body has turned. -/
theorem Rest.setBody {w w' : World} {F G : Nat → Prop} {σ : Ds} {m : List Nat} {rv : Nat → Value} {st sf : Option Nat} {pv : Value} (h : Rest w F σ m rv st sf pv) (hFw : ∀ b, F b → b < w.heap.size) (hG : ∀ b, F b → G b) (i : Nat) (hi : i < σ.bs.length) (b : Bd) (v' : Value)
    (hk : ∀ bl o, F bl → w.heap[bl]? = some o → bl ≠ m.getD i 0 → some bl ≠ (rv i).ownBlock → (∀ c r, o ≠ .cells c 86 r) → w'.heap[bl]? = w.heap[bl]?)
    (hb : w'.heap[m.getD i 0]? = some (.cells #[v', .int .i64 (b.safe : Int)] 103 (0, 0))) (hrow : Ob w' 0 v' b.data) (hv : v'.ownBlock = (rv i).ownBlock ∨ ∀ g, v'.ownBlock = some g → w.heap.size ≤ g ∧ G g) (u' : Int) :
    Rest w' G { (σ.setBody i b) with used := u' } m (fun j => if j = i then v' else rv j) st sf pv := by
  have B := h.bod i hi
  have notRow : ∀ (bl : Nat) o, w.heap[bl]? = some o → (∀ c r, o ≠ .cells c 5 r) → some bl ≠ (rv i).ownBlock := by
    intro bl o ho hne e
    rcases B.row.2 with ⟨hv0, _⟩ | ⟨g, cap, c, hv0, _, hh, _⟩
    · rw [hv0] at e; cases e
    · rw [hv0] at e
      simp [Value.ownBlock] at e
      subst e
      rw [ho] at hh
      injection hh with hh
      exact hne _ _ hh
  have notBody : ∀ (bl : Nat) o, w.heap[bl]? = some o → (∀ c r, o ≠ .cells c 103 r) → bl ≠ m.getD i 0 := by
    intro bl o ho hne e
    subst e
    rw [B.blk] at ho
    injection ho with ho
    exact hne _ _ ho.symm
  have keep : ∀ (bl : Nat) c t r, F bl → w.heap[bl]? = some (Obj.cells c t r) → t ≠ 5 → t ≠ 103 → t ≠ 86 → w'.heap[bl]? = some (Obj.cells c t r) := by
    intro bl c t r hF ho n1 n2 n3
    rw [hk bl _ hF ho (notBody bl _ ho (fun c r e => by injection e with _ e2; exact n2 e2)) (notRow bl _ ho (fun c r e => by injection e with _ e2; exact n1 e2)) (fun c r e => by injection e with _ e2; exact n3 e2)]
    exact ho
  have keepM : ∀ (s : Nat) (D : Dir), F s → MpAt w m s D → MpAt w' m s D := by
    intro s D hF h1
    obtain ⟨es, ck, ho⟩ := map_blk h1
    refine om_same h1 (hk s _ hF ho (notBody s _ ho (fun c r e => by cases e)) (notRow s _ ho (fun c r e => by cases e)) (fun c r e => by cases e))
  refine ⟨?_, by rw [h.len]; simp [Ds.setBody], h.nodup, fun j hj => ?_, ?_, ?_, fun g hg => hG g (h.pvF g hg)⟩
  · rcases h.dirs with h1 | ⟨s, f, e1, e2, hne, f1, f2, m1, m2⟩
    · exact .inl h1
    · exact .inr ⟨s, f, e1, e2, hne, hG _ f1, hG _ f2, keepM s _ f1 m1, keepM f _ f2 m2⟩
  · have hj' : j < σ.bs.length := by simpa [Ds.setBody] using hj
    by_cases e : j = i
    · subst e
      have e2 : Ds.body { (σ.setBody j b) with used := u' } j = b := by simp [Ds.body, Ds.setBody, hj']
      simp only [e2, if_true]
      refine ⟨hb, hrow, hG _ B.inF, fun g hg => ?_⟩
      rcases hv with h1 | h1
      · exact hG _ (B.rowF g (h1 ▸ hg))
      · exact (h1 g hg).2
    · have e2 : Ds.body { (σ.setBody i b) with used := u' } j = σ.body j := by
        simp only [Ds.body, Ds.setBody, List.getD, List.getElem?_set]
        rw [if_neg (fun e3 => e e3.symm)]
      simp only [e2, if_neg e]
      have Bj := h.bod j hj'
      have hij : m.getD j 0 ≠ m.getD i 0 := by
        intro e3
        have a1 : j < m.length := by rw [h.len]; exact hj'
        have a2 : i < m.length := by rw [h.len]; exact hi
        have e4 : m[j] = m[i] := by simpa [a1, a2] using e3
        exact e ((List.getElem_inj h.nodup).1 e4)
      refine ⟨?_, ob_same Bj.row (fun g hg => ?_), hG _ Bj.inF, fun g hg => hG g (Bj.rowF g hg)⟩
      · rw [hk _ _ Bj.inF Bj.blk hij (notRow _ _ Bj.blk (fun c r e => by injection e with _ e2; revert e2; decide)) (fun c r e => by injection e with _ e2; revert e2; decide)]
        exact Bj.blk
      · rcases Bj.row.2 with ⟨hv0, _⟩ | ⟨g', cap, c, hv0, _, hh, _⟩
        · rw [hv0] at hg; cases hg
        · have eg : g' = g := by rw [hv0] at hg; simpa [Value.ownBlock] using hg
          subst eg
          refine hk g' _ (Bj.rowF g' hg) hh (notBody g' _ hh (fun c r e => by injection e with _ e2; revert e2; decide)) (fun e3 => h.sep j i g' hj' hi e hg e3.symm) (fun c r e => by injection e with _ e2; revert e2; decide)
  · intro j k g hj hk' hne e1 e2
    have hj' : j < σ.bs.length := by simpa [Ds.setBody] using hj
    have hk'' : k < σ.bs.length := by simpa [Ds.setBody] using hk'
    by_cases a : j = i
    · rw [if_pos a] at e1
      have hki : k ≠ i := fun e => hne (a.trans e.symm)
      rw [if_neg hki] at e2
      rcases hv with h1 | h1
      · exact h.sep i k g hi hk'' (fun e => hki e.symm) (h1 ▸ e1) e2
      · have := (h1 g e1).1
        have := hFw g ((h.bod k hk'').rowF g e2)
        omega
    · rw [if_neg a] at e1
      by_cases a2 : k = i
      · rw [if_pos a2] at e2
        rcases hv with h1 | h1
        · exact h.sep j i g hj' hi a e1 (h1 ▸ e2)
        · have := (h1 g e2).1
          have := hFw g ((h.bod j hj').rowF g e1)
          omega
      · rw [if_neg a2] at e2
        exact h.sep j k g hj' hk'' hne e1 e2
  · obtain ⟨cv, p1, p2, p3⟩ := h.pnd
    refine ⟨cv, ⟨p1.1, ?_⟩, p2, fun j hj => ?_⟩
    · rcases p1.2 with h4 | ⟨g, cap, c, hv0, hg, hh, hc⟩
      · exact .inl h4
      · exact .inr ⟨g, cap, c, hv0, hg, keep _ _ _ _ (h.pvF g (by rw [hv0]; rfl)) hh (by decide) (by decide) (by decide), hc⟩
    · obtain ⟨⟨g, cap, e1, hF, hg⟩, i1, i2⟩ := p3 j hj
      exact ⟨⟨g, cap, e1, hG _ hF, keep _ _ _ _ hF hg (by decide) (by decide) (by decide)⟩, i1, i2⟩
end Go.Proofs.YtjobaeopokfekaaGreat
/-
  Append.
-/
namespace Go.Proofs.YtjobaeopokfekaaGreat
open Go.RowKit Go.Maps
theorem find_inl {σ : Ds} {x : Tx} {e : Nat} (h : σ.find x = .inl e) : e = 91 ∨ e = 110 := by
  unfold Ds.find at h
  split at h
  · split at h
    · injection h with h; exact .inr h.symm
    · cases h
  · injection h with h; exact .inl h.symm
theorem find_inr {σ : Ds} {x : Tx} {i : Nat} (h : σ.find x = .inr i) : isN x = true ∧ lk σ.st x = some i := by
  unfold Ds.find at h
  split at h
  · rename_i hN
    split at h
    · cases h
    · rename_i j hj
      injection h with h
      subst h
      exact ⟨hN, hj⟩
  · cases h
theorem Rest.found {w : World} {F : Nat → Prop} {σ : Ds} {m : List Nat} {rv : Nat → Value} {st sf : Option Nat} {pv : Value} (h : Rest w F σ m rv st sf pv) {x : Tx} {i : Nat} (hf : σ.find x = .inr i) : i < σ.bs.length := by
  obtain ⟨hN, hk⟩ := find_inr hf
  have hl := isN_len hN
  exact (h.look (x := x) (by unfold maxLen; omega)).2 i hk
theorem DrAt.fn {w w' : World} {db : Nat} {σ : Ds} {F : Nat → Prop} (h : DrAt w db σ F) (hb : Below w.heap.size w w') : DrAt w' db σ (Fn F w w') ∧ Tn F w w' := ⟨(h.below hb).more (fun _ hb => .inl hb) (fun b hb' => by
    rcases hb' with h1 | h1
    · exact Nat.lt_of_lt_of_le (h.2.1 b h1) hb.size
    · exact h1.2), Tn.of_below hb⟩
theorem own_pos {w : World} {base : Nat} {e : TypeId} {sz n : Nat} {v : Value} {xs : List Value} (h : w.ownsRow base e sz v n xs) (h0 : 0 < n) : ∃ g cap, v = .slice (some ⟨g, 0, none⟩) n cap := by
  rcases h.2 with ⟨_, h1⟩ | ⟨g, cap, c, hv, _⟩
  · omega
  · exact ⟨g, cap, hv⟩
theorem row_typed {w : World} {base : Nat} {e : TypeId} {sz n : Nat} {v : Value} {xs : List Value} (h : w.ownsRow base e sz v n xs) {b : Nat} {o : Obj} (hb : w.heap[b]? = some o) (hne : ∀ c r, o ≠ .cells c e r) : some b ≠ v.ownBlock := by
  intro e1
  rcases h.2 with ⟨hv, _⟩ | ⟨g, cap, c, hv, _, hh, _⟩
  · rw [hv] at e1; cases e1
  · rw [hv] at e1
    simp [Value.ownBlock] at e1
    subst e1
    rw [hb] at hh
    injection hh with hh
    exact hne _ _ hh
theorem cells_ne {c c' : Array Value} {t t' : TypeId} {r r' : Nat × Nat} (h : t ≠ t') : Obj.cells c t r ≠ Obj.cells c' t' r' := fun e => by injection e with _ e2; exact h e2
/-- Behind append: the body's block and the drive's own are as they were. -/
theorem append_pre {w1 w3 : World} {db room i z : Nat} {used : Int} {F : Nat → Prop} {σ : Ds} {m : List Nat} {rv : Nat → Value} {st sf : Option Nat} {pv : Value} (S : StAt w1 db room used st sf pv) (R : Rest w1 F σ m rv st sf pv) (hi : i < σ.bs.length) (hg : (w1.drewN z).grownBy w3 (rv i).ownBlock) :
    StAt w3 db room used st sf pv ∧ w3.heap[m.getD i 0]? = some (.cells #[rv i, .int .i64 ((σ.body i).safe : Int)] 103 (0, 0)) ∧ db ≠ m.getD i 0 := by
  have B := R.bod i hi
  refine ⟨(hg.block db (blt S) (row_typed B.row S (fun c r => cells_ne (by decide)))).trans S, (hg.block _ (blt B.blk) (row_typed B.row B.blk (fun c r => cells_ne (by decide)))).trans B.blk, fun e => ?_⟩
  have h8 := B.blk
  rw [← e] at h8
  have h9 : w1.heap[db]? = _ := S
  rw [h9] at h8
  injection h8 with h8
  exact cells_ne (by decide) h8
theorem append_fin {w1 w3 : World} {db i z g' cap' : Nat} {used u' : Int} {F : Nat → Prop} {σ : Ds} {m : List Nat} {rv : Nat → Value} {st sf : Option Nat} {pv : Value} (S : StAt w1 db σ.room used st sf pv) (R : Rest w1 F σ m rv st sf pv) (hFd : F db) (hFw : ∀ b, F b → b < w1.heap.size) (hi : i < σ.bs.length) (hg : (w1.drewN z).grownBy w3 (rv i).ownBlock) (d : Tx) (k : Nat) (hk : (σ.body i).data.length + d.length = k)
    (hown : w3.ownsRow 0 5 1 (.slice (some ⟨g', 0, none⟩) k cap') k ((σ.body i).data.map u8v ++ d.map u8v)) (hloc : (Value.slice (some ⟨g', 0, none⟩) k cap').ownBlock = (rv i).ownBlock ∨ (Value.slice (some ⟨g', 0, none⟩) k cap').ownBlock = some (w1.drewN z).heap.size) (w' : World)
    (hw' : w' = (w3.setCell ⟨m.getD i 0, 0, none⟩ (.slice (some ⟨g', 0, none⟩) k cap')).setCell ⟨db, 1, none⟩ (.int .i64 u')) :
    DrAt w' db { (σ.setBody i ⟨(σ.body i).data ++ d, (σ.body i).safe⟩) with used := u' } (Fn F w1 w') ∧ Tn F w1 w' := by
  obtain ⟨S3, hb3, hne⟩ := append_pre S R hi hg
  obtain ⟨cg, hbg⟩ := own_blk hown
  have hsz : w1.heap.size ≤ w3.heap.size := hg.size
  have hsz' : w'.heap.size = w3.heap.size := by rw [hw']; simp [World.setCell]
  have g1 : g' ≠ m.getD i 0 := fun e => by
    rw [e, hb3] at hbg
    injection hbg with hbg
    exact cells_ne (by decide) hbg
  have g2 : g' ≠ db := fun e => by
    have h9 : w3.heap[db]? = _ := S3
    rw [← e, hbg] at h9
    injection h9 with h9
    exact cells_ne (by decide) h9
  have oth : ∀ b, b ≠ db → b ≠ m.getD i 0 → w'.heap[b]? = w3.heap[b]? := by
    intro b h1 h2
    rw [hw', Below.heap_setCell _ _ _ _ h1, Below.heap_setCell _ _ _ _ h2]
  have S4 : StAt (w3.setCell ⟨m.getD i 0, 0, none⟩ (.slice (some ⟨g', 0, none⟩) k cap')) db σ.room used st sf pv := (Below.heap_setCell _ _ _ _ hne).trans S3
  have B := R.bod i hi
  have hFn : ∀ b, Fn F w1 w' b → b < w'.heap.size := by
    rintro b (h1 | h1)
    · have := hFw b h1; omega
    · exact h1.2
  refine ⟨⟨.inl hFd, hFn, m, (fun j => if j = i then .slice (some ⟨g', 0, none⟩) k cap' else rv j), st, sf, pv, ?_, ?_⟩, ?_⟩
  · rw [hw']
    exact S4.set1 _
  · have := R.setBody (w' := w') (G := Fn F w1 w') hFw (fun b hb => .inl hb) i hi ⟨(σ.body i).data ++ d, (σ.body i).safe⟩ (.slice (some ⟨g', 0, none⟩) k cap') ?_ ?_ ?_ ?_ u'
    · exact ⟨this.dirs, this.len, this.nodup, this.bod, this.sep, this.pnd, this.pvF⟩
    · intro bl o hF ho n1 n2 n3
      rw [oth bl (fun e => by
        have h9 : w1.heap[db]? = _ := S
        rw [← e, ho] at h9
        injection h9 with h9
        exact n3 _ _ h9) n1]
      exact hg.block bl (blt ho) n2
    · rw [hw', Below.heap_setCell _ _ _ _ (fun e => hne e.symm), heap_setCell_same w3 _ 0 _ _ _ hb3]
      rfl
    · unfold Ob
      have e1 : ((σ.body i).data ++ d).length = k := by simp [hk]
      have e2 : ((σ.body i).data ++ d).map u8v = (σ.body i).data.map u8v ++ d.map u8v := by simp
      show w'.ownsRow 0 5 1 _ ((σ.body i).data ++ d).length (((σ.body i).data ++ d).map u8v)
      rw [e1, e2]
      refine ob_same hown (fun g hgg => ?_)
      have : g = g' := by simpa [Value.ownBlock] using hgg.symm
      subst this
      exact oth g g2 g1
    · rcases hloc with h1 | h1
      · exact .inl h1
      · refine .inr (fun g hgg => ?_)
        rw [h1] at hgg
        injection hgg with hgg
        have h2 : g' = (w1.drewN z).heap.size := by simpa [Value.ownBlock] using h1
        have h3 : (w1.drewN z).heap.size = w1.heap.size := rfl
        have := blt hbg
        refine ⟨by omega, .inr ⟨by omega, by omega⟩⟩
  · have t1 : Tn F w1 w3 := ⟨hg.os, hg.tape, hg.output, hg.size, fun b hb hF => hg.block b hb (fun e => hF (B.rowF b e.symm))⟩
    rw [hw']
    exact t1.trans ((Tn.setCell w3 ⟨m.getD i 0, 0, none⟩ B.inF _).trans (Tn.setCell _ ⟨db, 1, none⟩ hFd _))
/-- From a world a little ahead. -/
theorem fn_up {w w1 w' : World} {db : Nat} {σ : Ds} {F : Nat → Prop} (hb : Below w.heap.size w w1) (hFw : ∀ b, F b → b < w.heap.size) (h : DrAt w' db σ (Fn F w1 w')) (ht : Tn F w1 w') : DrAt w' db σ (Fn F w w') := by
  have h1 := hb.size
  have h2 := ht.size
  refine h.more ?_ ?_
  · rintro b (hF | ⟨h4, h5⟩)
    · exact .inl hF
    · exact .inr ⟨by omega, h5⟩
  · rintro b (hF | ⟨_, h5⟩)
    · have := hFw b hF; omega
    · exact h5
theorem app_src {w w1 : World} {bp op z : Nat} {d : Tx} (hb : Below w.heap.size w w1) (hc : ∀ i, i < d.length → w.cell? ⟨bp, op + i, none⟩ = some (u8v (d.getD i 0))) : ∀ j u, (d.map u8v)[j]? = some u → (w1.drewN z).cell? ((⟨bp, op, none⟩ : Addr).add j) = some u := by
  intro j u hu
  rw [List.getElem?_map] at hu
  cases hj : d[j]? with
  | none => rw [hj] at hu; cases hu
  | some y =>
    rw [hj] at hu
    injection hu with hu
    have hl : j < d.length := (List.getElem?_eq_some_iff.1 hj).1
    rw [add_plD]
    have h1 : w1.cell? ⟨bp, op + j, none⟩ = some (u8v (d.getD j 0)) := cell_belowD (hc j hl) hb
    have h2 : d.getD j 0 = y := by simp [List.getD, hj]
    rw [h2, hu] at h1
    exact h1
theorem app_one (d : Tx) : ∀ u ∈ d.map u8v, u.oneCell' = true := by
  intro u hu
  obtain ⟨b, _, rfl⟩ := List.mem_map.1 hu
  rfl
section
attribute [local irreducible] Calls
set_option maxRecDepth 1000000 in
theorem append_none (x : Tx) (v : Value) (w : World) : Calls Tryz.prog 135 #[.pointer none, encStr x, v] w fun e w' => e = .returned (.int .i64 1) ∧ Below w.heap.size w w' := by
  have hF := (show Hid _ from fun w => find_nil x w)
  go_enter Tryz.func135, Tryz.ntmps135
  go_wp2_with (go_at_call 54; refine (hF.out _).mono ?_; rintro e w1 ⟨rfl, hb⟩)
  go_ret
  exact ⟨rfl, hb⟩
set_option maxHeartbeats 4000000 in
set_option maxRecDepth 1000000 in
theorem append_any {w : World} {db : Nat} {σ : Ds} {F : Nat → Prop} (h : DrAt w db σ F) (ok : Okd σ) (x : Tx) (hx : x.length ≤ 9223372036854775807) (p : Option Addr) (n c : Nat) (d : Tx) (hd : Rx w p d) (hn : d.length = n) (hm : n ≤ 140737488355328)
    (hroom : ∀ i, σ.find x = .inr i → σ.used + (d.length : Int) ≤ (σ.room : Int) → (σ.body i).data.length + d.length ≤ 140737488355328) :
    Calls Tryz.prog 135 #[.pointer (some ⟨db, 0, none⟩), encStr x, .slice p n c] w fun e w' => e = .returned (.int .i64 (σ.append x d).1) ∧ DrAt w' db (σ.append x d).2 (Fn F w w') ∧ Tn F w w' := by
  have h0 := (show Hid (DrAt w db σ F) from h)
  obtain ⟨hFd, hFw, m, rv, st, sf, pv, S, R⟩ := h
  have hF := (show Hid _ from find_any S R hFw x hx)
  unfold Ds.append
  cases hf : σ.find x with
  | inl e9 =>
    dsimp only
    rw [hf] at hF
    unfold fndv at hF
    have he := find_inl hf
    have g1 : ((e9 : Int) != 0) = true := by
      rcases he with rfl | rfl <;> rfl
    have g2 : ¬ (e9 : Int) = 0 := by rcases he with rfl | rfl <;> decide
    clear hroom S R ok he hf hFw hFd
    go_enter Tryz.func135, Tryz.ntmps135
    go_wp2_with (go_at_call 54; refine hF.out.mono ?_; rintro e w1 ⟨rfl, hb⟩)
    go_ret
    exact ⟨rfl, DrAt.fn h0.out hb⟩
  | inr i =>
    dsimp only
    have hi := R.found hf
    have hro := hroom i hf
    rw [hf] at hF
    unfold fndv ptv pta at hF
    simp only at hF
    clear hroom hf
    by_cases hd0 : d = []
    · rw [if_pos hd0]
      have hn0 : n = 0 := by rw [← hn, hd0]; rfl
      subst hn0
      clear S R ok hFw hFd hro
      go_enter Tryz.func135, Tryz.ntmps135
      go_wp2_with (go_at_call 54; refine hF.out.mono ?_; rintro e w1 ⟨rfl, hb⟩)
      go_ret
      exact ⟨rfl, DrAt.fn h0.out hb⟩
    · rw [if_neg hd0]
      have hn1 : ¬ (n : Int) = 0 := by
        intro e
        apply hd0
        apply List.length_eq_zero_iff.1
        omega
      obtain ⟨bp, op, rfl, hcp⟩ : ∃ b off, p = some ⟨b, off, none⟩ ∧ ∀ i, i < d.length → w.cell? ⟨b, off + i, none⟩ = some (u8v (d.getD i 0)) := by
        rcases hd with e | e
        · exact absurd e hd0
        · exact e
      have wu : wrap64 (σ.used + (n : Int)) = σ.used + (n : Int) := by
        have := ok.u0
        have := ok.u1
        unfold wrap64
        omega
      have SB := (show Hid (∀ w1, Below w.heap.size w w1 → _) from fun w1 (hb : Below w.heap.size w w1) => S.below hb)
      have RB := (show Hid (∀ w1, Below w.heap.size w w1 → _) from fun w1 (hb : Below w.heap.size w w1) => R.below hb)
      have HH := (show Hid (_ ∧ _ ∧ _ ∧ _ ∧ _) from ⟨hFd, hFw, hi, hcp, hro⟩)
      rw [hn]
      by_cases hfull : (σ.room : Int) < σ.used + (n : Int)
      · rw [if_pos hfull]
        clear S R ok hFd hFw hi hcp hro hd hd0 HH RB
        go_enter Tryz.func135, Tryz.ntmps135
        go_wp2_with (go_at_call 54; refine hF.out.mono ?_; rintro e w1 ⟨rfl, hb⟩; have S1 := SB.out w1 hb; have c0 := S1.cell.1; have c1 := S1.cell.2.1; have HB := (show Hid _ from hb); clear S1 SB hF hb)
        go_quiet (fail)
        go_wp2
        go_ret
        exact ⟨rfl, DrAt.fn h0.out (HB.out.trans ⟨rfl, rfl, rfl, Nat.le_refl _, fun _ _ => rfl⟩)⟩
      · rw [if_neg hfull]
        have hgr : decide ((σ.room : Int) < σ.used + (n : Int)) = false := by simpa using hfull
        have hrow := (R.bod i hi).row
        obtain ⟨i0, hi0, hz0, hz1, hz2⟩ := info_parts info5D
        have hnb : (σ.body i).data.length + n ≤ 140737488355328 := by rw [← hn]; exact hro (by omega)
        have hn2 : 0 < (σ.body i).data.length + n := by omega
        have HN := (show Hid (d.length = n) from hn)
        have HM := (show Hid (_ ∧ _) from ⟨hnb, hn2⟩)
        obtain ⟨q, hq⟩ : ∃ q, q = m.getD i 0 := ⟨_, rfl⟩
        rw [← hq] at hF
        have HQ := (show Hid _ from hq)
        clear S R ok hFd hFw hi hcp hro hd hd0 hrow hnb hn2 hn hq
        go_enter Tryz.func135, Tryz.ntmps135
        go_wp2_with (go_at_call 54; refine hF.out.mono ?_; rintro e w1 ⟨rfl, hb⟩; have S1 := SB.out w1 hb; have R1 := (RB.out w1 hb).bod i HH.out.2.2.1; rw [← HQ.out] at R1; have c0 := S1.cell.1; have c1 := S1.cell.2.1; have b0 := R1.cells.1; have HB := (show Hid (_ ∧ _ ∧ _) from ⟨hb, S1, R1⟩); clear S1 R1 hF hb)
        go_quiet (fail)
        clear c0 c1
        go_wp2_with (at_builtin; refine wpList_append_own_at _ rfl _ _ 22 rfl 0 5 i0 (.int .u8 0) 1 1 Tryz.underlying22 hi0 hz0 hz1 hz2 rfl (by decide) _ _ _ rfl HB.out.2.2.row ⟨bp, op, none⟩ n c (d.map u8v) rfl (by simp [HN.out]) (app_src HB.out.1 HH.out.2.2.2.1) (app_one d) (by have := HM.out.1; unfold maxLen; omega) (by have := HM.out.1; omega) (Nat.zero_le _) ?_; intro v' w3 hown' hg3 _ hloc; obtain ⟨g', cap', rfl⟩ := own_pos hown' HM.out.2; have PR := append_pre HB.out.2.1 (RB.out w1 HB.out.1) HH.out.2.2.1 hg3; rw [← HQ.out] at PR; obtain ⟨S3, k3, ne3⟩ := PR; have y1 := S3.cell.2.1; have y2 := S3.frozen 1; have k0 := cell_of_row w3 q 0 _ _ (0, 0) k3; have k1 := frozen_of_row w3 q 0 _ _ k3; have ne4 : ¬ q = db := (fun e => ne3 e.symm); have HZ := (show Hid (_ ∧ _ ∧ _) from ⟨hown', hg3, hloc⟩); clear S3 k3 hown' hg3 hloc)
        go_ret
        obtain ⟨hown', hg3, hloc⟩ := HZ.out
        obtain ⟨hFd, hFw, hi, _, _⟩ := HH.out
        have hb := HB.out.1
        have FN := append_fin (u' := σ.used + (n : Int)) HB.out.2.1 (RB.out w1 hb) hFd (fun b hF => Nat.lt_of_lt_of_le (hFw b hF) hb.size) hi hg3 d _ (by rw [HN.out]) hown' hloc _ (by rw [← HQ.out])
        exact ⟨rfl, fn_up hb hFw FN.1 FN.2, Tn.up hb FN.2 (fun k _ hk => hk)⟩
end
end Go.Proofs.YtjobaeopokfekaaGreat
