/-
  Create.
-/
import Derived.Test.YtaddgmbglhdfdaaDh
namespace Go.Proofs.Ytaddgmbglhdfdaa
open Go.RowKit Go.Maps
theorem DrAt.more {w : World} {db : Nat} {σ : Ds} {F G : Nat → Prop} (h : DrAt w db σ F) (hs : ∀ b, F b → G b) (hG : ∀ b, G b → b < w.heap.size) : DrAt w db σ G := by
  obtain ⟨h1, _, m, rv, st, sf, pv, h3, h4⟩ := h
  exact ⟨hs _ h1, hG, m, rv, st, sf, pv, h3, h4.more hs⟩
theorem Tn.up {F F1 : Nat → Prop} {w wd w' : World} (h0 : Below w.heap.size w wd) (h : Tn F1 wd w') (hs : ∀ k, k < w.heap.size → F1 k → F k) : Tn F w w' :=
  ⟨h.os.trans h0.os, h.tape.trans h0.tape, h.output.trans h0.output, Nat.le_trans h0.size h.size, fun k hk hF => (h.block k (Nat.lt_of_lt_of_le hk h0.size) (fun h1 => hF (hs k hk h1))).trans (h0.block k hk)⟩
theorem Rest.below {w w' : World} {F : Nat → Prop} {σ : Ds} {m : List Nat} {rv : Nat → Value} {st sf : Option Nat} {pv : Value} (h : Rest w F σ m rv st sf pv) (hb : Below w.heap.size w w') : Rest w' F σ m rv st sf pv := h.same (fun b _ _ ho _ => hb.block b (blt ho))
theorem StAt.below {w w' : World} {db room : Nat} {used : Int} {st sf : Option Nat} {pv : Value} (h : StAt w db room used st sf pv) (hb : Below w.heap.size w w') : StAt w' db room used st sf pv := (hb.block db (blt h)).trans h
/-- How many names stand. -/
theorem Rest.len_st {w : World} {F : Nat → Prop} {σ : Ds} {m : List Nat} {rv : Nat → Value} {st sf : Option Nat} {pv : Value} (h : Rest w F σ m rv st sf pv) (ty : TypeId) : (Builtin.len_ #[86] ty #[.map st]).run Try.prog w = .ok (.int .i64 (Maps.size σ.st)) w := by
  rcases h.dirs with ⟨rfl, rfl, e1, _⟩ | ⟨s, f, rfl, rfl, _, _, _, h1, _⟩
  · rw [e1]
    exact Maps.len_nil Try.underlying86 ty
  · exact h1.len Try.underlying86 ty
theorem sz_add (bs : List Bd) (o : Option Nat) : sz (bs ++ [⟨[], 0⟩]) o = sz bs o := by
  cases o with
  | none => rfl
  | some i =>
    show ((bs ++ [(⟨[], 0⟩ : Bd)]).getD i ⟨[], 0⟩).data.length = (bs.getD i ⟨[], 0⟩).data.length
    by_cases h : i < bs.length
    · rw [getD_app _ _ _ h]
    · have e2 : bs[i]? = none := List.getElem?_eq_none (by omega)
      by_cases h2 : i = bs.length
      · subst h2; simp
      · have e1 : (bs ++ [(⟨[], 0⟩ : Bd)])[i]? = none := List.getElem?_eq_none (by simp; omega)
        simp only [List.getD, e1, e2]
theorem Okd.add {σ : Ds} (h : Okd σ) : Okd { σ with bs := σ.bs ++ [⟨[], 0⟩] } := ⟨h.u0, h.u1, fun o => by rw [sz_add]; exact h.sz o, h.sm, h.sp⟩
theorem isN_len {x : Tx} (h : isN x = true) : 1 ≤ x.length ∧ x.length ≤ 1024 := by
  unfold isN at h
  simpa using h
theorem create_end {w wd : World} {db : Nat} {σ : Ds} {F : Nat → Prop} {m : List Nat} {rv : Nat → Value} {st sf : Option Nat} {pv : Value} (S : StAt w db σ.room σ.used st sf pv) (R : Rest w F σ m rv st sf pv) (hFd : F db) (hFw : ∀ b, F b → b < w.heap.size) (ok : Okd σ) (x : Tx) (hx : x.length ≤ 1024)
    (hd : Below (w.alloc (.cells #[.slice none 0 0, .int .i64 0] 100)).heap.size (w.alloc (.cells #[.slice none 0 0, .int .i64 0] 100)) wd) :
    Calls Try.prog 43 #[.pointer (some ⟨db, 0, none⟩), .slice (some ⟨wd.heap.size, 0, none⟩) 1 1] (wd.alloc (.cells #[encStr x, .pointer (some ⟨w.heap.size, 0, none⟩)] 97)) fun e w' => (∃ v, e = .returned v) ∧ DrAt w' db (({ σ with bs := σ.bs ++ [⟨[], 0⟩] } : Ds).change [(x, some σ.bs.length)]) (Fn F w w') ∧ Tn F w w' := by
  have ba : Below w.heap.size w wd := bt ((Below.refl _ w).alloc (Nat.le_refl _) _) hd
  have bw : Below wd.heap.size wd (wd.alloc (.cells #[encStr x, .pointer (some ⟨w.heap.size, 0, none⟩)] 97)) := (Below.refl _ _).alloc (Nat.le_refl _) _
  have R1 := ((R.addBody hFw).below hd).below bw
  have S1 := (S.below ba).below bw
  have hsz : w.heap.size + 1 ≤ wd.heap.size := by have := hd.size; simpa using this
  have hlen := R.len
  have hld : ldc (m ++ [w.heap.size]) [(x, some σ.bs.length)] = [encStr x, .pointer (some ⟨w.heap.size, 0, none⟩)] := by
    simp only [ldc, List.flatMap_cons, List.flatMap_nil, List.append_nil, ptv, pta]
    rw [← hlen]
    simp
  refine (change_any (σ := { σ with bs := σ.bs ++ [⟨[], 0⟩] }) S1 R1 (.inl hFd) (fun b hb => ?_) ok.add [(x, some σ.bs.length)] wd.heap.size 1 1 rfl ?_ ?_ ?_ (by decide)).mono ?_
  · rcases hb with hb | rfl
    · have := hFw b hb; simp; omega
    · simp; omega
  · rw [hld]; exact heap_alloc_new wd _
  · intro l hl i e
    have : l = (x, some σ.bs.length) := by simpa using hl
    subst this
    injection e with e
    subst e
    simp
  · intro l hl
    have : l = (x, some σ.bs.length) := by simpa using hl
    subst this
    exact hx
  · rintro e w' ⟨h1, h2, h3⟩
    have hs3 := h3.size
    simp at hs3
    refine ⟨h1, h2.more ?_ ?_, Tn.up (bt ba bw) h3 ?_⟩
    · rintro b ((hF | rfl) | rfl | ⟨h4, h5⟩)
      · exact .inl hF
      · exact .inr ⟨Nat.le_refl _, by omega⟩
      · exact .inr ⟨by omega, by omega⟩
      · exact .inr ⟨by simp at h4; omega, h5⟩
    · rintro b (hF | ⟨h4, h5⟩)
      · have := hFw b hF; omega
      · exact h5
    · rintro k hk (hF | rfl)
      · exact hF
      · omega
section
attribute [local irreducible] Calls
set_option maxRecDepth 1000000 in
theorem create_none (x : Tx) (w : World) : Calls Try.prog 13 #[.pointer none, encStr x] w fun e w' => e = .returned (.int .i64 1) ∧ Below w.heap.size w w' := by
  have hF := (show Hid _ from fun v w => fault_nil v w)
  go_enter Try.func13, Try.ntmps13
  go_wp2_with (go_at_call 42; refine (hF.out _ _).mono ?_; rintro e w1 ⟨rfl, rfl⟩)
  go_ret
  exact ⟨rfl, (Below.refl _ _).alloc (Nat.le_refl _) _⟩
set_option maxHeartbeats 4000000 in
set_option maxRecDepth 1000000 in
theorem create_any {w : World} {db : Nat} {σ : Ds} {F : Nat → Prop} (h : DrAt w db σ F) (ok : Okd σ) (x : Tx) (hx : x.length ≤ 140737488355328) :
    Calls Try.prog 13 #[.pointer (some ⟨db, 0, none⟩), encStr x] w fun e w' => e = .returned (.int .i64 (σ.create x).1) ∧ DrAt w' db (σ.create x).2 (Fn F w w') ∧ Tn F w w' := by
  have h0 := h
  obtain ⟨hFd, hFw, m, rv, st, sf, pv, S, R⟩ := h
  have al := (Below.refl _ w).alloc (Nat.le_refl _) (.cells #[encStr x] 9)
  have hfl := (show Hid _ from fault_any ⟨db, 0, none⟩ w.heap.size 1 [x] _ (by simp) (by simp; omega) (one_cell w x 9))
  have hfe : flt [x] = if isN x then 0 else 91 := by simp [flt]
  rw [hfe] at hfl
  have hsame : Hid (∀ w', Below w.heap.size w w' → DrAt w' db σ (Fn F w w') ∧ Tn F w w') := fun w' hb => ⟨(h0.below hb).more (fun b hb => .inl hb) (fun b hb' => by
    rcases hb' with h1 | h1
    · exact Nat.lt_of_lt_of_le (hFw b h1) hb.size
    · exact h1.2), Tn.of_below hb⟩
  unfold Ds.create
  by_cases hN : isN x = true
  · rw [if_pos hN] at hfl ⊢
    have Sa := S.below al
    have Ra := R.below al
    have hlk := (Ra.look (x := x) (by unfold maxLen; omega)).1
    have hln := Ra.len_st
    have c2 := Sa.cell.2.2.1
    by_cases hfull : lk σ.st x = none ∧ 65536 ≤ Maps.size σ.st
    · rw [if_pos hfull]
      rw [hfull.1] at hlk
      unfold ptv pta at hlk
      have g1 : (65536 : Int) ≤ (Maps.size σ.st : Int) := by omega
      clear hfe Sa Ra S R
      go_enter Try.func13, Try.ntmps13
      go_wp2_with (go_at_call 42; refine hfl.out.mono ?_; rintro e w1 ⟨rfl, rfl⟩)
      go_ret
      exact ⟨rfl, hsame.out _ al⟩
    · rw [if_neg hfull]
      have HL := isN_len hN
      have hLT := (show Hid _ from fun w p => leadTo_any x (by omega) p w)
      have hFa : ∀ b, F b → b < (w.alloc (.cells #[encStr x] 9)).heap.size := fun b hb => Nat.lt_of_lt_of_le (hFw b hb) al.size
      have HC := (show Hid (∀ wd : World, _ → _) from fun (wd : World) hd => create_end (wd := wd) Sa Ra hFd hFa ok x HL.2 hd)
      have HFw := (show Hid (∀ b, F b → b < w.heap.size) from hFw)
      have AL := (show Hid (Below w.heap.size w (w.alloc (.cells #[encStr x] 9))) from al)
      have e1 : (w.alloc (.cells #[encStr x] 9)).heap.size = w.heap.size + 1 := by simp
      rw [e1] at HC
      clear hfe Sa Ra S R hFa hFw h0 ok al hFd HL hx e1
      cases hk : lk σ.st x with
      | none =>
        have g1 : ¬ (65536 : Int) ≤ (Maps.size σ.st : Int) := by
          have : ¬ 65536 ≤ Maps.size σ.st := fun h => hfull ⟨hk, h⟩
          omega
        have g2 : decide ((65536 : Int) ≤ (Maps.size σ.st : Int)) = false := by simpa using g1
        rw [hk] at hlk
        unfold ptv pta at hlk
        clear hfull hk
        go_enter Try.func13, Try.ntmps13
        go_wp2_with (first
          | (go_at_call 42; refine hfl.out.mono ?_; rintro e w1 ⟨rfl, rfl⟩; clear hfl)
          | (go_at_call 44; refine (hLT.out _ _).mono ?_; rintro e wc ⟨rfl, hbc⟩; have HC1 := (show Hid _ from HC.out wc hbc); clear HC hLT)
          | (go_at_call 43; refine HC1.out.mono ?_; rintro e w9 ⟨⟨v9, rfl⟩, hD9, hT9⟩; have H9 := (show Hid (_ ∧ _) from ⟨hD9, hT9⟩); clear hD9 hT9 HC1))
        go_ret
        obtain ⟨hD9, hT9⟩ := H9.out
        have hs9 := hT9.size
        simp at hs9
        refine ⟨rfl, hD9.more ?_ ?_, Tn.up AL.out hT9 (fun k _ hk => hk)⟩
        · rintro b (hF | ⟨h4, h5⟩)
          · exact .inl hF
          · exact .inr ⟨by simp at h4; omega, h5⟩
        · rintro b (hF | ⟨h4, h5⟩)
          · have := HFw.out b hF; omega
          · exact h5
      | some i =>
        rw [hk] at hlk
        unfold ptv pta at hlk
        simp only at hlk
        generalize m.getD i 0 = q at hlk
        clear hfull hk hln
        go_enter Try.func13, Try.ntmps13
        go_wp2_with (first
          | (go_at_call 42; refine hfl.out.mono ?_; rintro e w1 ⟨rfl, rfl⟩; clear hfl)
          | (go_at_call 44; refine (hLT.out _ _).mono ?_; rintro e wc ⟨rfl, hbc⟩; have HC1 := (show Hid _ from HC.out wc hbc); clear HC hLT)
          | (go_at_call 43; refine HC1.out.mono ?_; rintro e w9 ⟨⟨v9, rfl⟩, hD9, hT9⟩; have H9 := (show Hid (_ ∧ _) from ⟨hD9, hT9⟩); clear hD9 hT9 HC1))
        go_ret
        obtain ⟨hD9, hT9⟩ := H9.out
        have hs9 := hT9.size
        simp at hs9
        refine ⟨rfl, hD9.more ?_ ?_, Tn.up AL.out hT9 (fun k _ hk => hk)⟩
        · rintro b (hF | ⟨h4, h5⟩)
          · exact .inl hF
          · exact .inr ⟨by simp at h4; omega, h5⟩
        · rintro b (hF | ⟨h4, h5⟩)
          · have := HFw.out b hF; omega
          · exact h5
  · rw [if_neg hN] at hfl ⊢
    clear hfe
    go_enter Try.func13, Try.ntmps13
    go_wp2_with (go_at_call 42; refine hfl.out.mono ?_; rintro e w1 ⟨rfl, rfl⟩)
    go_ret
    exact ⟨rfl, hsame.out _ al⟩
end
end Go.Proofs.Ytaddgmbglhdfdaa
