/-
  Package frame: 'fixedPart', 'appendSum', 'blockSum'.
-/
import Derived.Test.YtfcjkaigmlfjnaaQ8c
import Derived.Test.YtfcjkaigmlfjnaaCt1
import Derived.Test.YtfcjkaigmlfjnaaPn
import Derived.Lib.SlBytesConst
import Derived.Lib.ConvBytes
namespace Go.Proofs.Ytfcjkaigmlfjnaa
open Go.RowKit
/-- append(s, x..) where s is any row with no room for it: a row of its own. -/
theorem wpList_apg {w : World} {ops : Array Oper} {rest : List Oper} {o : Oper} {a : Act} {Q : Exit → Act → World → Prop} (hgd : o.guard = none) (s x : Operand) (ho : o.op = .call { callee := .builtin .append, args := #[s, x], argTypes := #[35, 35] })
    (ad : Addr) (n cap : Nat) (xs : List (BitVec 8)) (hs : a.eval s = .slice (some ad) n cap) (hr0 : Rd w (some ad) xs) (hn0 : xs.length = n) (ay : Addr) (m c : Nat) (ys : List (BitVec 8)) (hx : a.eval x = .slice (some ay) m c) (hr : Rd w (some ay) ys) (hn : ys.length = m) (hroom : cap < n + m) (hm : n + m ≤ 140737488355328)
    (h : ∀ v' w', Ow w' w.heap.size v' (xs ++ ys) → Below w.heap.size w w' → wpList Try.prog ops Q rest (a.put o.dst v') w') : wpList Try.prog ops Q (o :: rest) a w := by
  obtain ⟨i0, hi, hz0, hz1, hz2⟩ := info_parts info5
  subst hn hn0
  have src : ∀ {ad : Addr} {ys : List (BitVec 8)}, Rd w (some ad) ys → ∀ j u, (vs (fn ys) ys.length)[j]? = some u → w.cell? (ad.add j) = some u := by
    intro ad ys hr
    rcases hr with e | ⟨b, off, e, hc⟩
    · subst e; intro j u hu; simp [vs] at hu
    · cases e
      exact vs_src hc
  have hl : ∀ ys : List (BitVec 8), (vs (fn ys) ys.length).length = ys.length * 1 := fun ys => by rw [vs_len, Nat.mul_one]
  obtain ⟨v', w', hr1, h2, h3⟩ := run_append_arg_grows (P := Try.prog) w 35 o.type 5 i0 (.int .u8 0) 1 1 Try.underlying35 hi hz0 hz1 hz2 rfl (by decide) ad xs.length cap (vs (fn xs) xs.length) (hl xs) (src hr0) ay ys.length c (vs (fn ys) ys.length) (hl ys) (src hr) (by omega) (by unfold maxLen; omega) (by omega)
  refine wpList_plain hgd fun K hK => ?_
  unfold Oper.wp execOp
  simp only [ho, resolve, invoke, builtin, Sem.run_bind, Sem.run_pure, Result.andThen_ok, List.map_toArray, List.map_cons, List.map_nil, hs, hx, hr1]
  refine hK _ _ (h v' w' ?_ ?_)
  · unfold Ow
    rw [List.length_append, vs_fn_app]; exact h2
  · exact (Below.refl _ _).grown h3 (Nat.le_refl _) (fun _ h => by cases h)
theorem rd_mark (W : World) (fr : Nat × Nat) : Rd (W.alloc (.cells #[.int .u8 67, .int .u8 82, .int .u8 78, .int .u8 2] 5 fr)) (some ⟨W.heap.size, 0, none⟩) mk8 := rd_newl W mk8 _ fr
section
attribute [local irreducible] Calls el Hd.cs cmo rg
set_option maxHeartbeats 1000000 in
set_option maxRecDepth 1000000 in
theorem put32_sum {w : World} {a : Option Addr} {bs : List (BitVec 8)} (h : Rd w a bs) (n c : Nat) (hn : bs.length = n) (hm : n ≤ 140737488355000) (s : BitVec 32) :
    Calls Try.prog 32 #[.slice a n c, .int .u32 (rg s)] w fun e w' => ∃ o', e = .returned o' ∧ Ow w' w.heap.size o' (bs ++ sm s) ∧ Below w.heap.size w w' := by
  unfold rg
  exact put32_any h n c hn hm s.toNat s.isLt
set_option maxHeartbeats 1000000 in
set_option maxRecDepth 1000000 in
theorem appendSum_any {w : World} {base : Nat} {v : Value} {xs : List (BitVec 8)} (h : Ow w base v xs) (hB : base ≤ w.heap.size) (hm : xs.length ≤ 140737488355000) (s : BitVec 32) :
    Calls Try.prog 22 #[v, .int .u32 (rg s)] w fun e w' => ∃ o', e = .returned o' ∧ Ow w' base o' (xs ++ sm s) ∧ Below base w w' := by
  have P := (show Hid _ from put32_sum (w := w) (a := none) (bs := []) (.inl rfl) 0 0 rfl (by omega) s)
  go_enter Try.func22, Try.ntmps22
  go_wp2_with (first
    | (go_at_call 32; refine P.out.mono ?_; rintro e w1 ⟨v1, rfl, ho1, hb1⟩; obtain ⟨p1, c1, rfl, hc1, hr1⟩ := ho1.rd; rw [List.nil_append] at *)
    | (at_builtin; refine wpList_apa rfl (.tmp 5) (.tmp 7) rfl base v xs rfl (h.below hb1) p1 (sm s).length c1 (sm s) rfl hr1 rfl (by rw [sm_len]; omega) (Nat.le_trans hB hb1.size) ?_; intro v2 w2 ho2 hg2 hk2))
  go_ret
  exact ⟨_, rfl, ho2, (h.below hb1).below_append (hb1.mono hB) (Nat.le_trans hB hb1.size) hg2 (Nat.le_refl _)⟩
set_option maxHeartbeats 1000000 in
set_option maxRecDepth 1000000 in
theorem blockSum_any {w : World} {a : Option Addr} {x : List (BitVec 8)} (h : Rd w a x) (n c : Nat) (hn : x.length = n) (hm : n ≤ 140737488355000) (s : BitVec 32) (j : Nat) (hj : j < 4294967296) :
    Calls Try.prog 23 #[.int .u32 (rg s), .int .i64 (j : Int), .slice a n c] w fun e w' => e = .returned (.int .u32 (rg (bsm s j x))) ∧ Below w.heap.size w w' := by
  have P := (show Hid _ from put32_sum (w := w) (a := none) (bs := []) (.inl rfl) 0 0 rfl (by omega) s)
  have jm : (j : Int) % 4294967296 = (j : Int) := by omega
  unfold bsm
  go_enter Try.func23, Try.ntmps23
  go_wp2_with (first
    | (go_at_call 32; first | (refine P.out.mono ?_; rintro e w1 ⟨v1, rfl, ho1, hb1⟩; obtain ⟨p1, c1, rfl, hc1, hr1⟩ := ho1.rd; rw [List.nil_append] at *) | (refine (put32_any hr1 (sm s).length c1 rfl (by rw [sm_len]; omega) j hj).mono ?_; rintro e w2 ⟨v2, rfl, ho2, hb2⟩; obtain ⟨p2, c2, rfl, hc2, hr2⟩ := ho2.rd))
    | (go_at_call 20; refine (csum_any hr2 (sm s ++ lb 4 j).length c2 rfl (by rw [List.length_append, sm_len, lb_len]; omega)).mono ?_; rintro e w3 ⟨rfl, hb3⟩)
    | (go_at_call 21; refine (cmore_any (((h.below hb1).below hb2).below hb3) _ n c hn (by omega)).mono ?_; rintro e w4 ⟨rfl, hb4⟩))
  go_ret
  exact ⟨rfl, bt (bt (bt hb1 hb2) hb3) hb4⟩
theorem HdAt.store {w : World} {g : Nat} {h : Hd} (H : HdAt w g h) : Rd w (some ⟨g, 0, none⟩) h.st := by
  unfold HdAt at H
  refine .inr ⟨g, 0, rfl, fun i hi => ?_⟩
  have hi' : i < 8 := hi
  rw [Nat.zero_add, cell_of_row w g i _ _ (0, 0) H]
  unfold Hd.cs Hd.st
  match i, hi' with
  | 0, _ => rfl
  | 1, _ => rfl
  | 2, _ => rfl
  | 3, _ => rfl
  | 4, _ => rfl
  | 5, _ => rfl
  | 6, _ => rfl
  | 7, _ => rfl
set_option maxHeartbeats 4000000 in
set_option maxRecDepth 1000000 in
theorem fixedPart_nat (h : Hd) (K M B Z X E C : Nat) (e1 : h.k = K) (e2 : h.m = M) (e3 : h.b = B) (e4 : h.sz = Z) (e5 : h.ix = X) (e6 : h.ep = E) (e7 : h.ct = C) (b1 : K < 256) (b2 : M < 256) (b3 : B < 4294967296) (b4 : Z < 4294967296) (b5 : X < 256) (b6 : E < 4294967296) (b7 : C < 4294967296) (b8 : h.key.length < 256) (w : World) :
    Calls Try.prog 19 #[.agg h.cs] w fun e w' => ∃ v, e = .returned v ∧ Ow w' w.heap.size v (mk8 ++ h.st ++ lb 1 K ++ lb 1 M ++ lb 4 B ++ lb 4 Z ++ lb 1 X ++ lb 4 E ++ lb 4 C ++ lb 1 h.key.length) ∧ Below w.heap.size w w' := by
  have al : ∀ (W : World) (o : Obj), Below W.heap.size W (W.alloc o) := fun W o => (Below.refl _ _).alloc (Nat.le_refl _) o
  have hl : (bstr h.key).size = h.key.length := by show (us h.key).toArray.size = _; simp [us]
  have HA := HdAt.new w h
  have kc := Lib.run_convert_bytes_const (P := Try.prog) (w.alloc (.cells h.cs 28)) 35 5 #[.int .u8 67, .int .u8 82, .int .u8 78, .int .u8 2] 4 4 Try.underlying35 Try.underlying5
  have rm := rd_mark (w.alloc (.cells h.cs 28)) (4, 5)
  rw [World.size_alloc] at kc rm
  have HB := HA.below (al _ (.cells #[.int .u8 67, .int .u8 82, .int .u8 78, .int .u8 2] 5 (4, 5)))
  have hbw := bt (al w (.cells h.cs 28)) (al _ (.cells #[.int .u8 67, .int .u8 82, .int .u8 78, .int .u8 2] 5 (4, 5)))
  obtain ⟨q8, q9, q10, q11, q12, q13, q14, q15⟩ := HB.cells
  have st8 : h.st.length = 8 := rfl
  have ml : mk8.length = 4 := rfl
  have m1 : (K : Int) % 256 = K := by omega
  have m2 : (M : Int) % 256 = M := by omega
  have m3 : (B : Int) % 4294967296 = B := by omega
  have m4 : (Z : Int) % 4294967296 = Z := by omega
  have m5 : (X : Int) % 256 = X := by omega
  have m6 : (E : Int) % 4294967296 = E := by omega
  have m7 : (C : Int) % 4294967296 = C := by omega
  have m8 : (h.key.length : Int) % 256 = h.key.length := by omega
  go_enter Try.func19, Try.ntmps19
  go_wp2_with (first
    | (at_builtin; refine wpList_apg rfl (.tmp 5) (.tmp 7) rfl ⟨w.heap.size + 1, 0, none⟩ 4 4 mk8 rfl rm rfl ⟨w.heap.size, 0, none⟩ 8 8 h.st rfl HB.store rfl (by decide) (by decide) ?_; intro v' w1 ho hb; clear rm kc HA; clear q8 q9 q10 q11 q12 q13 q14 q15; replace HB := HB.below hb; replace ho := ho.mono hbw.size; replace hbw := bt hbw hb; obtain ⟨p1, c1, rfl, hc1, hr⟩ := ho.rd; obtain ⟨q8, q9, q10, q11, q12, q13, q14, q15⟩ := HB.cells)
    | (go_at_call 31; refine (put8_any hr _ _ rfl (by simp [lb_len, st8, ml]) _ (by assumption)).mono ?_; rintro e w1 ⟨v1, rfl, ho, hb⟩; clear q8 q9 q10 q11 q12 q13 q14 q15; replace HB := HB.below hb; replace ho := ho.mono hbw.size; replace hbw := bt hbw hb; obtain ⟨p1, c1, rfl, hc1, hr⟩ := ho.rd; obtain ⟨q8, q9, q10, q11, q12, q13, q14, q15⟩ := HB.cells)
    | (go_at_call 32; refine (put32_any hr _ _ rfl (by simp [lb_len, st8, ml]) _ (by assumption)).mono ?_; rintro e w1 ⟨v1, rfl, ho, hb⟩; clear q8 q9 q10 q11 q12 q13 q14 q15; replace HB := HB.below hb; replace ho := ho.mono hbw.size; replace hbw := bt hbw hb; obtain ⟨p1, c1, rfl, hc1, hr⟩ := ho.rd; obtain ⟨q8, q9, q10, q11, q12, q13, q14, q15⟩ := HB.cells))
  go_ret
  refine ⟨_, rfl, ?_, hbw⟩
  simpa [st8, ml, List.append_assoc] using ho
theorem fixedPart_any (h : Hd) (ok : h.Ok) (w : World) :
    Calls Try.prog 19 #[.agg h.cs] w fun e w' => ∃ v, e = .returned v ∧ Ow w' w.heap.size v h.fx ∧ Below w.heap.size w w' := by
  have k1 := ok.k1
  have k2 := ok.k2
  have m1 := ok.m1
  have m2 := ok.m2
  have b1 := ok.b1
  have b2 := ok.b2
  have s1 := ok.s1
  have s2 := ok.s2
  have x1 := ok.x1
  have x2 := ok.x2
  have km := ok.km
  have e1 := ok.e1
  have e2 := ok.e2
  have c1 := ok.c1
  have c2 := ok.c2
  have y2 := ok.y2
  exact fixedPart_nat h h.k.toNat h.m.toNat h.b.toNat h.sz.toNat h.ix.toNat h.ep.toNat h.ct.toNat (by omega) (by omega) (by omega) (by omega) (by omega) (by omega) (by omega) (by omega) (by omega) (by omega) (by omega) (by omega) (by omega) (by omega) (by omega) w
end
end Go.Proofs.Ytfcjkaigmlfjnaa
