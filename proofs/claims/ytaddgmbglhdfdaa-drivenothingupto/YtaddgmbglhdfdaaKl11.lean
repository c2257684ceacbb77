/-
  Layer 11's laws: 'made'.
-/
import Derived.Test.YtaddgmbglhdfdaaKk11
namespace Go.Proofs.Ytaddgmbglhdfdaa
open Go.RowKit Go.Maps Go.Sort
def stC (how room : Int) (v : Value) : Array Value := #[.int .i64 how, .int .i64 room, v]
theorem st_c {w : World} {g : Nat} {t : TypeId} {how room : Int} {v : Value} (h : GB w g t (stC how room v)) : w.cell? ⟨g, 0, none⟩ = some (.int .i64 how) ∧ w.cell? ⟨g, 1, none⟩ = some (.int .i64 room) ∧ w.cell? ⟨g, 2, none⟩ = some v := ⟨h.cell 0, h.cell 1, h.cell 2⟩
/-- How a drive begins. -/
def Ds.start (how room : Int) (L : List (Tx × Tx)) : Option Ds :=
  if how = 0 then (if 0 ≤ room ∧ room ≤ 1073741824 then some (Ds.new room.toNat) else none) else if how = 1 then Ds.load room L else some (Ds.new 0)
/-- What 'made' answers. -/
def MadeR (w w' : World) (o : Option Ds) (pt : Option Addr) : Prop := (o = none ∧ pt = none) ∨ ∃ σ db F, o = some σ ∧ pt = some ⟨db, 0, none⟩ ∧ DrAt w' db σ F ∧ ∀ b, F b → w.heap.size ≤ b
theorem dr0 (w : World) : (zeroValue 89).run Try.prog w = .ok (.agg (drC 0)) w := by kernel_rfl
theorem gb_dr {w : World} {g r : Nat} (h : GB w g 89 (drC r)) : DrAt w g (Ds.new r) (· = g) := by
  refine ⟨rfl, fun b hb => by have : b = g := hb; rw [this]; exact h.lt, [], fun _ => undef, none, none, .slice none 0 0, ?_, ?_⟩
  · unfold GB drC at h
    exact h
  · exact ⟨.inl ⟨rfl, rfl, rfl, rfl, rfl⟩, rfl, List.nodup_nil, fun i hi => absurd hi (Nat.not_lt_zero _), fun i j g hi => absurd hi (Nat.not_lt_zero _), ⟨[], ⟨rfl, .inl ⟨rfl, rfl⟩⟩, rfl, fun j hj => absurd hj (Nat.not_lt_zero _)⟩, fun g hg => by cases hg⟩
section
attribute [local irreducible] Calls GB drC stC
set_option maxHeartbeats 4000000 in
set_option maxRecDepth 1000000 in
theorem made_new {w : World} (room : Int) (v : Value) (L : List (Tx × Tx)) : Calls Try.prog 9 #[.agg (stC 0 room v)] w fun e w' => ∃ pt, e = .returned (.tuple #[.pointer pt, .bool true]) ∧ MadeR w w' (Ds.start 0 room L) pt ∧ Below w.heap.size w w' := by
  by_cases hr : 0 ≤ room ∧ room ≤ 1073741824
  · obtain ⟨r, rfl⟩ : ∃ r : Nat, room = (r : Int) := ⟨room.toNat, by omega⟩
    have hr' : r ≤ 1073741824 := by omega
    have HS := (show Hid (Ds.start 0 (r : Int) L = some (Ds.new r)) from by show _ = _; unfold Ds.start; rw [if_pos rfl, if_pos hr, Int.toNat_natCast])
    clear hr
    go_enter Try.func9, Try.ntmps9
    go_wp2_with (first
      | (refine wpList_bxB (cs := stC 0 (r : Int) v) rfl _ rfl rfl ?_; intro w1 hG1 hb1 hs1; obtain ⟨c0, c1, c2⟩ := st_c hG1)
      | (go_at_call 36; refine (new_ok r hr' _).mono ?_; rintro e w2 ⟨rfl, hG2, hb2, hs2⟩))
    refine bodyPost_ret (results_tmp2 rfl _ _ _) rfl ?_
    exact ⟨_, rfl, .inr ⟨_, _, _, HS.out, rfl, gb_dr hG2, fun b hb => by have : b = w1.heap.size := hb; have := hb1.size; omega⟩, bt hb1 hb2⟩
  · have HS := (show Hid (Ds.start 0 room L = none) from by show _ = _; unfold Ds.start; rw [if_pos rfl, if_neg hr])
    have NB := (show Hid _ from fun W => new_bad room hr W)
    clear hr
    go_enter Try.func9, Try.ntmps9
    go_wp2_with (first
      | (refine wpList_bxB (cs := stC 0 room v) rfl _ rfl rfl ?_; intro w1 hG1 hb1 hs1; obtain ⟨c0, c1, c2⟩ := st_c hG1)
      | (go_at_call 36; refine (NB.out _).mono ?_; rintro e w2 ⟨rfl, h9⟩; obtain rfl := h9.symm))
    refine bodyPost_ret (results_tmp2 rfl _ _ _) rfl ?_
    exact ⟨_, rfl, .inl ⟨HS.out, rfl⟩, hb1⟩
set_option maxHeartbeats 4000000 in
set_option maxRecDepth 1000000 in
theorem made_zero {w : World} (how room : Int) (v : Value) (L : List (Tx × Tx)) (h0 : how ≠ 0) (h1 : how ≠ 1) : Calls Try.prog 9 #[.agg (stC how room v)] w fun e w' => ∃ pt, e = .returned (.tuple #[.pointer pt, .bool true]) ∧ MadeR w w' (Ds.start how room L) pt ∧ Below w.heap.size w w' := by
  have HS := (show Hid (Ds.start how room L = some (Ds.new 0)) from by show _ = _; unfold Ds.start; rw [if_neg h0, if_neg h1])
  have d0 : (how == 0) = false := by simp [h0]
  have d1 : (how != 1) = true := by simp [h1]
  go_enter Try.func9, Try.ntmps9
  go_wp2_with (first
    | (refine wpList_bxB (cs := stC how room v) rfl _ rfl rfl ?_; intro w1 hG1 hb1 hs1; obtain ⟨c0, c1, c2⟩ := st_c hG1)
    | (refine wpList_alB (cs := drC 0) rfl rfl dr0 ?_; intro w2 hG2 hb2 hs2))
  refine bodyPost_ret (results_tmp2 rfl _ _ _) rfl ?_
  exact ⟨_, rfl, .inr ⟨_, _, _, HS.out, rfl, gb_dr (r := 0) hG2, fun b hb => by have : b = w1.heap.size := hb; have := hb1.size; omega⟩, bt hb1 hb2⟩
set_option maxHeartbeats 8000000 in
set_option maxRecDepth 1000000 in
theorem made_load {w : World} (room : Int) (p : Option Addr) (n c : Nat) (nm dt : Nat → Tx) (hF : FlIn w p nm dt n) (hz : fsz (fls nm dt n) ≤ 134217728) (hx : ∀ i, i < n → (nm i).length ≤ 134217728) (hn : n ≤ 134217728) : Calls Try.prog 9 #[.agg (stC 1 room (.slice p n c))] w fun e w' => ∃ pt, e = .returned (.tuple #[.pointer pt, .bool true]) ∧ MadeR w w' (Ds.start 1 room (fls nm dt n)) pt ∧ Below w.heap.size w w' := by
  have HF := (show Hid (FlIn w p nm dt n) from hF)
  have HZ := (show Hid (∀ i, i < n → (dt i).length ≤ 134217728) from fun i hi => by
    have h1 := fsz_take (fls nm dt n) i (by rw [fls_len]; exact hi)
    have h2 := fsz_le (fls nm dt n) (i + 1)
    rw [fls_at nm dt n i hi] at h1
    dsimp only at h1
    omega)
  have HX := (show Hid (∀ i, i < n → (nm i).length ≤ 134217728) from hx)
  have HS := (show Hid (Ds.start 1 room (fls nm dt n) = Ds.load room (fls nm dt n)) from rfl)
  have HZZ := (show Hid (fsz (fls nm dt n) ≤ 134217728) from hz)
  clear hF hz hx
  go_enter Try.func9, Try.ntmps9
  go_wp2_with (refine wpList_bxB (cs := stC 1 room (.slice p n c)) rfl _ rfl rfl ?_; intro w1 hG1 hb1 hs1; obtain ⟨c0, c1, c2⟩ := st_c hG1)
  have G1 := (show Hid (GB w1 w.heap.size 24 (stC 1 room (.slice p n c))) from hG1)
  have B1 := (show Hid (Below w.heap.size w w1) from hb1)
  clear c0 c1 c2 hG1 hb1 hs1
  obtain ⟨i0, hi0, hz0, hz1, hz2⟩ := info_parts infoF
  go_loopw [5, 6] (fun v i wr => ∃ k : Nat, k ≤ n ∧ i = .int .i64 (k : Int) ∧ Hid (∃ vs, FL wr w1.heap.size v nm dt vs k) ∧ Hid (Below w1.heap.size w1 wr)) (fun _ i _ => n - (intOf i).toNat)
  case atStart => exact ⟨0, Nat.zero_le _, rfl, ⟨fun _ => undef, FL.nil _ _ _ _ _⟩, Below.refl _ _⟩
  case round =>
    obtain ⟨k, hk, rfl, hV, hB⟩ := hrel
    obtain ⟨s0, s1, s2⟩ := st_c (G1.out.below hB.out)
    by_cases hlt : k < n
    · have hi : (k : Int) < (n : Int) := by omega
      obtain ⟨b, o, pd, cd, hp, f0, f1, hR⟩ := (HF.out.below (bt B1.out hB.out)) k hlt
      have HR := (show Hid (Rx wr pd (dt k)) from hR)
      clear hR
      have SB := (show Hid (w1.cell? ⟨w.heap.size, 2, none⟩ = some (.slice (some ⟨b, o, none⟩) n c) ∧ w1.cell? ⟨b, o + k * 2, none⟩ = some (encStr (nm k)) ∧ w1.cell? ⟨b, o + k * 2 + 1, none⟩ = some (.slice pd (dt k).length cd)) from by
        obtain ⟨b', o', pd', cd', hp', e0, e1, _⟩ := (HF.out.below B1.out) k hlt
        rw [hp] at hp'
        injection hp' with hp'
        injection hp' with h1 h2
        subst h1 h2
        have e1' := cell_below e1 hB.out
        rw [f1] at e1'
        injection e1' with e1'
        refine ⟨by have := (st_c G1.out).2.2; rw [hp] at this; exact this, e0, by rw [e1']; exact e1⟩)
      obtain ⟨vs, hFL⟩ := hV.out
      have HFL := (show Hid (FL wr w1.heap.size u5 nm dt vs k) from hFL)
      clear hFL
      rw [hp] at s2
      clear hp
      have HK := (show Hid (k < n) from hlt)
      have HDl := (show Hid ((dt k).length ≤ 134217728) from HZ.out k hlt)
      go_upto_region 10 with fail
      obtain ⟨wd, hwd⟩ : ∃ wq, wq = wr.drew := ⟨_, rfl⟩
      have bd : Below wr.heap.size wr wd := by rw [hwd]; exact (Below.refl _ _).drew
      have HBc := (show Hid (Below wr.heap.size wr wd) from bd)
      refine wp_region_held_drew (S := fun X => X.cell? ⟨w.heap.size, 2, none⟩ = some (.slice (some ⟨b, o, none⟩) n c) ∧ X.cell? ⟨b, o + k * 2, none⟩ = some (encStr (nm k)) ∧ X.cell? ⟨b, o + k * 2 + 1, none⟩ = some (.slice pd (dt k).length cd)) (by kernel_rfl) (by rw [← hwd]; exact ⟨cell_below s2 bd, cell_below f0 bd, cell_below f1 bd⟩) (fun hHeld => ?_)
      rw [← hwd] at hHeld ⊢
      clear hwd bd s0 s1 s2 f0 f1
      refine takeHr (i := 0) (d := some 30) (v := ?v1) rfl rfl (by kernel_rfl) (by kernel_rfl) (by kernel_rfl) (fun _ _ _ h => h) (Or.inl ⟨by rfl, ?hy1⟩) hHeld ?rest1
      case hy1 => intro X hSw; obtain ⟨g1, g2, g3⟩ := hSw; go_simp <;> with_reducible rfl
      try simp only [Act.put, List.setIfInBounds_toArray, List.set_cons_zero, List.set_cons_succ]
      refine takeHr (i := 1) (d := some 31) (v := ?v2) rfl rfl (by kernel_rfl) (by kernel_rfl) (by kernel_rfl) (fun _ _ _ h => h) (Or.inl ⟨by rfl, ?hy2⟩) hHeld ?rest2
      case hy2 => intro X hSw; obtain ⟨g1, g2, g3⟩ := hSw; go_simp <;> with_reducible rfl
      try simp only [Act.put, List.setIfInBounds_toArray, List.set_cons_zero, List.set_cons_succ]
      refine takeHr (i := 2) (d := some 32) (v := ?v3) rfl rfl (by kernel_rfl) (by kernel_rfl) (by kernel_rfl) (fun _ _ _ h => h) (Or.inl ⟨by rfl, ?hy3⟩) hHeld ?rest3
      case hy3 => intro X hSw; obtain ⟨g1, g2, g3⟩ := hSw; go_simp <;> with_reducible rfl
      try simp only [Act.put, List.setIfInBounds_toArray, List.set_cons_zero, List.set_cons_succ]
      refine takeHr (i := 3) (d := some 33) (v := ?v4) rfl rfl (by kernel_rfl) (by kernel_rfl) (by kernel_rfl) (fun _ _ _ h => h) (Or.inl ⟨by rfl, ?hy4⟩) hHeld ?rest4
      case hy4 => intro X hSw; obtain ⟨g1, g2, g3⟩ := hSw; go_simp <;> with_reducible rfl
      try simp only [Act.put, List.setIfInBounds_toArray, List.set_cons_zero, List.set_cons_succ]
      refine takeHr (i := 4) (d := some 34) (v := ?v5) rfl rfl (by kernel_rfl) (by kernel_rfl) (by kernel_rfl) (fun _ _ _ h => h) (Or.inl ⟨by rfl, ?hy5⟩) hHeld ?rest5
      case hy5 => intro X hSw; obtain ⟨g1, g2, g3⟩ := hSw; go_simp <;> with_reducible rfl
      try simp only [Act.put, List.setIfInBounds_toArray, List.set_cons_zero, List.set_cons_succ]
      refine takeHr (i := 5) (d := some 35) (v := ?v6) rfl rfl (by kernel_rfl) (by kernel_rfl) (by kernel_rfl) (fun _ _ _ h => h) (Or.inl ⟨by rfl, ?hy6⟩) hHeld ?rest6
      case hy6 => intro X hSw; obtain ⟨g1, g2, g3⟩ := hSw; go_simp <;> with_reducible rfl
      try simp only [Act.put, List.setIfInBounds_toArray, List.set_cons_zero, List.set_cons_succ]
      refine takeHr (i := 6) (d := some 36) (v := ?v7) rfl rfl (by kernel_rfl) (by kernel_rfl) (by kernel_rfl) (fun _ _ _ h => h) (Or.inl ⟨by rfl, ?hy7⟩) hHeld ?rest7
      case hy7 => intro X hSw; obtain ⟨g1, g2, g3⟩ := hSw; go_simp <;> with_reducible rfl
      try simp only [Act.put, List.setIfInBounds_toArray, List.set_cons_zero, List.set_cons_succ]
      refine takeHr (i := 7) (d := some 37) (v := ?v8) rfl rfl (by kernel_rfl) (by kernel_rfl) (by kernel_rfl) (fun _ _ _ h => h) (Or.inl ⟨by rfl, ?hy8⟩) hHeld ?rest8
      case hy8 => intro X hSw; obtain ⟨g1, g2, g3⟩ := hSw; go_simp <;> with_reducible rfl
      try simp only [Act.put, List.setIfInBounds_toArray, List.set_cons_zero, List.set_cons_succ]
      refine takeHr (i := 8) (d := some 38) (v := ?v9) rfl rfl (by kernel_rfl) (by kernel_rfl) (by kernel_rfl) (fun _ _ _ h => h) (Or.inl ⟨by rfl, ?hy9⟩) hHeld ?rest9
      case hy9 => intro X hSw; obtain ⟨g1, g2, g3⟩ := hSw; go_simp <;> with_reducible rfl
      try simp only [Act.put, List.setIfInBounds_toArray, List.set_cons_zero, List.set_cons_succ]
      refine takeHr (i := 9) (d := some 39) (v := ?v10) rfl rfl (by kernel_rfl) (by kernel_rfl) (by kernel_rfl) (fun _ _ _ h => h) (Or.inl ⟨by rfl, ?hy10⟩) hHeld ?rest10
      case hy10 => intro X hSw; obtain ⟨g1, g2, g3⟩ := hSw; go_simp <;> with_reducible rfl
      try simp only [Act.put, List.setIfInBounds_toArray, List.set_cons_zero, List.set_cons_succ]
      refine takeHr (i := 10) (d := some 40) (v := ?v11) rfl rfl (by kernel_rfl) (by kernel_rfl) (by kernel_rfl) (fun _ _ _ h => h) (Or.inl ⟨by rfl, ?hy11⟩) hHeld ?rest11
      case hy11 => intro X hSw; obtain ⟨g1, g2, g3⟩ := hSw; go_simp <;> with_reducible rfl
      try simp only [Act.put, List.setIfInBounds_toArray, List.set_cons_zero, List.set_cons_succ]
      refine takeHr (i := 11) (d := some 41) (v := ?v12) rfl rfl (by kernel_rfl) (by kernel_rfl) (by kernel_rfl) (fun _ _ _ h => h) (Or.inl ⟨by rfl, ?hy12⟩) hHeld ?rest12
      case hy12 => intro X hSw; obtain ⟨g1, g2, g3⟩ := hSw; go_simp <;> with_reducible rfl
      try simp only [Act.put, List.setIfInBounds_toArray, List.set_cons_zero, List.set_cons_succ]
      refine takeHr (i := 12) (d := some 42) (v := ?v13) rfl rfl (by kernel_rfl) (by kernel_rfl) (by kernel_rfl) (fun _ _ _ h => h) (Or.inl ⟨by rfl, ?hy13⟩) hHeld ?rest13
      case hy13 => intro X hSw; obtain ⟨g1, g2, g3⟩ := hSw; go_simp <;> with_reducible rfl
      try simp only [Act.put, List.setIfInBounds_toArray, List.set_cons_zero, List.set_cons_succ]
      refine wpAnyH_ready (rs := [13]) (by kernel_rfl) (by simp) ?_
      refine AllReadyH.cons (o := { dst := some 43, op := Op.call { callee := Callee.value (Operand.func 39), args := #[Operand.tmp 42], argTypes := #[26] }, type := 26, pos := "law.go:168", after := #[{ on := 12, ground := Ground.data }], guard := none }) rfl (fun Kq hKq => ?_) AllReadyH.nil
      · go_simp
        refine (lent_any (HR.out.below HBc.out) (dt k).length cd rfl HDl.out).mono ?_
        rintro e w14x ⟨uu, rfl, hLu, hb14⟩
        obtain ⟨gu, capu, hvu, _, _⟩ := lnt_form hLu
        rw [List.length_map] at hvu
        subst hvu
        have HLo := (show Hid (wr.heap.size ≤ wd.heap.size) from HBc.out.size)
        have HLu := (show Hid (Lnt w14x wd.heap.size 5 (.slice (some ⟨gu, 0, none⟩) (dt k).length capu) ((dt k).map u8v) (mks 66)) from hLu)
        replace HBc := (show Hid _ from bt HBc.out hb14)
        clear hLu
        refine hKq.out _ _ ⟨cell_below hHeld.1 hb14, cell_below hHeld.2.1 hb14, cell_below hHeld.2.2 hb14⟩ (fun hHeld => ?_)
        clear hKq Kq
        try simp only [Act.put, List.setIfInBounds_toArray, List.set_cons_zero, List.set_cons_succ]
        refine takeHr (i := 14) (d := some 44) (v := ?v15) rfl rfl (by kernel_rfl) (by kernel_rfl) (by kernel_rfl) (fun _ _ _ h => h) (Or.inl ⟨by rfl, ?hy15⟩) hHeld ?rest15
        case hy15 => intro X hSw; obtain ⟨g1, g2, g3⟩ := hSw; go_simp <;> with_reducible rfl
        try simp only [Act.put, List.setIfInBounds_toArray, List.set_cons_zero, List.set_cons_succ]
        refine wpAnyH_ready (rs := [15]) (by kernel_rfl) (by simp) ?_
        refine AllReadyH.cons (o := { dst := some 45, op := Op.buildSlice 22 1 #[(0, Operand.tmp 44)], type := 22, pos := "law.go:168", after := #[{ on := 14, ground := Ground.data }], guard := none }) rfl (fun Kq hKq => ?_) AllReadyH.nil
        · go_simp
          obtain ⟨w16x, hw16⟩ : ∃ W, W = w14x.alloc (.cells #[encStr (nm k), (.slice (some ⟨gu, 0, none⟩) (dt k).length capu)] 63) := ⟨_, rfl⟩
          have hb16 : Below w14x.heap.size w14x w16x := by rw [hw16]; exact alb _ _
          have HNw := (show Hid (∀ j x, ([encStr (nm k), (.slice (some ⟨gu, 0, none⟩) (dt k).length capu)] : List Value)[j]? = some x → w16x.cell? ((⟨w14x.heap.size, 0, none⟩ : Addr).add j) = some x) from by rw [hw16]; exact two_new w14x _ _ _)
          replace HLu := (show Hid _ from HLu.out.below hb16)
          replace HBc := (show Hid _ from bt HBc.out hb16)
          rw [← hw16]
          refine hKq.out _ _ ⟨cell_below hHeld.1 hb16, cell_below hHeld.2.1 hb16, cell_below hHeld.2.2 hb16⟩ (fun hHeld => ?_)
          clear hKq Kq
          try simp only [Act.put, List.setIfInBounds_toArray, List.set_cons_zero, List.set_cons_succ]
          refine wpAnyH_ready (rs := [16]) (by kernel_rfl) (by simp) ?_
          refine AllReadyH.cons (o := { dst := some 46, op := Op.call { callee := Callee.builtin Builtin.append, args := #[Operand.tmp 30, Operand.tmp 45], argTypes := #[22, 22] }, type := 22, pos := "law.go:168", after := #[{ on := 0, ground := Ground.data }, { on := 15, ground := Ground.data }, { on := 13, ground := Ground.chain }], guard := none }) rfl (fun Kq hKq => ?_) AllReadyH.nil
          · skip
            refine step_append_own rfl (.tmp 30) (.tmp 45) 22 rfl w1.heap.size 63 i0 _ 2 40 Try.underlying22 hi0 hz0 hz1 hz2 rfl (by decide) u5 k (fcs nm vs k) rfl (own_below HFL.out.own HBc.out) _ 1 1 [encStr (nm k), (.slice (some ⟨gu, 0, none⟩) (dt k).length capu)] rfl rfl HNw.out (fun x hx => by simp only [List.mem_cons, List.not_mem_nil, or_false] at hx; rcases hx with rfl | rfl; rfl; exact lnt_one HLu.out) (by unfold maxLen; omega) (by omega) (Nat.le_trans hB.out.size HBc.out.size) ?_
            intro v9 w17x hO9 hg9
            have HB9 := (show Hid (Below w1.heap.size w1 w17x) from grown_own (bt hB.out HBc.out) (own_below HFL.out.own HBc.out) hg9 (Nat.le_trans hB.out.size HBc.out.size))
            have HF9 := (show Hid (FL w17x w1.heap.size v9 nm dt (fun i => if i = k then (.slice (some ⟨gu, 0, none⟩) (dt k).length capu) else vs i) (k + 1)) from (HFL.out.below HBc.out).push _ HLu.out (Nat.le_trans hB.out.size HLo.out) (fun i g hi e => Nat.lt_of_lt_of_le (HFL.out.lt i g hi e) HLo.out) hO9 hg9)
            clear hO9 hg9
            refine hKq.out _ _ ⟨cell_below SB.out.1 HB9.out, cell_below SB.out.2.1 HB9.out, cell_below SB.out.2.2 HB9.out⟩ (fun hHeld => ?_)
            clear hKq Kq
            try simp only [Act.put, List.setIfInBounds_toArray, List.set_cons_zero, List.set_cons_succ]
            refine takeHr (i := 17) (d := some 5) (v := ?v18) rfl rfl (by kernel_rfl) (by kernel_rfl) (by kernel_rfl) (fun _ _ _ h => h) (Or.inl ⟨by rfl, ?hy18⟩) hHeld ?rest18
            case hy18 => intro X hSw; obtain ⟨g1, g2, g3⟩ := hSw; go_simp <;> with_reducible rfl
            try simp only [Act.put, List.setIfInBounds_toArray, List.set_cons_zero, List.set_cons_succ]
            refine wpAnyH_done (by kernel_rfl) ?_ _
            clear hHeld
            go_wp2_with (fail)
            go_roundw
            case rel => repeat (first | exact ⟨k + 1, HK.out, by go_num, ⟨_, HF9.out⟩, HB9⟩ | (refine ⟨?_, rfl⟩; exact ⟨k + 1, HK.out, by go_num, ⟨_, HF9.out⟩, HB9⟩) | apply Exists.intro)
            case measure => simp [intOf]; have := HK.out; omega
    · obtain rfl : n = k := by omega
      obtain ⟨vs, hFL⟩ := hV.out
      have HFL := (show Hid (FL wr w1.heap.size u5 nm dt vs n) from hFL)
      have al : ∀ (W : World) (o : Obj), Below W.heap.size W (W.alloc o) := fun W o => alb W o
      clear hFL hlt
      go_upto_region 12 with (at_builtin; refine wpList_append_own_at _ rfl (.tmp 47) (.tmp 49) 22 rfl w1.heap.size 63 i0 _ 2 40 Try.underlying22 hi0 hz0 hz1 hz2 rfl (by decide) u5 n (fcs nm vs n) rfl (own_below HFL.out.own (al _ _)) ⟨wr.heap.size, 0, none⟩ 1 1 [.string ⟨#[109, 97, 114, 107]⟩, .slice none 0 0] rfl rfl (two_new wr _ _ _) (by intro x hx; simp only [List.mem_cons, List.not_mem_nil, or_false] at hx; rcases hx with rfl | rfl <;> rfl) (by unfold maxLen; omega) (by omega) (Nat.le_trans hB.out.size (al _ _).size) ?_; intro v9 w9 hO9 hg9 _ _)
      have B9 := (show Hid (Below w1.heap.size w1 w9) from grown_own (hB.out.alloc hB.out.size _) (own_below HFL.out.own (al _ _)) hg9 (Nat.le_trans hB.out.size (al _ _).size))
      have L9 := (show Hid (∀ i, i < n → Lnt w9 w1.heap.size 5 (vs i) ((dt i).map u8v) (mks 66)) from fun i hi => lnt_grown ((HFL.out.lnt i hi).below (al _ _)) (own_below HFL.out.own (al _ _)) (by decide) hg9)
      have O9 := (show Hid (w9.ownsRow w1.heap.size 63 2 v9 (n + 1) (fcs nm vs n ++ [.string ⟨#[109, 97, 114, 107]⟩, .slice none 0 0])) from hO9)
      have SEP := (show Hid (∀ i j g, i < n → j < n → i ≠ j → (vs i).ownBlock = some g → (vs j).ownBlock ≠ some g) from HFL.out.sep)
      clear hO9 hg9 s0 s1 s2 HFL
      obtain ⟨q9, cap9, rfl, hcap9⟩ := own_form O9.out
      obtain ⟨gf, rfl⟩ : ∃ g, q9 = some ⟨g, 0, none⟩ := own_some O9.out (by omega)
      obtain ⟨_, s1, s2⟩ := st_c (G1.out.below B9.out)
      have hc9 : n ≤ cap9 := by omega
      have LDC := (show Hid (∀ X, Below w9.heap.size w9 X → Calls Try.prog 29 #[.int .i64 room, .slice (some ⟨gf, 0, none⟩) n cap9] X fun e w' => ∃ pt, e = .returned (.pointer pt) ∧ Hid ((Ds.load room (fls nm dt n) = none ∧ pt = none) ∨ ∃ σ db, Ds.load room (fls nm dt n) = some σ ∧ pt = some ⟨db, 0, none⟩ ∧ DrAt w' db σ (fun b => X.heap.size ≤ b ∧ b < w'.heap.size)) ∧ Below X.heap.size X w') from fun X hX => (load_any room (some ⟨gf, 0, none⟩) n cap9 (fls nm dt n) (FL.flat (own_below O9.out hX) (fun i hi => (L9.out i hi).below hX) rfl) (fls_len nm dt n) (Nat.le_trans HZZ.out (by decide)) (fun f hf => by
        unfold fls at hf
        obtain ⟨i, hi, rfl⟩ := List.mem_map.1 hf
        exact HX.out i (List.mem_range.1 hi)) hn).mono (by
          rintro e w' ⟨h1, h2⟩
          rcases h1 with ⟨h3, rfl⟩ | ⟨σ, db, h3, rfl, h4⟩
          · exact ⟨none, rfl, .inl ⟨h3, rfl⟩, h2⟩
          · exact ⟨_, rfl, .inr ⟨σ, db, h3, rfl, h4⟩, h2⟩))
      obtain ⟨wd, hwd⟩ : ∃ wq, wq = w9.drew := ⟨_, rfl⟩
      have bd : Below w9.heap.size w9 wd := by rw [hwd]; exact (Below.refl _ _).drew
      have HBc := (show Hid (Below w9.heap.size w9 wd) from bd)
      refine wp_region_held_drew (S := fun X => X.cell? ⟨w.heap.size, 1, none⟩ = some (.int .i64 room) ∧ X.cell? ⟨w.heap.size, 2, none⟩ = some (.slice p n c)) (by kernel_rfl) (by rw [← hwd]; exact ⟨cell_below s1 bd, cell_below s2 bd⟩) (fun hHeld => ?_)
      rw [← hwd] at hHeld ⊢
      clear hwd bd s1 s2
      refine takeHr (i := 0) (d := some 51) (v := ?v19) rfl rfl (by kernel_rfl) (by kernel_rfl) (by kernel_rfl) (fun _ _ _ h => h) (Or.inl ⟨by rfl, ?hy19⟩) hHeld ?rest19
      case hy19 => intro X hSw; obtain ⟨g1, g2⟩ := hSw; go_simp <;> with_reducible rfl
      try simp only [Act.put, List.setIfInBounds_toArray, List.set_cons_zero, List.set_cons_succ]
      refine takeHr (i := 1) (d := some 52) (v := ?v20) rfl rfl (by kernel_rfl) (by kernel_rfl) (by kernel_rfl) (fun _ _ _ h => h) (Or.inl ⟨by rfl, ?hy20⟩) hHeld ?rest20
      case hy20 => intro X hSw; obtain ⟨g1, g2⟩ := hSw; go_simp <;> with_reducible rfl
      try simp only [Act.put, List.setIfInBounds_toArray, List.set_cons_zero, List.set_cons_succ]
      refine takeHr (i := 2) (d := some 53) (v := ?v21) rfl rfl (by kernel_rfl) (by kernel_rfl) (by kernel_rfl) (fun _ _ _ h => h) (Or.inl ⟨by rfl, ?hy21⟩) hHeld ?rest21
      case hy21 => intro X hSw; obtain ⟨g1, g2⟩ := hSw; go_simp <;> with_reducible rfl
      try simp only [Act.put, List.setIfInBounds_toArray, List.set_cons_zero, List.set_cons_succ]
      refine takeHr (i := 3) (d := some 54) (v := ?v22) rfl rfl (by kernel_rfl) (by kernel_rfl) (by kernel_rfl) (fun _ _ _ h => h) (Or.inl ⟨by rfl, ?hy22⟩) hHeld ?rest22
      case hy22 => intro X hSw; obtain ⟨g1, g2⟩ := hSw; go_simp <;> with_reducible rfl
      try simp only [Act.put, List.setIfInBounds_toArray, List.set_cons_zero, List.set_cons_succ]
      refine takeHr (i := 4) (d := some 55) (v := ?v23) rfl rfl (by kernel_rfl) (by kernel_rfl) (by kernel_rfl) (fun _ _ _ h => h) (Or.inl ⟨by rfl, ?hy23⟩) hHeld ?rest23
      case hy23 => intro X hSw; obtain ⟨g1, g2⟩ := hSw; go_simp <;> with_reducible rfl
      try simp only [Act.put, List.setIfInBounds_toArray, List.set_cons_zero, List.set_cons_succ]
      refine takeHr (i := 5) (d := some 56) (v := ?v24) rfl rfl (by kernel_rfl) (by kernel_rfl) (by kernel_rfl) (fun _ _ _ h => h) (Or.inl ⟨by rfl, ?hy24⟩) hHeld ?rest24
      case hy24 => intro X hSw; obtain ⟨g1, g2⟩ := hSw; go_simp <;> with_reducible rfl
      try simp only [Act.put, List.setIfInBounds_toArray, List.set_cons_zero, List.set_cons_succ]
      refine takeHr (i := 6) (d := some 57) (v := .slice (some ⟨gf, 0, none⟩) n cap9) rfl rfl (by kernel_rfl) (by kernel_rfl) (by kernel_rfl) (fun _ _ _ h => h) (Or.inl ⟨by rfl, ?hy25⟩) hHeld ?rest25
      case hy25 => intro X hSw; obtain ⟨g1, g2⟩ := hSw; go_simp <;> with_reducible rfl
      try simp only [Act.put, List.setIfInBounds_toArray, List.set_cons_zero, List.set_cons_succ]
      refine wpAnyH_ready (rs := [7]) (by kernel_rfl) (by simp) ?_
      refine AllReadyH.cons (o := { dst := some 58, op := Op.call { callee := Callee.value (Operand.func 29), args := #[Operand.tmp 52, Operand.tmp 57], argTypes := #[3, 22] }, type := 34, pos := "law.go:171", after := #[{ on := 1, ground := Ground.data }, { on := 6, ground := Ground.data }], guard := none }) rfl (fun Kq hKq => ?_) AllReadyH.nil
      · go_simp
        refine (LDC.out _ HBc.out).mono ?_
        rintro e W2 ⟨pt, rfl, HPT, hb26⟩
        have HWL := (show Hid (Below w9.heap.size w9 wd ∧ Below wd.heap.size wd W2) from ⟨HBc.out, hb26⟩)
        refine hKq.out _ _ ⟨cell_below hHeld.1 hb26, cell_below hHeld.2 hb26⟩ (fun hHeld => ?_)
        clear hKq Kq
        try simp only [Act.put, List.setIfInBounds_toArray, List.set_cons_zero, List.set_cons_succ]
        refine takeHr (i := 8) (d := some 7) (v := ?v27) rfl rfl (by kernel_rfl) (by kernel_rfl) (by kernel_rfl) (fun _ _ _ h => h) (Or.inl ⟨by rfl, ?hy27⟩) hHeld ?rest27
        case hy27 => intro X hSw; obtain ⟨g1, g2⟩ := hSw; go_simp <;> with_reducible rfl
        try simp only [Act.put, List.setIfInBounds_toArray, List.set_cons_zero, List.set_cons_succ]
        refine wpAnyH_done (by kernel_rfl) ?_ _
        clear hHeld
        have B2 := (show Hid (Below w1.heap.size w1 W2) from bt (bt B9.out HWL.out.1) HWL.out.2)
        have O2 := (show Hid (W2.ownsRow w1.heap.size 63 2 (.slice (some ⟨gf, 0, none⟩) (n + 1) cap9) (n + 1) (fcs nm vs n ++ [.string ⟨#[109, 97, 114, 107]⟩, .slice none 0 0])) from own_below (own_below O9.out HWL.out.1) HWL.out.2)
        have L2 := (show Hid (∀ i, i < n → Lnt W2 w1.heap.size 5 (vs i) ((dt i).map u8v) (mks 66)) from fun i hi => ((L9.out i hi).below HWL.out.1).below HWL.out.2)
        obtain ⟨_, s1, s2⟩ := st_c (G1.out.below B2.out)
        have mk0 := (own_at O2.out (j := n * 2) (u := .string ⟨#[109, 97, 114, 107]⟩) (by rw [List.getElem?_append_right (by rw [fcs_len]; omega), fcs_len, show n * 2 - n * 2 = 0 by omega]; rfl)).1
        have ilt : (n : Int) < (n : Int) + 1 := by omega
        have jlt : n < n + 1 := by omega
        go_upto_region 15 with fail
        clear s1 s2 mk0 ilt jlt
        go_loopw [9] (fun i wr => ∃ k : Nat, k ≤ n ∧ i = .int .i64 (k : Int) ∧ Hid (Below W2.heap.size W2 wr)) (fun i _ => n - (intOf i).toNat)
        case atStart => exact ⟨0, Nat.zero_le _, rfl, Below.refl _ _⟩
        case round =>
          obtain ⟨k, hk, rfl, hB2⟩ := hrel
          obtain ⟨s0, s1, s2⟩ := st_c (G1.out.below (bt B2.out hB2.out))
          by_cases hlt : k < n
          · have hi : (k : Int) < (n : Int) := by omega
            obtain ⟨b, o, pd, cd, hp, f0, f1, hR⟩ := (HF.out.below (bt B1.out (bt B2.out hB2.out))) k hlt
            have HR := (show Hid (Rx wr pd (dt k)) from hR)
            clear hR
            rw [hp] at s2
            clear hp
            have HK := (show Hid (k < n) from hlt)
            have HDl := (show Hid ((dt k).length ≤ 134217728) from HZ.out k hlt)
            have LK := (show Hid (Lnt wr w1.heap.size 5 (vs k) ((dt k).map u8v) (mks 66)) from (L2.out k hlt).below hB2.out)
            have aa := fcs_at nm vs n k hlt
            have hfl := fcs_len nm vs n
            have a0 := cell_below (own_at O2.out (j := k * 2) (by rw [List.getElem?_append_left (by omega)]; exact aa.1)).1 hB2.out
            have a1 := cell_below (own_at O2.out (j := k * 2 + 1) (by rw [List.getElem?_append_left (by omega)]; exact aa.2)).1 hB2.out
            have bq : (nm k == nm k) = true := by simp
            have i1 : (k : Int) < (n : Int) + 1 := by omega
            have i2 : k < n + 1 := by omega
            clear aa hfl hlt
            go_upto_region 17 with fail
            obtain ⟨wd, hwd⟩ : ∃ wq, wq = wr.drew := ⟨_, rfl⟩
            have bd : Below wr.heap.size wr wd := by rw [hwd]; exact (Below.refl _ _).drew
            have HBe := (show Hid (Below wr.heap.size wr wd) from bd)
            refine wp_region_held_drew (S := fun X => X.cell? ⟨w.heap.size, 2, none⟩ = some (.slice (some ⟨b, o, none⟩) n c) ∧ X.cell? ⟨b, o + k * 2, none⟩ = some (encStr (nm k)) ∧ X.cell? ⟨b, o + k * 2 + 1, none⟩ = some (.slice pd (dt k).length cd) ∧ X.cell? ⟨gf, k * 2, none⟩ = some (encStr (nm k)) ∧ X.cell? ⟨gf, k * 2 + 1, none⟩ = some (vs k)) (by kernel_rfl) (by rw [← hwd]; exact ⟨cell_below s2 bd, cell_below f0 bd, cell_below f1 bd, cell_below a0 bd, cell_below a1 bd⟩) (fun hHeld => ?_)
            rw [← hwd] at hHeld ⊢
            clear hwd bd s0 s1 s2 f0 f1 a0 a1
            refine takeHr (i := 0) (d := some 74) (v := ?v28) rfl rfl (by kernel_rfl) (by kernel_rfl) (by kernel_rfl) (fun _ _ _ h => h) (Or.inl ⟨by rfl, ?hy28⟩) hHeld ?rest28
            case hy28 => intro X hSw; obtain ⟨g1, g2, g3, g4, g5⟩ := hSw; go_simp <;> with_reducible rfl
            try simp only [Act.put, List.setIfInBounds_toArray, List.set_cons_zero, List.set_cons_succ]
            refine takeHr (i := 1) (d := some 75) (v := ?v29) rfl rfl (by kernel_rfl) (by kernel_rfl) (by kernel_rfl) (fun _ _ _ h => h) (Or.inl ⟨by rfl, ?hy29⟩) hHeld ?rest29
            case hy29 => intro X hSw; obtain ⟨g1, g2, g3, g4, g5⟩ := hSw; go_simp <;> with_reducible rfl
            try simp only [Act.put, List.setIfInBounds_toArray, List.set_cons_zero, List.set_cons_succ]
            refine takeHr (i := 2) (d := some 76) (v := ?v30) rfl rfl (by kernel_rfl) (by kernel_rfl) (by kernel_rfl) (fun _ _ _ h => h) (Or.inl ⟨by rfl, ?hy30⟩) hHeld ?rest30
            case hy30 => intro X hSw; obtain ⟨g1, g2, g3, g4, g5⟩ := hSw; go_simp <;> with_reducible rfl
            try simp only [Act.put, List.setIfInBounds_toArray, List.set_cons_zero, List.set_cons_succ]
            refine takeHr (i := 3) (d := some 77) (v := ?v31) rfl rfl (by kernel_rfl) (by kernel_rfl) (by kernel_rfl) (fun _ _ _ h => h) (Or.inl ⟨by rfl, ?hy31⟩) hHeld ?rest31
            case hy31 => intro X hSw; obtain ⟨g1, g2, g3, g4, g5⟩ := hSw; go_simp <;> with_reducible rfl
            try simp only [Act.put, List.setIfInBounds_toArray, List.set_cons_zero, List.set_cons_succ]
            refine takeHr (i := 4) (d := some 78) (v := ?v32) rfl rfl (by kernel_rfl) (by kernel_rfl) (by kernel_rfl) (fun _ _ _ h => h) (Or.inl ⟨by rfl, ?hy32⟩) hHeld ?rest32
            case hy32 => intro X hSw; obtain ⟨g1, g2, g3, g4, g5⟩ := hSw; go_simp <;> with_reducible rfl
            try simp only [Act.put, List.setIfInBounds_toArray, List.set_cons_zero, List.set_cons_succ]
            refine takeHr (i := 5) (d := some 79) (v := ?v33) rfl rfl (by kernel_rfl) (by kernel_rfl) (by kernel_rfl) (fun _ _ _ h => h) (Or.inl ⟨by rfl, ?hy33⟩) hHeld ?rest33
            case hy33 => intro X hSw; obtain ⟨g1, g2, g3, g4, g5⟩ := hSw; go_simp <;> with_reducible rfl
            try simp only [Act.put, List.setIfInBounds_toArray, List.set_cons_zero, List.set_cons_succ]
            refine takeHr (i := 6) (d := some 80) (v := ?v34) rfl rfl (by kernel_rfl) (by kernel_rfl) (by kernel_rfl) (fun _ _ _ h => h) (Or.inl ⟨by rfl, ?hy34⟩) hHeld ?rest34
            case hy34 => intro X hSw; obtain ⟨g1, g2, g3, g4, g5⟩ := hSw; go_simp <;> with_reducible rfl
            try simp only [Act.put, List.setIfInBounds_toArray, List.set_cons_zero, List.set_cons_succ]
            refine takeHr (i := 7) (d := some 81) (v := ?v35) rfl rfl (by kernel_rfl) (by kernel_rfl) (by kernel_rfl) (fun _ _ _ h => h) (Or.inl ⟨by rfl, ?hy35⟩) hHeld ?rest35
            case hy35 => intro X hSw; obtain ⟨g1, g2, g3, g4, g5⟩ := hSw; go_simp <;> with_reducible rfl
            try simp only [Act.put, List.setIfInBounds_toArray, List.set_cons_zero, List.set_cons_succ]
            refine takeHr (i := 8) (d := some 82) (v := ?v36) rfl rfl (by kernel_rfl) (by kernel_rfl) (by kernel_rfl) (fun _ _ _ h => h) (Or.inl ⟨by rfl, ?hy36⟩) hHeld ?rest36
            case hy36 => intro X hSw; obtain ⟨g1, g2, g3, g4, g5⟩ := hSw; go_simp <;> with_reducible rfl
            try simp only [Act.put, List.setIfInBounds_toArray, List.set_cons_zero, List.set_cons_succ]
            refine takeHr (i := 9) (d := some 83) (v := ?v37) rfl rfl (by kernel_rfl) (by kernel_rfl) (by kernel_rfl) (fun _ _ _ h => h) (Or.inl ⟨by rfl, ?hy37⟩) hHeld ?rest37
            case hy37 => intro X hSw; obtain ⟨g1, g2, g3, g4, g5⟩ := hSw; go_simp <;> with_reducible rfl
            try simp only [Act.put, List.setIfInBounds_toArray, List.set_cons_zero, List.set_cons_succ]
            refine takeHr (i := 10) (d := some 84) (v := ?v38) rfl rfl (by kernel_rfl) (by kernel_rfl) (by kernel_rfl) (fun _ _ _ h => h) (Or.inl ⟨by rfl, ?hy38⟩) hHeld ?rest38
            case hy38 => intro X hSw; obtain ⟨g1, g2, g3, g4, g5⟩ := hSw; go_simp <;> with_reducible rfl
            try simp only [Act.put, List.setIfInBounds_toArray, List.set_cons_zero, List.set_cons_succ]
            refine takeHr (i := 11) (d := some 85) (v := .bool true) rfl rfl (by kernel_rfl) (by kernel_rfl) (by kernel_rfl) (fun _ _ _ h => h) (Or.inl ⟨by rfl, ?hy39⟩) hHeld ?rest39
            case hy39 => intro X hSw; obtain ⟨g1, g2, g3, g4, g5⟩ := hSw; go_simp <;> with_reducible rfl
            try simp only [Act.put, List.setIfInBounds_toArray, List.set_cons_zero, List.set_cons_succ]
            refine takeHr (i := 12) (d := some 86) (v := .bool true) rfl rfl (by kernel_rfl) (by kernel_rfl) (by kernel_rfl) (fun _ _ _ h => h) (Or.inl ⟨by rfl, ?hy40⟩) hHeld ?rest40
            case hy40 => intro X hSw; obtain ⟨g1, g2, g3, g4, g5⟩ := hSw; go_simp <;> with_reducible rfl
            try simp only [Act.put, List.setIfInBounds_toArray, List.set_cons_zero, List.set_cons_succ]
            refine takeHr (i := 13) (d := some 87) (v := ?v41) rfl rfl (by kernel_rfl) (by kernel_rfl) (by kernel_rfl) (fun _ _ _ h => h) (Or.inl ⟨by rfl, ?hy41⟩) hHeld ?rest41
            case hy41 => intro X hSw; obtain ⟨g1, g2, g3, g4, g5⟩ := hSw; go_simp <;> with_reducible rfl
            try simp only [Act.put, List.setIfInBounds_toArray, List.set_cons_zero, List.set_cons_succ]
            refine takeHr (i := 14) (d := some 88) (v := ?v42) rfl rfl (by kernel_rfl) (by kernel_rfl) (by kernel_rfl) (fun _ _ _ h => h) (Or.inl ⟨by rfl, ?hy42⟩) hHeld ?rest42
            case hy42 => intro X hSw; obtain ⟨g1, g2, g3, g4, g5⟩ := hSw; go_simp <;> with_reducible rfl
            try simp only [Act.put, List.setIfInBounds_toArray, List.set_cons_zero, List.set_cons_succ]
            refine takeHr (i := 15) (d := some 89) (v := ?v43) rfl rfl (by kernel_rfl) (by kernel_rfl) (by kernel_rfl) (fun _ _ _ h => h) (Or.inl ⟨by rfl, ?hy43⟩) hHeld ?rest43
            case hy43 => intro X hSw; obtain ⟨g1, g2, g3, g4, g5⟩ := hSw; go_simp <;> with_reducible rfl
            try simp only [Act.put, List.setIfInBounds_toArray, List.set_cons_zero, List.set_cons_succ]
            refine takeHr (i := 16) (d := some 90) (v := ?v44) rfl rfl (by kernel_rfl) (by kernel_rfl) (by kernel_rfl) (fun _ _ _ h => h) (Or.inl ⟨by rfl, ?hy44⟩) hHeld ?rest44
            case hy44 => intro X hSw; obtain ⟨g1, g2, g3, g4, g5⟩ := hSw; go_simp <;> with_reducible rfl
            try simp only [Act.put, List.setIfInBounds_toArray, List.set_cons_zero, List.set_cons_succ]
            refine takeHr (i := 17) (d := some 91) (v := ?v45) rfl rfl (by kernel_rfl) (by kernel_rfl) (by kernel_rfl) (fun _ _ _ h => h) (Or.inl ⟨by rfl, ?hy45⟩) hHeld ?rest45
            case hy45 => intro X hSw; obtain ⟨g1, g2, g3, g4, g5⟩ := hSw; go_simp <;> with_reducible rfl
            try simp only [Act.put, List.setIfInBounds_toArray, List.set_cons_zero, List.set_cons_succ]
            refine takeHr (i := 18) (d := some 92) (v := ?v46) rfl rfl (by kernel_rfl) (by kernel_rfl) (by kernel_rfl) (fun _ _ _ h => h) (Or.inl ⟨by rfl, ?hy46⟩) hHeld ?rest46
            case hy46 => intro X hSw; obtain ⟨g1, g2, g3, g4, g5⟩ := hSw; go_simp <;> with_reducible rfl
            try simp only [Act.put, List.setIfInBounds_toArray, List.set_cons_zero, List.set_cons_succ]
            refine takeHr (i := 19) (d := some 93) (v := ?v47) rfl rfl (by kernel_rfl) (by kernel_rfl) (by kernel_rfl) (fun _ _ _ h => h) (Or.inl ⟨by rfl, ?hy47⟩) hHeld ?rest47
            case hy47 => intro X hSw; obtain ⟨g1, g2, g3, g4, g5⟩ := hSw; go_simp <;> with_reducible rfl
            try simp only [Act.put, List.setIfInBounds_toArray, List.set_cons_zero, List.set_cons_succ]
            refine takeHr (i := 20) (d := some 94) (v := ?v48) rfl rfl (by kernel_rfl) (by kernel_rfl) (by kernel_rfl) (fun _ _ _ h => h) (Or.inl ⟨by rfl, ?hy48⟩) hHeld ?rest48
            case hy48 => intro X hSw; obtain ⟨g1, g2, g3, g4, g5⟩ := hSw; go_simp <;> with_reducible rfl
            try simp only [Act.put, List.setIfInBounds_toArray, List.set_cons_zero, List.set_cons_succ]
            refine takeHr (i := 21) (d := some 95) (v := ?v49) rfl rfl (by kernel_rfl) (by kernel_rfl) (by kernel_rfl) (fun _ _ _ h => h) (Or.inl ⟨by rfl, ?hy49⟩) hHeld ?rest49
            case hy49 => intro X hSw; obtain ⟨g1, g2, g3, g4, g5⟩ := hSw; go_simp <;> with_reducible rfl
            try simp only [Act.put, List.setIfInBounds_toArray, List.set_cons_zero, List.set_cons_succ]
            refine takeHr (i := 22) (d := some 96) (v := ?v50) rfl rfl (by kernel_rfl) (by kernel_rfl) (by kernel_rfl) (fun _ _ _ h => h) (Or.inl ⟨by rfl, ?hy50⟩) hHeld ?rest50
            case hy50 => intro X hSw; obtain ⟨g1, g2, g3, g4, g5⟩ := hSw; go_simp <;> with_reducible rfl
            try simp only [Act.put, List.setIfInBounds_toArray, List.set_cons_zero, List.set_cons_succ]
            refine takeHr (i := 23) (d := some 97) (v := ?v51) rfl rfl (by kernel_rfl) (by kernel_rfl) (by kernel_rfl) (fun _ _ _ h => h) (Or.inl ⟨by rfl, ?hy51⟩) hHeld ?rest51
            case hy51 => intro X hSw; obtain ⟨g1, g2, g3, g4, g5⟩ := hSw; go_simp <;> with_reducible rfl
            try simp only [Act.put, List.setIfInBounds_toArray, List.set_cons_zero, List.set_cons_succ]
            refine wpAnyH_ready (rs := [24]) (by kernel_rfl) (by simp) ?_
            refine AllReadyH.cons (o := { dst := some 98, op := Op.call { callee := Callee.value (Operand.func 40), args := #[Operand.tmp 91, Operand.tmp 97], argTypes := #[26, 26] }, type := 4, pos := "law.go:174", after := #[{ on := 17, ground := Ground.data }, { on := 23, ground := Ground.data }, { on := 12, ground := Ground.chain }, { on := 12, ground := Ground.guard }], guard := some (12, true) }) rfl (fun Kq hKq => ?_) AllReadyH.nil
            · go_simp
              refine (kept_any (LK.out.below HBe.out) (HR.out.below HBe.out) (dt k).length cd rfl HDl.out).mono ?_
              rintro e w52x ⟨rfl, hb52⟩
              replace HBe := (show Hid _ from bt HBe.out hb52)
              refine hKq.out _ _ ⟨cell_below hHeld.1 hb52, cell_below hHeld.2.1 hb52, cell_below hHeld.2.2.1 hb52, cell_below hHeld.2.2.2.1 hb52, cell_below hHeld.2.2.2.2 hb52⟩ (fun hHeld => ?_)
              clear hKq Kq
              try simp only [Act.put, List.setIfInBounds_toArray, List.set_cons_zero, List.set_cons_succ]
              refine takeHr (i := 25) (d := some 99) (v := .bool true) rfl rfl (by kernel_rfl) (by kernel_rfl) (by kernel_rfl) (fun _ _ _ h => h) (Or.inl ⟨by rfl, ?hy53⟩) hHeld ?rest53
              case hy53 => intro X hSw; obtain ⟨g1, g2, g3, g4, g5⟩ := hSw; go_simp <;> with_reducible rfl
              try simp only [Act.put, List.setIfInBounds_toArray, List.set_cons_zero, List.set_cons_succ]
              refine takeHr (i := 26) (d := some 10) (v := .bool true) rfl rfl (by kernel_rfl) (by kernel_rfl) (by kernel_rfl) (fun _ _ _ h => h) (Or.inl ⟨by rfl, ?hy54⟩) hHeld ?rest54
              case hy54 => intro X hSw; obtain ⟨g1, g2, g3, g4, g5⟩ := hSw; go_simp <;> with_reducible rfl
              try simp only [Act.put, List.setIfInBounds_toArray, List.set_cons_zero, List.set_cons_succ]
              refine wpAnyH_done (by kernel_rfl) ?_ _
              clear hHeld
              go_wp2_with (fail)
              go_roundw
              case rel => repeat (first | exact ⟨k + 1, HK.out, by go_num, bt hB2.out HBe.out⟩ | (refine ⟨?_, rfl⟩; exact ⟨k + 1, HK.out, by go_num, bt hB2.out HBe.out⟩) | apply Exists.intro)
              case measure => simp [intOf]; have := HK.out; omega
          · obtain rfl : n = k := by omega
            obtain ⟨W3, hW3⟩ : ∃ W, W = wr := ⟨_, rfl⟩
            subst hW3
            have B3 := (show Hid (Below W2.heap.size W2 W3) from hB2.out)
            have R3 := (show Hid (SpR W3 w1.heap.size w9.heap.size gf dt vs n 0 W3) from SpR.start (own_below O2.out B3.out) (fun i hi => (L2.out i hi).below B3.out))
            have NG := (show Hid (w1.heap.size ≤ gf ∧ gf < w9.heap.size ∧ ∀ i g, i < n → (vs i).ownBlock = some g → w1.heap.size ≤ g ∧ g < w9.heap.size) from ⟨(own_lt O9.out rfl).1, (own_lt O9.out rfl).2.1, fun i g hi e => by
              obtain ⟨g1, c1, e1, h1, h2⟩ := lnt_form (L9.out i hi)
              rw [e1] at e
              simp [Value.ownBlock] at e
              omega⟩)
            clear hB2 hlt
            go_upto_region 21 with fail
            clear s0 s1 s2
            go_loopw [11] (fun i wr => ∃ k : Nat, k ≤ n ∧ i = .int .i64 (k : Int) ∧ Hid (SpR W3 w1.heap.size w9.heap.size gf dt vs n k wr)) (fun i _ => n - (intOf i).toNat)
            case atStart => exact ⟨0, Nat.zero_le _, rfl, R3⟩
            case round =>
              obtain ⟨k, hk, rfl, hS⟩ := hrel
              have st2 := (show Hid (wr.cell? ⟨w.heap.size, 2, none⟩ = some (.slice p n c)) from (st_c ((((G1.out.below B2.out).below B3.out)).tn hS.out.tn (fun h => by have := G1.out.lt; omega))).2.2)
              by_cases hlt : k < n
              · have hi : (k : Int) < (n : Int) := by omega
                have s2 := st2.out
                obtain ⟨a1, ⟨t0, a0⟩, z0⟩ := hS.out.cells hlt
                obtain ⟨gk, capk, hvk, hk1, hk2⟩ := lnt_form (hS.out.lnt k (Nat.le_refl _) hlt)
                have i1 : (k : Int) < (n : Int) + 1 := by omega
                have i2 : k < n + 1 := by omega
                have HK := (show Hid (k < n) from hlt)
                have LK := (show Hid (Lnt wr w1.heap.size 5 (vs k) ((dt k).map u8v) (mks 66)) from hS.out.lnt k (Nat.le_refl _) hlt)
                clear hlt hvk hk1 hk2
                go_upto_region 24 with (go_at_call 41; refine (spoil_any LK.out (HZ.out k HK.out)).mono ?_; rintro e w3 ⟨⟨r9, rfl⟩, hT3, hz3⟩)
                have hne : ¬ (vs k).ownBlock = some gf := spr_ne hS.out HK.out
                have a3 : w3.cell? ⟨gf, k * 2, none⟩ = some (.string t0) := cell_tn a0 hT3 hne
                have z3 : w3.frozen? ⟨gf, k * 2, none⟩ = false := frz_tn z0 a0 hT3 hne
                have ST := (show Hid (SpR W3 w1.heap.size w9.heap.size gf dt vs n (k + 1) (w3.setCell ⟨gf, k * 2, none⟩ (.string ⟨#[115, 112, 111, 105, 108, 116]⟩))) from hS.out.step HK.out SEP.out (fun g e => NG.out.2.2 k g HK.out e) ⟨NG.out.1, NG.out.2.1⟩ hT3 hz3 _)
                clear hT3 hz3 hne a0 z0 a1 s2
                go_wp2_with (fail)
                go_roundw
                case rel => repeat (first | exact ⟨k + 1, HK.out, by go_num, ST⟩ | (refine ⟨?_, rfl⟩; exact ⟨k + 1, HK.out, by go_num, ST⟩) | apply Exists.intro)
                case measure => simp [intOf]; have := HK.out; omega
              · obtain rfl : n = k := by omega
                have s2 := st2.out
                go_wp2_with (fail)
                refine bodyPost_ret (results_tmp2 rfl _ _ _) rfl ?_
                have hB9 := B9.out.size
                refine ⟨pt, rfl, ?_, tn_bel (bt (bt B1.out B2.out) B3.out) hS.out.tn (fun b h => by have := B1.out.size; omega)⟩
                rw [HS.out]
                rcases HPT.out with ⟨e1, e2⟩ | ⟨σ, db, e1, e2, e3⟩
                · exact .inl ⟨e1, e2⟩
                · refine .inr ⟨σ, db, _, e1, e2, (e3.below B3.out).tn hS.out.tn (fun b hb h9 => ?_), fun b hb => ?_⟩
                  · have h1 := hb.1
                    have h2 := HWL.out.1.size
                    omega
                  · have h1 := hb.1
                    have h2 := HWL.out.1.size
                    have h3 := B1.out.size
                    omega
end
end Go.Proofs.Ytaddgmbglhdfdaa
