/-
  Layer 17's laws: 'kept'.
-/
import Derived.Test.YtcoegbbhmdbafaaVn17
namespace Go.Proofs.Ytcoegbbhmdbafaa
open Go.RowKit
theorem flat_at {α : Type} (f : α → List Value) (K : Nat) (hf : ∀ x, (f x).length = K) : ∀ (es : List α) (i j : Nat) (d : α), i < es.length → j < K → (es.flatMap f)[i * K + j]? = (f (es.getD i d))[j]?
  | [], i, _, _, h, _ => by simp at h
  | e :: r, 0, j, d, _, hj => by
    rw [List.flatMap_cons, Nat.zero_mul, Nat.zero_add, List.getElem?_append_left (by rw [hf]; exact hj)]
    rfl
  | e :: r, i + 1, j, d, h, hj => by
    rw [List.flatMap_cons, List.getElem?_append_right (by rw [hf, Nat.add_mul]; omega), hf, show (i + 1) * K + j - K = i * K + j by rw [Nat.add_mul, Nat.one_mul]; omega, flat_at f K hf r i j d (by simpa using h) hj]
    rfl
theorem os_at {w : World} {B g m cap : Nat} {es : List Sn} (h : Os w B (.slice (some ⟨g, 0, none⟩) m cap) es) {i : Nat} (hi : i < es.length) : SnAt w g (i * 19) (es.getD i sn0) := by
  intro j u hu
  have hj : j < 19 := by
    rcases Nat.lt_or_ge j 19 with h | h
    · exact h
    · rw [List.getElem?_eq_none (by exact h)] at hu; cases hu
  have h' := h
  unfold Os at h'
  have e := flat_at (fun s : Sn => s.cs.toList) 19 (fun _ => rfl) es i j sn0 hi hj
  have := h'.cells (g := g) rfl (i * 19 + j) u (by rw [e]; exact hu)
  rw [add_pl, Nat.zero_add] at this
  exact this
theorem ex_ldR {o : Oper} {a : Act} {X : World} {t : TypeId} {x : Operand} {p : Addr} {cs : Array Value} (ho : o.op = .load t x) (hx : a.eval x = .pointer (some p)) (hr : (loadVar t p).run Try.prog X = .ok (.agg cs) X) : (execOp a.eval o).run Try.prog X = .ok (.value (.agg cs)) X := by
  unfold execOp
  simp only [ho, hx, Instr.loadAt, Instr.sureAddr, Sem.run_bind, Sem.run_pure, Result.andThen_ok, hr]
/-- What is read of lent blocks. -/
structure LBa (w : World) (g : Nat) (bl : List (List (BitVec 8))) : Prop where
  row : ∀ k, k < bl.length → ∃ gr cr, w.cell? ⟨g, k, none⟩ = some (.slice (some ⟨gr, 0, none⟩) (bl.getD k []).length cr) ∧ (bl.getD k []).length + 3 ≤ cr ∧ Rd w (some ⟨gr, 0, none⟩) (bl.getD k [] ++ mk3)
  mrk : ∃ gx cx, w.cell? ⟨g, bl.length, none⟩ = some (.slice (some ⟨gx, 0, none⟩) 1 cx) ∧ w.cell? ⟨gx, 0, none⟩ = some (.int .u8 84)
theorem LBa.below {w w' : World} {g : Nat} {bl : List (List (BitVec 8))} (h : LBa w g bl) (hb : Below w.heap.size w w') : LBa w' g bl := by
  refine ⟨fun k hk => ?_, ?_⟩
  · obtain ⟨gr, cr, h1, h2, h3⟩ := h.row k hk
    exact ⟨gr, cr, cell_below h1 hb, h2, h3.below hb⟩
  · obtain ⟨gx, cx, h1, h2⟩ := h.mrk
    exact ⟨gx, cx, cell_below h1 hb, cell_below h2 hb⟩
theorem or_at {w : World} {B g m cap : Nat} {us : List Value} (h : Or w B (.slice (some ⟨g, 0, none⟩) m cap) us) {i : Nat} (hi : i < us.length) : w.cell? ⟨g, i, none⟩ = some (us.getD i (.slice none 0 0)) := by
  unfold Or at h
  have := h.cells (g := g) rfl i (us.getD i (.slice none 0 0)) (by simp [List.getD, hi])
  rw [add_pl, Nat.zero_add] at this
  exact this
theorem Ow.rdAt {w : World} {B g n c : Nat} {xs : List (BitVec 8)} (h : Ow w B (.slice (some ⟨g, 0, none⟩) n c) xs) : Rd w (some ⟨g, 0, none⟩) xs := by
  obtain ⟨p, c', e, _, hr⟩ := h.rd
  injection e with e
  rw [e]; exact hr
theorem LBl.open {w : World} {v : Value} {bl : List (List (BitVec 8))} (h : LBl w v bl) : ∃ g cap, v = .slice (some ⟨g, 0, none⟩) bl.length cap ∧ bl.length + 1 ≤ cap ∧ LBa w g bl := by
  obtain ⟨g, cap, us, e, hl, hc, hO, hR, hM⟩ := h
  refine ⟨g, cap, e, hc, fun k hk => ?_, ?_⟩
  · obtain ⟨gr, cr, e2, hcr, hO2⟩ := hR k hk
    refine ⟨gr, cr, ?_, hcr, hO2.rdAt⟩
    rw [or_at hO (by omega), e2]
  · obtain ⟨gx, cx, e2, _⟩ := hM.some17 (by decide)
    rw [e2] at hM
    refine ⟨gx, cx, ?_, ?_⟩
    · rw [or_at hO (by omega), e2]; rfl
    · rcases hM.rdAt with h0 | ⟨b, o, e3, hc3⟩
      · cases h0
      · injection e3 with e3
        injection e3 with e4 e5
        subst e4 e5
        exact hc3 0 (by decide)
theorem LBa.rws {w : World} {g : Nat} {bl : List (List (BitVec 8))} (h : LBa w g bl) : Rws w (some ⟨g, 0, none⟩) bl := by
  refine .inr ⟨g, 0, rfl, fun i hi => ?_⟩
  obtain ⟨gr, cr, h1, h2, h3⟩ := h.row i hi
  refine ⟨_, cr, by rw [Nat.zero_add]; exact h1, by omega, ?_⟩
  generalize bl.getD i [] = x at *
  rcases h3 with h0 | ⟨b, o, e, hc⟩
  · have := congrArg List.length h0
    simp [mk3] at this
  · refine .inr ⟨b, o, e, fun j hj => ?_⟩
    have := hc j (by rw [List.length_append]; omega)
    rw [this]
    simp [List.getD, List.getElem?_append_left hj]
theorem mk3_at {w : World} {gr : Nat} {x : List (BitVec 8)} (h : Rd w (some ⟨gr, 0, none⟩) (x ++ mk3)) : w.cell? ⟨gr, x.length, none⟩ = some (.int .u8 81) ∧ w.cell? ⟨gr, x.length + 1, none⟩ = some (.int .u8 82) ∧ w.cell? ⟨gr, x.length + 2, none⟩ = some (.int .u8 83) := by
  rcases h with h0 | ⟨b, o, e, hc⟩
  · have := congrArg List.length h0
    simp [mk3] at this
  · injection e with e
    injection e with e1 e2
    subst e1 e2
    have h0 := hc x.length (by simp [mk3])
    have h1 := hc (x.length + 1) (by simp [mk3])
    have h2 := hc (x.length + 2) (by simp [mk3])
    simp only [Nat.zero_add] at h0 h1 h2
    refine ⟨h0.trans ?_, h1.trans ?_, h2.trans ?_⟩
    · simp [List.getD, mk3, el]
    · simp [List.getD, mk3, el]
    · simp [List.getD, mk3, el]
theorem wr_add {d : Nat} (j : Nat) (h : d ≤ 140737488351232) (hj : j ≤ 3) : wrap64 ((d : Int) + (j : Int)) = (d : Int) + (j : Int) := by unfold wrap64; omega
theorem le_add3 {d c : Nat} (h : d + 3 ≤ c) : (d : Int) + 3 ≤ (c : Int) := by omega
theorem le_add1 {d c : Nat} (h : d + 1 ≤ c) : (d : Int) + 1 ≤ (c : Int) := by omega
theorem one_mark (k : Nat) (W : World) : Calls Try.prog 38 #[.agg (snK k).cs, .agg #[.int .i64 ((100 : Int) + (k : Int)), .int .u8 0, .int .u8 0, .int .u8 0, .int .u8 0, .int .u8 0, .int .u8 0, .int .u8 0, .int .u8 0, .int .i64 0, .int .i64 0, .int .i64 0, .string ⟨#[]⟩, .int .i64 0, .int .i64 0, .int .i64 0, .int .i64 0, .slice none 0 0, .int .i64 0]] W fun e w' => e = .returned (.bool true) ∧ Below W.heap.size W w' := by
  rw [snK_cs k]
  exact one_any (snK k) (.slice none 0 0) (p1 := none) (p2 := none) (c1 := 0) (c2 := 0) (bl := []) rfl rfl (.inl rfl) (.inl rfl) (Nat.zero_le _)
theorem add20 {n c : Nat} (h : n + 20 ≤ c) : (n : Int) + 20 ≤ (c : Int) := by omega
theorem wr20 {n : Nat} (h : n ≤ 1172812402926) : wrap64 ((n : Int) + 20) = (n : Int) + 20 := by unfold wrap64; omega
theorem wrnk {n k N : Nat} (h : n ≤ 1172812402926) (hk : k < 20) (e : n + k = N) : wrap64 ((n : Int) + (k : Int)) = (N : Int) := by unfold wrap64; omega
theorem ltnk {n k N : Nat} (hk : k < 20) (e : n + k = N) : (N : Int) < (n : Int) + 20 := by omega
section
attribute [local irreducible] Calls Sn.cs GB Os Hd.cs el
set_option maxHeartbeats 16000000 in
set_option maxRecDepth 1000000 in
theorem kept_any {w : World} {p : Option Addr} {v : Value} {n c : Nat} {ss : Nat → Sn} {bl : Nat → List (List (BitVec 8))} (hLS : LSn w v n ss bl) (HS : SnL w p n ss) (hn : n ≤ 1172812402926) (hBl : Bls w n ss bl) :
    Calls Try.prog 15 #[v, .slice p n c] w fun e w' => e = .returned (.bool true) ∧ Below w.heap.size w w' := by
  obtain ⟨g, cap, es, rfl, hel, hcap, hOs, hEn, hMk⟩ := hLS
  have HL := (show Hid (SnL w p n ss) from HS)
  have HN := (show Hid (n ≤ 1172812402926) from hn)
  have HBl := (show Hid (Bls w n ss bl) from hBl)
  have HOs := (show Hid (Os w 0 (.slice (some ⟨g, 0, none⟩) (n + 20) cap) es) from hOs)
  have HEl := (show Hid (es.length = n + 20) from hel)
  have HCap := (show Hid (n + 20 ≤ cap) from hcap)
  have HEn := (show Hid (∀ i, i < n → LEn w (es.getD i sn0) (ss i) (bl i)) from hEn)
  have HMk := (show Hid (∀ k, k < 20 → es.getD (n + k) sn0 = snK k) from hMk)
  have f0 : ((n : Int) != (n : Int)) = false := by simp
  clear HS hn hBl hOs hel hcap hEn hMk
  go_enter Try.func15, Try.ntmps15
  go_wp2_with (fail)
  clear f0
  go_loopw [5] (fun i wr => ∃ t : Nat, t ≤ n ∧ i = .int .i64 (t : Int) ∧ Hid (Below w.heap.size w wr)) (fun i _ => n - (intOf i).toNat)
  case atStart => exact ⟨0, Nat.zero_le _, rfl, Below.refl _ _⟩
  case round =>
    obtain ⟨t, ht, rfl, hB⟩ := hrel
    by_cases hlt : t < n
    · have hi : (t : Int) < (n : Int) := by omega
      obtain ⟨b, o, rfl, AS⟩ := (HL.out.below hB.out).at hlt
      obtain ⟨q, cq, hbv, hqc, hq1, hq2, hR⟩ := (HBl.out.below hB.out) t hlt
      have hE := HEn.out t hlt
      obtain ⟨gb, capb, hbe, hcb, hLa⟩ := hE.2.open
      have AE := os_at (HOs.out.below hB.out) (i := t) (by rw [HEl.out]; omega)
      rw [hE.1, hbe] at AE
      have WT := (show Hid (wrap64 ((t : Int) + 1) = ((t + 1 : Nat) : Int)) from by have := HN.out; show _ = _; unfold wrap64; omega)
      have HT := (show Hid (t < n) from hlt)
      have HLa := (show Hid (LBa wr gb (bl t)) from hLa.below hB.out)
      have HR := (show Hid (Rws wr q (bl t)) from hR)
      obtain ⟨L, hL⟩ : ∃ L, L = (bl t).length := ⟨_, rfl⟩
      rw [← hL] at hbv hqc hq1 hcb AE
      have HLL := (show Hid (L = (bl t).length) from hL)
      have hbd : Below wr.heap.size wr wr.drew := (Below.refl _ _).drew
      have ON := (show Hid (∀ W : World, Below wr.heap.size wr W → _) from fun W hW => one_any (ss t) (.slice (some ⟨gb, 0, none⟩) L capb) (w := W) (c1 := capb) (c2 := cq) (bl := bl t) (by rw [HLL.out]) (by rw [hbv, HLL.out]) (HLa.out.rws.below hW) (HR.out.below hW) (by rw [← HLL.out]; exact hq1))
      clear hE hLa hR hbe hL hlt ht
      go_wp2_with (fail)
      refine wp_region_held_drew (S := fun X => (loadVar 58 ⟨g, t * 19, none⟩).run Try.prog X = .ok (.agg ({ ss t with bv := .slice (some ⟨gb, 0, none⟩) L capb } : Sn).cs) X ∧ (loadVar 58 ⟨b, o + t * 19, none⟩).run Try.prog X = .ok (.agg (ss t).cs) X) (by kernel_rfl) ⟨(AE.below hbd).run, (AS.below hbd).run⟩ (fun hHeld => ?_)
      refine takeHr (i := 0) (d := some 26) (v := ?v1) rfl rfl (by kernel_rfl) (by kernel_rfl) (by kernel_rfl) (fun _ _ _ h => h) (Or.inl ⟨by rfl, ?hy1⟩) hHeld ?rest1
      case hy1 => intro X hSw; obtain ⟨g1, g2⟩ := hSw; go_simp <;> with_reducible rfl
      try simp only [Act.put, List.setIfInBounds_toArray, List.set_cons_zero, List.set_cons_succ]
      refine takeHr (i := 1) (d := some 27) (v := ?v2) rfl rfl (by kernel_rfl) (by kernel_rfl) (by kernel_rfl) (fun _ _ _ h => h) (Or.inl ⟨by rfl, ?hy2⟩) hHeld ?rest2
      case hy2 => intro X hSw; obtain ⟨g1, g2⟩ := hSw; go_simp <;> with_reducible rfl
      try simp only [Act.put, List.setIfInBounds_toArray, List.set_cons_zero, List.set_cons_succ]
      refine takeHr (i := 2) (d := some 28) (v := ?v3) rfl rfl (by kernel_rfl) (by kernel_rfl) (by kernel_rfl) (fun _ _ _ h => h) (Or.inl ⟨by rfl, ?hy3⟩) hHeld ?rest3
      case hy3 => intro X hSw; obtain ⟨g1, g2⟩ := hSw; go_simp <;> with_reducible rfl
      try simp only [Act.put, List.setIfInBounds_toArray, List.set_cons_zero, List.set_cons_succ]
      refine takeHr (i := 3) (d := some 29) (v := .agg ({ ss t with bv := .slice (some ⟨gb, 0, none⟩) L capb } : Sn).cs) rfl rfl (by kernel_rfl) (by kernel_rfl) (by kernel_rfl) (fun _ _ _ h => h) (Or.inl ⟨by rfl, ?hy4⟩) hHeld ?rest4
      case hy4 => intro X hSw; exact ex_ldR rfl rfl hSw.1
      try simp only [Act.put, List.setIfInBounds_toArray, List.set_cons_zero, List.set_cons_succ]
      refine takeHr (i := 4) (d := some 30) (v := ?v5) rfl rfl (by kernel_rfl) (by kernel_rfl) (by kernel_rfl) (fun _ _ _ h => h) (Or.inl ⟨by rfl, ?hy5⟩) hHeld ?rest5
      case hy5 => intro X hSw; obtain ⟨g1, g2⟩ := hSw; go_simp <;> with_reducible rfl
      try simp only [Act.put, List.setIfInBounds_toArray, List.set_cons_zero, List.set_cons_succ]
      refine takeHr (i := 5) (d := some 31) (v := ?v6) rfl rfl (by kernel_rfl) (by kernel_rfl) (by kernel_rfl) (fun _ _ _ h => h) (Or.inl ⟨by rfl, ?hy6⟩) hHeld ?rest6
      case hy6 => intro X hSw; obtain ⟨g1, g2⟩ := hSw; go_simp <;> with_reducible rfl
      try simp only [Act.put, List.setIfInBounds_toArray, List.set_cons_zero, List.set_cons_succ]
      refine takeHr (i := 6) (d := some 32) (v := ?v7) rfl rfl (by kernel_rfl) (by kernel_rfl) (by kernel_rfl) (fun _ _ _ h => h) (Or.inl ⟨by rfl, ?hy7⟩) hHeld ?rest7
      case hy7 => intro X hSw; obtain ⟨g1, g2⟩ := hSw; go_simp <;> with_reducible rfl
      try simp only [Act.put, List.setIfInBounds_toArray, List.set_cons_zero, List.set_cons_succ]
      refine takeHr (i := 7) (d := some 33) (v := .agg (ss t).cs) rfl rfl (by kernel_rfl) (by kernel_rfl) (by kernel_rfl) (fun _ _ _ h => h) (Or.inl ⟨by rfl, ?hy8⟩) hHeld ?rest8
      case hy8 => intro X hSw; exact ex_ldR rfl rfl hSw.2
      try simp only [Act.put, List.setIfInBounds_toArray, List.set_cons_zero, List.set_cons_succ]
      refine wpAnyH_ready (rs := [8]) (by kernel_rfl) (by simp) ?_
      refine AllReadyH.cons (o := { dst := some 34, op := Op.call { callee := Callee.value (Operand.func 38), args := #[Operand.tmp 29, Operand.tmp 33], argTypes := #[58, 58] }, type := 4, pos := "law.go:69", after := #[{ on := 3, ground := Ground.data }, { on := 7, ground := Ground.data }], guard := none }) rfl (fun Kq hKq => ?_) AllReadyH.nil
      · go_simp
        refine (ON.out wr.drew hbd).mono ?_
        rintro e w5 ⟨rfl, hb5⟩
        refine hKq.out _ _ ⟨(AE.below (bt hbd hb5)).run, (AS.below (bt hbd hb5)).run⟩ (fun hHeld => ?_)
        clear hKq Kq
        try simp only [Act.put, List.setIfInBounds_toArray, List.set_cons_zero, List.set_cons_succ]
        refine takeHr (i := 9) (d := some 6) (v := ?v10) rfl rfl (by kernel_rfl) (by kernel_rfl) (by kernel_rfl) (fun _ _ _ h => h) (Or.inl ⟨by rfl, ?hy10⟩) hHeld ?rest10
        case hy10 => intro X hSw; obtain ⟨g1, g2⟩ := hSw; go_simp <;> with_reducible rfl
        try simp only [Act.put, List.setIfInBounds_toArray, List.set_cons_zero, List.set_cons_succ]
        refine wpAnyH_done (by kernel_rfl) ?_ _
        have B5 : Below wr.heap.size wr w5 := bt hbd hb5
        have HB5 := (show Hid (Below w.heap.size w w5) from bt hB.out B5)
        have cS := (AS.below B5).cells.bv
        rw [hbv] at cS
        have cE := (AE.below B5).cells.bv
        have HLa5 := (show Hid (LBa w5 gb (bl t)) from HLa.out.below B5)
        have HR5 := (show Hid (Rws w5 q (bl t)) from HR.out.below B5)
        have HQ2 := (show Hid (∀ k, ((bl t).getD k []).length ≤ 140737488351232) from hq2)
        clear hHeld ON HLa HR B5 hb5 AE AS hbd hq2
        simp only at cE
        have HQ1 := (show Hid (L ≤ 5864062014634) from hq1)
        have HCB := (show Hid (L + 1 ≤ capb) from hcb)
        have CS := (show Hid (w5.cell? ⟨b, o + t * 19 + 17, none⟩ = some (.slice q L cq)) from cS)
        have CE := (show Hid (w5.cell? ⟨g, t * 19 + 17, none⟩ = some (.slice (some ⟨gb, 0, none⟩) L capb)) from cE)
        clear hqc hq1 hcb hbv
        go_wp2_with (fail)
        go_loopw [8] (fun i wr2 => ∃ k : Nat, k ≤ L ∧ i = .int .i64 (k : Int) ∧ Hid (Below w5.heap.size w5 wr2)) (fun i _ => L - (intOf i).toNat)
        case atStart => exact ⟨0, Nat.zero_le _, rfl, Below.refl _ _⟩
        case round =>
          obtain ⟨k, hk, rfl, hB2⟩ := hrel
          have dS := cell_below CS.out hB2.out
          have dE := cell_below CE.out hB2.out
          by_cases hlk : k < L
          · have hik : (k : Int) < (L : Int) := by omega
            obtain ⟨bq, oq, q2, c2, rfl, hrow, _, _⟩ := Rws.row (HR5.out.below hB2.out) k (by rw [← HLL.out]; exact hlk)
            obtain ⟨gr, cr, hc1, hc2, hrd⟩ := (HLa5.out.below hB2.out).row k (by rw [← HLL.out]; exact hlk)
            have hxl := HQ2.out k
            have WK := (show Hid (wrap64 ((k : Int) + 1) = ((k + 1 : Nat) : Int)) from by have := HQ1.out; show _ = _; unfold wrap64; omega)
            have HKt := (show Hid (k < L) from hlk)
            generalize (bl t).getD k [] = x at *
            obtain ⟨m1, m2, m3⟩ := mk3_at hrd
            obtain ⟨d, hd⟩ : ∃ d, x.length = d := ⟨_, rfl⟩
            rw [hd] at hrow hc1 hc2 m1 m2 m3 hxl
            have w3 : wrap64 ((d : Int) + 3) = (d : Int) + 3 := wr_add 3 hxl (by decide)
            have w2 : wrap64 ((d : Int) + 2) = (d : Int) + 2 := wr_add 2 hxl (by decide)
            have w1 : wrap64 ((d : Int) + 1) = (d : Int) + 1 := wr_add 1 hxl (by decide)
            have s3 : (d : Int) + 3 ≤ (cr : Int) := le_add3 hc2
            clear hd hrd hxl hk hlk hc2
            go_wp2_with (fail)
            go_roundw
            case rel => exact ⟨k + 1, HKt.out, by first | rw [WK.out] | go_num, hB2⟩
            case measure => first | (rw [WK.out]; exact meas_v17 HKt.out) | exact meas_v17 HKt.out
          · obtain rfl : k = L := by omega
            have hnn : ¬ ((k : Int) < (k : Int)) := by omega
            obtain ⟨gx, cx, x1, x2⟩ := (HLa5.out.below hB2.out).mrk
            rw [← HLL.out] at x1
            have wl : wrap64 ((k : Int) + 1) = (k : Int) + 1 := wr_add 1 (Nat.le_trans HQ1.out (by decide)) (by decide)
            have sl : (k : Int) + 1 ≤ (capb : Int) := le_add1 HCB.out
            go_wp2_with (fail)
            go_roundw
            case rel => exact ⟨t + 1, HT.out, by first | rw [WT.out] | go_num, bt HB5.out hB2.out⟩
            case measure => first | (rw [WT.out]; exact meas_v17 HT.out) | exact meas_v17 HT.out
    · obtain rfl : t = n := by omega
      have hnn : ¬ ((t : Int) < (t : Int)) := by omega
      have w20 := wr20 HN.out
      have c20 := add20 HCap.out
      go_wp2_with (fail)
      clear w20 c20 hnn
      go_loopw [13] (fun i wr2 => ∃ k : Nat, k ≤ 20 ∧ i = .int .i64 (k : Int) ∧ Hid (Below w.heap.size w wr2)) (fun i _ => 20 - (intOf i).toNat)
      case atStart => exact ⟨0, Nat.zero_le _, rfl, hB⟩
      case round =>
        clear hB
        obtain ⟨k, hk, rfl, hB⟩ := hrel
        by_cases hlk : k < 20
        · have hi : (k : Int) < 20 := by omega
          obtain ⟨N, hN⟩ : ∃ N, t + k = N := ⟨_, rfl⟩
          have AE := os_at (HOs.out.below hB.out) (i := t + k) (by rw [HEl.out]; omega)
          rw [HMk.out k hlk, hN] at AE
          have hrun := AE.run
          have HK := (show Hid (k < 20) from hlk)
          have w1 := wrnk HN.out hlk hN
          have l1 := ltnk hlk hN
          clear AE hN hk hlk
          go_wp2_with (first
            | (refine wpList_ldAt rfl _ _ rfl g (N * 19) rfl _ hrun ?_)
            | (go_at_call 38; refine (one_mark k _).mono ?_; rintro e w5 ⟨rfl, hb5⟩))
          go_roundw
          case rel => exact ⟨k + 1, HK.out, by go_num, bt hB.out hb5⟩
          case measure => have := HK.out; simp [intOf]; omega
        · obtain rfl : k = 20 := by omega
          go_wp2_with (fail)
          go_ret
          exact ⟨rfl, hB.out⟩
end
end Go.Proofs.Ytcoegbbhmdbafaa
