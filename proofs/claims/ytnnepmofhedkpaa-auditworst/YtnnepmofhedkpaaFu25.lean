/-
  AuditWorst: the walk.
-/
import Derived.Test.YtnnepmofhedkpaaFr25
namespace Go.Proofs.Ytnnepmofhedkpaa
open Go.RowKit
theorem GB.keep {w w' : World} {B g : Nat} {t : TypeId} {cs : Array Value} (H : GB w g t cs) (hb : Below B w w') (hg : g < B) : GB w' g t cs := by
  unfold GB at H ⊢
  rw [hb.block g hg]; exact H
theorem fcs0 (f : Fi) : f.cs.toList[0]? = some (.string f.ks) := rfl
theorem Of.fz {w : World} {B g m cap : Nat} {es : List Fi} (h : Of w B (.slice (some ⟨g, 0, none⟩) m cap) es) (j : Nat) : w.frozen? ⟨g, j, none⟩ = false := by
  rcases h.2 with ⟨h1, _⟩ | ⟨g', cap', cur, hv, _, hh, _⟩
  · cases h1
  · injection hv with hv
    injection hv with hv
    injection hv with hv
    subst hv
    exact frozen_of_row w _ j _ _ hh
theorem FL.congr {w : World} {p : Option Addr} {n : Nat} {f g : Nat → Fi} (h : FL w p n f) (e : ∀ i, i < n → f i = g i) : FL w p n g := by
  rcases h with h | ⟨b, o, e1, h⟩
  · exact .inl h
  · exact .inr ⟨b, o, e1, fun i hi => by rw [← e i hi]; exact h i hi⟩
theorem FL.take {w : World} {p : Option Addr} {n m : Nat} {f : Nat → Fi} (h : FL w p n f) (hm : m ≤ n) : FL w p m f := by
  rcases h with h | ⟨b, o, e1, h⟩
  · exact .inl (by omega)
  · exact .inr ⟨b, o, e1, fun i hi => h i (by omega)⟩
theorem Of.at {w : World} {B g m cap : Nat} {es : List Fi} (h : Of w B (.slice (some ⟨g, 0, none⟩) m cap) es) {i : Nat} (hi : i < es.length) : FiAt w g (i * 8) (es.getD i fi0) := by
  intro j u hu
  have hj : j < 8 := by
    rcases Nat.lt_or_ge j 8 with h9 | h9
    · exact h9
    · rw [List.getElem?_eq_none (by exact h9)] at hu; cases hu
  have h' := h
  unfold Of at h'
  have := h'.cells (g := g) rfl (i * 8 + j) u (by rw [fls_at es i j hi hj]; exact hu)
  rw [add_pl] at this
  simpa only [Nat.zero_add] using this
theorem Of.lfl {w : World} {B g m cap : Nat} {es : List Fi} (h : Of w B (.slice (some ⟨g, 0, none⟩) m cap) es) {n : Nat} (hn : n ≤ es.length) : FL w (some ⟨g, 0, none⟩) n (fun i => es.getD i fi0) := .inr ⟨g, 0, rfl, fun i hi => by rw [Nat.zero_add]; exact h.at (by omega)⟩
theorem fls_set1 : ∀ (es : List Fi) (k j : Nat) (u : Value) (f' : Fi), k < es.length → j < 8 → f'.cs.toList = (es.getD k fi0).cs.toList.set j u → (fls es).set (k * 8 + j) u = fls (es.set k f')
  | [], k, j, u, f', hk, _, _ => by simp at hk
  | e :: r, 0, j, u, f', _, hj, h => by
    show (e.cs.toList ++ fls r).set (0 * 8 + j) u = f'.cs.toList ++ fls r
    have e1 : 0 * 8 + j = j := by omega
    rw [e1, List.set_append_left _ _ (by exact hj), h]
    rfl
  | e :: r, k + 1, j, u, f', hk, hj, h => by
    show (e.cs.toList ++ fls r).set ((k + 1) * 8 + j) u = e.cs.toList ++ fls (r.set k f')
    have hl : e.cs.toList.length = 8 := rfl
    rw [List.set_append_right _ _ (by rw [hl]; omega), hl, show (k + 1) * 8 + j - 8 = k * 8 + j by omega, fls_set1 r k j u f' (by simpa using hk) hj h]
theorem Of.set1 {w : World} {B g m cap : Nat} {es : List Fi} (h : Of w B (.slice (some ⟨g, 0, none⟩) m cap) es) {k j : Nat} {u : Value} {f' : Fi} (hk : k < es.length) (hj : j < 8) (e : f'.cs.toList = (es.getD k fi0).cs.toList.set j u) : Of (w.setCell ⟨g, k * 8 + j, none⟩ u) B (.slice (some ⟨g, 0, none⟩) m cap) (es.set k f') := by
  obtain ⟨p0, c0, e0, _⟩ := own_form h
  injection e0 with _ e1 _
  subst e1
  have h' := h
  unfold Of at h' ⊢
  have h2 := (World.ownsRow.stored h' (k * 8 + j) u).1
  rw [fls_set1 es k j u f' hk hj e] at h2
  rw [List.length_set]
  exact h2
theorem of_set3 {w : World} {B g m cap k : Nat} {ds : List Fi} {F : Fi} (h : Of w B (.slice (some ⟨g, 0, none⟩) m cap) ds) (hk : k < ds.length) (z1 z4 : Int) (s : ByteArray) (hF : ds.getD k fi0 = F) :
    ∃ F' : Fi, F'.ks = s ∧ Of (((w.setCell ⟨g, k * 8 + 1, none⟩ (.int .i64 z1)).setCell ⟨g, k * 8 + 4, none⟩ (.int .i64 z4)).setCell ⟨g, k * 8, none⟩ (.string s)) B (.slice (some ⟨g, 0, none⟩) m cap) (ds.set k F') := by
  refine ⟨{ F with kd := z1, wh := z4, ks := s }, rfl, ?_⟩
  have h1 := h.set1 (k := k) (j := 1) (u := .int .i64 z1) (f' := { F with kd := z1 }) hk (by decide) (by rw [hF]; rfl)
  have g1 : (ds.set k { F with kd := z1 }).getD k fi0 = { F with kd := z1 } := by simp [List.getD, hk]
  have h2 := h1.set1 (k := k) (j := 4) (u := .int .i64 z4) (f' := { F with kd := z1, wh := z4 }) (by rw [List.length_set]; exact hk) (by decide) (by rw [g1]; rfl)
  rw [List.set_set] at h2
  have g2 : (ds.set k { F with kd := z1, wh := z4 }).getD k fi0 = { F with kd := z1, wh := z4 } := by simp [List.getD, hk]
  have h3 := h2.set1 (k := k) (j := 0) (u := .string s) (f' := { F with kd := z1, wh := z4, ks := s }) (by rw [List.length_set]; exact hk) (by decide) (by rw [g2]; rfl)
  rw [List.set_set] at h3
  exact h3
/-- The lent list: marks at its end, keys that are not too long. -/
def LtP (es : List Fi) (n S : Nat) : Prop := es.length = n + 2 ∧ es.getD n fi0 = mkf ∧ es.getD (n + 1) fi0 = mkf ∧ ∀ i, i < n → (es.getD i fi0).ks.size ≤ S
theorem getD_set {es : List Fi} {k i : Nat} {f : Fi} (hk : k < es.length) : (es.set k f).getD i fi0 = if i = k then f else es.getD i fi0 := by
  by_cases e : i = k
  · subst e; rw [if_pos rfl]; simp [List.getD, hk]
  · rw [if_neg e]; simp [List.getD, Ne.symm e]
theorem LtP.set {es : List Fi} {n S k : Nat} {f : Fi} (h : LtP es n S) (hk : k < n) (hf : f.ks.size ≤ S) : LtP (es.set k f) n S := by
  have hl : k < es.length := by rw [h.1]; omega
  refine ⟨by rw [List.length_set]; exact h.1, ?_, ?_, fun i hi => ?_⟩
  · rw [getD_set hl, if_neg (by omega)]; exact h.2.1
  · rw [getD_set hl, if_neg (by omega)]; exact h.2.2.1
  · rw [getD_set hl]
    by_cases e : i = k
    · rw [if_pos e]; exact hf
    · rw [if_neg e]; exact h.2.2.2 i hi
theorem LtP.new {n S : Nat} {f : Nat → Fi} (h : ∀ i, i < n → (f i).ks.size ≤ S) : LtP (rgl n f ++ rgl 2 fun _ => mkf) n S := by
  refine ⟨by rw [List.length_append, rgl_len, rgl_len], ?_, ?_, fun i hi => ?_⟩
  · simp [rgl, List.getD]
  · simp [rgl, List.getD]
  · have : (rgl n f ++ rgl 2 fun _ => mkf).getD i fi0 = f i := by
      simp [rgl, List.getD, List.getElem?_append_left, hi]
    rw [this]; exact h i hi
theorem nil_app (n : Nat) (f : Nat → Fi) : [] ++ rgl n f = rgl n f := rfl
theorem cat_ok {s : ByteArray} {S : Nat} (t : TypeId) (h : s.size ≤ S) (hS : S ≤ 140737488351240) (w : World) : (binOp .add t (.string s) (.string ⟨#[46]⟩)).run Try.prog w = .ok (.string (s ++ ⟨#[46]⟩)) w := by
  rw [binOp_string_add]
  unfold Op.stringOp
  have e : (⟨#[46]⟩ : ByteArray).size = 1 := rfl
  have h2 : ¬ (((s.size + (⟨#[46]⟩ : ByteArray).size : Nat) : Int) > IntKind.i64.max) := by
    rw [e]
    have : IntKind.i64.max = 9223372036854775807 := by decide
    rw [this]; omega
  simp only [if_neg h2]
  rfl
theorem cat_size (s : ByteArray) : (s ++ (⟨#[46]⟩ : ByteArray)).size = s.size + 1 := by
  rw [ByteArray.size_append]; rfl
theorem neq_self (V : Fi) (w : World) : (binOp .neq 26 (.agg V.cs) (.agg V.cs)).run Try.prog w = .ok (.bool false) w := by
  have := neq_fi V V w
  rw [(feq_iff V V).2 rfl] at this
  exact this
theorem neq_bool (b : Bool) (w : World) : (binOp .neq 4 (.bool b) (.bool b)).run Try.prog w = .ok (.bool false) w := by cases b <;> kernel_rfl
theorem mkf_cs : (Value.agg #[.string ⟨#[109, 97, 114, 107]⟩, .int .i64 0, .int .i64 0, .int .i64 0, .int .i64 (-1), .int .i64 0, .int .i64 0, .int .i64 0]) = .agg mkf.cs := rfl
theorem step_apF {w : World} {ops : Array Oper} {o : Oper} {a : Act} {K : Act → World → Prop} {Q : Exit → Act → World → Prop} {E : Prop} (hgd : o.guard = none) (s x : Operand) (ho : o.op = .call { callee := .builtin .append, args := #[s, x], argTypes := #[22, 22] })
    (base : Nat) (v : Value) (es : List Fi) (hs : a.eval s = v) (hown : Of w base v es) (p : Option Addr) (m c : Nat) (g : Nat → Fi) (hx : a.eval x = .slice p m c) (hr : FL w p m g)
    (hb : (es.length + m) * 72 ≤ 140737488355328) (hbase : base ≤ w.heap.size)
    (h : ∀ v' w', Of w' base v' (es ++ rgl m g) → w.grownBy w' v.ownBlock → K (a.put o.dst v') w') : if Region.wanted o (yielded ops a.tmps) = true then Oper.wp Try.prog o a w K Q else E := by
  have hw : Region.wanted o (yielded ops a.tmps) = true := by simp [Region.wanted, hgd]
  rw [if_pos hw]
  obtain ⟨i0, hi0, hz0, hz1, hz2⟩ := info_parts infoF
  have fin : ∀ v' w', w'.ownsRow base 26 8 v' (es.length + m) (fls es ++ fls (rgl m g)) → Of w' base v' (es ++ rgl m g) := by
    intro v' w' h2
    unfold Of
    rw [fls_app, List.length_append, rgl_len]
    exact h2
  cases p with
  | some ad =>
    have hsrc : ∀ j u, (fls (rgl m g))[j]? = some u → w.cell? (ad.add j) = some u := by
      intro j u hu
      have hj : j < m * 8 := by
        have := (List.getElem?_eq_some_iff.1 hu).1
        rw [fls_len, rgl_len] at this
        exact this
      rcases hr with h0 | ⟨b, o, e, hc⟩
      · omega
      · injection e with e
        subst e
        have hdm : j / 8 * 8 + j % 8 = j := by omega
        rw [← hdm, fls_at _ _ _ (by rw [rgl_len]; omega) (by omega), rgl_get _ _ _ (by omega)] at hu
        have := hc (j / 8) (by omega) (j % 8) u hu
        rw [add_pl]
        rw [Nat.add_assoc, hdm] at this
        exact this
    refine wp_append_own w s x 22 ho base 26 i0 (.agg fi0.cs) 8 72 Try.underlying22 hi0 hz0 hz1 hz2 rfl (by decide) v es.length (fls es) hs hown ad m c (fls (rgl m g)) hx (by rw [fls_len, rgl_len]) hsrc (fls_one _) (by unfold maxLen; omega) hb hbase ?_
    intro v' w' h2 h3 _
    exact h v' w' (fin _ _ h2) h3
  | none =>
    have hm0 : m = 0 := by
      rcases hr with e | ⟨b, off, e, _⟩
      · exact e
      · cases e
    subst hm0
    obtain ⟨q, cap, rfl, hcap⟩ := own_form hown
    have hrun := run_append_nix (P := Try.prog) (w := w) 22 o.type 26 i0 Try.underlying22 hi0 q es.length cap c hcap
    unfold Oper.wp
    simp [execOp, ho, resolve, invoke, builtin, hs, hx, hrun, Result.andThen]
    exact h _ w (fin _ _ (by have h9 := hown; unfold Of at h9; simpa [rgl, fls] using h9)) ⟨rfl, rfl, rfl, Nat.le_refl _, fun _ _ _ => rfl⟩
theorem Of.some2 {w : World} {B : Nat} {v : Value} {es : List Fi} (h : Of w B v es) {n : Nat} (hn : es.length = n) (h0 : 0 < n) : ∃ g cap, v = .slice (some ⟨g, 0, none⟩) n cap ∧ n ≤ cap ∧ B ≤ g := by
  subst hn
  rcases h.2 with ⟨_, h1⟩ | ⟨g, cap, cur, hv, hb, _, hn, _⟩
  · omega
  · exact ⟨g, cap, hv, hn, hb⟩
theorem bnd2 {n : Nat} (h : n * 72 ≤ 140737488351232) : (n + 2) * 72 ≤ 140737488355328 := by omega
section
attribute [local irreducible] Calls Fi.cs GB wfi worse bi wst Of feq
set_option maxHeartbeats 16000000 in
set_option maxRecDepth 1000000 in
theorem auditWorst_walk {w : World} {p : Option Addr} {n c : Nat} {f : Nat → Fi} (HS : FL w p n f) (hn : n * 72 ≤ 140737488351232) (hk : ∀ i, i < n → (f i).ks.size ≤ 140737488351232) :
    Calls Try.prog 3 #[.slice p n c] w fun e w' => e = .returned (.bool true) ∧ Below w.heap.size w w' := by
  have HK := (show Hid (∀ i, i < n → (f i).ks.size ≤ 140737488351232) from hk)
  have HF' := (show Hid (FL w p n f) from HS)
  clear HS hk
  have HNN := (show Hid (n * 72 ≤ 140737488351232) from hn)
  clear hn
  go_enter Try.func3, Try.ntmps3
  go_wp2_with (first
    | (refine wpList_alB rfl rfl zero_Fi ?_; intro w2 hG2 hb2 hs2)
    | (refine wpList_stB (cs := mkf.cs) rfl _ _ rfl rfl w.heap.size rfl mkf_cs hG2 (size_FiS _) (fcs_same _ _) (fcs_one _) ?_; intro w3 hG3 hg3 hs3; have HB3 := (show Hid (Below w.heap.size w w3) from grown_below hb2 hg3 hb2.size (Nat.le_refl _))))
  obtain ⟨g3, hg3'⟩ : ∃ g3, w.heap.size = g3 := ⟨_, rfl⟩
  rw [hg3'] at hG3 ⊢
  have HX3 := (show Hid (g3 < w3.heap.size) from hG3.lt)
  have HG3 := (show Hid (GB w3 g3 26 mkf.cs) from hG3)
  have HF3 := (show Hid (FL w3 p n f) from HF'.out.below HB3.out)
  have HN := (show Hid ((n * 72 ≤ 140737488355328 ∧ (n + 2) * 72 ≤ 140737488355328)) from ⟨by have := HNN.out; omega, bnd2 HNN.out⟩)
  have HE3 := (show Hid (w.heap.size = g3) from hg3')
  clear hG2 hG3 hb2 hs2 hg3 hs3 HF' hg3'
  simp only [Act.put, List.setIfInBounds_toArray, List.set_cons_zero, List.set_cons_succ]
  go_cut [4] from 13 to 18 (fun v wx => ∃ (gl cl : Nat), v = .slice (some ⟨gl, 0, none⟩) (n + 2) cl ∧ Hid (n + 2 ≤ cl) ∧ Hid (w3.drew.heap.size ≤ gl) ∧ Hid (Of wx w3.drew.heap.size (.slice (some ⟨gl, 0, none⟩) (n + 2) cl) (rgl n f ++ rgl 2 fun _ => mkf)) ∧ Hid (Below w3.drew.heap.size w3.drew wx))
  case first =>
    have hd3 : Below w3.heap.size w3 w3.drew := (Below.refl _ _).drew
    have HG3d := (show Hid (GB w3.drew g3 26 mkf.cs) from HG3.out.below hd3)
    have HF := (show Hid (FL w3.drew p n f) from HF3.out.below hd3)
    refine wp_region_held_drew (S := fun X => (loadVar 26 ⟨g3, 0, none⟩).run Try.prog X = .ok (.agg mkf.cs) X) (by kernel_rfl) HG3d.out.fiRun (fun hHeld => ?_)
    clear HG3 HF3 hd3
    have HG3 := HG3d
    clear HG3d
    generalize w3.drew = X0 at *
    have HBc := (show Hid (Below X0.heap.size X0 X0) from Below.refl _ _)
    refine takeHr (i := 0) (d := some 13) (v := ?v1) rfl rfl (by kernel_rfl) (by kernel_rfl) (by kernel_rfl) (fun _ _ _ h => h) (Or.inl ⟨by rfl, ?hy1⟩) hHeld ?rest1
    case hy1 => intro X hSw; go_simp <;> with_reducible rfl
    try simp only [Act.put, List.setIfInBounds_toArray, List.set_cons_zero, List.set_cons_succ]
    refine takeHr (i := 2) (d := some 15) (v := .agg mkf.cs) rfl rfl (by kernel_rfl) (by kernel_rfl) (by kernel_rfl) (fun _ _ _ h => h) (Or.inl ⟨by rfl, ?hy2⟩) hHeld ?rest2
    case hy2 => intro X hSw; exact ex_ldR rfl rfl hSw
    try simp only [Act.put, List.setIfInBounds_toArray, List.set_cons_zero, List.set_cons_succ]
    refine takeHr (i := 3) (d := some 16) (v := .agg mkf.cs) rfl rfl (by kernel_rfl) (by kernel_rfl) (by kernel_rfl) (fun _ _ _ h => h) (Or.inl ⟨by rfl, ?hy3⟩) hHeld ?rest3
    case hy3 => intro X hSw; exact ex_ldR rfl rfl hSw
    try simp only [Act.put, List.setIfInBounds_toArray, List.set_cons_zero, List.set_cons_succ]
    refine wpAnyH_ready (rs := [1, 4]) (by kernel_rfl) (by simp) ?_
    refine AllReadyH.cons (o := { dst := some 14, op := Op.call { callee := Callee.builtin Builtin.append, args := #[Operand.const (Value.slice none 0 0), Operand.tmp 13], argTypes := #[22, 22] }, type := 22, pos := "law.go:280", after := #[{ on := 0, ground := Ground.data }], guard := none }) rfl (fun Kq hKq => ?_) (AllReadyH.cons (o := { dst := some 17, op := Op.buildSlice 22 2 #[(0, Operand.tmp 15), (1, Operand.tmp 16)], type := 22, pos := "law.go:280", after := #[{ on := 2, ground := Ground.data }, { on := 3, ground := Ground.data }], guard := none }) rfl (fun Kq hKq => ?_) AllReadyH.nil)
    · skip
      refine step_apF rfl (.const (.slice none 0 0)) (.tmp 13) rfl X0.heap.size (.slice none 0 0) [] rfl (of_nil _ _) p n c f rfl (HF.out.below HBc.out) (by simpa using HN.out.1) HBc.out.size ?_
      intro v14 y4 hO14 hg4
      have hb4 : Below X0.heap.size X0 y4 := (Below.refl _ _).grown hg4 (Nat.le_refl _) (fun k hk => by cases hk)
      replace HBc := (show Hid (Below X0.heap.size X0 y4) from bt HBc.out hb4)
      try replace HG17 := (show Hid (GB y4 g17 26 (mkf.cs ++ mkf.cs)) from HG17.out.below hb4)
      have HO14 := (show Hid (Of y4 X0.heap.size v14 ([] ++ rgl n f)) from hO14)
      clear hO14 hg4 hb4
      refine hKq.out _ _ (HG3.out.below HBc.out).fiRun (fun hHeld => ?_)
      clear hKq Kq
      try simp only [Act.put, List.setIfInBounds_toArray, List.set_cons_zero, List.set_cons_succ]
      refine wpAnyH_ready (rs := [4]) (by kernel_rfl) (by simp) ?_
      refine AllReadyH.cons (o := { dst := some 17, op := Op.buildSlice 22 2 #[(0, Operand.tmp 15), (1, Operand.tmp 16)], type := 22, pos := "law.go:280", after := #[{ on := 2, ground := Ground.data }, { on := 3, ground := Ground.data }], guard := none }) rfl (fun Kq hKq => ?_) AllReadyH.nil
      · skip
        refine step_bsF2 rfl (.tmp 15) (.tmp 16) rfl mkf mkf rfl rfl ?_
        intro g17 y5 hG17 hb5 hgg
        replace HBc := (show Hid (Below X0.heap.size X0 y5) from bt HBc.out hb5)
        try replace HO14 := (show Hid (Of y5 X0.heap.size v14 ([] ++ rgl n f)) from HO14.out.below hb5)
        have HG17 := (show Hid (GB y5 g17 26 (mkf.cs ++ mkf.cs)) from hG17)
        clear hG17 hgg hb5
        refine hKq.out _ _ (HG3.out.below HBc.out).fiRun (fun hHeld => ?_)
        clear hKq Kq
        try simp only [Act.put, List.setIfInBounds_toArray, List.set_cons_zero, List.set_cons_succ]
        refine wpAnyH_ready (rs := [5]) (by kernel_rfl) (by simp) ?_
        refine AllReadyH.cons (o := { dst := some 18, op := Op.call { callee := Callee.builtin Builtin.append, args := #[Operand.tmp 14, Operand.tmp 17], argTypes := #[22, 22] }, type := 22, pos := "law.go:280", after := #[{ on := 1, ground := Ground.data }, { on := 4, ground := Ground.data }, { on := 1, ground := Ground.chain }], guard := none }) rfl (fun Kq hKq => ?_) AllReadyH.nil
        · skip
          refine step_apF rfl (.tmp 14) (.tmp 17) rfl X0.heap.size v14 ([] ++ rgl n f) rfl HO14.out (some ⟨g17, 0, none⟩) 2 2 (fun _ => mkf) rfl ((gb_fl2 HG17.out).congr (fun i _ => by by_cases e : i = 0 <;> simp [e])) (by rw [nil_app, rgl_len]; exact HN.out.2) HBc.out.size ?_
          intro v18 y6 hO18 hg6
          replace HBc := (show Hid (Below X0.heap.size X0 y6) from HO14.out.grown HBc.out HBc.out.size hg6 (Nat.le_refl _))
          have HO18 := (show Hid (Of y6 X0.heap.size v18 (rgl n f ++ rgl 2 fun _ => mkf)) from hO18)
          clear hO18 hg6 HO14 HG17
          refine hKq.out _ _ (HG3.out.below HBc.out).fiRun (fun hHeld => ?_)
          clear hKq Kq
          try simp only [Act.put, List.setIfInBounds_toArray, List.set_cons_zero, List.set_cons_succ]
          refine takeHr (i := 6) (d := some 4) (v := ?v7) rfl rfl (by kernel_rfl) (by kernel_rfl) (by kernel_rfl) (fun _ _ _ h => h) (Or.inl ⟨by rfl, ?hy7⟩) hHeld ?rest7
          case hy7 => intro X hSw; go_simp <;> with_reducible rfl
          try simp only [Act.put, List.setIfInBounds_toArray, List.set_cons_zero, List.set_cons_succ]
          refine wpAnyH_done (by kernel_rfl) ?_ _
          clear hHeld
          go_wp2_with (fail)
          go_meet
          case rel =>
            obtain ⟨gl, cl, e1, e2, e3⟩ := HO18.out.some2 (n := n + 2) (by rw [List.length_append, rgl_len, rgl_len]) (by omega)
            refine ⟨gl, cl, e1, e2, e3, ?_, HBc.out⟩
            rw [← e1]; exact HO18.out
    · skip
      refine step_bsF2 rfl (.tmp 15) (.tmp 16) rfl mkf mkf rfl rfl ?_
      intro g17 y8 hG17 hb8 hgg
      replace HBc := (show Hid (Below X0.heap.size X0 y8) from bt HBc.out hb8)
      try replace HO14 := (show Hid (Of y8 X0.heap.size v14 ([] ++ rgl n f)) from HO14.out.below hb8)
      have HG17 := (show Hid (GB y8 g17 26 (mkf.cs ++ mkf.cs)) from hG17)
      clear hG17 hgg hb8
      refine hKq.out _ _ (HG3.out.below HBc.out).fiRun (fun hHeld => ?_)
      clear hKq Kq
      try simp only [Act.put, List.setIfInBounds_toArray, List.set_cons_zero, List.set_cons_succ]
      refine wpAnyH_ready (rs := [1]) (by kernel_rfl) (by simp) ?_
      refine AllReadyH.cons (o := { dst := some 14, op := Op.call { callee := Callee.builtin Builtin.append, args := #[Operand.const (Value.slice none 0 0), Operand.tmp 13], argTypes := #[22, 22] }, type := 22, pos := "law.go:280", after := #[{ on := 0, ground := Ground.data }], guard := none }) rfl (fun Kq hKq => ?_) AllReadyH.nil
      · skip
        refine step_apF rfl (.const (.slice none 0 0)) (.tmp 13) rfl X0.heap.size (.slice none 0 0) [] rfl (of_nil _ _) p n c f rfl (HF.out.below HBc.out) (by simpa using HN.out.1) HBc.out.size ?_
        intro v14 y9 hO14 hg9
        have hb9 : Below y8.heap.size y8 y9 := (Below.refl _ _).grown hg9 (Nat.le_refl _) (fun k hk => by cases hk)
        replace HBc := (show Hid (Below X0.heap.size X0 y9) from bt HBc.out hb9)
        try replace HG17 := (show Hid (GB y9 g17 26 (mkf.cs ++ mkf.cs)) from HG17.out.below hb9)
        have HO14 := (show Hid (Of y9 X0.heap.size v14 ([] ++ rgl n f)) from hO14)
        clear hO14 hg9 hb9
        refine hKq.out _ _ (HG3.out.below HBc.out).fiRun (fun hHeld => ?_)
        clear hKq Kq
        try simp only [Act.put, List.setIfInBounds_toArray, List.set_cons_zero, List.set_cons_succ]
        refine wpAnyH_ready (rs := [5]) (by kernel_rfl) (by simp) ?_
        refine AllReadyH.cons (o := { dst := some 18, op := Op.call { callee := Callee.builtin Builtin.append, args := #[Operand.tmp 14, Operand.tmp 17], argTypes := #[22, 22] }, type := 22, pos := "law.go:280", after := #[{ on := 1, ground := Ground.data }, { on := 4, ground := Ground.data }, { on := 1, ground := Ground.chain }], guard := none }) rfl (fun Kq hKq => ?_) AllReadyH.nil
        · skip
          refine step_apF rfl (.tmp 14) (.tmp 17) rfl X0.heap.size v14 ([] ++ rgl n f) rfl HO14.out (some ⟨g17, 0, none⟩) 2 2 (fun _ => mkf) rfl ((gb_fl2 HG17.out).congr (fun i _ => by by_cases e : i = 0 <;> simp [e])) (by rw [nil_app, rgl_len]; exact HN.out.2) HBc.out.size ?_
          intro v18 y10 hO18 hg10
          replace HBc := (show Hid (Below X0.heap.size X0 y10) from HO14.out.grown HBc.out HBc.out.size hg10 (Nat.le_refl _))
          have HO18 := (show Hid (Of y10 X0.heap.size v18 (rgl n f ++ rgl 2 fun _ => mkf)) from hO18)
          clear hO18 hg10 HO14 HG17
          refine hKq.out _ _ (HG3.out.below HBc.out).fiRun (fun hHeld => ?_)
          clear hKq Kq
          try simp only [Act.put, List.setIfInBounds_toArray, List.set_cons_zero, List.set_cons_succ]
          refine takeHr (i := 6) (d := some 4) (v := ?v11) rfl rfl (by kernel_rfl) (by kernel_rfl) (by kernel_rfl) (fun _ _ _ h => h) (Or.inl ⟨by rfl, ?hy11⟩) hHeld ?rest11
          case hy11 => intro X hSw; go_simp <;> with_reducible rfl
          try simp only [Act.put, List.setIfInBounds_toArray, List.set_cons_zero, List.set_cons_succ]
          refine wpAnyH_done (by kernel_rfl) ?_ _
          clear hHeld
          go_wp2_with (fail)
          go_meet
          case rel =>
            obtain ⟨gl, cl, e1, e2, e3⟩ := HO18.out.some2 (n := n + 2) (by rw [List.length_append, rgl_len, rgl_len]) (by omega)
            refine ⟨gl, cl, e1, e2, e3, ?_, HBc.out⟩
            rw [← e1]; exact HO18.out
  case rest =>
    obtain ⟨gl, cl, rfl, hcl, hgl, HO, HB⟩ := hcut
    obtain ⟨M, hM⟩ : ∃ M, n + 2 = M := ⟨_, rfl⟩
    obtain ⟨K1, hK1⟩ : ∃ K1, n + 1 = K1 := ⟨_, rfl⟩
    have HMK := (show Hid (n + 2 = M ∧ n + 1 = K1) from ⟨hM, hK1⟩)
    have HL0 := (show Hid (LtP (rgl n f ++ rgl 2 fun _ => mkf) n (140737488351232 + 0)) from LtP.new HK.out)
    rw [hM] at HO hcl ⊢
    have HO0 := (show Hid (Of wc w3.heap.size (.slice (some ⟨gl, 0, none⟩) M cl) (rgl n f ++ rgl 2 fun _ => mkf)) from HO.out)
    have hd3 : Below w3.heap.size w3 w3.drew := (Below.refl _ _).drew
    have HB0 := (show Hid (Below w3.heap.size w3 wc) from bt hd3 HB.out)
    have HGL := (show Hid (w3.heap.size ≤ gl) from hgl.out)
    have HCL := (show Hid (M ≤ cl) from hcl.out)
    generalize rgl n f ++ rgl 2 (fun _ => mkf) = es0 at *
    clear hM hK1 hgl hcl HO HB HK hd3
    obtain ⟨vD, hvD⟩ : ∃ vD, Value.slice (some ⟨gl, 0, none⟩) M cl = vD := ⟨_, rfl⟩
    clear hvD vD
    go_wp2_with (fail)
    go_loopw [5] (fun i wr => ∃ (t : Nat) (es : List Fi), t ≤ 3 ∧ i = .int .i64 (t : Int) ∧ Hid (LtP es n (140737488351232 + t)) ∧ Hid (Of wr w3.heap.size (.slice (some ⟨gl, 0, none⟩) M cl) es) ∧ Hid (Below w3.heap.size w3 wr)) (fun i _ => 3 - (intOf i).toNat)
    case atStart => exact ⟨0, es0, Nat.zero_le _, rfl, HL0.out, HO0.out, HB0.out⟩
    case round =>
      obtain ⟨t, es, ht, rfl, HL, HO, HB⟩ := hrel
      by_cases hlt : t < 3
      · have hi : (t : Int) < 3 := by omega
        have HT := (show Hid (t < 3) from hlt)
        have WT := (show Hid (wrap64 ((t : Int) + 1) = ((t + 1 : Nat) : Int)) from by show _ = _; unfold wrap64; omega)
        obtain ⟨W0, hW0⟩ : ∃ W0, W0 = wr := ⟨_, rfl⟩
        subst hW0
        obtain ⟨G, hG⟩ : ∃ G : Nat → Fi, (fun i => es.getD i fi0) = G := ⟨_, rfl⟩
        have HLf := (show Hid (FL W0 (some ⟨gl, 0, none⟩) n G) from by rw [← hG]; exact HO.out.lfl (by have := HL.out.1; omega))
        have i1 : (n : Int) ≤ (cl : Int) := by have := HCL.out; have := HMK.out; omega
        have u1 : Hid (0 = 0) := rfl
        obtain ⟨V, hV⟩ : ∃ V, wst G n = V := ⟨_, rfl⟩
        obtain ⟨D, hD⟩ : ∃ D, decide (0 < n) = D := ⟨_, rfl⟩
        have HVD := (show Hid (wst G n = V ∧ decide (0 < n) = D) from ⟨hV, hD⟩)
        clear hlt ht hV hD hG HL0 HO0 HB0
        go_wp2_with (first
          | (revert u1; intro u1; refine wpList_apF rfl (.const (.slice none 0 0)) _ rfl W0.heap.size (.slice none 0 0) [] rfl (of_nil _ _) (some ⟨gl, 0, none⟩) n cl G rfl HLf.out (by simpa using HN.out.1) (Nat.le_refl _) ?_; intro v1 x1 hO1 hg1; rw [nil_app] at hO1; have HB1 := (show Hid (Below W0.heap.size W0 x1) from (of_nil W0 W0.heap.size).grown (Below.refl _ _) (Nat.le_refl _) hg1 (Nat.le_refl _)); obtain ⟨p1, c1, e1, hc1, hF1⟩ := hO1.fl (rgl_len n G); subst e1; have HOf := (show Hid (FL x1 p1 n G) from hF1.congr (fun i hi => rgl_get n G i hi)); clear u1 hO1 hg1 hc1 hF1; have u2 : Hid (0 = 0) := rfl)
          | (revert u2; intro u2; go_at_call 5; refine (rworst_any HOf.out (by have := HN.out.1; omega)).mono ?_; rw [HVD.out.1, HVD.out.2]; rintro e x2 ⟨rfl, hb2⟩)
          | (revert u2; intro u2; refine wpList_alB rfl rfl zero_Fi ?_; intro x3 hG3 hb3 hs3)
          | (revert u2; intro u2; refine wpList_stB (cs := V.cs) rfl _ _ rfl rfl x2.heap.size rfl rfl hG3 (size_FiS _) (fcs_same _ _) (fcs_one _) ?_; intro x4 hG7 hg4 hs4; have HB4 := (show Hid (Below x1.heap.size x1 x4) from grown_below (bt hb2 hb3) hg4 (Nat.le_trans hb2.size hb3.size) hb2.size); obtain ⟨g7, hg7⟩ : ∃ g7, x2.heap.size = g7 := ⟨_, rfl⟩; rw [hg7] at hG7 ⊢; have HG7 := (show Hid (GB x4 g7 26 V.cs) from hG7); have HBB := (show Hid (Below W0.heap.size W0 x4) from bt HB1.out HB4.out); have HOf4 := (show Hid (FL x4 p1 n G) from HOf.out.below HB4.out); clear u2 hG3 hb2 hb3 hs3 hG7 hg4 hs4 hg7 HOf HB1 HB4; have u3 : Hid (0 = 0) := rfl)
          | (revert u3; intro u3; go_at_call 6; refine (worst_any (HLf.out.below HBB.out) (by have := HN.out.1; omega)).mono ?_; rw [HVD.out.1, HVD.out.2]; rintro e x5 ⟨rfl, hb5⟩)
          | (revert u3; intro u3; refine wpList_alB rfl rfl zero_Fi ?_; intro x6 hG6 hb6 hs6)
          | (revert u3; intro u3; refine wpList_stB (cs := V.cs) rfl _ _ rfl rfl x5.heap.size rfl rfl hG6 (size_FiS _) (fcs_same _ _) (fcs_one _) ?_; intro x7 hG9 hg9 hs9; have HB7 := (show Hid (Below x4.heap.size x4 x7) from grown_below (bt hb5 hb6) hg9 (Nat.le_trans hb5.size hb6.size) hb5.size); obtain ⟨g9, hg9'⟩ : ∃ g9, x5.heap.size = g9 := ⟨_, rfl⟩; rw [hg9'] at hG9 ⊢; have HG9 := (show Hid (GB x7 g9 26 V.cs) from hG9); clear u3 hG6 hb5 hb6 hs6 hG9 hg9 hs9 hg9'))
        have hd7 : Below x7.heap.size x7 x7.drew := (Below.refl _ _).drew
        have HBx := (show Hid (Below W0.heap.size W0 x7) from bt HBB.out HB7.out)
        have HBr := (show Hid (Below w3.heap.size w3 x7) from HB.out.trans (HBx.out.mono HB.out.size))
        have HOr := (show Hid (Of x7 w3.heap.size (.slice (some ⟨gl, 0, none⟩) M cl) es) from HO.out.below HBx.out)
        have HOf := (show Hid (FL x7.drew p1 n G) from (HOf4.out.below HB7.out).below hd7)
        have HG7r := (show Hid (GB x7 g7 26 V.cs) from HG7.out.below HB7.out)
        have HG3r := (show Hid (GB x7 g3 26 mkf.cs) from HG3.out.keep HBr.out HX3.out)
        have hm0 := HOr.out.at (i := n) (by have := HL.out.1; omega)
        rw [HL.out.2.1] at hm0
        have hm1 := HOr.out.at (i := n + 1) (by have := HL.out.1; omega)
        rw [HL.out.2.2.1, HMK.out.2] at hm1
        have HM0 := (show Hid (FiAt x7 gl (n * 8) mkf) from hm0)
        have HM1 := (show Hid (FiAt x7 gl (K1 * 8) mkf) from hm1)
        replace HLf := (show Hid (FL x7.drew (some ⟨gl, 0, none⟩) n G) from (HLf.out.below HBx.out).below hd7)
        have HG7 := HG7r
        have nM : n < M := by have := HMK.out; omega
        have kM : K1 < M := by have := HMK.out; omega
        have WK : IntKind.i64.wrap ((n : Int) + 1) = (K1 : Int) := by rw [IntKind.wrap_i64]; have := HN.out.1; have := HMK.out; omega
        clear hm0 hm1 HBB HB7 HBx HO HB HOf4 HG7r
        refine wp_region_held_drew (S := fun X => (loadVar 26 ⟨g9, 0, none⟩).run Try.prog X = .ok (.agg V.cs) X ∧ (loadVar 26 ⟨g7, 0, none⟩).run Try.prog X = .ok (.agg V.cs) X ∧ (loadVar 26 ⟨gl, n * 8, none⟩).run Try.prog X = .ok (.agg mkf.cs) X ∧ (loadVar 26 ⟨gl, K1 * 8, none⟩).run Try.prog X = .ok (.agg mkf.cs) X ∧ (loadVar 26 ⟨g3, 0, none⟩).run Try.prog X = .ok (.agg mkf.cs) X) (by kernel_rfl) ⟨(HG9.out.below hd7).fiRun, (HG7.out.below hd7).fiRun, (HM0.out.below hd7).run, (HM1.out.below hd7).run, (HG3r.out.below hd7).fiRun⟩ (fun hHeld => ?_)
        refine takeHr (i := 0) (d := some 41) (v := .agg V.cs) rfl rfl (by kernel_rfl) (by kernel_rfl) (by kernel_rfl) (fun _ _ _ h => h) (Or.inl ⟨by rfl, ?hy12⟩) hHeld ?rest12
        case hy12 => intro X hSw; exact ex_ldR rfl rfl hSw.1
        try simp only [Act.put, List.setIfInBounds_toArray, List.set_cons_zero, List.set_cons_succ]
        refine takeHr (i := 1) (d := some 42) (v := .agg V.cs) rfl rfl (by kernel_rfl) (by kernel_rfl) (by kernel_rfl) (fun _ _ _ h => h) (Or.inl ⟨by rfl, ?hy13⟩) hHeld ?rest13
        case hy13 => intro X hSw; exact ex_ldR rfl rfl hSw.2.1
        try simp only [Act.put, List.setIfInBounds_toArray, List.set_cons_zero, List.set_cons_succ]
        refine takeHr (i := 2) (d := some 43) (v := .bool false) rfl rfl (by kernel_rfl) (by kernel_rfl) (by kernel_rfl) (fun _ _ _ h => h) (Or.inl ⟨by rfl, ?hy14⟩) hHeld ?rest14
        case hy14 => intro X hSw; exact ex_bin rfl rfl rfl (by kernel_rfl) (neq_self _ _)
        try simp only [Act.put, List.setIfInBounds_toArray, List.set_cons_zero, List.set_cons_succ]
        refine takeHr (i := 3) (d := some 44) (v := ?v15) rfl rfl (by kernel_rfl) (by kernel_rfl) (by kernel_rfl) (fun _ _ _ h => h) (Or.inl ⟨by rfl, ?hy15⟩) hHeld ?rest15
        case hy15 => intro X hSw; obtain ⟨g1, g2, g3, g4, g5⟩ := hSw; go_simp <;> with_reducible rfl
        try simp only [Act.put, List.setIfInBounds_toArray, List.set_cons_zero, List.set_cons_succ]
        refine takeHr (i := 4) (d := some 45) (v := ?v16) rfl rfl (by kernel_rfl) (by kernel_rfl) (by kernel_rfl) (fun _ _ _ h => h) (Or.inl ⟨by rfl, ?hy16⟩) hHeld ?rest16
        case hy16 => intro X hSw; obtain ⟨g1, g2, g3, g4, g5⟩ := hSw; go_simp <;> with_reducible rfl
        try simp only [Act.put, List.setIfInBounds_toArray, List.set_cons_zero, List.set_cons_succ]
        refine takeHr (i := 5) (d := some 46) (v := ?v17) rfl rfl (by kernel_rfl) (by kernel_rfl) (by kernel_rfl) (fun _ _ _ h => h) (Or.inl ⟨by rfl, ?hy17⟩) hHeld ?rest17
        case hy17 => intro X hSw; obtain ⟨g1, g2, g3, g4, g5⟩ := hSw; go_simp <;> with_reducible rfl
        try simp only [Act.put, List.setIfInBounds_toArray, List.set_cons_zero, List.set_cons_succ]
        refine takeHr (i := 6) (d := some 47) (v := .bool false) rfl rfl (by kernel_rfl) (by kernel_rfl) (by kernel_rfl) (fun _ _ _ h => h) (Or.inl ⟨by rfl, ?hy18⟩) hHeld ?rest18
        case hy18 => intro X hSw; exact ex_bin rfl rfl rfl (by kernel_rfl) (neq_bool _ _)
        try simp only [Act.put, List.setIfInBounds_toArray, List.set_cons_zero, List.set_cons_succ]
        refine takeHr (i := 7) (d := some 48) (v := ?v19) rfl rfl (by kernel_rfl) (by kernel_rfl) (by kernel_rfl) (fun _ _ _ h => h) (Or.inl ⟨by rfl, ?hy19⟩) hHeld ?rest19
        case hy19 => intro X hSw; obtain ⟨g1, g2, g3, g4, g5⟩ := hSw; go_simp <;> with_reducible rfl
        try simp only [Act.put, List.setIfInBounds_toArray, List.set_cons_zero, List.set_cons_succ]
        refine takeHr (i := 8) (d := some 49) (v := ?v20) rfl rfl (by kernel_rfl) (by kernel_rfl) (by kernel_rfl) (fun _ _ _ h => h) (Or.inl ⟨by rfl, ?hy20⟩) hHeld ?rest20
        case hy20 => intro X hSw; obtain ⟨g1, g2, g3, g4, g5⟩ := hSw; go_simp <;> with_reducible rfl
        try simp only [Act.put, List.setIfInBounds_toArray, List.set_cons_zero, List.set_cons_succ]
        refine takeHr (i := 9) (d := some 50) (v := ?v21) rfl rfl (by kernel_rfl) (by kernel_rfl) (by kernel_rfl) (fun _ _ _ h => h) (Or.inl ⟨by rfl, ?hy21⟩) hHeld ?rest21
        case hy21 => intro X hSw; obtain ⟨g1, g2, g3, g4, g5⟩ := hSw; go_simp <;> with_reducible rfl
        try simp only [Act.put, List.setIfInBounds_toArray, List.set_cons_zero, List.set_cons_succ]
        refine takeHr (i := 10) (d := some 51) (v := ?v22) rfl rfl (by kernel_rfl) (by kernel_rfl) (by kernel_rfl) (fun _ _ _ h => h) (Or.inl ⟨by rfl, ?hy22⟩) hHeld ?rest22
        case hy22 => intro X hSw; obtain ⟨g1, g2, g3, g4, g5⟩ := hSw; go_simp <;> with_reducible rfl
        try simp only [Act.put, List.setIfInBounds_toArray, List.set_cons_zero, List.set_cons_succ]
        refine takeHr (i := 11) (d := some 52) (v := ?v23) rfl rfl (by kernel_rfl) (by kernel_rfl) (by kernel_rfl) (fun _ _ _ h => h) (Or.inl ⟨by rfl, ?hy23⟩) hHeld ?rest23
        case hy23 => intro X hSw; obtain ⟨g1, g2, g3, g4, g5⟩ := hSw; go_simp <;> with_reducible rfl
        try simp only [Act.put, List.setIfInBounds_toArray, List.set_cons_zero, List.set_cons_succ]
        refine takeHr (i := 12) (d := some 53) (v := ?v24) rfl rfl (by kernel_rfl) (by kernel_rfl) (by kernel_rfl) (fun _ _ _ h => h) (Or.inl ⟨by rfl, ?hy24⟩) hHeld ?rest24
        case hy24 => intro X hSw; obtain ⟨g1, g2, g3, g4, g5⟩ := hSw; go_simp <;> with_reducible rfl
        try simp only [Act.put, List.setIfInBounds_toArray, List.set_cons_zero, List.set_cons_succ]
        refine takeHr (i := 13) (d := some 54) (v := ?v25) rfl rfl (by kernel_rfl) (by kernel_rfl) (by kernel_rfl) (fun _ _ _ h => h) (Or.inl ⟨by rfl, ?hy25⟩) hHeld ?rest25
        case hy25 => intro X hSw; obtain ⟨g1, g2, g3, g4, g5⟩ := hSw; go_simp <;> with_reducible rfl
        try simp only [Act.put, List.setIfInBounds_toArray, List.set_cons_zero, List.set_cons_succ]
        refine wpAnyH_ready (rs := [14]) (by kernel_rfl) (by simp) ?_
        refine AllReadyH.cons (o := { dst := some 55, op := Op.call { callee := Callee.value (Operand.func 7), args := #[Operand.tmp 53, Operand.tmp 54], argTypes := #[22, 22] }, type := 4, pos := "law.go:285", after := #[{ on := 12, ground := Ground.data }, { on := 13, ground := Ground.data }, { on := 8, ground := Ground.chain }, { on := 8, ground := Ground.guard }], guard := some (8, false) }) rfl (fun Kq hKq => ?_) AllReadyH.nil
        · go_simp
          refine (same_any HLf.out HOf.out (by have := HN.out.1; omega) (fun _ _ => rfl)).mono ?_
          rintro e y26 ⟨rfl, hb26⟩
          have HBy := (show Hid (Below x7.heap.size x7 y26) from bt hd7 hb26)
          refine hKq.out _ _ ⟨(HG9.out.below HBy.out).fiRun, (HG7.out.below HBy.out).fiRun, by have := (HM0.out.below HBy.out).run; exact this, by have := (HM1.out.below HBy.out).run; exact this, (HG3r.out.below HBy.out).fiRun⟩ (fun hHeld => ?_)
          clear hKq Kq
          try simp only [Act.put, List.setIfInBounds_toArray, List.set_cons_zero, List.set_cons_succ]
          refine takeHr (i := 15) (d := some 56) (v := ?v27) rfl rfl (by kernel_rfl) (by kernel_rfl) (by kernel_rfl) (fun _ _ _ h => h) (Or.inl ⟨by rfl, ?hy27⟩) hHeld ?rest27
          case hy27 => intro X hSw; obtain ⟨g1, g2, g3, g4, g5⟩ := hSw; go_simp <;> with_reducible rfl
          try simp only [Act.put, List.setIfInBounds_toArray, List.set_cons_zero, List.set_cons_succ]
          refine takeHr (i := 16) (d := some 57) (v := ?v28) rfl rfl (by kernel_rfl) (by kernel_rfl) (by kernel_rfl) (fun _ _ _ h => h) (Or.inl ⟨by rfl, ?hy28⟩) hHeld ?rest28
          case hy28 => intro X hSw; obtain ⟨g1, g2, g3, g4, g5⟩ := hSw; go_simp <;> with_reducible rfl
          try simp only [Act.put, List.setIfInBounds_toArray, List.set_cons_zero, List.set_cons_succ]
          refine takeHr (i := 17) (d := some 58) (v := ?v29) rfl rfl (by kernel_rfl) (by kernel_rfl) (by kernel_rfl) (fun _ _ _ h => h) (Or.inl ⟨by rfl, ?hy29⟩) hHeld ?rest29
          case hy29 => intro X hSw; obtain ⟨g1, g2, g3, g4, g5⟩ := hSw; go_simp <;> with_reducible rfl
          try simp only [Act.put, List.setIfInBounds_toArray, List.set_cons_zero, List.set_cons_succ]
          refine takeHr (i := 18) (d := some 59) (v := ?v30) rfl rfl (by kernel_rfl) (by kernel_rfl) (by kernel_rfl) (fun _ _ _ h => h) (Or.inl ⟨by rfl, ?hy30⟩) hHeld ?rest30
          case hy30 => intro X hSw; obtain ⟨g1, g2, g3, g4, g5⟩ := hSw; go_simp <;> with_reducible rfl
          try simp only [Act.put, List.setIfInBounds_toArray, List.set_cons_zero, List.set_cons_succ]
          refine takeHr (i := 19) (d := some 60) (v := ?v31) rfl rfl (by kernel_rfl) (by kernel_rfl) (by kernel_rfl) (fun _ _ _ h => h) (Or.inl ⟨by rfl, ?hy31⟩) hHeld ?rest31
          case hy31 => intro X hSw; obtain ⟨g1, g2, g3, g4, g5⟩ := hSw; go_simp <;> with_reducible rfl
          try simp only [Act.put, List.setIfInBounds_toArray, List.set_cons_zero, List.set_cons_succ]
          refine takeHr (i := 20) (d := some 61) (v := ?v32) rfl rfl (by kernel_rfl) (by kernel_rfl) (by kernel_rfl) (fun _ _ _ h => h) (Or.inl ⟨by rfl, ?hy32⟩) hHeld ?rest32
          case hy32 => intro X hSw; obtain ⟨g1, g2, g3, g4, g5⟩ := hSw; go_simp <;> with_reducible rfl
          try simp only [Act.put, List.setIfInBounds_toArray, List.set_cons_zero, List.set_cons_succ]
          refine takeHr (i := 21) (d := some 62) (v := ?v33) rfl rfl (by kernel_rfl) (by kernel_rfl) (by kernel_rfl) (fun _ _ _ h => h) (Or.inl ⟨by rfl, ?hy33⟩) hHeld ?rest33
          case hy33 => intro X hSw; obtain ⟨g1, g2, g3, g4, g5⟩ := hSw; go_simp <;> with_reducible rfl
          try simp only [Act.put, List.setIfInBounds_toArray, List.set_cons_zero, List.set_cons_succ]
          refine takeHr (i := 22) (d := some 63) (v := .agg mkf.cs) rfl rfl (by kernel_rfl) (by kernel_rfl) (by kernel_rfl) (fun _ _ _ h => h) (Or.inl ⟨by rfl, ?hy34⟩) hHeld ?rest34
          case hy34 => intro X hSw; exact ex_ldR rfl rfl hSw.2.2.1
          try simp only [Act.put, List.setIfInBounds_toArray, List.set_cons_zero, List.set_cons_succ]
          refine takeHr (i := 23) (d := some 64) (v := .agg mkf.cs) rfl rfl (by kernel_rfl) (by kernel_rfl) (by kernel_rfl) (fun _ _ _ h => h) (Or.inl ⟨by rfl, ?hy35⟩) hHeld ?rest35
          case hy35 => intro X hSw; exact ex_ldR rfl rfl hSw.2.2.2.2
          try simp only [Act.put, List.setIfInBounds_toArray, List.set_cons_zero, List.set_cons_succ]
          refine takeHr (i := 24) (d := some 65) (v := .bool false) rfl rfl (by kernel_rfl) (by kernel_rfl) (by kernel_rfl) (fun _ _ _ h => h) (Or.inl ⟨by rfl, ?hy36⟩) hHeld ?rest36
          case hy36 => intro X hSw; exact ex_bin rfl rfl rfl (by kernel_rfl) (neq_self _ _)
          try simp only [Act.put, List.setIfInBounds_toArray, List.set_cons_zero, List.set_cons_succ]
          refine takeHr (i := 25) (d := some 66) (v := ?v37) rfl rfl (by kernel_rfl) (by kernel_rfl) (by kernel_rfl) (fun _ _ _ h => h) (Or.inl ⟨by rfl, ?hy37⟩) hHeld ?rest37
          case hy37 => intro X hSw; obtain ⟨g1, g2, g3, g4, g5⟩ := hSw; go_simp <;> with_reducible rfl
          try simp only [Act.put, List.setIfInBounds_toArray, List.set_cons_zero, List.set_cons_succ]
          refine takeHr (i := 26) (d := some 67) (v := ?v38) rfl rfl (by kernel_rfl) (by kernel_rfl) (by kernel_rfl) (fun _ _ _ h => h) (Or.inl ⟨by rfl, ?hy38⟩) hHeld ?rest38
          case hy38 => intro X hSw; obtain ⟨g1, g2, g3, g4, g5⟩ := hSw; go_simp <;> with_reducible rfl
          try simp only [Act.put, List.setIfInBounds_toArray, List.set_cons_zero, List.set_cons_succ]
          refine takeHr (i := 27) (d := some 68) (v := ?v39) rfl rfl (by kernel_rfl) (by kernel_rfl) (by kernel_rfl) (fun _ _ _ h => h) (Or.inl ⟨by rfl, ?hy39⟩) hHeld ?rest39
          case hy39 => intro X hSw; obtain ⟨g1, g2, g3, g4, g5⟩ := hSw; go_simp <;> with_reducible rfl
          try simp only [Act.put, List.setIfInBounds_toArray, List.set_cons_zero, List.set_cons_succ]
          refine takeHr (i := 28) (d := some 69) (v := ?v40) rfl rfl (by kernel_rfl) (by kernel_rfl) (by kernel_rfl) (fun _ _ _ h => h) (Or.inl ⟨by rfl, ?hy40⟩) hHeld ?rest40
          case hy40 => intro X hSw; obtain ⟨g1, g2, g3, g4, g5⟩ := hSw; go_simp <;> with_reducible rfl
          try simp only [Act.put, List.setIfInBounds_toArray, List.set_cons_zero, List.set_cons_succ]
          refine takeHr (i := 29) (d := some 70) (v := ?v41) rfl rfl (by kernel_rfl) (by kernel_rfl) (by kernel_rfl) (fun _ _ _ h => h) (Or.inl ⟨by rfl, ?hy41⟩) hHeld ?rest41
          case hy41 => intro X hSw; obtain ⟨g1, g2, g3, g4, g5⟩ := hSw; go_simp <;> with_reducible rfl
          try simp only [Act.put, List.setIfInBounds_toArray, List.set_cons_zero, List.set_cons_succ]
          refine takeHr (i := 30) (d := some 71) (v := ?v42) rfl rfl (by kernel_rfl) (by kernel_rfl) (by kernel_rfl) (fun _ _ _ h => h) (Or.inl ⟨by rfl, ?hy42⟩) hHeld ?rest42
          case hy42 => intro X hSw; obtain ⟨g1, g2, g3, g4, g5⟩ := hSw; go_simp <;> with_reducible rfl
          try simp only [Act.put, List.setIfInBounds_toArray, List.set_cons_zero, List.set_cons_succ]
          refine takeHr (i := 31) (d := some 72) (v := ?v43) rfl rfl (by kernel_rfl) (by kernel_rfl) (by kernel_rfl) (fun _ _ _ h => h) (Or.inl ⟨by rfl, ?hy43⟩) hHeld ?rest43
          case hy43 => intro X hSw; obtain ⟨g1, g2, g3, g4, g5⟩ := hSw; go_simp <;> with_reducible rfl
          try simp only [Act.put, List.setIfInBounds_toArray, List.set_cons_zero, List.set_cons_succ]
          refine takeHr (i := 32) (d := some 73) (v := .agg mkf.cs) rfl rfl (by kernel_rfl) (by kernel_rfl) (by kernel_rfl) (fun _ _ _ h => h) (Or.inl ⟨by rfl, ?hy44⟩) hHeld ?rest44
          case hy44 => intro X hSw; exact ex_ldR rfl rfl hSw.2.2.2.1
          try simp only [Act.put, List.setIfInBounds_toArray, List.set_cons_zero, List.set_cons_succ]
          refine takeHr (i := 33) (d := some 74) (v := .agg mkf.cs) rfl rfl (by kernel_rfl) (by kernel_rfl) (by kernel_rfl) (fun _ _ _ h => h) (Or.inl ⟨by rfl, ?hy45⟩) hHeld ?rest45
          case hy45 => intro X hSw; exact ex_ldR rfl rfl hSw.2.2.2.2
          try simp only [Act.put, List.setIfInBounds_toArray, List.set_cons_zero, List.set_cons_succ]
          refine takeHr (i := 34) (d := some 75) (v := .bool false) rfl rfl (by kernel_rfl) (by kernel_rfl) (by kernel_rfl) (fun _ _ _ h => h) (Or.inl ⟨by rfl, ?hy46⟩) hHeld ?rest46
          case hy46 => intro X hSw; exact ex_bin rfl rfl rfl (by kernel_rfl) (neq_self _ _)
          try simp only [Act.put, List.setIfInBounds_toArray, List.set_cons_zero, List.set_cons_succ]
          refine takeHr (i := 35) (d := some 76) (v := ?v47) rfl rfl (by kernel_rfl) (by kernel_rfl) (by kernel_rfl) (fun _ _ _ h => h) (Or.inl ⟨by rfl, ?hy47⟩) hHeld ?rest47
          case hy47 => intro X hSw; obtain ⟨g1, g2, g3, g4, g5⟩ := hSw; go_simp <;> with_reducible rfl
          try simp only [Act.put, List.setIfInBounds_toArray, List.set_cons_zero, List.set_cons_succ]
          refine wpAnyH_done (by kernel_rfl) ?_ _
          clear hHeld
          have HO9 := (show Hid (Of y26 w3.heap.size (.slice (some ⟨gl, 0, none⟩) M cl) es) from HOr.out.below HBy.out)
          have HG39 := (show Hid (GB y26 g3 26 mkf.cs) from HG3r.out.below HBy.out)
          have HB9 := (show Hid (Below w3.heap.size w3 y26) from HBr.out.trans (HBy.out.mono HBr.out.size))
          clear HOr HG3r HBr HBy HG7 HG9 HM0 HM1 HLf HOf hd7
          go_wp2_with (fail)
          have HLn := (show Hid (LtP es n (140737488351232 + t + 1)) from ⟨HL.out.1, HL.out.2.1, HL.out.2.2.1, fun i hi => Nat.le_trans (HL.out.2.2.2 i hi) (by omega)⟩)
          have WT3 := (show Hid ((t : Int) + 1 = ((t + 1 : Nat) : Int)) from by show _ = _; omega)
          have HLs := (show Hid (∀ i, i < n → (es.getD i fi0).ks.size ≤ 140737488351232 + t) from HL.out.2.2.2)
          go_loopw [11] (fun j wr => ∃ (k : Nat) (ds : List Fi), k ≤ n ∧ j = .int .i64 (k : Int) ∧ Hid (LtP ds n (140737488351232 + t + 1)) ∧ Hid (∀ i, k ≤ i → i < n → (ds.getD i fi0).ks.size ≤ 140737488351232 + t) ∧ Hid (Of wr w3.heap.size (.slice (some ⟨gl, 0, none⟩) M cl) ds) ∧ Hid (Below w3.heap.size w3 wr)) (fun j _ => n - (intOf j).toNat)
          case atStart => exact ⟨0, es, Nat.zero_le _, rfl, HLn.out, fun i _ hi => HLs.out i hi, HO9.out, HB9.out⟩
          case round =>
            obtain ⟨k, ds, hk, rfl, HD, HS, HO, HB⟩ := hrel
            by_cases hlk : k < n
            · have hik : (k : Int) < (n : Int) := by omega
              have HKt := (show Hid (k < n) from hlk)
              have WKt := (show Hid (wrap64 ((k : Int) + 1) = ((k + 1 : Nat) : Int)) from by have := HN.out.1; show _ = _; unfold wrap64; omega)
              have hkl : k < ds.length := by have := HD.out.1; omega
              have HKL := (show Hid (k < ds.length) from hkl)
              have AT := HO.out.at hkl
              obtain ⟨F, hF⟩ : ∃ F, ds.getD k fi0 = F := ⟨_, rfl⟩
              have HFd := (show Hid (ds.getD k fi0 = F) from hF)
              rw [hF] at AT
              have hs := HS.out k (Nat.le_refl _) hlk
              rw [hF] at hs
              have c1 : wr.cell? ⟨gl, k * 8 + 1, none⟩ = some (.int .i64 F.kd) := AT 1 _ (fcs1 _)
              have c4 : wr.cell? ⟨gl, k * 8 + 4, none⟩ = some (.int .i64 F.wh) := AT 4 _ (fcs4 _)
              have c0 : wr.cell? ⟨gl, k * 8, none⟩ = some (.string F.ks) := AT 0 _ (fcs0 _)
              have z1 := HO.out.fz (k * 8 + 1)
              have z4 := HO.out.fz (k * 8 + 4)
              have z0 := HO.out.fz (k * 8)
              have CT : ¬ 9223372036854775807 < F.ks.size + 1 := by have := HT.out; omega
              have HSz := (show Hid (F.ks.size + 1 ≤ 140737488351232 + t + 1) from by show _ ≤ _; omega)
              have kM : k < M := by have := HMK.out; omega
              clear AT hF hs hlk hkl hk nM
              go_wp2_with (fail)
              rw [WKt.out]
              obtain ⟨F', hF', hO3⟩ := of_set3 HO.out HKL.out (wrap64 (1 + (wrap64 ((k : Int) + (t : Int))).tmod 3)) ((wrap64 (wrap64 ((k : Int) * 7) + 3)).tmod 5) (F.ks ++ ⟨#[46]⟩) HFd.out
              refine ⟨⟨k + 1, ds.set k F', HKt.out, rfl, HD.out.set HKt.out (by rw [hF', cat_size]; exact HSz.out), fun i h1 h2 => ?_, hO3, ((HB.out.setCell HGL.out _).setCell HGL.out _).setCell HGL.out _⟩, meas25 HKt.out⟩
              rw [getD_set HKL.out, if_neg (by omega)]
              exact HS.out i (by omega) h2
            · have e : k = n := by omega
              rw [e]
              go_wp2_with (fail)
              rw [WT3.out]
              exact ⟨⟨t + 1, ds, HT.out, rfl, HD.out, HO.out, HB.out⟩, meas25 HT.out⟩
      · have e : t = 3 := by omega
        subst e
        go_wp2_with (fail)
        go_ret
        exact ⟨rfl, HB3.out.trans (HB.out.mono HB3.out.size)⟩
end
end Go.Proofs.Ytnnepmofhedkpaa
