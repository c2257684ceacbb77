/-
  Own lists of findings: append, literals.
-/
import Derived.Test.YtnnepmofhedkpaaFo25
import Derived.Laws.AppendOwn
import Derived.Deep.Cut
namespace Go.Proofs.Ytnnepmofhedkpaa
open Go.RowKit
theorem info_parts {P : Program} {t : TypeId} {z : Option Value} {k by' : Nat} (h : (P.info? t).map (fun i => (i.zero, i.size, i.bytes)) = some (z, k, by')) : ∃ i, P.info? t = some i ∧ i.zero = z ∧ i.size = k ∧ i.bytes = by' := by
  obtain ⟨i, h1, h2⟩ := Option.map_eq_some_iff.1 h
  injection h2 with h2 h3
  injection h3 with h3 h4
  exact ⟨i, h1, h2, h3, h4⟩
theorem run_append_nix {P : Program} {w : World} (t ty e : TypeId) (i : TypeInfo) (ht : P.underlying t = some (.slice e)) (hi : P.info? e = some i) (p : Option Addr) (n cap c : Nat) (h : n ≤ cap) :
    (Builtin.append_ #[t, t] ty #[.slice p n cap, .slice none 0 c]).run P w = .ok (.slice p n cap) w := by
  cases p <;> simp [Builtin.append_, run_underlying ht, sizeOf, typeInfo, hi, Builtin.lenOf, Builtin.firstCells, h, storeCells]
theorem own_form {w : World} {base : Nat} {te : TypeId} {sz : Nat} {v : Value} {n : Nat} {xs : List Value} (h : w.ownsRow base te sz v n xs) : ∃ p cap, v = .slice p n cap ∧ n ≤ cap := by
  rcases h.2 with ⟨hv, h1⟩ | ⟨g, cap, cur, hv, _, _, hn, _⟩
  · exact ⟨none, 0, by rw [hv, h1], by omega⟩
  · exact ⟨_, cap, hv, hn⟩
theorem own_below {w w' : World} {base n k : Nat} {t : TypeId} {v : Value} {xs : List Value} (h : w.ownsRow base t k v n xs) (hb : Below w.heap.size w w') : w'.ownsRow base t k v n xs := by
  refine ⟨h.1, ?_⟩
  rcases h.2 with h1 | ⟨g, cap, c, hv, hg, hh, hc⟩
  · exact .inl h1
  · refine .inr ⟨g, cap, c, hv, hg, ?_, hc⟩
    rw [hb.block g (Array.getElem?_eq_some_iff.1 hh).1]; exact hh
theorem own_grown {t : TypeId} {k : Nat} {w w' : World} {base n : Nat} {v : Value} {xs : List Value} {B : Nat} {a : World} (ho : w.ownsRow base t k v n xs) (hb : Below B a w) (hB : B ≤ w.heap.size) (hg : w.grownBy w' v.ownBlock) (hbase : B ≤ base) : Below B a w' :=
  hb.grown hg hB (fun k hk => Nat.le_trans hbase (ho.lt k hk).1)
theorem flat_at {α : Type} (f : α → List Value) (K : Nat) (hf : ∀ x, (f x).length = K) : ∀ (es : List α) (i j : Nat) (d : α), i < es.length → j < K → (es.flatMap f)[i * K + j]? = (f (es.getD i d))[j]?
  | [], i, _, _, h, _ => by simp at h
  | e :: r, 0, j, d, _, hj => by
    rw [List.flatMap_cons, Nat.zero_mul, Nat.zero_add, List.getElem?_append_left (by rw [hf]; exact hj)]
    rfl
  | e :: r, i + 1, j, d, h, hj => by
    rw [List.flatMap_cons, List.getElem?_append_right (by rw [hf, Nat.add_mul]; omega), hf, show (i + 1) * K + j - K = i * K + j by rw [Nat.add_mul, Nat.one_mul]; omega, flat_at f K hf r i j d (by simpa using h) hj]
    rfl
theorem flat_len {α : Type} (f : α → List Value) (K : Nat) (hf : ∀ x, (f x).length = K) : ∀ es : List α, (es.flatMap f).length = es.length * K
  | [] => by simp
  | e :: r => by rw [List.flatMap_cons, List.length_append, hf, flat_len f K hf r, List.length_cons, Nat.add_mul, Nat.one_mul, Nat.add_comm]
def fls (es : List Fi) : List Value := es.flatMap (fun f => f.cs.toList)
theorem fls_at (es : List Fi) (i j : Nat) (hi : i < es.length) (hj : j < 8) : (fls es)[i * 8 + j]? = ((es.getD i fi0).cs.toList)[j]? := flat_at (fun f : Fi => f.cs.toList) 8 (fun _ => rfl) es i j fi0 hi hj
theorem fls_len (es : List Fi) : (fls es).length = es.length * 8 := flat_len (fun f : Fi => f.cs.toList) 8 (fun _ => rfl) es
theorem fls_one (es : List Fi) : ∀ u ∈ fls es, u.oneCell' = true := by
  intro u hu
  unfold fls at hu
  obtain ⟨f, _, hf⟩ := List.mem_flatMap.1 hu
  have := fcs_one f
  rw [Array.all_eq_true_iff_forall_mem] at this
  exact this u (by simpa using hf)
theorem fls_app (es ds : List Fi) : fls (es ++ ds) = fls es ++ fls ds := by unfold fls; rw [List.flatMap_append]
/-- An own list of findings. -/
def Of (w : World) (base : Nat) (v : Value) (es : List Fi) : Prop := w.ownsRow base 26 8 v es.length (fls es)
theorem of_nil (w : World) (B : Nat) : Of w B (.slice none 0 0) [] := World.ownsRow_nil _ _ _ _
theorem Of.below {w w' : World} {base : Nat} {v : Value} {es : List Fi} (h : Of w base v es) (hb : Below w.heap.size w w') : Of w' base v es := own_below h hb
theorem Of.grown {w w' w0 : World} {base B : Nat} {v : Value} {es : List Fi} (h : Of w base v es) (hb : Below B w0 w) (hB : B ≤ w.heap.size) (hg : w.grownBy w' v.ownBlock) (hbase : B ≤ base) : Below B w0 w' := own_grown h hb hB hg hbase
theorem Of.fl {w : World} {base : Nat} {v : Value} {es : List Fi} (h : Of w base v es) {n : Nat} (hn : es.length = n) : ∃ p cap, v = .slice p n cap ∧ n ≤ cap ∧ FL w p n (fun i => es.getD i fi0) := by
  subst hn
  have h' := h
  rcases h.2 with ⟨hv, h1⟩ | ⟨g, cap, cur, hv, hb, _, hn, _⟩
  · exact ⟨none, 0, by rw [hv, h1], by omega, .inl h1⟩
  · refine ⟨_, cap, hv, hn, .inr ⟨g, 0, rfl, fun i hi j u hu => ?_⟩⟩
    have hj : j < 8 := by
      rcases Nat.lt_or_ge j 8 with h9 | h9
      · exact h9
      · rw [List.getElem?_eq_none (by exact h9)] at hu; cases hu
    unfold Of at h'
    have := h'.cells (g := g) (by rw [hv]; rfl) (i * 8 + j) u (by rw [fls_at es i j hi hj]; exact hu)
    rw [add_pl] at this
    simpa only [Nat.zero_add] using this
theorem infoF : (Try.prog.info? 26).map (fun i => (i.zero, i.size, i.bytes)) = some (some (.agg fi0.cs), 8, 72) := by kernel_rfl
def rgl (m : Nat) (g : Nat → Fi) : List Fi := (List.range m).map g
theorem rgl_len (m : Nat) (g : Nat → Fi) : (rgl m g).length = m := by unfold rgl; simp
theorem rgl_get (m : Nat) (g : Nat → Fi) (i : Nat) (hi : i < m) : (rgl m g).getD i fi0 = g i := by unfold rgl; simp [List.getD, hi]
/-- append(v, x..) where v is an own list. -/
theorem wpList_apF {w : World} {ops : Array Oper} {rest : List Oper} {o : Oper} {a : Act} {Q : Exit → Act → World → Prop} (hgd : o.guard = none) (s x : Operand) (ho : o.op = .call { callee := .builtin .append, args := #[s, x], argTypes := #[22, 22] })
    (base : Nat) (v : Value) (es : List Fi) (hs : a.eval s = v) (hown : Of w base v es) (p : Option Addr) (m c : Nat) (g : Nat → Fi) (hx : a.eval x = .slice p m c) (hr : FL w p m g)
    (hb : (es.length + m) * 72 ≤ 140737488355328) (hbase : base ≤ w.heap.size)
    (h : ∀ v' w', Of w' base v' (es ++ rgl m g) → w.grownBy w' v.ownBlock → wpList Try.prog ops Q rest (a.put o.dst v') w') : wpList Try.prog ops Q (o :: rest) a w := by
  obtain ⟨i0, hi0, hz0, hz1, hz2⟩ := info_parts infoF
  have fin : ∀ v' w', w'.ownsRow base 26 8 v' (es.length + m) (fls es ++ fls (rgl m g)) → Of w' base v' (es ++ rgl m g) := by
    intro v' w' h2
    unfold Of
    rw [fls_app, List.length_append, rgl_len]
    exact h2
  cases p with
  | some ad =>
    have hsrc : ∀ j u, (fls (rgl m g))[j]? = some u → w.cell? (ad.add j) = some u := by
      intro j u hu
      have hj : j < m * 8 := by
        have := (List.getElem?_eq_some_iff.1 hu).1
        rw [fls_len, rgl_len] at this
        exact this
      rcases hr with h0 | ⟨b, o, e, hc⟩
      · omega
      · injection e with e
        subst e
        have hdm : j / 8 * 8 + j % 8 = j := by omega
        rw [← hdm, fls_at _ _ _ (by rw [rgl_len]; omega) (by omega), rgl_get _ _ _ (by omega)] at hu
        have := hc (j / 8) (by omega) (j % 8) u hu
        rw [add_pl]
        rw [Nat.add_assoc, hdm] at this
        exact this
    refine wpList_append_own _ hgd s x 22 ho base 26 i0 (.agg fi0.cs) 8 72 Try.underlying22 hi0 hz0 hz1 hz2 rfl (by decide) v es.length (fls es) hs hown ad m c (fls (rgl m g)) hx (by rw [fls_len, rgl_len]) hsrc (fls_one _) (by unfold maxLen; omega) hb hbase ?_
    intro v' w' h2 h3 _
    exact h v' w' (fin _ _ h2) h3
  | none =>
    have hm0 : m = 0 := by
      rcases hr with e | ⟨b, off, e, _⟩
      · exact e
      · cases e
    subst hm0
    obtain ⟨q, cap, rfl, hcap⟩ := own_form hown
    refine wpList_plain hgd fun K hK => ?_
    have hrun := run_append_nix (P := Try.prog) (w := w) 22 o.type 26 i0 Try.underlying22 hi0 q es.length cap c hcap
    unfold Oper.wp
    simp [execOp, ho, resolve, invoke, builtin, hs, hx, hrun, Result.andThen]
    exact hK _ _ (h _ w (fin _ _ (by have h9 := hown; unfold Of at h9; simpa [rgl, fls] using h9)) ⟨rfl, rfl, rfl, Nat.le_refl _, fun _ _ _ => rfl⟩)
/-- A slice literal; the new world by a name. -/
theorem wpList_bsH {w : World} {ops : Array Oper} {rest : List Oper} {o : Oper} {a : Act} {Q : Exit → Act → World → Prop} (hgd : o.guard = none) {t te : TypeId} {len : Nat} {parts : Array (Nat × Operand)} {ps : Array (Nat × Value)} {cs : Array Value} (ho : o.op = .buildSlice t len parts) (hp : (parts.map fun (i, x) => (i, a.eval x)) = ps)
    (hr : (Instr.buildSlice t len ps).run Try.prog w = .ok (.slice (some ⟨w.heap.size, 0, none⟩) len len) (w.alloc (.cells cs te)))
    (h : ∀ w', GB w' w.heap.size te cs → Below w.heap.size w w' → Hid (w'.heap.size = w.heap.size + 1) → wpList Try.prog ops Q rest (a.put o.dst (.slice (some ⟨w.heap.size, 0, none⟩) len len)) w') : wpList Try.prog ops Q (o :: rest) a w := by
  refine wpList_plain hgd fun K hK => ?_
  have h2 := h (w.alloc (.cells cs te)) (GB.new w te cs) ((Below.refl _ _).alloc (Nat.le_refl _) _) (by show _ = _; simp)
  unfold Oper.wp execOp
  simp only [ho, hp, Sem.run_bind, hr, Sem.run_pure, Result.andThen_ok]
  exact hK _ _ h2
theorem bsF1 (w : World) (f : Fi) : (Instr.buildSlice 22 1 #[(0, .agg f.cs)]).run Try.prog w = .ok (.slice (some ⟨w.heap.size, 0, none⟩) 1 1) (w.alloc (.cells f.cs 26)) := by kernel_rfl
theorem bsF2 (w : World) (f g : Fi) : (Instr.buildSlice 22 2 #[(0, .agg f.cs), (1, .agg g.cs)]).run Try.prog w = .ok (.slice (some ⟨w.heap.size, 0, none⟩) 2 2) (w.alloc (.cells (f.cs ++ g.cs) 26)) := by kernel_rfl
theorem wpList_bsF1 {w : World} {ops : Array Oper} {rest : List Oper} {o : Oper} {a : Act} {Q : Exit → Act → World → Prop} (hgd : o.guard = none) (x : Operand) (ho : o.op = .buildSlice 22 1 #[(0, x)]) (f : Fi) (hx : a.eval x = .agg f.cs)
    (h : ∀ w', GB w' w.heap.size 26 f.cs → Below w.heap.size w w' → Hid (w'.heap.size = w.heap.size + 1) → wpList Try.prog ops Q rest (a.put o.dst (.slice (some ⟨w.heap.size, 0, none⟩) 1 1)) w') : wpList Try.prog ops Q (o :: rest) a w := by
  refine wpList_bsH hgd (ps := #[(0, .agg f.cs)]) ho (by simp [hx]) (bsF1 w f) h
theorem gb_fl1 {w : World} {g : Nat} {f : Fi} (h : GB w g 26 f.cs) : FL w (some ⟨g, 0, none⟩) 1 (fun _ => f) := .inr ⟨g, 0, rfl, fun i hi => by
  obtain rfl : i = 0 := by omega
  exact FiAt.ofB h⟩
theorem gb_fl2 {w : World} {g : Nat} {f f' : Fi} (h : GB w g 26 (f.cs ++ f'.cs)) : FL w (some ⟨g, 0, none⟩) 2 (fun i => if i = 0 then f else f') := .inr ⟨g, 0, rfl, fun i hi j u hu => by
  have hj : j < 8 := by
    rcases Nat.lt_or_ge j 8 with h9 | h9
    · exact h9
    · rw [List.getElem?_eq_none (by exact h9)] at hu; cases hu
  rw [h.cell]
  match i, hi with
  | 0, _ =>
    have e : 0 + 0 * 8 + j = j := by omega
    rw [e, Array.getElem?_append_left (by exact hj)]
    simpa using hu
  | 1, _ =>
    rw [Array.getElem?_append_right (by show 8 ≤ _; omega)]
    have e : 0 + 1 * 8 + j - f.cs.size = j := by show 0 + 1 * 8 + j - 8 = j; omega
    rw [e]
    simpa using hu⟩
/-- All cells of a finding in a block of its own. -/
def FD (w : World) (g : Nat) (f : Fi) : Prop := w.cell? ⟨g, 0, none⟩ = some (.string f.ks) ∧ w.cell? ⟨g, 1, none⟩ = some (.int .i64 f.kd) ∧ w.cell? ⟨g, 2, none⟩ = some (.int .i64 f.ep) ∧ w.cell? ⟨g, 3, none⟩ = some (.int .i64 f.ct) ∧ w.cell? ⟨g, 4, none⟩ = some (.int .i64 f.wh) ∧ w.cell? ⟨g, 5, none⟩ = some (.int .i64 f.st) ∧ w.cell? ⟨g, 6, none⟩ = some (.int .i64 f.sp) ∧ w.cell? ⟨g, 7, none⟩ = some (.int .i64 f.si)
theorem GB.fd {w : World} {g : Nat} {f : Fi} (H : GB w g 26 f.cs) : FD w g f := ⟨H.cell 0, H.cell 1, H.cell 2, H.cell 3, H.cell 4, H.cell 5, H.cell 6, H.cell 7⟩
/-- Loads that are guarded, and wanted. -/
theorem wpList_ldBg {w : World} {ops : Array Oper} {rest : List Oper} {o : Oper} {a : Act} {Q : Exit → Act → World → Prop} {f : Fi} (hw : Region.wanted o (yielded ops a.tmps) = true) (x : Operand) (ho : o.op = .load 26 x) (g : Nat) (hx : a.eval x = .pointer (some ⟨g, 0, none⟩)) (H : GB w g 26 f.cs)
    (k : wpList Try.prog ops Q rest (a.put o.dst (.agg f.cs)) w) : wpList Try.prog ops Q (o :: rest) a w := by
  refine wpList_step fun K hK => ?_
  rw [if_pos hw]
  unfold Oper.wp execOp
  simp only [ho, hx, Instr.loadAt, Instr.sureAddr, Sem.run_bind, Sem.run_pure, Result.andThen_ok, H.fiRun]
  exact hK _ _ k
end Go.Proofs.Ytnnepmofhedkpaa
