/-
  FanCounts: literals, conversions; which is there most often, seen through a map of the elements.
-/
import Derived.Test.YtgconfcijmemmaaGq16
import Derived.Test.YtgconfcijmemmaaOg16
import Derived.Test.YtgconfcijmemmaaSq16
import Derived.Laws.IdiomStrings
namespace Go.Proofs.Ytgconfcijmemmaa
open Go.RowKit
/-- A slice literal; the new world by a name. -/
theorem wpList_bsH {w : World} {ops : Array Oper} {rest : List Oper} {o : Oper} {a : Act} {Q : Exit → Act → World → Prop} (hgd : o.guard = none) {t te : TypeId} {len : Nat} {parts : Array (Nat × Operand)} {ps : Array (Nat × Value)} {cs : Array Value} (ho : o.op = .buildSlice t len parts) (hp : (parts.map fun (i, x) => (i, a.eval x)) = ps)
    (hr : (Instr.buildSlice t len ps).run Try.prog w = .ok (.slice (some ⟨w.heap.size, 0, none⟩) len len) (w.alloc (.cells cs te)))
    (h : ∀ w', GB w' w.heap.size te cs → Below w.heap.size w w' → Hid (w'.heap.size = w.heap.size + 1) → wpList Try.prog ops Q rest (a.put o.dst (.slice (some ⟨w.heap.size, 0, none⟩) len len)) w') : wpList Try.prog ops Q (o :: rest) a w := by
  refine wpList_plain hgd fun K hK => ?_
  have h2 := h (w.alloc (.cells cs te)) (GB.new w te cs) ((Below.refl _ _).alloc (Nat.le_refl _) _) (by show _ = _; simp)
  unfold Oper.wp execOp
  simp only [ho, hp, Sem.run_bind, hr, Sem.run_pure, Result.andThen_ok]
  exact hK _ _ h2
theorem bsU (w : World) (v : Int) : (Instr.buildSlice 25 1 #[(0, .int .u8 v)]).run Try.prog w = .ok (.slice (some ⟨w.heap.size, 0, none⟩) 1 1) (w.alloc (.cells #[.int .u8 v] 5)) := by kernel_rfl
theorem bsS (w : World) (v : ByteArray) : (Instr.buildSlice 23 1 #[(0, .string v)]).run Try.prog w = .ok (.slice (some ⟨w.heap.size, 0, none⟩) 1 1) (w.alloc (.cells #[.string v] 9)) := by kernel_rfl
theorem bsI (w : World) (v : Int) : (Instr.buildSlice 22 1 #[(0, .int .i64 v)]).run Try.prog w = .ok (.slice (some ⟨w.heap.size, 0, none⟩) 1 1) (w.alloc (.cells #[.int .i64 v] 3)) := by kernel_rfl
theorem bsW (w : World) (v : Int) (t : ByteArray) : (Instr.buildSlice 24 1 #[(0, .agg #[.int .i64 v, .string t])]).run Try.prog w = .ok (.slice (some ⟨w.heap.size, 0, none⟩) 1 1) (w.alloc (.cells #[.int .i64 v, .string t] 27)) := by kernel_rfl
theorem GB.rw {w : World} {g : Nat} {te : TypeId} {cs : Array Value} (h : GB w g te cs) (m : Nat) : Rw w (some ⟨g, 0, none⟩) m cs.toList := by
  refine .inr ⟨g, 0, rfl, fun j hj => ?_⟩
  rw [Nat.zero_add, h.cell]
  simp
/-- A number's byte. -/
def tb (z : Int) : UInt8 := UInt8.ofNat (z % 256).toNat
theorem und5 : Try.prog.underlying 5 = some (.int .u8) := by kernel_rfl
theorem undS : Try.prog.underlying 9 = some .string := by kernel_rfl
theorem cv1 {w : World} {g : Nat} {z : Int} (h : GB w g 5 #[.int .u8 (z % 256)]) : (convert 25 9 (.slice (some ⟨g, 0, none⟩) 1 1)).run Try.prog w = .ok (.string ⟨#[tb z]⟩) w := by
  refine run_convert_bytes_back (P := Try.prog) w 25 9 5 ⟨g, 0, none⟩ 1 [tb z] Try.underlying25 und5 undS fun j hj => ?_
  obtain rfl : j = 0 := by simpa using hj
  rw [add_pl, Nat.zero_add, h.cell 0]
  have hz : ((tb z).toNat : Int) = z % 256 := by
    unfold tb
    simp only [UInt8.toNat_ofNat']
    omega
  simp [hz]
theorem infoS : (Try.prog.info? 9).map (fun i => (i.zero, i.size, i.bytes)) = some (some (.string ⟨#[]⟩), 1, 16) := by kernel_rfl
theorem infoW : (Try.prog.info? 27).map (fun i => (i.zero, i.size, i.bytes)) = some (some (.agg #[.int .i64 0, .string ⟨#[]⟩]), 2, 24) := by kernel_rfl
/-! Which is there most often, seen through a map of the elements. -/
theorem count_map {α β : Type} {q : α → α → Bool} {q' : β → β → Bool} {f : α → β} {x : α} : ∀ {l : List α}, (∀ b ∈ l, q' (f x) (f b) = q x b) → (l.map f).countP (q' (f x)) = l.countP (q x)
  | [], _ => rfl
  | y :: l, h => by
    rw [List.map_cons, List.countP_cons, List.countP_cons, count_map (fun b hb => h b (by simp [hb])), h y (by simp)]
theorem mst_map {α β : Type} {q : α → α → Bool} {q' : β → β → Bool} {f : α → β} (z : α) (z' : β) : ∀ {l : List α}, (∀ a ∈ l, ∀ b ∈ l, q' (f a) (f b) = q a b) → (mst q' z' (l.map f)).2 = (mst q z l).2 ∧ (l ≠ [] → (mst q' z' (l.map f)).1 = f (mst q z l).1)
  | [], _ => ⟨rfl, fun h => absurd rfl h⟩
  | y :: l, h => by
    have ih := mst_map z z' (l := l) (fun a ha b hb => h a (by simp [ha]) b (by simp [hb]))
    have hc : (f y :: l.map f).countP (q' (f y)) = (y :: l).countP (q y) := by
      rw [← List.map_cons]; exact count_map (fun b hb => h y (by simp) b hb)
    rw [List.map_cons, mst, mst, hc, ih.1]
    by_cases hle : (mst q z l).2 ≤ (y :: l).countP (q y)
    · rw [if_pos hle, if_pos hle]; exact ⟨rfl, fun _ => rfl⟩
    · rw [if_neg hle, if_neg hle]
      refine ⟨ih.1, fun _ => ih.2 ?_⟩
      intro e
      subst e
      simp [mst] at hle
/-- Bytes as numbers. -/
def bi (z : Int) : Int := z % 256
theorem tb_bi (z : Int) : tb (bi z) = tb z := by unfold tb bi; congr 2; omega
theorem tb_inj {a b : Int} (h : tb (bi a) = tb (bi b)) : bi a = bi b := by
  unfold tb bi at *
  have h2 := congrArg UInt8.toNat h
  simp only [UInt8.toNat_ofNat'] at h2
  omega
theorem mst_mem {q : Int → Int → Bool} : ∀ {l : List Int}, l ≠ [] → (mst q 0 l).1 ∈ l
  | [], h => absurd rfl h
  | y :: l, _ => by
    rw [mst]
    by_cases hle : (mst q 0 l).2 ≤ (y :: l).countP (q y)
    · rw [if_pos hle]; simp
    · rw [if_neg hle]
      have : l ≠ [] := by intro e; subst e; simp [mst] at hle
      exact List.mem_cons_of_mem _ (mst_mem this)
/-- The texts' most. -/
theorem texts_mst (xs : List Int) : (mst seq none (xs.map fun z => some (tb z))).2 = (mst ieq 0 (xs.map bi)).2 ∧ (xs ≠ [] → (mst seq none (xs.map fun z => some (tb z))).1 = some (tb (mst ieq 0 (xs.map bi)).1)) := by
  have e : (xs.map fun z => some (tb z)) = (xs.map bi).map fun u => some (tb u) := by
    rw [List.map_map]
    apply List.map_congr_left
    intro z _
    show some (tb z) = some (tb (bi z))
    rw [tb_bi]
  rw [e]
  have h := mst_map (q := ieq) (q' := seq) (f := fun u => some (tb u)) 0 none (l := xs.map bi) (fun a ha b hb => by
    obtain ⟨a0, _, rfl⟩ := List.mem_map.1 ha
    obtain ⟨b0, _, rfl⟩ := List.mem_map.1 hb
    unfold seq ieq
    rw [Bool.eq_iff_iff]
    simp only [beq_iff_eq, Option.some.injEq]
    exact ⟨tb_inj, fun h => by rw [h]⟩)
  exact ⟨h.1, fun hne => h.2 (by simpa using hne)⟩
theorem words_mst (xs : List Int) : (mst weq none (xs.map some)).2 = (mst ieq 0 xs).2 ∧ (xs ≠ [] → (mst weq none (xs.map some)).1 = some (mst ieq 0 xs).1) :=
  mst_map (q := ieq) (q' := weq) (f := some) 0 none (l := xs) (fun a _ b _ => by
    unfold weq ieq
    rw [Bool.eq_iff_iff]
    simp)
theorem words_count (xs : List Int) (x : Int) : (xs.map some).countP (weq (some x)) = xs.countP (ieq x) :=
  count_map (q := ieq) (q' := weq) (f := some) (fun b _ => by
    unfold weq ieq
    rw [Bool.eq_iff_iff]
    simp)
/-- The cells of the texts, of the words. -/
def tcs (xs : List Int) : List Value := xs.map fun z => .string ⟨#[tb z]⟩
def wds (xs : List Int) : List Value := xs.flatMap fun z => (wcs (some z)).toList
theorem tcs_len (xs : List Int) : (tcs xs).length = xs.length := by simp [tcs]
theorem wds_len : ∀ xs : List Int, (wds xs).length = xs.length * 2
  | [] => rfl
  | z :: xs => by
    have := wds_len xs
    unfold wds at *
    rw [List.flatMap_cons, List.length_append, this]
    simp [wcs]; omega
theorem take_succ {xs : List Int} {k : Nat} {z : Int} (hk : k < xs.length) (hz : xs.getD k 0 = z) : xs.take (k + 1) = xs.take k ++ [z] := by
  rw [List.take_add_one]
  rw [← hz]
  simp [List.getD, hk]
theorem tcs_succ {xs : List Int} {k : Nat} {z : Int} (hk : k < xs.length) (hz : xs.getD k 0 = z) : tcs (xs.take (k + 1)) = tcs (xs.take k) ++ [.string ⟨#[tb z]⟩] := by
  rw [take_succ hk hz]; simp [tcs]
theorem wds_succ {xs : List Int} {k : Nat} {z : Int} (hk : k < xs.length) (hz : xs.getD k 0 = z) : wds (xs.take (k + 1)) = wds (xs.take k) ++ (wcs (some z)).toList := by
  rw [take_succ hk hz]; simp [wds]
theorem wds_at : ∀ {xs : List Int} {i : Nat} (_ : i < xs.length), (wds xs)[i * 2]? = some (.int .i64 (wnu (some (xs.getD i 0)))) ∧ (wds xs)[i * 2 + 1]? = some (.string (wtx (some (xs.getD i 0))))
  | [], i, h => by simp at h
  | z :: xs, i, h => by
    have e : wds (z :: xs) = .int .i64 (wnu (some z)) :: .string (wtx (some z)) :: wds xs := by simp [wds, wcs]
    rw [e]
    cases i with
    | zero => exact ⟨rfl, rfl⟩
    | succ i =>
      have ih := wds_at (xs := xs) (i := i) (by simpa using h)
      have e1 : (i + 1) * 2 = i * 2 + 1 + 1 := by omega
      rw [e1]
      simp only [List.getElem?_cons_succ, List.getD_cons_succ]
      exact ih
theorem own_sr {w : World} {B n : Nat} {v : Value} {xs : List Int} (h : w.ownsRow B 9 1 v n (tcs xs)) (hn : xs.length = n) : ∃ p cap, v = .slice p n cap ∧ SrAt w p (xs.map fun z => some (tb z)) := by
  rcases h.2 with ⟨hv, h1⟩ | ⟨g, cap, cur, hv, hb, hg, hc, _⟩
  · have : xs = [] := List.length_eq_zero_iff.1 (by omega)
    subst this
    exact ⟨none, 0, by rw [hv, h1], .inl rfl⟩
  · refine ⟨_, cap, hv, .inr ⟨g, 0, rfl, fun i hi => ?_⟩⟩
    have hi' : i < xs.length := by simpa using hi
    rw [hv] at h
    rw [Nat.zero_add, h.cellAt i (by omega)]
    simp [tcs, svl, stx, List.getD, hi']
theorem own_wr {w : World} {B n : Nat} {v : Value} {xs : List Int} (h : w.ownsRow B 27 2 v n (wds xs)) (hn : xs.length = n) : ∃ p cap, v = .slice p n cap ∧ WrAt w p (xs.map some) := by
  rcases h.2 with ⟨hv, h1⟩ | ⟨g, cap, cur, hv, hb, hg, hc, _⟩
  · have : xs = [] := List.length_eq_zero_iff.1 (by omega)
    subst this
    exact ⟨none, 0, by rw [hv, h1], .inl rfl⟩
  · refine ⟨_, cap, hv, .inr ⟨g, 0, rfl, fun i hi => ?_⟩⟩
    have hi' : i < xs.length := by simpa using hi
    rw [hv] at h
    obtain ⟨a1, a2⟩ := wds_at hi'
    have e : (xs.map some).getD i none = some (xs.getD i 0) := by simp [List.getD, hi']
    rw [Nat.zero_add, h.cellAt (i * 2) (by omega), h.cellAt (i * 2 + 1) (by omega), a1, a2, e]
    exact ⟨rfl, rfl⟩
end Go.Proofs.Ytgconfcijmemmaa
