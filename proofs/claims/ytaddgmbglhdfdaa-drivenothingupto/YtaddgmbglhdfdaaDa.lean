/-
  A drive in memory.
-/
import Derived.Test.YtaddgmbglhdfdaaDm
namespace Go.Proofs.Ytaddgmbglhdfdaa
open Go.RowKit Go.Maps
theorem lawS : Keyed Try.prog 9 := string_keyed Try.underlying9
theorem key_enc {x : Tx} (h : x.length ≤ maxLen) : keyOf Try.prog 9 (encStr x) = some (.string x) := by
  simp [keyOf, mapKey, enc_size, h]
/-- The pointer to a body. -/
def pta (m : List Nat) : Option Nat → Option Addr
  | none => none
  | some i => some ⟨m.getD i 0, 0, none⟩
def ptv (m : List Nat) (o : Option Nat) : Value := .pointer (pta m o)
/-- How an element of a directory reads: as its body's number. -/
def ptR (m : List Nat) : Value → Option (DataW Unit × List MemPlace)
  | .pointer (some a) => if a.off = 0 ∧ a.spot = none then (m.idxOf? a.block).map fun i => (ip i, []) else none
  | .pointer none => some (.nil, [])
  | _ => none
theorem idx_of {m : List Nat} (hn : m.Nodup) {i : Nat} (h : i < m.length) : m.idxOf? (m.getD i 0) = some i := by
  have e : m.getD i 0 = m[i] := by simp [h]
  rw [e, List.idxOf?_eq_some_iff]
  refine ⟨h, by simp, fun j hj e2 => ?_⟩
  have e3 : m[j] = m[i] := by simpa using e2
  have := (List.getElem_inj hn).1 e3
  omega
theorem idx_is {m : List Nat} {b i : Nat} (h : m.idxOf? b = some i) : i < m.length ∧ m.getD i 0 = b := by
  rw [List.idxOf?_eq_some_iff] at h
  obtain ⟨h1, h2, _⟩ := h
  exact ⟨h1, by simp [h1]; simpa using h2⟩
theorem idx_more {m : List Nat} {b i : Nat} (h : m.idxOf? b = some i) (more : List Nat) : (m ++ more).idxOf? b = some i := by
  rw [List.idxOf?_eq_some_iff] at h ⊢
  obtain ⟨h1, h2, h3⟩ := h
  refine ⟨by simp; omega, by rw [List.getElem_append_left h1]; exact h2, fun j hj => ?_⟩
  rw [List.getElem_append_left (by omega)]
  exact h3 j hj
theorem ptR_some {m : List Nat} (hn : m.Nodup) {i : Nat} (h : i < m.length) : ptR m (ptv m (some i)) = some (ip i, []) := by
  have := idx_of hn h
  unfold ptR ptv pta
  simp only [and_self, if_true, this, Option.map_some]
theorem ptR_inv {m : List Nat} {v : Value} {d : DataW Unit} {ps : List MemPlace} (h : ptR m v = some (d, ps)) : v = ptv m (pi d) ∧ ∀ i, pi d = some i → i < m.length := by
  unfold ptR at h
  split at h
  · split at h
    · rename_i a ha
      cases hx : m.idxOf? a.block with
      | none => rw [hx] at h; cases h
      | some i =>
        rw [hx] at h
        simp at h
        obtain ⟨rfl, rfl⟩ := h
        obtain ⟨h1, h2⟩ := idx_is hx
        rw [pi_ip]
        refine ⟨?_, fun j hj => by cases hj; exact h1⟩
        show _ = Value.pointer (some ⟨m.getD i 0, 0, none⟩)
        rw [h2]
        cases a
        simp at ha
        simp [ha]
    · cases h
  · cases h
    exact ⟨rfl, fun j hj => by cases hj⟩
  · cases h
theorem ptR_more {m : List Nat} {v : Value} {z : DataW Unit × List MemPlace} (h : ptR m v = some z) (more : List Nat) : ptR (m ++ more) v = some z := by
  unfold ptR at h ⊢
  split at h
  · split at h
    · rename_i a ha
      cases hx : m.idxOf? a.block with
      | none => rw [hx] at h; cases h
      | some i =>
        rw [hx] at h
        simp only [ha, and_self, if_true, idx_more hx more]
        exact h
    · cases h
  · exact h
  · cases h
/-- A directory in memory. -/
def MpAt (w : World) (m : List Nat) (s : Nat) (D : Dir) : Prop := w.ownsMap Try.prog 9 (ptR m) s (Maps.size D) D
theorem om_tight {w : World} {P : Program} {k : TypeId} {R : Value → Option (DataW Unit × List MemPlace)} {b n : Nat} {D : DataW Unit} (h : w.ownsMap P k R b n D) : w.ownsMap P k R b (Maps.size D) D := by
  obtain ⟨es, clock, hb, F, hs, hD⟩ := h
  refine ⟨es, clock, hb, F, ?_, hD⟩
  rw [hD]
  simp [Maps.size, length_sorted]
theorem om_same {w w' : World} {P : Program} {k : TypeId} {R : Value → Option (DataW Unit × List MemPlace)} {b n : Nat} {D : DataW Unit} (h : w.ownsMap P k R b n D) (hb : w'.heap[b]? = w.heap[b]?) : w'.ownsMap P k R b n D := by
  obtain ⟨es, clock, hh, F, h1, h2⟩ := h
  exact ⟨es, clock, by rw [hb]; exact hh, F, h1, h2⟩
theorem om_more {w : World} {m : List Nat} {s n : Nat} {D : Dir} (h : w.ownsMap Try.prog 9 (ptR m) s n D) (more : List Nat) : w.ownsMap Try.prog 9 (ptR (m ++ more)) s n D := by
  obtain ⟨es, clock, hh, F, h1, h2⟩ := h
  have := World.ownsMap_of_fit (R := ptR (m ++ more)) hh F (fun x _ z hz => ptR_more hz more)
  rw [← h2] at this
  exact this.mono h1
/-- A body in memory: its block, its row. -/
structure BdAt (w : World) (F : Nat → Prop) (b : Nat) (x : Bd) (v : Value) : Prop where
  blk : w.heap[b]? = some (.cells #[v, .int .i64 (x.safe : Int)] 100 (0, 0))
  row : Ob w 0 v x.data
  inF : F b
  rowF : ∀ g, v.ownBlock = some g → F g
/-- A change in memory. -/
def ldc (m : List Nat) (c : List Ld) : List Value := c.flatMap fun l => [encStr l.1, ptv m l.2]
structure LdAt (w : World) (F : Nat → Prop) (m : List Nat) (c : List Ld) (v : Value) : Prop where
  sl : ∃ g cap, v = .slice (some ⟨g, 0, none⟩) c.length cap ∧ F g ∧ w.heap[g]? = some (.cells (ldc m c).toArray 97 (0, 0))
  ids : ∀ l ∈ c, ∀ i, l.2 = some i → i < m.length
  txt : ∀ l ∈ c, l.1.length ≤ 1024
/-- All of a drive but its own block. -/
structure Rest (w : World) (F : Nat → Prop) (σ : Ds) (m : List Nat) (rv : Nat → Value) (st sf : Option Nat) (pv : Value) : Prop where
  dirs : (st = none ∧ sf = none ∧ σ.st = .map [] ∧ σ.sf = .map [] ∧ σ.pend = []) ∨ ∃ s f, st = some s ∧ sf = some f ∧ s ≠ f ∧ F s ∧ F f ∧ MpAt w m s σ.st ∧ MpAt w m f σ.sf
  len : m.length = σ.bs.length
  nodup : m.Nodup
  bod : ∀ i, i < σ.bs.length → BdAt w F (m.getD i 0) (σ.body i) (rv i)
  sep : ∀ i j g, i < σ.bs.length → j < σ.bs.length → i ≠ j → (rv i).ownBlock = some g → (rv j).ownBlock ≠ some g
  pnd : ∃ cv : List Value, w.ownsRow 0 104 1 pv σ.pend.length cv ∧ cv.length = σ.pend.length ∧ ∀ j, j < σ.pend.length → LdAt w F m (σ.pend.getD j []) (cv.getD j undef)
  pvF : ∀ g, pv.ownBlock = some g → F g
/-- The drive's own block. -/
def StAt (w : World) (db room : Nat) (used : Int) (st sf : Option Nat) (pv : Value) : Prop := w.heap[db]? = some (.cells #[.int .i64 (room : Int), .int .i64 used, .map st, .map sf, pv] 89 (0, 0))
/-- A drive in memory; all its blocks are among F. -/
def DrAt (w : World) (db : Nat) (σ : Ds) (F : Nat → Prop) : Prop := F db ∧ (∀ b, F b → b < w.heap.size) ∧ ∃ m rv st sf pv, StAt w db σ.room σ.used st sf pv ∧ Rest w F σ m rv st sf pv
/-- What a call of a drive does to memory: blocks among F and new ones alone turn. -/
structure Tn (F : Nat → Prop) (w w' : World) : Prop where
  os : w'.os = w.os
  tape : w'.tape = w.tape
  output : w'.output = w.output
  size : w.heap.size ≤ w'.heap.size
  block : ∀ k, k < w.heap.size → ¬ F k → w'.heap[k]? = w.heap[k]?
theorem Tn.refl (F : Nat → Prop) (w : World) : Tn F w w := ⟨rfl, rfl, rfl, Nat.le_refl _, fun _ _ _ => rfl⟩
theorem Tn.trans {F : Nat → Prop} {a b c : World} (h : Tn F a b) (k : Tn F b c) : Tn F a c :=
  ⟨k.os.trans h.os, k.tape.trans h.tape, k.output.trans h.output, Nat.le_trans h.size k.size, fun i hi hF => (k.block i (Nat.lt_of_lt_of_le hi h.size) hF).trans (h.block i hi hF)⟩
theorem Tn.of_below {F : Nat → Prop} {w w' : World} (h : Below w.heap.size w w') : Tn F w w' := ⟨h.os, h.tape, h.output, h.size, fun k hk _ => h.block k hk⟩
theorem Tn.grown {F : Nat → Prop} {w w' : World} {r : Option Nat} (h : w.grownBy w' r) (hr : ∀ g, r = some g → F g) : Tn F w w' := ⟨h.os, h.tape, h.output, h.size, fun k hk hF => h.block k hk (fun e => hF (hr k e.symm))⟩
theorem Tn.setCell {F : Nat → Prop} (w : World) (a : Addr) (h : F a.block) (u : Value) : Tn F w (w.setCell a u) := ⟨rfl, rfl, rfl, by simp [World.setCell], fun k _ hF => Below.heap_setCell _ _ _ _ (fun e => hF (e ▸ h))⟩
theorem Tn.more {F G : Nat → Prop} {w w' : World} (h : Tn F w w') (hs : ∀ b, F b → G b) : Tn G w w' := ⟨h.os, h.tape, h.output, h.size, fun k hk hG => h.block k hk (fun hF => hG (hs k hF))⟩
/-- What lies behind when new blocks are the drive's too. -/
def Fn (F : Nat → Prop) (w w' : World) (b : Nat) : Prop := F b ∨ (w.heap.size ≤ b ∧ b < w'.heap.size)
theorem ob_same {w w' : World} {base : Nat} {v : Value} {e : TypeId} {sz n : Nat} {xs : List Value} (h : w.ownsRow base e sz v n xs) (hb : ∀ g, v.ownBlock = some g → w'.heap[g]? = w.heap[g]?) : w'.ownsRow base e sz v n xs := by
  refine ⟨h.1, ?_⟩
  rcases h.2 with h1 | ⟨g, cap, c, hv, hg, hh, hc⟩
  · exact .inl h1
  · exact .inr ⟨g, cap, c, hv, hg, by rw [hb g (by rw [hv]; rfl)]; exact hh, hc⟩
/-- All but its own block stays where its blocks stay. -/
theorem Rest.same {w w' : World} {F : Nat → Prop} {σ : Ds} {m : List Nat} {rv : Nat → Value} {st sf : Option Nat} {pv : Value} (h : Rest w F σ m rv st sf pv) (hk : ∀ b o, F b → w.heap[b]? = some o → (∀ c r, o ≠ .cells c 89 r) → w'.heap[b]? = w.heap[b]?) : Rest w' F σ m rv st sf pv := by
  have hrow : ∀ {e : TypeId} {sz n : Nat} {v : Value} {xs : List Value}, w.ownsRow 0 e sz v n xs → e ≠ 89 → (∀ g, v.ownBlock = some g → F g) → w'.ownsRow 0 e sz v n xs := by
    intro e sz n v xs h1 hne hF
    refine ob_same h1 fun g hg => ?_
    rcases h1.2 with ⟨hv, _⟩ | ⟨g', cap, c, hv, _, hh, _⟩
    · rw [hv] at hg; cases hg
    · rw [hv] at hg
      simp [Value.ownBlock] at hg
      subst hg
      exact hk g' _ (hF g' (by rw [hv]; rfl)) hh (fun c r e1 => by injection e1 with _ e2; exact hne e2)
  have hmap : ∀ {s : Nat} {D : Dir}, F s → MpAt w m s D → MpAt w' m s D := by
    intro s D hF h1
    refine om_same h1 ?_
    obtain ⟨es, clock, hb, _⟩ := h1
    exact hk s _ hF hb (fun c r e1 => by cases e1)
  refine ⟨?_, h.len, h.nodup, fun i hi => ?_, h.sep, ?_, h.pvF⟩
  · rcases h.dirs with h1 | ⟨s, f, e1, e2, hne, f1, f2, h1, h2⟩
    · exact .inl h1
    · exact .inr ⟨s, f, e1, e2, hne, f1, f2, hmap f1 h1, hmap f2 h2⟩
  · have hb := h.bod i hi
    refine ⟨?_, hrow hb.row (by decide) hb.rowF, hb.inF, hb.rowF⟩
    rw [hk _ _ hb.inF hb.blk (fun c r e1 => by injection e1 with _ e2; revert e2; decide)]
    exact hb.blk
  · obtain ⟨cv, h1, h2, h3⟩ := h.pnd
    refine ⟨cv, hrow h1 (by decide) h.pvF, h2, fun j hj => ?_⟩
    obtain ⟨⟨g, cap, e1, hF, hg⟩, i1, i2⟩ := h3 j hj
    refine ⟨⟨g, cap, e1, hF, ?_⟩, i1, i2⟩
    rw [hk _ _ hF hg (fun c r e1 => by injection e1 with _ e2; revert e2; decide)]
    exact hg
theorem Rest.more {w : World} {F G : Nat → Prop} {σ : Ds} {m : List Nat} {rv : Nat → Value} {st sf : Option Nat} {pv : Value} (h : Rest w F σ m rv st sf pv) (hs : ∀ b, F b → G b) : Rest w G σ m rv st sf pv := by
  refine ⟨?_, h.len, h.nodup, fun i hi => ?_, h.sep, ?_, fun g hg => hs g (h.pvF g hg)⟩
  · rcases h.dirs with h1 | ⟨s, f, e1, e2, hne, f1, f2, h1, h2⟩
    · exact .inl h1
    · exact .inr ⟨s, f, e1, e2, hne, hs _ f1, hs _ f2, h1, h2⟩
  · have hb := h.bod i hi
    exact ⟨hb.blk, hb.row, hs _ hb.inF, fun g hg => hs g (hb.rowF g hg)⟩
  · obtain ⟨cv, h1, h2, h3⟩ := h.pnd
    refine ⟨cv, h1, h2, fun j hj => ?_⟩
    obtain ⟨⟨g, cap, e1, hF, hg⟩, i1, i2⟩ := h3 j hj
    exact ⟨⟨g, cap, e1, hs _ hF, hg⟩, i1, i2⟩
/-- A drive stays where its blocks stay. -/
theorem DrAt.same {w w' : World} {db : Nat} {σ : Ds} {F : Nat → Prop} (h : DrAt w db σ F) (hz : w.heap.size ≤ w'.heap.size) (hk : ∀ b, F b → w'.heap[b]? = w.heap[b]?) : DrAt w' db σ F := by
  obtain ⟨h1, h2, m, rv, st, sf, pv, h3, h4⟩ := h
  refine ⟨h1, fun b hb => Nat.lt_of_lt_of_le (h2 b hb) hz, m, rv, st, sf, pv, ?_, h4.same (fun b o hF _ _ => hk b hF)⟩
  unfold StAt at h3 ⊢
  rw [hk db h1]; exact h3
theorem DrAt.below {w w' : World} {db : Nat} {σ : Ds} {F : Nat → Prop} (h : DrAt w db σ F) (hb : Below w.heap.size w w') : DrAt w' db σ F := h.same hb.size (fun b hF => hb.block b (h.2.1 b hF))
/-- Another drive stays while this one turns. -/
theorem DrAt.tn {w w' : World} {db : Nat} {σ : Ds} {F G : Nat → Prop} (h : DrAt w db σ F) (ht : Tn G w w') (hd : ∀ b, F b → ¬ G b) : DrAt w' db σ F := h.same ht.size (fun b hF => ht.block b (h.2.1 b hF) (hd b hF))
end Go.Proofs.Ytaddgmbglhdfdaa
