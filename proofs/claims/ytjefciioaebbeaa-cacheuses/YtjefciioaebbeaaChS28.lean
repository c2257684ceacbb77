/-
  Caches of string,string, their nodes forgotten.
-/
import Derived.Test.YtjefciioaebbeaaCgS28
namespace Go.Proofs.Ytjefciioaebbeaa.SS
open Go.RowKit Go.Proofs.Ytjefciioaebbeaa
def er (e : Ent) : Ent := { e with nd := 0 }
theorem fnd_er (x : Tx) (L : List Ent) : fnd txq x (L.map er) = (fnd txq x L).map er := by
  unfold fnd
  rw [List.find?_map]
  rfl
theorem drp_er (x : Tx) (L : List Ent) : drp txq x (L.map er) = (drp txq x L).map er := by
  unfold drp
  rw [List.filter_map]
  rfl
theorem wsum_er (L : List Ent) : wsum (L.map er) = wsum L := by
  unfold wsum
  rw [List.map_map]
  rfl
theorem evc_er (c : Int) : ∀ (n : Nat) (L : List Ent), L.length = n → evc c (L.map er) = (evc c L).map er
  | n, L, hn => by
    by_cases h : L = [] ∨ wsum L ≤ c
    · rcases h with rfl | h
      · simp [evc_nil]
      · rw [evc_fits h, evc_fits (by rw [wsum_er]; exact h)]
    · have h1 : L ≠ [] := fun e => h (.inl e)
      have := List.length_pos_iff.2 h1
      rw [evc_more h1 (fun e => h (.inr e)), evc_more (by simpa using h1) (by rw [wsum_er]; exact fun e => h (.inr e)), ← List.map_dropLast]
      exact evc_er c (n - 1) L.dropLast (by simp; omega)
theorem cput_er (r : Int) (n : Nat) (x : Tx) (v : Tx) (wt : Int) (L : List Ent) : cput txq r ⟨0, x, v, wt⟩ (L.map er) = ((cput txq r ⟨n, x, v, wt⟩ L).1.map er, (cput txq r ⟨n, x, v, wt⟩ L).2) := by
  unfold cput
  simp only
  rw [drp_er]
  by_cases h : wt < 0 ∨ r < wt
  · rw [if_pos h, if_pos h]
  · rw [if_neg h, if_neg h, evc_er _ _ _ rfl]; rfl
theorem cget_er (x : Tx) (L : List Ent) : cget txq x (L.map er) = (cget txq x L).map er := by
  unfold cget
  rw [fnd_er, drp_er]
  cases fnd txq x L <;> rfl
/-- A cache in memory that holds these; all its blocks are among F. -/
def Cx (w : World) (cb : Nat) (r : Int) (S : List Ent) (F : Nat → Prop) : Prop := ∃ (L : List Ent) (hb mb : Nat) (o : Obj) (g h : Addr → Addr), CcAt w cb r L F hb mb o g h ∧ L.map er = S
section
variable {w : World} {cb : Nat} {r : Int} {S : List Ent} {F : Nat → Prop}
theorem Cx.keep (H : Cx w cb r S F) {w' : World} (hz : w.heap.size ≤ w'.heap.size) (hk : ∀ b, F b → w'.heap[b]? = w.heap[b]?) : Cx w' cb r S F := by
  obtain ⟨L, hb, mb, o, g, h, C, e⟩ := H
  exact ⟨L, hb, mb, o, g, h, C.keep hz hk, e⟩
theorem Cx.lt (H : Cx w cb r S F) : ∀ b, F b → b < w.heap.size := by
  obtain ⟨L, hb, mb, o, g, h, C, e⟩ := H
  exact C.lt
theorem Cx.below (H : Cx w cb r S F) {w' : World} (hb : Below w.heap.size w w') : Cx w' cb r S F := H.keep hb.size (fun b hF => hb.block b (H.lt b hF))
theorem Cx.more (H : Cx w cb r S F) {G : Nat → Prop} (hs : ∀ b, F b → G b) (hl : ∀ b, G b → b < w.heap.size) : Cx w cb r S G := by
  obtain ⟨L, hb, mb, o, g, h, C, e⟩ := H
  exact ⟨L, hb, mb, o, g, h, ⟨C.blk, C.hs, hs _ C.fc, hs _ C.fh, hs _ C.fm, fun e he => hs _ (C.fn e he), hl, C.ok, C.r0, C.r1⟩, e⟩
theorem Cx.ok (H : Cx w cb r S F) : Okc txq r S ∧ 0 ≤ r ∧ r ≤ 1073741824 := by
  obtain ⟨L, hb, mb, o, g, h, C, rfl⟩ := H
  refine ⟨⟨?_, ?_, ?_, by rw [wsum_er]; exact C.ok.le⟩, C.r0, C.r1⟩
  · rw [List.map_map]; exact C.ok.un
  · intro e he
    obtain ⟨e0, h0, rfl⟩ := List.mem_map.1 he
    exact C.ok.self e0 h0
  · intro e he
    obtain ⟨e0, h0, rfl⟩ := List.mem_map.1 he
    exact C.ok.wt e0 h0
theorem new_cx (r : Int) (h0 : 0 ≤ r) (h1 : r ≤ 1073741824) (w : World) : Calls Try.prog 9 #[.int .i64 r] w fun e1 w' => ∃ cb, e1 = .returned (.tuple #[.pointer (some ⟨cb, 0, none⟩), .int .i64 0]) ∧ Cx w' cb r [] (fun b => w.heap.size ≤ b ∧ b < w'.heap.size) ∧ Below w.heap.size w w' := by
  refine (new_ok r h0 h1 w).mono ?_
  rintro e1 w' ⟨cb, hb, mb, o, g, h, rfl, C, hB⟩
  exact ⟨cb, rfl, ⟨[], hb, mb, o, g, h, C, rfl⟩, hB⟩
theorem Cx.put (H : Cx w cb r S F) (x : Tx) (v : Tx) (wt : Int) (hq : txq x x = true) (w1 : -9223372036854775808 ≤ wt) (w2 : wt ≤ 9223372036854775807) :
    Calls Try.prog 29 #[.pointer (some ⟨cb, 0, none⟩), encStr x, encStr v, .int .i64 wt] w fun e1 w' => e1 = .returned (.bool (cput txq r ⟨0, x, v, wt⟩ S).2) ∧ Cx w' cb r (cput txq r ⟨0, x, v, wt⟩ S).1 (Fn F w w') ∧ Tn F w w' := by
  obtain ⟨L, hb, mb, o, g, h, C, rfl⟩ := H
  refine (put_at C x v wt hq w1 w2).mono ?_
  rintro e1 w' ⟨n, rfl, ⟨mb', o', g', h', C'⟩, hT⟩
  rw [cput_er r n]
  exact ⟨rfl, ⟨_, hb, mb', o', g', h', C', rfl⟩, hT⟩
theorem Cx.get (H : Cx w cb r S F) (x : Tx) : Calls Try.prog 30 #[.pointer (some ⟨cb, 0, none⟩), encStr x] w fun e1 w' => e1 = .returned (.tuple #[getv (fnd txq x S), .bool (fnd txq x S).isSome]) ∧ Cx w' cb r (cget txq x S) F ∧ Tn F w w' := by
  obtain ⟨L, hb, mb, o, g, h, C, rfl⟩ := H
  refine (get_at C x).mono ?_
  rintro e1 w' ⟨rfl, ⟨mb', o', g', h', C'⟩, hT⟩
  rw [fnd_er, cget_er]
  refine ⟨?_, ⟨_, hb, mb', o', g', h', C', rfl⟩, hT⟩
  cases fnd txq x L <;> rfl
theorem Cx.drop (H : Cx w cb r S F) (x : Tx) : Calls Try.prog 31 #[.pointer (some ⟨cb, 0, none⟩), encStr x] w fun e1 w' => e1 = .returned (.bool (fnd txq x S).isSome) ∧ Cx w' cb r (drp txq x S) F ∧ Tn F w w' := by
  obtain ⟨L, hb, mb, o, g, h, C, rfl⟩ := H
  refine (drop_at C x).mono ?_
  rintro e1 w' ⟨rfl, ⟨mb', o', g', h', C'⟩, hT⟩
  rw [fnd_er, drp_er]
  refine ⟨?_, ⟨_, hb, mb', o', g', h', C', rfl⟩, hT⟩
  cases fnd txq x L <;> rfl
theorem Cx.clear (H : Cx w cb r S F) : Calls Try.prog 32 #[.pointer (some ⟨cb, 0, none⟩)] w fun e1 w' => e1 = .returned (.tuple #[]) ∧ Cx w' cb r [] (Fn F w w') ∧ Tn F w w' := by
  obtain ⟨L, hb, mb, o, g, h, C, rfl⟩ := H
  refine (clear_any C).mono ?_
  rintro e1 w' ⟨rfl, ⟨mb', o', g', h', C'⟩, hT⟩
  exact ⟨rfl, ⟨[], hb, mb', o', g', h', C', rfl⟩, hT⟩
theorem Cx.keys (H : Cx w cb r S F) (hl : S.length ≤ 8796093022207) : Calls Try.prog 13 #[.pointer (some ⟨cb, 0, none⟩)] w fun e1 w' => ∃ v, e1 = .returned v ∧ Kl w' w.heap.size v (S.map En.key) ∧ Below w.heap.size w w' := by
  obtain ⟨L, hb, mb, o, g, h, C, rfl⟩ := H
  rw [List.map_map]
  exact keys_any C (by simpa using hl)
theorem Cx.weight (H : Cx w cb r S F) : Calls Try.prog 15 #[.pointer (some ⟨cb, 0, none⟩)] w fun e1 w' => e1 = .returned (.int .i64 (wsum S)) ∧ w' = w := by
  obtain ⟨L, hb, mb, o, g, h, C, rfl⟩ := H
  rw [wsum_er]
  exact weight_any C
end
end Go.Proofs.Ytjefciioaebbeaa.SS
