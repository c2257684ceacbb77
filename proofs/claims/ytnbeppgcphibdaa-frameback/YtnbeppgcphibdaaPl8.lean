/-
  The plain shard's bytes, and with the last one turned.
-/
import Derived.Test.YtnbeppgcphibdaaM8
import Derived.Test.YtnbeppgcphibdaaPz8
import Derived.Test.YtnbeppgcphibdaaSa8
import Derived.Test.YtnbeppgcphibdaaEn9
import Derived.Test.YtnbeppgcphibdaaSi8
namespace Go.Proofs.Ytnbeppgcphibdaa
/-- The plain shard. -/
def plH : Hd := ⟨1#8, 1#8, 1#8, 1#8, 1#8, 1#8, 1#8, 1#8, 2, 1, 4, [97#8], 10, 2, 3, 5⟩
def plB : List (List (BitVec 8)) := [[9#8, 8#8, 7#8, 6#8], [5#8]]
theorem plH_ok : plH.Ok := ⟨by decide, by decide, by decide, by decide, by decide, by decide, by decide, by decide, by decide, by decide, by decide, by decide, by decide, by decide, by decide, by decide, by decide, by decide, by decide⟩
theorem plH_ls : plH.ls = [4, 1] := by decide
theorem pl_may : May plH plB := ⟨plH_ok, by rw [plH_ls]; rfl⟩
theorem pl_len : (plH.fm plB).length = 54 := by rw [plH.fm_tot plB pl_may.2]; unfold Hd.len; rw [plH_ls]; rfl
/-- The last byte turned. -/
def plF : List (BitVec 8) := (plH.fm plB).set 53 ((plH.fm plB).getD 53 0#8 ^^^ 1#8)
theorem sm4 (s : BitVec 32) : ∃ a b c d, sm s = [a, b, c, d] := ⟨_, _, _, _, rfl⟩
theorem plF_eq : ∃ a b c d, sm (bsm plH.s2 1 [5#8]) = [a, b, c, d] ∧ plF = plH.hb ++ ([9#8, 8#8, 7#8, 6#8] ++ (sm (bsm plH.s2 0 [9#8, 8#8, 7#8, 6#8]) ++ ([5#8] ++ [a, b, c, d ^^^ 1#8]))) := by
  obtain ⟨a, b, c, d, e⟩ := sm4 (bsm plH.s2 1 [5#8])
  refine ⟨a, b, c, d, e, ?_⟩
  have hf : plH.fm plB = (plH.hb ++ ([9#8, 8#8, 7#8, 6#8] ++ (sm (bsm plH.s2 0 [9#8, 8#8, 7#8, 6#8]) ++ ([5#8] ++ [a, b, c])))) ++ [d] := by
    show plH.hb ++ ([9#8, 8#8, 7#8, 6#8] ++ sm (bsm plH.s2 0 [9#8, 8#8, 7#8, 6#8]) ++ ([5#8] ++ sm (bsm plH.s2 1 [5#8]) ++ [])) = _
    rw [e]; simp
  have hl : (plH.hb ++ ([9#8, 8#8, 7#8, 6#8] ++ (sm (bsm plH.s2 0 [9#8, 8#8, 7#8, 6#8]) ++ ([5#8] ++ [a, b, c])))).length = 53 := by
    simp only [List.length_append, Hd.hb_len, sm_len]; rfl
  have hr : plH.hb ++ ([9#8, 8#8, 7#8, 6#8] ++ (sm (bsm plH.s2 0 [9#8, 8#8, 7#8, 6#8]) ++ ([5#8] ++ [a, b, c, d ^^^ 1#8]))) = (plH.hb ++ ([9#8, 8#8, 7#8, 6#8] ++ (sm (bsm plH.s2 0 [9#8, 8#8, 7#8, 6#8]) ++ ([5#8] ++ [a, b, c])))) ++ [d ^^^ 1#8] := by simp
  unfold plF
  rw [hr, hf]
  generalize plH.hb ++ ([9#8, 8#8, 7#8, 6#8] ++ (sm (bsm plH.s2 0 [9#8, 8#8, 7#8, 6#8]) ++ ([5#8] ++ [a, b, c]))) = X at hl
  rw [← hl]
  simp [List.getD]
theorem plF_bk : plH.bk plF = [some [9#8, 8#8, 7#8, 6#8], none] := by
  obtain ⟨a, b, c, d, e, hF⟩ := plF_eq
  have hs : BitVec.ofNat 32 (lv (cutl plF (36 + plH.key.length) 4)) = plH.s2 := by rw [hF]; exact plH.at_s2 _
  unfold Hd.bk
  rw [hs, plH_ls]
  have hy : plH.key.length = 1 := rfl
  have hhb : plH.hb.length = 41 := by rw [plH.hb_len, hy]
  rw [hy]
  have c1 : cutl plF 41 4 = [9#8, 8#8, 7#8, 6#8] := by rw [hF, ← List.append_assoc]; exact cutl_app _ _ _ _ _ hhb rfl
  have c2 : cutl plF 45 4 = sm (bsm plH.s2 0 [9#8, 8#8, 7#8, 6#8]) := by
    rw [hF, ← List.append_assoc, ← List.append_assoc]
    exact cutl_app _ _ _ _ _ (by rw [List.length_append, hhb]; rfl) (sm_len _)
  have c3 : cutl plF 49 1 = [5#8] := by
    rw [hF, ← List.append_assoc, ← List.append_assoc, ← List.append_assoc]
    exact cutl_app _ _ _ _ _ (by rw [List.length_append, List.length_append, hhb, sm_len]; rfl) rfl
  have c4 : cutl plF 50 4 = [a, b, c, d ^^^ 1#8] := by
    rw [hF, ← List.append_assoc, ← List.append_assoc, ← List.append_assoc]
    exact cutl_app' _ _ _ _ (by rw [List.length_append, List.length_append, List.length_append, hhb, sm_len]; rfl) rfl
  have hl : plF.length = 54 := by unfold plF; rw [List.length_set, pl_len]
  have r1 : rb plF 41 4 plH.s2 0 = some [9#8, 8#8, 7#8, 6#8] := by
    unfold rb
    rw [if_neg (by omega), c1, c2, lv_sm, if_neg (by simp)]
  have r2 : rb plF 49 1 plH.s2 1 = none := by
    unfold rb
    rw [if_neg (by omega), c3, c4, if_pos]
    intro h
    have := sm_lv _ _ rfl h
    rw [e] at this
    simp only [List.cons.injEq, and_true, true_and] at this
    have h2 : d ^^^ 1#8 = d := this
    have h3 : d ^^^ (d ^^^ 1#8) = d ^^^ d := by rw [h2]
    rw [← BitVec.xor_assoc, BitVec.xor_self, BitVec.zero_xor] at h3
    exact absurd h3 (by decide)
  show [rb plF 41 4 plH.s2 0, rb plF 49 1 plH.s2 1] = _
  rw [r1, r2]
theorem plF_pH : pH plF = (0, plH) := by
  obtain ⟨a, b, c, d, _, hF⟩ := plF_eq
  rw [hF]; exact pH_fm plH plH_ok _
theorem plF_pS : (pS plF).1 = 82 := by
  have hl : plF.length = 54 := by unfold plF; rw [List.length_set, pl_len]
  have hL : plH.len = 54 := by rw [← plH.fm_tot plB pl_may.2, pl_len]
  unfold pS
  rw [plF_pH]
  rw [if_neg (by simp), if_neg (by simp only [hl, hL]; omega), if_neg (by simp only [hl, hL]; omega)]
  simp only [plF_bk, alls]
theorem plF_sP : sP plF = (0, [1]) := by
  unfold sP
  rw [plF_pH]
  rw [if_neg (by simp)]
  simp only [plF_bk, spo]
end Go.Proofs.Ytnbeppgcphibdaa
/-
  The law's 'plain', 'awake'.
-/
namespace Go.Proofs.Ytnbeppgcphibdaa
open Go.RowKit
theorem plH_sh (v : Value) : plH.sh v = #[.int .u8 1, .int .u8 1, .int .u8 1, .int .u8 1, .int .u8 1, .int .u8 1, .int .u8 1, .int .u8 1, .int .i64 2, .int .i64 1, .int .i64 4, .string (bstr [97#8]), .int .i64 10, .int .i64 2, .int .i64 3, .int .i64 5, v] := rfl
theorem b97 : bstr [97#8] = ⟨#[97]⟩ := rfl
theorem five_new (w : World) (o1 o2 o3 o4 o5 : Obj) : Below w.heap.size w (((((w.alloc o1).alloc o2).alloc o3).alloc o4).alloc o5) ∧ (((((w.alloc o1).alloc o2).alloc o3).alloc o4).alloc o5).heap[w.heap.size]? = some o1 ∧ (((((w.alloc o1).alloc o2).alloc o3).alloc o4).alloc o5).heap[w.heap.size + 1 + 1]? = some o3 ∧ (((((w.alloc o1).alloc o2).alloc o3).alloc o4).alloc o5).heap[w.heap.size + 1 + 1 + 1]? = some o4 ∧ (((((w.alloc o1).alloc o2).alloc o3).alloc o4).alloc o5).heap[w.heap.size + 1 + 1 + 1 + 1]? = some o5 := by
  have al : ∀ (W : World) (o : Obj), Below W.heap.size W (W.alloc o) := fun W o => (Below.refl _ _).alloc (Nat.le_refl _) o
  have s1 : (w.alloc o1).heap.size = w.heap.size + 1 := alloc_size _ _
  have s2 : ((w.alloc o1).alloc o2).heap.size = w.heap.size + 1 + 1 := by rw [alloc_size, s1]
  have s3 : (((w.alloc o1).alloc o2).alloc o3).heap.size = w.heap.size + 1 + 1 + 1 := by rw [alloc_size, s2]
  have s4 : ((((w.alloc o1).alloc o2).alloc o3).alloc o4).heap.size = w.heap.size + 1 + 1 + 1 + 1 := by rw [alloc_size, s3]
  refine ⟨bt (bt (bt (bt (al _ _) (al _ _)) (al _ _)) (al _ _)) (al _ _), ?_, ?_, ?_, ?_⟩
  · rw [heap_alloc_old _ _ (by omega), heap_alloc_old _ _ (by omega), heap_alloc_old _ _ (by omega), heap_alloc_old _ _ (by omega)]; exact heap_alloc_new w o1
  · rw [heap_alloc_old _ _ (by omega), heap_alloc_old _ _ (by omega), ← s2]; exact heap_alloc_new _ o3
  · rw [heap_alloc_old _ _ (by omega), ← s3]; exact heap_alloc_new _ o4
  · rw [← s4]; exact heap_alloc_new _ o5
theorem row_rd {w : World} {g : Nat} {xs : List (BitVec 8)} {t : TypeId} (H : w.heap[g]? = some (.cells (xs.map fun x => Value.int .u8 (el x)).toArray t)) : Rd w (some ⟨g, 0, none⟩) xs := by
  refine .inr ⟨g, 0, rfl, fun i hi => ?_⟩
  rw [Nat.zero_add, cell_of_row _ _ _ _ _ (0, 0) H, List.getElem?_toArray, List.getElem?_map, List.getElem?_eq_getElem hi]
  simp [List.getD, List.getElem?_eq_getElem hi]
theorem pl_rws {w : World} {a b c : Nat} (h1 : w.heap[a]? = some (.cells #[.int .u8 9, .int .u8 8, .int .u8 7, .int .u8 6] 5)) (h2 : w.heap[b]? = some (.cells #[.int .u8 5] 5)) (h3 : w.heap[c]? = some (.cells #[.slice (some ⟨a, 0, none⟩) 4 4, .slice (some ⟨b, 0, none⟩) 1 1] 32)) : Rws w (some ⟨c, 0, none⟩) plB := by
  refine .inr ⟨c, 0, rfl, fun i hi => ?_⟩
  have r1 := row_rd (w := w) (g := a) (xs := [9#8, 8#8, 7#8, 6#8]) h1
  have r2 := row_rd (w := w) (g := b) (xs := [5#8]) h2
  have c3 := fun i => cell_of_row w c i _ _ (0, 0) h3
  match i, hi with
  | 0, _ => exact ⟨_, 4, c3 0, Nat.le_refl _, r1⟩
  | 1, _ => exact ⟨_, 1, c3 1, Nat.le_refl _, r2⟩
theorem sizeSd' (h : Hd) (v : Value) : (Try.prog.info? 31).map (·.size) = some (h.sh v).size := sizeSd
section
attribute [local irreducible] Calls el
set_option maxHeartbeats 4000000 in
set_option maxRecDepth 1000000 in
theorem plain_any (w : World) :
    Calls Try.prog 14 #[] w fun e w' => ∃ p c, e = .returned (.agg (plH.sh (.slice p 2 c))) ∧ Rws w' p plB ∧ Below w.heap.size w w' := by
  go_enter Try.func14, Try.ntmps14
  go_wp2
  obtain ⟨hb, e1, e3, e4, e5⟩ := five_new w _ _ _ _ _
  refine bodyPost_ret (v := .agg (plH.sh (.slice (some ⟨w.heap.size + 1 + 1 + 1 + 1, 0, none⟩) 2 2))) ?_ rfl ⟨_, _, rfl, pl_rws e3 e4 e5, hb⟩
  exact results_cell_row rfl _ _ w.heap.size 31 _ (0, 0) _ (by kernel_rfl) (by rw [plH_sh, b97]; exact e1) Try.underlying31 rfl (sizeSd' _ _)
end
end Go.Proofs.Ytnbeppgcphibdaa
