/-
  Caches of string,string: keys, clear, anew, find.
-/
import Derived.Test.YtjefciioaebbeaaCdS28
import Derived.Laws.AppendOwn
import Derived.WalkSmall
namespace Go.Proofs.Ytjefciioaebbeaa.SS
open Go.RowKit Go.Proofs.Ytjefciioaebbeaa
theorem infoK : (Try.prog.info? 9).map (fun i => (i.zero, i.size, i.bytes)) = some (some (.string ⟨#[]⟩), 1, 16) := by kernel_rfl
/-- An own list of keys. -/
def Kl (w : World) (base : Nat) (v : Value) (ks : List (Tx)) : Prop := w.ownsRow base 9 1 v ks.length (ks.map encStr)
theorem infoE : (Try.prog.info? 79).map (·.size) = some 5 := by kernel_rfl
theorem neq_same (a : Addr) (w : World) : (binOp .neq 77 (.pointer (some a)) (.pointer (some a))).run Try.prog w = .ok (.bool false) w := by
  obtain ⟨j, hj, _⟩ := Option.map_eq_some_iff.1 infoE
  have h : ∀ d : Nat, (Op.equalIn (d + 1) 77 (.pointer (some a)) (.pointer (some a))).run Try.prog w = .ok true w := fun d => by
    simp [Op.equalIn, run_underlying Try.underlying77, sizeOf, typeInfo, hj, run_sameAddr_same]
  simp only [binOp]
  simp [Op.equal, Op.maxDepth, h 9999]
theorem neq_other {w : World} {a b : Addr} {ca cb : Array Value} {ta tb : TypeId} (hne : a ≠ b) (ha : w.heap[a.block]? = some (.cells ca ta (0, 0))) (hb : w.heap[b.block]? = some (.cells cb tb (0, 0))) : (binOp .neq 77 (.pointer (some a)) (.pointer (some b))).run Try.prog w = .ok (.bool true) w := by
  obtain ⟨j, hj, hs⟩ := Option.map_eq_some_iff.1 infoE
  have h : ∀ d : Nat, (Op.equalIn (d + 1) 77 (.pointer (some a)) (.pointer (some b))).run Try.prog w = .ok false w := fun d => by
    simp [Op.equalIn, run_underlying Try.underlying77, sizeOf, typeInfo, hj, hs, run_sameAddr_other w hne ha hb]
  simp only [binOp]
  simp [Op.equal, Op.maxDepth, h 9999]
theorem one_new (w : World) (v : Value) (t : TypeId) : ∀ j u, ([v] : List Value)[j]? = some u → (w.alloc (.cells #[v] t)).cell? ((⟨w.heap.size, 0, none⟩ : Addr).add j) = some u := by
  intro j u hj
  match j, hj with
  | 0, hj =>
    simp at hj; subst hj
    rw [add_pl, cell_of_row _ _ _ _ _ (0, 0) (heap_alloc_new w _)]; rfl
theorem one_cellv {v : Value} (h : v.oneCell' = true) : ∀ u ∈ ([v] : List Value), u.oneCell' = true := by
  intro u hu; rw [List.mem_singleton.1 hu]; exact h
section
variable {w : World} {hb : Nat} {r : Int} {L : List Ent} {mb : Nat} {o : Obj} {g h : Addr → Addr} {s : Int} {M : List (Tx × Nat)}
theorem Hs.below (H : Hs w hb r L mb o g h s M) {w' : World} (hb' : Below w.heap.size w w') : Hs w' hb r L mb o g h s M := H.keep (fun b hb1 => by
  refine hb'.block b ?_
  rcases hb1 with rfl | rfl | ⟨e, he, rfl⟩
  · exact H.lth
  · exact H.ltm
  · exact blt (H.nd e he))
/-- The address of the first of these, or the ring's end. -/
def hdA (hb : Nat) : List Ent → Addr
  | [] => ea hb
  | e :: _ => na e.nd
theorem rg_mid {g h : Addr → Addr} {hb : Nat} {z : Addr} : ∀ {A : List Ent} {e : Ent} {B : List Ent} {a : Addr}, Rg g h a ((A ++ e :: B).map fun e => na e.nd) (ea hb) → z = na e.nd → g z = hdA hb B
  | [], e, [], a, hR, hz => by rw [hz]; exact hR.2.2.1
  | [], e, b :: B, a, hR, hz => by rw [hz]; exact hR.2.2.1
  | x :: A, e, B, a, hR, hz => rg_mid (A := A) hR.2.2 hz
theorem rg_first {g h : Addr → Addr} {hb : Nat} {L : List Ent} {a : Addr} (hR : Rg g h a (L.map fun e => na e.nd) (ea hb)) : g a = hdA hb L := by
  cases L with
  | nil => exact hR.1
  | cons e L => exact hR.1
section
attribute [local irreducible] Calls
set_option maxHeartbeats 1000000 in
set_option maxRecDepth 1000000 in
theorem keys_at (H : Hs w hb r L mb o g h s M) (hM : M.length = L.length) (hl : L.length ≤ 8796093022207) :
    Calls Try.prog 36 #[.pointer (some ⟨hb, 0, none⟩)] w fun e1 w' => ∃ v, e1 = .returned v ∧ Kl w' w.heap.size v (L.map En.key) ∧ Below w.heap.size w w' := by
  obtain ⟨i0, hi, hz0, hz1, hz2⟩ := info_parts infoK
  have c2 := H.c2
  have c7 := H.c7
  rw [rg_first H.rg] at c7
  have hlen := H.mo.len Try.underlying76 mb
  have HLn := (show Hid (∀ ty, (Builtin.len_ #[76] ty #[.map (some mb)]).run Try.prog w = .ok (.int .i64 (L.length : Int)) w) from fun ty => by rw [hlen ty w H.mp, hM])
  have hlen2 := HLn.out
  have HH := (show Hid _ from H)
  have HB := (show Hid (L.length ≤ 8796093022207) from hl)
  have kL : ∀ j, j < L.length → (j + 1) * 16 ≤ 140737488355328 := fun j hj => by omega
  have KL := (show Hid _ from kL)
  clear hlen H hM hl kL HLn
  obtain ⟨a0, ha0⟩ : ∃ a0, a0 = hdA hb L := ⟨_, rfl⟩
  rw [← ha0] at c7
  have HA0 := (show Hid (a0 = hdA hb L) from ha0)
  clear ha0
  go_enter Try.func36, Try.ntmps36
  go_wp2_with (at_make; refine wpList_make_own _ rfl _ _ 38 rfl w.heap.size 9 i0 (.string ⟨#[]⟩) 1 Try.underlying38 hi hz0 hz1 _ _ _ L.length rfl rfl rfl (by have := HB.out; rw [hz2]; omega) (by have := HB.out; unfold maxLen; omega) (Nat.le_refl _) ?_; intro w1 hrow1 hg1; have hb1 : Below w.heap.size w w1 := (Below.refl _ w).grown hg1 (Nat.le_refl _) (fun j hj => by cases hj); have H1 := HH.out.below hb1; have d7 := H1.c7; rw [rg_first H1.rg, ← HA0.out] at d7; have HH1 := (show Hid _ from H1); clear H1)
  go_loopg [3, 4] L.length (fun k kv ev wr => Hid (∃ A B, L = A ++ B ∧ B.length = k ∧ ev = .pointer (some (hdA hb B)) ∧ Kl wr w.heap.size kv (A.map En.key) ∧ Below w.heap.size w wr))
  case atStart => exact ⟨[], L, rfl, rfl, by rw [HA0.out], hrow1, hb1⟩
  case round =>
    obtain ⟨A, B, hAB, hBl, rfl, hK, hb2⟩ := hrel.out
    cases B with
    | nil =>
      show Code.wp _ _ _ _ _
      unfold hdA ea
      have HF := (show Hid _ from And.intro hK hb2)
      have HAB := (show Hid _ from hAB)
      have hne := fun W => neq_same ⟨hb, 3, none⟩ W
      clear hK hb2 hAB hBl hrel
      go_wp2
      go_ret
      refine ⟨_, rfl, ?_, HF.out.2⟩
      rw [HAB.out, List.append_nil]
      exact HF.out.1
    | cons e B =>
      unfold hdA na
      have H2 := HH.out.below hb2
      have hne : e ∈ L := by rw [hAB]; simp
      have n0 := (node_cells (H2.nd e hne)).1
      have n4 := (cl_node (H2.nd e hne)).c4
      rw [rg_mid (g := g) (h := h) (hb := hb) (A := A) (e := e) (B := B) (a := ea hb) (z := na e.nd) (by rw [← hAB]; exact H2.rg) rfl] at n4
      have n4 : wr.cell? ⟨e.nd, 4, none⟩ = some (.pointer (some (hdA hb B))) := n4
      obtain ⟨a1, ha1⟩ : ∃ a1, a1 = hdA hb B := ⟨_, rfl⟩
      rw [← ha1] at n4
      have hnl := H2.nd e hne
      have hnq := neq_other (w := wr) (a := ⟨e.nd, 0, none⟩) (b := ⟨hb, 3, none⟩) (fun h => by injection h; omega) hnl H2.hd
      have hll : A.length + 1 ≤ L.length := by rw [hAB]; simp
      have hb16 := HB.out
      have hK' : wr.ownsRow w.heap.size 9 1 u3 A.length ((A.map En.key).map encStr) := by have := hK; unfold Kl at this; rwa [List.length_map] at this
      have HK : Hid (wr.ownsRow w.heap.size 9 1 u3 A.length ((A.map En.key).map encStr)) := hK'
      have hlt := blt hnl
      have HW := (show Hid (Below w.heap.size w wr ∧ L = A ++ e :: B ∧ (e :: B).length = gk ∧ a1 = hdA hb B) from ⟨hb2, hAB, hBl, ha1⟩)
      have hz := hb2.size
      have hbb : A.length + 1 ≤ maxLen ∧ (A.length + 1) * 16 ≤ 140737488355328 := ⟨by unfold maxLen; omega, by omega⟩
      have HBB := (show Hid _ from hbb)
      have HZ := (show Hid _ from hz)
      have hpa : Below wr.heap.size wr (wr.alloc (.cells #[encStr e.key] 9)) := (Below.refl _ _).alloc (Nat.le_refl _) _
      have STEP : Hid (∀ (v2 : Value) (w2 : World), w2.ownsRow w.heap.size 9 1 v2 (A.length + 1) ((A.map En.key).map encStr ++ [encStr e.key]) → (wr.alloc (.cells #[encStr e.key] 9)).grownBy w2 u3.ownBlock → w2.cell? ⟨e.nd, 4, none⟩ = some (.pointer (some a1)) ∧ Hid (Kl w2 w.heap.size v2 ((A ++ [e]).map En.key) ∧ Below w.heap.size w w2)) := by
        intro v2 w2 hown2 hg2
        have hb3 := (HW.out.1.alloc HZ.out (.cells #[encStr e.key] 9)).grown hg2 (by have := HZ.out; simp; omega) (fun j hj => by
          rcases HK.out.2 with ⟨h1, _⟩ | ⟨g', cap, c, h1, h2, _⟩
          · rw [h1] at hj; cases hj
          · rw [h1] at hj; cases hj; exact h2)
        have H2 := HH.out.below hb3
        have hne : e ∈ L := by rw [HW.out.2.1]; simp
        refine ⟨?_, ?_, hb3⟩
        · have h1 := (cl_node (H2.nd e hne)).c4
          rw [rg_mid (g := g) (h := h) (hb := hb) (A := A) (e := e) (B := B) (a := ea hb) (z := na e.nd) (by rw [← HW.out.2.1]; exact H2.rg) rfl, ← HW.out.2.2.2] at h1
          exact h1
        · unfold Kl
          rw [List.length_map, List.length_append, List.map_append, List.map_append]
          exact hown2
      clear hrel hAB hBl hK hb2 H2 hne hll hb16 ha1 hnl hK' hz hbb
      go_wp2_with (at_builtin; refine wpList_append_own _ rfl _ _ 38 rfl w.heap.size 9 i0 (.string ⟨#[]⟩) 1 16 Try.underlying38 hi hz0 hz1 hz2 rfl (by decide) _ _ _ rfl (HK.out.alloc _) ⟨wr.heap.size, 0, none⟩ 1 1 [encStr e.key] rfl rfl (one_new _ _ _) (one_cellv rfl) HBB.out.1 HBB.out.2 (by have := HZ.out; simp; omega) ?_; intro v2 w2 hown2 hg2 _; obtain ⟨n5, HO⟩ := STEP.out v2 w2 hown2 hg2; clear hown2 hg2)
      go_roundg B.length
      case measure => have := HW.out.2.2.1; simp at this; omega
      case rel => exact ⟨A ++ [e], B, by rw [HW.out.2.1]; simp, rfl, by rw [HW.out.2.2.2], HO.out.1, HO.out.2⟩
end
end
end Go.Proofs.Ytjefciioaebbeaa.SS
