/-
  Caches of string,string: what the ring's calls make of what is held.
-/
import Derived.Test.YtjefciioaebbeaaCaS28
namespace Go.Proofs.Ytjefciioaebbeaa.SS
open Go.RowKit Go.Proofs.Ytjefciioaebbeaa
section
variable {w : World} {hb : Nat} {r : Int} {L : List Ent} {mb : Nat} {o : Obj} {g h : Addr → Addr} {s : Int} {M : List (Tx × Nat)}
theorem Hs.heap (H : Hs w hb r L mb o g h s M) {w' : World} (e : w'.heap = w.heap) : Hs w' hb r L mb o g h s M :=
  ⟨by rw [e]; exact H.hd, by rw [e]; exact H.mp, H.mo, fun x hx => by rw [e]; exact H.nd x hx, H.rg, H.nn, H.nh⟩
theorem Hs.keep (H : Hs w hb r L mb o g h s M) {w' : World} (hk : ∀ b, (b = hb ∨ b = mb ∨ ∃ e ∈ L, b = e.nd) → w'.heap[b]? = w.heap[b]?) : Hs w' hb r L mb o g h s M :=
  ⟨by rw [hk hb (.inl rfl)]; exact H.hd, by rw [hk mb (.inr (.inl rfl))]; exact H.mp, H.mo, fun x hx => by rw [hk _ (.inr (.inr ⟨x, hx, rfl⟩))]; exact H.nd x hx, H.rg, H.nn, H.nh⟩
theorem Hs.cl (H : Hs w hb r L mb o g h s M) {a : Addr} (ha : a ∈ ea hb :: L.map fun e => na e.nd) : Nod hb a ∧ ∃ x y, Cl w a x y := by
  rcases List.mem_cons.1 ha with rfl | ha
  · exact ⟨.inr rfl, _, _, cl_head H.hd⟩
  · obtain ⟨e, he, rfl⟩ := List.mem_map.1 ha
    exact ⟨.inl ⟨e.nd, rfl, H.nh e he⟩, _, _, cl_node (H.nd e he)⟩
theorem swap_mem {A : Type} {a x : A} {l : List A} : x ∈ l ++ [a] ↔ x ∈ a :: l := by simp [or_comm]
theorem Hs.unlink {A B : List Ent} {e : Ent} (H : Hs w hb r (A ++ e :: B) mb o g h s M) :
    Calls Try.prog 66 #[.pointer (some (na e.nd))] w (fun e1 w' => e1 = .returned (.tuple #[]) ∧ ∃ k, w' = (two w (h (na e.nd)) (g (na e.nd)) (h (na e.nd)) (g (na e.nd))).drewN k) ∧
    ∃ g' h', Hs (two w (h (na e.nd)) (g (na e.nd)) (h (na e.nd)) (g (na e.nd))) hb r (A ++ B) mb o g' h' s M ∧ (two w (h (na e.nd)) (g (na e.nd)) (h (na e.nd)) (g (na e.nd))).heap[e.nd]? = some (nodeO e (h (na e.nd)) (g (na e.nd))) ∧ Tn (fun b => b = hb ∨ ∃ y ∈ A ++ e :: B, b = y.nd) w (two w (h (na e.nd)) (g (na e.nd)) (h (na e.nd)) (g (na e.nd))) := by
  have hrg := H.rg
  rw [List.map_append, List.map_cons] at hrg
  have hin := rg_in hrg
  have hnd := ring_nodup (hb := hb) H.nn
  have n1 := hnd.1
  have n2 := hnd.2
  rw [List.map_append, List.map_cons] at n1 n2
  have m1 : h (na e.nd) ∈ ea hb :: (A ++ e :: B).map fun e => na e.nd := by
    have := hin.1
    simp only [List.map_append, List.map_cons, List.mem_cons, List.mem_append] at this ⊢
    rcases this with h | h
    · exact .inl h
    · exact .inr (.inl h)
  have m2 : g (na e.nd) ∈ ea hb :: (A ++ e :: B).map fun e => na e.nd := by
    have := hin.2
    simp only [List.map_append, List.map_cons, List.mem_cons, List.mem_append, List.not_mem_nil, or_false] at this ⊢
    rcases this with h | h
    · exact .inr (.inr (.inr h))
    · exact .inl h
  have ne1 : h (na e.nd) ≠ na e.nd := by
    intro he
    have h1 := hin.1
    rw [he] at h1
    have n3 : ((ea hb :: A.map fun e => na e.nd) ++ (na e.nd :: B.map fun e => na e.nd)).Nodup := n1
    exact (List.nodup_append.1 n3).2.2 _ h1 _ (by simp) rfl
  have ne2 : g (na e.nd) ≠ na e.nd := by
    intro he
    have h1 := hin.2
    rw [he] at h1
    have n3 : ((A.map fun e => na e.nd) ++ (na e.nd :: ((B.map fun e => na e.nd) ++ [ea hb]))).Nodup := by simpa using n2
    exact (List.nodup_cons.1 (List.nodup_append.1 n3).2.1).1 h1
  obtain ⟨P1, x1, y1, C1⟩ := H.cl m1
  obtain ⟨P2, x2, y2, C2⟩ := H.cl m2
  have he := H.nd e (by simp)
  have hne := H.nh e (by simp)
  have b1 : e.nd ≠ (h (na e.nd)).block := by
    rcases P1 with ⟨m, hm, _⟩ | hm
    · rw [hm] at ne1 ⊢; exact fun h => ne1 (by rw [show e.nd = m from h])
    · rw [hm]; exact hne
  have b2 : e.nd ≠ (g (na e.nd)).block := by
    rcases P2 with ⟨m, hm, _⟩ | hm
    · rw [hm] at ne2 ⊢; exact fun h => ne2 (by rw [show e.nd = m from h])
    · rw [hm]; exact hne
  refine ⟨unlink_any (cl_node he) C1 C2 b1 b2, upd g (h (na e.nd)) (g (na e.nd)), upd h (g (na e.nd)) (h (na e.nd)), ⟨two_head P1 P2 H.hd, ?_, H.mo, fun y hy => ?_, ?_, ?_, fun y hy => H.nh y ?_⟩, ?_, ?_⟩
  · rw [two_other _ ?_ ?_]
    · exact H.mp
    · obtain ⟨q1, q2⟩ := H.ne
      rcases List.mem_cons.1 m1 with h1 | h1
      · rw [h1]; exact q1
      · obtain ⟨y, hy, h1⟩ := List.mem_map.1 h1
        rw [← h1]; exact q2 y hy
    · obtain ⟨q1, q2⟩ := H.ne
      rcases List.mem_cons.1 m2 with h1 | h1
      · rw [h1]; exact q1
      · obtain ⟨y, hy, h1⟩ := List.mem_map.1 h1
        rw [← h1]; exact q2 y hy
  · have hy' : y ∈ A ++ e :: B := by
      rcases List.mem_append.1 hy with h | h
      · simp [h]
      · simp [h]
    exact two_node P1 P2 (H.nh y hy') (H.nd y hy')
  · rw [List.map_append]
    exact rg_unlink hrg n1 n2
  · have := H.nn
    rw [List.map_append, List.map_cons] at this
    rw [List.map_append]
    exact this.sublist ((List.Sublist.refl _).append (List.sublist_cons_self _ _))
  · rcases List.mem_append.1 hy with h | h
    · simp [h]
    · simp [h]
  · rw [two_other _ b1 b2]; exact he
  · have q : ∀ a, a ∈ (ea hb :: (A ++ e :: B).map fun e => na e.nd) → a.block = hb ∨ ∃ y ∈ A ++ e :: B, a.block = y.nd := by
      intro a ha
      rcases List.mem_cons.1 ha with h1 | h1
      · exact .inl (by rw [h1]; rfl)
      · obtain ⟨y, hy, h1⟩ := List.mem_map.1 h1
        exact .inr ⟨y, hy, by rw [← h1]; rfl⟩
    unfold two
    exact (Tn.setCell _ _ (q _ m1) _).trans (Tn.setCell _ _ (q _ m2) _)
theorem lay2_other (w : World) {n k : Nat} (nw od : Addr) (h : k ≠ n) : (lay2 w n nw od).heap[k]? = w.heap[k]? := by
  unfold lay2
  rw [heap_setCell_other _ ⟨n, 4, none⟩ _ _ h, heap_setCell_other _ ⟨n, 3, none⟩ _ _ h]
/-- A new node, or one that was taken out: its two pointers say nothing. -/
def NewN (w : World) (n : Nat) (x : Ent) : Prop := ∃ a b : Option Addr, w.heap[n]? = some (.cells #[encStr x.key, encStr x.val, .int .i64 x.wt, .pointer a, .pointer b] 79 (0, 0))
theorem Hs.link (H : Hs w hb r L mb o g h s M) {x : Ent} (hx : NewN w x.nd x) (hn : x.nd ≠ hb) (hL : ∀ e ∈ L, x.nd ≠ e.nd) :
    Calls Try.prog 65 #[.pointer (some ⟨hb, 0, none⟩), .pointer (some (na x.nd))] w (fun e1 w' => e1 = .returned (.tuple #[]) ∧ ∃ k, w' = (two (lay2 w x.nd (ea hb) (g (ea hb))) (ea hb) (g (ea hb)) (na x.nd) (na x.nd)).drewN k) ∧
    ∃ g' h', Hs (two (lay2 w x.nd (ea hb) (g (ea hb))) (ea hb) (g (ea hb)) (na x.nd) (na x.nd)) hb r (x :: L) mb o g' h' s M ∧ Tn (fun b => b = hb ∨ b = x.nd ∨ ∃ y ∈ L, b = y.nd) w (two (lay2 w x.nd (ea hb) (g (ea hb))) (ea hb) (g (ea hb)) (na x.nd) (na x.nd)) := by
  obtain ⟨a, b, hx⟩ := hx
  have hnd := ring_nodup (hb := hb) H.nn
  have m1 : g (ea hb) ∈ ea hb :: L.map fun e => na e.nd := swap_mem.1 (rg_g H.rg)
  obtain ⟨P1, x1, y1, C1⟩ := H.cl m1
  have hxm : na x.nd ∉ ea hb :: L.map fun e => na e.nd := by
    intro h1
    rcases List.mem_cons.1 h1 with h1 | h1
    · exact na_ea _ _ h1
    · obtain ⟨y, hy, h1⟩ := List.mem_map.1 h1
      exact hL y hy (na_inj h1).symm
  have b1 : x.nd ≠ (g (ea hb)).block := by
    rcases List.mem_cons.1 m1 with h1 | h1
    · rw [h1]; exact hn
    · obtain ⟨y, hy, h1⟩ := List.mem_map.1 h1
      rw [← h1]; exact hL y hy
  have k3 : w.cell? ⟨x.nd, 3, none⟩ = some (.pointer a) := by rw [cell_of_row w x.nd 3 _ _ _ hx]; rfl
  have k4 : w.cell? ⟨x.nd, 4, none⟩ = some (.pointer b) := by rw [cell_of_row w x.nd 4 _ _ _ hx]; rfl
  have hl : (lay2 w x.nd (ea hb) (g (ea hb))).heap[x.nd]? = some (nodeO x (ea hb) (g (ea hb))) := by
    unfold lay2 nodeO
    rw [heap_setCell_same _ x.nd 4 _ _ _ (heap_setCell_same w x.nd 3 _ _ _ hx)]; rfl
  have hq1 : Hs (lay2 w x.nd (ea hb) (g (ea hb))) hb r L mb o g h s M := H.keep (fun b hb' => lay2_other _ _ _ (by
    rcases hb' with rfl | rfl | ⟨e, he, rfl⟩
    · exact Ne.symm hn
    · intro e2
      obtain ⟨es, c, e1, _⟩ := H.mo
      have h1 := H.mp
      rw [e2, hx, e1] at h1; cases h1
    · exact Ne.symm (hL e he)))
  have hln : (lay2 w x.nd (ea hb) (g (ea hb))).heap[x.nd]? = some (nodeO x (upd h (na x.nd) (ea hb) (na x.nd)) (upd g (na x.nd) (g (ea hb)) (na x.nd))) := by rw [upd_at, upd_at]; exact hl
  have upn : ∀ {f : Addr → Addr} {v y : Addr}, y ∈ (ea hb :: L.map fun e => na e.nd) → upd f (na x.nd) v y = f y := fun hy => upd_ne _ _ (fun e => hxm (e ▸ hy))
  have hq2 : Hs (lay2 w x.nd (ea hb) (g (ea hb))) hb r L mb o (upd g (na x.nd) (g (ea hb))) (upd h (na x.nd) (ea hb)) s M := by
    refine ⟨?_, hq1.mp, H.mo, fun e he => ?_, ?_, H.nn, H.nh⟩
    · rw [upn (by simp), upn (by simp)]; exact hq1.hd
    · have hm : na e.nd ∈ (ea hb :: L.map fun e => na e.nd) := List.mem_cons_of_mem _ (List.mem_map.2 ⟨e, he, rfl⟩)
      rw [upn hm, upn hm]; exact hq1.nd e he
    · exact rg_congr H.rg (fun y hy => upn hy) (fun y hy => upn (swap_mem.1 hy))
  have PE : Nod hb (ea hb) := .inr rfl
  refine ⟨?_, upd (upd g (na x.nd) (g (ea hb))) (ea hb) (na x.nd), upd (upd h (na x.nd) (ea hb)) (g (ea hb)) (na x.nd), ⟨two_head PE P1 hq2.hd, ?_, H.mo, fun y hy => ?_, ?_, ?_, fun y hy => ?_⟩, ?_⟩
  · exact link_any k3 k4 (frozen_of_row w _ _ _ _ hx) (frozen_of_row w _ _ _ _ hx) (cl_head H.hd) C1 hn b1
  · obtain ⟨q1, q2⟩ := hq2.ne
    rw [two_other _ q1 ?_]
    · exact hq2.mp
    · rcases List.mem_cons.1 m1 with h1 | h1
      · rw [h1]; exact q1
      · obtain ⟨y, hy, h1⟩ := List.mem_map.1 h1
        rw [← h1]; exact q2 y hy
  · rcases List.mem_cons.1 hy with rfl | hy
    · exact two_node PE P1 hn hln
    · exact two_node PE P1 (H.nh y hy) (hq2.nd y hy)
  · exact rg_link H.rg hxm (fun h1 => hxm (swap_mem.1 h1)) hnd.1 hnd.2
  · rw [List.map_cons]
    refine List.nodup_cons.2 ⟨fun h1 => ?_, H.nn⟩
    obtain ⟨y, hy, h1⟩ := List.mem_map.1 h1
    exact hL y hy h1.symm
  · rcases List.mem_cons.1 hy with rfl | hy
    · exact hn
    · exact H.nh y hy
  · unfold two lay2
    refine (((Tn.setCell _ _ (.inr (.inl rfl)) _).trans (Tn.setCell _ _ (.inr (.inl rfl)) _)).trans (Tn.setCell _ _ (.inl rfl) _)).trans (Tn.setCell _ _ ?_ _)
    rcases List.mem_cons.1 m1 with h1 | h1
    · rw [h1]; exact .inl rfl
    · obtain ⟨y, hy, h1⟩ := List.mem_map.1 h1
      rw [← h1]; exact .inr (.inr ⟨y, hy, rfl⟩)
end
end Go.Proofs.Ytjefciioaebbeaa.SS
