/-
  Caches of string,string: their memory; the ring.
-/
import Derived.Test.YtjefciioaebbeaaKy28
namespace Go.Proofs.Ytjefciioaebbeaa.SS
open Go.RowKit Go.Proofs.Ytjefciioaebbeaa
abbrev Ent := En (Tx) (Tx)
/-- A node's address; the ring's end. -/
def na (n : Nat) : Addr := ⟨n, 0, none⟩
def ea (hb : Nat) : Addr := ⟨hb, 3, none⟩
def nodeO (x : Ent) (nw od : Addr) : Obj := .cells #[encStr x.key, encStr x.val, .int .i64 x.wt, .pointer (some nw), .pointer (some od)] 79 (0, 0)
def headO (r s : Int) (mb : Nat) (nw od : Addr) : Obj := .cells #[.int .i64 r, .int .i64 s, .map (some mb), (.string ⟨#[]⟩), (.string ⟨#[]⟩), .int .i64 0, .pointer (some nw), .pointer (some od)] 81 (0, 0)
/-- What a cache holds, in memory. -/
structure Hs (w : World) (hb : Nat) (r : Int) (L : List Ent) (mb : Nat) (o : Obj) (g h : Addr → Addr) (s : Int) (M : List (Tx × Nat)) : Prop where
  hd : w.heap[hb]? = some (headO r s mb (h (ea hb)) (g (ea hb)))
  mp : w.heap[mb]? = some o
  mo : MpO encStr o M
  nd : ∀ e ∈ L, w.heap[e.nd]? = some (nodeO e (h (na e.nd)) (g (na e.nd)))
  rg : Rg g h (ea hb) (L.map fun e => na e.nd) (ea hb)
  nn : (L.map En.nd).Nodup
  nh : ∀ e ∈ L, e.nd ≠ hb
theorem Hs.ne {w : World} {hb : Nat} {r : Int} {L : List Ent} {mb : Nat} {o : Obj} {g h : Addr → Addr} {s : Int} {M : List (Tx × Nat)} (H : Hs w hb r L mb o g h s M) : mb ≠ hb ∧ ∀ e ∈ L, mb ≠ e.nd := by
  obtain ⟨es, c, e1, _⟩ := H.mo
  refine ⟨fun e2 => ?_, fun e he e2 => ?_⟩
  · have h1 := H.mp; have h2 := H.hd
    rw [e2, h2, e1] at h1; unfold headO at h1; cases h1
  · have h1 := H.mp; have h2 := H.nd e he
    rw [e2, h2, e1] at h1; unfold nodeO at h1; cases h1
theorem na_inj {a b : Nat} (h : na a = na b) : a = b := by injection h
theorem na_ea (a b : Nat) : na a ≠ ea b := fun h => by injection h; omega
theorem ring_nodup {L : List Ent} {hb : Nat} (hn : (L.map En.nd).Nodup) : (ea hb :: L.map fun e => na e.nd).Nodup ∧ ((L.map fun e => na e.nd) ++ [ea hb]).Nodup := by
  have h1 : (L.map fun e => na e.nd).Nodup := by
    have : (L.map fun e => na e.nd) = (L.map En.nd).map na := by simp
    rw [this]
    exact List.pairwise_map.2 (hn.imp (fun hab h => hab (na_inj h)))
  have h2 : ∀ x ∈ L.map fun e => na e.nd, x ≠ ea hb := by
    intro x hx
    obtain ⟨e, _, rfl⟩ := List.mem_map.1 hx
    exact na_ea _ _
  refine ⟨List.nodup_cons.2 ⟨fun h => h2 _ h rfl, h1⟩, List.nodup_append.2 ⟨h1, by simp, fun x hx y hy => ?_⟩⟩
  rw [List.mem_singleton.1 hy]
  exact h2 x hx
/-- Two addresses are written: the one that comes behind p, the one that comes ahead of s. -/
def two (w : World) (p s p' s' : Addr) : World := (w.setCell ⟨p.block, p.off + 4, none⟩ (.pointer (some s'))).setCell ⟨s.block, s.off + 3, none⟩ (.pointer (some p'))
theorem two_other (w : World) {p s p' s' : Addr} {k : Nat} (h1 : k ≠ p.block) (h2 : k ≠ s.block) : (two w p s p' s').heap[k]? = w.heap[k]? := by
  unfold two
  rw [heap_setCell_other _ ⟨s.block, s.off + 3, none⟩ _ _ h2, heap_setCell_other _ ⟨p.block, p.off + 4, none⟩ _ _ h1]
theorem two_size (w : World) (p s p' s' : Addr) : (two w p s p' s').heap.size = w.heap.size := by simp [two]
/-- Of the ring: a node, or its end. -/
def Nod (hb : Nat) (a : Addr) : Prop := (∃ n, a = na n ∧ n ≠ hb) ∨ a = ea hb
theorem two_node {w : World} {p s p' s' : Addr} {hb n : Nat} {x : Ent} {g h : Addr → Addr} (hp : Nod hb p) (hs : Nod hb s) (hn : n ≠ hb) (H : w.heap[n]? = some (nodeO x (h (na n)) (g (na n)))) :
    (two w p s p' s').heap[n]? = some (nodeO x (upd h s p' (na n)) (upd g p s' (na n))) := by
  unfold nodeO at H ⊢
  have e1 : (w.setCell ⟨p.block, p.off + 4, none⟩ (.pointer (some s'))).heap[n]? = some (.cells #[encStr x.key, encStr x.val, .int .i64 x.wt, .pointer (some (h (na n))), .pointer (some (upd g p s' (na n)))] 79 (0, 0)) := by
    by_cases e : na n = p
    · subst e
      rw [show (na n).block = n from rfl, show (na n).off + 4 = 4 from rfl, heap_setCell_same w n 4 _ _ _ H, upd_at]; rfl
    · rw [upd_ne _ _ e, heap_setCell_other _ _ _ _ ?_]
      · exact H
      · rcases hp with ⟨m, rfl, _⟩ | rfl
        · exact fun h => e (by rw [show n = m from h])
        · exact hn
  unfold two
  by_cases e : na n = s
  · subst e
    rw [show (na n).block = n from rfl, show (na n).off + 3 = 3 from rfl, heap_setCell_same _ n 3 _ _ _ e1, upd_at]; rfl
  · rw [upd_ne _ _ e, heap_setCell_other _ _ _ _ ?_]
    · exact e1
    · rcases hs with ⟨m, rfl, _⟩ | rfl
      · exact fun h => e (by rw [show n = m from h])
      · exact hn
theorem two_head {w : World} {p s p' s' : Addr} {hb mb : Nat} {r sm : Int} {g h : Addr → Addr} (hp : Nod hb p) (hs : Nod hb s) (H : w.heap[hb]? = some (headO r sm mb (h (ea hb)) (g (ea hb)))) :
    (two w p s p' s').heap[hb]? = some (headO r sm mb (upd h s p' (ea hb)) (upd g p s' (ea hb))) := by
  unfold headO at H ⊢
  have e1 : (w.setCell ⟨p.block, p.off + 4, none⟩ (.pointer (some s'))).heap[hb]? = some (.cells #[.int .i64 r, .int .i64 sm, .map (some mb), (.string ⟨#[]⟩), (.string ⟨#[]⟩), .int .i64 0, .pointer (some (h (ea hb))), .pointer (some (upd g p s' (ea hb)))] 81 (0, 0)) := by
    rcases hp with ⟨m, rfl, hm⟩ | rfl
    · rw [upd_ne _ _ (Ne.symm (na_ea m hb)), heap_setCell_other _ _ _ _ (Ne.symm hm)]
      exact H
    · rw [show (ea hb).block = hb from rfl, show (ea hb).off + 4 = 7 from rfl, heap_setCell_same w hb 7 _ _ _ H, upd_at]; rfl
  unfold two
  rcases hs with ⟨m, rfl, hm⟩ | rfl
  · rw [upd_ne _ _ (Ne.symm (na_ea m hb)), heap_setCell_other _ _ _ _ (Ne.symm hm)]
    exact e1
  · rw [show (ea hb).block = hb from rfl, show (ea hb).off + 3 = 6 from rfl, heap_setCell_same _ hb 6 _ _ _ e1, upd_at]; rfl
/-- The cells of a node of the ring. -/
structure Cl (w : World) (a nw od : Addr) : Prop where
  c3 : w.cell? ⟨a.block, a.off + 3, none⟩ = some (.pointer (some nw))
  c4 : w.cell? ⟨a.block, a.off + 4, none⟩ = some (.pointer (some od))
  z3 : w.frozen? ⟨a.block, a.off + 3, none⟩ = false
  z4 : w.frozen? ⟨a.block, a.off + 4, none⟩ = false
  sp : a.spot = none
theorem cl_node {w : World} {n : Nat} {x : Ent} {nw od : Addr} (H : w.heap[n]? = some (nodeO x nw od)) : Cl w (na n) nw od := by
  unfold nodeO at H
  exact ⟨by rw [show (⟨(na n).block, (na n).off + 3, none⟩ : Addr) = ⟨n, 3, none⟩ from rfl, cell_of_row w n 3 _ _ _ H]; rfl, by rw [show (⟨(na n).block, (na n).off + 4, none⟩ : Addr) = ⟨n, 4, none⟩ from rfl, cell_of_row w n 4 _ _ _ H]; rfl, frozen_of_row w n _ _ _ H, frozen_of_row w n _ _ _ H, rfl⟩
theorem cl_head {w : World} {hb mb : Nat} {r s : Int} {nw od : Addr} (H : w.heap[hb]? = some (headO r s mb nw od)) : Cl w (ea hb) nw od := by
  unfold headO at H
  exact ⟨by rw [show (⟨(ea hb).block, (ea hb).off + 3, none⟩ : Addr) = ⟨hb, 6, none⟩ from rfl, cell_of_row w hb 6 _ _ _ H]; rfl, by rw [show (⟨(ea hb).block, (ea hb).off + 4, none⟩ : Addr) = ⟨hb, 7, none⟩ from rfl, cell_of_row w hb 7 _ _ _ H]; rfl, frozen_of_row w hb _ _ _ H, frozen_of_row w hb _ _ _ H, rfl⟩
theorem cell_other {w : World} {a b : Addr} (h : a ≠ b) (v : Value) : (w.setCell b v).cell? a = w.cell? a := World.cell?_setCell_other _ _ _ _ (Ne.symm h)
section
attribute [local irreducible] Calls
set_option maxRecDepth 1000000 in
theorem unlink_any {w : World} {n : Nat} {p s : Addr} {a b c d : Addr} (E : Cl w (na n) p s) (HP : Cl w p a b) (HS : Cl w s c d) (hp : n ≠ p.block) (hs : n ≠ s.block) :
    Calls Try.prog 66 #[.pointer (some (na n))] w fun e w' => e = .returned (.tuple #[]) ∧ ∃ k, w' = (two w p s p s).drewN k := by
  obtain ⟨pb, po, ps⟩ := p
  obtain ⟨sb, so, ss⟩ := s
  have h1 := HP.sp
  have h2 := HS.sp
  simp only at h1 h2 hp hs
  subst h1 h2
  have k3 := E.c3
  have k4 := E.c4
  have p4 := HP.c4
  have y4 := HP.z4
  have q3 := HS.c3
  have y3 := HS.z3
  simp only [na, Nat.zero_add] at k3 k4 p4 y4 q3 y3
  unfold two na
  clear E HP HS
  have f3 : (w.setCell ⟨pb, po + 4, none⟩ (.pointer (some ⟨sb, so, none⟩))).cell? ⟨n, 3, none⟩ = some (.pointer (some ⟨pb, po, none⟩)) := by
    rw [cell_other (fun h => hp (by injection h)), k3]
  have f4 : (w.setCell ⟨pb, po + 4, none⟩ (.pointer (some ⟨sb, so, none⟩))).cell? ⟨n, 4, none⟩ = some (.pointer (some ⟨sb, so, none⟩)) := by
    rw [cell_other (fun h => hp (by injection h)), k4]
  have g3 : ∃ v, (w.setCell ⟨pb, po + 4, none⟩ (.pointer (some ⟨sb, so, none⟩))).cell? ⟨sb, so + 3, none⟩ = some v := by
    by_cases e : (⟨sb, so + 3, none⟩ : Addr) = ⟨pb, po + 4, none⟩
    · rw [e]; exact ⟨_, World.cell?_setCell_same _ _ _ p4⟩
    · exact ⟨_, by rw [cell_other e, q3]⟩
  obtain ⟨v3, g3⟩ := g3
  have y3' : (w.setCell ⟨pb, po + 4, none⟩ (.pointer (some ⟨sb, so, none⟩))).frozen? ⟨sb, so + 3, none⟩ = false := by simp [y3]
  obtain ⟨W, hW⟩ : ∃ W, W = w.setCell ⟨pb, po + 4, none⟩ (.pointer (some ⟨sb, so, none⟩)) := ⟨_, rfl⟩
  rw [← hW] at f3 f4 g3 y3' ⊢
  have HW := (show Hid (w.setCell ⟨pb, po + 4, none⟩ (.pointer (some ⟨sb, so, none⟩)) = W) from hW.symm)
  clear hW hp hs
  go_enter Try.func66, Try.ntmps66
  go_wp2
  go_region
  rw [HW.out]
  clear k3 k4 p4 y4 q3 y3
  go_wp2
  go_region
  go_wp2
  refine bodyPost_end (results_none rfl _ _ _) rfl ?_
  exact ⟨rfl, 2, rfl⟩
/-- A node's own two pointers are laid. -/
def lay2 (w : World) (n : Nat) (nw od : Addr) : World := (w.setCell ⟨n, 3, none⟩ (.pointer (some nw))).setCell ⟨n, 4, none⟩ (.pointer (some od))
set_option maxRecDepth 1000000 in
theorem link_any {w : World} {n hb : Nat} {f : Addr} {a c d : Addr} {u3 u4 : Value} (k3 : w.cell? ⟨n, 3, none⟩ = some u3) (k4 : w.cell? ⟨n, 4, none⟩ = some u4) (y3 : w.frozen? ⟨n, 3, none⟩ = false) (y4 : w.frozen? ⟨n, 4, none⟩ = false)
    (E : Cl w (ea hb) a f) (HF : Cl w f c d) (hn : n ≠ hb) (hf : n ≠ f.block) :
    Calls Try.prog 65 #[.pointer (some ⟨hb, 0, none⟩), .pointer (some (na n))] w fun e w' => e = .returned (.tuple #[]) ∧ ∃ k, w' = (two (lay2 w n (ea hb) f) (ea hb) f (na n) (na n)).drewN k := by
  obtain ⟨fb, fo, fs⟩ := f
  have h1 := HF.sp
  simp only at h1 hf
  subst h1
  have e4 := E.c4
  have z4 := E.z4
  have q3 := HF.c3
  have x3 := HF.z3
  simp only [ea] at e4 z4 q3 x3
  clear E HF
  obtain ⟨W, hW⟩ : ∃ W, W = lay2 w n (ea hb) ⟨fb, fo, none⟩ := ⟨_, rfl⟩
  have hW' := hW
  unfold lay2 ea at hW'
  have j3 : W.cell? ⟨n, 3, none⟩ = some (.pointer (some ⟨hb, 3, none⟩)) := by
    rw [hW', cell_other (fun h => by injection h; omega), World.cell?_setCell_same _ _ _ k3]
  have j4 : W.cell? ⟨n, 4, none⟩ = some (.pointer (some ⟨fb, fo, none⟩)) := by
    rw [hW']
    exact World.cell?_setCell_same _ _ _ ((cell_other (fun h => by injection h; omega) _).trans k4)
  have j7 : W.cell? ⟨hb, 7, none⟩ = some (.pointer (some ⟨fb, fo, none⟩)) := by
    rw [hW', cell_other (fun h => hn (by injection h with h; exact h.symm)), cell_other (fun h => hn (by injection h with h; exact h.symm)), e4]
  have jz : W.frozen? ⟨hb, 7, none⟩ = false := by rw [hW']; simp [z4]
  have g3 : ∃ v, (W.setCell ⟨hb, 7, none⟩ (.pointer (some ⟨n, 0, none⟩))).cell? ⟨fb, fo + 3, none⟩ = some v := by
    by_cases e : (⟨fb, fo + 3, none⟩ : Addr) = ⟨hb, 7, none⟩
    · rw [e]; exact ⟨_, World.cell?_setCell_same _ _ _ j7⟩
    · refine ⟨_, by rw [cell_other e, hW', cell_other (fun h => hf (by injection h with h; exact h.symm)), cell_other (fun h => hf (by injection h with h; exact h.symm)), q3]⟩
  obtain ⟨v3, g3⟩ := g3
  have x3' : (W.setCell ⟨hb, 7, none⟩ (.pointer (some ⟨n, 0, none⟩))).frozen? ⟨fb, fo + 3, none⟩ = false := by rw [hW']; simp [x3]
  have HW := (show Hid (((w.setCell ⟨n, 3, none⟩ (.pointer (some ⟨hb, 3, none⟩))).setCell ⟨n, 4, none⟩ (.pointer (some ⟨fb, fo, none⟩))) = W) from hW'.symm)
  have k4' : (w.setCell ⟨n, 3, none⟩ (.pointer (some ⟨hb, 3, none⟩))).cell? ⟨n, 4, none⟩ = some u4 := by rw [cell_other (fun h => by injection h; omega), k4]
  rw [← hW]
  unfold two na ea
  clear hW hW' hf q3 x3
  go_enter Try.func65, Try.ntmps65
  go_wp2
  go_region
  rw [HW.out]
  clear k3 k4 k4' y3 y4 e4 z4
  go_wp2
  go_region
  go_wp2
  refine bodyPost_end (results_none rfl _ _ _) rfl ?_
  exact ⟨rfl, 2, rfl⟩
end
end Go.Proofs.Ytjefciioaebbeaa.SS
