/-
  A step of a wound, of a drive: any of the eight.
-/
import Derived.Test.YtjjncajfljbegaaLwD
import Derived.Test.YtjjncajfljbegaaWj
namespace Go.Proofs.Ytjjncajfljbegaa
open Go.RowKit Go.Maps Go.Sort
theorem pat_nil (k : Int) : pat (.map []) k = 0 := rfl
theorem ahd_plain {k rc : Int} (rm : Bool) : ahd ⟨false, false, k, rc, false, 0, 0, 0⟩ (.map []) rm = ((false, 0), ⟨false, false, k + 1, rc + 1, false, 0, 0, 0⟩) := by
  simp [ahd, plnd, pat_nil]
theorem okk_nxt {k : Nat} {σ : Ds} (h : Okk k σ) (hk : k ≤ 134217728) (c : Nat) (x y d : Tx) : Okk (k + 1 + d.length) (nxt c σ x y d) := by
  unfold nxt
  split
  · exact (h.create hk x).mono (by omega)
  · exact h.append x d
  · exact (h.sync x).mono (by omega)
  · exact (h.rename hk x y).mono (by omega)
  · exact (h.remove hk x).mono (by omega)
  · exact h.syncDir.mono (by omega)
  · exact h.mono (by omega)
theorem eight {k : Int} (h : 1 ≤ k ∧ k ≤ 8) : k = 1 ∨ k = 2 ∨ k = 3 ∨ k = 4 ∨ k = 5 ∨ k = 6 ∨ k = 7 ∨ k = 8 := by omega
theorem plain_all {w : World} {db k : Nat} {σ : Ds} {F : Nat → Prop} (h : DrAt w db σ F) (ok : Okk k σ) (hk : k ≤ 134217728) (s : Sp) (d : Tx) (hd : Rx w s.pd d) (hn : d.length = s.nd) (hm : s.nd ≤ 134217728) (hx : s.x.length ≤ 140737488355328) (hy : s.y.length ≤ 140737488355328) (c : Int) (hc : 1 ≤ c ∧ c ≤ 8) : Calls Try.prog 15 #[.pointer (some ⟨db, 0, none⟩), .agg (s.v c)] w fun e w' => ∃ v, e = .returned v ∧ SdV w' w.heap.size v (ans c.toNat σ s.x s.y d) ∧ DrAt w' db (nxt c.toNat σ s.x s.y d) (Fn F w w') ∧ Tn F w w' := by
  rcases eight hc with rfl | rfl | rfl | rfl | rfl | rfl | rfl | rfl
  · exact plain1 h ok hk s d hx hy
  · exact plain2 h ok hk s d hd hn hm hx hy
  · exact plain3 h ok hk s d hx hy
  · exact plain4 h ok hk s d hx hy
  · exact plain5 h ok hk s d hx hy
  · exact plain6 h ok hk s d hx hy
  · exact plain7 h ok hk s d hx hy
  · exact plain8 h ok hk s d hx hy
theorem hurt_all {w : World} {wb db k : Nat} {pl : Option Nat} {g : Gt} {P : DataW Unit} {σ : Ds} {F : Nat → Prop} (h : Kw w wb db pl g P σ F) (ok : Gok g) (od : Okk k σ) (hk : k ≤ 134217728) (s : Sp) (d : Tx) (hd : Rx w s.pd d) (hn : d.length = s.nd) (hm : s.nd ≤ 134217728) (hx : s.x.length ≤ 140737488355328) (hy : s.y.length ≤ 140737488355328) (c : Int) (hc : 1 ≤ c ∧ c ≤ 8) : Calls Try.prog 14 #[.pointer (some ⟨wb, 0, none⟩), .agg (s.v c)] w fun e w' => ∃ v, e = .returned v ∧ SdV w' w.heap.size v (hans c.toNat g P σ s.x s.y d) ∧ Kw w' wb db pl (ahd g P (hrm c.toNat)).2 P (hnxt c.toNat g P σ s.x s.y d) (Fn F w w') ∧ Tn (fun b => b = wb ∨ F b) w w' := by
  rcases eight hc with rfl | rfl | rfl | rfl | rfl | rfl | rfl | rfl
  · exact hurt1 h ok od hk s d hx hy
  · exact hurt2 h ok od hk s d hd hn hm hx hy
  · exact hurt3 h ok od hk s d hx hy
  · exact hurt4 h ok od hk s d hx hy
  · exact hurt5 h ok od hk s d hx hy
  · exact hurt6 h ok od hk s d hx hy
  · exact hurt7 h ok od hk s d hx hy
  · exact hurt8 h ok od hk s d hx hy
theorem Kw.tn {w w' : World} {wb db : Nat} {pl : Option Nat} {g : Gt} {P : DataW Unit} {σ : Ds} {F G : Nat → Prop} (h : Kw w wb db pl g P σ F) (hT : Tn G w w') (hFG : ∀ b, F b → ¬ G b) (hw : ¬ G wb) (hp : ∀ b, pl = some b → ¬ G b) : Kw w' wb db pl g P σ F := by
  obtain ⟨hW, hP, hD, hn, hq⟩ := h
  exact ⟨hW.tn hT hw, hP.sameAt (fun b e hb => hT.block b hb (hp b e)), hD.tn hT hFG, hn, hq⟩
theorem own_tn {w w' : World} {base : Nat} {G : Nat → Prop} {e : TypeId} {sz n : Nat} {v : Value} {xs : List Value} (h : w.ownsRow base e sz v n xs) (hT : Tn G w w') (hG : ∀ b, base ≤ b → ¬ G b) : w'.ownsRow base e sz v n xs := by
  refine ob_same h fun g hg => ?_
  rcases h.2 with ⟨hv, _⟩ | ⟨g', cap, c, hv, h1, hh, _⟩
  · rw [hv] at hg; cases hg
  · rw [hv] at hg
    simp [Value.ownBlock] at hg
    subst hg
    exact hT.block g' (blt hh) (hG g' h1)
theorem SdV.tn {w w' : World} {base : Nat} {G : Nat → Prop} {v : Value} {a : An} (h : SdV w base v a) (hT : Tn G w w') (hG : ∀ b, base ≤ b → ¬ G b) : SdV w' base v a := by
  obtain ⟨dv, nv, e, h1, h2⟩ := h
  exact ⟨dv, nv, e, own_tn h1 hT hG, own_tn h2 hT hG⟩
theorem ans_few {k : Nat} {σ : Ds} (h : Okk k σ) (hk : k ≤ 134217728) (c : Nat) (x y d : Tx) : (ans c σ x y d).2.2.length ≤ 1000000000 := by
  have hn : (nms σ.st).length ≤ 1000000000 := by
    rw [nms_len]
    obtain ⟨es, e, _⟩ := h.ts
    have := h.ss
    rw [e] at this ⊢
    simp [strKeys, Maps.size] at this ⊢
    omega
  unfold ans
  split <;> first | exact Nat.zero_le _ | exact hn
/-- A wound on a drive, and another drive, alike. -/
structure PR (w : World) (wb db tb m k : Nat) (wr : World) : Prop where
  ex : ∃ σ F G rc, Kw wr wb db none ⟨false, false, k, rc, false, 0, 0, 0⟩ (.map []) σ F ∧ DrAt wr tb σ G ∧ (∀ b, F b → ¬ G b) ∧ ¬ G wb ∧ (∀ b, F b → w.heap.size ≤ b) ∧ (∀ b, G b → w.heap.size ≤ b) ∧ Okk m σ ∧ 0 ≤ rc ∧ rc ≤ (k : Int)
  bl : Below w.heap.size w wr
theorem PR.below {w wr w' : World} {wb db tb m k : Nat} (h : PR w wb db tb m k wr) (hb : Below wr.heap.size wr w') : PR w wb db tb m k w' := by
  obtain ⟨⟨σ, F, G, rc, h1, h2, h3⟩, h4⟩ := h
  exact ⟨⟨σ, F, G, rc, h1.below hb, h2.below hb, h3⟩, bt h4 hb⟩
/-- The start. -/
theorem PR.start (w : World) (r : Nat) (w' : World) (hb : Below (((w.alloc (.cells #[.int .i64 (r : Int), .int .i64 0, .map none, .map none, .slice none 0 0] 75)).alloc (.cells #[.int .i64 (r : Int), .int .i64 0, .map none, .map none, .slice none 0 0] 75)).alloc (.cells #[.pointer (some ⟨w.heap.size, 0, none⟩), .bool false, .bool false, .map none, .int .i64 0, .int .i64 0, .bool false, .int .i64 0, .int .i64 0, .int .i64 0] 60)).heap.size (((w.alloc (.cells #[.int .i64 (r : Int), .int .i64 0, .map none, .map none, .slice none 0 0] 75)).alloc (.cells #[.int .i64 (r : Int), .int .i64 0, .map none, .map none, .slice none 0 0] 75)).alloc (.cells #[.pointer (some ⟨w.heap.size, 0, none⟩), .bool false, .bool false, .map none, .int .i64 0, .int .i64 0, .bool false, .int .i64 0, .int .i64 0, .int .i64 0] 60)) w') : PR w (w.heap.size + 2) w.heap.size (w.heap.size + 1) 0 0 w' := by
  refine PR.below ⟨⟨Ds.new r, (· = w.heap.size), (· = w.heap.size + 1), 0, ?_, ?_, ?_, ?_, ?_, ?_, Okk.new r, Int.le_refl _, Int.le_refl _⟩, al3 w _ _ _⟩ hb
  · refine ⟨(at3 w _ _ _).2.2, .inl ⟨rfl, rfl⟩, ((new_dr w r).below (alb _ _)).below (alb _ _), fun h => ?_, fun b e => by cases e⟩
    have : w.heap.size + 2 = w.heap.size := h
    omega
  · have h1 := (new_dr (w.alloc (.cells #[.int .i64 (r : Int), .int .i64 0, .map none, .map none, .slice none 0 0] 75)) r).below (alb _ (.cells #[.pointer (some ⟨w.heap.size, 0, none⟩), .bool false, .bool false, .map none, .int .i64 0, .int .i64 0, .bool false, .int .i64 0, .int .i64 0, .int .i64 0] 60))
    rw [show (w.alloc (.cells #[.int .i64 (r : Int), .int .i64 0, .map none, .map none, .slice none 0 0] 75)).heap.size = w.heap.size + 1 by simp] at h1
    exact h1
  · intro b h1 h2
    have h1' : b = w.heap.size := h1
    have h2' : b = w.heap.size + 1 := h2
    omega
  · intro h
    have : w.heap.size + 2 = w.heap.size + 1 := h
    omega
  · intro b h
    have : b = w.heap.size := h
    omega
  · intro b h
    have : b = w.heap.size + 1 := h
    omega
end Go.Proofs.Ytjjncajfljbegaa
