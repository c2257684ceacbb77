/-
  A wound without a drive; the walk of WoundNil.
-/
import Derived.Test.YtjjjiafokolbpaaWj
namespace Go.Proofs.Ytjjjiafokolbpaa
open Go.RowKit Go.Maps
/-- A wound without a drive, of the call's own. -/
def Bn (w0 w : World) (wb : Nat) (g : Gt) : Prop := Below w0.heap.size w0 w ∧ w0.heap.size ≤ wb ∧ WAt w wb none none g
theorem Bn.up {w0 w w' : World} {wb : Nat} {g g' : Gt} (h : Bn w0 w wb g) (hT : Tn (· = wb) w w') (hW : WAt w' wb none none g') : Bn w0 w' wb g' :=
  ⟨tn_below h.1 hT (fun b e => by have := h.2.1; have : b = wb := e; omega), h.2.1, hW⟩
theorem Bn.below {w0 w w' : World} {wb : Nat} {g : Gt} (h : Bn w0 w wb g) (hb : Below w.heap.size w w') : Bn w0 w' wb g := ⟨bt h.1 hb, h.2.1, h.2.2.below hb⟩
theorem pl0 (w : World) : PlAt w none (.map []) := .inl ⟨rfl, rfl⟩
theorem b_create {w0 w : World} {wb : Nat} {g : Gt} (h : Bn w0 w wb g) (ok : Gok g) (he : (ahd g (.map []) true).1.2 = 0) (x : Tx) : Calls Try.prog 14 #[.pointer (some ⟨wb, 0, none⟩), encStr x] w fun e w' => e = .returned (.int .i64 1) ∧ Bn w0 w' wb (ahd g (.map []) true).2 := by
  refine (wcreate_go h.2.2 (pl0 w) ok (encStr x) he (fun w1 e w' => e = .returned (.int .i64 1) ∧ Below w1.heap.size w1 w') (fun w1 _ => (create_none x w1).mono (fun e w' h => ⟨⟨_, h.1⟩, h⟩))).mono ?_
  rintro e w' ⟨w1, h1, _, h3, h4, h5⟩
  exact ⟨h4, (h.up h3 h1).below h5⟩
theorem b_syncDir {w0 w : World} {wb : Nat} {g : Gt} (h : Bn w0 w wb g) (ok : Gok g) (he : (ahd g (.map []) false).1.2 = 0) : Calls Try.prog 19 #[.pointer (some ⟨wb, 0, none⟩)] w fun e w' => e = .returned (.int .i64 1) ∧ Bn w0 w' wb (ahd g (.map []) false).2 := by
  refine (wsyncDir_go h.2.2 (pl0 w) ok he (fun w1 e w' => e = .returned (.int .i64 1) ∧ w' = w1) (fun w1 _ => (syncDir_none w1).mono (fun e w' h => ⟨⟨_, h.1⟩, h⟩))).mono ?_
  rintro e w' ⟨w1, h1, _, h3, h4, rfl⟩
  exact ⟨h4, h.up h3 h1⟩
theorem b_fuse {w0 w : World} {wb : Nat} {g : Gt} (h : Bn w0 w wb g) (r c i : Int) : Calls Try.prog 6 #[.pointer (some ⟨wb, 0, none⟩), .int .i64 r, .int .i64 c, .int .i64 i] w fun e w' => (∃ v, e = .returned v) ∧ Bn w0 w' wb { g with th := decide (r ≥ 0), ro := r, ca := c, ins := i } := by
  refine (fuse_any h.2.2 r c i).mono ?_
  rintro e w' ⟨h1, h2, h3⟩
  exact ⟨h1, h.up h3 h2⟩
theorem b_append {w0 w : World} {wb : Nat} {g : Gt} (h : Bn w0 w wb g) (ok : Gok g) (hb : (ahd g (.map []) true).1.1 = true) (x : Tx) (p : Option Addr) (n c : Nat) (hnc : n ≤ c) (hc : (c : Int) ≤ 9223372036854775807) : Calls Try.prog 15 #[.pointer (some ⟨wb, 0, none⟩), encStr x, .slice p n c] w fun e w' => e = .returned (.int .i64 122) ∧ Bn w0 w' wb (ahd g (.map []) true).2 := by
  have hl := blt h.2.2
  refine (wappend_bu h.2.2 (pl0 w) ok (encStr x) p n c hnc hc hb (fun w1 _ w' => Below w1.heap.size w1 w') (fun w1 ht => (append_none x _ w1).mono (fun e w' h => ⟨⟨_, h.1⟩, h.2.block wb (Nat.lt_of_lt_of_le hl ht.size), h.2⟩))).mono ?_
  rintro e w' ⟨h1, w1, w2, _, h2, _, h4, h5, h6⟩
  exact ⟨h1, ((h.up h4 h2).below h5).below h6⟩
abbrev f2 : Gt := ⟨false, false, 2, 2, true, 0, 2, 5⟩
abbrev f3 : Gt := ⟨true, false, 3, 3, true, 0, 2, 5⟩
theorem bare_new (w0 w : World) (h : Below w0.heap.size w0 w) (b : Nat) (hb : w.heap.size = b) : Bn w0 (w.alloc (.cells #[.pointer none, .bool false, .bool false, .map none, .int .i64 0, .int .i64 0, .bool false, .int .i64 0, .int .i64 0, .int .i64 0] 47)) b g0 := ⟨balloc h _, hb ▸ h.size, hb ▸ heap_alloc_new w _⟩
theorem ok0 : Gok g0 := ⟨by decide, by decide, by decide, by decide⟩
theorem ok1 : Gok g1 := ⟨by decide, by decide, by decide, by decide⟩
theorem okf : Gok f2 := ⟨by decide, by decide, by decide, by decide⟩
section
attribute [local irreducible] Calls
set_option maxHeartbeats 4000000 in
set_option maxRecDepth 1000000 in
theorem woundNil_walk (w : World) : Calls Try.prog 3 #[] w fun e w' => e = .returned (.bool true) ∧ Below w.heap.size w w' := by
  go_enter Try.func3, Try.ntmps3
  go_wp2_with (first
    | (go_at_call 4; refine (arm_nil _ _).mono ?_; rintro e w1 ⟨⟨v1, rfl⟩, hb⟩; have HB := (show Hid (Below w.heap.size w w1) from bt (alw _ _) hb); clear hb)
    | (go_at_call 5; refine (offline_nil _ _).mono ?_; rintro e w1 ⟨⟨v1, rfl⟩, rfl⟩)
    | (go_at_call 6; refine (fuse_nil _ _ _ _).mono ?_; rintro e w1 ⟨⟨v1, rfl⟩, rfl⟩)
    | (go_at_call 7; refine (rest_nil _ _).mono ?_; rintro e w1 ⟨⟨v1, rfl⟩, rfl⟩)
    | (go_at_call 8; refine (power_nil _ _).mono ?_; rintro e w1 ⟨⟨v1, rfl⟩, rfl⟩)
    | (go_at_call 9; refine (wread_nil _ _).mono ?_; rintro e w1 ⟨rfl, rfl⟩)
    | (go_at_call 10; refine (wlist_nil _).mono ?_; rintro e w1 ⟨rfl, rfl⟩)
    | (go_at_call 11; refine (calls_nil _).mono ?_; rintro e w1 ⟨rfl, rfl⟩)
    | (go_at_call 12; refine (struck_nil _).mono ?_; rintro e w1 ⟨rfl, rfl⟩)
    | (go_at_call 13; refine (on_nil _).mono ?_; rintro e w1 ⟨rfl, rfl⟩)
    | (go_at_call 14; refine (wcreate_nil _ _).mono ?_; rintro e w1 ⟨rfl, rfl⟩)
    | (go_at_call 15; refine (wappend_nil _ _ _).mono ?_; rintro e w1 ⟨rfl, rfl⟩)
    | (go_at_call 16; refine (wsync_nil _ _).mono ?_; rintro e w1 ⟨rfl, rfl⟩)
    | (go_at_call 17; refine (wrename_nil _ _ _).mono ?_; rintro e w1 ⟨rfl, rfl⟩)
    | (go_at_call 18; refine (wremove_nil _ _).mono ?_; rintro e w1 ⟨rfl, rfl⟩)
    | (go_at_call 19; refine (wsyncDir_nil _).mono ?_; rintro e w1 ⟨rfl, rfl⟩)
    | (go_at_call 13; refine (on_any H4.out.2.2).mono ?_; rintro e w1 ⟨rfl, rfl⟩)
    | (go_at_call 11; refine (calls_any H4.out.2.2).mono ?_; rintro e w1 ⟨rfl, rfl⟩)
    | (go_at_call 12; refine (struck_any H4.out.2.2).mono ?_; rintro e w1 ⟨rfl, rfl⟩)
    | (go_at_call 13; refine (on_any H3.out.2.2).mono ?_; rintro e w1 ⟨rfl, rfl⟩)
    | (go_at_call 11; refine (calls_any H3.out.2.2).mono ?_; rintro e w1 ⟨rfl, rfl⟩)
    | (go_at_call 12; refine (struck_any H3.out.2.2).mono ?_; rintro e w1 ⟨rfl, rfl⟩)
    | (go_at_call 13; refine (on_any H2.out.2.2).mono ?_; rintro e w1 ⟨rfl, rfl⟩)
    | (go_at_call 11; refine (calls_any H2.out.2.2).mono ?_; rintro e w1 ⟨rfl, rfl⟩)
    | (go_at_call 12; refine (struck_any H2.out.2.2).mono ?_; rintro e w1 ⟨rfl, rfl⟩)
    | (go_at_call 13; refine (on_any H1.out.2.2).mono ?_; rintro e w1 ⟨rfl, rfl⟩)
    | (go_at_call 11; refine (calls_any H1.out.2.2).mono ?_; rintro e w1 ⟨rfl, rfl⟩)
    | (go_at_call 12; refine (struck_any H1.out.2.2).mono ?_; rintro e w1 ⟨rfl, rfl⟩)
    | (go_at_call 13; refine (on_any H0.out.2.2).mono ?_; rintro e w1 ⟨rfl, rfl⟩)
    | (go_at_call 11; refine (calls_any H0.out.2.2).mono ?_; rintro e w1 ⟨rfl, rfl⟩)
    | (go_at_call 12; refine (struck_any H0.out.2.2).mono ?_; rintro e w1 ⟨rfl, rfl⟩)
    | (go_at_call 13; have H0 := (show Hid (Bn w _ (w1.heap.size + 1) g0) from bare_new w (w1.alloc (.cells #[.int .u8 1] 5)) (balloc HB.out _) (w1.heap.size + 1) (by simp)); refine (on_any H0.out.2.2).mono ?_; rintro e w2 ⟨rfl, rfl⟩)
    | (go_at_call 14; refine (b_create H0.out ok0 rfl _).mono ?_; rintro e w3 ⟨rfl, h⟩; have H1 := (show Hid (Bn w _ _ g1) from h); clear h H0)
    | (go_at_call 19; refine (b_syncDir H1.out ok1 rfl).mono ?_; rintro e w4 ⟨rfl, h⟩; have c0 := h.2.2.cell.1; have H2 := (show Hid (Bn w _ _ g2) from h); clear h H1)
    | (go_at_call 20; refine (used_none _).mono ?_; rintro e w5 ⟨rfl, rfl⟩; clear c0)
    | (go_at_call 6; refine (b_fuse H2.out _ _ _).mono ?_; rintro e w6 ⟨⟨v6, rfl⟩, h⟩; have H3 := (show Hid (Bn w _ _ f2) from h); clear h H2)
    | (go_at_call 15; refine (b_append (H3.out.below (alw _ _)) okf rfl _ _ _ _ (by decide) (by decide)).mono ?_; rintro e w7 ⟨rfl, h⟩; have H4 := (show Hid (Bn w _ _ f3) from h); clear h H3)
    | (go_at_call 21; refine (known_any _).mono ?_; rintro e w8 ⟨rfl, hk⟩; have HK := (show Hid _ from hk); clear hk))
  go_ret
  exact ⟨rfl, bt H4.out.1 HK.out⟩
end
end Go.Proofs.Ytjjjiafokolbpaa
