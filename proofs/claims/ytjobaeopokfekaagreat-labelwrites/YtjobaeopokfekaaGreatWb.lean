/-
  A wound in memory; Struck, On, Calls, planned, ahead.
-/
import Derived.Test.YtjobaeopokfekaaGreatDsA
import Derived.Maps.OwnOps
namespace Go.Proofs.YtjobaeopokfekaaGreat
open Go.RowKit Go.Maps
/-- What a wound has beside its drive and its plan. -/
structure Gt where
  off : Bool
  offl : Bool
  calls : Int
  rc : Int
  th : Bool
  ro : Int
  ca : Int
  ins : Int
/-- A wound in memory. -/
def WAt (w : World) (wb : Nat) (dp : Option Addr) (pl : Option Nat) (g : Gt) : Prop := w.heap[wb]? = some (.cells #[.pointer dp, .bool g.off, .bool g.offl, .map pl, .int .i64 g.calls, .int .i64 g.rc, .bool g.th, .int .i64 g.ro, .int .i64 g.ca, .int .i64 g.ins] 50 (0, 0))
theorem WAt.cell {w : World} {wb : Nat} {dp : Option Addr} {pl : Option Nat} {g : Gt} (h : WAt w wb dp pl g) : w.cell? ⟨wb, 0, none⟩ = some (.pointer dp) ∧ w.cell? ⟨wb, 1, none⟩ = some (.bool g.off) ∧ w.cell? ⟨wb, 2, none⟩ = some (.bool g.offl) ∧ w.cell? ⟨wb, 3, none⟩ = some (.map pl) ∧ w.cell? ⟨wb, 4, none⟩ = some (.int .i64 g.calls) ∧ w.cell? ⟨wb, 5, none⟩ = some (.int .i64 g.rc) ∧ w.cell? ⟨wb, 6, none⟩ = some (.bool g.th) ∧ w.cell? ⟨wb, 7, none⟩ = some (.int .i64 g.ro) ∧ w.cell? ⟨wb, 8, none⟩ = some (.int .i64 g.ca) ∧ w.cell? ⟨wb, 9, none⟩ = some (.int .i64 g.ins) := by
  unfold WAt at h
  refine ⟨?_, ?_, ?_, ?_, ?_, ?_, ?_, ?_, ?_, ?_⟩ <;> rw [cell_of_row w wb _ _ _ _ h] <;> rfl
theorem WAt.frozen {w : World} {wb : Nat} {dp : Option Addr} {pl : Option Nat} {g : Gt} (h : WAt w wb dp pl g) (i : Nat) : w.frozen? ⟨wb, i, none⟩ = false := frozen_of_row w wb i _ _ h
theorem WAt.below {w w' : World} {wb : Nat} {dp : Option Addr} {pl : Option Nat} {g : Gt} (h : WAt w wb dp pl g) (hb : Below w.heap.size w w') : WAt w' wb dp pl g := (hb.block wb (blt h)).trans h
/-- The plan's word for a call. -/
def pat (P : DataW Unit) (k : Int) : Int := match P.atKey (.int .i64 k) (.lit (.int .i64 0)) with
  | .lit (.int _ n) => n
  | _ => 0
/-- A plan in memory. -/
def PlAt (w : World) (pl : Option Nat) (P : DataW Unit) : Prop := (pl = none ∧ P = .map []) ∨ ∃ b n, pl = some b ∧ w.ownsMap Tryz.prog 3 (plainElem Tryz.prog 3) b n P
theorem PlAt.same {w w' : World} {pl : Option Nat} {P : DataW Unit} (h : PlAt w pl P) (hk : ∀ (b : Nat) es c, w.heap[b]? = some (Obj.map es c) → w'.heap[b]? = w.heap[b]?) : PlAt w' pl P := by
  rcases h with h | ⟨b, n, e, h⟩
  · exact .inl h
  · refine .inr ⟨b, n, e, om_same h ?_⟩
    obtain ⟨es, c, hb, _⟩ := h
    exact hk b es c hb
theorem lawI : Keyed Tryz.prog 3 := int_keyed Tryz.underlying3
theorem zeroI (w : World) : (zeroValue 3).run Tryz.prog w = .ok (.int .i64 0) w := Tryz.zeroValue3 w
theorem PlAt.look {w : World} {pl : Option Nat} {P : DataW Unit} (h : PlAt w pl P) {k : Int} (hk : (Lit.int .i64 k).wf = true) : (Instr.lookup 46 (.map pl) (.int .i64 k) false).run Tryz.prog w = .ok (.int .i64 (pat P k)) w := by
  rcases h with ⟨rfl, rfl⟩ | ⟨b, n, rfl, h⟩
  · have := Maps.look_nil (w := w) (P := Tryz.prog) false lawI Tryz.underlying46 (zeroI w) (keyOf_int_mk Tryz.underlying3 hk)
    rw [show pat (.map []) k = 0 from rfl]
    simpa using this
  · obtain ⟨c, hrun, hat, _⟩ := h.lookup_int lawI Tryz.underlying46 Tryz.underlying3 (zeroI w) (keyOf_int_mk Tryz.underlying3 hk)
    unfold pat
    rw [hrun, hat]
/-- The error that a plan has for a call. -/
def plnd (P : DataW Unit) (k : Int) (rm : Bool) : Int := if pat P k = 1 then 120 else if pat P k = 2 ∧ rm = true then 111 else 0
/-- What comes ahead of the drive: was a fuse burnt, the error, what the wound has then. -/
def ahd (g : Gt) (P : DataW Unit) (rm : Bool) : (Bool × Int) × Gt :=
  if g.off = true then ((false, 122), g) else if g.offl = true then ((false, 121), g) else
  if g.th = true ∧ g.ro = 0 ∧ g.ca = g.rc then ((true, 122), { g with calls := g.calls + 1, rc := g.rc + 1, off := true }) else ((false, plnd P g.calls rm), { g with calls := g.calls + 1, rc := g.rc + 1 })
/-- The numbers are far from the machine's bounds. -/
structure Gok (g : Gt) : Prop where
  c0 : 0 ≤ g.calls
  c1 : g.calls ≤ 1000000000000000000
  r0 : 0 ≤ g.rc
  r1 : g.rc ≤ 1000000000000000000
theorem WAt.set4 {w : World} {wb : Nat} {dp : Option Addr} {pl : Option Nat} {g : Gt} (h : WAt w wb dp pl g) (u : Int) : WAt (w.setCell ⟨wb, 4, none⟩ (.int .i64 u)) wb dp pl { g with calls := u } := by
  unfold WAt at h ⊢
  rw [heap_setCell_same w wb 4 _ _ _ h]; rfl
theorem WAt.set5 {w : World} {wb : Nat} {dp : Option Addr} {pl : Option Nat} {g : Gt} (h : WAt w wb dp pl g) (u : Int) : WAt (w.setCell ⟨wb, 5, none⟩ (.int .i64 u)) wb dp pl { g with rc := u } := by
  unfold WAt at h ⊢
  rw [heap_setCell_same w wb 5 _ _ _ h]; rfl
theorem WAt.set1 {w : World} {wb : Nat} {dp : Option Addr} {pl : Option Nat} {g : Gt} (h : WAt w wb dp pl g) (u : Bool) : WAt (w.setCell ⟨wb, 1, none⟩ (.bool u)) wb dp pl { g with off := u } := by
  unfold WAt at h ⊢
  rw [heap_setCell_same w wb 1 _ _ _ h]; rfl
theorem WAt.drewN {w : World} {wb : Nat} {dp : Option Addr} {pl : Option Nat} {g : Gt} (h : WAt w wb dp pl g) (z : Nat) : WAt (w.drewN z) wb dp pl g := h
/-- A plan stays while a wound's own block turns. -/
theorem PlAt.tn {w w' : World} {wb : Nat} {dp : Option Addr} {pl pl' : Option Nat} {g : Gt} {P : DataW Unit} (h : PlAt w pl P) (hw : WAt w wb dp pl' g) (ht : Tn (· = wb) w w') : PlAt w' pl P := h.same (fun b es c hb => ht.block b (blt hb) (fun e => by
    have h9 : w.heap[wb]? = _ := hw
    rw [← show b = wb from e, hb] at h9
    cases h9))
section
attribute [local irreducible] Calls
set_option maxRecDepth 1000000 in
theorem struck_nil (w : World) : Calls Tryz.prog 52 #[.pointer none] w fun e w' => e = .returned (.bool false) ∧ w' = w := by
  go_enter Tryz.func52, Tryz.ntmps52
  go_wp2
  go_ret
  exact ⟨rfl, rfl⟩
set_option maxRecDepth 1000000 in
theorem struck_any {w : World} {wb : Nat} {dp : Option Addr} {pl : Option Nat} {g : Gt} (h : WAt w wb dp pl g) : Calls Tryz.prog 52 #[.pointer (some ⟨wb, 0, none⟩)] w fun e w' => e = .returned (.bool (g.th && decide (g.ro = 0))) ∧ w' = w := by
  obtain ⟨off, offl, calls, rc, th, ro, ca, ins⟩ := g
  have c6 := h.cell.2.2.2.2.2.2.1
  have c7 := h.cell.2.2.2.2.2.2.2.1
  simp only at c6 c7
  clear h
  cases th with
  | true =>
    go_enter Tryz.func52, Tryz.ntmps52
    go_wp2
    go_ret
    exact ⟨by simp; rfl, rfl⟩
  | false =>
    go_enter Tryz.func52, Tryz.ntmps52
    go_wp2
    go_ret
    simp
set_option maxRecDepth 1000000 in
theorem calls_nil (w : World) : Calls Tryz.prog 13 #[.pointer none] w fun e w' => e = .returned (.int .i64 0) ∧ w' = w := by
  go_enter Tryz.func13, Tryz.ntmps13
  go_wp2
  go_ret
  exact ⟨rfl, rfl⟩
set_option maxRecDepth 1000000 in
theorem calls_any {w : World} {wb : Nat} {dp : Option Addr} {pl : Option Nat} {g : Gt} (h : WAt w wb dp pl g) : Calls Tryz.prog 13 #[.pointer (some ⟨wb, 0, none⟩)] w fun e w' => e = .returned (.int .i64 g.calls) ∧ w' = w := by
  have c4 := h.cell.2.2.2.2.1
  clear h
  go_enter Tryz.func13, Tryz.ntmps13
  go_wp2
  go_ret
  exact ⟨rfl, rfl⟩
set_option maxRecDepth 1000000 in
theorem planned_any {w : World} {wb : Nat} {dp : Option Addr} {pl : Option Nat} {g : Gt} (h : WAt w wb dp pl g) {P : DataW Unit} (hp : PlAt w pl P) (k : Int) (hk : (Lit.int .i64 k).wf = true) (rm : Bool) : Calls Tryz.prog 53 #[.pointer (some ⟨wb, 0, none⟩), .int .i64 k, .bool rm] w fun e w' => e = .returned (.int .i64 (plnd P k rm)) ∧ w' = w := by
  have c3 := h.cell.2.2.2.1
  have hl := hp.look hk
  clear h hp
  unfold plnd
  generalize pat P k = q at *
  by_cases h1 : q = 1
  · subst h1
    go_enter Tryz.func53, Tryz.ntmps53
    go_wp2
    go_ret
    exact ⟨rfl, rfl⟩
  · rw [if_neg h1]
    by_cases h2 : q = 2
    · subst h2
      cases rm with
      | true =>
        go_enter Tryz.func53, Tryz.ntmps53
        go_wp2
        go_ret
        exact ⟨rfl, rfl⟩
      | false =>
        go_enter Tryz.func53, Tryz.ntmps53
        go_wp2
        go_ret
        exact ⟨rfl, rfl⟩
    · rw [if_neg (fun h => h2 h.1)]
      have d2 : decide (q = 2) = false := by simpa using h2
      go_enter Tryz.func53, Tryz.ntmps53
      go_wp2
      go_ret
      exact ⟨rfl, rfl⟩
set_option maxRecDepth 1000000 in
theorem ahead_nil (rm : Bool) (w : World) : Calls Tryz.prog 25 #[.pointer none, .bool rm] w fun e w' => e = .returned (.tuple #[.bool false, .int .i64 1]) ∧ w' = w := by
  go_enter Tryz.func25, Tryz.ntmps25
  go_wp2
  go_ret2
  exact ⟨rfl, rfl⟩
set_option maxHeartbeats 4000000 in
set_option maxRecDepth 1000000 in
theorem ahead_any {w : World} {wb : Nat} {dp : Option Addr} {pl : Option Nat} {g : Gt} (h : WAt w wb dp pl g) {P : DataW Unit} (hp : PlAt w pl P) (ok : Gok g) (rm : Bool) : Calls Tryz.prog 25 #[.pointer (some ⟨wb, 0, none⟩), .bool rm] w fun e w' => e = .returned (.tuple #[.bool (ahd g P rm).1.1, .int .i64 (ahd g P rm).1.2]) ∧ WAt w' wb dp pl (ahd g P rm).2 ∧ PlAt w' pl P ∧ Tn (· = wb) w w' := by
  obtain ⟨c0, c1, c2, c3, c4, c5, c6, c7, c8, c9⟩ := h.cell
  have f1 := h.frozen 1
  have f4 := h.frozen 4
  have f5 := h.frozen 5
  unfold ahd
  by_cases ho : g.off = true
  · rw [if_pos ho]
    rw [ho] at c1
    have HH := (show Hid (_ ∧ _) from ⟨h, hp⟩)
    clear h hp ok ho
    go_enter Tryz.func25, Tryz.ntmps25
    go_wp2
    go_ret2
    exact ⟨rfl, HH.out.1, HH.out.2, Tn.refl _ _⟩
  · rw [if_neg ho]
    have ho' : g.off = false := by simpa using ho
    rw [ho'] at c1
    by_cases hl : g.offl = true
    · rw [if_pos hl]
      rw [hl] at c2
      have HH := (show Hid (_ ∧ _) from ⟨h, hp⟩)
      clear h hp ok ho hl ho'
      go_enter Tryz.func25, Tryz.ntmps25
      go_wp2
      go_ret2
      exact ⟨rfl, HH.out.1, HH.out.2, Tn.refl _ _⟩
    · rw [if_neg hl]
      have hl' : g.offl = false := by simpa using hl
      rw [hl'] at c2
      have wc : wrap64 (g.calls + 1) = g.calls + 1 := by have := ok.c0; have := ok.c1; unfold wrap64; omega
      have wr : wrap64 (g.rc + 1) = g.rc + 1 := by have := ok.r0; have := ok.r1; unfold wrap64; omega
      have hX : ∀ z, WAt ((((w.drewN z).setCell ⟨wb, 4, none⟩ (.int .i64 (g.calls + 1))).setCell ⟨wb, 5, none⟩ (.int .i64 (g.rc + 1)))) wb dp pl { g with calls := g.calls + 1, rc := g.rc + 1 } := fun z => ((h.drewN z).set4 _).set5 _
      have hT : ∀ z, Tn (· = wb) w ((((w.drewN z).setCell ⟨wb, 4, none⟩ (.int .i64 (g.calls + 1))).setCell ⟨wb, 5, none⟩ (.int .i64 (g.rc + 1)))) := fun z => (⟨rfl, rfl, rfl, Nat.le_refl _, fun _ _ _ => rfl⟩ : Tn (· = wb) w (w.drewN z)).trans ((Tn.setCell (F := (· = wb)) _ ⟨wb, 4, none⟩ rfl _).trans (Tn.setCell (F := (· = wb)) _ ⟨wb, 5, none⟩ rfl _))
      have ST := (show Hid _ from fun z => struck_any (hX z))
      have PN := (show Hid _ from fun z => planned_any (hX z) (hp.tn h (hT z)) g.calls (WalkArith.wf_i64 (by have := ok.c0; have := ok.c1; omega)) rm)
      have HX := (show Hid (_ ∧ _ ∧ _) from ⟨hX, hT, fun z => hp.tn h (hT z)⟩)
      clear h hp ok hX hT ho ho' hl hl'
      by_cases hs : g.th = true ∧ g.ro = 0
      · have es : (g.th && decide (g.ro = 0)) = true := by simp [hs.1, hs.2]
        simp only [es] at ST
        by_cases hc : g.ca = g.rc
        · rw [if_pos ⟨hs.1, hs.2, hc⟩]
          rw [hc] at c8
          clear hs es hc PN c6 c7
          go_enter Tryz.func25, Tryz.ntmps25
          go_wp2
          go_quiet (fail)
          go_wp2_with (go_at_call 52; refine (ST.out _).mono ?_; rintro e w1 ⟨rfl, rfl⟩)
          go_ret2
          exact ⟨rfl, (HX.out.1 _).set1 true, (HX.out.2.2 _).tn (HX.out.1 _) (Tn.setCell (F := (· = wb)) _ ⟨wb, 1, none⟩ rfl _), (HX.out.2.1 _).trans (Tn.setCell (F := (· = wb)) _ ⟨wb, 1, none⟩ rfl _)⟩
        · rw [if_neg (fun h => hc h.2.2)]
          have hc2 : (g.ca == g.rc) = false := by simpa using hc
          clear hs es c6 c7
          go_enter Tryz.func25, Tryz.ntmps25
          go_wp2
          go_quiet (fail)
          go_wp2_with (first
            | (go_at_call 52; refine (ST.out _).mono ?_; rintro e w1 ⟨rfl, rfl⟩)
            | (go_at_call 53; refine (PN.out _).mono ?_; rintro e w2 ⟨rfl, rfl⟩))
          go_ret2
          exact ⟨rfl, HX.out.1 _, HX.out.2.2 _, HX.out.2.1 _⟩
      · rw [if_neg (fun h => hs ⟨h.1, h.2.1⟩)]
        have es : (g.th && decide (g.ro = 0)) = false := by
          cases h1 : g.th
          · rfl
          · simp only [Bool.true_and, decide_eq_false_iff_not]
            exact fun h2 => hs ⟨h1, h2⟩
        simp only [es] at ST
        clear hs es c6 c7 c8
        go_enter Tryz.func25, Tryz.ntmps25
        go_wp2
        go_quiet (fail)
        go_wp2_with (first
          | (go_at_call 52; refine (ST.out _).mono ?_; rintro e w1 ⟨rfl, rfl⟩)
          | (go_at_call 53; refine (PN.out _).mono ?_; rintro e w2 ⟨rfl, rfl⟩))
        go_ret2
        exact ⟨rfl, HX.out.1 _, HX.out.2.2 _, HX.out.2.1 _⟩
end
end Go.Proofs.YtjobaeopokfekaaGreat
/-
  A wound's calls.
-/
namespace Go.Proofs.YtjobaeopokfekaaGreat
open Go.RowKit Go.Maps
theorem WAt.set2 {w : World} {wb : Nat} {dp : Option Addr} {pl : Option Nat} {g : Gt} (h : WAt w wb dp pl g) (u : Bool) : WAt (w.setCell ⟨wb, 2, none⟩ (.bool u)) wb dp pl { g with offl := u } := by
  unfold WAt at h ⊢
  rw [heap_setCell_same w wb 2 _ _ _ h]; rfl
section
attribute [local irreducible] Calls
set_option maxRecDepth 1000000 in
theorem arm_nil (v : Value) (w : World) : Calls Tryz.prog 8 #[.pointer none, v] w fun e w' => (∃ v, e = .returned v) ∧ Below w.heap.size w w' := by
  go_enter Tryz.func8, Tryz.ntmps8
  go_wp2
  refine bodyPost_ret (results_none rfl _ _ _) rfl ?_
  exact ⟨⟨_, rfl⟩, (Below.refl _ _).alloc (Nat.le_refl _) _⟩
set_option maxRecDepth 1000000 in
theorem offline_nil (v : Value) (w : World) : Calls Tryz.prog 9 #[.pointer none, v] w fun e w' => (∃ v, e = .returned v) ∧ w' = w := by
  go_enter Tryz.func9, Tryz.ntmps9
  go_wp2
  go_end0
  exact ⟨⟨_, rfl⟩, rfl⟩
set_option maxRecDepth 1000000 in
theorem wread_nil (v : Value) (w : World) : Calls Tryz.prog 10 #[.pointer none, v] w fun e w' => e = .returned (.tuple #[.slice none 0 0, .int .i64 1]) ∧ w' = w := by
  have AH := (show Hid _ from fun rm w => ahead_nil rm w)
  go_enter Tryz.func10, Tryz.ntmps10
  go_wp2_with (go_at_call 25; refine (AH.out _ _).mono ?_; rintro e w1 ⟨rfl, rfl⟩)
  go_ret2
  exact ⟨rfl, rfl⟩
set_option maxRecDepth 1000000 in
theorem wcreate_nil (v : Value) (w : World) : Calls Tryz.prog 145 #[.pointer none, v] w fun e w' => e = .returned (.int .i64 1) ∧ w' = w := by
  have AH := (show Hid _ from fun rm w => ahead_nil rm w)
  go_enter Tryz.func145, Tryz.ntmps145
  go_wp2_with (go_at_call 25; refine (AH.out _ _).mono ?_; rintro e w1 ⟨rfl, rfl⟩)
  go_ret
  exact ⟨rfl, rfl⟩
set_option maxRecDepth 1000000 in
theorem wsync_nil (v : Value) (w : World) : Calls Tryz.prog 147 #[.pointer none, v] w fun e w' => e = .returned (.int .i64 1) ∧ w' = w := by
  have AH := (show Hid _ from fun rm w => ahead_nil rm w)
  go_enter Tryz.func147, Tryz.ntmps147
  go_wp2_with (go_at_call 25; refine (AH.out _ _).mono ?_; rintro e w1 ⟨rfl, rfl⟩)
  go_ret
  exact ⟨rfl, rfl⟩
set_option maxRecDepth 1000000 in
theorem wrename_nil (u v : Value) (w : World) : Calls Tryz.prog 146 #[.pointer none, u, v] w fun e w' => e = .returned (.int .i64 1) ∧ w' = w := by
  have AH := (show Hid _ from fun rm w => ahead_nil rm w)
  go_enter Tryz.func146, Tryz.ntmps146
  go_wp2_with (go_at_call 25; refine (AH.out _ _).mono ?_; rintro e w1 ⟨rfl, rfl⟩)
  go_ret
  exact ⟨rfl, rfl⟩
set_option maxRecDepth 1000000 in
theorem wsyncDir_nil (w : World) : Calls Tryz.prog 148 #[.pointer none] w fun e w' => e = .returned (.int .i64 1) ∧ w' = w := by
  have AH := (show Hid _ from fun rm w => ahead_nil rm w)
  go_enter Tryz.func148, Tryz.ntmps148
  go_wp2_with (go_at_call 25; refine (AH.out _ _).mono ?_; rintro e w1 ⟨rfl, rfl⟩)
  go_ret
  exact ⟨rfl, rfl⟩
set_option maxRecDepth 1000000 in
theorem wappend_nil (u v : Value) (w : World) : Calls Tryz.prog 144 #[.pointer none, u, v] w fun e w' => e = .returned (.int .i64 1) ∧ w' = w := by
  have AH := (show Hid _ from fun rm w => ahead_nil rm w)
  go_enter Tryz.func144, Tryz.ntmps144
  go_wp2_with (go_at_call 25; refine (AH.out _ _).mono ?_; rintro e w1 ⟨rfl, rfl⟩)
  go_ret
  exact ⟨rfl, rfl⟩
set_option maxRecDepth 1000000 in
theorem syncDir_none (w : World) : Calls Tryz.prog 139 #[.pointer none] w fun e w' => e = .returned (.int .i64 1) ∧ w' = w := by
  go_enter Tryz.func139, Tryz.ntmps139
  go_wp2
  go_ret
  exact ⟨rfl, rfl⟩
set_option maxRecDepth 1000000 in
theorem used_none (w : World) : Calls Tryz.prog 32 #[.pointer none] w fun e w' => e = .returned (.int .i64 0) ∧ w' = w := by
  go_enter Tryz.func32, Tryz.ntmps32
  go_wp2
  go_ret
  exact ⟨rfl, rfl⟩
set_option maxRecDepth 1000000 in
theorem new_any (n : Nat) (hn : n ≤ 1073741824) (w : World) : Calls Tryz.prog 23 #[.int .i64 (n : Int)] w fun e w' => e = .returned (.pointer (some ⟨w.heap.size, 0, none⟩)) ∧ w' = w.alloc (.cells #[.int .i64 (n : Int), .int .i64 0, .map none, .map none, .slice none 0 0] 86) := by
  have g1 : ¬ (n : Int) < 0 := by omega
  have g2 : decide ((n : Int) < 0) = false := by simp
  have g3 : ¬ (1073741824 : Int) < (n : Int) := by omega
  go_enter Tryz.func23, Tryz.ntmps23
  go_wp2
  go_ret
  exact ⟨rfl, rfl⟩
set_option maxRecDepth 1000000 in
theorem wnew_nil (w : World) : Calls Tryz.prog 6 #[.pointer none] w fun e w' => e = .returned (.pointer none) ∧ w' = w := by
  go_enter Tryz.func6, Tryz.ntmps6
  go_wp2
  go_ret
  exact ⟨rfl, rfl⟩
set_option maxRecDepth 1000000 in
theorem wnew_any (a : Addr) (w : World) : Calls Tryz.prog 6 #[.pointer (some a)] w fun e w' => e = .returned (.pointer (some ⟨w.heap.size, 0, none⟩)) ∧ w' = w.alloc (.cells #[.pointer (some a), .bool false, .bool false, .map none, .int .i64 0, .int .i64 0, .bool false, .int .i64 0, .int .i64 0, .int .i64 0] 50) := by
  go_enter Tryz.func6, Tryz.ntmps6
  go_wp2
  go_ret
  exact ⟨rfl, rfl⟩
set_option maxRecDepth 1000000 in
theorem offline_any {w : World} {wb : Nat} {dp : Option Addr} {pl : Option Nat} {g : Gt} (h : WAt w wb dp pl g) (u : Bool) : Calls Tryz.prog 9 #[.pointer (some ⟨wb, 0, none⟩), .bool u] w fun e w' => (∃ v, e = .returned v) ∧ WAt w' wb dp pl { g with offl := u } ∧ Tn (· = wb) w w' := by
  have c2 := h.cell.2.2.1
  have f2 := h.frozen 2
  have H := (show Hid _ from h)
  clear h
  go_enter Tryz.func9, Tryz.ntmps9
  go_wp2
  go_end0
  exact ⟨⟨_, rfl⟩, WAt.set2 H.out u, Tn.setCell (F := (· = wb)) _ ⟨wb, 2, none⟩ rfl _⟩
end
end Go.Proofs.YtjobaeopokfekaaGreat
