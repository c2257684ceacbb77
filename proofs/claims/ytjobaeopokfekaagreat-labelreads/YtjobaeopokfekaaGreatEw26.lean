/-
  Package atomic on a wound: 'fill', 'Write'.
-/
import Derived.Test.YtjobaeopokfekaaGreatDm26
import Derived.Test.YtjobaeopokfekaaGreatAx15
namespace Go.Proofs.YtjobaeopokfekaaGreat
open Go.RowKit Go.Maps Go.Sort
/-- A wound within a call: all that is new may be its own. -/
def Wkx (w0 : World) (G : Nat → Prop) (wb db : Nat) (w : World) (g : Gt) (P : DataW Unit) (σ : Ds) : Prop := Wx w wb db g P σ (Fn G w0 w) ∧ Tn G w0 w
theorem Wkx.start {w : World} {G : Nat → Prop} {wb db : Nat} {g : Gt} {P : DataW Unit} {σ : Ds} (h : Wx w wb db g P σ G) : Wkx w G wb db w g P σ := h.fn (Below.refl _ w)
theorem Wkx.below {w0 w w' : World} {G : Nat → Prop} {wb db : Nat} {g : Gt} {P : DataW Unit} {σ : Ds} (h : Wkx w0 G wb db w g P σ) (hb : Below w.heap.size w w') : Wkx w0 G wb db w' g P σ := by
  obtain ⟨h1, h2⟩ := h
  refine ⟨(h1.below hb).more (fun b h => ?_) (fun b h => ?_), h2.fold (Tn.of_below hb)⟩
  · rcases h with h | h
    · exact .inl h
    · exact .inr ⟨h.1, Nat.lt_of_lt_of_le h.2 hb.size⟩
  · rcases h with h | h
    · exact Nat.lt_of_lt_of_le (h1.2.1 b (.inl h)) hb.size
    · exact h.2
theorem Wkx.call {w0 w : World} {G : Nat → Prop} {wb db : Nat} {g g' : Gt} {P P' : DataW Unit} {σ σ' : Ds} {f : Nat} {args : Array Value} {Q : Ending → World → Prop} (h : Wkx w0 G wb db w g P σ)
    (C : ∀ pl F, Kw w wb db pl g P σ F → Calls Tryz.prog f args w fun e w' => Q e w' ∧ (∃ pl' F', Kw w' wb db pl' g' P' σ' F' ∧ (∀ b, F' b → Fn F w w' b) ∧ pl' = pl) ∧ Tn (fun b => b = wb ∨ F b) w w') :
    Calls Tryz.prog f args w fun e w' => Q e w' ∧ Wkx w0 G wb db w' g' P' σ' := by
  obtain ⟨⟨h1, h2, pl, F, hK, h4, h5⟩, hT⟩ := h
  refine (C pl F hK).mono ?_
  rintro e w' ⟨q1, ⟨pl', F', k1, k2, k3⟩, k4⟩
  have hs := k4.size
  have up : ∀ b, Fn G w0 w b → Fn G w0 w' b := fun b hb => hb.elim .inl (fun h => .inr ⟨h.1, Nat.lt_of_lt_of_le h.2 hs⟩)
  have hT2 : Tn G w0 w' := hT.fold (k4.more (fun b hb => by
    rcases hb with rfl | hb
    · exact h1
    · exact h4 b hb))
  refine ⟨q1, ⟨up _ h1, fun b hb => ?_, pl', F', k1, fun b hb => ?_, fun b e => up b (h5 b (k3 ▸ e))⟩, hT2⟩
  · rcases hb with hb | hb
    · exact Nat.lt_of_lt_of_le (h2 b (.inl hb)) hs
    · exact hb.2
  · rcases k2 b hb with hb | hb
    · exact up b (h4 b hb)
    · exact .inr ⟨Nat.le_trans hT.size hb.1, hb.2⟩
theorem fn_self {F : Nat → Prop} {w w' : World} : ∀ b, Fn F w w' b → Fn F w w' b := fun _ h => h
theorem Ob.rxn {w : World} {base : Nat} {v : Value} {d : Tx} (h : Ob w base v d) : ∃ p c, v = .slice p d.length c ∧ d.length ≤ c ∧ Rx w p d ∧ (∀ a, p = some a → base ≤ a.block ∧ a.block < w.heap.size) ∧ c ≤ 9223372036854775807 := by
  rcases h.2 with ⟨hv, h0⟩ | ⟨g, cap, c, hv, hg, hh, hc, hm, hs, ht⟩
  · have e : d = [] := by cases d with | nil => rfl | cons a t => simp at h0
    subst e
    exact ⟨none, 0, hv, Nat.le_refl _, .inl rfl, fun a e => (by cases e), by decide⟩
  · obtain ⟨p, c', hv', hc', hr⟩ := h.rx
    rw [hv] at hv'
    injection hv' with e1 e2 e3
    subst e1 e3
    exact ⟨_, cap, hv, hc, hr, fun a e => by injection e with e; subst e; exact ⟨hg, blt hh⟩, hm⟩
section
attribute [local irreducible] Calls
theorem wk_create {w0 w : World} {G : Nat → Prop} {wb db k : Nat} {g : Gt} {P : DataW Unit} {σ : Ds} (h : Wkx w0 G wb db w g P σ) (ok : Gok g) (od : Okk k σ) (hk : k ≤ 134217728) (x : Tx) (hx : x.length ≤ 140737488355328) :
    Calls Tryz.prog 145 #[.pointer (some ⟨wb, 0, none⟩), encStr x] w fun e w' => e = .returned (.int .i64 (K1 g P σ true (σ.create x)).1) ∧ Wkx w0 G wb db w' (K1 g P σ true (σ.create x)).2.1 P (K1 g P σ true (σ.create x)).2.2 :=
  h.call (fun pl _F hK => (kcreate hK ok (od.okd hk) x hx).mono (fun _ _ ⟨h1, h2, h3⟩ => ⟨h1, ⟨pl, _, h2, fn_self, rfl⟩, h3⟩))
theorem wk_append {w0 w : World} {G : Nat → Prop} {wb db k : Nat} {g : Gt} {P : DataW Unit} {σ : Ds} (h : Wkx w0 G wb db w g P σ) (ok : Gok g) (od : Okk k σ) (hk : k ≤ 134217728) (x : Tx) (hx : x.length ≤ 140737488355328) (p : Option Addr) (n c : Nat) (d : Tx) (hd : Rx w p d) (hp : ∀ a, p = some a → a.block ≠ wb ∧ a.block < w.heap.size) (hn : d.length = n) (hnc : n ≤ c) (hm : n ≤ 134217728) (hc : c ≤ 9223372036854775807) :
    Calls Tryz.prog 144 #[.pointer (some ⟨wb, 0, none⟩), encStr x, .slice p n c] w fun e w' => e = .returned (.int .i64 (Kap g P σ x d).1) ∧ Wkx w0 G wb db w' (Kap g P σ x d).2.1 P (Kap g P σ x d).2.2 :=
  h.call (fun pl _F hK => (kappend hK ok (od.okd hk) x (Nat.le_trans hx (by decide)) p n c d hd hp hn hnc (by omega) hc (fun i j _ hj _ => by have := od.bl i; omega)).mono (fun _ _ ⟨h1, h2, h3⟩ => ⟨h1, ⟨pl, _, h2, fn_self, rfl⟩, h3⟩))
theorem wk_sync {w0 w : World} {G : Nat → Prop} {wb db : Nat} {g : Gt} {P : DataW Unit} {σ : Ds} (h : Wkx w0 G wb db w g P σ) (ok : Gok g) (x : Tx) (hx : x.length ≤ 140737488355328) :
    Calls Tryz.prog 147 #[.pointer (some ⟨wb, 0, none⟩), encStr x] w fun e w' => e = .returned (.int .i64 (K1 g P σ false (σ.sync x)).1) ∧ Wkx w0 G wb db w' (K1 g P σ false (σ.sync x)).2.1 P (K1 g P σ false (σ.sync x)).2.2 :=
  h.call (fun pl _F hK => (ksync hK ok x (Nat.le_trans hx (by decide))).mono (fun _ _ ⟨h1, h2, h3⟩ => ⟨h1, ⟨pl, _, h2, fn_self, rfl⟩, h3⟩))
theorem wk_rename {w0 w : World} {G : Nat → Prop} {wb db k : Nat} {g : Gt} {P : DataW Unit} {σ : Ds} (h : Wkx w0 G wb db w g P σ) (ok : Gok g) (od : Okk k σ) (hk : k ≤ 134217728) (x y : Tx) (hx : x.length ≤ 140737488355328) (hy : y.length ≤ 140737488355328) :
    Calls Tryz.prog 146 #[.pointer (some ⟨wb, 0, none⟩), encStr x, encStr y] w fun e w' => e = .returned (.int .i64 (K1 g P σ false (σ.rename x y)).1) ∧ Wkx w0 G wb db w' (K1 g P σ false (σ.rename x y)).2.1 P (K1 g P σ false (σ.rename x y)).2.2 :=
  h.call (fun pl _F hK => (krename hK ok (od.okd hk) x y (Nat.le_trans hx (by decide)) (Nat.le_trans hy (by decide))).mono (fun _ _ ⟨h1, h2, h3⟩ => ⟨h1, ⟨pl, _, h2, fn_self, rfl⟩, h3⟩))
theorem wk_syncDir {w0 w : World} {G : Nat → Prop} {wb db k : Nat} {g : Gt} {P : DataW Unit} {σ : Ds} (h : Wkx w0 G wb db w g P σ) (ok : Gok g) (od : Okk k σ) (hk : k ≤ 134217728) :
    Calls Tryz.prog 148 #[.pointer (some ⟨wb, 0, none⟩)] w fun e w' => e = .returned (.int .i64 (K1 g P σ false (0, σ.syncDir)).1) ∧ Wkx w0 G wb db w' (K1 g P σ false (0, σ.syncDir)).2.1 P (K1 g P σ false (0, σ.syncDir)).2.2 :=
  h.call (fun pl _F hK => (ksyncDir hK ok (od.okp hk)).mono (fun _ _ ⟨h1, h2, h3⟩ => ⟨h1, ⟨pl, _, h2, fn_self, rfl⟩, h3⟩))
end
theorem mw_create (a : Addr) (w : World) : (method 298 33 (.pointer (some a)) "Create").run Tryz.prog w = .ok (145, .pointer (some a)) w := by kernel_rfl
theorem mw_append (a : Addr) (w : World) : (method 298 33 (.pointer (some a)) "Append").run Tryz.prog w = .ok (144, .pointer (some a)) w := by kernel_rfl
theorem mw_sync (a : Addr) (w : World) : (method 298 33 (.pointer (some a)) "Sync").run Tryz.prog w = .ok (147, .pointer (some a)) w := by kernel_rfl
theorem mw_rename (a : Addr) (w : World) : (method 298 33 (.pointer (some a)) "Rename").run Tryz.prog w = .ok (146, .pointer (some a)) w := by kernel_rfl
theorem mw_syncDir (a : Addr) (w : World) : (method 298 33 (.pointer (some a)) "SyncDir").run Tryz.prog w = .ok (148, .pointer (some a)) w := by kernel_rfl
theorem mw_read (a : Addr) (w : World) : (method 298 33 (.pointer (some a)) "Read").run Tryz.prog w = .ok (10, .pointer (some a)) w := by kernel_rfl
theorem nw_append (a : Addr) (w : World) : (nilAhead 298 33 (.pointer (some a)) "Append").run Tryz.prog w = .ok (some false) w := by kernel_rfl
section
attribute [local irreducible] Calls
set_option maxHeartbeats 4000000 in
set_option maxRecDepth 1000000 in
theorem afill_wx {w : World} {wb db k : Nat} {g : Gt} {P : DataW Unit} {σ : Ds} {G : Nat → Prop} (h : Wx w wb db g P σ G) (gk : ∀ g', Gs 2 g g' → Gok g') (ok : Okk k σ) (gb go n c : Nat) (d : Tx) (hd : Rx w (some ⟨gb, go, none⟩) d) (hF : ¬ G gb) (hg : gb < w.heap.size) (hn : d.length = n) (hk : k + n ≤ 134217000) :
    Calls Tryz.prog 37 #[.iface 33 (.pointer (some ⟨wb, 0, none⟩)), .slice (some ⟨gb, go, none⟩) n c] w fun e w' => e = .returned (.int .i64 (kfill g P σ d).1) ∧ Wkx w G wb db w' (kfill g P σ d).2.1 P (kfill g P σ d).2.2 := by
  have M1 := mw_create
  have M2 := mw_append
  have M3 := mw_sync
  have NA := nw_append
  have S0 := Wkx.start h
  have C1 := (show Hid _ from wk_create S0 (gk g ((Gs.refl g).mono (by omega))) ok (by omega) [116] (by decide))
  have ok1 := k1_ok (g := g) (P := P) (rm := true) ok (ok.create (by omega) [116])
  have RX := (show Hid (∀ (w1 : World) g1 σ1, Wkx w G wb db w1 g1 P σ1 → ∀ i, i < d.length → w1.cell? ⟨gb, go + i, none⟩ = some (u8v (d.getD i 0))) from fun w1 g1 σ1 S1 => Rx.cells (hd.tn S1.2 (fun a e => by injection e with e; subst e; exact ⟨hF, hg⟩)))
  have WB := (show Hid (wb < w.heap.size) from h.2.1 wb h.1)
  have NE := (show Hid (∀ (w1 : World) g1 σ1, Wkx w G wb db w1 g1 P σ1 → ∀ b, w1.heap.size ≤ b → b ≠ wb) from fun w1 g1 σ1 S1 b hb e => by have := S1.2.size; have := WB.out; omega)
  have g1s := k1_gs g P σ true (σ.create [116])
  unfold kfill kf2
  generalize K1 g P σ true (σ.create [116]) = r1 at *
  obtain ⟨e1, g1, σ1⟩ := r1
  have hm : n ≤ 134217728 := by omega
  clear h hd hF hg S0
  dsimp only at *
  by_cases he1 : e1 = 0
  · subst he1
    rw [if_pos rfl]
    have ok2 := kap_ok (g := g1) (P := P) (x := [116]) (d := d) ok1
    have A1 := (show Hid (∀ (w1 : World) (S1 : Wkx w G wb db w1 g1 P σ1) p c' (hx : Rx w1 p d) (hp : ∀ a, p = some a → a.block ≠ wb ∧ a.block < w1.heap.size) (hnc : n ≤ c') (hc' : c' ≤ 9223372036854775807), Calls Tryz.prog 144 #[.pointer (some ⟨wb, 0, none⟩), encStr [116], .slice p n c'] w1 fun e w' => e = .returned (.int .i64 (Kap g1 P σ1 [116] d).1) ∧ Wkx w G wb db w' (Kap g1 P σ1 [116] d).2.1 P (Kap g1 P σ1 [116] d).2.2) from fun w1 S1 p c' hx hp hnc hc' => wk_append S1 (gk _ (g1s.mono (by omega))) ok1 (by omega) [116] (by decide) p n c' d hx hp hn hnc hm hc')
    have g2s := g1s.trans (kap_gs g1 P σ1 [116] d)
    unfold kf3
    generalize Kap g1 P σ1 [116] d = r2 at *
    obtain ⟨e2, g2, σ2⟩ := r2
    have S3 := (show Hid (∀ (w1 : World) (S1 : Wkx w G wb db w1 g2 P σ2), _) from fun (w1 : World) (S1 : Wkx w G wb db w1 g2 P σ2) => wk_sync S1 (gk _ (g2s.mono (by omega))) [116] (by decide))
    clear ok ok1 ok2 g1s g2s gk
    dsimp only at *
    by_cases he2 : e2 = 0
    · subst he2
      rw [if_pos rfl]
      generalize K1 g2 P σ2 false (σ2.sync [116]) = r3 at *
      obtain ⟨e3, g3, σ3⟩ := r3
      dsimp only at *
      go_enter Tryz.func37, Tryz.ntmps37
      go_wp2_with (go_at_call 145; refine C1.out.mono ?_; rintro e w1 ⟨rfl, hS1⟩)
      go_region_with (first
        | (go_at_call 40; refine (cloneB_some (w := w1.drew) gb go n c d hn (by omega) (RX.out w1 g1 σ1 hS1)).mono ?_; rintro e w2 ⟨v2, rfl, ho2, hb2⟩; obtain ⟨p2, c2, rfl, hc2, hx2, hp2, hcc⟩ := ho2.rxn; have hS2 := hS1.below (drw hb2))
        | (go_at_call 144; refine (A1.out _ hS2 p2 c2 hx2 (fun a e => ⟨NE.out _ _ _ hS1 a.block (hp2 a e).1, (hp2 a e).2⟩) (hn ▸ hc2) hcc).mono ?_; rintro e w3 ⟨rfl, hS3⟩))
      all_goals
        go_wp2_with (go_at_call 147; refine (S3.out _ hS3).mono ?_; rintro e w4 ⟨rfl, hS4⟩)
        go_ret
        exact ⟨rfl, hS4⟩
    · rw [if_neg he2]
      have hz : (e2 != 0) = true := by simpa using he2
      go_enter Tryz.func37, Tryz.ntmps37
      go_wp2_with (go_at_call 145; refine C1.out.mono ?_; rintro e w1 ⟨rfl, hS1⟩)
      go_region_with (first
        | (go_at_call 40; refine (cloneB_some (w := w1.drew) gb go n c d hn (by omega) (RX.out w1 g1 σ1 hS1)).mono ?_; rintro e w2 ⟨v2, rfl, ho2, hb2⟩; obtain ⟨p2, c2, rfl, hc2, hx2, hp2, hcc⟩ := ho2.rxn; have hS2 := hS1.below (drw hb2))
        | (go_at_call 144; refine (A1.out _ hS2 p2 c2 hx2 (fun a e => ⟨NE.out _ _ _ hS1 a.block (hp2 a e).1, (hp2 a e).2⟩) (hn ▸ hc2) hcc).mono ?_; rintro e w3 ⟨rfl, hS3⟩))
      all_goals
        go_wp2
        go_ret
        exact ⟨rfl, hS3⟩
  · rw [if_neg he1]
    have hz : (e1 != 0) = true := by simpa using he1
    go_enter Tryz.func37, Tryz.ntmps37
    go_wp2_with (go_at_call 145; refine C1.out.mono ?_; rintro e w1 ⟨rfl, hS1⟩)
    go_ret
    exact ⟨rfl, hS1⟩
set_option maxHeartbeats 4000000 in
set_option maxRecDepth 1000000 in
theorem awrite_wx {w : World} {wb db k : Nat} {g : Gt} {P : DataW Unit} {σ : Ds} {G : Nat → Prop} (h : Wx w wb db g P σ G) (gk : ∀ g', Gs 5 g g' → Gok g') (ok : Okk k σ) (x : Tx) (hx : x.length ≤ 140737488355328) (gb go n c : Nat) (d : Tx) (hd : Rx w (some ⟨gb, go, none⟩) d) (hF : ¬ G gb) (hg : gb < w.heap.size) (hn : d.length = n) (hk : k + n ≤ 134217000) :
    Calls Tryz.prog 17 #[.iface 33 (.pointer (some ⟨wb, 0, none⟩)), encStr x, .slice (some ⟨gb, go, none⟩) n c] w fun e w' => e = .returned (.int .i64 (kwrite g P σ x d).1) ∧ Wkx w G wb db w' (kwrite g P σ x d).2.1 P (kwrite g P σ x d).2.2 := by
  have M1 := mw_rename
  have M2 := mw_syncDir
  have FA := (show Hid _ from afault_any 33 ⟨wb, 0, none⟩ x w)
  have FI := (show Hid _ from afill_wx h (fun g' h' => gk g' (h'.mono (by omega))) ok gb go n c d hd hF hg hn hk)
  have ok1 := kfill_ok (g := g) (P := P) (d := d) ok (by omega)
  have gs1 := kfill_gs g P σ d
  unfold kwrite
  by_cases hw : wN x = true
  · rw [if_pos hw] at FA ⊢
    unfold kw4
    generalize kfill g P σ d = r1 at *
    obtain ⟨e1, g1, σ1⟩ := r1
    dsimp only at *
    by_cases he1 : e1 = 0
    · subst he1
      rw [if_pos rfl]
      have R1 := (show Hid (∀ (w1 : World) (S1 : Wkx w G wb db w1 g1 P σ1), _) from fun (w1 : World) (S1 : Wkx w G wb db w1 g1 P σ1) => wk_rename S1 (gk _ (gs1.mono (by omega))) ok1 (by omega) [116] x (by decide) hx)
      have ok2 := k1_ok (g := g1) (P := P) (rm := false) ok1 (ok1.rename (by omega) [116] x)
      have gs2 := gs1.trans (k1_gs g1 P σ1 false (σ1.rename [116] x))
      unfold kw5
      generalize K1 g1 P σ1 false (σ1.rename [116] x) = r2 at *
      obtain ⟨e2, g2, σ2⟩ := r2
      dsimp only at *
      have D1 := (show Hid (∀ (w1 : World) (S1 : Wkx w G wb db w1 g2 P σ2), _) from fun (w1 : World) (S1 : Wkx w G wb db w1 g2 P σ2) => wk_syncDir S1 (gk _ (gs2.mono (by omega))) ok2 (by omega))
      clear ok ok1 ok2 h hd hF hg hx hk gk gs1 gs2
      by_cases he2 : e2 = 0
      · subst he2
        rw [if_pos rfl]
        generalize K1 g2 P σ2 false (0, σ2.syncDir) = r3 at *
        obtain ⟨e3, g3, σ3⟩ := r3
        dsimp only at *
        go_enter Tryz.func17, Tryz.ntmps17
        go_wp2_with (first
          | (go_at_call 36; refine FA.out.mono ?_; rintro e w1 ⟨rfl, h⟩; obtain rfl := h.symm)
          | (go_at_call 37; refine FI.out.mono ?_; rintro e w1 ⟨rfl, hS1⟩)
          | (go_at_call 146; refine (R1.out _ hS1).mono ?_; rintro e w2 ⟨rfl, hS2⟩)
          | (go_at_call 148; refine (D1.out _ hS2).mono ?_; rintro e w3 ⟨rfl, hS3⟩))
        go_ret
        exact ⟨rfl, hS3⟩
      · rw [if_neg he2]
        have hz : (e2 != 0) = true := by simpa using he2
        go_enter Tryz.func17, Tryz.ntmps17
        go_wp2_with (first
          | (go_at_call 36; refine FA.out.mono ?_; rintro e w1 ⟨rfl, h⟩; obtain rfl := h.symm)
          | (go_at_call 37; refine FI.out.mono ?_; rintro e w1 ⟨rfl, hS1⟩)
          | (go_at_call 146; refine (R1.out _ hS1).mono ?_; rintro e w2 ⟨rfl, hS2⟩))
        go_ret
        exact ⟨rfl, hS2⟩
    · rw [if_neg he1]
      have hz : (e1 != 0) = true := by simpa using he1
      clear ok ok1 h hd hF hg hx hk gk gs1
      go_enter Tryz.func17, Tryz.ntmps17
      go_wp2_with (first
        | (go_at_call 36; refine FA.out.mono ?_; rintro e w1 ⟨rfl, h⟩; obtain rfl := h.symm)
        | (go_at_call 37; refine FI.out.mono ?_; rintro e w1 ⟨rfl, hS1⟩))
      go_ret
      exact ⟨rfl, hS1⟩
  · rw [if_neg hw] at FA ⊢
    have S0 := (show Hid _ from Wkx.start h)
    clear ok ok1 h hd hF hg hx hk FI gk gs1
    go_enter Tryz.func17, Tryz.ntmps17
    go_wp2_with (go_at_call 36; refine FA.out.mono ?_; rintro e w1 ⟨rfl, h⟩; obtain rfl := h.symm)
    go_ret
    exact ⟨rfl, S0.out⟩
end
end Go.Proofs.YtjobaeopokfekaaGreat
