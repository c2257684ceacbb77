/-
  Package label on a wound: 'Read', 'Write'.
-/
import Derived.Test.YtjobaeopokfekaaGreatEw26
namespace Go.Proofs.YtjobaeopokfekaaGreat
open Go.RowKit Go.Maps Go.Sort
/-- What comes of a label's writing through a wound. -/
def lkw (g : Gt) (P : DataW Unit) (σ : Ds) (l : Lbl) : Int × (Gt × Ds) := if l.ck = 0 then kwrite g P σ [108] (us l.fm) else (l.ck, (g, σ))
theorem Turned.tnG {r : Nat} {w w' : World} (h : Turned r w w') : Tn (· = r) w w' := by
  have b := h.2.1 r w (Below.refl r w) (Nat.le_refl r)
  exact ⟨b.os, b.tape, b.output, b.size, fun k _ hk => h.1 k hk⟩
theorem Wkx.turned {w wA w2 wC : World} {G : Nat → Prop} {wb db : Nat} {g : Gt} {P : DataW Unit} {σ : Ds} (hw : ∀ b, G b → b < w.heap.size) (hA : Below w.heap.size w wA) (hs : w.heap.size < wA.heap.size) (S : Wkx wA G wb db w2 g P σ) (hT : Turned w.heap.size w2 wC) : Wkx w G wb db wC g P σ := by
  have T := hT.tnG
  have s2 := S.2.size
  have sC := T.size
  have sA := hA.size
  refine ⟨(S.1.tn T (fun b hb e => ?_)).more (fun b hb => ?_) (fun b hb => ?_), ⟨T.os.trans (S.2.os.trans hA.os), T.tape.trans (S.2.tape.trans hA.tape), T.output.trans (S.2.output.trans hA.output), by omega, fun k hk hG => ?_⟩⟩
  · have e' : b = w.heap.size := e
    rcases hb with hb | hb
    · have := hw b hb; omega
    · omega
  · rcases hb with hb | hb
    · exact .inl hb
    · exact .inr ⟨by omega, by omega⟩
  · rcases hb with hb | hb
    · have := hw b hb; omega
    · exact hb.2
  · exact (T.block k (by omega) (fun e => by have e' : k = w.heap.size := e; omega)).trans ((S.2.block k (by omega) hG).trans (hA.block k hk))
theorem LbAt.tn {w w' : World} {b : Nat} {l : Lbl} {G : Nat → Prop} (h : LbAt w b l) (ht : Tn G w w') (hG : ¬ G b) : LbAt w' b l := by
  have := h.lt
  unfold LbAt at h ⊢
  rw [ht.block b this hG]; exact h
section
attribute [local irreducible] Calls el Lbl.cs cmo rg smL ar8
set_option maxHeartbeats 4000000 in
set_option maxRecDepth 1000000 in
theorem lwrite_wx {w : World} {wb db k : Nat} {g : Gt} {P : DataW Unit} {σ : Ds} {G : Nat → Prop} (h : Wx w wb db g P σ G) (gk : ∀ g', Gs 5 g g' → Gok g') (ok : Okk k σ) (hk : k ≤ 134216000) (l : Lbl) (hi : l.In) :
    Calls Tryz.prog 16 #[.iface 33 (.pointer (some ⟨wb, 0, none⟩)), .agg l.cs] w fun e w' => e = .returned (.int .i64 (lkw g P σ l).1) ∧ Wkx w G wb db w' (lkw g P σ l).2.1 P (lkw g P σ l).2.2 := by
  have EN := (show Hid _ from fun w => lencode_any l hi w)
  have HA := LbAt.new w l
  have hbw := (Below.refl _ w).alloc (Nat.le_refl _) (.cells l.cs 27)
  unfold lkw
  by_cases h0 : l.ck = 0
  · rw [if_pos h0]
    unfold Lbl.enc at EN
    rw [if_pos h0, h0] at EN
    have WR := (show Hid (∀ (W : World) (hb : Below w.heap.size w W) (b c : Nat) (hr : Rd W (some ⟨b, 0, none⟩) l.fm) (hg : w.heap.size ≤ b) (hl : b < W.heap.size), Calls Tryz.prog 17 #[.iface 33 (.pointer (some ⟨wb, 0, none⟩)), .string ⟨#[108]⟩, .slice (some ⟨b, 0, none⟩) 31 c] W fun e w' => e = .returned (.int .i64 (kwrite g P σ [108] (us l.fm)).1) ∧ Wkx w G wb db w' (kwrite g P σ [108] (us l.fm)).2.1 P (kwrite g P σ [108] (us l.fm)).2.2) from fun W hb b c hr hg hl => by
      have hD := h.below hb
      refine (awrite_wx hD gk ok [108] (by decide) b 0 31 c (us l.fm) hr.rx (fun hF => ?_) hl (by rw [us_len, l.fm_len]) (by omega)).mono ?_
      · have := h.2.1 b hF; omega
      · rintro e w' ⟨h1, h2, h3⟩
        refine ⟨h1, h2.more (fun b hb' => ?_) (fun b hb' => ?_), Tn.up hb h3 (fun _ _ h => h)⟩
        · rcases hb' with hb' | hb'
          · exact .inl hb'
          · exact .inr ⟨Nat.le_trans hb.size hb'.1, hb'.2⟩
        · rcases hb' with hb' | hb'
          · exact Nat.lt_of_lt_of_le (h.2.1 b hb') (Nat.le_trans hb.size h3.size)
          · exact hb'.2)
    generalize kwrite g P σ [108] (us l.fm) = r1 at *
    obtain ⟨e1, g1, σ1⟩ := r1
    clear h ok gk
    dsimp only at *
    go_enter Tryz.func16, Tryz.ntmps16
    go_wp2_with (first
      | (refine wpList_loadLb rfl _ rfl w.heap.size rfl HA ?_)
      | (go_at_call 20; refine (EN.out _).mono ?_; rintro e w1 ⟨v1, rfl, ho1, hb1⟩; obtain ⟨g1, c1, rfl, hc1, hg1, hg2, hr1⟩ := ow31 ho1 l.fm_len; have hbx := hbw.trans (hb1.mono hbw.size))
      | (go_at_call 17; refine (WR.out _ hbx g1 c1 hr1 (Nat.le_trans hbw.size hg1) hg2).mono ?_; rintro e w2 ⟨rfl, hS2⟩))
    go_ret
    exact ⟨rfl, hS2⟩
  · rw [if_neg h0]
    have S0 := (show Hid (∀ W, Below w.heap.size w W → Wkx w G wb db W g P σ) from fun W hb => (Wkx.start h).below hb)
    generalize l.ck = z at h0 EN ⊢
    have hz : (z != 0) = true := by simpa using h0
    clear h ok gk
    go_enter Tryz.func16, Tryz.ntmps16
    go_wp2_with (first
      | (refine wpList_loadLb rfl _ rfl w.heap.size rfl HA ?_)
      | (go_at_call 20; refine (EN.out _).mono ?_; rintro e w1 ⟨v1, rfl, ho1, hb1⟩; obtain ⟨p1, c1, rfl, hc1, hr1⟩ := ho1.rd; have hbx := hbw.trans (hb1.mono hbw.size)))
    go_ret
    exact ⟨rfl, S0.out _ hbx⟩
/-- Read of what stands, where nothing strikes. -/
theorem kread_wx {w w0 : World} {wb db : Nat} {g : Gt} {P : DataW Unit} {σ : Ds} {G : Nat → Prop} (h : Wkx w0 G wb db w g P σ) (gk : Gok g) (fr : Fr g P) (x : Tx) (hx : x.length ≤ 140737488355328) (hm : ∀ i, (σ.body i).data.length ≤ 140737488355328) :
    Calls Tryz.prog 10 #[.pointer (some ⟨wb, 0, none⟩), encStr x] w fun e w' => (∃ v, e = .returned (.tuple #[v, .int .i64 (σ.read x).1]) ∧ Ob w' w.heap.size v (σ.read x).2) ∧ Wkx w0 G wb db w' (ahd g P false).2 P σ := by
  have e0 := (fr.ahd false).1
  refine (h.call (Q := fun e w' => ∃ v, e = .returned (.tuple #[v, .int .i64 (σ.read x).1]) ∧ Ob w' w.heap.size v (σ.read x).2) (fun pl F hK => (kread hK gk x (Nat.le_trans hx (by decide)) (fun i _ => hm i)).mono ?_))
  rintro e w' ⟨h1, h2, h3⟩
  rw [e0] at h1
  exact ⟨h1, ⟨pl, F, h2, fun _ h => .inl h, rfl⟩, h3.more (fun _ h => .inl h)⟩
set_option maxHeartbeats 4000000 in
set_option maxRecDepth 1000000 in
theorem lread_wx {w : World} {wb db : Nat} {g : Gt} {P : DataW Unit} {σ : Ds} {G : Nat → Prop} (h : Wx w wb db g P σ G) (gk : Gok g) (fr : Fr g P) (hm : ∀ i, (σ.body i).data.length ≤ 140737488355328) :
    Calls Tryz.prog 12 #[.iface 33 (.pointer (some ⟨wb, 0, none⟩))] w fun e w' => e = .returned (.tuple #[.agg σ.lread.2.cs, .int .i64 σ.lread.1]) ∧ Wkx w G wb db w' (ahd g P false).2 P σ := by
  have M1 := mw_read
  have RD := (show Hid (∀ (W : World), Below w.heap.size w W → _) from fun (W : World) (hb : Below w.heap.size w W) => kread_wx (Wkx.start (h.below hb)) gk fr [108] (by decide) hm)
  have NG := (show Hid (∀ b, G b → b < w.heap.size) from h.2.1)
  generalize (ahd g P false).2 = g2 at *
  unfold Ds.lread
  generalize σ.read [108] = r1 at *
  obtain ⟨e1, d1⟩ := r1
  clear h gk fr hm
  dsimp only at *
  by_cases he : e1 = 0
  · subst he
    rw [if_pos rfl]
    generalize hpl : pL (bvs d1) = q
    obtain ⟨e2, l2⟩ := q
    have PA := (show Hid (∀ (W : World) p c, Rx W p d1 → d1.length ≤ c → Calls Tryz.prog 22 #[.slice p d1.length c] W fun e w' => e = .returned (.tuple #[.agg l2.cs, .int .i64 e2]) ∧ Below W.heap.size W w') from fun W p c hx hc => by
      have := lparse_any (Rx.rd hx) d1.length c (bvs_len d1) hc
      rw [hpl] at this
      exact this)
    clear hpl
    go_enter Tryz.func12, Tryz.ntmps12
    go_wp2_with (first
      | (refine wpList_alLb rfl rfl ?_; intro wA ZA hbA hsA; have HA := (show Hid (_ ∧ _) from ⟨hbA, hsA⟩); clear hsA)
      | (go_at_call 10; refine (RD.out _ HA.out.1).mono ?_; rintro e w1 ⟨⟨v1, rfl, ho1⟩, S2⟩; obtain ⟨p1, c1, rfl, hc1, hx1⟩ := ho1.rx; replace ZA := ZA.tn S2.2 (fun hb => Nat.lt_irrefl _ (NG.out _ hb)))
      | (go_at_call 22; refine (PA.out _ _ _ hx1 hc1).mono ?_; rintro e w2 ⟨rfl, hb2⟩; have S3 := S2.below hb2; replace ZA := ZA.below hb2)
      | (refine wpList_storeLb rfl _ _ rfl rfl w.heap.size rfl rfl ZA ?_; intro wC ZC hTC))
    exact bodyPost_ret (res_lb rfl _ _ w.heap.size l2 (.int .i64 e2) rfl rfl ZC) rfl ⟨rfl, Wkx.turned NG.out HA.out.1 (by have := HA.out.2; omega) S3 hTC⟩
  · rw [if_neg he]
    have hz : ((e1 : Int) != 0) = true := by simp; omega
    go_enter Tryz.func12, Tryz.ntmps12
    go_wp2_with (first
      | (refine wpList_alLb rfl rfl ?_; intro wA ZA hbA hsA; have HA := (show Hid (_ ∧ _) from ⟨hbA, hsA⟩); clear hsA)
      | (go_at_call 10; refine (RD.out _ HA.out.1).mono ?_; rintro e w1 ⟨⟨v1, rfl, ho1⟩, S2⟩; obtain ⟨p1, c1, rfl, hc1, hx1⟩ := ho1.rx; replace ZA := ZA.tn S2.2 (fun hb => Nat.lt_irrefl _ (NG.out _ hb)))
      | (refine wpList_bd0 rfl rfl ?_)
      | (refine wpList_storeLb rfl _ _ rfl rfl w.heap.size rfl rfl ZA ?_; intro wC ZC hTC))
    exact bodyPost_ret (res_lb rfl _ _ w.heap.size lb0 (.int .i64 (e1 : Int)) rfl rfl ZC) rfl ⟨rfl, Wkx.turned NG.out HA.out.1 (by have := HA.out.2; omega) S2 hTC⟩
end
end Go.Proofs.YtjobaeopokfekaaGreat
