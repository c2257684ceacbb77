/-
  Package atomic on a plain drive: 'fault', 'fill', 'Write'.
-/
import Derived.Test.YtjobaeopokfekaaGreatDsA
import Derived.Test.YtjobaeopokfekaaGreatDsC
import Derived.Deep.RegionHeld3
namespace Go.Proofs.YtjobaeopokfekaaGreat
open Go.RowKit Go.Maps
/-- What fill, Write do to a drive. -/
def Ds.afill (σ : Ds) (d : Tx) : Nat × Ds :=
  if (σ.create [116]).1 = 0 then if ((σ.create [116]).2.append [116] d).1 = 0 then ((σ.create [116]).2.append [116] d).2.sync [116] else (σ.create [116]).2.append [116] d else σ.create [116]
/-- May a file be written by that name? -/
def wN (x : Tx) : Bool := isN x && !decide (x = [116])
def Ds.awrite (σ : Ds) (x d : Tx) : Nat × Ds :=
  if wN x = true then if (σ.afill d).1 = 0 then if ((σ.afill d).2.rename [116] x).1 = 0 then (0, ((σ.afill d).2.rename [116] x).2.syncDir) else (σ.afill d).2.rename [116] x else σ.afill d else (91, σ)
theorem Fn.trans {F : Nat → Prop} {w w1 w2 : World} (h1 : w.heap.size ≤ w1.heap.size) (h2 : w1.heap.size ≤ w2.heap.size) (b : Nat) (h : Fn (Fn F w w1) w1 w2 b) : Fn F w w2 b := by
  rcases h with (h | h) | h
  · exact .inl h
  · exact .inr ⟨h.1, by omega⟩
  · exact .inr ⟨by omega, h.2⟩
theorem DrAt.fold {w w1 w2 : World} {db : Nat} {σ : Ds} {F : Nat → Prop} (h : DrAt w2 db σ (Fn (Fn F w w1) w1 w2)) (hF : ∀ b, F b → b < w.heap.size) (h1 : w.heap.size ≤ w1.heap.size) (h2 : w1.heap.size ≤ w2.heap.size) : DrAt w2 db σ (Fn F w w2) :=
  h.more (Fn.trans h1 h2) (fun b hb => by
    rcases hb with hb | hb
    · have := hF b hb; omega
    · exact hb.2)
theorem Tn.fold {F : Nat → Prop} {w w1 w2 : World} (h : Tn F w w1) (k : Tn (Fn F w w1) w1 w2) : Tn F w w2 :=
  ⟨k.os.trans h.os, k.tape.trans h.tape, k.output.trans h.output, Nat.le_trans h.size k.size, fun i hi hF => (k.block i (Nat.lt_of_lt_of_le hi h.size) (fun hx => by
    rcases hx with hx | hx
    · exact hF hx
    · omega)).trans (h.block i hi hF)⟩
theorem Rx.tn {F : Nat → Prop} {w w' : World} {p : Option Addr} {d : Tx} (h : Rx w p d) (ht : Tn F w w') (hp : ∀ a, p = some a → ¬ F a.block ∧ a.block < w.heap.size) : Rx w' p d := by
  rcases h with h | ⟨b, off, ha, hc⟩
  · exact .inl h
  · obtain ⟨q1, q2⟩ := hp _ ha
    refine .inr ⟨b, off, ha, fun i hi => ?_⟩
    have := hc i hi
    have hb := ht.block b q2 q1
    unfold World.cell? at this ⊢
    rw [hb]
    exact this
theorem drw {w1 w2 : World} (h : Below w1.drew.heap.size w1.drew w2) : Below w1.heap.size w1 w2 := (Below.refl _ w1).drew.trans h
/-- A drive within a call: all that is new may be its own. -/
def Sw (w0 : World) (F : Nat → Prop) (db : Nat) (w : World) (σ : Ds) : Prop := DrAt w db σ (Fn F w0 w) ∧ Tn F w0 w
theorem Sw.start {w : World} {F : Nat → Prop} {db : Nat} {σ : Ds} (h : DrAt w db σ F) : Sw w F db w σ := h.fn (Below.refl _ w)
theorem Sw.below {w0 w w' : World} {F : Nat → Prop} {db : Nat} {σ : Ds} (h : Sw w0 F db w σ) (hb : Below w.heap.size w w') : Sw w0 F db w' σ := by
  obtain ⟨h1, h2⟩ := h
  refine ⟨(h1.below hb).more (fun b h => ?_) (fun b h => ?_), h2.fold (Tn.of_below hb)⟩
  · rcases h with h | h
    · exact .inl h
    · exact .inr ⟨h.1, Nat.lt_of_lt_of_le h.2 hb.size⟩
  · rcases h with h | h
    · exact Nat.lt_of_lt_of_le (h1.2.1 b (.inl h)) hb.size
    · exact h.2
theorem Sw.step {w0 w w' : World} {F : Nat → Prop} {db : Nat} {σ σ' : Ds} (h : Sw w0 F db w σ) (hD : DrAt w' db σ' (Fn (Fn F w0 w) w w')) (hT : Tn (Fn F w0 w) w w') : Sw w0 F db w' σ' := by
  refine ⟨hD.more (Fn.trans h.2.size hT.size) (fun b hb => ?_), h.2.fold hT⟩
  rcases hb with hb | hb
  · exact Nat.lt_of_lt_of_le (h.1.2.1 b (.inl hb)) hT.size
  · exact hb.2
theorem Sw.rx {w0 w : World} {F : Nat → Prop} {db : Nat} {σ : Ds} (h : Sw w0 F db w σ) {gb go : Nat} {d : Tx} (hd : Rx w0 (some ⟨gb, go, none⟩) d) (hF : ¬ F gb) (hg : gb < w0.heap.size) : Rx w (some ⟨gb, go, none⟩) d := hd.tn h.2 (fun a e => by injection e with e; subst e; exact ⟨hF, hg⟩)
theorem Rx.cells {w : World} {gb go : Nat} {d : Tx} (h : Rx w (some ⟨gb, go, none⟩) d) : ∀ i, i < d.length → w.cell? ⟨gb, go + i, none⟩ = some (u8v (d.getD i 0)) := by
  rcases h with h | ⟨b, off, ha, hc⟩
  · subst h; intro i hi; cases hi
  · injection ha with ha
    injection ha with e1 e2
    subst e1 e2
    exact hc
theorem Ob.rx {w : World} {base : Nat} {v : Value} {d : Tx} (h : Ob w base v d) : ∃ p c, v = .slice p d.length c ∧ d.length ≤ c ∧ Rx w p d := by
  by_cases e : d = []
  · subst e
    rcases h.2 with ⟨hv, _⟩ | ⟨g, cap, c, hv, _, hh, hc, _⟩
    · exact ⟨none, 0, hv, Nat.le_refl _, .inl rfl⟩
    · exact ⟨_, cap, hv, hc, .inl rfl⟩
  · obtain ⟨g, c, hv, hc⟩ := h.shape e
    refine ⟨_, c, hv, ?_, .inr ⟨g, 0, rfl, hc⟩⟩
    rcases h.2 with ⟨hv', h0⟩ | ⟨g', cap, c', hv', _, hh, hc', _⟩
    · rw [hv'] at hv; cases hv
    · rw [hv'] at hv; injection hv with _ _ e3; omega
section
attribute [local irreducible] Calls
theorem sw_create {w0 w : World} {F : Nat → Prop} {db k : Nat} {σ : Ds} (h : Sw w0 F db w σ) (ok : Okk k σ) (hk : k ≤ 134217728) (x : Tx) (hx : x.length ≤ 140737488355328) : Calls Tryz.prog 136 #[.pointer (some ⟨db, 0, none⟩), encStr x] w fun e w' => e = .returned (.int .i64 (σ.create x).1) ∧ Sw w0 F db w' (σ.create x).2 :=
  (create_any h.1 (ok.okd hk) x hx).mono (fun _ _ ⟨h1, h2, h3⟩ => ⟨h1, h.step h2 h3⟩)
theorem sw_append {w0 w : World} {F : Nat → Prop} {db k : Nat} {σ : Ds} (h : Sw w0 F db w σ) (ok : Okk k σ) (hk : k ≤ 134217728) (x : Tx) (hx : x.length ≤ 140737488355328) (p : Option Addr) (n c : Nat) (d : Tx) (hd : Rx w p d) (hn : d.length = n) (hm : n ≤ 134217728) : Calls Tryz.prog 135 #[.pointer (some ⟨db, 0, none⟩), encStr x, .slice p n c] w fun e w' => e = .returned (.int .i64 (σ.append x d).1) ∧ Sw w0 F db w' (σ.append x d).2 :=
  (append_any h.1 (ok.okd hk) x (Nat.le_trans hx (by decide)) p n c d hd hn (by omega) (fun i _ _ => by have := ok.bl i; omega)).mono (fun _ _ ⟨h1, h2, h3⟩ => ⟨h1, h.step h2 h3⟩)
theorem sw_sync {w0 w : World} {F : Nat → Prop} {db : Nat} {σ : Ds} (h : Sw w0 F db w σ) (x : Tx) (hx : x.length ≤ 140737488355328) : Calls Tryz.prog 138 #[.pointer (some ⟨db, 0, none⟩), encStr x] w fun e w' => e = .returned (.int .i64 (σ.sync x).1) ∧ Sw w0 F db w' (σ.sync x).2 :=
  (sync_any h.1 x (Nat.le_trans hx (by decide))).mono (fun _ _ ⟨h1, h2, h3⟩ => ⟨h1, h.step h2 h3⟩)
theorem sw_rename {w0 w : World} {F : Nat → Prop} {db k : Nat} {σ : Ds} (h : Sw w0 F db w σ) (ok : Okk k σ) (hk : k ≤ 134217728) (x y : Tx) (hx : x.length ≤ 140737488355328) (hy : y.length ≤ 140737488355328) : Calls Tryz.prog 137 #[.pointer (some ⟨db, 0, none⟩), encStr x, encStr y] w fun e w' => e = .returned (.int .i64 (σ.rename x y).1) ∧ Sw w0 F db w' (σ.rename x y).2 :=
  (rename_any h.1 (ok.okd hk) x y (Nat.le_trans hx (by decide)) (Nat.le_trans hy (by decide))).mono (fun _ _ ⟨h1, h2, h3⟩ => ⟨h1, h.step h2 h3⟩)
theorem sw_syncDir {w0 w : World} {F : Nat → Prop} {db k : Nat} {σ : Ds} (h : Sw w0 F db w σ) (ok : Okk k σ) (hk : k ≤ 134217728) : Calls Tryz.prog 139 #[.pointer (some ⟨db, 0, none⟩)] w fun e w' => e = .returned (.int .i64 0) ∧ Sw w0 F db w' σ.syncDir :=
  (syncDir_any h.1 (ok.okp hk)).mono (fun _ _ ⟨h1, h2, h3⟩ => ⟨h1, h.step h2 h3⟩)
end
theorem mt_create (a : Addr) (w : World) : (method 298 31 (.pointer (some a)) "Create").run Tryz.prog w = .ok (136, .pointer (some a)) w := by kernel_rfl
theorem mt_append (a : Addr) (w : World) : (method 298 31 (.pointer (some a)) "Append").run Tryz.prog w = .ok (135, .pointer (some a)) w := by kernel_rfl
theorem mt_sync (a : Addr) (w : World) : (method 298 31 (.pointer (some a)) "Sync").run Tryz.prog w = .ok (138, .pointer (some a)) w := by kernel_rfl
theorem mt_rename (a : Addr) (w : World) : (method 298 31 (.pointer (some a)) "Rename").run Tryz.prog w = .ok (137, .pointer (some a)) w := by kernel_rfl
theorem mt_syncDir (a : Addr) (w : World) : (method 298 31 (.pointer (some a)) "SyncDir").run Tryz.prog w = .ok (139, .pointer (some a)) w := by kernel_rfl
theorem mt_read (a : Addr) (w : World) : (method 298 31 (.pointer (some a)) "Read").run Tryz.prog w = .ok (26, .pointer (some a)) w := by kernel_rfl
theorem na_append (a : Addr) (w : World) : (nilAhead 298 31 (.pointer (some a)) "Append").run Tryz.prog w = .ok (some false) w := by kernel_rfl
section
attribute [local irreducible] Calls
set_option maxHeartbeats 4000000 in
set_option maxRecDepth 1000000 in
theorem afault_any (t : TypeId) (a : Addr) (x : Tx) (w : World) : Calls Tryz.prog 36 #[.iface t (.pointer (some a)), encStr x] w fun e w' => e = .returned (.int .i64 (if wN x = true then 0 else 91)) ∧ w' = w := by
  by_cases h1 : 1 ≤ x.length
  · by_cases h2 : x.length ≤ 1024
    · have g1 : ¬ ((x.length : Int) < 1) := by omega
      have g2 : ¬ ((1024 : Int) < (x.length : Int)) := by omega
      have d1 : decide ((x.length : Int) < 1) = false := decide_eq_false g1
      have d2 : decide ((1024 : Int) < (x.length : Int)) = false := decide_eq_false g2
      by_cases h3 : x = [116]
      · have d3 : (x == [116]) = true := by simp [h3]
        have e : wN x = false := by simp [wN, h3]
        rw [e]
        go_enter Tryz.func36, Tryz.ntmps36
        go_wp2
        go_ret
        exact ⟨rfl, rfl⟩
      · have d3 : (x == [116]) = false := by simp [h3]
        have e : wN x = true := by simp [wN, isN, h1, h2, h3]
        rw [e]
        go_enter Tryz.func36, Tryz.ntmps36
        go_wp2
        go_ret
        exact ⟨rfl, rfl⟩
    · have g1 : ¬ ((x.length : Int) < 1) := by omega
      have g2 : ((1024 : Int) < (x.length : Int)) := by omega
      have d1 : decide ((x.length : Int) < 1) = false := decide_eq_false g1
      have d2 : decide ((1024 : Int) < (x.length : Int)) = true := decide_eq_true g2
      have e : wN x = false := by simp [wN, isN, h2]
      rw [e]
      go_enter Tryz.func36, Tryz.ntmps36
      go_wp2
      go_ret
      exact ⟨rfl, rfl⟩
  · have g1 : ((x.length : Int) < 1) := by omega
    have d1 : decide ((x.length : Int) < 1) = true := decide_eq_true g1
    have e : wN x = false := by simp [wN, isN, h1]
    rw [e]
    go_enter Tryz.func36, Tryz.ntmps36
    go_wp2
    go_ret
    exact ⟨rfl, rfl⟩
set_option maxHeartbeats 4000000 in
set_option maxRecDepth 1000000 in
theorem afill_dr {w : World} {db k : Nat} {σ : Ds} {F : Nat → Prop} (h : DrAt w db σ F) (ok : Okk k σ) (gb go n c : Nat) (d : Tx) (hd : Rx w (some ⟨gb, go, none⟩) d) (hF : ¬ F gb) (hg : gb < w.heap.size) (hn : d.length = n) (hk : k + n ≤ 134217000) :
    Calls Tryz.prog 37 #[.iface 31 (.pointer (some ⟨db, 0, none⟩)), .slice (some ⟨gb, go, none⟩) n c] w fun e w' => e = .returned (.int .i64 (σ.afill d).1) ∧ Sw w F db w' (σ.afill d).2 := by
  have M1 := mt_create
  have M2 := mt_append
  have M3 := mt_sync
  have NA := na_append
  have S0 := Sw.start h
  have C1 := (show Hid _ from sw_create S0 ok (by omega) [116] (by decide))
  have ok1 := ok.create (by omega) [116]
  have RX := (show Hid _ from fun (w1 : World) (σ1 : Ds) (S1 : Sw w F db w1 σ1) => (S1.rx hd hF hg).cells)
  unfold Ds.afill
  generalize σ.create [116] = r1 at *
  obtain ⟨e1, σ1⟩ := r1
  have hm : n ≤ 134217728 := by omega
  clear h hd hF hg S0
  by_cases he1 : e1 = 0
  · subst he1
    rw [if_pos rfl]
    have ok2 := ok1.append [116] d
    have A1 := (show Hid _ from fun (w1 : World) (S1 : Sw w F db w1 σ1) p c' (hx : Rx w1 p d) => sw_append S1 ok1 (by omega) [116] (by decide) p n c' d hx hn hm)
    generalize hr2 : σ1.append [116] d = r2 at *
    obtain ⟨e2, σ2⟩ := r2
    have S3 := (show Hid _ from fun (w1 : World) (S1 : Sw w F db w1 σ2) => sw_sync S1 [116] (by decide))
    clear ok ok1 ok2 hr2
    by_cases he2 : e2 = 0
    · subst he2
      rw [if_pos rfl]
      go_enter Tryz.func37, Tryz.ntmps37
      go_wp2_with (go_at_call 136; refine C1.out.mono ?_; rintro e w1 ⟨rfl, hS1⟩)
      go_region_with (first
        | (go_at_call 40; refine (cloneB_some (w := w1.drew) gb go n c d hn (by omega) (RX.out w1 σ1 hS1)).mono ?_; rintro e w2 ⟨v2, rfl, ho2, hb2⟩; obtain ⟨p2, c2, rfl, hc2, hx2⟩ := ho2.rx; have hS2 := hS1.below (drw hb2))
        | (go_at_call 135; refine (A1.out _ hS2 p2 c2 hx2).mono ?_; rintro e w3 ⟨rfl, hS3⟩))
      all_goals
        go_wp2_with (go_at_call 138; refine (S3.out _ hS3).mono ?_; rintro e w4 ⟨rfl, hS4⟩)
        go_ret
        exact ⟨rfl, hS4⟩
    · rw [if_neg he2]
      have hz : ((e2 : Int) != 0) = true := by simp; omega
      go_enter Tryz.func37, Tryz.ntmps37
      go_wp2_with (go_at_call 136; refine C1.out.mono ?_; rintro e w1 ⟨rfl, hS1⟩)
      go_region_with (first
        | (go_at_call 40; refine (cloneB_some (w := w1.drew) gb go n c d hn (by omega) (RX.out w1 σ1 hS1)).mono ?_; rintro e w2 ⟨v2, rfl, ho2, hb2⟩; obtain ⟨p2, c2, rfl, hc2, hx2⟩ := ho2.rx; have hS2 := hS1.below (drw hb2))
        | (go_at_call 135; refine (A1.out _ hS2 p2 c2 hx2).mono ?_; rintro e w3 ⟨rfl, hS3⟩))
      all_goals
        go_wp2
        go_ret
        exact ⟨rfl, hS3⟩
  · rw [if_neg he1]
    have hz : ((e1 : Int) != 0) = true := by simp; omega
    go_enter Tryz.func37, Tryz.ntmps37
    go_wp2_with (go_at_call 136; refine C1.out.mono ?_; rintro e w1 ⟨rfl, hS1⟩)
    go_ret
    exact ⟨rfl, hS1⟩
theorem Okk.afill {k : Nat} {σ : Ds} (ok : Okk k σ) (hk : k ≤ 134217000) (d : Tx) : Okk (k + 3 + d.length) (σ.afill d).2 := by
  unfold Ds.afill
  have h1 := ok.create (by omega) [116]
  split
  · have h2 := h1.append [116] d
    split
    · exact (h2.sync [116]).mono (by omega)
    · exact h2.mono (by omega)
  · exact h1.mono (by omega)
set_option maxHeartbeats 4000000 in
set_option maxRecDepth 1000000 in
theorem awrite_dr {w : World} {db k : Nat} {σ : Ds} {F : Nat → Prop} (h : DrAt w db σ F) (ok : Okk k σ) (x : Tx) (hx : x.length ≤ 140737488355328) (gb go n c : Nat) (d : Tx) (hd : Rx w (some ⟨gb, go, none⟩) d) (hF : ¬ F gb) (hg : gb < w.heap.size) (hn : d.length = n) (hk : k + n ≤ 134217000) :
    Calls Tryz.prog 17 #[.iface 31 (.pointer (some ⟨db, 0, none⟩)), encStr x, .slice (some ⟨gb, go, none⟩) n c] w fun e w' => e = .returned (.int .i64 (σ.awrite x d).1) ∧ Sw w F db w' (σ.awrite x d).2 := by
  have M1 := mt_rename
  have M2 := mt_syncDir
  have FA := (show Hid _ from afault_any 31 ⟨db, 0, none⟩ x w)
  have FI := (show Hid _ from afill_dr h ok gb go n c d hd hF hg hn hk)
  have ok1 := ok.afill (by omega) d
  unfold Ds.awrite
  by_cases hw : wN x = true
  · rw [if_pos hw] at FA ⊢
    generalize σ.afill d = r1 at *
    obtain ⟨e1, σ1⟩ := r1
    by_cases he1 : e1 = 0
    · subst he1
      rw [if_pos rfl]
      have R1 := (show Hid _ from fun (w1 : World) (S1 : Sw w F db w1 σ1) => sw_rename S1 ok1 (by omega) [116] x (by decide) hx)
      have ok2 := ok1.rename (by omega) [116] x
      generalize hr2 : σ1.rename [116] x = r2 at *
      obtain ⟨e2, σ2⟩ := r2
      have D1 := (show Hid _ from fun (w1 : World) (S1 : Sw w F db w1 σ2) => sw_syncDir S1 ok2 (by omega))
      clear ok ok1 ok2 hr2 h hd hF hg hx hk
      by_cases he2 : e2 = 0
      · subst he2
        rw [if_pos rfl]
        go_enter Tryz.func17, Tryz.ntmps17
        go_wp2_with (first
          | (go_at_call 36; refine FA.out.mono ?_; rintro e w1 ⟨rfl, h⟩; obtain rfl := h.symm)
          | (go_at_call 37; refine FI.out.mono ?_; rintro e w1 ⟨rfl, hS1⟩)
          | (go_at_call 137; refine (R1.out _ hS1).mono ?_; rintro e w2 ⟨rfl, hS2⟩)
          | (go_at_call 139; refine (D1.out _ hS2).mono ?_; rintro e w3 ⟨rfl, hS3⟩))
        go_ret
        exact ⟨rfl, hS3⟩
      · rw [if_neg he2]
        have hz : ((e2 : Int) != 0) = true := by simp; omega
        go_enter Tryz.func17, Tryz.ntmps17
        go_wp2_with (first
          | (go_at_call 36; refine FA.out.mono ?_; rintro e w1 ⟨rfl, h⟩; obtain rfl := h.symm)
          | (go_at_call 37; refine FI.out.mono ?_; rintro e w1 ⟨rfl, hS1⟩)
          | (go_at_call 137; refine (R1.out _ hS1).mono ?_; rintro e w2 ⟨rfl, hS2⟩))
        go_ret
        exact ⟨rfl, hS2⟩
    · rw [if_neg he1]
      have hz : ((e1 : Int) != 0) = true := by simp; omega
      clear ok ok1 h hd hF hg hx hk
      go_enter Tryz.func17, Tryz.ntmps17
      go_wp2_with (first
        | (go_at_call 36; refine FA.out.mono ?_; rintro e w1 ⟨rfl, h⟩; obtain rfl := h.symm)
        | (go_at_call 37; refine FI.out.mono ?_; rintro e w1 ⟨rfl, hS1⟩))
      go_ret
      exact ⟨rfl, hS1⟩
  · rw [if_neg hw] at FA ⊢
    have S0 := (show Hid _ from Sw.start h)
    clear ok ok1 h hd hF hg hx hk FI
    go_enter Tryz.func17, Tryz.ntmps17
    go_wp2_with (go_at_call 36; refine FA.out.mono ?_; rintro e w1 ⟨rfl, h⟩; obtain rfl := h.symm)
    go_ret
    exact ⟨rfl, S0.out⟩
end
end Go.Proofs.YtjobaeopokfekaaGreat
