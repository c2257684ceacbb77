/-
  A drive of a law's own: its calls; 'awake'.
-/
import Derived.Test.YtaddgmbglhdfdaaKr11
namespace Go.Proofs.Ytaddgmbglhdfdaa
open Go.RowKit Go.Maps Go.Sort
/-- A drive whose memory is the law's own. -/
structure Kd (w0 : World) (db k : Nat) (σ : Ds) (w : World) : Prop where
  ex : ∃ F, DrAt w db σ F ∧ ∀ b, F b → w0.heap.size ≤ b
  ok : Okk k σ
  bl : Below w0.heap.size w0 w
theorem Kd.below {w0 w w' : World} {db k : Nat} {σ : Ds} (h : Kd w0 db k σ w) (hb : Below w.heap.size w w') : Kd w0 db k σ w' := by
  obtain ⟨⟨F, h1, h2⟩, h3, h4⟩ := h
  exact ⟨⟨F, h1.below hb, h2⟩, h3, h4.trans (hb.mono h4.size)⟩
theorem Kd.next {w0 w w' : World} {db k k' : Nat} {σ σ' : Ds} {F : Nat → Prop} (h : Kd w0 db k σ w) (hF0 : ∀ b, F b → w0.heap.size ≤ b) (ok : Okk k' σ') (hD : DrAt w' db σ' (Fn F w w')) (hT : Tn F w w') : Kd w0 db k' σ' w' := by
  have hz := h.bl.size
  refine ⟨⟨_, hD, ?_⟩, ok, tn_bel h.bl hT hF0⟩
  rintro b (h | h)
  · exact hF0 b h
  · omega
theorem Kd.create {w0 w : World} {db k : Nat} {σ : Ds} (h : Kd w0 db k σ w) (hk : k ≤ 134217728) (x : Tx) (hx : x.length ≤ 140737488355328) : Calls Try.prog 13 #[.pointer (some ⟨db, 0, none⟩), encStr x] w fun e w' => e = .returned (.int .i64 (σ.create x).1) ∧ Kd w0 db (k + 1) (σ.create x).2 w' := by
  obtain ⟨F, h1, h2⟩ := h.ex
  refine (create_any h1 (h.ok.okd hk) x hx).mono ?_
  rintro e w' ⟨e1, hD, hT⟩
  exact ⟨e1, h.next h2 (h.ok.create hk x) hD hT⟩
theorem Kd.append {w0 w : World} {db k : Nat} {σ : Ds} (h : Kd w0 db k σ w) (hk : k ≤ 134217728) (x : Tx) (hx : x.length ≤ 140737488355328) (p : Option Addr) (n c : Nat) (d : Tx) (hd : Rx w p d) (hn : d.length = n) (hm : n ≤ 134217728) : Calls Try.prog 14 #[.pointer (some ⟨db, 0, none⟩), encStr x, .slice p n c] w fun e w' => e = .returned (.int .i64 (σ.append x d).1) ∧ Kd w0 db (k + 1 + d.length) (σ.append x d).2 w' := by
  obtain ⟨F, h1, h2⟩ := h.ex
  refine (append_any h1 (h.ok.okd hk) x (by omega) p n c d hd hn (by omega) (fun i _ _ => by have := h.ok.bl i; omega)).mono ?_
  rintro e w' ⟨e1, hD, hT⟩
  exact ⟨e1, h.next h2 (h.ok.append x d) hD hT⟩
theorem Kd.sync {w0 w : World} {db k : Nat} {σ : Ds} (h : Kd w0 db k σ w) (x : Tx) (hx : x.length ≤ 140737488355328) : Calls Try.prog 15 #[.pointer (some ⟨db, 0, none⟩), encStr x] w fun e w' => e = .returned (.int .i64 (σ.sync x).1) ∧ Kd w0 db (k + 1) (σ.sync x).2 w' := by
  obtain ⟨F, h1, h2⟩ := h.ex
  refine (sync_any h1 x (by omega)).mono ?_
  rintro e w' ⟨e1, hD, hT⟩
  exact ⟨e1, h.next h2 (h.ok.sync x) hD hT⟩
theorem Kd.syncDir {w0 w : World} {db k : Nat} {σ : Ds} (h : Kd w0 db k σ w) (hk : k ≤ 134217728) : Calls Try.prog 16 #[.pointer (some ⟨db, 0, none⟩)] w fun e w' => e = .returned (.int .i64 0) ∧ Kd w0 db (k + 1) σ.syncDir w' := by
  obtain ⟨F, h1, h2⟩ := h.ex
  refine (syncDir_any h1 (h.ok.okp hk)).mono ?_
  rintro e w' ⟨e1, hD, hT⟩
  exact ⟨e1, h.next h2 h.ok.syncDir hD hT⟩
theorem Kd.crash {w0 w : World} {db k : Nat} {σ : Ds} (h : Kd w0 db k σ w) (hk : k ≤ 134217728) (pd : Option Addr) (nd cd : Nat) (dirs : List Bool) (hdl : dirs.length = nd) (hd : Bls w pd dirs) (pc : Option Addr) (nc cc : Nat) (cuts : List Int) (hcl : cuts.length = nc) (hc : Ils w pc cuts) (hnd : nd ≤ 1000000000) (hnc : nc ≤ 1000000000) (hcF : 0 < nc → ∀ b o, pc = some ⟨b, o, none⟩ → b < w0.heap.size) : Calls Try.prog 20 #[.pointer (some ⟨db, 0, none⟩), .agg (ftC (.slice pd nd cd) (.slice pc nc cc))] w fun e w' => e = .returned (.int .i64 0) ∧ Kd w0 db k (σ.crash dirs cuts) w' := by
  obtain ⟨F, h1, h2⟩ := h.ex
  refine (crash_gen h1 h.ok hk pd nd cd dirs hdl hd pc nc cc cuts hcl hc hnd hnc (fun h0 b o e hF => by have := hcF h0 b o e; have := h2 b hF; omega)).mono ?_
  rintro e w' ⟨e1, hD, hT⟩
  exact ⟨e1, h.next h2 (h.ok.crash hk dirs cuts h1) hD hT⟩
theorem Kd.list {w0 w : World} {db k : Nat} {σ : Ds} (h : Kd w0 db k σ w) (hk : k ≤ 134217728) : Calls Try.prog 38 #[.pointer (some ⟨db, 0, none⟩)] w fun e w' => ∃ v, e = .returned (.tuple #[v, .int .i64 0]) ∧ Ts w' w.heap.size v (nms σ.st) ∧ Kd w0 db k σ w' := by
  obtain ⟨F, h1, h2⟩ := h.ex
  refine (list_any h1 (by have := h.ok.ss; omega)).mono ?_
  rintro e w' ⟨v, e1, hO, hb⟩
  exact ⟨v, e1, hO, h.below hb⟩
theorem Kd.shows {w0 w : World} {db k : Nat} {σ : Ds} (h : Kd w0 db k σ w) (hk : k ≤ 134217728) (x d : Tx) (hx : x.length ≤ 140737488355328) (hr : σ.read x = (0, d)) : Calls Try.prog 19 #[.pointer (some ⟨db, 0, none⟩), encStr x, encStr d] w fun e w' => e = .returned (.bool true) ∧ Kd w0 db k σ w' := by
  obtain ⟨F, h1, h2⟩ := h.ex
  refine (shows_any h1 x d (by omega) (fun i => by have := h.ok.bl i; omega) hr).mono ?_
  rintro e w' ⟨e1, hb⟩
  exact ⟨e1, h.below hb⟩
theorem Kd.pending {w0 w : World} {db k : Nat} {σ : Ds} (h : Kd w0 db k σ w) : Calls Try.prog 22 #[.pointer (some ⟨db, 0, none⟩)] w fun e w' => e = .returned (.int .i64 (σ.pend.length : Int)) ∧ w' = w := by
  obtain ⟨F, h1, h2⟩ := h.ex
  exact pending_any h1
theorem Kd.usedc {w0 w : World} {db k : Nat} {σ : Ds} (h : Kd w0 db k σ w) : Calls Try.prog 37 #[.pointer (some ⟨db, 0, none⟩)] w fun e w' => e = .returned (.int .i64 σ.used) ∧ w' = w := by
  obtain ⟨F, h1, h2⟩ := h.ex
  exact used_any h1
theorem Kd.loose {w0 w : World} {db k : Nat} {σ : Ds} (h : Kd w0 db k σ w) (hk : k ≤ 134217728) (x : Tx) (hx : x.length ≤ 140737488355328) : Calls Try.prog 21 #[.pointer (some ⟨db, 0, none⟩), encStr x] w fun e w' => e = .returned (.tuple #[.int .i64 (σ.loose x).2, .int .i64 (σ.loose x).1]) ∧ Kd w0 db k σ w' := by
  obtain ⟨F, h1, h2⟩ := h.ex
  refine (loose_any h1 x (by omega) h.ok.sa (fun i => by have := h.ok.bl i; omega)).mono ?_
  rintro e w' ⟨e1, hb⟩
  exact ⟨e1, h.below hb⟩
/-- The drive of 'awake', call by call. -/
def aw0 : Ds := Ds.new 10
def aw1 : Ds := (aw0.create [97]).2
def aw2 : Ds := (aw1.append [97] [1, 2]).2
def aw3 : Ds := (aw2.sync [97]).2
def aw4 : Ds := aw3.syncDir
def aw5 : Ds := (aw4.append [97] [3]).2
def aw6 : Ds := (aw5.create [98]).2
def aw7 : Ds := aw6.crash [] []
theorem aw_c1 : (aw0.create [97]).1 = 0 := by rfl
theorem aw_c2 : (aw1.append [97] [1, 2]).1 = 0 := by rfl
theorem aw_c3 : (aw2.sync [97]).1 = 0 := by rfl
theorem aw_c5 : (aw4.append [97] [3]).1 = 0 := by rfl
theorem aw_c6 : (aw5.create [98]).1 = 0 := by rfl
theorem aw_r6 : aw6.read [97] = (0, [1, 2, 3]) := by rfl
theorem aw_p6 : (aw6.pend.length : Int) = 1 := by rfl
theorem aw_u6 : aw6.used = 3 := by rfl
theorem aw_k : nms (cr1 aw6 []).sf = [[97]] := by
  unfold nms
  rw [show strKeys (cr1 aw6 []).sf = [[97]] from rfl]
  simp
theorem aw_7 : aw7 = { (crs1 (cr1 aw6 []) [97] 0) with st := (crs1 (cr1 aw6 []) [97] 0).sf } := by
  unfold aw7 Ds.crash crn
  rw [aw_k]
  rfl
theorem aw_n7 : nms aw7.st = [[97]] := by
  rw [aw_7]
  unfold nms
  rw [show strKeys (crs1 (cr1 aw6 []) [97] 0).sf = [[97]] from rfl]
  simp
theorem aw_r7 : aw7.read [97] = (0, [1, 2]) := by
  rw [aw_7]
  rfl
theorem kd_new {w w' : World} {r : Nat} (hG : GB w' w.heap.size 89 (drC r)) (hb : Below w.heap.size w w') : Kd w w.heap.size 0 (Ds.new r) w' := ⟨⟨_, gb_dr hG, fun b hb => by have : b = w.heap.size := hb; omega⟩, Okk.new r, hb⟩
theorem ts_one {w : World} {base : Nat} {v : Value} {x : Tx} (h : Ts w base v [x]) : ∃ g c, v = .slice (some ⟨g, 0, none⟩) 1 c ∧ w.cell? ⟨g, 0, none⟩ = some (encStr x) := by
  obtain ⟨p, c, rfl, _⟩ := own_form h
  obtain ⟨g, rfl⟩ := own_some h (by simp)
  exact ⟨g, c, rfl, (own_at h (j := 0) rfl).1⟩
theorem awk1 {w W : World} {db : Nat} (h : Kd w db 0 aw0 W) : Calls Try.prog 13 #[.pointer (some ⟨db, 0, none⟩), .string ⟨#[97]⟩] W fun e w' => e = .returned (.int .i64 0) ∧ Kd w db 1 aw1 w' := by
  have h9 := h.create (by decide) [97] (by decide)
  rw [aw_c1] at h9
  exact h9
theorem awk2 {w W : World} {db g : Nat} (h : Kd w db 1 aw1 W) (hR : Rx W (some ⟨g, 0, none⟩) [1, 2]) : Calls Try.prog 14 #[.pointer (some ⟨db, 0, none⟩), .string ⟨#[97]⟩, .slice (some ⟨g, 0, none⟩) 2 2] W fun e w' => e = .returned (.int .i64 0) ∧ Kd w db 4 aw2 w' := by
  have h9 := h.append (by decide) [97] (by decide) (some ⟨g, 0, none⟩) 2 2 [1, 2] hR rfl (by decide)
  rw [aw_c2] at h9
  exact h9
theorem awk3 {w W : World} {db : Nat} (h : Kd w db 4 aw2 W) : Calls Try.prog 15 #[.pointer (some ⟨db, 0, none⟩), .string ⟨#[97]⟩] W fun e w' => e = .returned (.int .i64 0) ∧ Kd w db 5 aw3 w' := by
  have h9 := h.sync [97] (by decide)
  rw [aw_c3] at h9
  exact h9
theorem awk4 {w W : World} {db : Nat} (h : Kd w db 5 aw3 W) : Calls Try.prog 16 #[.pointer (some ⟨db, 0, none⟩)] W fun e w' => e = .returned (.int .i64 0) ∧ Kd w db 6 aw4 w' := h.syncDir (by decide)
theorem awk5 {w W : World} {db g : Nat} (h : Kd w db 6 aw4 W) (hR : Rx W (some ⟨g, 0, none⟩) [3]) : Calls Try.prog 14 #[.pointer (some ⟨db, 0, none⟩), .string ⟨#[97]⟩, .slice (some ⟨g, 0, none⟩) 1 1] W fun e w' => e = .returned (.int .i64 0) ∧ Kd w db 8 aw5 w' := by
  have h9 := h.append (by decide) [97] (by decide) (some ⟨g, 0, none⟩) 1 1 [3] hR rfl (by decide)
  rw [aw_c5] at h9
  exact h9
theorem awk6 {w W : World} {db : Nat} (h : Kd w db 8 aw5 W) : Calls Try.prog 13 #[.pointer (some ⟨db, 0, none⟩), .string ⟨#[98]⟩] W fun e w' => e = .returned (.int .i64 0) ∧ Kd w db 9 aw6 w' := by
  have h9 := h.create (by decide) [98] (by decide)
  rw [aw_c6] at h9
  exact h9
theorem awk7 {w W : World} {db : Nat} (h : Kd w db 9 aw6 W) : Calls Try.prog 19 #[.pointer (some ⟨db, 0, none⟩), .string ⟨#[97]⟩, .string ⟨#[1, 2, 3]⟩] W fun e w' => e = .returned (.bool true) ∧ Kd w db 9 aw6 w' := h.shows (by decide) [97] [1, 2, 3] (by decide) aw_r6
theorem awk8 {w W : World} {db : Nat} (h : Kd w db 9 aw6 W) : Calls Try.prog 22 #[.pointer (some ⟨db, 0, none⟩)] W fun e w' => e = .returned (.int .i64 1) ∧ w' = W := by
  have h9 := h.pending
  rw [aw_p6] at h9
  exact h9
theorem awk9 {w W : World} {db : Nat} (h : Kd w db 9 aw6 W) : Calls Try.prog 37 #[.pointer (some ⟨db, 0, none⟩)] W fun e w' => e = .returned (.int .i64 3) ∧ w' = W := by
  have h9 := h.usedc
  rw [aw_u6] at h9
  exact h9
theorem awk10 {w W : World} {db : Nat} (h : Kd w db 9 aw6 W) : Calls Try.prog 20 #[.pointer (some ⟨db, 0, none⟩), .agg #[.slice none 0 0, .slice none 0 0]] W fun e w' => e = .returned (.int .i64 0) ∧ Kd w db 9 aw7 w' :=
  h.crash (by decide) none 0 0 [] rfl (fun i hi => absurd hi (Nat.not_lt_zero _)) none 0 0 [] rfl (fun i hi => absurd hi (Nat.not_lt_zero _)) (by decide) (by decide) (fun _ b o e => by cases e)
theorem awk11 {w W : World} {db : Nat} (h : Kd w db 9 aw7 W) : Calls Try.prog 38 #[.pointer (some ⟨db, 0, none⟩)] W fun e w' => ∃ g c, e = .returned (.tuple #[.slice (some ⟨g, 0, none⟩) 1 c, .int .i64 0]) ∧ w'.cell? ⟨g, 0, none⟩ = some (.string ⟨#[97]⟩) ∧ Kd w db 9 aw7 w' := by
  refine (h.list (by decide)).mono ?_
  rintro e w' ⟨v, rfl, hT, hK⟩
  rw [aw_n7] at hT
  obtain ⟨g, c, rfl, hc⟩ := ts_one hT
  exact ⟨g, c, rfl, hc, hK⟩
theorem awk12 {w W : World} {db : Nat} (h : Kd w db 9 aw7 W) : Calls Try.prog 19 #[.pointer (some ⟨db, 0, none⟩), .string ⟨#[97]⟩, .string ⟨#[1, 2]⟩] W fun e w' => e = .returned (.bool true) ∧ Kd w db 9 aw7 w' := h.shows (by decide) [97] [1, 2] (by decide) aw_r7
theorem kd_aw0 {w w' : World} (hG : GB w' w.heap.size 89 (drC ((10 : Nat) : Int))) (hb : Below w.heap.size w w') : Kd w w.heap.size 0 aw0 w' := kd_new hG hb
theorem rx2 (W : World) : Rx (W.alloc (.cells #[.int .u8 1, .int .u8 2] 5)) (some ⟨W.heap.size, 0, none⟩) [1, 2] := by
  refine .inr ⟨W.heap.size, 0, rfl, fun i hi => ?_⟩
  rw [Nat.zero_add, cell_of_row _ _ _ _ _ (0, 0) (heap_alloc_new W _)]
  match i, hi with
  | 0, _ => rfl
  | 1, _ => rfl
theorem rx1 (W : World) : Rx (W.alloc (.cells #[.int .u8 3] 5)) (some ⟨W.heap.size, 0, none⟩) [3] := by
  refine .inr ⟨W.heap.size, 0, rfl, fun i hi => ?_⟩
  rw [Nat.zero_add, cell_of_row _ _ _ _ _ (0, 0) (heap_alloc_new W _)]
  match i, hi with
  | 0, _ => rfl
section
attribute [local irreducible] Calls GB ftC drC aw0 aw1 aw2 aw3 aw4 aw5 aw6 aw7
set_option maxHeartbeats 4000000 in
set_option maxRecDepth 1000000 in
theorem awake_any (w : World) : Calls Try.prog 8 #[] w fun e w' => e = .returned (.bool true) ∧ Below w.heap.size w w' := by
  go_enter Try.func8, Try.ntmps8
  go_upto_region 4 with (go_at_call 36; refine (new_ok 10 (by decide) _).mono ?_; rintro e w1 ⟨rfl, hG1, hb1, hs1⟩)
  have K1 := (show Hid (Kd w w.heap.size 0 aw0 w1) from kd_aw0 hG1 hb1)
  clear hG1 hb1 hs1
  go_wp2_with (first
    | (have hx := K13; fail)
    | (have hx := K11; go_at_call 19; refine (awk12 K11.out).mono ?_; rintro e w9 ⟨rfl, hK⟩; have K13 := (show Hid _ from hK.bl); clear hx hK)
    | (have hx := K10; go_at_call 38; refine (awk11 K10.out).mono ?_; rintro e w8 ⟨g8, c8, rfl, hc8, hK⟩; have K11 := (show Hid _ from hK); clear hx hK)
    | (have hx := K7; go_at_call 20; refine (awk10 K7.out).mono ?_; rintro e w7 ⟨rfl, hK⟩; have K10 := (show Hid _ from hK); clear hx hK)
    | (have hx := K7; go_at_call 22; refine (awk8 K7.out).mono ?_; rintro e w6 ⟨rfl, h9⟩; obtain rfl := h9.symm; clear hx)
    | (have hx := K7; go_at_call 37; refine (awk9 K7.out).mono ?_; rintro e w6 ⟨rfl, h9⟩; obtain rfl := h9.symm; clear hx)
    | (have hx := K6; go_at_call 19; refine (awk7 K6.out).mono ?_; rintro e w6b ⟨rfl, hK⟩; have K7 := (show Hid _ from hK); clear hx hK)
    | (have hx := K5; go_at_call 13; refine (awk6 K5.out).mono ?_; rintro e w6a ⟨rfl, hK⟩; have K6 := (show Hid _ from hK); clear hx hK)
    | (have hx := K4; go_at_call 14; refine (awk5 (K4.out.below (alb _ _)) (rx1 _)).mono ?_; rintro e w5 ⟨rfl, hK⟩; have K5 := (show Hid _ from hK); clear hx hK)
    | (go_at_call 16; refine (awk4 K3.out).mono ?_; rintro e w4 ⟨rfl, hK⟩; have K4 := (show Hid _ from hK); clear hK)
    | (go_at_call 15; refine (awk3 K2.out).mono ?_; rintro e w3 ⟨rfl, hK⟩; have K3 := (show Hid _ from hK); clear hK)
    | (go_at_call 14; refine (awk2 (K1a.out.below (alb _ _)) (rx2 _)).mono ?_; rintro e w2 ⟨rfl, hK⟩; have K2 := (show Hid _ from hK); clear hK)
    | (go_at_call 13; refine (awk1 K1.out).mono ?_; rintro e w1a ⟨rfl, hK⟩; have K1a := (show Hid _ from hK); clear hK))
  go_ret
  exact ⟨rfl, K13.out⟩
end
end Go.Proofs.Ytaddgmbglhdfdaa
