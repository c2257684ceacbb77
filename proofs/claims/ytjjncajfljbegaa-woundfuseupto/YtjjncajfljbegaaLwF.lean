/-
  The walk of WoundPlain.
-/
import Derived.Test.YtjjncajfljbegaaLwE
namespace Go.Proofs.Ytjjncajfljbegaa
open Go.RowKit Go.Maps Go.Sort
/-- A step of a script: its kind, its fields, its bytes. -/
abbrev Stp := Int × Sp × Tx
/-- Eleven cells. -/
structure Elv (w : World) (b o : Nat) (k : Int) (s : Sp) : Prop where
  c : w.cell? ⟨b, o, none⟩ = some (.int .i64 k) ∧ w.cell? ⟨b, o + 1, none⟩ = some (encStr s.x) ∧ w.cell? ⟨b, o + 2, none⟩ = some (encStr s.y) ∧ w.cell? ⟨b, o + 3, none⟩ = some (.slice s.pd s.nd s.cd) ∧ w.cell? ⟨b, o + 4, none⟩ = some (.int .i64 s.a) ∧ w.cell? ⟨b, o + 5, none⟩ = some (.int .i64 s.b) ∧ w.cell? ⟨b, o + 6, none⟩ = some (.int .i64 s.c) ∧ w.cell? ⟨b, o + 7, none⟩ = some (.bool s.ye) ∧ w.cell? ⟨b, o + 8, none⟩ = some (.slice s.pp s.np s.cp) ∧ w.cell? ⟨b, o + 9, none⟩ = some (.slice s.pq s.nq s.cq) ∧ w.cell? ⟨b, o + 10, none⟩ = some (.slice s.pr s.nr s.cr)
theorem Elv.below {w w' : World} {b o : Nat} {k : Int} {s : Sp} (h : Elv w b o k s) (hb : Below w.heap.size w w') : Elv w' b o k s := by
  obtain ⟨c0, c1, c2, c3, c4, c5, c6, c7, c8, c9, c10⟩ := h
  exact ⟨cell_below c0 hb, cell_below c1 hb, cell_below c2 hb, cell_below c3 hb, cell_below c4 hb, cell_below c5 hb, cell_below c6 hb, cell_below c7 hb, cell_below c8 hb, cell_below c9 hb, cell_below c10 hb⟩
/-- A script in memory. -/
def ScAt (w : World) (p : Option Addr) (L : List Stp) : Prop := ∀ i (h : i < L.length), ∃ b o, p = some ⟨b, o, none⟩ ∧ Elv w b (o + i * 11) (L[i]).1 (L[i]).2.1 ∧ Rx w (L[i]).2.1.pd (L[i]).2.2 ∧ (L[i]).2.2.length = (L[i]).2.1.nd ∧ (L[i]).2.1.x.length ≤ 140737488355328 ∧ (L[i]).2.1.y.length ≤ 140737488355328 ∧ (L[i]).2.1.nd ≤ (L[i]).2.1.cd
/-- How much a script asks. -/
def tot (L : List Stp) : Nat := (L.map fun s => 1 + s.2.2.length).sum
theorem tot_take (L : List Stp) (k : Nat) (hk : k < L.length) : tot (L.take (k + 1)) = tot (L.take k) + 1 + (L[k]).2.2.length := by
  unfold tot
  rw [List.take_add_one, List.getElem?_eq_getElem hk, List.map_append, List.sum_append]
  simp [Nat.add_assoc]
theorem tot_le (L : List Stp) (k : Nat) : tot (L.take k) ≤ tot L := by
  unfold tot
  conv => rhs; rw [← List.take_append_drop k L]
  rw [List.map_append, List.sum_append]
  omega
/-- A row of eleven cells, as a block. -/
theorem elv_block {w : World} {q : Nat} {k : Int} {s : Sp} (h : w.heap[q]? = some (.cells (s.v k) 36 (0, 0))) : Elv w q 0 k s := by
  refine ⟨?_, ?_, ?_, ?_, ?_, ?_, ?_, ?_, ?_, ?_, ?_⟩ <;> rw [cell_of_row w q _ _ _ _ h] <;> rfl
/-- The round's answer: the state behind it. -/
theorem PR.step {w X w1 w2 w3 : World} {wb db tb m k : Nat} {σ σ2 : Ds} {F G : Nat → Prop} {rc : Int} (hN : w.heap.size ≤ wb) (hwb : wb < X.heap.size) (hbX : Below w.heap.size w X) (hD : DrAt X tb σ G) (hFG : ∀ b, F b → ¬ G b) (hGw : ¬ G wb) (hF0 : ∀ b, F b → w.heap.size ≤ b ∧ b < X.heap.size) (hG0 : ∀ b, G b → w.heap.size ≤ b) (ok : Okk m σ2) (hr : 0 ≤ rc ∧ rc ≤ (k : Int)) (hK1 : Kw w1 wb db none ⟨false, false, (k : Int) + 1, rc + 1, false, 0, 0, 0⟩ (.map []) σ2 (Fn F X w1)) (hT1 : Tn (fun b => b = wb ∨ F b) X w1) (hD2 : DrAt w2 tb σ2 (Fn G w1 w2)) (hT2 : Tn G w1 w2) (hb3 : Below w2.heap.size w2 w3) : PR w wb db tb m (k + 1) w3 := by
  have s1 := hT1.size
  have s2 := hT2.size
  have sX := hbX.size
  refine PR.below ⟨⟨σ2, Fn F X w1, Fn G w1 w2, rc + 1, ?_, hD2, ?_, ?_, ?_, ?_, ok, by omega, by omega⟩, tn_below (tn_below hbX hT1 ?_) hT2 hG0⟩ hb3
  · refine Kw.tn hK1 hT2 ?_ hGw (fun b e => by cases e)
    rintro b (h | h)
    · exact hFG b h
    · intro h9
      have := hD.2.1 b h9
      omega
  · rintro b (h | h) (h9 | h9)
    · exact hFG b h h9
    · have := (hF0 b h).2; omega
    · have := hD.2.1 b h9; omega
    · omega
  · rintro (h | h)
    · exact hGw h
    · omega
  · rintro b (h | h)
    · exact (hF0 b h).1
    · omega
  · rintro b (h | h)
    · exact hG0 b h
    · omega
  · rintro b (rfl | h)
    · exact hN
    · exact (hF0 b h).1
theorem Kw.lt {w : World} {wb db : Nat} {pl : Option Nat} {g : Gt} {P : DataW Unit} {σ : Ds} {F : Nat → Prop} (h : Kw w wb db pl g P σ F) : wb < w.heap.size := blt h.1
theorem Kw.dlt {w : World} {wb db : Nat} {pl : Option Nat} {g : Gt} {P : DataW Unit} {σ : Ds} {F : Nat → Prop} (h : Kw w wb db pl g P σ F) (b : Nat) (hb : F b) : b < w.heap.size := h.2.2.1.2.1 b hb
theorem rx_tn {w w' : World} {p : Option Addr} {d : Tx} {G : Nat → Prop} (h : Rx w p d) (hT : Tn G w w') (hp : ∀ a, p = some a → d ≠ [] → ¬ G a.block ∧ a.block < w.heap.size) : Rx w' p d := by
  rcases h with h | ⟨b, o, e, h⟩
  · exact .inl h
  · by_cases hd : d = []
    · exact .inl hd
    · obtain ⟨h1, h2⟩ := hp _ e hd
      exact .inr ⟨b, o, e, fun i hi => (cell_blk (o + i) (hT.block b h2 h1)).trans (h i hi)⟩
theorem rx_low {w w5 : World} {p : Option Addr} {d : Tx} {a : Addr} (h : Rx w p d) (e : p = some a) (hd : d ≠ []) (h5 : Below w.heap.size w w5) : ¬ a.block = w.heap.size + 2 ∧ a.block < w5.heap.size + 1 := by
  rcases h with h | ⟨b, o, e', h⟩
  · exact absurd h hd
  · rw [e] at e'
    injection e' with e'
    subst e'
    have h0 := h 0 (List.length_pos_iff.2 hd)
    have h1 := block_lt_of_cell h0
    have h2 := h5.size
    dsimp only at h1 ⊢
    omega
/-- All that is held ahead of a round's calls. -/
structure Bnd (w : World) (wb db tb m k q : Nat) (kc : Int) (s : Sp) (d : Tx) (σ : Ds) (F G : Nat → Prop) (rc : Int) (X : World) : Prop where
  mk' ::
  K : Kw X wb db none ⟨false, false, k, rc, false, 0, 0, 0⟩ (.map []) σ F
  D : DrAt X tb σ G
  FG : ∀ b, F b → ¬ G b
  Gw : ¬ G wb
  F0 : ∀ b, F b → w.heap.size ≤ b
  G0 : ∀ b, G b → w.heap.size ≤ b
  ok : Okk m σ
  r0 : 0 ≤ rc
  r1 : rc ≤ (k : Int)
  blk : X.heap[q]? = some (.cells (s.v kc) 36 (0, 0))
  q0 : w.heap.size ≤ q
  qF : ∀ b, F b → b ≠ q
  qG : ∀ b, G b → b ≠ q
  qw : q ≠ wb
  bl : Below w.heap.size w X
  rx : Rx X s.pd d
theorem rx_at {w : World} {p : Option Addr} {d : Tx} {a : Addr} (h : Rx w p d) (e : p = some a) (hd : d ≠ []) : a.block < w.heap.size := by
  rcases h with h | ⟨b, o, e', h⟩
  · exact absurd h hd
  · rw [e] at e'
    injection e' with e'
    subst e'
    exact block_lt_of_cell (h 0 (List.length_pos_iff.2 hd))
theorem bdr (w : World) : Below w.heap.size w w.drew := ⟨rfl, rfl, rfl, Nat.le_refl _, fun _ _ => rfl⟩
/-- Behind hurt. -/
structure M1 (w : World) (wb db tb m k q : Nat) (kc : Int) (s : Sp) (d : Tx) (σ : Ds) (F G : Nat → Prop) (rc : Int) (X : World) (v1 : Value) (w1 : World) : Prop where
  B : Bnd w wb db tb m k q kc s d σ F G rc X
  S : SdV w1 X.heap.size v1 (ans kc.toNat σ s.x s.y d)
  K : Kw w1 wb db none ⟨false, false, (k : Int) + 1, rc + 1, false, 0, 0, 0⟩ (.map []) (nxt kc.toNat σ s.x s.y d) (Fn F X.drew w1)
  T : Tn (fun b => b = wb ∨ F b) X.drew w1
theorem Bnd.hurt {w : World} {wb db tb m k q : Nat} {kc : Int} {s : Sp} {d : Tx} {σ : Ds} {F G : Nat → Prop} {rc : Int} {X : World} (h : Bnd w wb db tb m k q kc s d σ F G rc X) (hk : m ≤ 134217728) (hkk : k ≤ 100000000) (hl : d.length = s.nd) (hm : s.nd ≤ 134217728) (hx : s.x.length ≤ 140737488355328) (hy : s.y.length ≤ 140737488355328) (hc : 1 ≤ kc ∧ kc ≤ 8) : Calls Try.prog 14 #[.pointer (some ⟨wb, 0, none⟩), .agg (s.v kc)] X.drew fun e w1 => ∃ v1, e = .returned v1 ∧ M1 w wb db tb m k q kc s d σ F G rc X v1 w1 := by
  have hg : Gok ⟨false, false, k, rc, false, 0, 0, 0⟩ := ⟨by simp, by simp; omega, h.r0, by have := h.r1; simp; omega⟩
  refine (hurt_all (h.K.below (bdr X)) hg h.ok hk s d (h.rx.below (bdr X)) hl hm hx hy kc hc).mono ?_
  rintro e w1 ⟨v1, h1, h2, h3, h4⟩
  have e1 : hans kc.toNat ⟨false, false, k, rc, false, 0, 0, 0⟩ (.map []) σ s.x s.y d = ans kc.toNat σ s.x s.y d := by unfold hans; rw [ahd_plain]; rfl
  have e2 : hnxt kc.toNat ⟨false, false, k, rc, false, 0, 0, 0⟩ (.map []) σ s.x s.y d = nxt kc.toNat σ s.x s.y d := by unfold hnxt; rw [ahd_plain]; rfl
  rw [ahd_plain, e2] at h3
  rw [e1] at h2
  exact ⟨v1, h1, h, h2, h3, h4⟩
theorem M1.elv {w : World} {wb db tb m k q : Nat} {kc : Int} {s : Sp} {d : Tx} {σ : Ds} {F G : Nat → Prop} {rc : Int} {X w1 : World} {v1 : Value} (h : M1 w wb db tb m k q kc s d σ F G rc X v1 w1) : Elv w1 q 0 kc s := elv_block ((h.T.block q (blt h.B.blk) (fun e => e.elim h.B.qw (fun e => h.B.qF q e rfl))).trans h.B.blk)
/-- Behind plain. -/
structure M2 (w : World) (wb db tb m k q : Nat) (kc : Int) (s : Sp) (a : An) (v1 v2 : Value) (w2 : World) : Prop where
  S1 : ∃ b, SdV w2 b v1 a
  S2 : ∃ b, SdV w2 b v2 a
  P : PR w wb db tb m (k + 1) w2
  E : Elv w2 q 0 kc s
  few : a.2.2.length ≤ 1000000000
theorem M1.plain {w : World} {wb db tb m k q : Nat} {kc : Int} {s : Sp} {d : Tx} {σ : Ds} {F G : Nat → Prop} {rc : Int} {X w1 : World} {v1 : Value} (h : M1 w wb db tb m k q kc s d σ F G rc X v1 w1) (hN : w.heap.size ≤ wb) (hr1 : ∀ a, s.pd = some a → d ≠ [] → a.block < w.heap.size) (hk : m ≤ 134217728) (hl : d.length = s.nd) (hm : s.nd ≤ 134217728) (hx : s.x.length ≤ 140737488355328) (hy : s.y.length ≤ 140737488355328) (hc : 1 ≤ kc ∧ kc ≤ 8) : Calls Try.prog 15 #[.pointer (some ⟨tb, 0, none⟩), .agg (s.v kc)] w1 fun e w2 => ∃ v2, e = .returned v2 ∧ M2 w wb db tb (m + 1 + d.length) k q kc s (ans kc.toNat σ s.x s.y d) v1 v2 w2 := by
  have hB := h.B
  have hGX : ∀ b, G b → b < X.heap.size := hB.D.2.1
  have hD1 : DrAt w1 tb σ G := (hB.D.below (bdr X)).tn h.T (fun b hb e => e.elim (fun e => hB.Gw (e ▸ hb)) (fun e => hB.FG b e hb))
  have hrx : Rx w1 s.pd d := rx_tn (hB.rx.below (bdr X)) h.T (fun a e hd => by
    have h9 := hr1 a e hd
    refine ⟨fun h8 => ?_, Nat.lt_of_lt_of_le h9 hB.bl.size⟩
    rcases h8 with h8 | h8
    · omega
    · have := hB.F0 _ h8; omega)
  refine (plain_all hD1 hB.ok hk s d hrx hl hm hx hy kc hc).mono ?_
  rintro e w2 ⟨v2, h1, h2, h3, h4⟩
  have hP := PR.step (X := X.drew) hN hB.K.lt (bt hB.bl (bdr X)) (hB.D.below (bdr X)) hB.FG hB.Gw (fun b hb => ⟨hB.F0 b hb, hB.K.dlt b hb⟩) hB.G0 (okk_nxt hB.ok hk kc.toNat s.x s.y d) ⟨hB.r0, hB.r1⟩ h.K h.T h3 h4 (Below.refl _ _)
  refine ⟨v2, h1, ⟨_, h.S.tn h4 (fun b hb hg => by have := hGX b hg; omega)⟩, ⟨_, h2⟩, hP, ?_, ans_few hB.ok hk _ _ _ _⟩
  have hq : w1.heap[q]? = some (.cells (s.v kc) 36 (0, 0)) := (h.T.block q (blt hB.blk) (fun e => e.elim hB.qw (fun e => hB.qF q e rfl))).trans hB.blk
  exact elv_block ((h4.block q (blt hq) (fun e => hB.qG q e rfl)).trans hq)
theorem M2.alike {w : World} {wb db tb m k q : Nat} {kc : Int} {s : Sp} {a : An} {v1 v2 : Value} {w2 : World} (h : M2 w wb db tb m k q kc s a v1 v2 w2) : Calls Try.prog 13 #[v1, v2] w2 fun e w3 => e = .returned (.bool true) ∧ PR w wb db tb m (k + 1) w3 ∧ Elv w3 q 0 kc s := by
  obtain ⟨b1, h1⟩ := h.S1
  obtain ⟨b2, h2⟩ := h.S2
  refine (alike_same h1 h2 h.few).mono ?_
  rintro e w3 ⟨e1, hb⟩
  exact ⟨e1, h.P.below hb, h.E.below hb⟩
theorem PR.wat {w wr : World} {wb db tb m k : Nat} (h : PR w wb db tb m k wr) : ∃ rc, WAt wr wb (some ⟨db, 0, none⟩) none ⟨false, false, k, rc, false, 0, 0, 0⟩ := by
  obtain ⟨σ, F, G, rc, hK, _⟩ := h.ex
  exact ⟨rc, hK.1⟩
section
attribute [local irreducible] Calls
set_option maxHeartbeats 4000000 in
set_option maxRecDepth 1000000 in
theorem woundPlain_walk (z : Int) (p : Option Addr) (n c : Nat) (L : List Stp) (hn : L.length = n) (w : World) (hS : ScAt w p L) (ht : tot L ≤ 100000000) (hb : n ≤ 100000000) : Calls Try.prog 3 #[.int .i64 z, .slice p n c] w fun e w' => e = .returned (.bool true) ∧ Below w.heap.size w w' := by
  have RB := rmz_bd z
  have RO := (show Hid _ from fun w => room_any z w)
  have NE := (show Hid _ from fun w => new_any (rmz z) (by omega) w)
  have ST := (show Hid _ from PR.start w (rmz z))
  have HH := (show Hid (_ ∧ _ ∧ _) from ⟨hS, ht, hn⟩)
  generalize rmz z = r at *
  clear hS ht hn RB
  go_enter Try.func3, Try.ntmps3
  go_wp2_with (first
    | (go_at_call 8; refine (RO.out _).mono ?_; rintro e w1 ⟨rfl, h⟩; obtain rfl := h.symm)
    | (go_at_call 7; refine (NE.out _).mono ?_; rintro e w2 ⟨rfl, rfl⟩)
    | (go_at_call 9; refine (wnew_any _ _).mono ?_; rintro e w3 ⟨rfl, rfl⟩)
    | (go_at_call 10; refine (known_any _).mono ?_; rintro e w4 ⟨rfl, hb4⟩; have H4 := (show Hid (PR w _ _ _ 0 0 w4) from ST.out _ hb4); clear hb4 ST))
  clear RO NE
  go_loopw [8] (fun i wr => ∃ k : Nat, k ≤ n ∧ i = .int .i64 k ∧ Hid (PR w (w.heap.size + 2) w.heap.size (w.heap.size + 1) (tot (L.take k)) k wr)) (fun i _ => n - (intOf i).toNat)
  case atStart => exact ⟨0, Nat.zero_le _, rfl, H4.out⟩
  case round =>
    obtain ⟨k, hk, rfl, hR⟩ := hrel
    by_cases hlt : k < n
    · have hi : (k : Int) < (n : Int) := by omega
      obtain ⟨hS, ht, hn⟩ := HH.out
      have hkL : k < L.length := by omega
      obtain ⟨b, o, hp, hE, hRx, hl, hx, hy, _⟩ := hS k hkL
      subst hp
      have htk := tot_take L k hkL
      have htl := Nat.le_trans (tot_le L (k + 1)) ht
      generalize L[k] = st at *
      obtain ⟨kd, ⟨x, y, pd, nd, cd, a1, b1, c1, ye, pp, np, cp, pq, nq, cq, pr, nr, cr⟩, d⟩ := st
      dsimp only at hE hRx hl hx hy htk
      obtain ⟨⟨σ, F, G, rc, hK⟩, hbw⟩ := hR.out
      obtain ⟨e0, e1, e2, e3, e4, e5, e6, e7, e8, e9, e10⟩ := (hE.below hbw).c
      dsimp only at e0 e1 e2 e3 e4 e5 e6 e7 e8 e9 e10
      have CA := (show Hid _ from fun w => call_any kd ⟨x, y, pd, nd, cd, a1, b1, c1, ye, pp, np, cp, pq, nq, cq, pr, nr, cr⟩ w)
      have HC := (show Hid (1 ≤ cll kd ∧ cll kd ≤ 8) from cll_bd kd)
      have HK := (show Hid (_ ∧ _) from hK)
      have HB0 := (show Hid _ from hbw)
      have HE := (show Hid (Rx w pd d ∧ _ ∧ _ ∧ _ ∧ _) from ⟨hRx, hl, hx, hy, (fun (w5 : World) (h5 : Below w.heap.size w w5) (a : Addr) (e : pd = some a) (hd : d ≠ []) => rx_low hRx e hd h5)⟩)
      have HT := (show Hid (tot (L.take k) ≤ 134217728 ∧ nd ≤ 134217728 ∧ tot (L.take k) + 1 + d.length = tot (L.take (k + 1))) from ⟨by omega, by omega, htk.symm⟩)
      generalize cll kd = kc at *
      clear hS ht hn hkL hE hRx hl hx hy htk htl hK hbw hR
      cases ye with
      | true =>
        go_wp2_with (first
          | (go_at_call 11; refine (CA.out _).mono ?_; rintro e w5 ⟨h5, hb5⟩; obtain rfl : e = .returned (.agg #[.int .i64 kc, encStr x, encStr y, .slice pd nd cd, .int .i64 a1, .int .i64 b1, .int .i64 c1, .bool true, .slice pp np cp, .slice pq nq cq, .slice pr nr cr]) := h5; have g7 : ∀ ob : Obj, (w5.alloc ob).cell? ⟨b, o + k * 11 + 7, none⟩ = some (.bool true) := (fun ob => cell_below (cell_below e7 hb5) (alb w5 ob)))
          | (go_at_call 12; refine (krest (HK.out.1.below (bt hb5 (alb w5 (.cells #[.int .i64 kc, encStr x, encStr y, .slice pd nd cd, .int .i64 a1, .int .i64 b1, .int .i64 c1, .bool true, .slice pp np cp, .slice pq nq cq, .slice pr nr cr] 36)))) rfl).mono ?_; rintro e w6 ⟨⟨v6, rfl⟩, hK6, hT6⟩))
        obtain ⟨hK, hD, hFG, hGw, hF0, hG0, ok, hr0, hr1⟩ := HK.out
        have hq0 := heap_alloc_new w5 (.cells #[.int .i64 kc, encStr x, encStr y, .slice pd nd cd, .int .i64 a1, .int .i64 b1, .int .i64 c1, .bool true, .slice pp np cp, .slice pq nq cq, .slice pr nr cr] 36)
        have bb := bt hb5 (alb w5 (.cells #[.int .i64 kc, encStr x, encStr y, .slice pd nd cd, .int .i64 a1, .int .i64 b1, .int .i64 c1, .bool true, .slice pp np cp, .slice pq nq cq, .slice pr nr cr] 36))
        have HB := (show Hid (Bnd w (w.heap.size + 2) w.heap.size (w.heap.size + 1) (tot (L.take k)) k w5.heap.size kc ⟨x, y, pd, nd, cd, a1, b1, c1, true, pp, np, cp, pq, nq, cq, pr, nr, cr⟩ d σ F G 0 w6) from Bnd.mk' hK6 ((hD.below bb).tn hT6 (fun b hb e => hGw (e ▸ hb))) hFG hGw hF0 hG0 ok (Int.le_refl _) (by omega) ((hT6.block _ (blt hq0) (fun e => by have := hK.lt; have := hb5.size; have : w5.heap.size = w.heap.size + 2 := e; omega)).trans hq0) (by have := hb5.size; have := HB0.out.size; omega) (fun b h => by have := hK.dlt b h; have := hb5.size; omega) (fun b h => by have := hD.2.1 b h; have := hb5.size; omega) (by have := hK.lt; have := hb5.size; omega) (tn_below (bt HB0.out bb) hT6 (fun b e => by have : b = w.heap.size + 2 := e; omega)) (rx_tn (HE.out.1.below (bt HB0.out bb)) hT6 (fun a e hd => by obtain ⟨h1, h2⟩ := HE.out.2.2.2.2 w5 (bt HB0.out hb5) a e hd; exact ⟨h1, by simp; omega⟩)))
        clear hK hD hFG hGw hF0 hG0 ok hr0 hr1 hq0 bb hK6 hT6 hb5
        generalize w5.heap.size = q at *
        clear e0 e1 e2 e3 e4 e5 e6 e7 e8 e9 e10 g7 HK HB0 CA
        have wk : IntKind.i64.wrap ((k : Int) + 1) = (k : Int) + 1 := by rw [IntKind.wrap_i64]; omega
        have KS := (show Hid (w6.drew.cell? ⟨q, 0, none⟩ = some (.int .i64 kc) ∧ w6.drew.cell? ⟨q, 1, none⟩ = some (encStr x) ∧ w6.drew.cell? ⟨q, 2, none⟩ = some (encStr y) ∧ w6.drew.cell? ⟨q, 3, none⟩ = some (.slice pd nd cd) ∧ w6.drew.cell? ⟨q, 4, none⟩ = some (.int .i64 a1) ∧ w6.drew.cell? ⟨q, 5, none⟩ = some (.int .i64 b1) ∧ w6.drew.cell? ⟨q, 6, none⟩ = some (.int .i64 c1) ∧ w6.drew.cell? ⟨q, 7, none⟩ = some (.bool true) ∧ w6.drew.cell? ⟨q, 8, none⟩ = some (.slice pp np cp) ∧ w6.drew.cell? ⟨q, 9, none⟩ = some (.slice pq nq cq) ∧ w6.drew.cell? ⟨q, 10, none⟩ = some (.slice pr nr cr)) from (elv_block (w := w6.drew) HB.out.blk).c)
        go_region_held3 (fun Y => Y.cell? ⟨q, 0, none⟩ = some (.int .i64 kc) ∧ Y.cell? ⟨q, 1, none⟩ = some (encStr x) ∧ Y.cell? ⟨q, 2, none⟩ = some (encStr y) ∧ Y.cell? ⟨q, 3, none⟩ = some (.slice pd nd cd) ∧ Y.cell? ⟨q, 4, none⟩ = some (.int .i64 a1) ∧ Y.cell? ⟨q, 5, none⟩ = some (.int .i64 b1) ∧ Y.cell? ⟨q, 6, none⟩ = some (.int .i64 c1) ∧ Y.cell? ⟨q, 7, none⟩ = some (.bool true) ∧ Y.cell? ⟨q, 8, none⟩ = some (.slice pp np cp) ∧ Y.cell? ⟨q, 9, none⟩ = some (.slice pq nq cq) ∧ Y.cell? ⟨q, 10, none⟩ = some (.slice pr nr cr)) (first | exact KS.out | exact KT.out | exact KU.out | exact KV.out)
          (first
            | (go_at_call 14; refine (HB.out.hurt HT.out.1 (by omega) HE.out.2.1 HT.out.2.1 HE.out.2.2.1 HE.out.2.2.2.1 HC.out).mono ?_; rintro e w1 ⟨v1, rfl, h1⟩; have HM1 := (show Hid (M1 _ _ _ _ _ _ _ _ _ _ _ _ _ _ _ _ _) from h1); have KT := (show Hid (_ ∧ _) from h1.elv.c); clear h1)
            | (go_at_call 15; refine (HM1.out.plain (by omega) (fun a e hd => rx_at HE.out.1 e hd) HT.out.1 HE.out.2.1 HT.out.2.1 HE.out.2.2.1 HE.out.2.2.2.1 HC.out).mono ?_; rintro e w2 ⟨v2, rfl, h2⟩; have HM2 := (show Hid (M2 _ _ _ _ _ _ _ _ _ _ _ _ _) from h2); have KU := (show Hid (_ ∧ _) from h2.E.c); clear h2)
            | (go_at_call 13; refine HM2.out.alike.mono ?_; rintro e w3 ⟨rfl, h3, h4⟩; have HP := (show Hid (PR _ _ _ _ _ _ _) from h3); have KV := (show Hid (_ ∧ _) from h4.c); obtain ⟨rc3, hW3⟩ := h3.wat; rw [show ((k + 1 : Nat) : Int) = (k : Int) + 1 from (by omega)] at hW3; have HW3 := (show Hid (WAt _ _ _ _ _) from hW3); clear h3 h4 hW3)
            | (go_at_call 16; refine (struck_any HW3.out).mono ?_; rintro e w9 ⟨rfl, h9⟩; obtain rfl := h9.symm)
            | (go_at_call 17; refine (on_any HW3.out).mono ?_; rintro e w9 ⟨rfl, h9⟩; obtain rfl := h9.symm)
            | (go_at_call 18; refine (calls_any HW3.out).mono ?_; rintro e w9 ⟨rfl, h9⟩; obtain rfl := h9.symm))
        go_wp2
        refine ⟨⟨k + 1, by omega, by go_num, ?_⟩, by simp [intOf]; omega⟩
        show PR _ _ _ _ _ _ _
        rw [← HT.out.2.2]
        exact HP.out
      | false =>
        go_wp2_with (first
          | (go_at_call 11; refine (CA.out _).mono ?_; rintro e w5 ⟨h5, hb5⟩; obtain rfl : e = .returned (.agg #[.int .i64 kc, encStr x, encStr y, .slice pd nd cd, .int .i64 a1, .int .i64 b1, .int .i64 c1, .bool false, .slice pp np cp, .slice pq nq cq, .slice pr nr cr]) := h5; have g7 : ∀ ob : Obj, (w5.alloc ob).cell? ⟨b, o + k * 11 + 7, none⟩ = some (.bool false) := (fun ob => cell_below (cell_below e7 hb5) (alb w5 ob)))
          | (go_at_call 12; refine (krest (HK.out.1.below (bt hb5 (alb w5 (.cells #[.int .i64 kc, encStr x, encStr y, .slice pd nd cd, .int .i64 a1, .int .i64 b1, .int .i64 c1, .bool false, .slice pp np cp, .slice pq nq cq, .slice pr nr cr] 36)))) rfl).mono ?_; rintro e w6 ⟨⟨v6, rfl⟩, hK6, hT6⟩))
        obtain ⟨hK, hD, hFG, hGw, hF0, hG0, ok, hr0, hr1⟩ := HK.out
        have hq0 := heap_alloc_new w5 (.cells #[.int .i64 kc, encStr x, encStr y, .slice pd nd cd, .int .i64 a1, .int .i64 b1, .int .i64 c1, .bool false, .slice pp np cp, .slice pq nq cq, .slice pr nr cr] 36)
        have bb := bt hb5 (alb w5 (.cells #[.int .i64 kc, encStr x, encStr y, .slice pd nd cd, .int .i64 a1, .int .i64 b1, .int .i64 c1, .bool false, .slice pp np cp, .slice pq nq cq, .slice pr nr cr] 36))
        have HB := (show Hid (Bnd w (w.heap.size + 2) w.heap.size (w.heap.size + 1) (tot (L.take k)) k w5.heap.size kc ⟨x, y, pd, nd, cd, a1, b1, c1, false, pp, np, cp, pq, nq, cq, pr, nr, cr⟩ d σ F G rc _) from Bnd.mk' (hK.below bb) (hD.below bb) hFG hGw hF0 hG0 ok hr0 hr1 hq0 (by have := hb5.size; have := HB0.out.size; omega) (fun b h => by have := hK.dlt b h; have := hb5.size; omega) (fun b h => by have := hD.2.1 b h; have := hb5.size; omega) (by have := hK.lt; have := hb5.size; omega) (bt HB0.out bb) (HE.out.1.below (bt HB0.out bb)))
        clear hK hD hFG hGw hF0 hG0 ok hr0 hr1 hq0 bb
        generalize hX : w5.alloc (.cells #[.int .i64 kc, encStr x, encStr y, .slice pd nd cd, .int .i64 a1, .int .i64 b1, .int .i64 c1, .bool false, .slice pp np cp, .slice pq nq cq, .slice pr nr cr] 36) = X at *
        clear hX hb5
        generalize w5.heap.size = q at *
        clear e0 e1 e2 e3 e4 e5 e6 e7 e8 e9 e10 g7 HK HB0 CA
        have wk : IntKind.i64.wrap ((k : Int) + 1) = (k : Int) + 1 := by rw [IntKind.wrap_i64]; omega
        have KS := (show Hid (X.drew.cell? ⟨q, 0, none⟩ = some (.int .i64 kc) ∧ X.drew.cell? ⟨q, 1, none⟩ = some (encStr x) ∧ X.drew.cell? ⟨q, 2, none⟩ = some (encStr y) ∧ X.drew.cell? ⟨q, 3, none⟩ = some (.slice pd nd cd) ∧ X.drew.cell? ⟨q, 4, none⟩ = some (.int .i64 a1) ∧ X.drew.cell? ⟨q, 5, none⟩ = some (.int .i64 b1) ∧ X.drew.cell? ⟨q, 6, none⟩ = some (.int .i64 c1) ∧ X.drew.cell? ⟨q, 7, none⟩ = some (.bool false) ∧ X.drew.cell? ⟨q, 8, none⟩ = some (.slice pp np cp) ∧ X.drew.cell? ⟨q, 9, none⟩ = some (.slice pq nq cq) ∧ X.drew.cell? ⟨q, 10, none⟩ = some (.slice pr nr cr)) from (elv_block (w := X.drew) HB.out.blk).c)
        go_region_held3 (fun Y => Y.cell? ⟨q, 0, none⟩ = some (.int .i64 kc) ∧ Y.cell? ⟨q, 1, none⟩ = some (encStr x) ∧ Y.cell? ⟨q, 2, none⟩ = some (encStr y) ∧ Y.cell? ⟨q, 3, none⟩ = some (.slice pd nd cd) ∧ Y.cell? ⟨q, 4, none⟩ = some (.int .i64 a1) ∧ Y.cell? ⟨q, 5, none⟩ = some (.int .i64 b1) ∧ Y.cell? ⟨q, 6, none⟩ = some (.int .i64 c1) ∧ Y.cell? ⟨q, 7, none⟩ = some (.bool false) ∧ Y.cell? ⟨q, 8, none⟩ = some (.slice pp np cp) ∧ Y.cell? ⟨q, 9, none⟩ = some (.slice pq nq cq) ∧ Y.cell? ⟨q, 10, none⟩ = some (.slice pr nr cr)) (first | exact KS.out | exact KT.out | exact KU.out | exact KV.out)
          (first
            | (go_at_call 14; refine (HB.out.hurt HT.out.1 (by omega) HE.out.2.1 HT.out.2.1 HE.out.2.2.1 HE.out.2.2.2.1 HC.out).mono ?_; rintro e w1 ⟨v1, rfl, h1⟩; have HM1 := (show Hid (M1 _ _ _ _ _ _ _ _ _ _ _ _ _ _ _ _ _) from h1); have KT := (show Hid (_ ∧ _) from h1.elv.c); clear h1)
            | (go_at_call 15; refine (HM1.out.plain (by omega) (fun a e hd => rx_at HE.out.1 e hd) HT.out.1 HE.out.2.1 HT.out.2.1 HE.out.2.2.1 HE.out.2.2.2.1 HC.out).mono ?_; rintro e w2 ⟨v2, rfl, h2⟩; have HM2 := (show Hid (M2 _ _ _ _ _ _ _ _ _ _ _ _ _) from h2); have KU := (show Hid (_ ∧ _) from h2.E.c); clear h2)
            | (go_at_call 13; refine HM2.out.alike.mono ?_; rintro e w3 ⟨rfl, h3, h4⟩; have HP := (show Hid (PR _ _ _ _ _ _ _) from h3); have KV := (show Hid (_ ∧ _) from h4.c); obtain ⟨rc3, hW3⟩ := h3.wat; rw [show ((k + 1 : Nat) : Int) = (k : Int) + 1 from (by omega)] at hW3; have HW3 := (show Hid (WAt _ _ _ _ _) from hW3); clear h3 h4 hW3)
            | (go_at_call 16; refine (struck_any HW3.out).mono ?_; rintro e w9 ⟨rfl, h9⟩; obtain rfl := h9.symm)
            | (go_at_call 17; refine (on_any HW3.out).mono ?_; rintro e w9 ⟨rfl, h9⟩; obtain rfl := h9.symm)
            | (go_at_call 18; refine (calls_any HW3.out).mono ?_; rintro e w9 ⟨rfl, h9⟩; obtain rfl := h9.symm))
        go_wp2
        refine ⟨⟨k + 1, by omega, by go_num, ?_⟩, by simp [intOf]; omega⟩
        show PR _ _ _ _ _ _ _
        rw [← HT.out.2.2]
        exact HP.out
    · obtain rfl : k = n := by omega
      have hi : ¬ (k : Int) < (k : Int) := by omega
      obtain ⟨⟨σ, F, G, rc, hK, hD, hFG, hGw, hF0, hG0, ok, hr0, hr1⟩, hbw⟩ := hR.out
      have LE := (show Hid _ from level_same hK.2.2.1 hD ok (by have := tot_le L k; have := HH.out.2.1; omega))
      have HB := (show Hid _ from hbw)
      clear hK hD hFG hGw hF0 hG0 ok hr0 hr1 hbw hR
      go_wp2_with (go_at_call 19; refine LE.out.mono ?_; rintro e w9 ⟨rfl, hb9⟩)
      go_ret
      exact ⟨rfl, bt HB.out hb9⟩
end
end Go.Proofs.Ytjjncajfljbegaa
