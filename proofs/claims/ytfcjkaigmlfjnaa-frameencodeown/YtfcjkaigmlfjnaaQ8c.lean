/-
  Package frame: 'Sizes', 'Length'.
-/
import Derived.Test.YtfcjkaigmlfjnaaQ8b
namespace Go.Proofs.Ytfcjkaigmlfjnaa
open Go.RowKit
/-- What Sizes says. -/
def szC (k m b sz : Int) : Int := @ite _ (¬ shp k m b) (@instDecidableNot _ (shpDec k m b)) 4 (szE k b sz)
def szL (k m b sz : Int) : List Nat := if szC k m b sz = 0 then bls k.toNat (k * b).toNat sz.toNat sz.toNat else []
theorem Hd.ls_eq (h : Hd) (ok : h.Ok) : szC h.k h.m h.b h.sz = 0 ∧ szL h.k h.m h.b h.sz = h.ls := by
  have h1 : shp h.k h.m h.b := by obtain ⟨⟩ := ok; unfold shp; omega
  have h2 : szE h.k h.b h.sz = 0 := (szE_ok _ _ _).2 ⟨ok.s1, ok.s2, ok.s3⟩
  have h3 : szC h.k h.m h.b h.sz = 0 := by unfold szC; rw [if_neg (not_not_intro h1), h2]
  exact ⟨h3, by unfold szL; rw [if_pos h3]; rfl⟩
theorem tot_bls (k s : Nat) : ∀ f l, tot (bls k s f l) ≤ f * (s + k + 4) := by
  intro f
  induction f with
  | zero => intro l; simp [bls, tot]
  | succ f ih =>
    intro l
    unfold bls
    split
    · simp [tot]
    · have h1 := ih (l - s)
      have h2 : (min l s + k - 1) / k ≤ min l s + k - 1 := Nat.div_le_self _ _
      have h3 : min l s ≤ s := Nat.min_le_right _ _
      simp only [tot, Nat.succ_mul]
      omega
theorem bls_nats {k m b sz : Int} (h : shp k m b) (hz : szE k b sz = 0) : ∃ K M B Z : Nat, k = K ∧ m = M ∧ b = B ∧ sz = Z ∧ (1 ≤ K ∧ K ≤ 255) ∧ (1 ≤ B ∧ B ≤ 65536) ∧ Z ≤ 1048576 := by
  unfold shp at h
  obtain ⟨z1, z2, _⟩ := (szE_ok _ _ _).1 hz
  exact ⟨k.toNat, m.toNat, b.toNat, sz.toNat, by omega, by omega, by omega, by omega, by omega, by omega, by omega⟩
theorem tot_take (L : List Nat) (t : Nat) : tot (L.take t) ≤ tot L := by
  induction L generalizing t with
  | nil => simp
  | cons n ns ih =>
    cases t with
    | zero => simp [tot]
    | succ t => have := ih t; simp only [List.take_succ_cons, tot]; omega
theorem tot_snoc (L : List Nat) (t : Nat) (h : t < L.length) : tot (L.take (t + 1)) = tot (L.take t) + (L.getD t 0 + 4) := by
  induction L generalizing t with
  | nil => simp at h
  | cons n ns ih =>
    cases t with
    | zero => simp [tot]
    | succ t =>
      have := ih t (by simpa using h)
      rw [List.take_succ_cons, List.take_succ_cons]
      simp only [tot, this, List.getD_cons_succ]
      omega
theorem sizeHd : (Try.prog.info? 28).map (·.size) = some 16 := by kernel_rfl
theorem wpList_loadHd {w : World} {ops : Array Oper} {rest : List Oper} {o : Oper} {a : Act} {Q : Exit → Act → World → Prop} {h : Hd} (hgd : o.guard = none) (x : Operand) (ho : o.op = .load 28 x) (g : Nat) (hx : a.eval x = .pointer (some ⟨g, 0, none⟩)) (H : HdAt w g h)
    (k : wpList Try.prog ops Q rest (a.put o.dst (.agg h.cs)) w) : wpList Try.prog ops Q (o :: rest) a w :=
  wpList_load_row hgd 28 x ho g hx 28 h.cs (0, 0) _ H Try.underlying28 rfl sizeHd k
/-- A shape in memory. -/
def ShAt (w : World) (g : Nat) (k m b : Int) : Prop := w.heap[g]? = some (.cells (shC k m b) 24)
theorem ShAt.below {w w' : World} {g : Nat} {k m b : Int} (H : ShAt w g k m b) (hb : Below w.heap.size w w') : ShAt w' g k m b := by
  unfold ShAt at H ⊢
  rw [hb.block g (Hm.lt H)]; exact H
theorem ShAt.new (w : World) (k m b : Int) : ShAt (w.alloc (.cells (shC k m b) 24)) w.heap.size k m b := heap_alloc_new w _
theorem ShAt.cells {w : World} {g : Nat} {k m b : Int} (H : ShAt w g k m b) : w.cell? ⟨g, 0, none⟩ = some (.int .i64 k) ∧ w.cell? ⟨g, 1, none⟩ = some (.int .i64 m) ∧ w.cell? ⟨g, 2, none⟩ = some (.int .i64 b) := by
  unfold ShAt at H
  have c := fun i => cell_of_row w g i _ _ (0, 0) H
  exact ⟨c 0, c 1, c 2⟩
theorem own_mono {w : World} {base base' n : Nat} {t : TypeId} {v : Value} {xs : List Value} (h : w.ownsRow base t 1 v n xs) (hb : base' ≤ base) : w.ownsRow base' t 1 v n xs := by
  refine ⟨h.1, ?_⟩
  rcases h.2 with h1 | ⟨g, cap, c, hv, hg, hh, hc⟩
  · exact .inl h1
  · exact .inr ⟨g, cap, c, hv, Nat.le_trans hb hg, hh, hc⟩
section
attribute [local irreducible] Calls el Hd.cs
set_option maxHeartbeats 1000000 in
set_option maxRecDepth 1000000 in
theorem blens_int (k m b sz : Int) (h : shp k m b) (hz : szE k b sz = 0) (w : World) :
    Calls Try.prog 18 #[.agg (shC k m b), .int .i64 sz] w fun e w' => ∃ v, e = .returned v ∧ Oi w' w.heap.size v (bls k.toNat (k * b).toNat sz.toNat sz.toNat) ∧ Below w.heap.size w w' := by
  obtain ⟨K, M, B, Z, rfl, rfl, rfl, rfl, hK, hB, hZ⟩ := bls_nats h hz
  rw [← Int.natCast_mul]
  simp only [Int.toNat_natCast]
  exact blens_any K M B Z hK hB hZ w
set_option maxHeartbeats 1000000 in
set_option maxRecDepth 1000000 in
theorem length_any (h : Hd) (hi : h.In) (hy : h.key.length ≤ 9223372036854775807) (w : World) :
    Calls Try.prog 16 #[.agg h.cs] w fun e w' => e = .returned (.tuple #[.int .i64 (if chk h = 0 then (h.len : Int) else 0), .int .i64 (chk h)]) ∧ Below w.heap.size w w' := by
  have al : ∀ (W : World) (o : Obj), Below W.heap.size W (W.alloc o) := fun W o => (Below.refl _ _).alloc (Nat.le_refl _) o
  have CK := (show Hid _ from fun w => check_any h hi hy w)
  have HA := HdAt.new w h
  by_cases h1 : chk h = 0
  · rw [if_pos h1, h1]
    rw [h1] at CK
    have ok := (chk_ok h).1 h1
    have HL := (show Hid _ from fun w => headLength_any h (by have := ok.y2; omega) w)
    have hsz := (Hd.ls_eq h ok).1
    have hsh : shp h.k h.m h.b := by obtain ⟨⟩ := ok; unfold shp; omega
    have BL := (show Hid _ from fun w => blens_int h.k h.m h.b h.sz hsh ((szE_ok _ _ _).2 ⟨ok.s1, ok.s2, ok.s3⟩) w)
    unfold shC at BL
    go_enter Try.func16, Try.ntmps16
    go_wp2_with (first | (refine wpList_loadHd rfl _ rfl w.heap.size rfl (by first | exact H2 | exact H1 | exact HA) ?_) | (go_at_call 28; refine (CK.out _).mono ?_; rintro e w1 ⟨rfl, hb1⟩; have H1 := HA.below hb1) | (go_at_call 29; refine (HL.out _).mono ?_; rintro e w2 ⟨rfl, hb2⟩; have H2 := H1.below hb2; obtain ⟨z8, z9, z10, z11, z12, z13, z14, z15⟩ := H2.cells) | (go_at_call 18; refine (BL.out _).mono ?_; rintro e w4 ⟨v, rfl, hO, hb4⟩; obtain ⟨p, cap, rfl, hcap, hV⟩ := hO.rd))
    have hlen : h.len = 40 + h.key.length + tot (bls h.k.toNat (h.k * h.b).toNat h.sz.toNat h.sz.toNat) := rfl
    have htot : tot (bls h.k.toNat (h.k * h.b).toNat h.sz.toNat h.sz.toNat) ≤ 1048576 * (16711680 + 255 + 4) := by
      have kb := kb_bd hsh
      have s2 := ok.s2
      have k2 := ok.k2
      exact Nat.le_trans (tot_bls _ _ _ _) (Nat.mul_le_mul (by omega) (by omega))
    have hy2 := ok.y2
    have hbA := bt (bt (bt (al w (.cells h.cs 28)) hb1) hb2) hb4
    generalize bls h.k.toNat (h.k * h.b).toNat h.sz.toNat h.sz.toNat = L at hV hcap hlen htot ⊢
    clear hsz hsh BL ok hO CK HL HA H1 H2 z8 z9 z10 z11 z12 z13 z14 z15
    have hls : L.length ≤ tot L := by
      clear hlen htot hV hcap
      induction L with
      | nil => simp
      | cons n ns ih => simp only [List.length_cons, tot]; omega
    go_loopw [5, 21] (fun o i wr => ∃ t : Nat, t ≤ L.length ∧ i = .int .i64 (t : Int) ∧ o = .int .i64 ((40 + h.key.length + tot (L.take t) : Nat) : Int) ∧ Below w4.heap.size w4 wr) (fun _ i _ => L.length - (intOf i).toNat)
    case atStart => exact ⟨0, Nat.zero_le _, rfl, by simp [tot], Below.refl _ _⟩
    case round =>
      obtain ⟨t, ht, rfl, rfl, hb⟩ := hrel
      have htk := tot_take L t
      by_cases hlt : t < L.length
      · obtain ⟨gb, go, rfl, hc⟩ := hV.num t hlt
        have hc' := cell_below hc hb
        have hsc := tot_snoc L t hlt
        have htk1 := tot_take L (t + 1)
        have hi : (t : Int) < (L.length : Int) := by omega
        generalize L.getD t 0 = d at hc hc' hsc
        go_wp2
        go_roundw
        case rel => exact ⟨t + 1, hlt, by go_num, by rw [hsc]; go_num, hb⟩
        case measure => simp [intOf]; omega
      · obtain rfl : t = L.length := by omega
        rw [List.take_length]
        go_wp2
        go_ret2
        exact ⟨by rw [hlen]; rfl, bt hbA hb⟩
  · rw [if_neg h1]
    go_enter Try.func16, Try.ntmps16
    generalize chk h = z at h1 CK ⊢
    go_wp2_with (first | (refine wpList_loadHd rfl _ rfl w.heap.size rfl HA ?_) | (go_at_call 28; refine (CK.out _).mono ?_; rintro e w1 ⟨rfl, hb1⟩))
    go_ret2
    exact ⟨rfl, bt (al _ _) hb1⟩
end
end Go.Proofs.Ytfcjkaigmlfjnaa
