/-
  The order of a board: the comparison, insertion sort.
-/
import Derived.Test.YtcfjinpjijcheabNw27
namespace Go.Proofs.Ytcfjinpjijcheab
open Go.RowKit
attribute [local irreducible] dW dR p2 fR fW fV fval sW sR
theorem order_sc {x y : Nat} (hx : Sc x) (hy : Sc y) : FloatKind.f32.format.order x y = some (compare x y) := by
  have fx : ffin F3 x := by unfold ffin; rw [F3_I, hx.sg.2]; unfold Sc at hx; omega
  have fy : ffin F3 y := by unfold ffin; rw [F3_I, hy.sg.2]; unfold Sc at hy; omega
  have vx : fval F3 2148 x = (sW x : Int) := by unfold fval sgn sW; rw [hx.sg.1, if_neg (by simp), hx.sg.2]
  have vy : fval F3 2148 y = (sW y : Int) := by unfold fval sgn sW; rw [hy.sg.1, if_neg (by simp), hy.sg.2]
  show F3.order x y = _
  rw [order_num F3 2148 F3_hc fx fy, vx, vy]
  have h1 : (sW x : Int) < (sW y : Int) ↔ x < y := by rw [Int.ofNat_lt]; exact sW_lt_iff
  have h2 : (sW x : Int) = (sW y : Int) ↔ x = y := by
    refine ⟨fun h => ?_, fun h => by rw [h]⟩
    have h3 : sW x = sW y := Int.ofNat.inj h
    have a : ¬ x < y := fun h => by have := sW_lt h; omega
    have b : ¬ y < x := fun h => by have := sW_lt h; omega
    omega
  simp only [compare, compareOfLessAndEq, h1, h2]
/-- How cmp.Compare tells two scores apart. -/
def cmS (x y : Nat) : Int := if x < y then -1 else if y < x then 1 else 0
def nc (xs : List Nat) : List Value := xs.map fun n : Nat => Value.int .i64 (n : Int)
theorem nc_len (xs : List Nat) : (nc xs).length = xs.length := by simp [nc]
theorem nc_at (xs : List Nat) (i : Nat) (h : i < xs.length) : (nc xs)[i]? = some (.int .i64 ((xs.getD i 0 : Nat) : Int)) := by simp [nc, List.getD, h]
theorem nc_set (xs : List Nat) (i v : Nat) : (nc xs).set i (.int .i64 (v : Int)) = nc (xs.set i v) := by simp [nc, List.map_set]
def ltS (ss : List Nat) (a b : Nat) : Bool := decide (ss.getD b 0 < ss.getD a 0)
def swS (l : List Nat) (j : Nat) : List Nat := (l.set (j + 1) (l.getD j 0)).set j (l.getD (j + 1) 0)
def insI (ss : List Nat) (a : Nat) : Nat → List Nat → List Nat
  | 0, l => l
  | j + 1, l => if a < j + 1 ∧ ltS ss (l.getD (j + 1) 0) (l.getD j 0) = true then insI ss a j (swS l j) else l
theorem insI_succ (ss : List Nat) (a j : Nat) (l : List Nat) : insI ss a (j + 1) l = if a < j + 1 ∧ ltS ss (l.getD (j + 1) 0) (l.getD j 0) = true then insI ss a j (swS l j) else l := rfl
def insO (ss : List Nat) (a : Nat) : Nat → Nat → List Nat → List Nat
  | 0, _, l => l
  | k + 1, i, l => insO ss a k (i + 1) (insI ss a i l)
/-- The whole insertion sort of the places a to b. -/
def insS (ss : List Nat) (a b : Nat) (l : List Nat) : List Nat := insO ss a (b - (a + 1)) (a + 1) l
theorem swS_len (l : List Nat) (j : Nat) : (swS l j).length = l.length := by simp [swS]
theorem insI_len (ss : List Nat) (a : Nat) : ∀ j l, (insI ss a j l).length = l.length
  | 0, l => rfl
  | j + 1, l => by
    unfold insI
    split
    · rw [insI_len ss a j, swS_len]
    · rfl
theorem mem_get {l : List Nat} {n : Nat} (h : ∀ x ∈ l, x < n) {i : Nat} (hi : i < l.length) : l.getD i 0 < n := by
  rw [show l.getD i 0 = l[i] by simp [List.getD, hi]]
  exact h _ (List.getElem_mem _)
theorem swS_all {l : List Nat} {n j : Nat} (h : ∀ x ∈ l, x < n) (hj : j + 1 < l.length) : ∀ x ∈ swS l j, x < n := by
  intro x hx
  unfold swS at hx
  rcases List.mem_or_eq_of_mem_set hx with hx | rfl
  · rcases List.mem_or_eq_of_mem_set hx with hx | rfl
    · exact h x hx
    · exact mem_get h (by omega)
  · exact mem_get h hj
theorem insI_all (ss : List Nat) (a n : Nat) : ∀ j l, (∀ x ∈ l, x < n) → j < l.length → ∀ x ∈ insI ss a j l, x < n
  | 0, l, h, _ => h
  | j + 1, l, h, hj => by
    unfold insI
    split
    · exact insI_all ss a n j _ (swS_all h hj) (by rw [swS_len]; omega)
    · exact h
/-- What the comparison is called in. -/
structure Cb (w : World) (bx b s k : Nat) (ss : List Nat) : Prop where
  box : w.cell? ⟨bx, 0, none⟩ = some (.pointer (some ⟨b, 0, none⟩))
  bd : Bd w b s k ss
theorem Cb.below {w w' : World} {bx b s k : Nat} {ss : List Nat} (h : Cb w bx b s k ss) (hb : Below w.heap.size w w') : Cb w' bx b s k ss := ⟨cell_below h.box hb, h.bd.below hb⟩
theorem Cb.drewN {w : World} {bx b s k : Nat} {ss : List Nat} (h : Cb w bx b s k ss) (n : Nat) : Cb (w.drewN n) bx b s k ss := ⟨h.box, h.bd.drewN n⟩
theorem sw_grown {w w' : World} {G : Nat} (h : w.grownBy w' (some G)) (i j : Nat) (u v : Value) : w.grownBy ((w'.setCell ⟨G, i, none⟩ u).setCell ⟨G, j, none⟩ v) (some G) := by
  refine ⟨h.os, h.tape, h.output, by simpa using h.size, fun k hk hne => ?_⟩
  have hne' : k ≠ G := fun e => hne (by rw [e])
  rw [heap_setCell_other _ ⟨G, j, none⟩ k _ hne', heap_setCell_other _ ⟨G, i, none⟩ k _ hne']
  exact h.block k hk hne
section
attribute [local irreducible] Calls
set_option maxRecDepth 1000000 in
theorem isNaN_any {x : Nat} (hx : Sc x) (w : World) : Calls Try.prog 42 #[.float .f32 x] w fun e w' => e = .returned (.bool false) ∧ w' = w := by
  have h : (FloatKind.f32.format.order x x != some .eq) = false := by rw [order_sc hx hx, Nat.compare_eq_eq.2 rfl]; rfl
  go_enter Try.func42, Try.ntmps42
  go_wp2
  go_ret
  exact ⟨rfl, rfl⟩
set_option maxRecDepth 1000000 in
theorem compare_any {x y : Nat} (hx : Sc x) (hy : Sc y) (w : World) : Calls Try.prog 32 #[.float .f32 x, .float .f32 y] w fun e w' => e = .returned (.int .i64 (cmS x y)) ∧ w' = w := by
  have N1 := (show Hid _ from isNaN_any hx)
  have N2 := (show Hid _ from isNaN_any hy)
  have ho := order_sc hx hy
  unfold cmS
  rcases Nat.lt_trichotomy x y with h | h | h
  · rw [if_pos h]
    have b1 : (FloatKind.f32.format.order x y == some .lt) = true := by rw [ho, Nat.compare_eq_lt.2 h]; rfl
    clear ho h
    go_enter Try.func32, Try.ntmps32
    go_wp2_with (first
      | (go_at_call 42; refine (N1.out _).mono ?_; rintro e w1 ⟨rfl, h⟩; obtain rfl := h.symm)
      | (go_at_call 42; refine (N2.out _).mono ?_; rintro e w1 ⟨rfl, h⟩; obtain rfl := h.symm))
    go_ret
    exact ⟨rfl, rfl⟩
  · rw [if_neg (by omega), if_neg (by omega)]
    have b1 : (FloatKind.f32.format.order x y == some .lt) = false := by rw [ho, Nat.compare_eq_eq.2 h]; rfl
    have b2 : (FloatKind.f32.format.order x y == some .gt) = false := by rw [ho, Nat.compare_eq_eq.2 h]; rfl
    clear ho h
    go_enter Try.func32, Try.ntmps32
    go_wp2_with (first
      | (go_at_call 42; refine (N1.out _).mono ?_; rintro e w1 ⟨rfl, h⟩; obtain rfl := h.symm)
      | (go_at_call 42; refine (N2.out _).mono ?_; rintro e w1 ⟨rfl, h⟩; obtain rfl := h.symm))
    go_ret
    exact ⟨rfl, rfl⟩
  · rw [if_neg (by omega), if_pos h]
    have b1 : (FloatKind.f32.format.order x y == some .lt) = false := by rw [ho, Nat.compare_eq_gt.2 h]; rfl
    have b2 : (FloatKind.f32.format.order x y == some .gt) = true := by rw [ho, Nat.compare_eq_gt.2 h]; rfl
    clear ho h
    go_enter Try.func32, Try.ntmps32
    go_wp2_with (first
      | (go_at_call 42; refine (N1.out _).mono ?_; rintro e w1 ⟨rfl, h⟩; obtain rfl := h.symm)
      | (go_at_call 42; refine (N2.out _).mono ?_; rintro e w1 ⟨rfl, h⟩; obtain rfl := h.symm))
    go_ret
    exact ⟨rfl, rfl⟩
set_option maxRecDepth 1000000 in
set_option maxHeartbeats 1000000 in
theorem ord1_any {w : World} {bx b s k : Nat} {ss : List Nat} (h : Cb w bx b s k ss) (hs : ∀ x ∈ ss, Sc x) (x y : Nat) (hx : x < ss.length) (hy : y < ss.length) :
    Calls Try.prog 31 #[.int .i64 (x : Int), .int .i64 (y : Int), .pointer (some ⟨bx, 0, none⟩)] w fun e w' => e = .returned (.int .i64 (cmS (ss.getD y 0) (ss.getD x 0))) ∧ ∃ q, w' = w.drewN q := by
  have c0 := h.box
  have c1 := h.bd.c1
  have g1 := h.bd.at x hx
  have g2 := h.bd.at y hy
  have sx : Sc (ss.getD x 0) := hs _ (by rw [show ss.getD x 0 = ss[x] by simp [List.getD, hx]]; exact List.getElem_mem _)
  have sy : Sc (ss.getD y 0) := hs _ (by rw [show ss.getD y 0 = ss[y] by simp [List.getD, hy]]; exact List.getElem_mem _)
  have CC := (show Hid _ from compare_any sy sx)
  obtain ⟨u, hu⟩ : ∃ u, ss.getD x 0 = u := ⟨_, rfl⟩
  obtain ⟨v, hv⟩ : ∃ u, ss.getD y 0 = u := ⟨_, rfl⟩
  obtain ⟨n, hn⟩ : ∃ n, ss.length = n := ⟨_, rfl⟩
  rw [hu] at g1 CC ⊢
  rw [hv] at g2 CC ⊢
  rw [hn] at c1 hx hy
  have hxi : (x : Int) < (n : Int) := by omega
  have hyi : (y : Int) < (n : Int) := by omega
  clear h hs sx sy hu hv
  go_enter Try.func31, Try.ntmps31
  go_wp2
  go_quiet (first | (go_at_call 32; refine Calls.quiet_of_same (CC.out _)))
  go_wp2
  go_ret
  exact ⟨rfl, _, rfl⟩
set_option maxRecDepth 1000000 in
set_option maxHeartbeats 4000000 in
theorem insert_any {w : World} {bx b s k G : Nat} {ss xs : List Nat} (h : Cb w bx b s k ss) (hs : ∀ x ∈ ss, Sc x) (hG : Bl w 3 G (nc xs)) (hlt : ∀ x ∈ xs, x < ss.length) (hbx : bx ≠ G) (hbb : b ≠ G) (hbs : s ≠ G) (m c lo hi : Nat) (hm : xs.length = m) (h1 : lo ≤ hi) (h2 : hi ≤ m) (hmm : m ≤ 1000) :
    Calls Try.prog 46 #[.slice (some ⟨G, 0, none⟩) m c, .int .i64 (lo : Int), .int .i64 (hi : Int), .func (.func 31) #[] #[.pointer (some ⟨bx, 0, none⟩)]] w fun e w' => e = .returned (.tuple #[]) ∧ Bl w' 3 G (nc (insS ss lo hi xs)) ∧ w.grownBy w' (some G) := by
  have keep : ∀ {V : World}, w.grownBy V (some G) → Cb V bx b s k ss := fun {V} hV => by
    have hb : ∀ g, g < w.heap.size → g ≠ G → V.heap[g]? = w.heap[g]? := fun g hg hne => hV.block g hg (fun e => hne (Option.some.inj e))
    have hbx' := block_lt_of_cell h.box
    refine ⟨?_, ⟨?_, ?_⟩⟩
    · rw [World.cell?_of_block (w := w) (hb bx hbx' hbx)]; exact h.box
    · rw [hb b h.bd.ltb hbb]; exact h.bd.blk
    · unfold Bl; rw [hb s h.bd.row.lt hbs]; exact h.bd.row
  have HK := (show Hid _ from @keep)
  have HS := (show Hid _ from hs)
  have HG0 := (show Hid _ from hG)
  have HR := (show Hid (w.grownBy w (some G)) from ⟨rfl, rfl, rfl, Nat.le_refl _, fun _ _ _ => rfl⟩)
  clear keep hs h
  go_enter Try.func46, Try.ntmps46
  go_wp2
  go_loopw [8] (fun i wr => ∃ (t : Nat) (ys : List Nat), i = .int .i64 (t : Int) ∧ lo + 1 ≤ t ∧ t ≤ hi + 1 ∧ ys.length = m ∧ Hid (∀ x ∈ ys, x < ss.length) ∧ Hid (insO ss lo (hi - t) t ys = insS ss lo hi xs) ∧ Bl wr 3 G (nc ys) ∧ Hid (w.grownBy wr (some G))) (fun i _ => hi + 1 - (intOf i).toNat)
  case atStart => exact ⟨lo + 1, xs, by go_num, Nat.le_refl _, by omega, hm, hlt, rfl, hG, HR.out⟩
  case round =>
    obtain ⟨t, ys, rfl, ht1, ht2, hym, hal, hO, hY, hgr⟩ := hrel
    by_cases hth : t < hi
    · have hti : (t : Int) < (hi : Int) := by omega
      obtain ⟨V, hV⟩ : ∃ V, V = wr := ⟨_, rfl⟩
      subst hV
      have HY := (show Hid _ from hY)
      clear hY
      go_wp2
      go_loopw [9] (fun i wr => ∃ (j : Nat) (zs : List Nat), i = .int .i64 (j : Int) ∧ lo ≤ j ∧ j ≤ t ∧ zs.length = m ∧ Hid (∀ x ∈ zs, x < ss.length) ∧ Hid (insI ss lo j zs = insI ss lo t ys) ∧ Bl wr 3 G (nc zs) ∧ Hid (w.grownBy wr (some G))) (fun i _ => (intOf i).toNat)
      case atStart => exact ⟨t, ys, rfl, by omega, Nat.le_refl _, hym, hal, rfl, HY.out, hgr⟩
      case round =>
        obtain ⟨j, zs, rfl, hj1, hj2, hzm, hzl, hI, hZ, hgz⟩ := hrel
        by_cases hjl : lo < j
        · obtain ⟨i, rfl⟩ : ∃ i, j = i + 1 := ⟨j - 1, by omega⟩
          have q1 : (lo : Int) < (i : Int) + 1 := by omega
          have g1 := hZ.cell (i + 1)
          have g2 := hZ.cell i
          rw [nc_at _ _ (by omega)] at g1 g2
          have f1 := hZ.frozen (i + 1)
          have f2 := hZ.frozen i
          have x1 := mem_get hzl.out (show i + 1 < zs.length by omega)
          have x2 := mem_get hzl.out (show i < zs.length by omega)
          have HC := (show Hid _ from fun q => ord1_any ((HK.out hgz.out).drewN q) HS.out (zs.getD (i + 1) 0) (zs.getD i 0) x1 x2)
          have hlt' : ltS ss (zs.getD (i + 1) 0) (zs.getD i 0) = decide (cmS (ss.getD (zs.getD i 0) 0) (ss.getD (zs.getD (i + 1) 0) 0) < 0) := by
            unfold ltS cmS
            by_cases a1 : ss.getD (zs.getD i 0) 0 < ss.getD (zs.getD (i + 1) 0) 0
            · rw [if_pos a1, decide_eq_true a1]; rfl
            · rw [if_neg a1, decide_eq_false a1]
              split <;> rfl
          have hsw : Bl ((wr.setCell ⟨G, i + 1, none⟩ (.int .i64 ((zs.getD i 0 : Nat) : Int))).setCell ⟨G, i, none⟩ (.int .i64 ((zs.getD (i + 1) 0 : Nat) : Int))) 3 G (nc (swS zs i)) := by
            unfold swS
            rw [← nc_set, ← nc_set]
            exact (hZ.set _ _).set _ _
          have HZW := (show Hid _ from hsw)
          have HLT := (show Hid _ from hlt')
          clear hsw hlt'
          obtain ⟨u, hu⟩ : ∃ u, zs.getD (i + 1) 0 = u := ⟨_, rfl⟩
          obtain ⟨v, hv⟩ : ∃ u, zs.getD i 0 = u := ⟨_, rfl⟩
          rw [hu] at g1 HC x1 HLT HZW
          rw [hv] at g2 HC x2 HLT HZW
          have HU := (show Hid (_ ∧ _) from ⟨hu, hv⟩)
          have q2 : (i : Int) + 1 < (m : Int) := by omega
          have q3 : IntKind.i64.wrap (i : Int) = (i : Int) := by rw [IntKind.wrap_i64]; omega
          have q4 : (i : Int) < (m : Int) := by omega
          have q5 : (0 : Int) ≤ (i : Int) + 1 := by omega
          have q6 : ((i : Int) + 1).toNat = i + 1 := by omega
          obtain ⟨z, hz⟩ : ∃ z, cmS (ss.getD v 0) (ss.getD u 0) = z := ⟨_, rfl⟩
          rw [hz] at HC HLT
          have HZB := (show Hid _ from hZ)
          clear hu hv hz hZ
          by_cases hneg : z < 0
          · have hzl2 : ltS ss u v = true := by rw [HLT.out]; exact decide_eq_true hneg
            have HL2 := (show Hid _ from hzl2)
            clear hzl2
            go_wp2
            go_quiet (first | (go_at_call 31; refine Calls.quiet_of (HC.out _)))
            have cj2 : (wr.drewN nq).cell? ⟨G, i + 1, none⟩ = some (.int .i64 (u : Int)) := g1
            have cp2 : (wr.drewN nq).cell? ⟨G, i, none⟩ = some (.int .i64 (v : Int)) := g2
            have fj2 : (wr.drewN nq).frozen? ⟨G, i + 1, none⟩ = false := f1
            have fp2 : (wr.drewN nq).frozen? ⟨G, i, none⟩ = false := f2
            have HW : Hid (Bl (((wr.drewN nq).setCell ⟨G, i + 1, none⟩ (.int .i64 (v : Int))).setCell ⟨G, i, none⟩ (.int .i64 (u : Int))) 3 G (nc (swS zs i)) ∧ w.grownBy (((wr.drewN nq).setCell ⟨G, i + 1, none⟩ (.int .i64 (v : Int))).setCell ⟨G, i, none⟩ (.int .i64 (u : Int))) (some G)) :=
              ⟨HZW.out, sw_grown (gdrewN hgz.out nq) _ _ _ _⟩
            clear g1 g2 f1 f2 HC HZW
            generalize wr.drewN nq = wq at cj2 cp2 fj2 fp2 HW
            go_wp2
            obtain ⟨J, hJ⟩ : ∃ J, i + 1 = J := ⟨_, rfl⟩
            have r1 : (J : Int) - 1 = (i : Int) := by omega
            have r2 : (J : Int) < (m : Int) := by omega
            have r3 : (0 : Int) ≤ (J : Int) := by omega
            have r4 : (J : Int).toNat = J := by omega
            have HJ := (show Hid _ from hJ)
            rw [hJ] at cj2 fj2 HW ⊢
            clear hJ q1 q2 q5 q6
            go_region_with (fail)
            all_goals
              go_wp2
              refine ⟨⟨i, swS zs i, rfl, by omega, by omega, by rw [swS_len]; exact hzm, swS_all hzl.out (by omega), ?_, HW.out.1, ?_⟩, ?_⟩
              · have h := hI.out
                show _ = _
                rw [← h]
                rw [insI_succ, HU.out.1, HU.out.2, if_pos ⟨by omega, HL2.out⟩]
              · exact (show w.grownBy _ _ from gdrewN HW.out.2 1)
              · simp [intOf]
          · have hst : insI ss lo (i + 1) zs = zs := by
              unfold insI
              rw [if_neg]
              rintro ⟨-, h9⟩
              rw [HU.out.1, HU.out.2, HLT.out] at h9
              exact hneg (of_decide_eq_true h9)
            have HST := (show Hid _ from hst)
            have HB := (show Hid (Bl wr 3 G (nc zs)) from HZB.out)
            clear hst HZW
            go_wp2
            go_quiet (first | (go_at_call 31; refine Calls.quiet_of (HC.out _)))
            go_wp2
            go_roundw
            case rel =>
              refine ⟨t + 1, zs, by go_num, by omega, by omega, hzm, hzl, ?_, HB.out, gdrewN hgz.out _⟩
              show _ = _
              rw [← hO.out, show hi - t = hi - (t + 1) + 1 by omega]
              show _ = insO ss lo (hi - (t + 1)) (t + 1) (insI ss lo t ys)
              rw [← hI.out, HST.out]
            case measure => simp [intOf]; omega
        · have hst : insI ss lo j zs = zs := by
            cases j with
            | zero => rfl
            | succ j => unfold insI; rw [if_neg (fun h9 => hjl h9.1)]
          have HST := (show Hid _ from hst)
          have HZ := (show Hid _ from hZ)
          have q1 : ¬ (lo : Int) < (j : Int) := by omega
          clear hst hZ
          go_wp2
          go_quiet (fail)
          go_wp2
          go_roundw
          case rel =>
            refine ⟨t + 1, zs, by go_num, by omega, by omega, hzm, hzl, ?_, HZ.out, gdrewN hgz.out _⟩
            show _ = _
            rw [← hO.out, show hi - t = hi - (t + 1) + 1 by omega]
            show _ = insO ss lo (hi - (t + 1)) (t + 1) (insI ss lo t ys)
            rw [← hI.out, HST.out]
          case measure => simp [intOf]; omega
    · have hti : ¬ (t : Int) < (hi : Int) := by omega
      have h0 := hO.out
      rw [show hi - t = 0 by omega] at h0
      have h0' : ys = insS ss lo hi xs := h0
      go_wp2
      go_end0
      exact ⟨rfl, by rw [← h0']; exact hY, hgr.out⟩
end
end Go.Proofs.Ytcfjinpjijcheab
