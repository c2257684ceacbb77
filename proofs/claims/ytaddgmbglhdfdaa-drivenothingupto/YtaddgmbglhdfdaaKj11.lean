/-
  drive.New, drive.Load.
-/
import Derived.Test.YtaddgmbglhdfdaaKi11
import Derived.Deep.CutBlock
import Derived.RegionTactic
import Derived.BigRegion
namespace Go.Proofs.Ytaddgmbglhdfdaa
open Go.RowKit Go.Maps Go.Sort
/-- Files in memory. -/
def FlAt (w : World) (p : Option Addr) (L : List (Tx × Tx)) : Prop := ∀ i, i < L.length → ∃ b o v, p = some ⟨b, o, none⟩ ∧ w.cell? ⟨b, o + i * 2, none⟩ = some (encStr (L.getD i ([], [])).1) ∧ w.cell? ⟨b, o + i * 2 + 1, none⟩ = some v ∧ Tv w v (L.getD i ([], [])).2
theorem FlAt.below {w w' : World} {p : Option Addr} {L : List (Tx × Tx)} (h : FlAt w p L) (hb : Below w.heap.size w w') : FlAt w' p L := fun i hi => by
  obtain ⟨b, o, v, h1, h2, h3, h4⟩ := h i hi
  exact ⟨b, o, v, h1, cell_below h2 hb, cell_below h3 hb, h4.below hb⟩
theorem new_dr (w : World) (n : Nat) : DrAt (w.alloc (.cells #[.int .i64 (n : Int), .int .i64 0, .map none, .map none, .slice none 0 0] 89)) w.heap.size (Ds.new n) (· = w.heap.size) := by
  refine ⟨rfl, fun b hb => ?_, [], fun _ => undef, none, none, .slice none 0 0, heap_alloc_new w _, ?_⟩
  · have : b = w.heap.size := hb
    simp [this]
  · exact ⟨.inl ⟨rfl, rfl, rfl, rfl, rfl⟩, rfl, List.nodup_nil, fun i hi => absurd hi (Nat.not_lt_zero _), fun i j g hi => absurd hi (Nat.not_lt_zero _), ⟨[], ⟨rfl, .inl ⟨rfl, rfl⟩⟩, rfl, fun j hj => absurd hj (Nat.not_lt_zero _)⟩, fun g hg => by cases hg⟩
def drC (r : Int) : Array Value := #[.int .i64 r, .int .i64 0, .map none, .map none, .slice none 0 0]
theorem fl_two {w : World} {b o : Nat} {u v : Value} (h1 : w.cell? ⟨b, o, none⟩ = some u) (h2 : w.cell? ⟨b, o + 1, none⟩ = some v) : (loadVar 63 ⟨b, o, none⟩).run Try.prog w = .ok (.agg (ftC u v)) w := by
  refine run_loadVar_at (P := Try.prog) w b o 63 (ftC u v) _ (fun j x hj => ?_) Try.underlying63 rfl (by unfold ftC; kernel_rfl)
  unfold ftC at hj
  match j, hj with
  | 0, hj => simp at hj; subst hj; exact h1
  | 1, hj => simp at hj; subst hj; exact h2
  | j + 2, hj => simp at hj
theorem fl0 (w : World) : (zeroValue 63).run Try.prog w = .ok (.agg #[.string ⟨#[]⟩, .slice none 0 0]) w := by kernel_rfl
theorem size_Fl : (Try.prog.info? 63).map (·.size) = some 2 := by kernel_rfl
theorem tv_form {w : World} {v : Value} {d : Tx} (h : Tv w v d) : ∃ p c, v = .slice p d.length c := by
  rcases h with ⟨rfl, rfl⟩ | ⟨g, c, rfl, _⟩
  · exact ⟨none, 0, rfl⟩
  · exact ⟨_, c, rfl⟩
theorem frz_below {w w' : World} {a : Addr} (h : w.frozen? a = false) (hl : a.block < w.heap.size) (hb : Below w.heap.size w w') : w'.frozen? a = false := by
  rw [← h]
  unfold World.frozen?
  rw [hb.block a.block hl]
/-- The names are copied. -/
theorem ldm_clone {B db s : Nat} {σ : Ds} {wr : World} (h : LdM B db s σ wr) : Calls Try.prog 58 #[.map (some s)] wr fun e w' => e = .returned (.map (some wr.heap.size)) ∧ (∃ m rv, StAt wr db σ.room σ.used (some s) none (.slice none 0 0) ∧ Rest wr (fun b => B ≤ b ∧ b < wr.heap.size ∧ b ≠ s) (bareD σ) m rv none none (.slice none 0 0) ∧ MpAt wr m s σ.st ∧ MpAt w' m wr.heap.size σ.st) ∧ Below wr.heap.size wr w' := by
  obtain ⟨⟨m0, rv, h1, h2, h3⟩, h4, h5⟩ := h
  refine (AnyW.maps_Clone_owns Try.mclone 9 (ptR m0) s (Maps.size σ.st) σ.st wr h3).mono ?_
  rintro e w' ⟨e1, e2, e3, e4⟩
  exact ⟨e1, ⟨m0, rv, h1, h2, h3, e2⟩, e4⟩
theorem bt4 {w a b c : World} (h : Below w.heap.size w a) (h1 : Below a.heap.size a b) (h2 : Below b.heap.size b c) : Below w.heap.size w c := bt (bt h h1) h2
theorem ob_len {w : World} {base n c : Nat} {p : Option Addr} {d : Tx} (h : Ob w base (.slice p n c) d) : n = d.length := by
  obtain ⟨p', c', e, _⟩ := own_form h
  injection e
section
attribute [local irreducible] Calls
theorem safeBody_gb (p : Option Addr) (n c : Nat) (w : World) : Calls Try.prog 57 #[.slice p n c] w fun e w' => e = .returned (.pointer (some ⟨w.heap.size, 0, none⟩)) ∧ w'.heap[w.heap.size]? = some (.cells #[.slice p n c, .int .i64 (n : Int)] 100 (0, 0)) ∧ Below w.heap.size w w' := by
  refine (safeBody_any p n c w).mono ?_
  rintro e w' ⟨rfl, rfl⟩
  exact ⟨rfl, heap_alloc_new w _, alb w _⟩
set_option maxRecDepth 1000000 in
theorem new_ok (n : Nat) (hn : n ≤ 1073741824) (w : World) : Calls Try.prog 36 #[.int .i64 (n : Int)] w fun e w' => e = .returned (.pointer (some ⟨w.heap.size, 0, none⟩)) ∧ GB w' w.heap.size 89 (drC n) ∧ Below w.heap.size w w' ∧ Hid (w'.heap.size = w.heap.size + 1) := by
  have g1 : ¬ (n : Int) < 0 := by omega
  have g2 : decide ((n : Int) < 0) = false := by simp
  have g3 : ¬ (1073741824 : Int) < (n : Int) := by omega
  go_enter Try.func36, Try.ntmps36
  go_wp2
  go_ret
  exact ⟨rfl, GB.new w _ _, alb _ _, by show _ = _; simp⟩
set_option maxRecDepth 1000000 in
theorem new_bad (r : Int) (hr : ¬ (0 ≤ r ∧ r ≤ 1073741824)) (w : World) : Calls Try.prog 36 #[.int .i64 r] w fun e w' => e = .returned (.pointer none) ∧ w' = w := by
  by_cases h : r < 0
  · have g2 : decide (r < 0) = true := by simp [h]
    clear hr
    go_enter Try.func36, Try.ntmps36
    go_wp2
    go_ret
    exact ⟨rfl, rfl⟩
  · have g2 : decide (r < 0) = false := by simp [h]
    have g3 : 1073741824 < r := by omega
    clear hr
    go_enter Try.func36, Try.ntmps36
    go_wp2
    go_ret
    exact ⟨rfl, rfl⟩
end
theorem mkmap (n : Nat) (w : World) : (Instr.makeMap 86 (some (.int .i64 (n : Int)))).run Try.prog w = .ok (.map (some w.heap.size)) (w.alloc (.map #[] 0)) := by
  simp [Instr.makeMap, run_underlying Try.underlying86, asInt, asIntOf]
theorem ldm_new {w1 : World} {B db r : Nat} (h : GB w1 db 89 (drC r)) (hB : B ≤ db) : LdM B db w1.heap.size (Ds.new r) ((w1.alloc (.map #[] 0)).setCell ⟨db, 2, none⟩ (.map (some w1.heap.size))) ∧ (B ≤ w1.heap.size → Below B w1 ((w1.alloc (.map #[] 0)).setCell ⟨db, 2, none⟩ (.map (some w1.heap.size)))) := by
  have hl := h.lt
  have h2 : (w1.alloc (.map #[] 0)).heap[db]? = some (.cells (drC r) 89 (0, 0)) := by rw [Below.heap_alloc _ _ _ hl]; exact h
  have hz : ((w1.alloc (.map #[] 0)).setCell ⟨db, 2, none⟩ (.map (some w1.heap.size))).heap.size = w1.heap.size + 1 := by simp [World.setCell]
  refine ⟨⟨⟨[], fun _ => undef, ?_, ?_, ?_⟩, ⟨by omega, by omega⟩, hB⟩, fun hB' => ((Below.refl _ _).alloc hB' _).setCell hB _⟩
  · unfold StAt
    rw [heap_setCell_same _ db 2 _ _ _ h2]
    rfl
  · exact ⟨.inl ⟨rfl, rfl, rfl, rfl, rfl⟩, rfl, List.nodup_nil, fun i hi => absurd hi (Nat.not_lt_zero _), fun i j g hi => absurd hi (Nat.not_lt_zero _), ⟨[], ⟨rfl, .inl ⟨rfl, rfl⟩⟩, rfl, fun j hj => absurd hj (Nat.not_lt_zero _)⟩, fun g hg => by cases hg⟩
  · exact om_same (om_tight (World.ownsMap_made w1 Try.prog 9 (ptR []))) (Below.heap_setCell _ _ _ _ (fun e => by have e' : w1.heap.size = db := e; omega))
section
attribute [local irreducible] Calls GB ftC drC Tv
set_option maxHeartbeats 8000000 in
set_option maxRecDepth 1000000 in
theorem load_any {w : World} (room : Int) (p : Option Addr) (n c : Nat) (L : List (Tx × Tx)) (hL : FlAt w p L) (hn : L.length = n) (hz : fsz L ≤ 140737488355328) (hx : ∀ f ∈ L, f.1.length ≤ 134217728) (hnn : n ≤ 134217728) :
    Calls Try.prog 29 #[.int .i64 room, .slice p n c] w fun e w' => ((Ds.load room L = none ∧ e = .returned (.pointer none)) ∨ ∃ σ db, Ds.load room L = some σ ∧ e = .returned (.pointer (some ⟨db, 0, none⟩)) ∧ DrAt w' db σ (fun b => w.heap.size ≤ b ∧ b < w'.heap.size)) ∧ Below w.heap.size w w' := by
  by_cases hr : 0 ≤ room ∧ room ≤ 1073741824
  · obtain ⟨r, rfl⟩ : ∃ r : Nat, room = (r : Int) := ⟨room.toNat, by omega⟩
    have hr' : r ≤ 1073741824 := by omega
    have HE := (show Hid (Ds.load (r : Int) L = ldr (ldn r L 0) (L.drop 0)) from by show _ = _; unfold Ds.load; rw [if_pos hr]; simp [ldn])
    clear hr
    go_enter Try.func29, Try.ntmps29
    go_upto_region 4 with (go_at_call 36; refine (new_ok r hr' _).mono ?_; rintro e w1 ⟨rfl, hG1, hb1, hs1⟩)
    obtain ⟨d2, e2⟩ : ∃ v, w1.cell? ⟨w.heap.size, 2, none⟩ = some v := ⟨_, by have := hG1.cell 2; unfold drC at this; exact this⟩
    replace e2 := cell_below e2 (alb w1 (.map #[] 0))
    have f2 := (hG1.below (alb w1 (.map #[] 0))).frozen 2
    have hmm := mkmap n
    go_wp2
    obtain ⟨hM2, hB2⟩ := ldm_new (B := w.heap.size) hG1 (Nat.le_refl _)
    have hB2' := hB2 hb1.size
    clear e2 f2 hmm hB2
    generalize (w1.alloc (.map #[] 0)).setCell ⟨w.heap.size, 2, none⟩ (.map (some w1.heap.size)) = W at *
    have M0 := (show Hid (LdM w.heap.size w.heap.size w1.heap.size (ldn r L 0) W) from hM2)
    have B0 := (show Hid (Below w.heap.size w W) from hb1.trans hB2')
    clear hM2 hB2' hG1 hb1 hs1 d2
    go_loopw [20] (fun i wr => ∃ k : Nat, k ≤ n ∧ i = .int .i64 (k : Int) ∧ Hid (LdM w.heap.size w.heap.size w1.heap.size (ldn r L k) wr) ∧ Hid (Below w.heap.size w wr) ∧ Hid (Ds.load (r : Int) L = ldr (ldn r L k) (L.drop k))) (fun i _ => n - (intOf i).toNat)
    case atStart => exact ⟨0, Nat.zero_le _, rfl, M0, B0, HE⟩
    case round =>
      obtain ⟨k, hk, rfl, hM, hB, hE⟩ := hrel
      by_cases hlt : k < n
      · have hi : (k : Int) < (n : Int) := by omega
        obtain ⟨b, o, v, rfl, d1, d2, hT⟩ := hL.below hB.out k (by omega)
        obtain ⟨x, hx'⟩ : ∃ x, x = L.getD k ([], []) := ⟨_, rfl⟩
        rw [← hx'] at d1 hT
        obtain ⟨pv, cv, rfl⟩ := tv_form hT
        have hld := fl_two d1 d2
        have hxl : x.1.length ≤ 134217728 := hx x (by rw [hx']; have hkl : k < L.length := by omega
                                                      rw [List.getD, List.getElem?_eq_getElem hkl]; exact List.getElem_mem _)
        have HX := (show Hid (x = L.getD k ([], [])) from hx')
        clear hx'
        go_upto_region 8 with (first
          | (refine wpList_ldAt rfl _ _ rfl b (o + k * 2) rfl _ hld ?_)
          | (refine wpList_alB (cs := ftC (.string ⟨#[]⟩) (.slice none 0 0)) rfl rfl (by unfold ftC; exact fl0) ?_; intro w3 hG3 hb3 hs3)
          | (refine wpList_stB (cs := ftC (encStr x.1) (.slice pv x.2.length cv)) rfl _ _ rfl rfl wr.heap.size rfl rfl hG3 (by unfold ftC; exact size_Fl) (by unfold ftC; rfl) (ftC_one rfl rfl) ?_; intro w4 hG4 hg4 hs4))
        have B4 := (show Hid (Below wr.heap.size wr w4) from grown_below hb3 hg4 hb3.size (Nat.le_refl _))
        have M4 := (show Hid (LdM w.heap.size w.heap.size w1.heap.size (ldn r L k) w4) from hM.out.below B4.out)
        have G4 := (show Hid (GB w4 wr.heap.size 63 (ftC (encStr x.1) (.slice pv x.2.length cv))) from hG4)
        have T4 := (show Hid (Tv w4 (.slice pv x.2.length cv) x.2) from hT.below B4.out)
        have E4 := (show Hid (ldr (ldn r L k) (L.drop k) = if isN x.1 = true ∧ lk (ldn r L k).st x.1 = none then ldr (ld1 (ldn r L k) x) (L.drop (k + 1)) else none) from by rw [HX.out]; exact ldr_step (by omega))
        clear hld hG3 hb3 hs3 hG4 hg4 hs4 hT d1 d2
        have x0 := ft_c0 G4.out
        have x1 := ft_c1 G4.out
        obtain ⟨u1, u2, fz1, fz3, ⟨v3, u3⟩, hdl⟩ := M4.out.cells
        have hIN := (show Hid _ from fun W => isName_any x.1 (by omega) W)
        have HZ := (show Hid (x.2.length ≤ 140737488355328) from by
          have h1 := fsz_take L k (by omega)
          have h2 := fsz_le L (k + 1)
          rw [← HX.out] at h1
          show _ ≤ _
          omega)
        have SNE := (show Hid (w1.heap.size < wr.heap.size) from hM.out.hs.2)
        have MS := (show Hid (Maps.size (ldn r L k).st < maxLen) from by
          have h1 := (ldn_okl r L k (by omega)).ss
          have h2 := fsz_le L k
          show _ < _
          unfold maxLen
          omega)
        obtain ⟨wd, hwd⟩ : ∃ wq, wq = w4.drew := ⟨_, rfl⟩
        have bd : Below w4.heap.size w4 wd := by rw [hwd]; exact (Below.refl _ _).drew
        have HBd := (show Hid (Below w4.heap.size w4 wd) from bd)
        obtain ⟨q, hlq, hqn⟩ := (M4.out.below bd).look (x := x.1) (by unfold maxLen; omega)
        have LKd := (show Hid ((Instr.lookup 86 (.map (some w1.heap.size)) (encStr x.1) false).run Try.prog wd = .ok (.pointer q) wd) from hlq)
        clear hlq
        cases hN : isN x.1 with
        | false =>
          rw [hN] at hIN
          have HNO := (show Hid (¬ (isN x.1 = true ∧ lk (ldn r L k).st x.1 = none)) from fun h => by rw [hN] at h; exact absurd h.1 (by decide))
          clear hN
          refine wp_region_held_drew (S := fun X => X.cell? ⟨wr.heap.size, 0, none⟩ = some (encStr x.1) ∧ X.cell? ⟨w.heap.size, 2, none⟩ = some (.map (some w1.heap.size)) ∧ X = wd) (by kernel_rfl) (by rw [← hwd]; exact ⟨cell_below x0 bd, cell_below u2 bd, rfl⟩) (fun hHeld => ?_)
          rw [← hwd] at hHeld ⊢
          clear hwd bd
          refine takeHr (i := 0) (d := some 24) (v := ?v1) rfl rfl (by kernel_rfl) (by kernel_rfl) (by kernel_rfl) (fun _ _ _ h => h) (Or.inl ⟨by rfl, ?hy1⟩) hHeld ?rest1
          case hy1 => intro X hSw; obtain ⟨g1, g2, rfl⟩ := hSw; (try have lkd := LKd.out); go_simp <;> with_reducible rfl
          try simp only [Act.put, List.setIfInBounds_toArray, List.set_cons_zero, List.set_cons_succ]
          refine takeHr (i := 1) (d := some 25) (v := ?v2) rfl rfl (by kernel_rfl) (by kernel_rfl) (by kernel_rfl) (fun _ _ _ h => h) (Or.inl ⟨by rfl, ?hy2⟩) hHeld ?rest2
          case hy2 => intro X hSw; obtain ⟨g1, g2, rfl⟩ := hSw; (try have lkd := LKd.out); go_simp <;> with_reducible rfl
          try simp only [Act.put, List.setIfInBounds_toArray, List.set_cons_zero, List.set_cons_succ]
          refine wpAnyH_ready (rs := [2]) (by kernel_rfl) (by simp) ?_
          refine AllReadyH.cons (o := { dst := some 26, op := Op.call { callee := Callee.value (Operand.func 66), args := #[Operand.tmp 25], argTypes := #[9] }, type := 4, pos := "drive.go:56", after := #[{ on := 1, ground := Ground.data }], guard := none }) rfl (fun Kq hKq => ?_) AllReadyH.nil
          · go_simp
            refine (hIN.out _).mono ?_
            rintro e w3x ⟨rfl, h9⟩
            obtain rfl := h9.symm
            refine hKq.out _ _ hHeld (fun hHeld => ?_)
            clear hKq Kq
            try simp only [Act.put, List.setIfInBounds_toArray, List.set_cons_zero, List.set_cons_succ]
            refine takeHr (i := 3) (d := some 27) (v := .bool true) rfl rfl (by kernel_rfl) (by kernel_rfl) (by kernel_rfl) (fun _ _ _ h => h) (Or.inl ⟨by rfl, ?hy4⟩) hHeld ?rest4
            case hy4 => intro X hSw; obtain ⟨g1, g2, rfl⟩ := hSw; (try have lkd := LKd.out); go_simp <;> with_reducible rfl
            try simp only [Act.put, List.setIfInBounds_toArray, List.set_cons_zero, List.set_cons_succ]
            refine takeHr (i := 4) (d := some 28) (v := .bool true) rfl rfl (by kernel_rfl) (by kernel_rfl) (by kernel_rfl) (fun _ _ _ h => h) (Or.inl ⟨by rfl, ?hy5⟩) hHeld ?rest5
            case hy5 => intro X hSw; obtain ⟨g1, g2, rfl⟩ := hSw; (try have lkd := LKd.out); go_simp <;> with_reducible rfl
            try simp only [Act.put, List.setIfInBounds_toArray, List.set_cons_zero, List.set_cons_succ]
            refine takeHr (i := 5) (d := some 29) (v := undef) rfl rfl (by kernel_rfl) (by kernel_rfl) (by kernel_rfl) (fun _ _ _ h => h) (Or.inr ⟨by rfl, rfl⟩) hHeld ?_
            try simp only [Act.put, List.setIfInBounds_toArray, List.set_cons_zero, List.set_cons_succ]
            refine takeHr (i := 6) (d := some 30) (v := undef) rfl rfl (by kernel_rfl) (by kernel_rfl) (by kernel_rfl) (fun _ _ _ h => h) (Or.inr ⟨by rfl, rfl⟩) hHeld ?_
            try simp only [Act.put, List.setIfInBounds_toArray, List.set_cons_zero, List.set_cons_succ]
            refine takeHr (i := 7) (d := some 31) (v := undef) rfl rfl (by kernel_rfl) (by kernel_rfl) (by kernel_rfl) (fun _ _ _ h => h) (Or.inr ⟨by rfl, rfl⟩) hHeld ?_
            try simp only [Act.put, List.setIfInBounds_toArray, List.set_cons_zero, List.set_cons_succ]
            refine takeHr (i := 8) (d := some 32) (v := undef) rfl rfl (by kernel_rfl) (by kernel_rfl) (by kernel_rfl) (fun _ _ _ h => h) (Or.inr ⟨by rfl, rfl⟩) hHeld ?_
            try simp only [Act.put, List.setIfInBounds_toArray, List.set_cons_zero, List.set_cons_succ]
            refine takeHr (i := 9) (d := some 33) (v := undef) rfl rfl (by kernel_rfl) (by kernel_rfl) (by kernel_rfl) (fun _ _ _ h => h) (Or.inr ⟨by rfl, rfl⟩) hHeld ?_
            try simp only [Act.put, List.setIfInBounds_toArray, List.set_cons_zero, List.set_cons_succ]
            refine takeHr (i := 10) (d := some 34) (v := undef) rfl rfl (by kernel_rfl) (by kernel_rfl) (by kernel_rfl) (fun _ _ _ h => h) (Or.inr ⟨by rfl, rfl⟩) hHeld ?_
            try simp only [Act.put, List.setIfInBounds_toArray, List.set_cons_zero, List.set_cons_succ]
            refine takeHr (i := 11) (d := some 35) (v := undef) rfl rfl (by kernel_rfl) (by kernel_rfl) (by kernel_rfl) (fun _ _ _ h => h) (Or.inr ⟨by rfl, rfl⟩) hHeld ?_
            try simp only [Act.put, List.setIfInBounds_toArray, List.set_cons_zero, List.set_cons_succ]
            refine takeHr (i := 12) (d := some 36) (v := undef) rfl rfl (by kernel_rfl) (by kernel_rfl) (by kernel_rfl) (fun _ _ _ h => h) (Or.inr ⟨by rfl, rfl⟩) hHeld ?_
            try simp only [Act.put, List.setIfInBounds_toArray, List.set_cons_zero, List.set_cons_succ]
            refine takeHr (i := 13) (d := some 37) (v := .bool true) rfl rfl (by kernel_rfl) (by kernel_rfl) (by kernel_rfl) (fun _ _ _ h => h) (Or.inl ⟨by rfl, ?hy14⟩) hHeld ?rest14
            case hy14 => intro X hSw; obtain ⟨g1, g2, rfl⟩ := hSw; (try have lkd := LKd.out); go_simp <;> with_reducible rfl
            try simp only [Act.put, List.setIfInBounds_toArray, List.set_cons_zero, List.set_cons_succ]
            refine wpAnyH_done (by kernel_rfl) ?_ _
            clear hHeld
            go_wp2_with (fail)
            go_ret
            refine ⟨.inl ⟨?_, rfl⟩, bt4 hB.out B4.out HBd.out⟩
            rw [hE.out, E4.out, if_neg HNO.out]
        | true =>
          rw [hN] at hIN
          cases hlk : lk (ldn r L k).st x.1 with
          | some i =>
            obtain ⟨qa, rfl⟩ : ∃ a, q = some a := by
              cases q with
              | none => rw [hqn.1 rfl] at hlk; cases hlk
              | some a => exact ⟨a, rfl⟩
            have HNO := (show Hid (¬ (isN x.1 = true ∧ lk (ldn r L k).st x.1 = none)) from fun h => by rw [hlk] at h; cases h.2)
            clear hN hlk hqn
            refine wp_region_held_drew (S := fun X => X.cell? ⟨wr.heap.size, 0, none⟩ = some (encStr x.1) ∧ X.cell? ⟨w.heap.size, 2, none⟩ = some (.map (some w1.heap.size)) ∧ X = wd) (by kernel_rfl) (by rw [← hwd]; exact ⟨cell_below x0 bd, cell_below u2 bd, rfl⟩) (fun hHeld => ?_)
            rw [← hwd] at hHeld ⊢
            clear hwd bd
            refine takeHr (i := 0) (d := some 24) (v := ?v15) rfl rfl (by kernel_rfl) (by kernel_rfl) (by kernel_rfl) (fun _ _ _ h => h) (Or.inl ⟨by rfl, ?hy15⟩) hHeld ?rest15
            case hy15 => intro X hSw; obtain ⟨g1, g2, rfl⟩ := hSw; (try have lkd := LKd.out); go_simp <;> with_reducible rfl
            try simp only [Act.put, List.setIfInBounds_toArray, List.set_cons_zero, List.set_cons_succ]
            refine takeHr (i := 1) (d := some 25) (v := ?v16) rfl rfl (by kernel_rfl) (by kernel_rfl) (by kernel_rfl) (fun _ _ _ h => h) (Or.inl ⟨by rfl, ?hy16⟩) hHeld ?rest16
            case hy16 => intro X hSw; obtain ⟨g1, g2, rfl⟩ := hSw; (try have lkd := LKd.out); go_simp <;> with_reducible rfl
            try simp only [Act.put, List.setIfInBounds_toArray, List.set_cons_zero, List.set_cons_succ]
            refine wpAnyH_ready (rs := [2]) (by kernel_rfl) (by simp) ?_
            refine AllReadyH.cons (o := { dst := some 26, op := Op.call { callee := Callee.value (Operand.func 66), args := #[Operand.tmp 25], argTypes := #[9] }, type := 4, pos := "drive.go:56", after := #[{ on := 1, ground := Ground.data }], guard := none }) rfl (fun Kq hKq => ?_) AllReadyH.nil
            · go_simp
              refine (hIN.out _).mono ?_
              rintro e w17x ⟨rfl, h9⟩
              obtain rfl := h9.symm
              refine hKq.out _ _ hHeld (fun hHeld => ?_)
              clear hKq Kq
              try simp only [Act.put, List.setIfInBounds_toArray, List.set_cons_zero, List.set_cons_succ]
              refine takeHr (i := 3) (d := some 27) (v := .bool false) rfl rfl (by kernel_rfl) (by kernel_rfl) (by kernel_rfl) (fun _ _ _ h => h) (Or.inl ⟨by rfl, ?hy18⟩) hHeld ?rest18
              case hy18 => intro X hSw; obtain ⟨g1, g2, rfl⟩ := hSw; (try have lkd := LKd.out); go_simp <;> with_reducible rfl
              try simp only [Act.put, List.setIfInBounds_toArray, List.set_cons_zero, List.set_cons_succ]
              refine takeHr (i := 4) (d := some 28) (v := .bool false) rfl rfl (by kernel_rfl) (by kernel_rfl) (by kernel_rfl) (fun _ _ _ h => h) (Or.inl ⟨by rfl, ?hy19⟩) hHeld ?rest19
              case hy19 => intro X hSw; obtain ⟨g1, g2, rfl⟩ := hSw; (try have lkd := LKd.out); go_simp <;> with_reducible rfl
              try simp only [Act.put, List.setIfInBounds_toArray, List.set_cons_zero, List.set_cons_succ]
              refine takeHr (i := 5) (d := some 29) (v := ?v20) rfl rfl (by kernel_rfl) (by kernel_rfl) (by kernel_rfl) (fun _ _ _ h => h) (Or.inl ⟨by rfl, ?hy20⟩) hHeld ?rest20
              case hy20 => intro X hSw; obtain ⟨g1, g2, rfl⟩ := hSw; (try have lkd := LKd.out); go_simp <;> with_reducible rfl
              try simp only [Act.put, List.setIfInBounds_toArray, List.set_cons_zero, List.set_cons_succ]
              refine takeHr (i := 6) (d := some 30) (v := ?v21) rfl rfl (by kernel_rfl) (by kernel_rfl) (by kernel_rfl) (fun _ _ _ h => h) (Or.inl ⟨by rfl, ?hy21⟩) hHeld ?rest21
              case hy21 => intro X hSw; obtain ⟨g1, g2, rfl⟩ := hSw; (try have lkd := LKd.out); go_simp <;> with_reducible rfl
              try simp only [Act.put, List.setIfInBounds_toArray, List.set_cons_zero, List.set_cons_succ]
              refine takeHr (i := 7) (d := some 31) (v := ?v22) rfl rfl (by kernel_rfl) (by kernel_rfl) (by kernel_rfl) (fun _ _ _ h => h) (Or.inl ⟨by rfl, ?hy22⟩) hHeld ?rest22
              case hy22 => intro X hSw; obtain ⟨g1, g2, rfl⟩ := hSw; (try have lkd := LKd.out); go_simp <;> with_reducible rfl
              try simp only [Act.put, List.setIfInBounds_toArray, List.set_cons_zero, List.set_cons_succ]
              refine takeHr (i := 8) (d := some 32) (v := ?v23) rfl rfl (by kernel_rfl) (by kernel_rfl) (by kernel_rfl) (fun _ _ _ h => h) (Or.inl ⟨by rfl, ?hy23⟩) hHeld ?rest23
              case hy23 => intro X hSw; obtain ⟨g1, g2, rfl⟩ := hSw; (try have lkd := LKd.out); go_simp <;> with_reducible rfl
              try simp only [Act.put, List.setIfInBounds_toArray, List.set_cons_zero, List.set_cons_succ]
              refine takeHr (i := 9) (d := some 33) (v := ?v24) rfl rfl (by kernel_rfl) (by kernel_rfl) (by kernel_rfl) (fun _ _ _ h => h) (Or.inl ⟨by rfl, ?hy24⟩) hHeld ?rest24
              case hy24 => intro X hSw; obtain ⟨g1, g2, rfl⟩ := hSw; (try have lkd := LKd.out); go_simp <;> with_reducible rfl
              try simp only [Act.put, List.setIfInBounds_toArray, List.set_cons_zero, List.set_cons_succ]
              refine takeHr (i := 10) (d := some 34) (v := ?v25) rfl rfl (by kernel_rfl) (by kernel_rfl) (by kernel_rfl) (fun _ _ _ h => h) (Or.inl ⟨by rfl, ?hy25⟩) hHeld ?rest25
              case hy25 => intro X hSw; obtain ⟨g1, g2, rfl⟩ := hSw; (try have lkd := LKd.out); go_simp <;> with_reducible rfl
              try simp only [Act.put, List.setIfInBounds_toArray, List.set_cons_zero, List.set_cons_succ]
              refine takeHr (i := 11) (d := some 35) (v := ?v26) rfl rfl (by kernel_rfl) (by kernel_rfl) (by kernel_rfl) (fun _ _ _ h => h) (Or.inl ⟨by rfl, ?hy26⟩) hHeld ?rest26
              case hy26 => intro X hSw; obtain ⟨g1, g2, rfl⟩ := hSw; (try have lkd := LKd.out); go_simp <;> with_reducible rfl
              try simp only [Act.put, List.setIfInBounds_toArray, List.set_cons_zero, List.set_cons_succ]
              refine takeHr (i := 12) (d := some 36) (v := .bool true) rfl rfl (by kernel_rfl) (by kernel_rfl) (by kernel_rfl) (fun _ _ _ h => h) (Or.inl ⟨by rfl, ?hy27⟩) hHeld ?rest27
              case hy27 => intro X hSw; obtain ⟨g1, g2, rfl⟩ := hSw; (try have lkd := LKd.out); go_simp <;> with_reducible rfl
              try simp only [Act.put, List.setIfInBounds_toArray, List.set_cons_zero, List.set_cons_succ]
              refine takeHr (i := 13) (d := some 37) (v := .bool true) rfl rfl (by kernel_rfl) (by kernel_rfl) (by kernel_rfl) (fun _ _ _ h => h) (Or.inl ⟨by rfl, ?hy28⟩) hHeld ?rest28
              case hy28 => intro X hSw; obtain ⟨g1, g2, rfl⟩ := hSw; (try have lkd := LKd.out); go_simp <;> with_reducible rfl
              try simp only [Act.put, List.setIfInBounds_toArray, List.set_cons_zero, List.set_cons_succ]
              refine wpAnyH_done (by kernel_rfl) ?_ _
              clear hHeld
              go_wp2_with (fail)
              go_ret
              refine ⟨.inl ⟨?_, rfl⟩, bt4 hB.out B4.out HBd.out⟩
              rw [hE.out, E4.out, if_neg HNO.out]
          | none =>
            obtain rfl : q = none := hqn.2 hlk
            have EK := (show Hid (Ds.load (r : Int) L = ldr (ldn r L (k + 1)) (L.drop (k + 1))) from by show _ = _; rw [hE.out, E4.out, if_pos ⟨hN, hlk⟩, ldn_succ r L k (by omega), ← HX.out])
            clear hN hlk hqn
            refine wp_region_held_drew (S := fun X => X.cell? ⟨wr.heap.size, 0, none⟩ = some (encStr x.1) ∧ X.cell? ⟨w.heap.size, 2, none⟩ = some (.map (some w1.heap.size)) ∧ X = wd) (by kernel_rfl) (by rw [← hwd]; exact ⟨cell_below x0 bd, cell_below u2 bd, rfl⟩) (fun hHeld => ?_)
            rw [← hwd] at hHeld ⊢
            clear hwd bd
            refine takeHr (i := 0) (d := some 24) (v := ?v29) rfl rfl (by kernel_rfl) (by kernel_rfl) (by kernel_rfl) (fun _ _ _ h => h) (Or.inl ⟨by rfl, ?hy29⟩) hHeld ?rest29
            case hy29 => intro X hSw; obtain ⟨g1, g2, rfl⟩ := hSw; (try have lkd := LKd.out); go_simp <;> with_reducible rfl
            try simp only [Act.put, List.setIfInBounds_toArray, List.set_cons_zero, List.set_cons_succ]
            refine takeHr (i := 1) (d := some 25) (v := ?v30) rfl rfl (by kernel_rfl) (by kernel_rfl) (by kernel_rfl) (fun _ _ _ h => h) (Or.inl ⟨by rfl, ?hy30⟩) hHeld ?rest30
            case hy30 => intro X hSw; obtain ⟨g1, g2, rfl⟩ := hSw; (try have lkd := LKd.out); go_simp <;> with_reducible rfl
            try simp only [Act.put, List.setIfInBounds_toArray, List.set_cons_zero, List.set_cons_succ]
            refine wpAnyH_ready (rs := [2]) (by kernel_rfl) (by simp) ?_
            refine AllReadyH.cons (o := { dst := some 26, op := Op.call { callee := Callee.value (Operand.func 66), args := #[Operand.tmp 25], argTypes := #[9] }, type := 4, pos := "drive.go:56", after := #[{ on := 1, ground := Ground.data }], guard := none }) rfl (fun Kq hKq => ?_) AllReadyH.nil
            · go_simp
              refine (hIN.out _).mono ?_
              rintro e w31x ⟨rfl, h9⟩
              obtain rfl := h9.symm
              refine hKq.out _ _ hHeld (fun hHeld => ?_)
              clear hKq Kq
              try simp only [Act.put, List.setIfInBounds_toArray, List.set_cons_zero, List.set_cons_succ]
              refine takeHr (i := 3) (d := some 27) (v := .bool false) rfl rfl (by kernel_rfl) (by kernel_rfl) (by kernel_rfl) (fun _ _ _ h => h) (Or.inl ⟨by rfl, ?hy32⟩) hHeld ?rest32
              case hy32 => intro X hSw; obtain ⟨g1, g2, rfl⟩ := hSw; (try have lkd := LKd.out); go_simp <;> with_reducible rfl
              try simp only [Act.put, List.setIfInBounds_toArray, List.set_cons_zero, List.set_cons_succ]
              refine takeHr (i := 4) (d := some 28) (v := .bool false) rfl rfl (by kernel_rfl) (by kernel_rfl) (by kernel_rfl) (fun _ _ _ h => h) (Or.inl ⟨by rfl, ?hy33⟩) hHeld ?rest33
              case hy33 => intro X hSw; obtain ⟨g1, g2, rfl⟩ := hSw; (try have lkd := LKd.out); go_simp <;> with_reducible rfl
              try simp only [Act.put, List.setIfInBounds_toArray, List.set_cons_zero, List.set_cons_succ]
              refine takeHr (i := 5) (d := some 29) (v := ?v34) rfl rfl (by kernel_rfl) (by kernel_rfl) (by kernel_rfl) (fun _ _ _ h => h) (Or.inl ⟨by rfl, ?hy34⟩) hHeld ?rest34
              case hy34 => intro X hSw; obtain ⟨g1, g2, rfl⟩ := hSw; (try have lkd := LKd.out); go_simp <;> with_reducible rfl
              try simp only [Act.put, List.setIfInBounds_toArray, List.set_cons_zero, List.set_cons_succ]
              refine takeHr (i := 6) (d := some 30) (v := ?v35) rfl rfl (by kernel_rfl) (by kernel_rfl) (by kernel_rfl) (fun _ _ _ h => h) (Or.inl ⟨by rfl, ?hy35⟩) hHeld ?rest35
              case hy35 => intro X hSw; obtain ⟨g1, g2, rfl⟩ := hSw; (try have lkd := LKd.out); go_simp <;> with_reducible rfl
              try simp only [Act.put, List.setIfInBounds_toArray, List.set_cons_zero, List.set_cons_succ]
              refine takeHr (i := 7) (d := some 31) (v := ?v36) rfl rfl (by kernel_rfl) (by kernel_rfl) (by kernel_rfl) (fun _ _ _ h => h) (Or.inl ⟨by rfl, ?hy36⟩) hHeld ?rest36
              case hy36 => intro X hSw; obtain ⟨g1, g2, rfl⟩ := hSw; (try have lkd := LKd.out); go_simp <;> with_reducible rfl
              try simp only [Act.put, List.setIfInBounds_toArray, List.set_cons_zero, List.set_cons_succ]
              refine takeHr (i := 8) (d := some 32) (v := ?v37) rfl rfl (by kernel_rfl) (by kernel_rfl) (by kernel_rfl) (fun _ _ _ h => h) (Or.inl ⟨by rfl, ?hy37⟩) hHeld ?rest37
              case hy37 => intro X hSw; obtain ⟨g1, g2, rfl⟩ := hSw; (try have lkd := LKd.out); go_simp <;> with_reducible rfl
              try simp only [Act.put, List.setIfInBounds_toArray, List.set_cons_zero, List.set_cons_succ]
              refine takeHr (i := 9) (d := some 33) (v := ?v38) rfl rfl (by kernel_rfl) (by kernel_rfl) (by kernel_rfl) (fun _ _ _ h => h) (Or.inl ⟨by rfl, ?hy38⟩) hHeld ?rest38
              case hy38 => intro X hSw; obtain ⟨g1, g2, rfl⟩ := hSw; (try have lkd := LKd.out); go_simp <;> with_reducible rfl
              try simp only [Act.put, List.setIfInBounds_toArray, List.set_cons_zero, List.set_cons_succ]
              refine takeHr (i := 10) (d := some 34) (v := ?v39) rfl rfl (by kernel_rfl) (by kernel_rfl) (by kernel_rfl) (fun _ _ _ h => h) (Or.inl ⟨by rfl, ?hy39⟩) hHeld ?rest39
              case hy39 => intro X hSw; obtain ⟨g1, g2, rfl⟩ := hSw; (try have lkd := LKd.out); go_simp <;> with_reducible rfl
              try simp only [Act.put, List.setIfInBounds_toArray, List.set_cons_zero, List.set_cons_succ]
              refine takeHr (i := 11) (d := some 35) (v := ?v40) rfl rfl (by kernel_rfl) (by kernel_rfl) (by kernel_rfl) (fun _ _ _ h => h) (Or.inl ⟨by rfl, ?hy40⟩) hHeld ?rest40
              case hy40 => intro X hSw; obtain ⟨g1, g2, rfl⟩ := hSw; (try have lkd := LKd.out); go_simp <;> with_reducible rfl
              try simp only [Act.put, List.setIfInBounds_toArray, List.set_cons_zero, List.set_cons_succ]
              refine takeHr (i := 12) (d := some 36) (v := .bool false) rfl rfl (by kernel_rfl) (by kernel_rfl) (by kernel_rfl) (fun _ _ _ h => h) (Or.inl ⟨by rfl, ?hy41⟩) hHeld ?rest41
              case hy41 => intro X hSw; obtain ⟨g1, g2, rfl⟩ := hSw; (try have lkd := LKd.out); go_simp <;> with_reducible rfl
              try simp only [Act.put, List.setIfInBounds_toArray, List.set_cons_zero, List.set_cons_succ]
              refine takeHr (i := 13) (d := some 37) (v := .bool false) rfl rfl (by kernel_rfl) (by kernel_rfl) (by kernel_rfl) (fun _ _ _ h => h) (Or.inl ⟨by rfl, ?hy42⟩) hHeld ?rest42
              case hy42 => intro X hSw; obtain ⟨g1, g2, rfl⟩ := hSw; (try have lkd := LKd.out); go_simp <;> with_reducible rfl
              try simp only [Act.put, List.setIfInBounds_toArray, List.set_cons_zero, List.set_cons_succ]
              refine wpAnyH_done (by kernel_rfl) ?_ _
              clear hHeld
              go_upto_region 10 with fail
              have y0 := cell_below x0 HBd.out
              have y1 := cell_below x1 HBd.out
              have y2 := cell_below u2 HBd.out
              obtain ⟨we, hwe⟩ : ∃ wq, wq = wd.drew := ⟨_, rfl⟩
              have be : Below wd.heap.size wd we := by rw [hwe]; exact (Below.refl _ _).drew
              have HBc := (show Hid (Below w4.heap.size w4 we) from bt HBd.out be)
              refine wp_region_held_drew (S := fun X => X.cell? ⟨wr.heap.size, 0, none⟩ = some (encStr x.1) ∧ X.cell? ⟨wr.heap.size, 1, none⟩ = some (.slice pv x.2.length cv) ∧ X.cell? ⟨w.heap.size, 2, none⟩ = some (.map (some w1.heap.size))) (by kernel_rfl) (by rw [← hwe]; exact ⟨cell_below y0 be, cell_below y1 be, cell_below y2 be⟩) (fun hHeld => ?_)
              rw [← hwe] at hHeld ⊢
              clear hwe be y0 y1 y2
              refine takeHr (i := 0) (d := some 38) (v := ?v43) rfl rfl (by kernel_rfl) (by kernel_rfl) (by kernel_rfl) (fun _ _ _ h => h) (Or.inl ⟨by rfl, ?hy43⟩) hHeld ?rest43
              case hy43 => intro X hSw; obtain ⟨g1, g2, g3⟩ := hSw; go_simp <;> with_reducible rfl
              try simp only [Act.put, List.setIfInBounds_toArray, List.set_cons_zero, List.set_cons_succ]
              refine takeHr (i := 1) (d := some 39) (v := ?v44) rfl rfl (by kernel_rfl) (by kernel_rfl) (by kernel_rfl) (fun _ _ _ h => h) (Or.inl ⟨by rfl, ?hy44⟩) hHeld ?rest44
              case hy44 => intro X hSw; obtain ⟨g1, g2, g3⟩ := hSw; go_simp <;> with_reducible rfl
              try simp only [Act.put, List.setIfInBounds_toArray, List.set_cons_zero, List.set_cons_succ]
              refine takeHr (i := 2) (d := some 40) (v := ?v45) rfl rfl (by kernel_rfl) (by kernel_rfl) (by kernel_rfl) (fun _ _ _ h => h) (Or.inl ⟨by rfl, ?hy45⟩) hHeld ?rest45
              case hy45 => intro X hSw; obtain ⟨g1, g2, g3⟩ := hSw; go_simp <;> with_reducible rfl
              try simp only [Act.put, List.setIfInBounds_toArray, List.set_cons_zero, List.set_cons_succ]
              refine takeHr (i := 3) (d := some 41) (v := ?v46) rfl rfl (by kernel_rfl) (by kernel_rfl) (by kernel_rfl) (fun _ _ _ h => h) (Or.inl ⟨by rfl, ?hy46⟩) hHeld ?rest46
              case hy46 => intro X hSw; obtain ⟨g1, g2, g3⟩ := hSw; go_simp <;> with_reducible rfl
              try simp only [Act.put, List.setIfInBounds_toArray, List.set_cons_zero, List.set_cons_succ]
              refine takeHr (i := 4) (d := some 42) (v := ?v47) rfl rfl (by kernel_rfl) (by kernel_rfl) (by kernel_rfl) (fun _ _ _ h => h) (Or.inl ⟨by rfl, ?hy47⟩) hHeld ?rest47
              case hy47 => intro X hSw; obtain ⟨g1, g2, g3⟩ := hSw; go_simp <;> with_reducible rfl
              try simp only [Act.put, List.setIfInBounds_toArray, List.set_cons_zero, List.set_cons_succ]
              refine takeHr (i := 5) (d := some 43) (v := ?v48) rfl rfl (by kernel_rfl) (by kernel_rfl) (by kernel_rfl) (fun _ _ _ h => h) (Or.inl ⟨by rfl, ?hy48⟩) hHeld ?rest48
              case hy48 => intro X hSw; obtain ⟨g1, g2, g3⟩ := hSw; go_simp <;> with_reducible rfl
              try simp only [Act.put, List.setIfInBounds_toArray, List.set_cons_zero, List.set_cons_succ]
              refine takeHr (i := 7) (d := some 45) (v := ?v49) rfl rfl (by kernel_rfl) (by kernel_rfl) (by kernel_rfl) (fun _ _ _ h => h) (Or.inl ⟨by rfl, ?hy49⟩) hHeld ?rest49
              case hy49 => intro X hSw; obtain ⟨g1, g2, g3⟩ := hSw; go_simp <;> with_reducible rfl
              try simp only [Act.put, List.setIfInBounds_toArray, List.set_cons_zero, List.set_cons_succ]
              refine takeHr (i := 8) (d := some 46) (v := ?v50) rfl rfl (by kernel_rfl) (by kernel_rfl) (by kernel_rfl) (fun _ _ _ h => h) (Or.inl ⟨by rfl, ?hy50⟩) hHeld ?rest50
              case hy50 => intro X hSw; obtain ⟨g1, g2, g3⟩ := hSw; go_simp <;> with_reducible rfl
              try simp only [Act.put, List.setIfInBounds_toArray, List.set_cons_zero, List.set_cons_succ]
              refine wpAnyH_ready (rs := [6]) (by kernel_rfl) (by simp) ?_
              refine AllReadyH.cons (o := { dst := some 44, op := Op.call { callee := Callee.value (Operand.func 68), args := #[Operand.tmp 43], argTypes := #[9] }, type := 9, pos := "drive.go:59", after := #[{ on := 5, ground := Ground.data }], guard := none }) rfl (fun Kq hKq => ?_) AllReadyH.nil
              · go_simp
                refine (clone_any x.1 (by omega) _).mono ?_
                rintro e w51x ⟨rfl, hb51⟩
                replace HBc := (show Hid _ from bt HBc.out hb51)
                refine hKq.out _ _ ⟨cell_below hHeld.1 hb51, cell_below hHeld.2.1 hb51, cell_below hHeld.2.2 hb51⟩ (fun hHeld => ?_)
                clear hKq Kq
                try simp only [Act.put, List.setIfInBounds_toArray, List.set_cons_zero, List.set_cons_succ]
                refine wpAnyH_ready (rs := [9]) (by kernel_rfl) (by simp) ?_
                refine AllReadyH.cons (o := { dst := some 47, op := Op.call { callee := Callee.value (Operand.func 67), args := #[Operand.tmp 46], argTypes := #[26] }, type := 26, pos := "drive.go:59", after := #[{ on := 8, ground := Ground.data }, { on := 6, ground := Ground.chain }], guard := none }) rfl (fun Kq hKq => ?_) AllReadyH.nil
                · go_simp
                  refine (cloneTv (T4.out.below HBc.out) HZ.out).mono ?_
                  rintro e w52x ⟨p9, n9, c9, rfl, hO9, hb52⟩
                  obtain rfl : n9 = x.2.length := ob_len hO9
                  have HO := (show Hid (Ob w52x w4.heap.size (.slice p9 x.2.length c9) x.2) from ob_up hO9 HBc.out.size)
                  replace HBc := (show Hid _ from bt HBc.out hb52)
                  clear hO9
                  refine hKq.out _ _ ⟨cell_below hHeld.1 hb52, cell_below hHeld.2.1 hb52, cell_below hHeld.2.2 hb52⟩ (fun hHeld => ?_)
                  clear hKq Kq
                  try simp only [Act.put, List.setIfInBounds_toArray, List.set_cons_zero, List.set_cons_succ]
                  refine wpAnyH_ready (rs := [10]) (by kernel_rfl) (by simp) ?_
                  refine AllReadyH.cons (o := { dst := some 48, op := Op.call { callee := Callee.value (Operand.func 57), args := #[Operand.tmp 47], argTypes := #[26] }, type := 94, pos := "drive.go:59", after := #[{ on := 9, ground := Ground.data }, { on := 9, ground := Ground.chain }], guard := none }) rfl (fun Kq hKq => ?_) AllReadyH.nil
                  · go_simp
                    refine (safeBody_gb _ _ _ _).mono ?_
                    rintro e w53x ⟨rfl, hG9, hb53⟩
                    have HG9 := (show Hid (_ = _ ∧ w4.heap.size ≤ w52x.heap.size) from ⟨hG9, HBc.out.size⟩)
                    replace HO := (show Hid (Ob w53x w4.heap.size (.slice p9 x.2.length c9) x.2) from own_below HO.out hb53)
                    replace HBc := (show Hid _ from bt HBc.out hb53)
                    clear hG9
                    refine hKq.out _ _ ⟨cell_below hHeld.1 hb53, cell_below hHeld.2.1 hb53, cell_below hHeld.2.2 hb53⟩ (fun hHeld => ?_)
                    clear hKq Kq
                    try simp only [Act.put, List.setIfInBounds_toArray, List.set_cons_zero, List.set_cons_succ]
                    refine wpAnyH_ready (rs := [11]) (by kernel_rfl) (by simp) ?_
                    refine AllReadyH.cons (o := { dst := none, op := Op.mapUpdate 86 (Operand.tmp 41) (Operand.tmp 44) (Operand.tmp 48), type := 0, pos := "drive.go:59", after := #[{ on := 3, ground := Ground.data }, { on := 6, ground := Ground.data }, { on := 10, ground := Ground.data }, { on := 10, ground := Ground.chain }, { on := 0, ground := Ground.phase }, { on := 1, ground := Ground.phase }, { on := 2, ground := Ground.phase }, { on := 3, ground := Ground.phase }, { on := 4, ground := Ground.phase }, { on := 5, ground := Ground.phase }, { on := 6, ground := Ground.phase }, { on := 7, ground := Ground.phase }, { on := 8, ground := Ground.phase }, { on := 9, ground := Ground.phase }, { on := 10, ground := Ground.phase }], guard := none }) rfl (fun Kq hKq => ?_) AllReadyH.nil
                    · skip
                      obtain ⟨w54x, hrun, hB6, hM6, hg6, hsd, hsw⟩ := M4.out.put (by have := hB.out.size; have := B4.out.size; omega) HBc.out x p9 c9 _ HO.out HG9.out.2 HG9.out.1 (by unfold maxLen; omega) MS.out
                      go_simp
                      have HM6 := (show Hid (_ ∧ _) from ⟨hB6, hM6⟩)
                      clear hB6 hM6 hrun
                      refine hKq.out _ _ ⟨cell_grown hHeld.1 hg6 (by have := SNE.out; omega), cell_grown hHeld.2.1 hg6 (by have := SNE.out; omega), cell_grown hHeld.2.2 hg6 (fun e => hsd e.symm)⟩ (fun hHeld => ?_)
                      clear hKq Kq
                      try simp only [Act.put, List.setIfInBounds_toArray, List.set_cons_zero, List.set_cons_succ]
                      refine wpAnyH_done (by kernel_rfl) ?_ _
                      obtain ⟨hd0, hd1, hd2⟩ := hHeld
                      obtain ⟨k1, k2, k3, k4, _, _⟩ := HM6.out.2.cells
                      have WU := (show Hid (0 ≤ (ldn r L k).used ∧ (ldn r L k).used ≤ 140737488355328) from by
                        have h1 := ldn_okl r L k (by omega)
                        have h2 := fsz_le L k
                        have h3 := h1.u0
                        have h4 := h1.u1
                        constructor <;> omega)
                      have WL := (show Hid (x.2.length ≤ 140737488355328) from by
                        have h1 := fsz_take L k (by omega)
                        have h2 := fsz_le L (k + 1)
                        rw [← HX.out] at h1
                        show _ ≤ _
                        omega)
                      have K1 : w54x.cell? ⟨w.heap.size, 1, none⟩ = some (.int .i64 (ldn r L k).used) := k1
                      obtain ⟨us, hus⟩ : ∃ us, us = (ldn r L k).used := ⟨_, rfl⟩
                      rw [← hus] at K1
                      have HU := (show Hid (us = (ldn r L k).used) from hus)
                      obtain ⟨ln, hln⟩ : ∃ ln, ln = x.2.length := ⟨_, rfl⟩
                      rw [← hln] at hd1
                      have HLn := (show Hid (ln = x.2.length) from hln)
                      have wU : wrap64 (us + (ln : Int)) = us + (ln : Int) := by have := WU.out; have := WL.out; rw [hus, hln]; unfold wrap64; omega
                      have H9 := (show Hid _ from HM6.out)
                      clear hus hln k1 k2 k4 hd0 hd2 hg6 hsd hsw
                      go_upto_region 11 with fail
                      go_region
                      go_wp2
                      go_roundw
                      case rel =>
                        refine ⟨k + 1, by omega, by go_num, ?_, ?_, EK⟩
                        · have h9 := (HM6.out.2.use (us + (ln : Int))).below (w' := (w54x.setCell ⟨w.heap.size, 1, none⟩ (.int .i64 (us + (ln : Int)))).drew) ((Below.refl _ _).drew)
                          show LdM _ _ _ _ _
                          rw [ldn_succ r L k (by omega), ← HX.out]
                          rw [HU.out, HLn.out] at h9 ⊢
                          exact h9
                        · have hB6 := HM6.out.1
                          show Below _ _ _
                          exact (((hB.out.trans (B4.out.mono hB.out.size)).trans hB6).setCell (Nat.le_refl _) _).drew
                      case measure => simp [intOf]; omega
      · obtain rfl : n = k := by omega
        have HM := (show Hid (LdM w.heap.size w.heap.size w1.heap.size (ldn r L n) wr) from hM.out)
        obtain ⟨u1, u2, fz1, fz3, ⟨v3, u3⟩, hdl⟩ := hM.out.cells
        have CM := (show Hid (Calls Try.prog 58 #[.map (some w1.heap.size)] wr fun e w' => e = .returned (.map (some wr.heap.size)) ∧ Hid (∃ m rv, StAt wr w.heap.size (ldn r L n).room (ldn r L n).used (some w1.heap.size) none (.slice none 0 0) ∧ Rest wr (fun b => w.heap.size ≤ b ∧ b < wr.heap.size ∧ b ≠ w1.heap.size) (bareD (ldn r L n)) m rv none none (.slice none 0 0) ∧ MpAt wr m w1.heap.size (ldn r L n).st ∧ MpAt w' m wr.heap.size (ldn r L n).st) ∧ Below wr.heap.size wr w') from ldm_clone hM.out)
        have NF := (show Hid (ldr (ldn r L n) (L.drop n) = some { (ldn r L n) with sf := (ldn r L n).st }) from by
          have e : L.drop n = [] := List.drop_eq_nil_of_le (by omega)
          show _ = _
          rw [e]; rfl)
        go_wp2_with (go_at_call 58; refine CM.out.mono ?_; rintro e Y ⟨rfl, hMY, hbY⟩; have y3 := cell_below u3 hbY; have z3 := frz_below fz3 hdl hbY)
        go_ret
        have hD := HM.out.done (ldn_room r L n).2.2 hbY rfl hMY.out
        refine ⟨.inr ⟨_, _, hE.out.trans NF.out, rfl, hD⟩, ?_⟩
        exact (hB.out.trans (hbY.mono hB.out.size)).setCell (Nat.le_refl _) _
  · have hl : Ds.load room L = none := by unfold Ds.load; rw [if_neg hr]
    have NB := (show Hid _ from fun W => new_bad room hr W)
    clear hr
    go_enter Try.func29, Try.ntmps29
    go_wp2_with (go_at_call 36; refine (NB.out _).mono ?_; rintro e w1 ⟨rfl, h9⟩; obtain rfl := h9.symm)
    go_ret
    exact ⟨.inl ⟨hl, rfl⟩, Below.refl _ _⟩
end
end Go.Proofs.Ytaddgmbglhdfdaa
