/-
  What DriveBetween is handed; the acts of its way in memory.
-/
import Derived.Test.YtaddgmbglhdfdaaKz11
namespace Go.Proofs.Ytaddgmbglhdfdaa
open Go.RowKit Go.Maps Go.Sort
/-- A Change. -/
def chC (how room : Int) (fv av : Value) (x y : Tx) (dv : Value) (dn : Int) (qv rv : Value) : Array Value := #[.int .i64 how, .int .i64 room, fv, av, encStr x, encStr y, dv, .int .i64 dn, qv, rv]
theorem ch_c {w : World} {g : Nat} {t : TypeId} {how room : Int} {fv av : Value} {x y : Tx} {dv : Value} {dn : Int} {qv rv : Value} (h : GB w g t (chC how room fv av x y dv dn qv rv)) : w.cell? ⟨g, 2, none⟩ = some fv ∧ w.cell? ⟨g, 3, none⟩ = some av ∧ w.cell? ⟨g, 4, none⟩ = some (encStr x) ∧ w.cell? ⟨g, 5, none⟩ = some (encStr y) ∧ w.cell? ⟨g, 6, none⟩ = some dv ∧ w.cell? ⟨g, 7, none⟩ = some (.int .i64 dn) ∧ w.cell? ⟨g, 8, none⟩ = some qv := ⟨h.cell 2, h.cell 3, h.cell 4, h.cell 5, h.cell 6, h.cell 7, h.cell 8⟩
theorem ch_start {w : World} {g : Nat} {t : TypeId} {how room : Int} {fv av : Value} {x y : Tx} {dv : Value} {dn : Int} {qv rv : Value} (h : GB w g t (chC how room fv av x y dv dn qv rv)) : (loadVar 24 ⟨g, 0, none⟩).run Try.prog w = .ok (.agg (stC how room fv)) w := by
  refine run_loadVar_at (P := Try.prog) w g 0 24 (stC how room fv) _ (fun j v hj => ?_) Try.underlying24 rfl (by unfold stC; kernel_rfl)
  unfold stC at hj
  match j, hj with
  | 0, hj => simp at hj; subst hj; exact h.cell 0
  | 1, hj => simp at hj; subst hj; exact h.cell 1
  | 2, hj => simp at hj; subst hj; exact h.cell 2
  | j + 3, hj => simp at hj
theorem ch_fate {w : World} {g : Nat} {t : TypeId} {how room : Int} {fv av : Value} {x y : Tx} {dv : Value} {dn : Int} {qv rv : Value} (h : GB w g t (chC how room fv av x y dv dn qv rv)) : (loadVar 30 ⟨g, 8, none⟩).run Try.prog w = .ok (.agg (ftC qv rv)) w := by
  refine run_loadVar_at (P := Try.prog) w g 8 30 (ftC qv rv) _ (fun j v hj => ?_) Try.underlying30 rfl (by unfold ftC; exact size_Ft)
  unfold ftC at hj
  match j, hj with
  | 0, hj => simp at hj; subst hj; exact h.cell 8
  | 1, hj => simp at hj; subst hj; exact h.cell 9
  | j + 2, hj => simp at hj
/-- What DriveBetween is handed. -/
structure ChAt (w : World) (p : Option Addr) (n : Nat) (nm' dt : Nat → Tx) (pa : Option Addr) (LA : List Atp) (x y : Tx) (pd : Option Addr) (d : Tx) (qd : Option Addr) (dirs : List Bool) (qc : Option Addr) (cuts : List Int) : Prop where
  fl : FlIn w p nm' dt n
  fz : fsz (fls nm' dt n) ≤ 1048576
  fx : ∀ i, i < n → (nm' i).length ≤ 134217728
  fn : n ≤ 134217728
  ac : AcsAt w pa LA
  az : aesz LA ≤ 4194304
  an : LA.length ≤ 1048576
  xn : x.length ≤ 1048576
  yn : y.length ≤ 1048576
  rd : Rx w pd d
  dn : d.length ≤ 1048576
  bq : Bls w qd dirs
  bn : dirs.length ≤ 1048576
  iq : Ils w qc cuts
  iN : cuts.length ≤ 1048576
  ib : ∀ b o, qc = some ⟨b, o, none⟩ → 0 < cuts.length → b < w.heap.size
/-- The five acts, as cells. -/
def wayC (x y : Tx) (dv : Value) : Array Value := #[.int .i64 0, encStr x, .string ⟨#[]⟩, .int .i64 0, .slice none 0 0, .slice none 0 0, .slice none 0 0, .int .i64 1, encStr x, .string ⟨#[]⟩, .int .i64 0, dv, .slice none 0 0, .slice none 0 0, .int .i64 2, encStr x, .string ⟨#[]⟩, .int .i64 0, .slice none 0 0, .slice none 0 0, .slice none 0 0, .int .i64 3, encStr x, encStr y, .int .i64 0, .slice none 0 0, .slice none 0 0, .slice none 0 0, .int .i64 5, .string ⟨#[]⟩, .string ⟨#[]⟩, .int .i64 0, .slice none 0 0, .slice none 0 0, .slice none 0 0]
theorem way_svn {w : World} {g : Nat} {x y d : Tx} {pd : Option Addr} {cd : Nat} (h : GB w g 46 (wayC x y (.slice pd d.length cd))) : ∀ k (hk : k < (SLs x y d pd cd).length), Svn w g (0 + k * 7) (SLs x y d pd cd)[k].1 (SLs x y d pd cd)[k].2.1
  | 0, _ => ⟨h.cell 0, h.cell 1, h.cell 2, h.cell 3, h.cell 4, h.cell 5, h.cell 6⟩
  | 1, _ => ⟨h.cell 7, h.cell 8, h.cell 9, h.cell 10, h.cell 11, h.cell 12, h.cell 13⟩
  | 2, _ => ⟨h.cell 14, h.cell 15, h.cell 16, h.cell 17, h.cell 18, h.cell 19, h.cell 20⟩
  | 3, _ => ⟨h.cell 21, h.cell 22, h.cell 23, h.cell 24, h.cell 25, h.cell 26, h.cell 27⟩
  | 4, _ => ⟨h.cell 28, h.cell 29, h.cell 30, h.cell 31, h.cell 32, h.cell 33, h.cell 34⟩
  | k + 5, hk => absurd hk (by simp [SLs])
theorem way_at {w : World} {x y d : Tx} {pd : Option Addr} {cd : Nat} (hx : x.length ≤ 134217728) (hy : y.length ≤ 134217728) (hd : Rx w pd d) (hn : d.length ≤ 134217728) : ∀ k (hk : k < (SLs x y d pd cd).length), AcAt w (SLs x y d pd cd)[k].2.1 (SLs x y d pd cd)[k].2.2 := by
  have h0 : ∀ u v : Tx, u.length ≤ 134217728 → v.length ≤ 134217728 → AcAt w (sAc u v none 0 0) ⟨[], [], []⟩ := fun u v h1 h2 => ⟨.inl rfl, rfl, fun i hi => absurd hi (Nat.not_lt_zero _), rfl, fun i hi => absurd hi (Nat.not_lt_zero _), rfl, h1, h2, Nat.zero_le _, Nat.zero_le _, Nat.zero_le _⟩
  intro k hk
  match k, hk with
  | 0, _ => exact h0 _ _ hx (Nat.zero_le _)
  | 1, _ => exact ⟨hd, rfl, fun i hi => absurd hi (Nat.not_lt_zero _), rfl, fun i hi => absurd hi (Nat.not_lt_zero _), rfl, hx, Nat.zero_le _, hn, Nat.zero_le _, Nat.zero_le _⟩
  | 2, _ => exact h0 _ _ hx (Nat.zero_le _)
  | 3, _ => exact h0 _ _ hx hy
  | 4, _ => exact h0 _ _ (Nat.zero_le _) (Nat.zero_le _)
  | k + 5, hk => exact absurd hk (by simp [SLs])
theorem aez_way (x y d : Tx) (pd : Option Addr) (cd : Nat) : ∀ k (hk : k < (SLs x y d pd cd).length), aez (SLs x y d pd cd)[k] ≤ 2 + d.length
  | 0, _ => Nat.le_add_right _ _
  | 1, _ => Nat.le_refl _
  | 2, _ => Nat.le_add_right _ _
  | 3, _ => Nat.le_add_right _ _
  | 4, _ => Nat.le_add_right _ _
  | k + 5, hk => absurd hk (by simp [SLs])
/-- The way's literal. -/
theorem way_bs (x y : Tx) (dv : Value) (w : World) : (Instr.buildSlice 25 5 #[(0, .agg #[.int .i64 0, encStr x, .string ⟨#[]⟩, .int .i64 0, .slice none 0 0, .slice none 0 0, .slice none 0 0]), (1, .agg #[.int .i64 1, encStr x, .string ⟨#[]⟩, .int .i64 0, dv, .slice none 0 0, .slice none 0 0]), (2, .agg #[.int .i64 2, encStr x, .string ⟨#[]⟩, .int .i64 0, .slice none 0 0, .slice none 0 0, .slice none 0 0]), (3, .agg #[.int .i64 3, encStr x, encStr y, .int .i64 0, .slice none 0 0, .slice none 0 0, .slice none 0 0]), (4, .agg #[.int .i64 5, .string ⟨#[]⟩, .string ⟨#[]⟩, .int .i64 0, .slice none 0 0, .slice none 0 0, .slice none 0 0])]).run Try.prog w = .ok (.slice (some ⟨w.heap.size, 0, none⟩) 5 5) (w.alloc (.cells (wayC x y dv) 46)) := by
  unfold wayC
  kernel_rfl
theorem crf_take (σ : Ds) (dirs : List Bool) (m : Nat) : ∀ k, k ≤ m → crf σ (dirs.take m) k = crf σ dirs k
  | 0, _ => rfl
  | k + 1, hk => by
    have e : (dirs.take m).getD k false = dirs.getD k false := by
      simp only [List.getD, List.getElem?_take]
      rw [if_pos (by omega)]
    rw [crf_succ, crf_succ, crf_take σ dirs m k (by omega), e]
theorem cr1_take (σ : Ds) (dirs : List Bool) : cr1 σ (dirs.take σ.pend.length) = cr1 σ dirs := by
  unfold cr1
  rw [crf_take σ dirs _ _ (Nat.le_refl _)]
theorem cnt_q {τ : Ds} (hw : Wfd τ) (hi : Iv τ) (dirs : List Bool) (cuts : List Int) (y : Tx) : cnt (tol (τ.crash (dirs.take τ.pend.length) cuts) (·.data) (τ.crash (dirs.take τ.pend.length) cuts).st) y = cnt (crl (cr1 τ dirs) cuts) y := by
  have hcw := crash_cw (dirs.take τ.pend.length) cuts (hi.crf _ _ (Nat.le_refl _)).1 (crf_lt hw hi _ _ (Nat.le_refl _))
  have ht : tol (τ.crash (dirs.take τ.pend.length) cuts) (·.data) (τ.crash (dirs.take τ.pend.length) cuts).st = crl (cr1 τ (dirs.take τ.pend.length)) cuts := hcw.tol _ (fun _ => rfl)
  rw [ht, cr1_take]
theorem nms_few {m : Nat} {τ : Ds} (h : Sn m τ) (hi : Iv τ) (dirs : List Bool) : (nms (cr1 τ dirs).sf).length ≤ m := by
  obtain ⟨h1, h2⟩ := h.crf hi.td.t dirs _ (Nat.le_refl _)
  have h3 := h.sz
  have h4 := size_nms' h1
  show (nms (crf τ dirs τ.pend.length)).length ≤ m
  omega
theorem getD_rep (N : Nat) (z : Int) (j : Nat) (h : j < N) : (List.replicate N z).getD j 0 = z := by simp [List.getD, h]
/-- Two things that a list of files has are alike where they look alike. -/
theorem opt_ne {a b : Option Tx} (h : a ≠ b) : a.getD [] ≠ b.getD [] ∨ a.isSome ≠ b.isSome := by
  cases a with
  | none =>
    cases b with
    | none => exact absurd rfl h
    | some z => exact .inr (by simp)
  | some z =>
    cases b with
    | none => exact .inr (by simp)
    | some z' => exact .inl (fun e => h (by simp only [Option.getD_some] at e; rw [e]))
theorem own_ils {w : World} {base : Nat} {p : Option Addr} {c n : Nat} {zs : List Int} (h : w.ownsRow base 3 1 (.slice p n c) n (zs.map inv6)) (hn : zs.length = n) : Ils w p zs := by
  intro i hi
  obtain ⟨g, cg, cur, hp, _, hc⟩ := own_cell h i (by omega)
  injection hp with hp
  refine ⟨g, 0, hp, ?_⟩
  rw [Nat.zero_add, hc]
  simp only [List.getD, List.getElem?_map, List.getElem?_eq_getElem hi]
  rfl
theorem own_bls {w : World} {base : Nat} {p : Option Addr} {c n : Nat} {zs : List Bool} (h : w.ownsRow base 4 1 (.slice p n c) n (zs.map bov)) (hn : zs.length = n) (m : Nat) : Bls w p (zs.take m) := by
  intro i hi
  rw [List.length_take] at hi
  have hi2 : i < zs.length := by omega
  obtain ⟨g, cg, cur, hp, _, hc⟩ := own_cell h i (by omega)
  injection hp with hp
  refine ⟨g, 0, hp, ?_⟩
  rw [Nat.zero_add, hc]
  simp only [List.getD, List.getElem?_map, List.getElem?_take, List.getElem?_eq_getElem hi2, if_pos (show i < m by omega)]
  rfl
theorem own_base {w : World} {base : Nat} {te : TypeId} {p : Option Addr} {c n : Nat} {xs : List Value} (h : w.ownsRow base te 1 (.slice p n c) n xs) {b o : Nat} (e : p = some ⟨b, o, none⟩) : base ≤ b ∧ b < w.heap.size := by
  subst e
  rcases h.2 with ⟨hv, _⟩ | ⟨g', cap, c', hv, h1, hh, _⟩
  · cases hv
  · injection hv with e1
    injection e1 with e1
    injection e1 with e1
    subst e1
    exact ⟨h1, blt hh⟩
/-- A call of the way. -/
theorem Dv.way {w2 w7 X : World} {F : Nat → Prop} {db k : Nat} {τ : Ds} {x y d : Tx} {pd : Option Addr} {cd : Nat} (j : Nat) (hj : j < (SLs x y d pd cd).length) (h : Dv w2 w7 F db k (Wy τ x y d j) X) (hk : k ≤ 134217728) (hA : AcAt w2 (SLs x y d pd cd)[j].2.1 (SLs x y d pd cd)[j].2.2) : Calls Try.prog 18 #[.pointer (some ⟨db, 0, none⟩), .agg ((SLs x y d pd cd)[j].2.1.v (SLs x y d pd cd)[j].1)] X fun e w' => (∃ u1 u2 u3 u4, ((anC (.int .i64 (Wc τ x y d j : Int)) u1 u2 u3 u4).all fun x => x.oneCell') = true ∧ e = .returned (.tuple #[.agg (anC (.int .i64 (Wc τ x y d j : Int)) u1 u2 u3 u4), .bool true])) ∧ Dv w2 w7 F db (k + (2 + d.length)) (Wy τ x y d (j + 1)) w' := by
  refine (h.do1 hk _ hA).mono ?_
  have e9 := wy_step τ x y d pd cd j hj
  rintro e w' ⟨h1, h2⟩
  rw [e9] at h1
  refine ⟨h1, ?_⟩
  have h3 : (Wy τ x y d j).step (SLs x y d pd cd)[j] = Wy τ x y d (j + 1) := by
    show (Ds.act _ _ _ _ _ _).2 = _
    rw [e9]
  rw [h3] at h2
  exact h2.more (by have := aez_way x y d pd cd j hj; omega)
theorem sls_len (x y d : Tx) (pd : Option Addr) (cd : Nat) : (SLs x y d pd cd).length = 5 := rfl
/-- Where the first calls of the way have come to. -/
structure Wl (w2 w7 : World) (F : Nat → Prop) (db k5 : Nat) (τ : Ds) (x y d : Tx) (dn : Int) (s : Nat) (X : World) : Prop where
  dv : Dv w2 w7 F db (k5 + s * (2 + d.length)) (Wy τ x y d s) X
  co : ∀ j, j < s → Wc τ x y d j = 0
  le : s = 0 ∨ (s : Int) ≤ dn
theorem Wl.below {w2 w7 X X' : World} {F : Nat → Prop} {db k5 : Nat} {τ : Ds} {x y d : Tx} {dn : Int} {s : Nat} (h : Wl w2 w7 F db k5 τ x y d dn s X) (hb : Below X.heap.size X X') : Wl w2 w7 F db k5 τ x y d dn s X' := ⟨h.dv.below hb, h.co, h.le⟩
end Go.Proofs.Ytaddgmbglhdfdaa
