/-
  'copy' of a whole row, whatever an element's size; matrices under 'But'.
-/
import Derived.Test.YtgokkppojhokbaaBu
import Derived.Laws.CopyOwn
import Derived.Test.YtgokkppojhokbaaKf
import Derived.Deep.RegionHeld3
namespace Go.Proofs.Ytgokkppojhokbaa
open Go.RowKit
theorem run_copy_all {P : Program} (w : World) (dT sT ty elem : TypeId) (sz g dLen dCap : Nat) (a : Addr) (sCap : Nat) (cur : Array Value) (t : TypeId) (cs : List Value)
    (hu : P.underlying dT = some (.slice elem)) (hs : (P.info? elem).map (·.size) = some sz)
    (hg : w.heap[g]? = some (.cells cur t (0, 0))) (hn : cs.length = dLen * sz)
    (hsrc : ∀ j v, cs[j]? = some v → w.cell? (a.add j) = some v) (hfit : cs.length ≤ cur.size) (h1 : ∀ v ∈ cs, v.oneCell' = true) :
    (Builtin.copy_ #[dT, sT] ty #[.slice (some ⟨g, 0, none⟩) dLen dCap, .slice (some a) dLen sCap]).run P w =
      .ok (goInt dLen) (w.setRow g (cs ++ cur.toList.drop cs.length).toArray) := by
  have hl := run_loadCells_list (P := P) w a cs hsrc
  have hst := run_storeCells_at P g 0 t cs 0 cur w hg (by simpa using hfit) h1
  have hm : Nat.min dLen dLen = dLen := Nat.min_self _
  cases hq : P.info? elem with
  | none => simp [hq] at hs
  | some i =>
    have hi : i.size = sz := by simpa [hq] using hs
    simp [Builtin.copy_, run_underlying hu, Builtin.lenOf, Builtin.firstCells, sizeOf, typeInfo, hq, hi, hm, ← hn, hl, hst]
theorem run_copy_no {P : Program} (w : World) (dT sT ty elem : TypeId) (sz : Nat) (d a : Option Addr) (dCap sCap : Nat) (hu : P.underlying dT = some (.slice elem)) (hs : (P.info? elem).map (·.size) = some sz) :
    (Builtin.copy_ #[dT, sT] ty #[.slice d 0 dCap, .slice a 0 sCap]).run P w = .ok (goInt 0) w := by
  cases hq : P.info? elem with
  | none => simp [hq] at hs
  | some i =>
    have hl : ∀ (x : Addr), (loadCells x 0).run P w = .ok #[] w := fun x => by simpa using run_loadCells_list (P := P) w x [] (by simp)
    cases d <;> cases a <;> simp [Builtin.copy_, run_underlying hu, Builtin.lenOf, Builtin.firstCells, sizeOf, typeInfo, hq, storeCells, hl]
theorem But.setRow {g : Nat} {w : World} (cs : Array Value) : But g w (w.setRow g cs) :=
  ⟨below_setRow (Below.refl _ _) (Nat.le_refl _) _, fun k _ hne => setRow_other w g k cs hne, by simp [World.setRow]⟩
theorem But.from {b g : Nat} {w w1 w2 : World} (hb : Below b w w1) (h : But g w1 w2) (hg : b ≤ g) : Below b w w2 := hb.trans (h.bl.mono hg)
/-- A whole row is copied onto a row of the call's own. -/
theorem oper_copy_all {P : Program} {w : World} {o : Oper} {a : Act} {K : Act → World → Prop} {Q : Exit → Act → World → Prop} (d s : Operand) (dT sT : TypeId)
    (ho : o.op = .call { callee := .builtin .copy, args := #[d, s], argTypes := #[dT, sT] }) (elem : TypeId) (hu : P.underlying dT = some (.slice elem)) (sz : Nat) (hsz : (P.info? elem).map (·.size) = some sz)
    (g l n dCap : Nat) (v : Value) (hd : a.eval d = .slice (some ⟨g, 0, none⟩) l dCap) (hs : a.eval s = v) (t : TypeId) (f0 f : Nat → Value) (hn : n = l * sz) (hz : 0 < sz) (hO : Ov w t g f0 n) (hv : Sv w v l f n) (h1 : ∀ i, (f i).oneCell' = true)
    (h : ∀ w', Ov w' t g f n → But g w w' → K (a.put o.dst (goInt l)) w') : Oper.wp P o a w K Q := by
  obtain ⟨p, c, rfl, hv⟩ := hv
  by_cases h0 : l = 0
  · subst h0
    have hrun := run_copy_no (P := P) w dT sT o.type elem sz (some ⟨g, 0, none⟩) p dCap c hu hsz
    unfold Oper.wp
    simp [execOp, ho, resolve, invoke, builtin, hd, hs, hrun, Result.andThen]
    exact (h w (hO.congr (fun i hi => by rw [hn, Nat.zero_mul] at hi; omega)) (But.refl _ _))
  · have hn0 : 0 < n := by rw [hn]; exact Nat.mul_pos (by omega) hz
    rcases hv with hv | ⟨b, off, rfl, hc⟩
    · omega
    · have hrun := run_copy_all (P := P) w dT sT o.type elem sz g l dCap ⟨b, off, none⟩ c (rv f0 n) t (lv f n) hu hsz hO (by rw [lv_len, hn])
        (fun j u hj => by
          have hjn : j < n := by
            rcases Nat.lt_or_ge j n with h | h
            · exact h
            · rw [List.getElem?_eq_none (by rw [lv_len]; exact h)] at hj; cases hj
          rw [lv_at f n j hjn] at hj
          injection hj with hj
          rw [add_pl, hc j hjn, hj])
        (by rw [lv_len, rv_size]; exact Nat.le_refl _) (fun u hu => by
          unfold lv at hu
          obtain ⟨i, _, rfl⟩ := List.mem_map.1 hu
          exact h1 i)
      unfold Oper.wp
      simp [execOp, ho, resolve, invoke, builtin, hd, hs, hrun, Result.andThen]
      refine h _ ?_ (But.setRow _)
      unfold Ov
      rw [setRow_heap w g _ _ t _ hO, lv_len, rv_toList, List.drop_of_length_le (by simp), List.append_nil]
      rfl
theorem wpList_copy_all {P : Program} {w : World} {ops : Array Oper} {rest : List Oper} {o : Oper} {a : Act} {Q : Exit → Act → World → Prop} (hgd : o.guard = none) (d s : Operand) (dT sT : TypeId)
    (ho : o.op = .call { callee := .builtin .copy, args := #[d, s], argTypes := #[dT, sT] }) (elem : TypeId) (hu : P.underlying dT = some (.slice elem)) (sz : Nat) (hsz : (P.info? elem).map (·.size) = some sz)
    (g l n dCap : Nat) (v : Value) (hd : a.eval d = .slice (some ⟨g, 0, none⟩) l dCap) (hs : a.eval s = v) (t : TypeId) (f0 f : Nat → Value) (hn : n = l * sz) (hz : 0 < sz) (hO : Ov w t g f0 n) (hv : Sv w v l f n) (h1 : ∀ i, (f i).oneCell' = true)
    (h : ∀ w', Ov w' t g f n → But g w w' → wpList P ops Q rest (a.put o.dst (goInt l)) w') : wpList P ops Q (o :: rest) a w :=
  wpList_plain hgd fun _ hK => oper_copy_all d s dT sT ho elem hu sz hsz g l n dCap v hd hs t f0 f hn hz hO hv h1 (fun w' h1 h2 => hK _ _ (h w' h1 h2))
theorem step_copy_all {P : Program} {ops : Array Oper} {o : Oper} {a : Act} {w : World} {K : Act → World → Prop} {Q : Exit → Act → World → Prop} {E : Prop} (hgd : o.guard = none) (d s : Operand) (dT sT : TypeId)
    (ho : o.op = .call { callee := .builtin .copy, args := #[d, s], argTypes := #[dT, sT] }) (elem : TypeId) (hu : P.underlying dT = some (.slice elem)) (sz : Nat) (hsz : (P.info? elem).map (·.size) = some sz)
    (g l n dCap : Nat) (v : Value) (hd : a.eval d = .slice (some ⟨g, 0, none⟩) l dCap) (hs : a.eval s = v) (t : TypeId) (f0 f : Nat → Value) (hn : n = l * sz) (hz : 0 < sz) (hO : Ov w t g f0 n) (hv : Sv w v l f n) (h1 : ∀ i, (f i).oneCell' = true)
    (h : ∀ w', Ov w' t g f n → But g w w' → K (a.put o.dst (goInt l)) w') : if Region.wanted o (yielded ops a.tmps) = true then Oper.wp P o a w K Q else E := by
  have hw : Region.wanted o (yielded ops a.tmps) = true := by simp [Region.wanted, hgd]
  rw [if_pos hw]
  exact oper_copy_all d s dT sT ho elem hu sz hsz g l n dCap v hd hs t f0 f hn hz hO hv h1 h
theorem Gr.but {w w' : World} {to te : TypeId} {B r l m : Nat} {ρ : Nat → Nat} {M : Nat → Nat → Value} (h : Gr w to te B r l m ρ M) {a : Nat} (ha : a < r) (hb : But (ρ a) w w') {f : Nat → Value} (ho : Ov w' te (ρ a) f m) : Gr w' to te B r l m ρ (fun i => if i = a then f else M i) :=
  ⟨hb.ov h.out (h.ne a ha).symm, fun i hi => by
    by_cases e : i = a
    · subst e; rw [if_pos rfl]; exact ho
    · rw [if_neg e]; exact hb.ov (h.row i hi) (fun x => e (h.inj i hi a ha x)), h.ne, h.inj⟩
theorem clE_one (f : Nat → BitVec 8) (i : Nat) : (clE f i).oneCell' = true := rfl
theorem clB_one (f : Nat → Bool) (i : Nat) : (clB f i).oneCell' = true := rfl
theorem clF_one (f : Nat → Bool × Bool) (i : Nat) : (clF f i).oneCell' = true := rfl
theorem GmE.but {w w' : World} {B r l : Nat} {ρ : Nat → Nat} {N : Nat → Nat → BitVec 8} (h : GmE w B r l ρ N) {a : Nat} (ha : a < r) (hb : But (ρ a) w w') {f : Nat → BitVec 8} (ho : Ov w' 83 (ρ a) (clE f) l) : GmE w' B r l ρ (fun i => if i = a then f else N i) :=
  Gr.congr (Gr.but h ha hb ho) (fun i _ j _ => by by_cases e : i = a <;> simp [e])
end Go.Proofs.Ytgokkppojhokbaa
/-
  The document's 'Rows'; what both answer.
-/
namespace Go.Proofs.Ytgokkppojhokbaa
open Go.RowKit
/-- No row's number. -/
def bad (r : Nat) (x : Int) : Bool := decide (x < 0) || decide ((r : Int) ≤ x)
def rc (r : Nat) (l : Nat → Nat) (n : Nat) (f : Nat → Int) : Int := if fc r l ≠ 0 then fc r l else if 255 < n then 3 else if anyb (fun i => bad r (f i)) n then 2 else 0
def rn (r : Nat) (l : Nat → Nat) (n : Nat) (f : Nat → Int) : Nat := if rc r l n f = 0 then n else 0
theorem bad_false {r : Nat} {x : Int} (h : bad r x = false) : ∃ q : Nat, x = q ∧ q < r := by
  unfold bad at h
  simp at h
  exact ⟨x.toNat, by omega, by omega⟩
theorem rc_fault {r : Nat} {l : Nat → Nat} (n : Nat) (f : Nat → Int) (h : ¬ fc r l = 0) : rc r l n f = fc r l := by unfold rc; rw [if_pos h]
theorem rc_large {r : Nat} {l : Nat → Nat} {n : Nat} (f : Nat → Int) (h : fc r l = 0) (h2 : 255 < n) : rc r l n f = 3 := by unfold rc; rw [if_neg (by simp [h]), if_pos h2]
theorem rc_bad {r : Nat} {l : Nat → Nat} {n : Nat} {f : Nat → Int} (h : fc r l = 0) (h2 : n ≤ 255) {k : Nat} (hk : k < n) (h3 : bad r (f k) = true) : rc r l n f = 2 := by
  unfold rc; rw [if_neg (by simp [h]), if_neg (by omega), if_pos (anyb_true hk h3)]
theorem rc_ok {r : Nat} {l : Nat → Nat} {n : Nat} {f : Nat → Int} (h : fc r l = 0) (h2 : n ≤ 255) (h3 : ∀ k, k < n → bad r (f k) = false) : rc r l n f = 0 := by
  unfold rc; rw [if_neg (by simp [h]), if_neg (by omega), anyb_false h3]; rfl
theorem rn_err {r : Nat} {l : Nat → Nat} {n : Nat} {f : Nat → Int} (h : ¬ rc r l n f = 0) : rn r l n f = 0 := by unfold rn; rw [if_neg h]
theorem rn_ok {r : Nat} {l : Nat → Nat} {n : Nat} {f : Nat → Int} (h : rc r l n f = 0) : rn r l n f = n := by unfold rn; rw [if_pos h]
theorem rn_le (r : Nat) (l : Nat → Nat) (n : Nat) (f : Nat → Int) : rn r l n f ≤ 255 := by
  by_cases h : rc r l n f = 0
  · rw [rn_ok h]
    unfold rc at h
    by_cases h1 : fc r l = 0
    · rw [if_neg (by simp [h1])] at h
      by_cases h2 : 255 < n
      · rw [if_pos h2] at h; cases h
      · omega
    · rw [if_pos h1] at h; exact absurd h h1
  · rw [rn_err h]; omega
theorem cw_le {r : Nat} {l : Nat → Nat} (h : fc r l = 0) : cw r l ≤ 255 := by
  unfold cw
  by_cases e : r = 0
  · rw [if_pos e]; omega
  · rw [if_neg e]; exact (fc_zero h).2.1 0 (by omega)
theorem cw_row {r : Nat} {l : Nat → Nat} (h : fc r l = 0) {k : Nat} (hk : k < r) : l k = cw r l := by
  unfold cw; rw [if_neg (by omega)]; exact (fc_zero h).2.2 k hk
theorem rn_cw {r : Nat} {l : Nat → Nat} {n : Nat} {f : Nat → Int} {i : Nat} (h : i < rn r l n f) : cw r l ≤ 255 := by
  by_cases h1 : fc r l = 0
  · exact cw_le h1
  · rw [rn_err (by rw [rc_fault n f h1]; exact h1)] at h; omega
theorem run_append_no {P : Program} {w : World} (t ty e : TypeId) (i : TypeInfo) (ht : P.underlying t = some (.slice e)) (hi : P.info? e = some i) (c : Nat) :
    (Builtin.append_ #[t, t] ty #[.slice none 0 0, .slice none 0 c]).run P w = .ok (.slice none 0 0) w := by
  simp [Builtin.append_, run_underlying ht, sizeOf, typeInfo, hi, Builtin.lenOf, Builtin.firstCells]

set_option maxRecDepth 100000 in
theorem wpList_clone_i {w : World} {ops : Array Oper} {rest : List Oper} {o : Oper} {a : Act} {Q : Exit → Act → World → Prop} (hgd : o.guard = none) (s x : Operand) (ho : o.op = .call { callee := .builtin .append, args := #[s, x], argTypes := #[24, 24] })
    (hs : a.eval s = .slice none 0 0) (v : Value) (n : Nat) (f : Nat → Int) (hx : a.eval x = v) (hr : Jr w v n f) (hm : n ≤ 1000)
    (h : ∀ v' w', Ir w' v' n f → Below w.heap.size w w' → wpList Try.prog ops Q rest (a.put o.dst v') w') : wpList Try.prog ops Q (o :: rest) a w := by
  obtain ⟨i0, hi, hz0, hz1, hz2⟩ := info_parts infoI
  obtain ⟨p, c, rfl, hr⟩ := hr
  cases p with
  | none =>
    have hn : n = 0 := by
      rcases hr with e | ⟨b, off, e, _⟩
      · exact e
      · cases e
    subst hn
    refine wpList_plain hgd fun K hK => ?_
    have hrun := run_append_no (P := Try.prog) (w := w) 24 o.type 3 i0 Try.underlying24 hi c
    unfold Oper.wp
    simp [execOp, ho, resolve, invoke, builtin, hs, hx, hrun, Result.andThen]
    exact hK _ _ (h _ w ⟨none, 0, rfl, .inl rfl⟩ (Below.refl _ _))
  | some ad =>
    have S : ∀ j u, (lv (fun j => Value.int .i64 (f j)) n)[j]? = some u → w.cell? (ad.add j) = some u := by
      intro j u hu
      have hjn : j < n := by
        rcases Nat.lt_or_ge j n with h | h
        · exact h
        · rw [List.getElem?_eq_none (by rw [lv_len]; exact h)] at hu; cases hu
      rw [lv_at _ n j hjn] at hu
      injection hu with hu
      rcases hr with e | ⟨b, off, e, hc⟩
      · omega
      · injection e with e
        subst e
        rw [add_pl, hc j hjn]; exact congrArg some hu
    refine wpList_append_own _ hgd _ _ 24 ho w.heap.size 3 i0 (.int .i64 0) 1 8 Try.underlying24 hi hz0 hz1 hz2 rfl (by decide) (.slice none 0 0) 0 [] hs (World.ownsRow_nil _ _ _ _) ad n c (lv (fun j => .int .i64 (f j)) n) hx (by rw [lv_len, Nat.mul_one]) S (fun u hu => by unfold lv at hu; obtain ⟨i, _, rfl⟩ := List.mem_map.1 hu; rfl) (by unfold maxLen; omega) (by omega) (Nat.le_refl _) ?_
    intro v' w' ho' hg _
    rw [Nat.zero_add, List.nil_append] at ho'
    exact h v' w' (owns_st1 ho') (below_append (t := 3) (base := w.heap.size) (k := 1) (n := 0) (xs := []) (Below.refl _ _) (Nat.le_refl _) hg (World.ownsRow_nil _ _ _ _) (Nat.le_refl _))
section
attribute [local irreducible] Calls lv Ir Jr fc cw rc rn bad
end
end Go.Proofs.Ytgokkppojhokbaa
/-
  'Rows': the program's.
-/
namespace Go.Proofs.Ytgokkppojhokbaa
open Go.RowKit
section
attribute [local irreducible] Calls fc cw rc rn bad
theorem rowsE_err (p q : Option Addr) (r c1 n c : Nat) (l : Nat → Nat) (f : Nat → Int) (w : World) (LA : Lm w (.slice p r c1) r l) (h : ¬ fc r l = 0 ∨ 255 < n) :
    Calls Try.prog 59 #[.slice p r c1, .slice q n c] w fun e w' => e = .returned (.tuple #[.slice none 0 0, .int .i64 (rc r l n f)]) ∧ Below w.heap.size w w' := by
  have F1 := faultE_any LA
  by_cases h1 : fc r l = 0
  · have h2 : 255 < n := by omega
    have S1 := (show Hid _ from fun w => sizeFault_big (n : Int) (by omega) w)
    rw [rc_large f h1 h2]
    rw [h1] at F1
    go_enter Try.func59, Try.ntmps59
    go_wp2_with (first
      | (go_at_call 55; refine F1.mono ?_; rintro e w' ⟨rfl, h⟩; obtain rfl := h.symm)
      | (go_at_call 49; refine (S1.out _).mono ?_; rintro e w' ⟨rfl, h⟩; obtain rfl := h.symm))
    go_ret2
    exact ⟨rfl, Below.refl _ _⟩
  · rw [rc_fault n f h1]
    have h2 : (fc r l != 0) = true := by simpa using h1
    go_enter Try.func59, Try.ntmps59
    go_wp2_with (first
      | (go_at_call 55; refine F1.mono ?_; rintro e w' ⟨rfl, h⟩; obtain rfl := h.symm))
    go_ret2
    exact ⟨rfl, Below.refl _ _⟩
end
theorem nrE_sv {w : World} {v : Value} {n : Nat} {f : Nat → BitVec 8} (h : NrE w v n f) : Sv w v n (clE f) (n) := h
section
attribute [local irreducible] Calls el Ov GmE fc cw rc rn bad NrE clE
set_option maxHeartbeats 8000000 in
set_option maxRecDepth 1000000 in
theorem rowsE_core (p q : Option Addr) (n c : Nat) (f : Nat → Int) (r c1 : Nat) (l : Nat → Nat) (N : Nat → Nat → BitVec 8) (w : World) (hn : n ≤ 255) (HF : Hid (fc r l = 0)) (NA : Hid (NmE w (.slice p r c1) r l N))
    (H0 : Hid (0 < n → ∃ b o, q = some ⟨b, o, none⟩ ∧ ∀ i, i < n → w.cell? ⟨b, o + i, none⟩ = some (.int .i64 (f i)))) :
    Calls Try.prog 59 #[.slice p r c1, .slice q n c] w fun e w' => ∃ v, e = .returned (.tuple #[v, .int .i64 (rc r l n f)]) ∧ NmE w' v (rn r l n f) (fun _ => cw r l) (fun i j => N (f i).toNat j) ∧ Below w.heap.size w w' := by
  have F1 := (show Hid _ from faultE_any (NmE.lm NA.out))
  rw [HF.out] at F1
  have hr1 : r ≤ 255 := (fc_zero HF.out).1
  have C1 := (show Hid _ from columnsE_any (NmE.lm NA.out) (by omega))
  have hc255 : cw r l ≤ 255 := cw_le HF.out
  go_enter Try.func59, Try.ntmps59
  go_wp2_with (first
    | (go_at_call 55; refine F1.out.mono ?_; rintro e w' ⟨rfl, h⟩; obtain rfl := h.symm)
    | (go_at_call 49; refine (sizeFault_ok n hn _).mono ?_; rintro e w' ⟨rfl, h⟩; obtain rfl := h.symm))
  go_loop [26] (fun i => ∃ k : Nat, k ≤ n ∧ i = .int .i64 k ∧ Hid (∀ i, i < k → bad r (f i) = false)) (fun i => n - (intOf i).toNat)
  case atStart => exact ⟨0, Nat.zero_le _, rfl, fun i hi => by omega⟩
  case round =>
    obtain ⟨k, hk, rfl, hG⟩ := hrel
    by_cases hlt : k < n
    · have j1 : (k : Int) < (n : Int) := by omega
      obtain ⟨b, o, eq0, H1⟩ := H0.out (by omega)
      subst eq0
      have g1 := H1 k hlt
      by_cases hbad : bad r (f k) = true
      · have HC : Hid (rc r l n f = 2) := rc_bad HF.out hn hlt hbad
        have HN : Hid (rn r l n f = 0) := rn_err (by rw [HC.out]; decide)
        have HE : Hid (f k < 0 ∨ (¬ f k < 0 ∧ (r : Int) ≤ f k)) := by
          show _ ∨ _
          unfold bad at hbad
          simp at hbad
          omega
        clear hbad H1
        rcases HE.out with e | ⟨e, e2⟩
        · go_wp2
          go_ret2
          exact ⟨_, by rw [HC.out]; rfl, by rw [HN.out]; exact NmE.nil _ _ _, Below.refl _ _⟩
        · go_wp2
          go_ret2
          exact ⟨_, by rw [HC.out]; rfl, by rw [HN.out]; exact NmE.nil _ _ _, Below.refl _ _⟩
      · have hbf : bad r (f k) = false := by simpa using hbad
        clear hbad H1
        obtain ⟨x, ex, hx⟩ := bad_false hbf
        have HG2 : Hid (∀ i, i < k + 1 → bad r (f i) = false) := fun i hi => by
          by_cases e : i = k
          · rw [e]; exact hbf
          · exact hG.out i (by omega)
        have e1 : ¬ f k < 0 := by omega
        have e2 : ¬ (r : Int) ≤ f k := by omega
        clear hbf ex
        go_wp2
        go_round
        case rel => exact ⟨k + 1, by omega, by go_num, HG2⟩
        case measure => simp [intOf]; omega
    · obtain rfl : k = n := by omega
      have HC : Hid (rc r l k f = 0) := rc_ok HF.out hn hG.out
      have HN : Hid (rn r l k f = k) := rn_ok HC.out
      go_wp2_with (first
        | (go_at_call 56; refine C1.out.mono ?_; rintro e w' ⟨rfl, h⟩; obtain rfl := h.symm)
        | (go_at_call 50; refine (blankxE k (cw r l) (by omega) (by omega) _).mono ?_; rintro e w1 ⟨B, rfl, hG1, hB, hb⟩))
      have hG0 : GmE w1 B k (cw r l) (fun i => B + 1 + i) (fun i j => if i < 0 then N (f i).toNat j else oE) := hG1.congr (fun i _ j _ => by rw [if_neg (by omega)])
      have HG0 := (show Hid _ from hG0)
      have HB0 := (show Hid _ from hb)
      clear hG1 hG0 hb
      go_loopw [46] (fun i wr => ∃ t : Nat, t ≤ k ∧ i = .int .i64 t ∧ GmE wr B k (cw r l) (fun i => B + 1 + i) (fun i j => if i < t then N (f i).toNat j else oE) ∧ Below w.heap.size w wr) (fun i _ => k - (intOf i).toNat)
      case atStart => exact ⟨0, Nat.zero_le _, rfl, HG0.out, HB0.out⟩
      case round =>
        clear HG0 HB0
        obtain ⟨t, ht, rfl, hG1, hb⟩ := hrel
        by_cases hlt2 : t < k
        · have j1 : (t : Int) < (k : Int) := by omega
          obtain ⟨b, o, eq0, H1⟩ := H0.out (by omega)
          subst eq0
          obtain ⟨x, ex, hx⟩ := bad_false (hG.out t hlt2)
          have g1 := cell_below (H1 t hlt2) hb
          rw [ex] at g1
          have e3 : (x : Int) < (r : Int) := by omega
          obtain ⟨rowsA, hSv, hRA⟩ := NA.out
          obtain ⟨bA, oA, cA, eA, hcA⟩ := hSv.cells (by omega)
          injection eA with eA _ eA2
          subst eA eA2
          have g2 := cell_below (hcA x hx) hb
          have g3 := hG1.out hlt2
          have hnr := NrE.below (hRA x hx) (hb.drew)
          rw [cw_row HF.out hx] at hnr
          have r2 : Hid (Sv wr.drew (rowsA x) (cw r l) (clE (N x)) (cw r l)) := nrE_sv hnr
          have hGd : Hid (GmE wr.drew B k (cw r l) (fun i => B + 1 + i) (fun i j => if i < t then N (f i).toNat j else oE)) := hG1.below (bdr _)
          have hOd := (show Hid _ from hGd.out.ov hlt2)
          have HE : Hid ((f t).toNat = x) := by show _ = _; rw [ex]; simp
          have KS := (show Hid (_ ∧ _) from ⟨cell_below g3 (bdr _), cell_below g2 (bdr _)⟩)
          have n1 : ¬ B = B + 1 + t := by omega
          have n2 : ¬ bA = B + 1 + t := by have := block_lt_of_cell (hcA x hx); simp only at this; omega
          have HB9 := (show Hid _ from hb.drew)
          clear ex hSv hRA hcA hnr hG1 hb H1
          go_wp2
          go_region_held3 (fun W => W.cell? ⟨B, t, none⟩ = some (.slice (some ⟨B + 1 + t, 0, none⟩) (cw r l) (cw r l)) ∧ W.cell? ⟨bA, oA + x, none⟩ = some (rowsA x)) (first | exact KH.out | exact KS.out | go_keep)
            (first | (refine step_copy_all rfl _ _ 84 84 rfl 83 Try.underlying84 1 (by kernel_rfl) (B + 1 + t) (cw r l) (cw r l) _ _ rfl rfl 83 _ (clE (N x)) (by omega) (by omega) hOd.out r2.out (clE_one _) ?_; intro w2 hO2 hB2; have KH := (show Hid (_ ∧ _) from ⟨hB2.cell KS.out.1 n1, hB2.cell KS.out.2 n2⟩)))
          all_goals
            go_wp2
            go_roundw
            case rel =>
              refine ⟨t + 1, by omega, by go_num, (GmE.but hGd.out hlt2 hB2 hO2).congr (fun i _ j _ => ?_), But.from HB9.out hB2 (by omega)⟩
              by_cases e : i = t
              · subst e; rw [if_pos rfl, if_pos (by omega), HE.out]
              · rw [if_neg e]
                by_cases e2 : i < t
                · rw [if_pos e2, if_pos (by omega)]
                · rw [if_neg e2, if_neg (by omega)]
            case measure => simp [intOf]; omega
        · obtain rfl : t = k := by omega
          go_wp2
          go_ret2
          have hG2 : GmE wr B t (cw r l) (fun i => B + 1 + i) (fun i j => N (f i).toNat j) := hG1.congr (fun i hi j hj => by rw [if_pos hi])
          exact ⟨_, by rw [HC.out]; rfl, by rw [HN.out]; exact GxE.nm (b := w.heap.size) ⟨B, _, rfl, hG2, hB, fun i hi => by omega⟩, hb⟩
end
theorem rowsE_any {w : World} {v1 v2 : Value} {r n : Nat} {l : Nat → Nat} {N : Nat → Nat → BitVec 8} {f : Nat → Int} (h1 : NmE w v1 r l N) (h2 : Jr w v2 n f) :
    Calls Try.prog 59 #[v1, v2] w fun e w' => ∃ v, e = .returned (.tuple #[v, .int .i64 (rc r l n f)]) ∧ NmE w' v (rn r l n f) (fun _ => cw r l) (fun i j => N (f i).toNat j) ∧ Below w.heap.size w w' := by
  obtain ⟨p, c1, e1⟩ := (show ∃ p c, v1 = .slice p r c from by obtain ⟨rows, h, _⟩ := h1; exact h.form)
  subst e1
  obtain ⟨q, c, rfl, h2⟩ := h2
  by_cases hf : fc r l = 0
  · by_cases hn : 255 < n
    · have hc : ¬ rc r l n f = 0 := by rw [rc_large f hf hn]; decide
      exact (rowsE_err p q r c1 n c l f w (NmE.lm h1) (.inr hn)).mono fun e w' ⟨he, hb⟩ => ⟨_, he, by rw [rn_err hc]; exact NmE.nil _ _ _, hb⟩
    · refine rowsE_core p q n c f r c1 l N w (by omega) hf h1 (fun h0 => ?_)
      rcases h2 with h2 | h2
      · omega
      · exact h2
  · have hc : ¬ rc r l n f = 0 := by rw [rc_fault n f hf]; exact hf
    exact (rowsE_err p q r c1 n c l f w (NmE.lm h1) (.inl hf)).mono fun e w' ⟨he, hb⟩ => ⟨_, he, by rw [rn_err hc]; exact NmE.nil _ _ _, hb⟩
section
attribute [local irreducible] Calls fc cw rc rn bad
end
theorem nrB_sv {w : World} {v : Value} {n : Nat} {f : Nat → Bool} (h : NrB w v n f) : Sv w v n (clB f) (n) := h
section
attribute [local irreducible] Calls el Ov fc cw rc rn bad NrB clB
end
section
attribute [local irreducible] Calls fc cw rc rn bad
end
theorem nrF_sv {w : World} {v : Value} {n : Nat} {f : Nat → (Bool × Bool)} (h : NrF w v n f) : Sv w v n (clF f) (n * 2) := h
section
attribute [local irreducible] Calls el Ov fc cw rc rn bad NrF clF
end
end Go.Proofs.Ytgokkppojhokbaa
