/-
  Arm: a range over a function.
-/
import Derived.Test.YtjobaeopokfekaaGreatWb
import Derived.RangeFuncNested
import Derived.RangeFuncBound
import Derived.RangeFuncCalls
import Derived.RangeFuncLeaves
import Derived.Shelf.Abstract
import Derived.Shelf.RegionOpen
import Derived.WalkKit
import Derived.OwnWalkIn
import Derived.TacticsInMore
import Derived.LoopNIn
import Derived.LoopIn
import Derived.Maps.OwnIn
import Derived.StillTailTactics
namespace Go.Proofs.YtjobaeopokfekaaGreat
open Go.RowKit Go.Shelf Go.Maps
attribute [local go_sem] Oper.semAt_some
/-- A fault: its call, its kind. -/
abbrev Ft := { p : Int × Int // (Lit.int .i64 p.1).wf = true ∧ (Lit.int .i64 p.2).wf = true }
/-- Faults in memory. -/
def FtAt (W : World) (b : Nat) (fs : List Ft) : Prop := ∀ j (h : j < fs.length), W.cell? ⟨b, j * 2, none⟩ = some (.int .i64 (fs[j]).1.1) ∧ W.cell? ⟨b, j * 2 + 1, none⟩ = some (.int .i64 (fs[j]).1.2)
/-- What has come when k rounds are over: from the last one on. -/
def dnto (fs : List Ft) (k : Nat) : List (Nat × Ft) := (List.range k).filterMap fun j => (fs[fs.length - 1 - j]?).map fun x => (fs.length - 1 - j, x)
theorem dnto_succ {fs : List Ft} {k : Nat} (h : k < fs.length) : dnto fs (k + 1) = dnto fs k ++ [(fs.length - 1 - k, fs[fs.length - 1 - k]'(by omega))] := by
  unfold dnto
  rw [List.range_succ, List.filterMap_append]
  congr 1
  simp [show fs.length - 1 - k < fs.length by omega]
theorem dnto_len {fs : List Ft} : ∀ {k : Nat}, k ≤ fs.length → (dnto fs k).length = k
  | 0, _ => rfl
  | k + 1, h => by rw [dnto_succ (by omega), List.length_append, dnto_len (by omega)]; rfl
section
attribute [local irreducible] Calls
set_option maxRecDepth 1000000 in
set_option maxHeartbeats 2000000 in
theorem back1_in (n : Nat) (hn : 1 ≤ n) (l Bs b cap : Nat) (fs : List Ft) (hreach : fs.length ≤ 10000000000000) (Kp : World → World → Prop) (hKr : ∀ A, Kp A A) (hKt : ∀ {A B C : World}, Kp A B → Kp B C → Kp A C) (hKs : ∀ A B, Kp A B → B.cell? ⟨Bs, 0, none⟩ = A.cell? ⟨Bs, 0, none⟩) (hKf : ∀ A B o, Kp A B → B.cell? ⟨b, o, none⟩ = A.cell? ⟨b, o, none⟩) (J Jx : List (Nat × Ft) → World → Prop)
    (hY : ∀ pre x W, J pre W → pre.length < fs.length → YieldAt Fence.wide (n - 1) Tryz.prog l #[.int .i64 (x.1 : Int), .agg #[.int .i64 x.2.1.1, .int .i64 x.2.1.2]] W fun e W' =>
      (e = .returned (.bool true) ∧ J (pre ++ [x]) W' ∧ Kp W W') ∨ (e = .returned (.bool false) ∧ Jx (pre ++ [x]) W'))
    (W : World) (hBs : W.cell? ⟨Bs, 0, none⟩ = some (.slice (some ⟨b, 0, none⟩) fs.length cap)) (hc : FtAt W b fs) (h0 : J [] W) :
    CallsIn Fence.wide n Tryz.prog 51 #[.func (.yield l) #[] #[], .pointer (some ⟨Bs, 0, none⟩)] W fun e W' => (∃ v, e = .returned v) ∧
      ((∃ ys, ys = dnto fs fs.length ∧ J ys W') ∨ (∃ pre, True ∧ Jx pre W')) := by
  obtain ⟨len, hL⟩ : ∃ len, fs.length = len := ⟨_, rfl⟩
  have HL := (show Hid (fs.length = len) from hL)
  rw [hL] at hBs hreach
  clear hL
  have wl : wrap64 ((len : Int) - 1) = (len : Int) - 1 := by unfold wrap64; omega
  refine callsIn_of_wp Tryz.func51 rfl trivial ?_ rfl
  simp only [Tryz.ntmps51, List.size_toArray, List.length_cons, List.length_nil, Nat.reduceAdd, Nat.reduceSub, Array.replicate_succ, Array.replicate_zero, List.push_toArray, List.append_toArray, List.nil_append, List.cons_append]
  gi_wp2
  gi_loopw [3] (fun i wr => ∃ k : Nat, k ≤ len ∧ i = .int .i64 ((len : Int) - 1 - (k : Int)) ∧ Hid (J (dnto fs k) wr) ∧ Hid (Kp W wr)) (fun i _ => (intOf i + 1).toNat)
  case atStart => exact ⟨0, Nat.zero_le _, by simp, h0, hKr _⟩
  case round =>
    obtain ⟨k, hk, rfl, hJs, hnx⟩ := hrel
    have cB : wr.cell? ⟨Bs, 0, none⟩ = some (.slice (some ⟨b, 0, none⟩) len cap) := (hKs _ _ hnx.out).trans hBs
    by_cases hlt : k < len
    · have hkl : len - 1 - k < fs.length := by rw [HL.out]; omega
      obtain ⟨c1, c2⟩ := hc (len - 1 - k) hkl
      have d1 := (hKf _ _ _ hnx.out).trans c1
      have d2 := (hKf _ _ _ hnx.out).trans c2
      obtain ⟨i, hi⟩ : ∃ i, len - 1 - k = i := ⟨_, rfl⟩
      have ei : (len : Int) - 1 - (k : Int) = (i : Int) := by omega
      have hil : (i : Int) < (len : Int) := by omega
      obtain ⟨x, hx⟩ : ∃ x, fs[len - 1 - k] = x := ⟨_, rfl⟩
      rw [hx, hi] at d1 d2
      have hsn := (show Hid (dnto fs (k + 1) = dnto fs k ++ [(i, x)]) from by
        show _ = _
        rw [dnto_succ (by rw [HL.out]; exact hlt)]
        simp only [HL.out, hi]
        rw [← hx]
        simp only [hi])
      obtain ⟨fn, tmps, assign, body, hy, hR⟩ := hY _ (i, x) wr hJs.out (by rw [dnto_len (by rw [HL.out]; exact hk), HL.out]; exact hlt)
      dsimp only at hy
      clear c1 c2 hx hi hkl hc
      rw [ei]
      have gi : (0 : Int) ≤ (i : Int) := by omega
      have wi : wrap64 ((i : Int) - 1) = (len : Int) - 1 - ((k + 1 : Nat) : Int) := by unfold wrap64; omega
      gi_wp2
      refine hR.mono ?_
      rintro e W3 (⟨rfl, hJ3, hk3⟩ | ⟨rfl, hJx3⟩)
      · gi_wp2
        go_roundw
        case rel => exact ⟨k + 1, by omega, (by simp; omega), (by show J _ _; rw [hsn.out]; exact hJ3), hKt hnx.out hk3⟩
        case measure => simp [intOf]
      · gi_wp2
        refine bodyPost_ret (results_none rfl _ _ _) rfl ?_
        exact ⟨⟨_, rfl⟩, .inr ⟨_, trivial, hJx3⟩⟩
    · obtain rfl : k = len := by omega
      have ek : ¬ (0 : Int) ≤ (k : Int) - 1 - (k : Int) := by omega
      gi_wp2
      go_end0
      exact ⟨⟨_, rfl⟩, .inl (by rw [HL.out]; exact hJs.out)⟩
set_option maxHeartbeats 1000000 in
theorem backward_in (n : Nat) (a : Option Addr) (len cap : Nat) (w : World) :
    CallsIn Fence.wide n Tryz.prog 24 #[.slice a len cap] w fun e w' => e = .returned (.func (.func 51) #[] #[.pointer (some ⟨w.heap.size, 0, none⟩)]) ∧ w' = w.alloc (.cells #[.slice a len cap] 28) := by
  refine callsIn_of_wp Tryz.func24 rfl trivial ?_ rfl
  simp only [Tryz.ntmps24, List.size_toArray, List.length_cons, List.length_nil, Nat.reduceAdd, Nat.reduceSub, Array.replicate_succ, Array.replicate_zero, List.push_toArray, List.append_toArray, List.nil_append, List.cons_append]
  gi_wp2
  go_ret
  exact ⟨rfl, rfl⟩
theorem FtAt.below {n₀ : Nat} {A B : World} {b : Nat} {fs : List Ft} (h : FtAt A b fs) (hb : b < n₀) (k : Below n₀ A B) : FtAt B b fs := fun j hj => ⟨(k.cell (p := ⟨b, j * 2, none⟩) hb).trans (h j hj).1, (k.cell (p := ⟨b, j * 2 + 1, none⟩) hb).trans (h j hj).2⟩
theorem back_stops (n : Nat) (hn : 1 ≤ n) (Bs b cap : Nat) (fs : List Ft) (hreach : fs.length ≤ 10000000000000) (w : World) (Kp : World → World → Prop) (hKr : ∀ A, Kp A A) (hKt : ∀ {A B C : World}, Kp A B → Kp B C → Kp A C) (hKs : ∀ A B, Kp A B → B.cell? ⟨Bs, 0, none⟩ = A.cell? ⟨Bs, 0, none⟩) (hKf : ∀ A B o, Kp A B → B.cell? ⟨b, o, none⟩ = A.cell? ⟨b, o, none⟩) (hBs : Bs < w.heap.size) (hb : b < w.heap.size)
    (hc : w.cell? ⟨Bs, 0, none⟩ = some (.slice (some ⟨b, 0, none⟩) fs.length cap)) (hI : FtAt w b fs) :
    SeqStopsK Fence.wide n Tryz.prog 51 #[.pointer (some ⟨Bs, 0, none⟩)] (fun x : Nat × Ft => #[Value.int .i64 (x.1 : Int), Value.agg #[.int .i64 x.2.1.1, .int .i64 x.2.1.2]]) Kp (fun ys => ys = dnto fs fs.length) (fun _ => True) fs.length w := fun l J Jx W hW _ _ hY h0 => by
  have hc' := (hW.cell (p := ⟨Bs, 0, none⟩) hBs).trans hc
  refine (back1_in n hn l Bs b cap fs hreach Kp hKr hKt hKs hKf J Jx hY W hc' (hI.below hb hW) h0).mono ?_
  rintro e W' ⟨he, h⟩
  exact ⟨he, h⟩
/-- A plan out of faults: the first one of a call is what stays. -/
def plD (xs : List (Nat × Ft)) : DataW Unit := xs.foldl (fun D x => D.put (.int .i64 x.2.1.1) (.lit (.int .i64 x.2.1.2))) (.map [])
theorem plD_snoc (pre : List (Nat × Ft)) (x : Nat × Ft) : plD (pre ++ [x]) = (plD pre).put (.int .i64 x.2.1.1) (.lit (.int .i64 x.2.1.2)) := by simp [plD, List.foldl_append]
end
end Go.Proofs.YtjobaeopokfekaaGreat
/-
  A region that only reads and then writes a map, inside a round.
-/
namespace Go.Proofs.YtjobaeopokfekaaGreat
open Go.RowKit
/-- An operation that calls nothing. -/
def flat (o : Oper) : Prop := match o.op with
  | .move _ => True
  | .nilCheck _ => True
  | .fieldAddr _ _ _ => True
  | .load _ _ => True
  | .mapUpdate _ _ _ _ => True
  | _ => False
theorem flat_shape {P : Program} {o : Oper} (h : flat o) (ρ : Operand → Value) (w : World) : (∃ v w', (execOp ρ o).run P w = .ok (.value v) w') ∨ (∃ w', (execOp ρ o).run P w = .ok .skip w') ∨ ∃ x w', (execOp ρ o).run P w = .halt x w' := by
  unfold flat at h
  unfold execOp
  split at h
  · rename_i x ho
    rw [ho]
    exact .inl ⟨_, _, rfl⟩
  · rename_i x ho
    rw [ho]
    dsimp only
    split
    all_goals first
      | exact .inl ⟨_, _, rfl⟩
      | exact .inr (.inr ⟨_, _, rfl⟩)
      | skip
    split
    all_goals first
      | exact .inl ⟨_, _, rfl⟩
      | exact .inr (.inr ⟨_, _, rfl⟩)
      | skip
    rename_i t' v' _
    simp only [Sem.run_bind]
    cases Sem.run P program w with
    | halt x w1 => exact .inr (.inr ⟨_, _, rfl⟩)
    | ok p w1 =>
      simp only [Result.andThen_ok]
      cases Sem.run P (nilAhead (p.types.size + Made.depth) t' v' _) w1 with
      | halt x w2 => exact .inr (.inr ⟨_, _, rfl⟩)
      | ok q w2 =>
        simp only [Result.andThen_ok]
        split
        · exact .inr (.inr ⟨_, _, rfl⟩)
        · exact .inl ⟨_, _, rfl⟩
  · rename_i t x i ho
    rw [ho]
    simp only [Sem.run_bind, Sem.run_pure]
    cases (Instr.fieldAt t (ρ x) i).run P w with
    | ok v w' => exact .inl ⟨_, _, rfl⟩
    | halt h w' => exact .inr (.inr ⟨_, _, rfl⟩)
  · rename_i t x ho
    rw [ho]
    simp only [Sem.run_bind, Sem.run_pure]
    cases (Instr.loadAt t (ρ x)).run P w with
    | ok v w' => exact .inl ⟨_, _, rfl⟩
    | halt h w' => exact .inr (.inr ⟨_, _, rfl⟩)
  · rename_i t m k v ho
    rw [ho]
    simp only [Sem.run_bind, Sem.run_pure]
    cases (Instr.mapUpdate t (ρ m) (ρ k) (ρ v)).run P w with
    | ok v w' => exact .inr (.inl ⟨_, rfl⟩)
    | halt h w' => exact .inr (.inr ⟨_, _, rfl⟩)
  · exact h.elim
theorem flat_wpIn {F : Fence} {n : Nat} {P : Program} {o : Oper} (h : flat o) {a : Act} {w : World} {K : Act → World → Prop} {Q : Exit → Act → World → Prop} (hw : o.wp P a w K Q) : o.wpIn F n P a w K Q := by
  have nd : ∀ c, o.op ≠ .defer c := by
    intro c e
    unfold flat at h
    rw [e] at h
    exact h
  have na : o.about P w a.eval = none := by
    unfold Oper.about
    unfold flat at h
    split
    · rename_i c e
      rw [e] at h
      exact h.elim
    · rfl
  refine ⟨fun f e => (by rw [na] at e; cases e), ?_⟩
  rw [Oper.semAt_eq _ _ _ nd]
  unfold Oper.wp at hw
  rcases flat_shape (P := P) h a.eval w with ⟨v, w', e⟩ | ⟨w', e⟩ | ⟨x, w', e⟩
  · rw [e] at hw ⊢; exact hw
  · rw [e] at hw ⊢; exact hw
  · rw [e] at hw ⊢
    cases x <;> first | exact hw | exact hw.elim
/-- From whatever order to whatever order in a fence. -/
theorem lift_any {F : Fence} {n : Nat} {P : Program} {md : Region.Mode} {ops : Array Oper} {Q : Exit → Act → World → Prop} (hf : ∀ (i : Nat) o, ops[i]? = some o → flat o) (hno : ¬ LetsOut Q) : ∀ (fuel : Nat) (listed : Array Bool) (a : Act) (w : World), wpAny P md ops Q fuel listed a w → wpAnyIn F n P md ops Q fuel listed a w
  | 0, _, _, _, h => h
  | fuel + 1, listed, a, w, h => by
    refine ⟨h.1, fun i hi => ?_⟩
    have h2 := h.2 i hi
    unfold wpOp at h2
    unfold wpOpIn
    cases ho : ops[i]? with
    | none =>
      rw [ho] at h2
      exact lift_any hf hno fuel _ _ _ h2
    | some o =>
      rw [ho] at h2
      simp only at h2 ⊢
      have fl := hf i o ho
      split
      · rename_i hw
        rw [if_pos hw] at h2
        rcases h2 with h2 | h2
        · exact flat_wpIn fl (Oper.wp_mono (fun a w => lift_any hf hno fuel _ a w) h2)
        · exact absurd h2.2 hno
      · rename_i hw
        rw [if_neg hw] at h2
        refine ⟨fun f e => ?_, lift_any hf hno fuel _ _ _ h2⟩
        unfold Oper.about at e
        unfold flat at fl
        split at e
        · rename_i c e2
          rw [e2] at fl
          exact fl.elim
        · cases e
/-- A region in a fence: a head that only reads, a tail that is forced. -/
theorem wpIn_still_tail {F : Fence} {nF : Nat} {P : Program} {id : Nat} {Q : Exit → Act → World → Prop} {a : Act} {w : World} {l : List Oper} (n : Nat) (hm : P.follows .mixedOrders = true) (hB : Region.lexTailB .any l.toArray n = true) (hf : ∀ (i : Nat) o, l.toArray[i]? = some o → flat o) (hno : ¬ LetsOut Q)
    (h : wpStill P l.toArray { w with drawn := w.drawn + 1 } (fun a' => wpList P l.toArray Q (l.drop n) a' { w with drawn := w.drawn + 1 }) (l.take n) a) : (Code.region id l.toArray true).wpIn F nF P Q a w := by
  refine wpIn_region_any hm (lift_any hf hno _ _ _ _ ?_)
  simp only [Region.lexTailB, Bool.and_eq_true, decide_eq_true_eq] at hB
  obtain ⟨⟨⟨⟨hsel, hn⟩, hs⟩, hc⟩, hlex⟩ := hB
  have hn1 : n < l.length := by simpa using hn
  have hlen : (l.take n).length = n := by simp; omega
  have hrest : (l.drop n).length = l.toArray.size - n := by simp
  have start : HeadInv .any l.toArray n (Array.replicate l.toArray.size false) := ⟨by simp, fun j oj _ hl => (by rw [getD_replicate_false] at hl; cases hl), fun t _ ht => getD_in (by simpa using ht) (getD_replicate_false _ _)⟩
  have head := wpAnyL_lex (md := .any) (g := l.toArray.size - n) hsel hs hc hn (l.take n) 0 _ a (fun j hj => by rw [hlen] at hj; simp [hj]) (by simpa using hlen) start (by rw [hlen]; exact hlex) h
  have all := wpAny_of_head (Q' := Q) (g := l.toArray.size - n) (fun listed a' hL => by
    have t := wpAny_of_seq (md := .any) (Q' := Q) (l.drop n) n listed a' { w with drawn := w.drawn + 1 } (fun j => by simp [List.getElem?_drop]) (by rw [hrest]; exact hL.1) hL.2
    rwa [hrest] at t) _ _ _ head
  rw [hlen, show n + (l.toArray.size - n) = l.toArray.size by omega] at all
  exact all
end Go.Proofs.YtjobaeopokfekaaGreat
/-
  Arm.
-/
namespace Go.Proofs.YtjobaeopokfekaaGreat
open Go.RowKit Go.Shelf Go.Maps
attribute [local go_sem] Oper.semAt_some
/-- What a round keeps: all that lay ahead of the loop but the plan. -/
structure Bt (N q : Nat) (A B : World) : Prop where
  block : ∀ k, k < N → k ≠ q → B.heap[k]? = A.heap[k]?
theorem Bt.trans {N q : Nat} {A B C : World} (h : Bt N q A B) (k : Bt N q B C) : Bt N q A C := ⟨fun i h1 h2 => (k.block i h1 h2).trans (h.block i h1 h2)⟩
theorem Bt.cell {N q : Nat} {A B : World} (h : Bt N q A B) {p : Addr} (h1 : p.block < N) (h2 : p.block ≠ q) : B.cell? p = A.cell? p := World.cell?_of_block (w := A) (h.block p.block h1 h2)
theorem WAt.set3 {w : World} {wb : Nat} {dp : Option Addr} {pl : Option Nat} {g : Gt} (h : WAt w wb dp pl g) (u : Option Nat) : WAt (w.setCell ⟨wb, 3, none⟩ (.map u)) wb dp u g := by
  unfold WAt at h ⊢
  rw [heap_setCell_same w wb 3 _ _ _ h]; rfl
theorem arm_pre {w : World} {wb : Nat} {dp : Option Addr} {pl : Option Nat} {g : Gt} (h : WAt w wb dp pl g) (b len cap : Nat) (fs : List Ft) (hI : FtAt w b fs) (hbw : b < w.heap.size) (hbb : b ≠ wb) (W0 : World)
    (hW : W0 = (((w.setCell ⟨wb, 3, none⟩ (.map (some (w.heap.size + 1)))).alloc (.cells #[.pointer (some ⟨wb, 0, none⟩)] 33)).alloc (.map #[] 0)).alloc (.cells #[.slice (some ⟨b, 0, none⟩) len cap] 28)) :
    WAt W0 wb dp (some (w.heap.size + 1)) g ∧ W0.heap.size = w.heap.size + 3 ∧ W0.cell? ⟨w.heap.size, 0, none⟩ = some (.pointer (some ⟨wb, 0, none⟩)) ∧ W0.ownsMap Tryz.prog 3 (plainElem (H := Unit) Tryz.prog 3) (w.heap.size + 1) 0 (.map []) ∧ W0.cell? ⟨w.heap.size + 1 + 1, 0, none⟩ = some (.slice (some ⟨b, 0, none⟩) len cap) ∧ FtAt W0 b fs ∧ Tn (· = wb) w W0 := by
  have h3 := h.set3 (some (w.heap.size + 1))
  have hs : (w.setCell ⟨wb, 3, none⟩ (.map (some (w.heap.size + 1)))).heap.size = w.heap.size := by simp [World.setCell]
  have hlt := blt h
  generalize hX : w.setCell ⟨wb, 3, none⟩ (.map (some (w.heap.size + 1))) = X at *
  have t1 : Tn (· = wb) w X := by rw [← hX]; exact Tn.setCell (F := (· = wb)) w ⟨wb, 3, none⟩ rfl _
  have a1 := (Below.refl _ X).alloc (Nat.le_refl _) (.cells #[.pointer (some ⟨wb, 0, none⟩)] 33)
  have a2 := a1.alloc a1.size (.map #[] 0)
  have a3 := a2.alloc a2.size (.cells #[.slice (some ⟨b, 0, none⟩) len cap] 28)
  rw [← hW] at a3
  have e1 : (X.alloc (.cells #[.pointer (some ⟨wb, 0, none⟩)] 33)).heap.size = w.heap.size + 1 := by simp [hs]
  have e2 : ((X.alloc (.cells #[.pointer (some ⟨wb, 0, none⟩)] 33)).alloc (.map #[] 0)).heap.size = w.heap.size + 1 + 1 := by simp [hs]
  refine ⟨h3.below a3, by rw [hW]; simp [hs], ?_, ?_, ?_, ?_, t1.trans (Tn.of_below a3)⟩
  · have k1 := cell_of_row (X.alloc (.cells #[.pointer (some ⟨wb, 0, none⟩)] 33)) X.heap.size 0 _ _ (0, 0) (heap_alloc_new X _)
    rw [hs] at k1
    have bb : Below (X.alloc (.cells #[.pointer (some ⟨wb, 0, none⟩)] 33)).heap.size (X.alloc (.cells #[.pointer (some ⟨wb, 0, none⟩)] 33)) W0 := by
      rw [hW]
      exact btD ((Below.refl _ _).alloc (Nat.le_refl _) _) ((Below.refl _ _).alloc (Nat.le_refl _) _)
    exact cell_belowD k1 bb
  · have m1 := World.ownsMap_made (X.alloc (.cells #[.pointer (some ⟨wb, 0, none⟩)] 33)) Tryz.prog 3 (plainElem (H := Unit) Tryz.prog 3)
    rw [e1] at m1
    rw [hW]
    exact m1.alloc _
  · have k1 := cell_of_row W0 ((X.alloc (.cells #[.pointer (some ⟨wb, 0, none⟩)] 33)).alloc (.map #[] 0)).heap.size 0 _ _ (0, 0) (by rw [hW]; exact heap_alloc_new _ _)
    rw [e2] at k1
    exact k1
  · intro j hj
    have hk : W0.heap[b]? = w.heap[b]? := (t1.trans (Tn.of_below a3)).block b hbw hbb
    obtain ⟨c1, c2⟩ := hI j hj
    exact ⟨(World.cell?_of_block (w := w) (a := ⟨b, j * 2, none⟩) hk).trans c1, (World.cell?_of_block (w := w) (a := ⟨b, j * 2 + 1, none⟩) hk).trans c2⟩
section
attribute [local irreducible] Calls
set_option maxRecDepth 1000000 in
set_option maxHeartbeats 4000000 in
theorem arm_in (n : Nat) (hn : 3 ≤ n) {w : World} {wb : Nat} {dp : Option Addr} {pl : Option Nat} {g : Gt} (h : WAt w wb dp pl g) (b cap : Nat) (fs : List Ft) (hreach : fs.length ≤ 10000000000000) (hI : FtAt w b fs) (hbw : b < w.heap.size) (hbb : b ≠ wb) :
    CallsIn Fence.wide n Tryz.prog 8 #[.pointer (some ⟨wb, 0, none⟩), .slice (some ⟨b, 0, none⟩) fs.length cap] w fun e W' => (∃ v, e = .returned v) ∧ (∃ pb, w.heap.size ≤ pb ∧ WAt W' wb dp (some pb) { g with calls := 0 } ∧ PlAt W' (some pb) (plD (dnto fs fs.length))) ∧ Tn (· = wb) w W' := by
  have h1 : 1 ≤ n := by omega
  have hmm := @run_makeMap Tryz.prog
  obtain ⟨len, hL⟩ : ∃ len, fs.length = len := ⟨_, rfl⟩
  have HL := (show Hid (fs.length = len) from hL)
  rw [hL] at hreach ⊢
  obtain ⟨W0, hW0⟩ : ∃ W0, W0 = (((w.setCell ⟨wb, 3, none⟩ (.map (some (w.heap.size + 1)))).alloc (.cells #[.pointer (some ⟨wb, 0, none⟩)] 33)).alloc (.map #[] 0)).alloc (.cells #[.slice (some ⟨b, 0, none⟩) len cap] 28) := ⟨_, rfl⟩
  have PRE := (show Hid _ from arm_pre h b len cap fs hI hbw hbb W0 hW0)
  have HW0 := (show Hid _ from hW0)
  have x3 := h.cell.2.2.2.1
  have z3 := h.frozen 3
  have hwl := blt h
  clear h hL hW0 hI
  refine callsIn_of_wp_marks Tryz.func8 rfl trivial ?_ rfl
  simp only [Tryz.ntmps8, List.size_toArray, List.length_cons, List.length_nil, Nat.reduceAdd, Nat.reduceSub, Array.replicate_succ, Array.replicate_zero, List.push_toArray, List.append_toArray, List.nil_append, List.cons_append]
  gi_wp2_with (refine ⟨trivial, ?_⟩; gi_at_call 24; refine (backward_in (n - 1) _ _ _ _).mono ?_; rintro e w' ⟨rfl, rfl⟩)
  rw [← HW0.out]
  obtain ⟨hWA, hsz, hB0, hm0, hB2, hF0, hT0⟩ := PRE.out
  clear PRE HW0 x3 z3
  have bN0 : w.heap.size < W0.heap.size := by omega
  refine wpIn_rangeFunc_ownH (α := Nat × Ft) rfl h1 (gf := 51) (lb := #[.pointer (some ⟨w.heap.size + 1 + 1, 0, none⟩)]) rfl trivial (enters_of Tryz.func51 (by kernel_rfl) rfl)
    (back_stops (n - 1) (by omega) (w.heap.size + 1 + 1) b cap fs (by rw [HL.out]; exact hreach) W0 (Bt W0.heap.size (w.heap.size + 1)) (fun _ => ⟨fun _ _ _ => rfl⟩) Bt.trans (fun A B hk => hk.cell (p := ⟨w.heap.size + 1 + 1, 0, none⟩) (show w.heap.size + 1 + 1 < W0.heap.size by omega) (show w.heap.size + 1 + 1 ≠ w.heap.size + 1 by omega)) (fun A B o hk => hk.cell (p := ⟨b, o, none⟩) (show b < W0.heap.size by omega) (show b ≠ w.heap.size + 1 by omega)) (by omega) (by omega) (by rw [HL.out]; exact hB2) hF0)
    Bt.trans ?hKb (Below.refl _ _) (fun _ => rfl)
    (fun pre W => W.ownsMap Tryz.prog 3 (plainElem (H := Unit) Tryz.prog 3) (w.heap.size + 1) pre.length (plD pre) ∧ Tn (fun k => k = w.heap.size + 1 ∨ W0.heap.size ≤ k) W0 W)
    (fun _ _ _ => False)
    ?hI (fun _ _ _ _ _ hs _ _ => hs) ⟨hm0, Tn.refl _ _⟩
    (fun x a' W => ∃ Bx, W0.heap.size ≤ Bx ∧ W.heap[Bx]? = some (.cells #[.int .i64 x.2.1.1, .int .i64 x.2.1.2] 66 (0, 0)) ∧ a' = { tmps := #[.pointer (some ⟨wb, 0, none⟩), .slice (some ⟨b, 0, none⟩) len cap, .pointer (some ⟨w.heap.size, 0, none⟩), undef, undef, .pointer (some ⟨Bx, 0, none⟩), .pointer (some ⟨wb, 0, none⟩), .bool false, .pointer (some ⟨wb, 0, none⟩), .map (some (w.heap.size + 1)), .pointer (some ⟨wb, 0, none⟩), .pointer (some ⟨wb, 3, none⟩), .slice (some ⟨b, 0, none⟩) len cap, .func (.func 51) #[] #[.pointer (some ⟨w.heap.size + 1 + 1, 0, none⟩)], .int .i64 (x.1 : Int), .agg #[.int .i64 x.2.1.1, .int .i64 x.2.1.2], undef, undef, undef, undef, undef, undef, undef, undef, undef, undef, undef], defers := [] })
    ?hAx ?assign ?body ?done ?stop
  case hKb =>
    intro W l o o' hl ho _ _
    exact ⟨fun k hk hne => (grownBy_putObj' W l o').block k (by have := blt ho; omega) (fun e => by injection e with e; omega)⟩
  case hI =>
    rintro pre W W' row ⟨i1, i2⟩ hg hr
    refine ⟨i1.kept hg (fun e => by have := (hr _ e.symm).1; omega), i2.trans (Tn.grown hg (fun r e => .inr (hr r e).1))⟩
  case hAx =>
    rintro x a' _ X Y row ⟨Bx, k1, k2, k3⟩ hg hr
    refine ⟨Bx, k1, (hg.block Bx (blt k2) (fun e => ?_)).trans k2, k3⟩
    obtain ⟨_, o, ho, hc⟩ := hr Bx e.symm
    rw [k2] at ho
    injection ho with ho
    subst ho
    cases hc
  case assign =>
    rintro l pre x W K ⟨i1, i2⟩ hK
    gi_wp2
    exact hK _ _ ((KeepsOthers.alloc _ _).from _) ⟨fun k hk _ => Below.heap_alloc _ _ _ (Nat.lt_of_lt_of_le hk i2.size)⟩ ⟨i1.alloc _, i2.trans (Tn.of_below ((Below.refl _ W).alloc (Nat.le_refl _) _))⟩ ⟨W.heap.size, i2.size, heap_alloc_new W _, rfl⟩
  case body =>
    rintro l pre x a' W hl ⟨r, hr⟩ ⟨i1, i2⟩ ⟨Bx, k1, k2, rfl⟩ hlt
    have keep : ∀ k, k < W0.heap.size → k ≠ w.heap.size + 1 → W.heap[k]? = W0.heap[k]? := fun k h1 h2 => i2.block k h1 (by rintro (h3 | h3) <;> omega)
    have cB0 : W.cell? ⟨w.heap.size, 0, none⟩ = some (.pointer (some ⟨wb, 0, none⟩)) := (World.cell?_of_block (w := W0) (a := ⟨w.heap.size, 0, none⟩) (keep w.heap.size (by omega) (by omega))).trans hB0
    have cP : W.cell? ⟨wb, 3, none⟩ = some (.map (some (w.heap.size + 1))) := (World.cell?_of_block (w := W0) (a := ⟨wb, 3, none⟩) (keep wb (by omega) (by omega))).trans hWA.cell.2.2.2.1
    have cx0 : W.cell? ⟨Bx, 0, none⟩ = some (.int .i64 x.2.1.1) := (cell_of_row W Bx 0 _ _ (0, 0) k2).trans rfl
    have cx1 : W.cell? ⟨Bx, 1, none⟩ = some (.int .i64 x.2.1.2) := (cell_of_row W Bx 1 _ _ (0, 0) k2).trans rfl
    have hpl : pre.length < maxLen := by rw [HL.out] at hlt; unfold maxLen; omega
    obtain ⟨w1, hrun, hown1, hg1⟩ := i1.drew.update lawI Tryz.underlying46 hpl (keyOf_int_mk Tryz.underlying3 x.2.2.1) (plainElem_int Tryz.underlying3 x.2.2.2)
    have HX := (show Hid (_ ∧ _ ∧ _ ∧ _) from ⟨i1, i2, hown1, hg1⟩)
    have hsW := i2.size
    clear i1 i2 keep hown1 hg1 k2 hB0 hm0 hB2 hF0 hT0 hlt hpl
    obtain ⟨X, hX⟩ : ∃ X, X = W.drew := ⟨_, rfl⟩
    have dB0 : X.cell? ⟨w.heap.size, 0, none⟩ = some (.pointer (some ⟨wb, 0, none⟩)) := by rw [hX]; exact cB0
    have dP : X.cell? ⟨wb, 3, none⟩ = some (.map (some (w.heap.size + 1))) := by rw [hX]; exact cP
    have dx0 : X.cell? ⟨Bx, 0, none⟩ = some (.int .i64 x.2.1.1) := by rw [hX]; exact cx0
    have dx1 : X.cell? ⟨Bx, 1, none⟩ = some (.int .i64 x.2.1.2) := by rw [hX]; exact cx1
    rw [← hX] at hrun
    clear cB0 cP cx0 cx1
    gi_wp2
    refine wpIn_still_tail 8 (by kernel_rfl) (by kernel_rfl) (fun i o ho => by
      rcases i with _ | _ | _ | _ | _ | _ | _ | _ | _ | i
      all_goals first
        | (injection ho with ho; subst ho; exact trivial)
        | (simp at ho)) (fun h => by obtain ⟨a, w, h⟩ := h; exact h) ?_
    have eX : ({ heap := W.heap, tape := W.tape, drawn := W.drawn + 1, os := W.os, output := W.output } : World) = X := hX.symm
    rw [eX]
    have HX2 := (show Hid (X = W.drew) from hX)
    clear eX hX
    simp only [List.take_succ_cons, List.take_zero, List.drop_succ_cons, List.drop_zero]
    repeat still_step
    refine wpStill_nil ?_
    go_wp2
    obtain ⟨i1, i2, hown1, hg1⟩ := HX.out
    have hg2 : W.grownBy w1 (some (w.heap.size + 1)) := ⟨hg1.os, hg1.tape, hg1.output, hg1.size, hg1.block⟩
    refine ⟨KeepsFrom.of_grownBy hg2 (fun j e => by cases e; omega), ⟨fun k hk hne => hg2.block k (Nat.lt_of_lt_of_le hk hsW) (fun e => by injection e with e; exact hne e)⟩, ?_, i2.trans (Tn.grown hg2 (fun r e => by cases e; exact .inl rfl))⟩
    rw [plD_snoc, List.length_append]
    exact hown1
  case done =>
    rintro D ys W hD rfl ⟨i1, i2⟩ hK
    have keep : ∀ k, k < W0.heap.size → k ≠ w.heap.size + 1 → W.heap[k]? = W0.heap[k]? := fun k h1 h2 => i2.block k h1 (by rintro (h3 | h3) <;> omega)
    have cB0 : W.cell? ⟨w.heap.size, 0, none⟩ = some (.pointer (some ⟨wb, 0, none⟩)) := (World.cell?_of_block (w := W0) (a := ⟨w.heap.size, 0, none⟩) (keep w.heap.size (by omega) (by omega))).trans hB0
    have hWW : WAt W wb dp (some (w.heap.size + 1)) g := (keep wb (by omega) (by omega)).trans hWA
    have c4 := hWW.cell.2.2.2.2.1
    have f4 := hWW.frozen 4
    have HX := (show Hid (_ ∧ _ ∧ _ ∧ _) from ⟨i1, i2, hWW, hK⟩)
    clear i1 i2 keep hB0 hm0 hB2 hF0 hWW hK
    gi_wp2
    obtain ⟨i1, i2, hWW, hK⟩ := HX.out
    have hK2 : (W.setCell ⟨wb, 4, none⟩ (.int .i64 0)).heap[D]? = some (.deferred (some [])) := (KeepsOthers.setCell _ _ _).same D _ hK rfl
    refine ⟨by simp, .inl ⟨_, _, rfl, run_takeDeferred hK2, ?_⟩⟩
    have hgD := grownBy_putObj' (W.setCell ⟨wb, 4, none⟩ (.int .i64 0)) D (.deferred none)
    have hS := hWW.set4 0
    have hDw : wb ≠ D := by omega
    have hlt4 := blt hS
    refine ⟨_, results_none rfl _ _ _, ⟨_, rfl⟩, ⟨w.heap.size + 1, by omega, (hgD.block wb hlt4 (fun e => by injection e with e; exact hDw e)).trans hS, ?_⟩, ?_⟩
    · refine .inr ⟨_, (dnto fs len).length, rfl, ?_⟩
      have m4 : (W.setCell ⟨wb, 4, none⟩ (.int .i64 0)).ownsMap Tryz.prog 3 (plainElem (H := Unit) Tryz.prog 3) (w.heap.size + 1) _ _ := i1.setCell (a := ⟨wb, 4, none⟩) (show w.heap.size + 1 ≠ wb by omega) _
      have m5 := m4.kept hgD (fun e => by injection e with e; omega)
      rw [HL.out] at m5
      exact m5
    · have t1 : Tn (fun k => k = wb ∨ w.heap.size ≤ k) W0 W := i2.more (fun k hk => by rcases hk with hk | hk <;> (right; omega))
      have t2 : Tn (fun k => k = wb ∨ w.heap.size ≤ k) W (W.setCell ⟨wb, 4, none⟩ (.int .i64 0)) := Tn.setCell (F := fun k => k = wb ∨ w.heap.size ≤ k) W ⟨wb, 4, none⟩ (.inl rfl) _
      have t3 : Tn (fun k => k = wb ∨ w.heap.size ≤ k) (W.setCell ⟨wb, 4, none⟩ (.int .i64 0)) _ := Tn.grown hgD (fun r e => by cases e; right; omega)
      have T := (t1.trans t2).trans t3
      have ng : ∀ k, k < w.heap.size → ¬ k = wb → ¬ (k = wb ∨ w.heap.size ≤ k) := fun k hk hne h9 => h9.elim hne (fun h8 => absurd h8 (Nat.not_le.2 hk))
      exact ⟨T.os.trans hT0.os, T.tape.trans hT0.tape, T.output.trans hT0.output, Nat.le_trans hT0.size T.size, fun k hk hne => (T.block k (Nat.lt_of_lt_of_le hk hT0.size) (ng k hk hne)).trans (hT0.block k hk hne)⟩
  case stop =>
    rintro D c pre W _ _ hx _
    exact hx.elim
theorem arm_any {w : World} {wb : Nat} {dp : Option Addr} {pl : Option Nat} {g : Gt} (h : WAt w wb dp pl g) (b cap : Nat) (fs : List Ft) (hreach : fs.length ≤ 10000000000000) (hI : FtAt w b fs) (hbw : b < w.heap.size) (hbb : b ≠ wb) :
    Calls Tryz.prog 8 #[.pointer (some ⟨wb, 0, none⟩), .slice (some ⟨b, 0, none⟩) fs.length cap] w fun e W' => (∃ v, e = .returned v) ∧ (∃ pb, w.heap.size ≤ pb ∧ WAt W' wb dp (some pb) { g with calls := 0 } ∧ PlAt W' (some pb) (plD (dnto fs fs.length))) ∧ Tn (· = wb) w W' :=
  callsIn_wide.1 (arm_in 3 (Nat.le_refl _) h b cap fs hreach hI hbw hbb)
end
end Go.Proofs.YtjobaeopokfekaaGreat
