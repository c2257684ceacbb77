/-
  What the laws of reading and writing are handed; a drive that holds it.
-/
import Derived.Test.YtjobaeopokfekaaGreatFw26
import Derived.Test.YtjobaeopokfekaaGreatLv26
import Derived.Test.YtjobaeopokfekaaGreatMb15
import Derived.Test.YtjobaeopokfekaaGreatRw15
import Derived.Maps.AppendAt
import Derived.Deep.CutRange
import Derived.Deep.DeepCutAuto
namespace Go.Proofs.YtjobaeopokfekaaGreat
open Go.RowKit Go.Maps Go.Sort
/-- What stands on a drive, a label, a plan. -/
structure Stn where
  has : Bool
  pd : Option Addr
  nd : Nat
  cd : Nat
  l : Lbl
  pp : Option Addr
  np : Nat
  cp : Nat
  aw : Bool
def Stn.cs (x : Stn) : Array Value := #[.bool x.has, .slice x.pd x.nd x.cd, .int .u8 (el x.l.a0), .int .u8 (el x.l.a1), .int .u8 (el x.l.a2), .int .u8 (el x.l.a3), .int .u8 (el x.l.a4), .int .u8 (el x.l.a5), .int .u8 (el x.l.a6), .int .u8 (el x.l.a7),
  .int .i64 x.l.k, .int .i64 x.l.m, .int .i64 x.l.b, .int .i64 x.l.ix, .int .i64 x.l.ep, .slice x.pp x.np x.cp, .bool x.aw]
def SnAt (w : World) (g : Nat) (x : Stn) : Prop := w.heap[g]? = some (.cells x.cs 30 (0, 0))
theorem SnAt.new (w : World) (x : Stn) : SnAt (w.alloc (.cells x.cs 30)) w.heap.size x := heap_alloc_new w _
theorem SnAt.lt {w : World} {g : Nat} {x : Stn} (H : SnAt w g x) : g < w.heap.size := blt H
theorem SnAt.below {w w' : World} {g : Nat} {x : Stn} (H : SnAt w g x) (hb : Below w.heap.size w w') : SnAt w' g x := (hb.block g H.lt).trans H
theorem SnAt.tn {w w' : World} {g : Nat} {x : Stn} {G : Nat → Prop} (H : SnAt w g x) (ht : Tn G w w') (hG : ¬ G g) : SnAt w' g x := (ht.block g H.lt hG).trans H
theorem sizeSn : (Tryz.prog.info? 30).map (·.size) = some 17 := by kernel_rfl
theorem SnAt.cell {w : World} {g : Nat} {x : Stn} (H : SnAt w g x) : w.cell? ⟨g, 0, none⟩ = some (.bool x.has) ∧ w.cell? ⟨g, 1, none⟩ = some (.slice x.pd x.nd x.cd) ∧ w.cell? ⟨g, 15, none⟩ = some (.slice x.pp x.np x.cp) ∧ w.cell? ⟨g, 16, none⟩ = some (.bool x.aw) := by
  unfold SnAt at H
  have c := fun i => cell_of_row w g i _ _ (0, 0) H
  exact ⟨c 0, c 1, c 15, c 16⟩
theorem SnAt.run {w : World} {g : Nat} {x : Stn} (H : SnAt w g x) : (loadVar 30 ⟨g, 0, none⟩).run Tryz.prog w = .ok (.agg x.cs) w := run_loadVar_at w g 0 30 x.cs _ (fun j u hj => by
  rw [Nat.zero_add, cell_of_row w g j _ _ (0, 0) H]
  simpa using hj) Tryz.underlying30 rfl sizeSn
theorem SnAt.label {w : World} {g : Nat} {x : Stn} (H : SnAt w g x) : (loadVar 27 ⟨g, 2, none⟩).run Tryz.prog w = .ok (.agg x.l.cs) w := run_loadVar_at w g 2 27 x.l.cs _ (fun j u hj => by
  rw [cell_of_row w g (2 + j) _ _ (0, 0) H]
  have hl : j < 13 := (List.getElem?_eq_some_iff.1 hj).1
  rw [← hj]
  unfold Stn.cs Lbl.cs
  match j, hl with
  | 0, _ => rfl
  | 1, _ => rfl
  | 2, _ => rfl
  | 3, _ => rfl
  | 4, _ => rfl
  | 5, _ => rfl
  | 6, _ => rfl
  | 7, _ => rfl
  | 8, _ => rfl
  | 9, _ => rfl
  | 10, _ => rfl
  | 11, _ => rfl
  | 12, _ => rfl) Tryz.underlying27 rfl sizeLb
/-- A load of a struct, guarded or not. -/
theorem wpList_ldV {w : World} {ops : Array Oper} {rest : List Oper} {o : Oper} {a : Act} {Q : Exit → Act → World → Prop} (hw : Region.wanted o (yielded ops a.tmps) = true) (t : TypeId) (x : Operand) (ho : o.op = .load t x) (p : Addr) (cs : Array Value) (hx : a.eval x = .pointer (some p)) (hr : (loadVar t p).run Tryz.prog w = .ok (.agg cs) w)
    (k : wpList Tryz.prog ops Q rest (a.put o.dst (.agg cs)) w) : wpList Tryz.prog ops Q (o :: rest) a w := by
  refine wpList_step fun K hK => ?_
  rw [if_pos hw]
  unfold Oper.wp execOp
  simp only [ho, hx, Instr.loadAt, Instr.sureAddr, Sem.run_bind, Sem.run_pure, Result.andThen_ok, hr]
  exact hK _ _ k
/-- What stands on the drive. -/
def stL (x : Stn) (xs : List (BitVec 8)) : List (Tx × Tx) := if x.has = true then [([108], us xs)] else []
theorem stL_load (x : Stn) (xs : List (BitVec 8)) : ∃ σ, Ds.load 1048576 (stL x xs) = some σ := by
  unfold stL Ds.load
  rw [if_pos (by decide)]
  split
  · exact ⟨_, rfl⟩
  · exact ⟨_, rfl⟩
theorem stL_fsz (x : Stn) (xs : List (BitVec 8)) : fsz (stL x xs) ≤ 1 + xs.length := by
  unfold stL
  split
  · simp [fsz, us_len]
  · simp [fsz]
theorem Ow.tv {w : World} {base : Nat} {v : Value} {xs : List (BitVec 8)} (h : Ow w base v xs) : Tv w v (us xs) := by
  obtain ⟨p, cap, hv, hc, hr⟩ := h.rd
  rcases h.2 with ⟨h1, h2⟩ | ⟨g, cap', c, h1, _⟩
  · exact .inl ⟨h1, by have : xs = [] := List.length_eq_zero_iff.1 h2; rw [this]; rfl⟩
  · rw [h1] at hv
    injection hv with e1 e2 e3
    subst e1
    refine .inr ⟨g, cap', by rw [h1, us_len], ?_⟩
    exact hr.rx.cells
theorem infoFl : (Tryz.prog.info? 58).map (fun i => (i.zero, i.size, i.bytes)) = some (some (.agg #[.string ⟨#[]⟩, .slice none 0 0]), 2, 40) := by kernel_rfl
theorem one_fl {w : World} {base : Nat} {v u : Value} {d : Tx} (h : w.ownsRow base 58 2 v 1 [encStr [108], u]) (hu : Tv w u d) : ∃ p c, v = .slice p 1 c ∧ FlAt w p [([108], d)] := by
  obtain ⟨g, c, cur, hv, hb, h0, h1⟩ := own_cell2 h 0 (by decide)
  refine ⟨_, c, hv, fun i hi => ?_⟩
  have h9 : i = 0 := by simpa using hi
  subst h9
  exact ⟨g, 0, u, rfl, by simpa using h0, by simpa using h1, hu⟩
theorem two_src {w : World} {b : Nat} {u v : Value} {t : TypeId} (h : w.heap[b]? = some (.cells #[u, v] t (0, 0))) : ∀ j x, ([u, v] : List Value)[j]? = some x → w.cell? ((⟨b, 0, none⟩ : Addr).add j) = some x := by
  intro j x hj
  rw [add_pl, Nat.zero_add, cell_of_row w b j _ _ (0, 0) h]
  simpa using hj
theorem bsF1 (w : World) (u v : Value) : (Instr.buildSlice 55 1 #[(0, .agg #[u, v])]).run Tryz.prog w = .ok (.slice (some ⟨w.heap.size, 0, none⟩) 1 1) (w.alloc (.cells #[u, v] 58)) := by kernel_rfl
theorem wpList_bsF1 {w : World} {ops : Array Oper} {rest : List Oper} {o : Oper} {a : Act} {Q : Exit → Act → World → Prop} (hgd : o.guard = none) (x : Operand) (ho : o.op = .buildSlice 55 1 #[(0, x)]) (u v : Value) (hx : a.eval x = .agg #[u, v])
    (h : ∀ w', w'.heap[w.heap.size]? = some (.cells #[u, v] 58 (0, 0)) → Below w.heap.size w w' → Hid (w'.heap.size = w.heap.size + 1) → wpList Tryz.prog ops Q rest (a.put o.dst (.slice (some ⟨w.heap.size, 0, none⟩) 1 1)) w') : wpList Tryz.prog ops Q (o :: rest) a w := by
  refine wpList_plain hgd fun K hK => ?_
  have h2 := h (w.alloc (.cells #[u, v] 58)) (heap_alloc_new w _) ((Below.refl _ _).alloc (Nat.le_refl _) _) (by show _ = _; simp)
  unfold Oper.wp execOp
  have hp : ((#[(0, x)] : Array (Nat × Operand)).map fun (i, x) => (i, a.eval x)) = #[(0, .agg #[u, v])] := by simp [hx]
  simp only [ho, hp, Sem.run_bind, bsF1 w u v, Sem.run_pure, Result.andThen_ok]
  exact hK _ _ h2
section
attribute [local irreducible] Calls el Lbl.cs cmo rg smL ar8 Stn.cs
set_option maxRecDepth 1000000 in
theorem twin26_any {w : World} {p : Option Addr} {xs : List (BitVec 8)} (h : Rd w p xs) (n c : Nat) (hn : xs.length = n) (hm : n ≤ 140737488355328) : Calls Tryz.prog 18 #[.slice p n c] w fun e w' => ∃ v, e = .returned v ∧ Ow w' w.heap.size v xs ∧ Below w.heap.size w w' := by
  go_enter Tryz.func18, Tryz.ntmps18
  go_wp2_with (at_builtin; refine wpList_cl rfl _ _ rfl rfl p n c xs rfl h hn hm ?_; intro v1 w1 ho1 hb1)
  go_ret
  exact ⟨_, rfl, ho1, hb1⟩
set_option maxHeartbeats 4000000 in
set_option maxRecDepth 1000000 in
theorem loaded_any {w : World} (x : Stn) (xs : List (BitVec 8)) (hr : Rd w x.pd xs) (hn : xs.length = x.nd) (hm : x.nd ≤ 1048576) (σ : Ds) (hσ : Ds.load 1048576 (stL x xs) = some σ) :
    Calls Tryz.prog 5 #[.agg x.cs] w fun e w' => ∃ db, e = .returned (.pointer (some ⟨db, 0, none⟩)) ∧ DrAt w' db σ (fun b => w.heap.size ≤ b ∧ b < w'.heap.size) ∧ Below w.heap.size w w' := by
  obtain ⟨W0, hW0⟩ : ∃ W0, W0 = w.alloc (.cells x.cs 30) := ⟨_, rfl⟩
  have HA := (show Hid (SnAt W0 w.heap.size x) from by rw [hW0]; exact SnAt.new w x)
  have HB := (show Hid (Below w.heap.size w W0) from by rw [hW0]; exact (Below.refl _ w).alloc (Nat.le_refl _) _)
  have HR := (show Hid (Rd w x.pd xs ∧ xs.length = x.nd ∧ x.nd ≤ 1048576) from ⟨hr, hn, hm⟩)
  have LD := (show Hid (∀ (W : World) (p : Option Addr) (n c : Nat), Below w.heap.size w W → FlAt W p (stL x xs) → (stL x xs).length = n → Calls Tryz.prog 19 #[.int .i64 1048576, .slice p n c] W fun e w' => ∃ db, e = .returned (.pointer (some ⟨db, 0, none⟩)) ∧ DrAt w' db σ (fun b => w.heap.size ≤ b ∧ b < w'.heap.size) ∧ Below w.heap.size w w') from fun W p n c hb hF hl => by
    have hf := stL_fsz x xs
    refine (load_any 1048576 p n c (stL x xs) hF hl (by omega) (fun f h9 => ?_) (by unfold stL at hl; split at hl <;> simp at hl <;> omega)).mono ?_
    · unfold stL at h9
      split at h9
      · have : f = ([108], us xs) := by simpa using h9
        rw [this]; show (1 : Nat) ≤ 134217728; decide
      · cases h9
    · rintro e w' ⟨h1 | ⟨τ, db, h1, h2, h3⟩, h4⟩
      · rw [hσ] at h1; cases h1.1
      · rw [hσ] at h1
        injection h1 with h1
        subst h1
        refine ⟨db, h2, h3.more (fun b h9 => ⟨Nat.le_trans hb.size h9.1, h9.2⟩) (fun b h9 => h9.2), bt hb h4⟩)
  have HW := (show Hid (W0 = w.alloc (.cells x.cs 30)) from hW0)
  clear hr hn hm hσ hW0
  cases hh : x.has with
  | false =>
    have HS := (show Hid (stL x xs = []) from by unfold stL; rw [hh]; rfl)
    have c0 := HA.out.cell.1
    rw [hh, HW.out] at c0
    clear hh
    go_enter Tryz.func5, Tryz.ntmps5
    go_wp2_with (go_at_call 19; refine (LD.out _ none 0 0 (by rw [← HW.out]; exact HB.out) (by rw [HS.out]; exact fun i hi => absurd hi (Nat.not_lt_zero _)) (by rw [HS.out]; rfl)).mono ?_; rintro e w1 ⟨db, rfl, hD⟩)
    go_ret
    exact ⟨_, rfl, hD⟩
  | true =>
    have HS := (show Hid (stL x xs = [([108], us xs)]) from by unfold stL; rw [hh]; rfl)
    have c0 := HA.out.cell.1
    have c1 := HA.out.cell.2.1
    have TW := (show Hid (∀ (W : World), Below w.heap.size w W → _) from fun (W : World) (hb : Below w.heap.size w W) => twin26_any (HR.out.1.below hb) x.nd x.cd HR.out.2.1 (Nat.le_trans HR.out.2.2 (by decide)))
    obtain ⟨i0, hi0, hz0, hz1, hz2⟩ := info_parts infoFl
    rw [hh, HW.out] at c0
    rw [HW.out] at c1
    clear hh
    go_enter Tryz.func5, Tryz.ntmps5
    go_wp2_with (first
      | (go_at_call 18; refine (TW.out _ (by rw [← HW.out]; exact HB.out)).mono ?_; rintro e w1 ⟨v1, rfl, ho1, hb1⟩; have T1 := (show Hid (Tv w1 v1 (us xs)) from Ow.tv ho1); obtain ⟨p1, q1, rfl, _, _⟩ := ho1.rd; have B1 := (show Hid (Below w.heap.size w w1) from bt (by rw [← HW.out]; exact HB.out) hb1); clear hb1 ho1)
      | (refine wpList_bsF1 rfl _ rfl (encStr [108]) (.slice p1 xs.length q1) rfl ?_; intro w2 hG2 hb2 hs2; have G2 := (show Hid (w2.heap[w1.heap.size]? = some (.cells #[encStr [108], .slice p1 xs.length q1] 58 (0, 0))) from hG2); have B2 := (show Hid (Below w.heap.size w w2 ∧ Below w1.heap.size w1 w2) from ⟨bt B1.out hb2, hb2⟩); clear hG2 hb2 hs2)
      | (at_builtin; refine wpList_append_own_at _ rfl _ _ 55 rfl w.heap.size 58 i0 (.agg #[.string ⟨#[]⟩, .slice none 0 0]) 2 40 Tryz.underlying55 hi0 hz0 hz1 hz2 rfl (by decide) (.slice none 0 0) 0 [] rfl ⟨rfl, .inl ⟨rfl, rfl⟩⟩ ⟨w1.heap.size, 0, none⟩ 1 1 [encStr [108], .slice p1 xs.length q1] rfl rfl (two_src G2.out) (by intro u hu; simp at hu; rcases hu with rfl | rfl <;> rfl) (by decide) (by decide) B2.out.1.size ?_; intro v3 w3 hown hg _ _; have O3 := (show Hid (w3.ownsRow w.heap.size 58 2 v3 1 [encStr [108], .slice p1 xs.length q1]) from hown); have B3 := (show Hid (Below w.heap.size w w3) from B2.out.1.grown hg (by exact B2.out.1.size) (fun k e => by cases e)); have T3 := (show Hid (Tv w3 (.slice p1 xs.length q1) (us xs)) from (T1.out.below B2.out.2).below ⟨hg.os, hg.tape, hg.output, hg.size, fun k hk => hg.block k hk (fun e => by cases e)⟩); obtain ⟨p4, c4, rfl, hF4⟩ := one_fl O3.out T3.out; clear hown hg)
      | (go_at_call 19; refine (LD.out _ p4 1 c4 B3.out (by rw [HS.out]; exact hF4) (by rw [HS.out]; rfl)).mono ?_; rintro e w5 ⟨db, rfl, hD⟩))
    go_ret
    exact ⟨_, rfl, hD⟩
end
end Go.Proofs.YtjobaeopokfekaaGreat
/-
  Two wounds beside one another; a label read through a wound, whatever strikes.
-/
namespace Go.Proofs.YtjobaeopokfekaaGreat
open Go.RowKit Go.Maps Go.Sort
/-- What Read of a wound answers. -/
def kr (g : Gt) (P : DataW Unit) (σ : Ds) : Int × Tx := ((if (ahd g P false).1.2 = 0 then ((σ.read [108]).1 : Int) else (ahd g P false).1.2), (if (ahd g P false).1.2 = 0 then (σ.read [108]).2 else []))
/-- What label.Read of a wound answers. -/
def lrg (g : Gt) (P : DataW Unit) (σ : Ds) : Int × Lbl := if (kr g P σ).1 = 0 then pL (bvs (kr g P σ).2) else ((kr g P σ).1, lb0)
section
attribute [local irreducible] Calls el Lbl.cs cmo rg smL ar8
theorem kread_wg {w w0 : World} {wb db : Nat} {g : Gt} {P : DataW Unit} {σ : Ds} {G : Nat → Prop} (h : Wkx w0 G wb db w g P σ) (gk : Gok g) (hm : ∀ i, (σ.body i).data.length ≤ 140737488355328) :
    Calls Tryz.prog 10 #[.pointer (some ⟨wb, 0, none⟩), encStr [108]] w fun e w' => (∃ v, e = .returned (.tuple #[v, .int .i64 (kr g P σ).1]) ∧ Ob w' w.heap.size v (kr g P σ).2) ∧ Wkx w0 G wb db w' (ahd g P false).2 P σ := by
  refine (h.call (Q := fun e w' => ∃ v, e = .returned (.tuple #[v, .int .i64 (kr g P σ).1]) ∧ Ob w' w.heap.size v (kr g P σ).2) (fun pl F hK => (kread hK gk [108] (by decide) (fun i _ => hm i)).mono ?_))
  rintro e w' ⟨h1, h2, h3⟩
  exact ⟨h1, ⟨pl, F, h2, fun _ h => .inl h, rfl⟩, h3.more (fun _ h => .inl h)⟩
set_option maxHeartbeats 4000000 in
set_option maxRecDepth 1000000 in
theorem lread_wg {w : World} {wb db : Nat} {g : Gt} {P : DataW Unit} {σ : Ds} {G : Nat → Prop} (h : Wx w wb db g P σ G) (gk : Gok g) (hm : ∀ i, (σ.body i).data.length ≤ 140737488355328) :
    Calls Tryz.prog 12 #[.iface 33 (.pointer (some ⟨wb, 0, none⟩))] w fun e w' => e = .returned (.tuple #[.agg (lrg g P σ).2.cs, .int .i64 (lrg g P σ).1]) ∧ Wkx w G wb db w' (ahd g P false).2 P σ := by
  have M1 := mw_read
  have RD := (show Hid (∀ (W : World), Below w.heap.size w W → _) from fun (W : World) (hb : Below w.heap.size w W) => kread_wg (Wkx.start (h.below hb)) gk hm)
  have NG := (show Hid (∀ b, G b → b < w.heap.size) from h.2.1)
  generalize (ahd g P false).2 = g2 at *
  unfold lrg
  generalize kr g P σ = r1 at *
  obtain ⟨e1, d1⟩ := r1
  clear h gk hm
  dsimp only at *
  by_cases he : e1 = 0
  · subst he
    rw [if_pos rfl]
    generalize hpl : pL (bvs d1) = q
    obtain ⟨e2, l2⟩ := q
    have PA := (show Hid (∀ (W : World) p c, Rx W p d1 → d1.length ≤ c → Calls Tryz.prog 22 #[.slice p d1.length c] W fun e w' => e = .returned (.tuple #[.agg l2.cs, .int .i64 e2]) ∧ Below W.heap.size W w') from fun W p c hx hc => by
      have := lparse_any (Rx.rd hx) d1.length c (bvs_len d1) hc
      rw [hpl] at this
      exact this)
    clear hpl
    go_enter Tryz.func12, Tryz.ntmps12
    go_wp2_with (first
      | (refine wpList_alLb rfl rfl ?_; intro wA ZA hbA hsA; have HA := (show Hid (_ ∧ _) from ⟨hbA, hsA⟩); clear hsA)
      | (go_at_call 10; refine (RD.out _ HA.out.1).mono ?_; rintro e w1 ⟨⟨v1, rfl, ho1⟩, S2⟩; obtain ⟨p1, c1, rfl, hc1, hx1⟩ := ho1.rx; replace ZA := ZA.tn S2.2 (fun hb => Nat.lt_irrefl _ (NG.out _ hb)))
      | (go_at_call 22; refine (PA.out _ _ _ hx1 hc1).mono ?_; rintro e w2 ⟨rfl, hb2⟩; have S3 := S2.below hb2; replace ZA := ZA.below hb2)
      | (refine wpList_storeLb rfl _ _ rfl rfl w.heap.size rfl rfl ZA ?_; intro wC ZC hTC))
    exact bodyPost_ret (res_lb rfl _ _ w.heap.size l2 (.int .i64 e2) rfl rfl ZC) rfl ⟨rfl, Wkx.turned NG.out HA.out.1 (by have := HA.out.2; omega) S3 hTC⟩
  · rw [if_neg he]
    have hz : (e1 != 0) = true := by simpa using he
    go_enter Tryz.func12, Tryz.ntmps12
    go_wp2_with (first
      | (refine wpList_alLb rfl rfl ?_; intro wA ZA hbA hsA; have HA := (show Hid (_ ∧ _) from ⟨hbA, hsA⟩); clear hsA)
      | (go_at_call 10; refine (RD.out _ HA.out.1).mono ?_; rintro e w1 ⟨⟨v1, rfl, ho1⟩, S2⟩; obtain ⟨p1, c1, rfl, hc1, hx1⟩ := ho1.rx; replace ZA := ZA.tn S2.2 (fun hb => Nat.lt_irrefl _ (NG.out _ hb)))
      | (refine wpList_bd0 rfl rfl ?_)
      | (refine wpList_storeLb rfl _ _ rfl rfl w.heap.size rfl rfl ZA ?_; intro wC ZC hTC))
    exact bodyPost_ret (res_lb rfl _ _ w.heap.size lb0 (.int .i64 e1) rfl rfl ZC) rfl ⟨rfl, Wkx.turned NG.out HA.out.1 (by have := HA.out.2; omega) S2 hTC⟩
end
theorem wx_of {w : World} {db : Nat} {σ : Ds} {F : Nat → Prop} (h : DrAt w db σ F) : Wx (w.alloc (.cells #[.pointer (some ⟨db, 0, none⟩), .bool false, .bool false, .map none, .int .i64 0, .int .i64 0, .bool false, .int .i64 0, .int .i64 0, .int .i64 0] 50)) w.heap.size db ⟨false, false, 0, 0, false, 0, 0, 0⟩ (.map []) σ (fun b => F b ∨ b = w.heap.size) := by
  refine ⟨.inr rfl, fun b hb => ?_, none, F, ⟨heap_alloc_new w _, .inl ⟨rfl, rfl⟩, h.below ((Below.refl _ _).alloc (Nat.le_refl _) _), fun e => ?_, fun b e => by cases e⟩, fun b hb => .inl hb, fun b e => by cases e⟩
  · show b < (w.alloc _).heap.size
    rcases hb with hb | rfl
    · have := h.2.1 b hb; simp; omega
    · simp
  · exact Nat.lt_irrefl _ (h.2.1 _ e)
/-- Two wounds, what was handed in, labels of the law's own. -/
def T2 (w0 : World) (bx : Nat) (x : Stn) (Ls : List (Nat × Lbl)) (wb db : Nat) (wc dc : Nat) (W : World) (g : Gt) (P : DataW Unit) (σ : Ds) (g' : Gt) (P' : DataW Unit) (σ' : Ds) : Prop :=
  ∃ G H, Wx W wb db g P σ G ∧ Wx W wc dc g' P' σ' H ∧ (∀ b, G b → ¬ H b) ∧ (∀ b, G b ∨ H b → w0.heap.size ≤ b ∧ b ≠ bx) ∧ SnAt W bx x ∧ (∀ q ∈ Ls, LbAt W q.1 q.2 ∧ ¬ G q.1 ∧ ¬ H q.1) ∧ Below w0.heap.size w0 W
section
variable {w0 : World} {bx : Nat} {x : Stn} {Ls : List (Nat × Lbl)} {wb db wc dc : Nat} {w W w' : World} {g g1 g' : Gt} {P P1 P' : DataW Unit} {σ σ1 σ' : Ds}
theorem T2.swap (h : T2 w0 bx x Ls wb db wc dc w g P σ g' P' σ') : T2 w0 bx x Ls wc dc wb db w g' P' σ' g P σ := by
  obtain ⟨G, H, h1, h2, h3, h4, h5, h6, h7⟩ := h
  exact ⟨H, G, h2, h1, fun b hb hg => h3 b hg hb, fun b hb => h4 b hb.symm, h5, fun q hq => ⟨(h6 q hq).1, (h6 q hq).2.2, (h6 q hq).2.1⟩, h7⟩
theorem T2.below (h : T2 w0 bx x Ls wb db wc dc w g P σ g' P' σ') (hb : Below w.heap.size w w') : T2 w0 bx x Ls wb db wc dc w' g P σ g' P' σ' := by
  obtain ⟨G, H, h1, h2, h3, h4, h5, h6, h7⟩ := h
  exact ⟨G, H, h1.below hb, h2.below hb, h3, h4, h5.below hb, fun q hq => ⟨(h6 q hq).1.below hb, (h6 q hq).2⟩, h7.trans (hb.mono h7.size)⟩
theorem T2.bel (h : T2 w0 bx x Ls wb db wc dc w g P σ g' P' σ') : Below w0.heap.size w0 w := by
  obtain ⟨G, H, h1, h2, h3, h4, h5, h6, h7⟩ := h
  exact h7
theorem T2.sn (h : T2 w0 bx x Ls wb db wc dc w g P σ g' P' σ') : SnAt w bx x := by
  obtain ⟨G, H, h1, h2, h3, h4, h5, h6, h7⟩ := h
  exact h5
theorem T2.lbl (h : T2 w0 bx x Ls wb db wc dc w g P σ g' P' σ') {b : Nat} {l : Lbl} (hq : (b, l) ∈ Ls) : LbAt w b l := by
  obtain ⟨G, H, h1, h2, h3, h4, h5, h6, h7⟩ := h
  exact (h6 _ hq).1
theorem T2.keep (h : T2 w0 bx x Ls wb db wc dc w g P σ g' P' σ') (hb : Below w.heap.size w w') {b : Nat} {l : Lbl} (hl : LbAt w' b l) (hbb : w.heap.size ≤ b) : T2 w0 bx x ((b, l) :: Ls) wb db wc dc w' g P σ g' P' σ' := by
  obtain ⟨G, H, h1, h2, h3, h4, h5, h6, h7⟩ := h
  refine ⟨G, H, h1.below hb, h2.below hb, h3, h4, h5.below hb, fun q hq => ?_, h7.trans (hb.mono h7.size)⟩
  rcases List.mem_cons.1 hq with rfl | hq
  · exact ⟨hl, fun hG => by have := h1.2.1 _ hG; exact absurd this (Nat.not_lt.2 hbb), fun hH => by have := h2.2.1 _ hH; exact absurd this (Nat.not_lt.2 hbb)⟩
  · exact ⟨(h6 q hq).1.below hb, (h6 q hq).2⟩
theorem T2.set (h : T2 w0 bx x Ls wb db wc dc w g P σ g' P' σ') {b : Nat} (hT : Turned b w w') (l : Lbl) (hl : LbAt w' b l) (hbb : ∃ l0, Ls = [(b, l0)]) (hbx : b ≠ bx) (h0 : w0.heap.size ≤ b) : T2 w0 bx x [(b, l)] wb db wc dc w' g P σ g' P' σ' := by
  obtain ⟨G, H, h1, h2, h3, h4, h5, h6, h7⟩ := h
  obtain ⟨l0, rfl⟩ := hbb
  have hq := h6 (b, l0) (List.mem_singleton.2 rfl)
  have T := hT.tnG
  refine ⟨G, H, h1.tn T (fun c hc e => by have e' : c = b := e; subst e'; exact hq.2.1 hc), h2.tn T (fun c hc e => by have e' : c = b := e; subst e'; exact hq.2.2 hc), h3, h4, h5.tn T (fun e => by have e' : bx = b := e; exact hbx e'.symm), fun q hq' => ?_, ?_⟩
  · rw [List.mem_singleton] at hq'
    subst hq'
    exact ⟨hl, hq.2⟩
  · exact tn_below h7 T (fun c e => by have e' : c = b := e; rw [e']; exact h0)
theorem T2.call {f : Nat} {args : Array Value} {Q : Ending → World → Prop} (h : T2 w0 bx x Ls wb db wc dc w g P σ g' P' σ')
    (C : ∀ G, Wx w wb db g P σ G → Calls Tryz.prog f args w fun e w' => Q e w' ∧ Wx w' wb db g1 P1 σ1 (Fn G w w') ∧ Tn G w w') : Calls Tryz.prog f args w fun e w' => Q e w' ∧ T2 w0 bx x Ls wb db wc dc w' g1 P1 σ1 g' P' σ' := by
  obtain ⟨G, H, h1, h2, h3, h4, h5, h6, h7⟩ := h
  refine (C G h1).mono ?_
  rintro e w' ⟨q1, q2, q3⟩
  refine ⟨q1, Fn G w w', H, q2, h2.tn q3 (fun b hb hg => h3 b hg hb), fun b hb hH => ?_, fun b hb => ?_, h5.tn q3 (fun hG => (h4 bx (.inl hG)).2 rfl), fun q hq => ⟨(h6 q hq).1.tn q3 (h6 q hq).2.1, fun hF => ?_, (h6 q hq).2.2⟩, tn_below h7 q3 (fun b hb => (h4 b (.inl hb)).1)⟩
  · rcases hb with hb | hb
    · exact h3 b hb hH
    · have := h2.2.1 b hH; omega
  · rcases hb with (hb | hb) | hb
    · exact h4 b (.inl hb)
    · have := h7.size; have := h5.lt; exact ⟨by omega, by omega⟩
    · exact h4 b (.inr hb)
  · rcases hF with hF | hF
    · exact (h6 q hq).2.1 hF
    · have := (h6 q hq).1.lt; omega
theorem T2.call' {f : Nat} {args : Array Value} {Q : Ending → World → Prop} (h : T2 w0 bx x Ls wb db wc dc w g' P' σ' g P σ)
    (C : ∀ G, Wx w wc dc g P σ G → Calls Tryz.prog f args w fun e w' => Q e w' ∧ Wx w' wc dc g1 P1 σ1 (Fn G w w') ∧ Tn G w w') : Calls Tryz.prog f args w fun e w' => Q e w' ∧ T2 w0 bx x Ls wb db wc dc w' g' P' σ' g1 P1 σ1 :=
  (h.swap.call C).mono (fun _ _ ⟨q1, q2⟩ => ⟨q1, q2.swap⟩)
theorem T2.drs (h : T2 w0 bx x Ls wb db wc dc w g P σ g' P' σ') : (∃ F, DrAt w db σ F) ∧ (∃ F, DrAt w dc σ' F) ∧ w.cell? ⟨wc, 0, none⟩ = some (.pointer (some ⟨dc, 0, none⟩)) := by
  obtain ⟨G, H, h1, h2, h3, h4, h5, h6, h7⟩ := h
  obtain ⟨F1, k1, _⟩ := h1.dr
  obtain ⟨F2, k2, _⟩ := h2.dr
  obtain ⟨pl, hW⟩ := h2.wat
  exact ⟨⟨F1, k1⟩, ⟨F2, k2⟩, hW.cell.1⟩
theorem T2.start {G H : Nat → Prop} (h1 : Wx w wb db g P σ G) (h2 : Wx w wc dc g' P' σ' H) (hd : ∀ b, G b → ¬ H b) (h4 : ∀ b, G b ∨ H b → w0.heap.size ≤ b ∧ b ≠ bx) (h5 : SnAt w bx x) (h7 : Below w0.heap.size w0 w) : T2 w0 bx x [] wb db wc dc w g P σ g' P' σ' :=
  ⟨G, H, h1, h2, hd, h4, h5, fun q hq => (by cases hq), h7⟩
end
end Go.Proofs.YtjobaeopokfekaaGreat
/-
  LabelReads, LabelWrites: the walks.
-/
namespace Go.Proofs.YtjobaeopokfekaaGreat
open Go.RowKit Go.Maps Go.Sort
theorem ftoUp {w w' : World} {b o : Nat} {fs : List Ft} (h : FtO w b o fs) (hB : Below w.heap.size w w') : FtO w' b o fs := fun j hj => ⟨cell_belowD (h j hj).1 hB, cell_belowD (h j hj).2 hB⟩
/-- What is handed in besides. -/
structure SnIn (w : World) (x : Stn) (xs : List (BitVec 8)) : Prop where
  li : x.l.In
  rd : Rd w x.pd xs
  nx : xs.length = x.nd
  nm : x.nd ≤ 140737488355328
  np : x.np ≤ 10000000000000
  pl : ∃ fs : List Ft, fs.length = x.np ∧ (0 < x.np → ∃ b o, x.pp = some ⟨b, o, none⟩ ∧ FtO w b o fs ∧ b < w.heap.size)
/-- The gate of a new wound. -/
def g0 : Gt := ⟨false, false, 0, 0, false, 0, 0, 0⟩
/-- The gate behind Arm and Offline. -/
def gO (u : Bool) : Gt := ⟨false, u, 0, 0, false, 0, 0, 0⟩
theorem gO_gok (u : Bool) : ∀ g', Gs 5 (gO u) g' → Gok g' := fun _ s => s.gok (Int.le_refl _) (by show (0 : Int) ≤ 1000; omega) (Int.le_refl _) (by show (0 : Int) ≤ 1000; omega) (by omega)
section
attribute [local irreducible] Calls el Lbl.cs cmo rg smL ar8 Stn.cs
/-- The beginning of both laws, up to both wounds. -/
theorem two_start {w0 W W1 W2 W3 W4 : World} {bx db dc : Nat} {x : Stn} {σ : Ds} (h5 : SnAt W bx x) (h7 : Below w0.heap.size w0 W)
    (d1 : DrAt W1 db σ (fun b => W.heap.size ≤ b ∧ b < W1.heap.size)) (b1 : Below W.heap.size W W1) (e2 : W2 = W1.alloc (.cells #[.pointer (some ⟨db, 0, none⟩), .bool false, .bool false, .map none, .int .i64 0, .int .i64 0, .bool false, .int .i64 0, .int .i64 0, .int .i64 0] 50))
    (d3 : DrAt W3 dc σ (fun b => W2.heap.size ≤ b ∧ b < W3.heap.size)) (b3 : Below W2.heap.size W2 W3) (e4 : W4 = W3.alloc (.cells #[.pointer (some ⟨dc, 0, none⟩), .bool false, .bool false, .map none, .int .i64 0, .int .i64 0, .bool false, .int .i64 0, .int .i64 0, .int .i64 0] 50)) :
    T2 w0 bx x [] W1.heap.size db W3.heap.size dc W4 g0 (.map []) σ g0 (.map []) σ := by
  have s1 := b1.size
  have s2 : W2.heap.size = W1.heap.size + 1 := by rw [e2]; simp
  have s3 := b3.size
  have s4 : W4.heap.size = W3.heap.size + 1 := by rw [e4]; simp
  have b2 : Below W1.heap.size W1 W2 := by rw [e2]; exact (Below.refl _ _).alloc (Nat.le_refl _) _
  have b4 : Below W3.heap.size W3 W4 := by rw [e4]; exact (Below.refl _ _).alloc (Nat.le_refl _) _
  have hx1 : Wx W2 W1.heap.size db g0 (.map []) σ (fun b => (W.heap.size ≤ b ∧ b < W1.heap.size) ∨ b = W1.heap.size) := by rw [e2]; exact wx_of d1
  have hx3 : Wx W4 W3.heap.size dc g0 (.map []) σ (fun b => (W2.heap.size ≤ b ∧ b < W3.heap.size) ∨ b = W3.heap.size) := by rw [e4]; exact wx_of d3
  have bW := bt (bt b1 b2) (bt b3 b4)
  have hl := h5.lt
  have h0 := h7.size
  refine T2.start (hx1.below (bt b3 b4)) hx3 (fun b hb hc => ?_) (fun b hb => ?_) (h5.below bW) (h7.trans (bW.mono h0))
  · rcases hb with hb | hb <;> rcases hc with hc | hc <;> omega
  · rcases hb with (hb | hb) | (hb | hb) <;> exact ⟨by omega, by omega⟩
theorem t_arm {w0 : World} {bx : Nat} {x : Stn} {xs : List (BitVec 8)} (ti : SnIn w0 x xs) : ∃ P1, ∀ (Ls : List (Nat × Lbl)) (wb db wc dc : Nat) (w : World) (g : Gt) (P : DataW Unit) (σ : Ds) (g' : Gt) (P' : DataW Unit) (σ' : Ds), T2 w0 bx x Ls wb db wc dc w g P σ g' P' σ' →
    Calls Tryz.prog 8 #[.pointer (some ⟨wb, 0, none⟩), .slice x.pp x.np x.cp] w fun e w' => (∃ v, e = .returned v) ∧ T2 w0 bx x Ls wb db wc dc w' { g with calls := 0 } P1 σ g' P' σ' := by
  obtain ⟨fs, hfs, hI⟩ := ti.pl
  refine ⟨plD (dnto fs x.np), fun Ls wb db wc dc w g P σ g' P' σ' h => ?_⟩
  have hB := h.bel
  have hwb : w0.heap.size ≤ wb := by
    obtain ⟨G, H, h1, _, _, h4, _⟩ := h
    exact (h4 wb (.inl h1.1)).1
  refine h.call (fun G hW => hW.arm x.pp x.np x.cp fs hfs ti.np (fun h0 => ?_))
  obtain ⟨b, o, e, h1, h2⟩ := hI h0
  exact ⟨b, o, e, ftoUp h1 hB, Nat.lt_of_lt_of_le h2 hB.size, fun e9 => by omega⟩
theorem t_off {w0 w : World} {bx : Nat} {x : Stn} {Ls : List (Nat × Lbl)} {wb db wc dc : Nat} {g g' : Gt} {P P' : DataW Unit} {σ σ' : Ds} (h : T2 w0 bx x Ls wb db wc dc w g P σ g' P' σ') (u : Bool) : Calls Tryz.prog 9 #[.pointer (some ⟨wb, 0, none⟩), .bool u] w fun e w' => (∃ v, e = .returned v) ∧ T2 w0 bx x Ls wb db wc dc w' { g with offl := u } P σ g' P' σ' :=
  h.call (fun _ hW => hW.set (fun _ h9 => offline_any h9 u))
theorem t_calls {w0 w : World} {bx : Nat} {x : Stn} {Ls : List (Nat × Lbl)} {wb db wc dc : Nat} {g g' : Gt} {P P' : DataW Unit} {σ σ' : Ds} (h : T2 w0 bx x Ls wb db wc dc w g P σ g' P' σ') : Calls Tryz.prog 13 #[.pointer (some ⟨wb, 0, none⟩)] w fun e w' => e = .returned (.int .i64 g.calls) ∧ T2 w0 bx x Ls wb db wc dc w' g P σ g' P' σ' :=
  h.call (fun _ hW => hW.ask (fun _ h9 => calls_any h9))
theorem t_read {w0 w : World} {bx : Nat} {x : Stn} {Ls : List (Nat × Lbl)} {wb db wc dc : Nat} {g g' : Gt} {P P' : DataW Unit} {σ σ' : Ds} (h : T2 w0 bx x Ls wb db wc dc w g P σ g' P' σ') (gk : Gok g') (hm : ∀ i, (σ'.body i).data.length ≤ 140737488355328) :
    Calls Tryz.prog 10 #[.pointer (some ⟨wc, 0, none⟩), encStr [108]] w fun e w' => (∃ v, e = .returned (.tuple #[v, .int .i64 (kr g' P' σ').1]) ∧ Ob w' w.heap.size v (kr g' P' σ').2) ∧ T2 w0 bx x Ls wb db wc dc w' g P σ (ahd g' P' false).2 P' σ' :=
  (h.swap.call (fun _ hW => kread_wg (Wkx.start hW) gk hm)).mono (fun _ _ ⟨q1, q2⟩ => ⟨q1, q2.swap⟩)
theorem t_lread {w0 w : World} {bx : Nat} {x : Stn} {Ls : List (Nat × Lbl)} {wb db wc dc : Nat} {g g' : Gt} {P P' : DataW Unit} {σ σ' : Ds} (h : T2 w0 bx x Ls wb db wc dc w g P σ g' P' σ') (gk : Gok g) (hm : ∀ i, (σ.body i).data.length ≤ 140737488355328) :
    Calls Tryz.prog 12 #[.iface 33 (.pointer (some ⟨wb, 0, none⟩))] w fun e w' => e = .returned (.tuple #[.agg (lrg g P σ).2.cs, .int .i64 (lrg g P σ).1]) ∧ T2 w0 bx x Ls wb db wc dc w' (ahd g P false).2 P σ g' P' σ' :=
  h.call (fun _ hW => lread_wg hW gk hm)
set_option maxHeartbeats 8000000 in
set_option maxRecDepth 1000000 in
theorem labelReads_walk {w : World} (x : Stn) (xs : List (BitVec 8)) (ti : SnIn w x xs) :
    Calls Tryz.prog 3 #[.agg x.cs] w fun e w' => e = .returned (.bool true) ∧ Below w.heap.size w w' := by
  have KN := (show Hid _ from fun w => known_any w)
  obtain ⟨W0, hW0⟩ : ∃ W0, W0 = w.alloc (.cells x.cs 30) := ⟨_, rfl⟩
  have HA := (show Hid (SnAt W0 w.heap.size x) from by rw [hW0]; exact SnAt.new w x)
  have HB := (show Hid (Below w.heap.size w W0) from by rw [hW0]; exact (Below.refl _ w).alloc (Nat.le_refl _) _)
  have HW := (show Hid (W0 = w.alloc (.cells x.cs 30)) from hW0)
  have TI := (show Hid (SnIn w x xs) from ti)
  have c1 := HA.out.cell.2.1
  rw [hW0] at c1
  clear ti hW0
  by_cases hbig : 1048576 < x.nd
  · have hi : (1048576 : Int) < (x.nd : Int) := by omega
    have hi2 : decide ((1048576 : Int) < (x.nd : Int)) = true := decide_eq_true hi
    clear hbig
    go_enter Tryz.func3, Tryz.ntmps3
    go_wp2_with (fail)
    go_ret
    exact ⟨rfl, by rw [← HW.out]; exact HB.out⟩
  · have hi : ¬ (1048576 : Int) < (x.nd : Int) := by omega
    have hi2 : decide ((1048576 : Int) < (x.nd : Int)) = false := decide_eq_false hi
    obtain ⟨σ, hσ⟩ := stL_load x xs
    have OK := (show Hid (Okk (1 + xs.length) σ ∧ xs.length ≤ 1048576) from ⟨(load_okk hσ).1.mono (stL_fsz x xs), by rw [TI.out.nx]; omega⟩)
    have LO := (show Hid (∀ (W : World), Below w.heap.size w W → _) from fun (W : World) (hb : Below w.heap.size w W) => loaded_any x xs (TI.out.rd.below hb) TI.out.nx (by omega) σ hσ)
    obtain ⟨P1, hAR⟩ := t_arm (bx := w.heap.size) TI.out
    have AR := (show Hid (∀ (Ls : List (Nat × Lbl)) (wb db wc dc : Nat) (W : World) (g : Gt) (P : DataW Unit) (σ : Ds) (g' : Gt) (P' : DataW Unit) (σ' : Ds), T2 w w.heap.size x Ls wb db wc dc W g P σ g' P' σ' → _) from hAR)
    clear hbig hσ hAR
    go_enter Tryz.func3, Tryz.ntmps3
    go_upto_if 14 with fail
    rw [← HW.out]
    clear c1
    have m0 : Hid (0 = 0) := rfl
    go_upto_if 35 with (first
      | (revert m0; intro m0; refine wpList_ldV rfl 30 _ rfl ⟨w.heap.size, 0, none⟩ x.cs rfl HA.out.run ?_)
      | (revert m0; intro m0; go_at_call 5; refine (LO.out _ HB.out).mono ?_; rintro e w1 ⟨db, rfl, hD1, hb1⟩; have D1 := (show Hid (DrAt w1 db σ (fun b => W0.heap.size ≤ b ∧ b < w1.heap.size) ∧ Below W0.heap.size W0 w1) from ⟨hD1, hb1⟩); clear hD1 hb1)
      | (revert m0; intro m0; go_at_call 6; refine (wnew_any _ _).mono ?_; rintro e w2 ⟨rfl, hw2⟩; have E2 := (show Hid (w2 = w1.alloc (.cells #[.pointer (some ⟨db, 0, none⟩), .bool false, .bool false, .map none, .int .i64 0, .int .i64 0, .bool false, .int .i64 0, .int .i64 0, .int .i64 0] 50)) from hw2); have B2 := (show Hid (Below W0.heap.size W0 w2) from bt D1.out.2 (by rw [hw2]; exact (Below.refl _ _).alloc (Nat.le_refl _) _)); clear hw2 m0; have m1 : Hid (0 = 0) := rfl)
      | (revert m1; intro m1; refine wpList_ldV rfl 30 _ rfl ⟨w.heap.size, 0, none⟩ x.cs rfl (HA.out.below B2.out).run ?_)
      | (revert m1; intro m1; go_at_call 5; refine (LO.out _ (bt HB.out B2.out)).mono ?_; rintro e w3 ⟨dc, rfl, hD3, hb3⟩; have D3 := (show Hid (DrAt w3 dc σ (fun b => w2.heap.size ≤ b ∧ b < w3.heap.size) ∧ Below w2.heap.size w2 w3) from ⟨hD3, hb3⟩); clear hD3 hb3)
      | (revert m1; intro m1; go_at_call 6; refine (wnew_any _ _).mono ?_; rintro e w4 ⟨rfl, hw4⟩; have S0 := (show Hid (T2 w w.heap.size x [] w1.heap.size db w3.heap.size dc w4 g0 (.map []) σ g0 (.map []) σ) from two_start HA.out HB.out D1.out.1 D1.out.2 E2.out D3.out.1 D3.out.2 hw4); clear hw4 m1)
      | (go_at_call 7; refine (KN.out _).mono ?_; rintro e w5 ⟨rfl, hb5⟩; have S1 := (show Hid (T2 w w.heap.size x [] w1.heap.size db w3.heap.size dc w5 g0 (.map []) σ g0 (.map []) σ) from S0.out.below hb5); clear hb5 S0))
    obtain ⟨bw, hbw⟩ : ∃ bw, bw = w1.heap.size := ⟨_, rfl⟩
    obtain ⟨bt3, hbt⟩ : ∃ bt3, bt3 = w3.heap.size := ⟨_, rfl⟩
    rw [← hbw, ← hbt] at S1 ⊢
    have GK : Gok (gO x.aw) := gO_gok x.aw _ ((Gs.refl _).mono (by omega))
    have HM : ∀ i, (σ.body i).data.length ≤ 140737488355328 := fun i => Nat.le_trans (OK.out.1.bl i) (by have := OK.out.2; omega)
    have RD := (show Hid (∀ (W : World), T2 w w.heap.size x [] bw db bt3 dc W (gO x.aw) P1 σ (gO x.aw) P1 σ → _) from fun (W : World) (h : T2 w w.heap.size x [] bw db bt3 dc W (gO x.aw) P1 σ (gO x.aw) P1 σ) => t_read h GK HM)
    have LR := (show Hid (∀ (W : World) (Ls : List (Nat × Lbl)) (g' : Gt), T2 w w.heap.size x Ls bw db bt3 dc W (gO x.aw) P1 σ g' P1 σ → _) from fun (W : World) (Ls : List (Nat × Lbl)) (g' : Gt) (h : T2 w w.heap.size x Ls bw db bt3 dc W (gO x.aw) P1 σ g' P1 σ) => t_lread h GK HM)
    have LV := (show Hid (lrg (gO x.aw) P1 σ = if (kr (gO x.aw) P1 σ).1 = 0 then pL (bvs (kr (gO x.aw) P1 σ).2) else ((kr (gO x.aw) P1 σ).1, lb0)) from rfl)
    generalize (ahd (gO x.aw) P1 false).2 = g9 at RD LR
    generalize lrg (gO x.aw) P1 σ = lr at LR LV
    generalize kr (gO x.aw) P1 σ = kv at RD LV
    obtain ⟨le, ll⟩ := lr
    obtain ⟨kf, kd⟩ := kv
    dsimp only at RD LR LV
    clear GK HM LO KN D1 D3 B2 E2 HA hbw hbt
    have c15 := S1.out.sn.cell.2.2.1
    have c16 := S1.out.sn.cell.2.2.2
    go_upto_region 13 with (first
      | (revert S1; intro S1; go_at_call 8; refine (AR.out _ _ _ _ _ _ _ _ _ _ _ _ S1.out).mono ?_; rintro e w6 ⟨⟨v6, rfl⟩, hS⟩; have S2 := (show Hid (T2 w w.heap.size x [] bw db bt3 dc w6 g0 P1 σ g0 (.map []) σ) from hS); clear hS S1 c15 c16; have c15 := S2.out.sn.cell.2.2.1)
      | (revert S2; intro S2; go_at_call 8; refine (AR.out _ _ _ _ _ _ _ _ _ _ _ _ S2.out.swap).mono ?_; rintro e w7 ⟨⟨v7, rfl⟩, hS⟩; have S3 := (show Hid (T2 w w.heap.size x [] bw db bt3 dc w7 g0 P1 σ g0 P1 σ) from hS.swap); clear hS S2 c15; have c16 := S3.out.sn.cell.2.2.2)
      | (revert S3; intro S3; go_at_call 9; refine (t_off S3.out x.aw).mono ?_; rintro e w8 ⟨⟨v8, rfl⟩, hS⟩; have S4 := (show Hid (T2 w w.heap.size x [] bw db bt3 dc w8 (gO x.aw) P1 σ g0 P1 σ) from hS); clear hS S3 c16; have c16 := S4.out.sn.cell.2.2.2)
      | (revert S4; intro S4; go_at_call 9; refine (t_off S4.out.swap x.aw).mono ?_; rintro e w9 ⟨⟨v9, rfl⟩, hS⟩; have S5 := (show Hid (T2 w w.heap.size x [] bw db bt3 dc w9 (gO x.aw) P1 σ (gO x.aw) P1 σ) from hS.swap); clear hS S4 c16)
      | (go_at_call 10; refine (RD.out _ S5.out).mono ?_; rintro e w10 ⟨⟨v10, rfl, ho⟩, hS⟩; have S6 := (show Hid (T2 w w.heap.size x [] bw db bt3 dc w10 (gO x.aw) P1 σ g9 P1 σ) from hS); obtain ⟨p10, c10, rfl, hc10, hx10⟩ := ho.rx; have X6 := (show Hid (Rx w10 p10 kd ∧ kd.length ≤ c10) from ⟨hx10, hc10⟩); clear hS S5 RD ho hc10 hx10))
    have LQ := fun W => eql_lbl ll ll W
    rw [(lq_iff ll ll).2 rfl] at LQ
    have LE : ((le : Int) == le) = true := by simp
    go_upto_if 58 with (refine wpList_alLb rfl rfl ?_; intro wA ZA hbA hsA; have HA := (show Hid (_ ∧ _) from ⟨hbA, hsA⟩); clear hsA)
    go_cut [7] from 57 to 63 (fun v wx => v = .int .i64 le ∧ Hid (Below w10.heap.size w10 wx ∧ LbAt wx w10.heap.size ll ∧ w10.heap.size < wx.heap.size))
    case first =>
      by_cases hf : kf = 0
      · have hf2 : ((kf : Int) == 0) = true := by simpa using hf
        have hv := LV.out
        rw [if_pos hf] at hv
        have PA := (show Hid (∀ (W : World), Below w10.heap.size w10 W → _) from fun (W : World) (hb : Below w10.heap.size w10 W) => rparse_any (Rx.rd (X6.out.1.below hb)) kd.length c10 (bvs_len kd) X6.out.2)
        rw [← hv] at PA
        clear hv LV LR hf
        go_wp2_with (first
          | (go_at_call 11; refine (PA.out _ HA.out.1).mono ?_; rintro e w11 ⟨rfl, hb2⟩; have HP := (show Hid (_ ∧ _) from ⟨bt HA.out.1 hb2, hb2.size⟩); replace ZA := ZA.below hb2; clear hb2)
          | (refine wpList_storeLb rfl _ _ rfl rfl w10.heap.size rfl rfl ZA ?_; intro wC ZC hTC; have HC := (show Hid (Below w10.heap.size w10 wC ∧ LbAt wC w10.heap.size ll ∧ w10.heap.size < wC.heap.size) from ⟨hTC.2.1 _ _ HP.out.1 (Nat.le_refl _), ZC, ZC.lt⟩); clear ZC hTC))
        go_meet
        case rel => exact ⟨rfl, HC.out⟩
      · have hf2 : ((kf : Int) == 0) = false := by simpa using hf
        have hv := LV.out
        rw [if_neg hf] at hv
        injection hv with hv1 hv2
        subst hv1 hv2
        clear LV LR hf
        go_wp2_with (fail)
        go_meet
        case rel => exact ⟨rfl, HA.out.1, ZA, by have := HA.out.2; omega⟩
    case rest =>
    obtain ⟨rfl, hcut⟩ := hcut
    obtain ⟨y1, hy1⟩ : ∃ y1, y1 = wc := ⟨_, rfl⟩
    rw [← hy1] at hcut ⊢
    have S7 := (show Hid (T2 w w.heap.size x [(w10.heap.size, ll)] bw db bt3 dc y1 (gO x.aw) P1 σ g9 P1 σ) from S6.out.keep hcut.out.1 hcut.out.2.1 (Nat.le_refl _))
    have HL10 := (show Hid (w10.heap.size < y1.heap.size) from hcut.out.2.2)
    clear hcut hy1 S6 X6 LV HA ZA
    go_upto_region 17 with (first
      | (revert S7; intro S7; go_at_call 12; refine (LR.out _ _ _ S7.out).mono ?_; rintro e w12 ⟨rfl, hS⟩; have S8 := (show Hid (T2 w w.heap.size x [(w10.heap.size, ll)] bw db bt3 dc w12 g9 P1 σ g9 P1 σ) from hS); clear hS S7 LR)
      | (refine wpList_alLb rfl rfl ?_; intro wA2 ZA2 hbA2 hsA2; clear hsA2)
      | (refine wpList_storeLb rfl _ _ rfl rfl w12.heap.size rfl rfl ZA2 ?_; intro w14 ZC hTC; have S9 := (show Hid (T2 w w.heap.size x [(w12.heap.size, ll), (w10.heap.size, ll)] bw db bt3 dc w14 g9 P1 σ g9 P1 σ) from S8.out.keep (hTC.2.1 _ _ hbA2 (Nat.le_refl _)) ZC (Nat.le_refl _)); clear ZA2 hbA2 hTC ZC S8))
    have Z1 := (show Hid (LbAt w14 w12.heap.size ll) from S9.out.lbl (List.mem_cons_self ..))
    have Z2 := (show Hid (LbAt w14 w10.heap.size ll) from S9.out.lbl (List.mem_cons_of_mem _ (List.mem_singleton.2 rfl)))
    go_wp2_with (first
      | (refine wpList_ldLg (by rfl) _ rfl w12.heap.size rfl Z1.out ?_)
      | (refine wpList_ldLg (by rfl) _ rfl w10.heap.size rfl Z2.out ?_)
      | (revert S9; intro S9; go_at_call 13; refine (t_calls S9.out).mono ?_; rintro e w15 ⟨rfl, hS⟩; have SA := (show Hid (T2 w w.heap.size x [(w12.heap.size, ll), (w10.heap.size, ll)] bw db bt3 dc w15 g9 P1 σ g9 P1 σ) from hS); clear hS S9)
      | (revert SA; intro SA; go_at_call 13; refine (t_calls SA.out.swap).mono ?_; rintro e w16 ⟨rfl, hS⟩; have SB := (show Hid (T2 w w.heap.size x [(w12.heap.size, ll), (w10.heap.size, ll)] bw db bt3 dc w16 g9 P1 σ g9 P1 σ) from hS.swap); clear hS SA; have cP := SB.out.drs.2.2)
      | (go_at_call 14; refine (level_same SB.out.drs.1.choose_spec SB.out.drs.2.1.choose_spec OK.out.1 (by have := OK.out.2; omega)).mono ?_; rintro e w17 ⟨rfl, hB⟩; have BZ := (show Hid (Below w.heap.size w w17) from bt SB.out.bel hB); clear hB))
    go_ret
    exact ⟨rfl, BZ.out⟩
end
end Go.Proofs.YtjobaeopokfekaaGreat
