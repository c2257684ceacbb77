/-
  CodeOpen: the walk.
-/
import Derived.Test.YtnlmjajdfaambaaOa
namespace Go.Proofs.Ytnlmjajdfaambaa
open Go.RowKit
theorem makeI0 (n : Nat) (hn : n ≤ 1000) (w : World) : (Instr.makeSlice 45 (.int .i64 0) (.int .i64 (n : Int))).run Try.prog w = .ok (.slice (some ⟨w.heap.size, 0, none⟩) 0 n) (w.alloc (.cells (Array.replicate n (.int .i64 0)) 3)) := by
  obtain ⟨i0, hi, hz0, hz1, hz2⟩ := info_parts infoI
  have hr := run_make (P := Try.prog) w 45 3 i0 (.int .i64 0) Try.underlying45 hi hz0 .i64 .i64 0 (n : Int) (by omega) (by omega) (by rw [hz2]; omega) (by omega)
  rw [hr, hz1, Int.toNat_natCast, made_eq (.int .i64 0) (.int .i64 0) 1 n rfl (by decide), Nat.mul_one]
  rfl
set_option maxRecDepth 100000 in
theorem step_clone {w : World} {ops : Array Oper} {o : Oper} {a : Act} {K : Act → World → Prop} {Q : Exit → Act → World → Prop} {E : Prop} (hgd : o.guard = none) (s x : Operand) (ho : o.op = .call { callee := .builtin .append, args := #[s, x], argTypes := #[37, 37] })
    (hs : a.eval s = .slice none 0 0) (b off n c : Nat) (f : Nat → BitVec 8) (hx : a.eval x = .slice (some ⟨b, off, none⟩) n c) (hc : ∀ j, j < n → w.cell? ⟨b, off + j, none⟩ = some (clE f j)) (hm : n ≤ 140737488355328)
    (h : ∀ v' w', Br w' v' n f → Below w.heap.size w w' → K (a.put o.dst v') w') : if Region.wanted o (yielded ops a.tmps) = true then Oper.wp Try.prog o a w K Q else E := by
  obtain ⟨i0, hi, hz0, hz1, hz2⟩ := info_parts info5
  have hw : Region.wanted o (yielded ops a.tmps) = true := by simp [Region.wanted, hgd]
  rw [if_pos hw]
  have S : ∀ j u, (lv (clE f) n)[j]? = some u → w.cell? ((⟨b, off, none⟩ : Addr).add j) = some u := by
    intro j u hu
    have hjn : j < n := by
      rcases Nat.lt_or_ge j n with h | h
      · exact h
      · rw [List.getElem?_eq_none (by rw [lv_len]; exact h)] at hu; cases hu
    rw [lv_at _ n j hjn] at hu
    injection hu with hu
    rw [add_pl, hc j hjn]; exact congrArg some hu
  refine wp_append_own w s x 37 ho w.heap.size 5 i0 (.int .u8 0) 1 1 Try.underlying37 hi hz0 hz1 hz2 rfl (by decide) (.slice none 0 0) 0 [] hs (World.ownsRow_nil _ _ _ _) ⟨b, off, none⟩ n c (lv (clE f) n) hx (by rw [lv_len, Nat.mul_one]) S (fun u hu => by unfold lv at hu; obtain ⟨i, _, rfl⟩ := List.mem_map.1 hu; rfl) (by unfold maxLen; omega) (by omega) (Nat.le_refl _) ?_
  intro v' w' ho' hg _
  rw [Nat.zero_add, List.nil_append] at ho'
  exact h v' w' (owns_st1 ho') (below_append (t := 5) (base := w.heap.size) (k := 1) (n := 0) (xs := []) (Below.refl _ _) (Nat.le_refl _) hg (World.ownsRow_nil _ _ _ _) (Nat.le_refl _))
/-- What is left of the rows, the places of a list being lost. -/
def lq (Q : List Nat) (f : Nat → Value) (i : Nat) : Value := if i ∈ Q then .slice none 0 0 else f i
theorem lq_nil (f : Nat → Value) (i : Nat) : lq [] f i = f i := by unfold lq; rw [if_neg (by simp)]
theorem lq_add (Q : List Nat) (t : Nat) (f : Nat → Value) (i : Nat) : (if i = t then .slice none 0 0 else lq Q f i) = lq (Q ++ [t]) f i := by
  unfold lq
  by_cases e : i = t
  · subst e; rw [if_pos rfl, if_pos (by simp)]
  · rw [if_neg e]
    by_cases e2 : i ∈ Q
    · rw [if_pos e2, if_pos (by simp [e2])]
    · rw [if_neg e2, if_neg (by simp [e2, e])]
theorem lq_in {Q : List Nat} {f : Nat → Value} {i : Nat} (h : i ∈ Q) : lq Q f i = .slice none 0 0 := if_pos h
theorem lq_out {Q : List Nat} {f : Nat → Value} {i : Nat} (h : ¬ i ∈ Q) : lq Q f i = f i := if_neg h
theorem lo_out {Q : List Nat} {n i : Nat} (h : ¬ i ∈ Q) : lo Q n i = n := if_neg h
theorem qo_zero (P : List Nat) (N : Nat) : qo P N 0 = [] := rfl
theorem qo_step (P : List Nat) (N s : Nat) (h : 1 ≤ s) : qo P N s = qo P N (s - 1) ++ [od P N s] := by
  obtain ⟨t, rfl⟩ : ∃ t, s = t + 1 := ⟨s - 1, by omega⟩
  exact qo_succ P N t
theorem left_q {w9 wr : World} {g N r n cap : Nat} {f : Nat → Value} {h : Nat → Value} {Q : List Nat} {M : Nat → Nat → BitVec 8} (hN : r ≤ N) (hO9 : Ov w9 37 g h N) (hf : ∀ i, i < r → Br w9 (f i) n (M i)) (hb : But g w9 wr) (hO : Ov wr 37 g (lq Q f) N) : NmE wr (.slice (some ⟨g, 0, none⟩) r cap) r (lo Q n) M := by
  refine ⟨lq Q f, ⟨_, _, rfl, .inr ⟨_, _, rfl, fun i hi => by rw [Nat.zero_add]; exact hO.cell (by omega)⟩⟩, fun i hi => ?_⟩
  unfold lq lo
  by_cases e : i ∈ Q
  · rw [if_pos e, if_pos e]
    exact ⟨_, _, rfl, .inl rfl⟩
  · rw [if_neg e, if_neg e]
    exact (Br.but (hf i hi) hO9 hb).nr
theorem three_ways (n ny : Nat) : n = 0 ∨ (¬ n = 0 ∧ (((n : Int) == 0) = false) ∧ ny < n) ∨ (¬ n = 0 ∧ (((n : Int) == 0) = false) ∧ ¬ ny < n) := by
  by_cases h : n = 0
  · exact .inl h
  · have hb : ((n : Int) == 0) = false := by rw [beq_eq_false_iff_ne]; omega
    by_cases h2 : ny < n
    · exact .inr (.inl ⟨h, hb, h2⟩)
    · exact .inr (.inr ⟨h, hb, h2⟩)
theorem own_made (w : World) (n : Nat) (hn : n ≤ 1000) : (w.alloc (.cells (Array.replicate n (.int .i64 0)) 3)).ownsRow w.heap.size 3 1 (.slice (some ⟨w.heap.size, 0, none⟩) 0 n) 0 [] := World.ownsRow_made w _ n (Nat.le_refl _) (by unfold maxLen; omega) (by simp)
theorem al_below (w : World) (o : Obj) : Below w.heap.size w (w.alloc o) := (Below.refl _ _).alloc (Nat.le_refl _) _
theorem al_size (w : World) (o : Obj) : (w.alloc o).heap.size = w.heap.size + 1 := by simp
/-- The list that was made, as it is read. -/
theorem ord_own {w : World} {b : Nat} {v : Value} {P : List Nat} {N : Nat} (h : w.ownsRow b 3 1 v (ord P N).length (pvs (ord P N))) (h0 : 0 < N) : ∃ g c, v = .slice (some ⟨g, 0, none⟩) N c ∧ b ≤ g ∧ ∀ i, i < N → w.cell? ⟨g, i, none⟩ = some (.int .i64 (od P N i : Nat)) := by
  have hl := ord_len P N
  have h2 := h
  rw [pvs_lv] at h2
  have st := owns_st1 h2
  rcases h.2 with ⟨_, h1⟩ | ⟨g, cap, c, hv, hg, _⟩
  · omega
  · subst hv
    refine ⟨g, cap, by rw [hl], hg, fun i hi => ?_⟩
    obtain ⟨b', o', c', e, hc⟩ := (St.sv st).cells (by omega)
    injection e with e1 e2 e3
    injection e1 with e1
    injection e1 with e1 e4 e5
    subst e1 e4
    have := hc i (by omega)
    rw [Nat.zero_add] at this
    exact this
theorem nr_un' {w : World} {p : Option Addr} {c n : Nat} {f : Nat → BitVec 8} (h : NrE w (.slice p n c) n f) : 0 < n → ∃ b o, p = some ⟨b, o, none⟩ ∧ ∀ i, i < n → w.cell? ⟨b, o + i, none⟩ = some (clE f i) := by
  obtain ⟨p', c', e, h⟩ := nr_un h
  injection e with e1 e2 e3
  subst e1
  exact h
/-- The list behind so many turns. -/
def ot (P : List Nat) (N : Nat) : Nat → List Nat
  | 0 => []
  | 1 => [] ++ sel P true N
  | _ => sel P true N ++ sel P false N
theorem ot_two (P : List Nat) (N : Nat) : ot P N 2 = ord P N := rfl
section
attribute [local irreducible] Calls el NmE NrE Cd Fac mm Jr Bm lo bm Ov Br qo od sel ord thr pvs lv lq
set_option maxHeartbeats 32000000 in
set_option maxRecDepth 1000000 in
theorem codeOpen_walk (K M : Int) (pb : Option Addr) (nb cb : Nat) (x : Nat → BitVec 8) (vP : Value) (nP : Nat) (f : Nat → Int) (py : Option Addr) (ny cy : Nat) (y : Nat → BitVec 8) (w : World) (hnb : nb ≤ 140737488355328) (hcb : nb ≤ cb) (hcy : ny ≤ cy) (hB : NrE w (.slice pb nb cb) nb x) (hP : Jr w vP nP f) (hY : NrE w (.slice py ny cy) ny y) :
    Calls Try.prog 7 #[.agg #[.int .i64 K, .int .i64 M, .slice pb nb cb, vP], .slice py ny cy] w fun e w' => e = .returned (.bool true) ∧ Below w.heap.size w w' := by
  have hb0 : Below w.heap.size w (w.alloc (.cells #[.int .i64 K, .int .i64 M, .slice pb nb cb, vP] 47)) := (Below.refl _ _).alloc (Nat.le_refl _) _
  have q0 := ask_cell w #[.int .i64 K, .int .i64 M, .slice pb nb cb, vP] 47 0 (.int .i64 K) rfl
  have q1 := ask_cell w #[.int .i64 K, .int .i64 M, .slice pb nb cb, vP] 47 1 (.int .i64 M) rfl
  have q2 := ask_cell w #[.int .i64 K, .int .i64 M, .slice pb nb cb, vP] 47 2 (.slice pb nb cb) rfl
  have q3 := ask_cell w #[.int .i64 K, .int .i64 M, .slice pb nb cb, vP] 47 3 vP rfl
  obtain ⟨W, hW⟩ : ∃ W, W = w.alloc (.cells #[.int .i64 K, .int .i64 M, .slice pb nb cb, vP] 47) := ⟨_, rfl⟩
  rw [← hW] at hb0 q0 q1 q2 q3
  have HW : Hid (w.alloc (.cells #[.int .i64 K, .int .i64 M, .slice pb nb cb, vP] 47) = W) := hW.symm
  have HB0 := (show Hid _ from NrE.below hB hb0)
  have HP0 := (show Hid _ from Jr.below hP hb0)
  have HY0 := (show Hid _ from NrE.below hY hb0)
  clear hW hB hP hY
  go_enter Try.func7, Try.ntmps7
  go_wp2_with (first
    | (go_at_call 24; rw [HW.out]; refine (awake_any W).mono ?_; rintro e w1 ⟨rfl, hb1⟩; have q01 := cell_below q0 hb1; have q11 := cell_below q1 hb1; have q21 := cell_below q2 hb1; have q31 := cell_below q3 hb1; clear q0 q1)
    | (go_at_call 25; refine (fit_ok K M (.slice pb nb cb) vP w1).mono ?_; rintro e w2 ⟨k, m, rfl, hk1, hm1, hmk, hkm, hb2⟩; have HB2 := (show Hid _ from bt (bt hb0 hb1) hb2); have HBY := (show Hid _ from NrE.below HB0.out (bt hb1 hb2)); obtain ⟨n, hn⟩ : ∃ n, nb / k = n := ⟨_, rfl⟩; have HN : Hid (nb / k = n) := hn; have hnn : n ≤ 140737488355328 := (by have := Nat.div_le_self nb k; omega); clear hn; have e1 : wrap64 ((k : Int) + (m : Int)) = (k : Int) + (m : Int) := (by unfold wrap64; omega); have e2 : wrap64 ((m : Int) + 1) = (m : Int) + 1 := (by unfold wrap64; omega); have j0 : ((k : Int) + (m : Int) != (k : Int) + (m : Int)) = false := (by simp); have j2 : (0 : Int) ≤ (k : Int) := (by omega); have q22 := (show Hid _ from cell_below q21 hb2); have q32 := (show Hid _ from cell_below q31 hb2); clear q01 q11 q21 q31)
    | (go_at_call 9; refine (new_ok k m hm1 hmk hkm w2).mono ?_; rintro e w3 ⟨v3, F, rfl, hC3, hF3, hb3⟩; have HC := (show Hid _ from hC3); have HF := (show Hid _ from hF3); have q23 := cell_below q22.out hb3; obtain ⟨cb3, _, _, ev, _⟩ := cd_open hC3; subst ev; clear hC3 hF3)
    | (go_at_call 26; refine (cut_core pb nb cb n k x w3 hk1 (by omega) hnb hcb HN (NrE.below HBY.out hb3)).mono ?_; rintro e w4 ⟨v4, rfl, hM4, hb4⟩; have HD := (show Hid _ from Bm.nm hM4); obtain ⟨p4, c4, e4⟩ := nmE_form HD.out; subst e4; obtain ⟨D, hDe⟩ : ∃ D, D = (fun i j => x (i * n + j)) := ⟨_, rfl⟩; rw [← hDe] at HD; clear hDe hM4 q23)
    | (go_at_call 11; refine (encode_ok (Cd.below HC.out hb4) HF.out hk1 hm1 hkm hnn HD.out).mono ?_; rintro e w5 ⟨v5, rfl, hN5, hb5, hcp5⟩; have HN5 := (show Hid _ from hN5); obtain ⟨p5, c5, e5, hc5⟩ := hcp5; subst e5; obtain ⟨b5, o5, rows5, ep5, hcc5, hn5⟩ := nm_at hN5 (by omega); subst ep5; obtain ⟨pr, cr, er, _⟩ := nr_un (hn5 0 (by omega)); have g0 : w5.cell? ⟨b5, o5, none⟩ = some (.slice pr n cr) := (by have h := hcc5 0 (by omega); rw [er] at h; exact h); clear hcc5 hn5 er hN5; have jk : (0 : Int) < (k : Int) + (m : Int) := (by omega); have HX5 := (show Hid _ from bt (bt (bt HB2.out hb3) hb4) hb5); have HB25 := (show Hid _ from bt (bt hb3 hb4) hb5); have HB35 := (show Hid _ from bt hb4 hb5); have HC5 := (show Hid _ from Cd.below HC.out HB35.out); have HP5 := (show Hid _ from Jr.below HP0.out (bt (bt hb1 hb2) HB25.out)); have q35 := cell_below q32.out HB25.out; have hm1' := makeI0 (k + m) (by omega); rw [Int.natCast_add] at hm1'; have ba5 := al_below w5 (.cells (Array.replicate (k + m) (.int .i64 0)) 3); have q36 := cell_below q35 ba5; have hs6 := al_size w5 (.cells (Array.replicate (k + m) (.int .i64 0)) 3); have PL := (show Hid _ from places_ok (N := k + m) (m := m + 1) (Jr.below HP5.out ba5) (by omega) (by omega) (by omega)); rw [hs6, Int.natCast_add, Int.natCast_add] at PL; have HA5 := (show Hid _ from ba5); have HS6 := (show Hid _ from hs6); clear ba5 hs6; rcases three_ways n ny with hn0 | ⟨hn0, hnb, hyn⟩ | ⟨hn0, hnb, hyn⟩)
    | (go_at_call 31; refine PL.out.mono ?_; rintro e w6 ⟨P, rfl, hP6, hO6, hb6⟩; clear PL hm1' q35 q36))
  · go_ret
    exact ⟨rfl, HX5.out⟩
  · go_ret
    exact ⟨rfl, HX5.out⟩
  have HY5 := (show Hid _ from nr_cut (q := n) (NrE.below HY0.out (bt (bt hb1 hb2) HB25.out)) (by omega))
  clear hb0 hb1 hb2 hb3 hb4 hb5 g0 HD HC HBY HB0 HP0 HB2 HW HY0 q22 q32 q2 q3
  have HOW : Hid (w6.ownsRow w5.heap.size 3 1 (.slice (some ⟨w5.heap.size, 0, none⟩) 0 (k + m)) 0 []) := owns_below (own_made w5 (k + m) (by omega)) (by rw [HS6.out]; exact hb6)
  have HB56 : Hid (Below w5.heap.size w5 w6) := bt HA5.out (by rw [HS6.out]; exact hb6)
  have HO6' := (show Hid _ from hO6)
  obtain ⟨i1, hi1, hz01, hz11, hz21⟩ := info_parts infoI
  have c1 : (k : Int) + (m : Int) = ((k + m : Nat) : Int) := by omega
  obtain ⟨N, hNe⟩ : ∃ N, N = k + m := ⟨_, rfl⟩
  have HNE : Hid (N = k + m) := hNe
  have hN255 : N ≤ 255 := by omega
  have hmN : m < N := by omega
  rw [← hNe] at hO6 HO6' HOW HN5 c1
  have HC1 := (show Hid _ from c1)
  clear hP6 hO6 hb6 HA5 HS6 c1
  rw [show k + m = N from hNe.symm]
  have j3 : ((N : Int) != (k : Int) + (m : Int)) = false := by rw [hNe]; simp
  clear hNe
  go_loopw [11, 13] (fun v t wr => ∃ s : Nat, s ≤ 2 ∧ t = .int .i64 s ∧ wr.ownsRow w5.heap.size 3 1 v (ot P N s).length (pvs (ot P N s)) ∧ Ov wr 4 (w5.heap.size + 1) (bm P) N ∧ Below w5.heap.size w5 wr) (fun _ t _ => 2 - (intOf t).toNat)
  case atStart => exact ⟨0, by omega, rfl, by unfold ot pvs; exact HOW.out, HO6'.out, HB56.out⟩
  case round =>
    clear HOW HO6' HB56
    obtain ⟨s, hs, rfl, hown, hO, hb⟩ := hrel
    by_cases h2 : s < 2
    · rcases (show s = 0 ∨ s = 1 by omega) with rfl | rfl
      · have hown0 : wr.ownsRow w5.heap.size 3 1 _ _ _ := hown
        clear hown
        go_wp2
        go_loopw [11, 14] (fun v t wr => ∃ j : Nat, j ≤ N ∧ t = .int .i64 j ∧ wr.ownsRow w5.heap.size 3 1 v (([] ++ sel P true j) : List Nat).length (pvs ([] ++ sel P true j)) ∧ Ov wr 4 (w5.heap.size + 1) (bm P) N ∧ Below w5.heap.size w5 wr) (fun _ t _ => N - (intOf t).toNat)
        case atStart => exact ⟨0, Nat.zero_le _, rfl, by rw [sel_zero, List.append_nil]; exact hown0, hO, hb⟩
        case round =>
          clear hown0 hO hb
          obtain ⟨j, hj, rfl, hown2, hO2, hb2⟩ := hrel
          by_cases hlt : j < N
          · have j1 : (j : Int) < (N : Int) := by omega
            have g1 := hO2.cell hlt
            have hl1 := sel_le P true N
            have hl2 := sel_le P true j
            have hl3 := sel_le P false j
            have hl4 : (([] ++ sel P true j) : List Nat).length ≤ 510 := by rw [List.length_append]; first | omega | (simp; omega)
            have M1 : Hid ((([] ++ sel P true j) : List Nat).length + 1 ≤ maxLen) := by show _ ≤ _; unfold maxLen; omega
            have M3 : Hid (∀ o : Obj, w5.heap.size ≤ (wr.alloc o).heap.size) := fun o => by have := hb2.size; simp; omega
            clear hl1 hl2 hl3
            by_cases hin : j ∈ P
            · have T0 : Hid True := trivial
              rw [bm_in hin] at g1
              go_wp2_with (at_builtin; refine wpList_append_own _ rfl _ _ 45 rfl w5.heap.size 3 i1 (.int .i64 0) 1 8 Try.underlying45 hi1 hz01 hz11 hz21 rfl (by decide) _ _ _ rfl (hown2.alloc _) ⟨wr.heap.size, 0, none⟩ 1 1 [.int .i64 (j : Int)] rfl rfl (one_new _ _ _) (one_cellv rfl) M1.out (by omega) (M3.out _) ?_; intro v' w8 hown' hgrow _)
              have hb8 := below_append (hb2.alloc hb2.size _) (M3.out _) hgrow (hown2.alloc _) (Nat.le_refl _)
              have hO8 := Ov.grown (hO2.below ((Below.refl _ wr).alloc (Nat.le_refl _) (.cells #[.int .i64 (j : Int)] 3))) (hown2.alloc _) hgrow (by decide)
              rw [pvs_app] at hown'
              have hl : (([] ++ sel P true j) : List Nat).length + 1 = (([] ++ sel P true j) ++ [j] : List Nat).length := by rw [List.length_append (bs := [j])]; rfl
              rw [hl, List.append_assoc, ← sel_yes (b := true) (by rw [decide_eq_true hin]; rfl)] at hown'
              clear hown2 hgrow
              go_roundw
              case rel => first | exact ⟨j + 1, by omega, by go_num, hown', hO8, hb8⟩ | exact ⟨_, _, ⟨j + 1, by omega, rfl, hown', hO8, hb8⟩, rfl, by go_num⟩ | ((repeat apply Exists.intro); exact ⟨⟨j + 1, by omega, by go_num, hown', hO8, hb8⟩, rfl⟩)
              case measure => simp [intOf]; omega
            · have T0 : Hid True := trivial
              rw [bm_out hin] at g1
              rw [← sel_no (b := true) (by rw [decide_eq_false hin]; decide)] at hown2
              go_wp2
              go_roundw
              case rel => exact ⟨j + 1, by omega, by go_num, hown2, hO2, hb2⟩
              case measure => simp [intOf]; omega
          · obtain rfl : j = N := by omega
            go_wp2
            go_roundw
            case rel => exact ⟨1, by omega, by go_num, hown2, hO2, hb2⟩
            case measure => simp [intOf]
      · have hown0 : wr.ownsRow w5.heap.size 3 1 _ _ _ := hown
        clear hown
        go_wp2
        go_loopw [11, 14] (fun v t wr => ∃ j : Nat, j ≤ N ∧ t = .int .i64 j ∧ wr.ownsRow w5.heap.size 3 1 v ((sel P true N ++ sel P false j) : List Nat).length (pvs (sel P true N ++ sel P false j)) ∧ Ov wr 4 (w5.heap.size + 1) (bm P) N ∧ Below w5.heap.size w5 wr) (fun _ t _ => N - (intOf t).toNat)
        case atStart => exact ⟨0, Nat.zero_le _, rfl, by rw [sel_zero, List.append_nil]; exact hown0, hO, hb⟩
        case round =>
          clear hown0 hO hb
          obtain ⟨j, hj, rfl, hown2, hO2, hb2⟩ := hrel
          by_cases hlt : j < N
          · have j1 : (j : Int) < (N : Int) := by omega
            have g1 := hO2.cell hlt
            have hl1 := sel_le P true N
            have hl2 := sel_le P true j
            have hl3 := sel_le P false j
            have hl4 : ((sel P true N ++ sel P false j) : List Nat).length ≤ 510 := by rw [List.length_append]; first | omega | (simp; omega)
            have M1 : Hid (((sel P true N ++ sel P false j) : List Nat).length + 1 ≤ maxLen) := by show _ ≤ _; unfold maxLen; omega
            have M3 : Hid (∀ o : Obj, w5.heap.size ≤ (wr.alloc o).heap.size) := fun o => by have := hb2.size; simp; omega
            clear hl1 hl2 hl3
            by_cases hin : j ∈ P
            · have T0 : Hid True := trivial
              rw [bm_in hin] at g1
              rw [← sel_no (b := false) (by rw [decide_eq_true hin]; decide)] at hown2
              go_wp2
              go_roundw
              case rel => exact ⟨j + 1, by omega, by go_num, hown2, hO2, hb2⟩
              case measure => simp [intOf]; omega
            · have T0 : Hid True := trivial
              rw [bm_out hin] at g1
              go_wp2_with (at_builtin; refine wpList_append_own _ rfl _ _ 45 rfl w5.heap.size 3 i1 (.int .i64 0) 1 8 Try.underlying45 hi1 hz01 hz11 hz21 rfl (by decide) _ _ _ rfl (hown2.alloc _) ⟨wr.heap.size, 0, none⟩ 1 1 [.int .i64 (j : Int)] rfl rfl (one_new _ _ _) (one_cellv rfl) M1.out (by omega) (M3.out _) ?_; intro v' w8 hown' hgrow _)
              have hb8 := below_append (hb2.alloc hb2.size _) (M3.out _) hgrow (hown2.alloc _) (Nat.le_refl _)
              have hO8 := Ov.grown (hO2.below ((Below.refl _ wr).alloc (Nat.le_refl _) (.cells #[.int .i64 (j : Int)] 3))) (hown2.alloc _) hgrow (by decide)
              rw [pvs_app] at hown'
              have hl : ((sel P true N ++ sel P false j) : List Nat).length + 1 = ((sel P true N ++ sel P false j) ++ [j] : List Nat).length := by rw [List.length_append (bs := [j])]; rfl
              rw [hl, List.append_assoc, ← sel_yes (b := false) (by rw [decide_eq_false hin]; rfl)] at hown'
              clear hown2 hgrow
              go_roundw
              case rel => first | exact ⟨j + 1, by omega, by go_num, hown', hO8, hb8⟩ | exact ⟨_, _, ⟨j + 1, by omega, rfl, hown', hO8, hb8⟩, rfl, by go_num⟩ | ((repeat apply Exists.intro); exact ⟨⟨j + 1, by omega, by go_num, hown', hO8, hb8⟩, rfl⟩)
              case measure => simp [intOf]; omega
          · obtain rfl : j = N := by omega
            go_wp2
            go_roundw
            case rel => exact ⟨2, by omega, by go_num, hown2, hO2, hb2⟩
            case measure => simp [intOf]
    · obtain rfl : s = 2 := by omega
      rw [ot_two] at hown
      obtain ⟨gO, cO, eO, hgO, hcO⟩ := ord_own hown (by omega)
      subst eO
      have HNr := (show Hid _ from NmE.below HN5.out hb)
      have HBr := (show Hid _ from hb)
      have HCO : Hid (∀ i, i < N → wr.cell? ⟨gO, i, none⟩ = some (.int .i64 (od P N i : Nat))) := hcO
      obtain ⟨by5, oy5, epy, hcy5⟩ := (nr_un' HY5.out) (by omega)
      subst epy
      have HYC : Hid (∀ j, j < n → w5.cell? ⟨by5, oy5 + j, none⟩ = some (clE y j)) := hcy5
      obtain ⟨o0, ho0⟩ : ∃ o0, od P N 0 = o0 := ⟨_, rfl⟩
      have HO0 : Hid (od P N 0 = o0) := ho0
      have lo0 : o0 < N := by rw [← ho0]; exact od_lt (by omega)
      have kN : (0 : Int) < (N : Int) := by omega
      have kN2 : 0 < N := by omega
      have k0 : (o0 : Int) < (N : Int) := by omega
      have k1 : (n : Int) ≤ (cy : Int) := by omega
      have k2 : (0 : Int) ≤ (n : Int) := by omega
      have k3 : (0 : Int) ≤ (o0 : Int) := by omega
      clear hown hcO hcy5 ho0 hO hb
      go_wp2_with (go_at_call 20; refine (copied_core (some ⟨b5, o5, none⟩) N c5 (fun _ => n) _ wr (by omega) (fun i _ => hnn) HNr).mono ?_; rintro e w8 ⟨v8, rfl, hM8, hb8⟩; obtain ⟨g8, cap8, N8, f8, e8, hg8, hr8, hO8, hf8⟩ := bm_open hM8 (by omega); subst e8; clear hM8)
      have c0 : w8.cell? ⟨gO, 0, none⟩ = some (.int .i64 (o0 : Int)) := by have h := cell_below (HCO.out 0 (by omega)) hb8; rw [HO0.out] at h; exact h
      have KS1 := (show Hid _ from cell_below c0 (bdr w8))
      have HB58 := (show Hid _ from bt HBr.out hb8)
      have HO8 := (show Hid _ from hO8)
      have HF8 := (show Hid _ from hf8)
      have HB8 := (show Hid _ from hb8)
      have hgO8 : gO < g8 := Nat.lt_of_lt_of_le (block_lt_of_cell (HCO.out 0 (by omega))) hg8
      clear hO8 hf8 hb8
      go_region_held3 (fun X => X.cell? ⟨gO, 0, none⟩ = some (.int .i64 (o0 : Int))) (first | exact KS3.out | exact KS2.out | exact KS1.out | go_keep) (first
        | (revert KS1; intro KS1; refine step_clone rfl _ _ rfl rfl by5 oy5 n cy y (by first | rfl | simp [Act.eval]) (fun j hj => cell_below (HYC.out j hj) (HB58.out.drew)) hnn ?_; intro v9 w9 hBr9 hb9; have KS2 := (show Hid _ from cell_below KS1.out hb9); have hO9 := (HO8.out.below (bdr w8)).below hb9; have x1 := hO9.cell (show o0 < N8 by omega); have x2 := hO9.frozen o0; obtain ⟨p9, c9, e9⟩ := hBr9.form; subst e9; have KS3 := (show Hid _ from ((But.refl g8 w9).set o0 (.slice p9 n c9)).cell KS2.out (show gO ≠ g8 by omega))))
      all_goals
        have HO9 := (show Hid _ from hO9)
        have HBr9 := (show Hid _ from hBr9)
        have HB89 := (show Hid _ from bt (bdr w8) hb9)
        clear hO9 hBr9 hb9 x1 x2
        obtain ⟨f9, hf9⟩ : ∃ f9 : Nat → Value, f9 = (fun i => if i = o0 then .slice p9 n c9 else f8 i) := ⟨_, rfl⟩
        obtain ⟨R, hR⟩ : ∃ R : Nat → Nat → BitVec 8, R = (fun i => if i = o0 then y else mm fdE k F D i) := ⟨_, rfl⟩
        have HF9 : Hid (∀ i, i < N → Br w9 (f9 i) n (R i)) := fun i hi => by
          rw [hf9, hR]
          by_cases e : i = o0
          · simp only [if_pos e]; exact HBr9.out
          · simp only [if_neg e]; exact (HF8.out i hi).below HB89.out
        have HOS : Hid (Ov (w9.setCell ⟨g8, o0, none⟩ (.slice p9 n c9)) 37 g8 (lq (qo P N (1 - 1)) f9) N8) := (HO9.out.set (by omega) _).congr (fun i _ => by rw [show (1 - 1 : Nat) = 0 from rfl, qo_zero, lq_nil, hf9])
        have HC9 : Hid (∀ i, i < N → w9.cell? ⟨gO, i, none⟩ = some (.int .i64 (od P N i : Nat))) := fun i hi => cell_below (HCO.out i hi) (bt HB8.out HB89.out)
        clear hf9 hR
        go_wp2
        go_loopw [16] (fun i wr => ∃ s : Nat, 1 ≤ s ∧ s ≤ m + 1 ∧ i = .int .i64 s ∧ Ov wr 37 g8 (lq (qo P N (s - 1)) f9) N8 ∧ But g8 w9 wr) (fun i _ => m + 1 - (intOf i).toNat)
        case atStart => exact ⟨1, by omega, by omega, rfl, HOS.out, (But.refl _ _).set _ _⟩
        case round =>
          clear HOS
          obtain ⟨s, hs1, hs2, rfl, hO, hbu⟩ := hrel
          by_cases hlt : s ≤ m
          · have j5 : (s : Int) ≤ (m : Int) := by omega
            have j6 : (s : Int) < (N : Int) := by omega
            have ho2 := hbu.cell (HC9.out s (by omega)) (by show gO ≠ g8; omega)
            obtain ⟨os, hos⟩ : ∃ os, od P N s = os := ⟨_, rfl⟩
            have los : os < N := by rw [← hos]; exact od_lt (by omega)
            rw [hos] at ho2
            have HOS : Hid (od P N s = os) := hos
            clear hos
            have j7 : (os : Int) < (N : Int) := by omega
            have j8 : (0 : Int) ≤ (os : Int) := by omega
            have x1 := hO.cell (show os < N8 by omega)
            have x2 := hO.frozen os
            go_wp2
            go_roundw
            case rel => exact ⟨s + 1, by omega, by omega, by go_num, (hO.set (show os < N8 by omega) (.slice none 0 0)).congr (fun i _ => by rw [lq_add, show s + 1 - 1 = s from rfl, qo_step P N s hs1, HOS.out]), hbu.set _ _⟩
            case measure => simp [intOf]; omega
          · obtain rfl : s = m + 1 := by omega
            rw [show m + 1 - 1 = m from rfl] at hO
            have j5 : ¬ (m : Int) + 1 ≤ (m : Int) := by omega
            obtain ⟨Q, hQ⟩ : ∃ Q, qo P N m = Q := ⟨_, rfl⟩
            have HQT : Hid ((thr (lo Q n) (k + m)).length = k) := by show _ = _; rw [← hQ, HNE.out]; exact qo_thr hk1 (by omega)
            rw [hQ] at hO
            clear hQ
            have HLN := (show Hid _ from left_q (cap := cap8) hr8 HO9.out HF9.out hbu hO)
            obtain ⟨D2, hD2⟩ := Fac.open HF.out hkm HQT.out R
            have HD2 := (show Hid _ from hD2)
            have HB9r : Hid (Below w5.heap.size w5 wr) := But.from (bt HB58.out HB89.out) hbu (by have := HBr.out.size; omega)
            clear hD2
            have RB := (show Hid _ from rebuild_ok (vR := .slice (some ⟨g8, 0, none⟩) N cap8) hk1 hm1 hkm hnn (Cd.below HC5.out HB9r.out) HF.out (by rw [← HNE.out]; exact HLN.out) (fun i _ h => lo_pos h) (by rw [HQT.out]; exact Nat.le_refl _) (fun i hi h c _ => HD2.out i hi h c))
            have HOr := (show Hid _ from hO)
            have HFr : Hid (∀ i, i < N → ¬ i ∈ Q → Br wr (f9 i) n (R i)) := fun i hi _ => Br.but (HF9.out i hi) HO9.out hbu
            clear hO hbu
            go_wp2_with (go_at_call 12; refine RB.out.mono ?_; rintro e w10 ⟨v10, rfl, hN10, hb10⟩; obtain ⟨p10, c10, e10⟩ := nmE_form hN10; subst e10; rw [← HNE.out] at hN10; rw [← HNE.out]; have HN10 := (show Hid _ from hN10); have HB10 := (show Hid _ from hb10); clear hN10 hb10 RB)
            go_loopw [19] (fun i wr => ∃ t : Nat, t ≤ N ∧ i = .int .i64 t ∧ Below w10.heap.size w10 wr) (fun i _ => N - (intOf i).toNat)
            case atStart => exact ⟨0, Nat.zero_le _, rfl, Below.refl _ _⟩
            case round =>
              obtain ⟨t, ht, rfl, hb⟩ := hrel
              by_cases hlt : t < N
              · have j9 : (t : Int) < (N : Int) := by omega
                have hbd := (show Hid _ from hb.drew)
                have y1 := cell_below ((HOr.out.below HB10.out).cell (show t < N8 by omega)) hb
                by_cases hq : t ∈ Q
                · rw [lq_in hq] at y1
                  have y2 := cell_below y1 (bdr wr)
                  go_wp2
                  go_region
                  all_goals
                    go_wp2
                    go_roundw
                    case rel => exact ⟨t + 1, by omega, by go_num, hbd.out⟩
                    case measure => simp [intOf]; omega
                · rw [lq_out hq] at y1
                  have hBt := ((HFr.out t hlt hq).below HB10.out).below hbd.out
                  obtain ⟨pt, ct, et⟩ := hBt.form
                  rw [et] at y1 hBt
                  obtain ⟨b10, o10, rows10, ep10, hc10, hn10⟩ := nm_at HN10.out (by omega)
                  subst ep10
                  have y2 := cell_below (hc10 t hlt) hb
                  have e3 := conv_row hBt.nr
                  have e4 := conv_row (NrE.below (hn10 t hlt) hbd.out)
                  rw [str_congr (f := mm fdE k F D2 t) (g := R t) (fun c _ => (HD2.out t (by rw [← HNE.out]; exact hlt) (by rw [lo_out hq]; omega) c).symm)] at e4
                  have KS := (show Hid (_ ∧ _ ∧ _ ∧ _) from ⟨cell_below y1 (bdr wr), cell_below (hc10 t hlt) hbd.out, e3, e4⟩)
                  have kn : ((0 : Int) < (n : Int)) := by omega
                  have kn2 : decide ((0 : Int) < (n : Int)) = true := decide_eq_true kn
                  have kn3 : 0 < n := by omega
                  have kn4 : decide (0 < n) = true := decide_eq_true kn3
                  clear hc10 hn10 hBt et
                  go_wp2
                  go_region_held3 (fun X => X.cell? ⟨g8, t, none⟩ = some (.slice pt n ct) ∧ X.cell? ⟨b10, o10 + t, none⟩ = some (rows10 t) ∧ (convert 37 9 (.slice pt n ct)).run Try.prog X = .ok (.string (str (R t) n)) X ∧ (convert 37 9 (rows10 t)).run Try.prog X = .ok (.string (str (R t) n)) X) (first | exact KS.out | go_keep) (fail)
                  all_goals
                    go_wp2
                    go_roundw
                    case rel => exact ⟨t + 1, by omega, by go_num, hbd.out⟩
                    case measure => simp [intOf]; omega
              · obtain rfl : t = N := by omega
                have CK := (show Hid _ from check_ok hk1 hm1 hkm hnn (Cd.below HC5.out (bt HB9r.out (bt HB10.out hb))) HF.out (by rw [← HNE.out]; exact NmE.below HN10.out hb))
                go_wp2_with (go_at_call 13; refine CK.out.mono ?_; rintro e w12 ⟨rfl, hb12⟩)
                go_ret
                exact ⟨rfl, bt (bt (bt (bt HX5.out HB9r.out) HB10.out) hb) hb12⟩
end
end Go.Proofs.Ytnlmjajdfaambaa
