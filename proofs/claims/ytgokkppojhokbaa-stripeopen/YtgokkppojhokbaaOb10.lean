/-
  Stripe: object.
-/
import Derived.Test.YtgokkppojhokbaaCu10
namespace Go.Proofs.Ytgokkppojhokbaa
open Go.RowKit
/-- The bytes of rows, stripe by stripe. -/
def obm (k : Nat) : List Nat → (Nat → Nat → BitVec 8) → Nat → BitVec 8
  | [], _, _ => 0#8
  | l :: ls, N, p => if p < k * l then N (p / l) (p % l) else obm k ls (fun i c => N i (l + c)) (p - k * l)
theorem obm_at (k : Nat) : ∀ (L : List Nat) (N : Nat → Nat → BitVec 8) (t i c : Nat), t < L.length → i < k → c < L.getD t 0 → obm k L N (k * (L.take t).sum + i * L.getD t 0 + c) = N i ((L.take t).sum + c)
  | [], _, t, _, _, h, _, _ => by simp at h
  | l :: ls, N, 0, i, c, _, hi, hc => by
    have hc' : c < l := hc
    simp only [List.take_zero, List.sum_nil, Nat.zero_add, Nat.mul_zero]
    show (if i * l + c < k * l then _ else _) = _
    have h1 : i * l + c < k * l := by
      have := Nat.mul_le_mul_right l (show i + 1 ≤ k from hi)
      rw [Nat.succ_mul] at this
      omega
    rw [if_pos h1]
    show N ((i * l + c) / l) ((i * l + c) % l) = N i c
    rw [Nat.mul_comm i l, Nat.mul_add_div (by omega), Nat.mul_add_mod, Nat.div_eq_of_lt hc', Nat.mod_eq_of_lt hc', Nat.add_zero]
  | l :: ls, N, t + 1, i, c, ht, hi, hc => by
    have ih := obm_at k ls (fun i c => N i (l + c)) t i c (by simpa using ht) hi (by simpa using hc)
    have eG : (l :: ls).getD (t + 1) 0 = ls.getD t 0 := rfl
    rw [List.take_succ_cons, List.sum_cons, eG]
    show (if k * (l + (ls.take t).sum) + i * ls.getD t 0 + c < k * l then _ else _) = _
    rw [Nat.mul_add, if_neg (by omega), show k * l + k * (ls.take t).sum + i * ls.getD t 0 + c - k * l = k * (ls.take t).sum + i * ls.getD t 0 + c by omega, ih]
    rw [Nat.add_assoc]
theorem obm_dm (k : Nat) : ∀ (L : List Nat) (g : Nat → BitVec 8) (p : Nat), p < k * L.sum → obm k L (dm k L g) p = g p
  | [], _, p, h => by simp at h
  | l :: ls, g, p, h => by
    show (if p < k * l then dm k (l :: ls) g (p / l) (p % l) else _) = _
    by_cases h1 : p < k * l
    · rw [if_pos h1]
      have hl : 0 < l := by
        rcases Nat.eq_zero_or_pos l with h0 | h0
        · subst h0; simp at h1
        · exact h0
      show (if p % l < l then g (p / l * l + p % l) else _) = _
      rw [if_pos (Nat.mod_lt _ hl), Nat.div_add_mod' p l]
    · rw [if_neg h1]
      have e : (fun i c => dm k (l :: ls) g i (l + c)) = dm k ls (fun p => g (k * l + p)) := by
        funext i c
        show (if l + c < l then _ else _) = _
        rw [if_neg (by omega), Nat.add_sub_cancel_left]
      rw [e, obm_dm k ls (fun p => g (k * l + p)) (p - k * l) (by rw [List.sum_cons, Nat.mul_add] at h; omega)]
      show g _ = g _
      congr 1
      omega
/-- The object while it is laid. -/
def obt (X : Nat) (f : Nat → BitVec 8) (p : Nat) : BitVec 8 := if p < X then f p else 0#8
theorem obt_step (k n : Nat) (L : List Nat) (N : Nat → Nat → BitVec 8) (t i pos q : Nat) (ht : t < L.length) (hi : i < k) (hp : pos = min n (k * (L.take t).sum + i * L.getD t 0)) (hq : q = min (L.getD t 0) (n - pos)) (p : Nat) (hpn : p < n) :
    ovl (clE (obt (k * (L.take t).sum + i * L.getD t 0) (obm k L N))) (clE (fun j => N i ((L.take t).sum + j))) pos q p = clE (obt (k * (L.take t).sum + (i + 1) * L.getD t 0) (obm k L N)) p := by
  rw [Nat.succ_mul]
  unfold ovl clE
  by_cases h1 : pos ≤ p ∧ p < pos + q
  · rw [if_pos h1]
    have h2 := obm_at k L N t i (p - pos) ht hi (by omega)
    have h3 : k * (L.take t).sum + i * L.getD t 0 + (p - pos) = p := by omega
    rw [h3] at h2
    unfold obt
    rw [if_pos (by omega), h2]
  · rw [if_neg h1]
    unfold obt
    by_cases h2 : p < k * (L.take t).sum + i * L.getD t 0
    · rw [if_pos h2, if_pos (by omega)]
    · rw [if_neg h2, if_neg (by omega)]
/-- The end of a row of the call's own. -/
theorem cut_left (g pos m c lo : Nat) (p : Option Addr) (hp : 0 < m → p = some ⟨g, pos, none⟩) (hc : m ≤ c) (hl : lo ≤ m) : ∃ p' c', (∀ w', (Instr.slice 23 (.slice p m c) (some (.int .i64 (lo : Int))) none none).run Try.prog w' = .ok (.slice p' (m - lo) c') w') ∧ m - lo ≤ c' ∧ (0 < m - lo → p' = some ⟨g, pos + lo, none⟩) := by
  have hu : Try.prog.underlying 23 = some (.slice (Try.prog.elem 23)) := by kernel_rfl
  have hz : ∀ w', (sizeOf (Try.prog.elem 23)).run Try.prog w' = .ok 1 w' := fun w' => by
    obtain ⟨i0, hi, hz0, hz1, hz2⟩ := info_parts info5
    have e : Try.prog.elem 23 = 5 := by kernel_rfl
    rw [e]
    simp [sizeOf, typeInfo, hi, hz1]
  obtain ⟨p', c', e', hc', hs⟩ : ∃ p' c', sliced p lo m c 1 = .slice p' (m - lo) c' ∧ m - lo ≤ c' ∧ (0 < m - lo → p' = some ⟨g, pos + lo, none⟩) := by
    unfold sliced
    refine ⟨_, _, rfl, by omega, fun h0 => ?_⟩
    rw [hp (by omega), if_neg (by omega), Nat.mul_one]
    exact congrArg some (add_pl g pos lo)
  refine ⟨p', c', fun w' => ?_, hc', hs⟩
  rw [run_slice_l w' 23 p m c hu .i64 (lo : Int) (by omega) (by omega), hz]
  exact congrArg (fun v => Result.ok v w') e'
section
attribute [local irreducible] Calls el Ov clE NmE NmC NrE obm obt
set_option maxHeartbeats 8000000 in
set_option maxRecDepth 1000000 in
theorem object_any {w : World} {p pr : Option Addr} {L : List Nat} {k n T : Nat} {N : Nat → Nat → BitVec 8} (hL : Vr w p (icN L)) (c cr : Nat) (hT : L.sum ≤ T) (hS : T ≤ 140737488355328) (hl : L.length ≤ 1099511627776) (hk1 : 1 ≤ k) (hk : k ≤ 255) (hn : n ≤ 140737488355328) (b o : Nat) (ps : Nat → Option Addr) (epr : pr = some ⟨b, o, none⟩) (hc : ∀ i, i < k → w.cell? ⟨b, o + i, none⟩ = some (.slice (ps i) T T)) (hR : ∀ i, i < k → NrE w (.slice (ps i) T T) T (N i)) :
    Calls Try.prog 36 #[.slice pr k cr, .slice p L.length c, .int .i64 (n : Int)] w fun e w' => ∃ g, e = .returned (.slice (some ⟨g, 0, none⟩) n n) ∧ Ov w' 5 g (clE (obt (k * L.sum) (obm k L N))) n ∧ w.heap.size ≤ g ∧ Below w.heap.size w w' := by
  subst epr
  have hm1 := make_bytes n hn
  have HO0 : Hid (Ov (w.alloc (.cells (Array.replicate n (.int .u8 0)) 5)) 5 w.heap.size (clE (obt (k * (L.take 0).sum) (obm k L N))) n) := (ov_new w 5 (.int .u8 0) n).congr (fun i _ => by unfold clE obt; rw [if_neg (by simp), el0z])
  have HB0 : Hid (Below w.heap.size w (w.alloc (.cells (Array.replicate n (.int .u8 0)) 5))) := (Below.refl _ _).alloc (Nat.le_refl _) _
  have HC := (show Hid (∀ i, i < k → w.cell? ⟨b, o + i, none⟩ = some (.slice (ps i) T T)) from hc)
  have HR := (show Hid (∀ i, i < k → NrE w (.slice (ps i) T T) T (N i)) from hR)
  clear hc hR
  go_enter Try.func36, Try.ntmps36
  go_wp2
  clear hm1
  go_loopw [8, 9, 18] (fun dv av jv wr => ∃ (u pos : Nat) (p' : Option Addr) (c' : Nat), u ≤ L.length ∧ jv = .int .i64 u ∧ av = .int .i64 (((L.take u).sum : Nat) : Int) ∧ dv = .slice p' (n - pos) c' ∧ n - pos ≤ c' ∧ Hid (pos = min n (k * (L.take u).sum)) ∧ Hid (0 < n - pos → p' = some ⟨w.heap.size, pos, none⟩) ∧ Hid (Ov wr 5 w.heap.size (clE (obt (k * (L.take u).sum) (obm k L N))) n) ∧ Below w.heap.size w wr) (fun _ _ j _ => L.length - (intOf j).toNat)
  case atStart => exact ⟨0, 0, some ⟨w.heap.size, 0, none⟩, n, Nat.zero_le _, rfl, rfl, rfl, by omega, by show _ = _; simp, fun _ => rfl, HO0, HB0.out⟩
  case round =>
    clear HO0 HB0
    obtain ⟨u, pos, p', c', hu, rfl, rfl, rfl, hc', hpos, hP, hO, hb⟩ := hrel
    by_cases hlu : u < L.length
    · have j1 : (u : Int) < (L.length : Int) := by omega
      obtain ⟨g1, o1, rfl, hcl⟩ := hL.num u hlu
      have hA1 := sum_take_lt L u hlu
      have hA2 := sum_take_succ L u hlu
      obtain ⟨A, hA⟩ : ∃ A, A = (L.take u).sum := ⟨_, rfl⟩
      obtain ⟨l, hll⟩ : ∃ l, l = L.getD u 0 := ⟨_, rfl⟩
      rw [← hA] at hA1 hA2 hpos hO
      rw [← hA]
      rw [← hll] at hA1 hA2 hcl
      have HA := (show Hid _ from hA)
      have Hll := (show Hid _ from hll)
      have e1 : wrap64 ((A : Int) + (l : Int)) = (A : Int) + (l : Int) := by unfold wrap64; omega
      have e2 : IntKind.i64.wrap ((A : Int) + (l : Int)) = (A : Int) + (l : Int) := i64_fits A l (Nat.le_trans hA1 (Nat.le_trans hT hS))
      clear hA hll
      have HB := (show Hid _ from hb)
      go_wp2
      go_loopw [8, 23] (fun dv iv wr => ∃ (i pos : Nat) (p' : Option Addr) (c' : Nat), i ≤ k ∧ iv = .int .i64 i ∧ dv = .slice p' (n - pos) c' ∧ n - pos ≤ c' ∧ Hid (pos = min n (k * A + i * l)) ∧ Hid (0 < n - pos → p' = some ⟨w.heap.size, pos, none⟩) ∧ Hid (Ov wr 5 w.heap.size (clE (obt (k * A + i * l) (obm k L N))) n) ∧ Below w.heap.size w wr) (fun _ i _ => k - (intOf i).toNat)
      case atStart => exact ⟨0, pos, p', c', Nat.zero_le _, rfl, rfl, hc', by show _ = _; rw [hpos.out]; simp, hP, by rw [Nat.zero_mul, Nat.add_zero]; exact hO, HB.out⟩
      case round =>
        clear hP hO hb HB hpos hc'
        obtain ⟨i, po, p2, c2, hi, rfl, rfl, hc2, hpo, hP, hO, hb⟩ := hrel
        by_cases hli : i < k
        · have j2 : (i : Int) < (k : Int) := by omega
          obtain ⟨q, hq⟩ : ∃ q, q = min l (n - po) := ⟨_, rfl⟩
          have Hq := (show Hid _ from hq)
          have hpn : po ≤ n := by rw [hpo.out]; exact Nat.min_le_left _ _
          have hNd : NrE wr.drew (.slice (ps i) T T) T (N i) := NrE.below (HR.out i hli) hb.drew
          obtain ⟨V, hcut, hV⟩ := cut_piece (lo := A) (n := l) hNd (Nat.le_refl _) (by omega)
          obtain ⟨p3, c3, hcf, hc3, hP3⟩ := cut_left w.heap.size po (n - po) c2 q p2 hP.out hc2 (by omega)
          have g2 := cell_below hcl hb.drew
          have g3 := cell_below (HC.out i hli) hb.drew
          have HOd := (show Hid (Ov wr.drew 5 w.heap.size (clE (obt (k * A + i * l) (obm k L N))) n) from hO.out.below (bdr _))
          have HSv : Hid (Sv wr.drew V l (clE (fun j => N i (A + j))) l) := nr_sv hV
          have HBd := (show Hid _ from hb.drew)
          have HP3 := (show Hid _ from hP3)
          have hq1 : q ≤ n - po := by omega
          have hq2 : q ≤ l := by omega
          clear hO hb hq hcl hNd hV hP3
          go_wp2
          go_region_law (refine step_copy_at rfl _ _ 23 23 rfl 5 Try.underlying23 (by kernel_rfl) p2 (n - po) c2 V rfl rfl w.heap.size po n 5 _ (clE (fun j => N i (A + j))) l q Hq.out HOd.out HSv.out (clE_one _) (fun h => hP.out (by omega)) (by omega) ?_; intro w5 hO5 hB5)
          all_goals
            go_wp2
            go_roundw
            case rel =>
              have en : n - (po + q) = n - po - q := by omega
              refine ⟨i + 1, po + q, p3, c3, by omega, by go_num, by rw [en], by omega, ?_, ?_, ?_, But.from HBd.out hB5 (Nat.le_refl _)⟩
              · have h1 := hpo.out
                have h2 := Hq.out
                show po + q = min n (k * A + (i + 1) * l)
                rw [Nat.succ_mul]
                generalize k * A = x1 at *
                generalize i * l = x2 at *
                omega
              · rw [en]; exact HP3
              · refine hO5.congr (fun j hj => ?_)
                have h := obt_step k n L N u i po q hlu hli (by rw [← HA.out, ← Hll.out]; exact hpo.out) (by rw [← Hll.out]; exact Hq.out) j hj
                rw [← HA.out, ← Hll.out] at h
                exact h
            case measure => simp [intOf]; omega
        · obtain rfl : i = k := by omega
          have g2 := cell_below hcl hb
          go_wp2
          go_roundw
          case rel =>
            refine ⟨u + 1, po, p2, c2, hlu, by go_num, by rw [hA2]; go_num, rfl, hc2, ?_, hP, ?_, hb⟩
            · show po = min n (i * (L.take (u + 1)).sum)
              rw [hA2, Nat.mul_add]; exact hpo.out
            · rw [hA2, Nat.mul_add]; exact hO
          case measure => simp [intOf]; omega
    · obtain rfl : u = L.length := by omega
      rw [List.take_length] at hO
      go_wp2
      go_ret
      exact ⟨_, rfl, hO.out, Nat.le_refl _, hb⟩
end
end Go.Proofs.Ytgokkppojhokbaa
