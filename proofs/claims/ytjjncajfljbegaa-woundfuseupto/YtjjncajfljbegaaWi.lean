/-
  The steps of the example that is known.
-/
import Derived.Test.YtjjncajfljbegaaWh
namespace Go.Proofs.Ytjjncajfljbegaa
open Go.RowKit Go.Maps
theorem kn_create {w0 w : World} {wb db : Nat} {g : Gt} {P : DataW Unit} {σ : Ds} (h : Kn w0 w wb db g P σ) (ok : Gok g) (od : Okd σ) (x : Tx) (hx : x.length ≤ 140737488355328) :
    Calls Try.prog 32 #[.pointer (some ⟨wb, 0, none⟩), encStr x] w fun e w' => e = .returned (.int .i64 (if (ahd g P true).1.2 = 0 then ((σ.create x).1 : Int) else (ahd g P true).1.2)) ∧ Kn w0 w' wb db (ahd g P true).2 P (if (ahd g P true).1.2 = 0 then (σ.create x).2 else σ) :=
  h.step (fun e _ => e = _) (fun _ F hK => ⟨fun w' => Fn F w w', fun _ _ hb => hb.elim .inl (fun h => .inr h.1), (kcreate hK ok od x hx).mono (fun _ _ h => ⟨h.1, _, h.2⟩)⟩)
theorem kn_append {w0 w : World} {wb db : Nat} {g : Gt} {P : DataW Unit} {σ : Ds} (h : Kn w0 w wb db g P σ) (ok : Gok g) (od : Okd σ) (x : Tx) (hx : x.length ≤ 9223372036854775807) (p : Option Addr) (n c : Nat) (d : Tx) (hd : Rx w p d) (hpw : ∀ a, p = some a → a.block ≠ wb ∧ a.block < w.heap.size) (hn : d.length = n) (hnc : n ≤ c) (hm : n ≤ 140737488355328) (hc : c ≤ 9223372036854775807)
    (hroom : ∀ i k, σ.find x = .inr i → k ≤ n → σ.used + (k : Int) ≤ (σ.room : Int) → (σ.body i).data.length + k ≤ 140737488355328) :
    Calls Try.prog 33 #[.pointer (some ⟨wb, 0, none⟩), encStr x, .slice p n c] w fun e w' => e = .returned (.int .i64 (kans g P σ x d).1) ∧ Kn w0 w' wb db (ahd g P true).2 P (kans g P σ x d).2 :=
  h.step (fun e _ => e = _) (fun _ F hK => ⟨fun w' => Fn F w w', fun _ _ hb => hb.elim .inl (fun h => .inr h.1), (kappend hK ok od x hx p n c d hd hpw hn hnc hm hc hroom).mono (fun _ _ h => ⟨h.1, _, h.2⟩)⟩)
theorem kn_read {w0 w : World} {wb db : Nat} {g : Gt} {P : DataW Unit} {σ : Ds} (h : Kn w0 w wb db g P σ) (ok : Gok g) (x : Tx) (hx : x.length ≤ 9223372036854775807) (hm : ∀ i, σ.find x = .inr i → (σ.body i).data.length ≤ 140737488355328) :
    Calls Try.prog 35 #[.pointer (some ⟨wb, 0, none⟩), encStr x] w fun e w' => (∃ v, e = .returned (.tuple #[v, .int .i64 (if (ahd g P false).1.2 = 0 then ((σ.read x).1 : Int) else (ahd g P false).1.2)]) ∧ Ob w' w.heap.size v (if (ahd g P false).1.2 = 0 then (σ.read x).2 else []) ∧ Tn (· = wb) w w') ∧ Kn w0 w' wb db (ahd g P false).2 P σ :=
  h.step (fun e w' => ∃ v, e = .returned (.tuple #[v, .int .i64 (if (ahd g P false).1.2 = 0 then ((σ.read x).1 : Int) else (ahd g P false).1.2)]) ∧ Ob w' w.heap.size v (if (ahd g P false).1.2 = 0 then (σ.read x).2 else []) ∧ Tn (· = wb) w w') (fun pl F hK => ⟨fun _ => F, fun _ _ hb => .inl hb, (kread hK ok x hx hm).mono (fun _ _ ⟨⟨v, h1, h2⟩, h3, h4⟩ => ⟨⟨v, h1, h2, h4⟩, pl, h3, h4.more (fun _ h => .inl h)⟩)⟩)
theorem kn_sync_no {w0 w : World} {wb db : Nat} {g : Gt} {P : DataW Unit} {σ : Ds} (h : Kn w0 w wb db g P σ) (ok : Gok g) (v : Value) (he : (ahd g P false).1.2 ≠ 0) :
    Calls Try.prog 36 #[.pointer (some ⟨wb, 0, none⟩), v] w fun e w' => e = .returned (.int .i64 (ahd g P false).1.2) ∧ Kn w0 w' wb db (ahd g P false).2 P σ :=
  h.step (fun e _ => e = _) (fun _ F hK => ⟨fun _ => F, fun _ _ hb => .inl hb, (ksync_no hK ok v he).mono (fun _ _ h => ⟨h.1, _, h.2⟩)⟩)
theorem kn_power {w0 w : World} {wb db : Nat} {g : Gt} {P : DataW Unit} {σ : Ds} (h : Kn w0 w wb db g P σ) (u : Bool) :
    Calls Try.prog 25 #[.pointer (some ⟨wb, 0, none⟩), .bool u] w fun e w' => (∃ v, e = .returned v) ∧ Kn w0 w' wb db { g with off := !u } P σ :=
  h.step (fun e _ => ∃ v, e = .returned v) (fun _ F hK => ⟨fun _ => F, fun _ _ hb => .inl hb, (kpower hK u).mono (fun _ _ h => ⟨h.1, _, h.2⟩)⟩)
theorem kn_offline {w0 w : World} {wb db : Nat} {g : Gt} {P : DataW Unit} {σ : Ds} (h : Kn w0 w wb db g P σ) (u : Bool) :
    Calls Try.prog 37 #[.pointer (some ⟨wb, 0, none⟩), .bool u] w fun e w' => (∃ v, e = .returned v) ∧ Kn w0 w' wb db { g with offl := u } P σ :=
  h.step (fun e _ => ∃ v, e = .returned v) (fun _ F hK => ⟨fun _ => F, fun _ _ hb => .inl hb, (koffline hK u).mono (fun _ _ h => ⟨h.1, _, h.2⟩)⟩)
theorem kn_arm {w0 w : World} {wb db : Nat} {g : Gt} {P : DataW Unit} {σ : Ds} (h : Kn w0 w wb db g P σ) (b cap : Nat) (fs : List Ft) (hreach : fs.length ≤ 1000000000000) (hI : FtAt w b fs) (hbw : b < w.heap.size) (hbb : b ≠ wb) :
    Calls Try.prog 34 #[.pointer (some ⟨wb, 0, none⟩), .slice (some ⟨b, 0, none⟩) fs.length cap] w fun e w' => (∃ v, e = .returned v) ∧ Kn w0 w' wb db { g with calls := 0 } (plD (dnto fs fs.length)) σ :=
  h.step (fun e _ => ∃ v, e = .returned v) (fun _ F hK => ⟨fun _ => F, fun _ _ hb => .inl hb, (karm hK b cap fs hreach hI hbw hbb).mono (fun _ _ ⟨h1, pb, _, h2⟩ => ⟨h1, some pb, h2⟩)⟩)
/-- A drive that is made. -/
theorem new_dr (w : World) (n : Nat) : DrAt (w.alloc (.cells #[.int .i64 (n : Int), .int .i64 0, .map none, .map none, .slice none 0 0] 75)) w.heap.size (Ds.new n) (· = w.heap.size) := by
  refine ⟨rfl, fun b hb => ?_, [], fun _ => undef, none, none, .slice none 0 0, heap_alloc_new w _, ?_⟩
  · have : b = w.heap.size := hb
    simp [this]
  · exact ⟨.inl ⟨rfl, rfl, rfl, rfl, rfl⟩, rfl, List.nodup_nil, fun i hi => absurd hi (Nat.not_lt_zero _), fun i j g hi => absurd hi (Nat.not_lt_zero _), ⟨[], ⟨rfl, .inl ⟨rfl, rfl⟩⟩, rfl, fun j hj => absurd hj (Nat.not_lt_zero _)⟩, fun g hg => by cases hg⟩
/-- A wound that is made, on a drive that is made. -/
theorem new_kn (w : World) (n : Nat) : Kn w ((w.alloc (.cells #[.int .i64 (n : Int), .int .i64 0, .map none, .map none, .slice none 0 0] 75)).alloc (.cells #[.pointer (some ⟨w.heap.size, 0, none⟩), .bool false, .bool false, .map none, .int .i64 0, .int .i64 0, .bool false, .int .i64 0, .int .i64 0, .int .i64 0] 60)) (w.heap.size + 1) w.heap.size ⟨false, false, 0, 0, false, 0, 0, 0⟩ (.map []) (Ds.new n) := by
  have h1 := new_dr w n
  have hs : (w.alloc (.cells #[.int .i64 (n : Int), .int .i64 0, .map none, .map none, .slice none 0 0] 75)).heap.size = w.heap.size + 1 := by simp
  have b1 := (Below.refl _ w).alloc (Nat.le_refl _) (.cells #[.int .i64 (n : Int), .int .i64 0, .map none, .map none, .slice none 0 0] 75)
  generalize w.alloc (.cells #[.int .i64 (n : Int), .int .i64 0, .map none, .map none, .slice none 0 0] 75) = w1 at *
  have b2 := (Below.refl _ w1).alloc (Nat.le_refl _) (.cells #[.pointer (some ⟨w.heap.size, 0, none⟩), .bool false, .bool false, .map none, .int .i64 0, .int .i64 0, .bool false, .int .i64 0, .int .i64 0, .int .i64 0] 60)
  refine ⟨bt b1 b2, Nat.le_succ _, none, (· = w.heap.size), ⟨?_, .inl ⟨rfl, rfl⟩, h1.below b2, fun h => absurd h (Nat.succ_ne_self _), fun b e => by cases e⟩, fun b hb => Nat.le_of_eq (Eq.symm hb)⟩
  unfold WAt
  rw [← hs]
  exact heap_alloc_new w1 _
/-- The drive behind Create, behind Append. -/
def s1 : Ds := ((Ds.new 100).create [97]).2
def s2 : Ds := (s1.append [97] [1, 2, 3]).2
theorem s1_ok : ((Ds.new 100).create [97]).1 = 0 := rfl
theorem s1_lk : lk s1.st [97] = some 0 := lk_put_same (D := .map []) ⟨_, rfl⟩ [97] 0
theorem s1_find : s1.find [97] = .inr 0 := by
  unfold Ds.find
  rw [s1_lk]
  rfl
theorem s2_is : s1.append [97] [1, 2, 3] = (0, { (s1.setBody 0 ⟨[1, 2, 3], 0⟩) with used := 3 }) := by
  unfold Ds.append
  rw [s1_find]
  rfl
theorem s2_find : s2.find [97] = .inr 0 := by
  unfold s2
  rw [s2_is]
  exact s1_find
theorem s2_read : s2.read [97] = (0, [1, 2, 3]) := by
  unfold Ds.read
  rw [s2_find]
  unfold s2
  rw [s2_is]
  rfl
theorem od0 : Okd (Ds.new 100) := ⟨by decide, by decide, fun o => by cases o <;> simp [sz, Ds.new], by decide, by decide⟩
theorem od1 : Okd s1 := by
  refine ⟨by decide, by decide, fun o => ?_, ?_, by decide⟩
  · cases o with
    | none => simp [sz]
    | some i =>
      rw [show s1.bs = [⟨[], 0⟩] from rfl]
      cases i <;> simp [sz]
  · decide
/-- The plan. -/
def fs2 : List Ft := [⟨(1, 1), by decide⟩, ⟨(0, 2), by decide⟩]
def pl2 : DataW Unit := plD (dnto fs2 2)
theorem pat0 : pat pl2 0 = 2 := by rfl
theorem pat1 : pat pl2 1 = 1 := by rfl
abbrev g0 : Gt := ⟨false, false, 0, 0, false, 0, 0, 0⟩
abbrev g1 : Gt := ⟨false, false, 1, 1, false, 0, 0, 0⟩
abbrev g2 : Gt := ⟨false, false, 2, 2, false, 0, 0, 0⟩
abbrev g3 : Gt := ⟨false, false, 0, 2, false, 0, 0, 0⟩
abbrev g4 : Gt := ⟨false, false, 1, 3, false, 0, 0, 0⟩
abbrev g5 : Gt := ⟨false, false, 2, 4, false, 0, 0, 0⟩
abbrev g6 : Gt := ⟨true, false, 2, 4, false, 0, 0, 0⟩
abbrev g7 : Gt := ⟨false, true, 2, 4, false, 0, 0, 0⟩
theorem a0 : ahd g0 (.map []) true = ((false, 0), g1) := by rfl
theorem a1 : ahd g1 (.map []) true = ((false, 0), g2) := by rfl
theorem a3 : ahd g3 pl2 false = ((false, 0), g4) := by
  simp [ahd, plnd, pat0]
theorem a4 : ahd g4 pl2 false = ((false, 120), g5) := by
  simp [ahd, plnd, pat1]
theorem a6 : ahd g6 pl2 false = ((false, 122), g6) := by rfl
theorem a7 : ahd g7 pl2 false = ((false, 121), g7) := by rfl
theorem k0 {w0 w : World} {wb db : Nat} (h : Kn w0 w wb db g0 (.map []) (Ds.new 100)) : Calls Try.prog 32 #[.pointer (some ⟨wb, 0, none⟩), encStr [97]] w fun e w' => e = .returned (.int .i64 0) ∧ Kn w0 w' wb db g1 (.map []) s1 := by
  have := kn_create h ⟨by decide, by decide, by decide, by decide⟩ od0 [97] (by decide)
  rw [a0, if_pos rfl, if_pos rfl, s1_ok] at this
  exact this
theorem k1 {w0 w : World} {wb db : Nat} (h : Kn w0 w wb db g1 (.map []) s1) (b c : Nat) (hb : w.heap[b]? = some (.cells #[.int .u8 1, .int .u8 2, .int .u8 3] 5 (0, 0))) (hbb : b ≠ wb) (h3 : 3 ≤ c) (hc : c ≤ 140737488355328) : Calls Try.prog 33 #[.pointer (some ⟨wb, 0, none⟩), encStr [97], .slice (some ⟨b, 0, none⟩) 3 c] w fun e w' => e = .returned (.int .i64 0) ∧ Kn w0 w' wb db g2 (.map []) s2 := by
  have hR : Rx w (some ⟨b, 0, none⟩) [1, 2, 3] := .inr ⟨b, 0, rfl, fun i hi => by
    rw [cell_of_row w b (0 + i) _ _ _ hb]
    match i, hi with
    | 0, _ => rfl
    | 1, _ => rfl
    | 2, _ => rfl⟩
  have := kn_append h ⟨by decide, by decide, by decide, by decide⟩ od1 [97] (by decide) (some ⟨b, 0, none⟩) 3 c [1, 2, 3] hR (fun a ha => by cases ha; exact ⟨hbb, blt hb⟩) rfl h3 (by omega) (by omega) (fun i k hf hk _ => by
    rw [s1_find] at hf
    cases hf
    have : (s1.body 0).data.length = 0 := rfl
    omega)
  unfold kans at this
  rw [a1, if_pos rfl, s2_is] at this
  unfold s2
  rw [s2_is]
  exact this
theorem k2 {w0 w : World} {wb db : Nat} (h : Kn w0 w wb db g2 (.map []) s2) (b c : Nat) (hb : w.heap[b]? = some (.cells #[.int .i64 1, .int .i64 1, .int .i64 0, .int .i64 2] 79 (0, 0))) (hbb : b ≠ wb) : Calls Try.prog 34 #[.pointer (some ⟨wb, 0, none⟩), .slice (some ⟨b, 0, none⟩) 2 c] w fun e w' => (∃ v, e = .returned v) ∧ Kn w0 w' wb db g3 pl2 s2 := by
  refine kn_arm h b c fs2 (by decide) (fun j hj => ?_) (blt hb) hbb
  rw [cell_of_row w b (j * 2) _ _ _ hb, cell_of_row w b (j * 2 + 1) _ _ _ hb]
  match j, hj with
  | 0, _ => exact ⟨rfl, rfl⟩
  | 1, _ => exact ⟨rfl, rfl⟩
theorem k3 {w0 w : World} {wb db : Nat} (h : Kn w0 w wb db g3 pl2 s2) : Calls Try.prog 35 #[.pointer (some ⟨wb, 0, none⟩), encStr [97]] w fun e w' => (∃ g c, e = .returned (.tuple #[.slice (some ⟨g, 0, none⟩) 3 c, .int .i64 0]) ∧ w.heap.size ≤ g ∧ ∀ i, i < 3 → w'.cell? ⟨g, 0 + i, none⟩ = some (u8v (([1, 2, 3] : Tx).getD i 0))) ∧ Kn w0 w' wb db g4 pl2 s2 := by
  have := kn_read h ⟨by decide, by decide, by decide, by decide⟩ [97] (by decide) (fun i hf => by
    rw [s2_find] at hf
    cases hf
    decide)
  rw [a3, if_pos rfl, if_pos rfl, s2_read] at this
  refine this.mono ?_
  rintro e w' ⟨⟨v, h1, h2, _⟩, h3⟩
  obtain ⟨g, c, rfl, h4⟩ := h2.shape (by simp)
  refine ⟨⟨g, c, h1, ?_, h4⟩, h3⟩
  rcases h2.2 with ⟨hv, _⟩ | ⟨g', cap, cur, hv, hg, _⟩
  · cases hv
  · cases hv; exact hg
theorem k4 {w0 w : World} {wb db : Nat} (h : Kn w0 w wb db g4 pl2 s2) : Calls Try.prog 35 #[.pointer (some ⟨wb, 0, none⟩), encStr [97]] w fun e w' => (∃ p c, e = .returned (.tuple #[.slice p 0 c, .int .i64 120]) ∧ ∀ b o v, b ≠ wb → w.cell? ⟨b, o, none⟩ = some v → w'.cell? ⟨b, o, none⟩ = some v) ∧ Kn w0 w' wb db g5 pl2 s2 := by
  have := kn_read h ⟨by decide, by decide, by decide, by decide⟩ [97] (by decide) (fun i hf => by
    rw [s2_find] at hf
    cases hf
    decide)
  rw [a4, if_neg (by decide), if_neg (by decide)] at this
  refine this.mono ?_
  rintro e w' ⟨⟨v, h1, h2, hT⟩, h3⟩
  have hk : ∀ b o v, b ≠ wb → w.cell? ⟨b, o, none⟩ = some v → w'.cell? ⟨b, o, none⟩ = some v := fun b o v hb hc => by
    have hl : b < w.heap.size := by
      rcases Nat.lt_or_ge b w.heap.size with h | h
      · exact h
      · rw [show w.cell? ⟨b, o, none⟩ = none by simp [World.cell?, Array.getElem?_eq_none h]] at hc
        cases hc
    exact (cell_blk o (hT.block b hl hb)).trans hc
  rcases h2.2 with ⟨hv, _⟩ | ⟨g, cap, cur, hv, _⟩
  · exact ⟨⟨_, _, by rw [h1, hv], hk⟩, h3⟩
  · exact ⟨⟨_, _, by rw [h1, hv]; rfl, hk⟩, h3⟩
theorem k5 {w0 w : World} {wb db : Nat} (h : Kn w0 w wb db g6 pl2 s2) (v : Value) : Calls Try.prog 36 #[.pointer (some ⟨wb, 0, none⟩), v] w fun e w' => e = .returned (.int .i64 122) ∧ Kn w0 w' wb db g6 pl2 s2 := kn_sync_no h ⟨by decide, by decide, by decide, by decide⟩ v (by rw [a6]; decide)
theorem k6 {w0 w : World} {wb db : Nat} (h : Kn w0 w wb db g7 pl2 s2) (v : Value) : Calls Try.prog 36 #[.pointer (some ⟨wb, 0, none⟩), v] w fun e w' => e = .returned (.int .i64 121) ∧ Kn w0 w' wb db g7 pl2 s2 := kn_sync_no h ⟨by decide, by decide, by decide, by decide⟩ v (by rw [a7]; decide)
end Go.Proofs.Ytjjncajfljbegaa
