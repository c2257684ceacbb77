/-
  The laws' small functions: room, call, twin.
-/
import Derived.Test.YtjjncajfljbegaaWm
import Derived.Laws.AppendOwnNone
namespace Go.Proofs.Ytjjncajfljbegaa
open Go.RowKit Go.Maps
/-- A step, but for its kind. -/
structure Sp where
  x : Tx
  y : Tx
  pd : Option Addr
  nd : Nat
  cd : Nat
  a : Int
  b : Int
  c : Int
  ye : Bool
  pp : Option Addr
  np : Nat
  cp : Nat
  pq : Option Addr
  nq : Nat
  cq : Nat
  pr : Option Addr
  nr : Nat
  cr : Nat
def Sp.v (s : Sp) (k : Int) : Array Value := #[.int .i64 k, encStr s.x, encStr s.y, .slice s.pd s.nd s.cd, .int .i64 s.a, .int .i64 s.b, .int .i64 s.c, .bool s.ye, .slice s.pp s.np s.cp, .slice s.pq s.nq s.cq, .slice s.pr s.nr s.cr]
/-- The room of a law's drive. -/
def rmz (n : Int) : Nat := (((n.tmod 400 + 400).tmod 400) + 1).toNat
/-- The kind that a law makes of a step's. -/
def cll (k : Int) : Int := (k.tmod 8 + 7).tmod 8 + 1
theorem tm_bd (n : Int) (m : Int) (h : 0 < m) : -m < n.tmod m ∧ n.tmod m < m := by
  have h1 := Int.lt_tmod_of_pos n h
  have h2 := Int.tmod_lt_of_pos n h
  exact ⟨h1, h2⟩
theorem rmz_bd (n : Int) : 1 ≤ rmz n ∧ rmz n ≤ 400 := by
  unfold rmz
  have h1 := tm_bd n 400 (by decide)
  have h2 := tm_bd (n.tmod 400 + 400) 400 (by decide)
  have h3 := Int.tmod_nonneg 400 (show 0 ≤ n.tmod 400 + 400 by omega)
  omega
theorem cll_bd (k : Int) : 1 ≤ cll k ∧ cll k ≤ 8 := by
  unfold cll
  have h1 := tm_bd k 8 (by decide)
  have h2 := tm_bd (k.tmod 8 + 7) 8 (by decide)
  have h3 := Int.tmod_nonneg 8 (show 0 ≤ k.tmod 8 + 7 by omega)
  omega
theorem new_at (w : World) (o : Obj) (b : Nat) (h : w.heap.size = b) : (w.alloc o).heap[b]? = some o := by rw [← h]; exact heap_alloc_new w o
section
attribute [local irreducible] Calls
set_option maxRecDepth 1000000 in
theorem room_any (n : Int) (w : World) : Calls Try.prog 8 #[.int .i64 n] w fun e w' => e = .returned (.int .i64 (rmz n : Int)) ∧ w' = w := by
  have h1 := tm_bd n 400 (by decide)
  have h2 := tm_bd (n.tmod 400 + 400) 400 (by decide)
  have h3 := Int.tmod_nonneg 400 (show 0 ≤ n.tmod 400 + 400 by omega)
  have w0 : wrap64 (n.tmod 400) = n.tmod 400 := by unfold wrap64; omega
  have w1 : wrap64 (n.tmod 400 + 400) = n.tmod 400 + 400 := by unfold wrap64; omega
  have w2 : wrap64 ((n.tmod 400 + 400).tmod 400) = (n.tmod 400 + 400).tmod 400 := by unfold wrap64; omega
  have w3 : wrap64 ((n.tmod 400 + 400).tmod 400 + 1) = (n.tmod 400 + 400).tmod 400 + 1 := by unfold wrap64; omega
  have e : (rmz n : Int) = (n.tmod 400 + 400).tmod 400 + 1 := by unfold rmz; omega
  rw [e]
  clear h1 h2 h3 e
  go_enter Try.func8, Try.ntmps8
  go_wp2
  go_ret
  refine ⟨?_, rfl⟩
  show Ending.returned (Value.int .i64 (wrap64 ((n.tmod 400 + 400).tmod 400 + 1))) = _
  rw [w3]
set_option maxHeartbeats 1000000 in
set_option maxRecDepth 1000000 in
theorem call_any (k : Int) (s : Sp) (w : World) : Calls Try.prog 11 #[.agg (s.v k)] w fun e w' => e = .returned (.agg (s.v (cll k))) ∧ Below w.heap.size w w' := by
  obtain ⟨x, y, pd, nd, cd, a, b, c, ye, pp, np, cp, pq, nq, cq, pr, nr, cr⟩ := s
  unfold Sp.v cll
  dsimp only
  have h1 := tm_bd k 8 (by decide)
  have h2 := tm_bd (k.tmod 8 + 7) 8 (by decide)
  have w0 : wrap64 (k.tmod 8) = k.tmod 8 := by unfold wrap64; omega
  have w1 : wrap64 (k.tmod 8 + 7) = k.tmod 8 + 7 := by unfold wrap64; omega
  have w2 : wrap64 ((k.tmod 8 + 7).tmod 8) = (k.tmod 8 + 7).tmod 8 := by unfold wrap64; omega
  have w3 : wrap64 ((k.tmod 8 + 7).tmod 8 + 1) = (k.tmod 8 + 7).tmod 8 + 1 := by unfold wrap64; omega
  clear h1 h2
  go_enter Try.func11, Try.ntmps11
  go_wp2
  refine bodyPost_ret (v := .agg #[.int .i64 ((k.tmod 8 + 7).tmod 8 + 1), encStr x, encStr y, .slice pd nd cd, .int .i64 a, .int .i64 b, .int .i64 c, .bool ye, .slice pp np cp, .slice pq nq cq, .slice pr nr cr]) (results_cell_row rfl _ _ (w.heap.size + 1) 36 _ (0, 0) _ rfl (new_at _ _ _ (by simp)) Try.underlying36 rfl (by kernel_rfl)) rfl ⟨rfl, ?_⟩
  exact bt (alb w _) (alb _ _)
theorem dat_src {w : World} {p : Option Addr} {d : Tx} (h : Rx w p d) (hd : d ≠ []) : ∃ b o, p = some ⟨b, o, none⟩ ∧ ∀ j u, (d.map u8v)[j]? = some u → w.cell? ((⟨b, o, none⟩ : Addr).add j) = some u := by
  rcases h with h | ⟨b, o, e, h⟩
  · exact absurd h hd
  · refine ⟨b, o, e, fun j u hj => ?_⟩
    have hl : j < d.length := by
      have := (List.getElem?_eq_some_iff.1 hj).1
      simpa using this
    rw [add_pl, h j hl]
    rw [← hj]
    simp [hl]
set_option maxHeartbeats 1000000 in
set_option maxRecDepth 1000000 in
theorem twin_any {w : World} (p : Option Addr) (n c : Nat) (d : Tx) (h : Rx w p d) (hn : d.length = n) (hm : n ≤ 140737488355328) : Calls Try.prog 22 #[.slice p n c] w fun e w' => ∃ p' c', e = .returned (.slice p' n c') ∧ Ob w' w.heap.size (.slice p' n c') d ∧ n ≤ c' ∧ c' ≤ 9223372036854775807 ∧ Below w.heap.size w w' := by
  obtain ⟨i0, hi0, hz0, hz1, hz2⟩ := info_parts info5
  by_cases hd : d = []
  · subst hd
    have hn0 : n = 0 := by rw [← hn]; rfl
    subst hn0
    clear h hn hm
    cases p with
    | none =>
      go_enter Try.func22, Try.ntmps22
      go_wp2
      go_ret
      exact ⟨none, 0, rfl, ⟨rfl, .inl ⟨rfl, rfl⟩⟩, Nat.le_refl _, by decide, Below.refl _ _⟩
    | some a =>
      go_enter Try.func22, Try.ntmps22
      go_wp2
      go_ret
      exact ⟨none, 0, rfl, ⟨rfl, .inl ⟨rfl, rfl⟩⟩, Nat.le_refl _, by decide, Below.refl _ _⟩
  · obtain ⟨b, o, rfl, hs⟩ := dat_src h hd
    have hn1 : 0 < n := by rw [← hn]; exact List.length_pos_iff.2 hd
    have HH := (show Hid (_ ∧ _) from ⟨hs, hn⟩)
    clear h hs hd hn
    go_enter Try.func22, Try.ntmps22
    go_wp2_with (at_builtin; refine wpList_append_own_at _ rfl _ _ 29 rfl w.heap.size 5 i0 (.int .u8 0) 1 1 Try.underlying29 hi0 hz0 hz1 hz2 rfl (by decide) (.slice none 0 0) 0 [] rfl ⟨rfl, .inl ⟨rfl, rfl⟩⟩ ⟨b, o, none⟩ n c (d.map u8v) rfl (by rw [List.length_map, HH.out.2]; omega) HH.out.1 (app_one d) (by unfold maxLen; omega) (by omega) (Nat.le_refl _) ?_; intro v5 w5 hown5 hg5 _ hloc5)
    go_ret
    rw [Nat.zero_add] at hown5
    rcases hown5.2 with ⟨_, h1⟩ | ⟨g, cap, cur, hv, hg, hb, h1, h2, h3⟩
    · omega
    · subst hv
      refine ⟨_, _, rfl, ?_, h1, h2, ⟨hg5.os, hg5.tape, hg5.output, hg5.size, fun k hk => hg5.block k hk (fun e => by cases e)⟩⟩
      unfold Ob
      rw [HH.out.2]
      exact hown5
end
end Go.Proofs.Ytjjncajfljbegaa
