/-
  Files compared; what is asked of drives that hold much; what a drive of the law's own leaves as it is.
-/
import Derived.Test.YtbkndoamcnfbjaaKv11
import Derived.Deep.RegionLaw
namespace Go.Proofs.Ytbkndoamcnfbjaa
open Go.RowKit Go.Maps Go.Sort
/-- string(row) of a slice that reads as these bytes. -/
theorem conv_tv {w : World} {v : Value} {d : Tx} (h : Tv w v d) : (convert 26 9 v).run Try.prog w = .ok (encStr d) w := by
  rcases h with ⟨rfl, rfl⟩ | ⟨g, c, rfl, hc⟩
  · kernel_rfl
  · exact conv_at hc d.length c rfl
theorem own_cell2 {w : World} {base : Nat} {e : TypeId} {n : Nat} {v : Value} {xs : List Value} (h : w.ownsRow base e 2 v n xs) (i : Nat) (hi : i < n) : ∃ g c cur, v = .slice (some ⟨g, 0, none⟩) n c ∧ w.heap[g]? = some (.cells cur e (0, 0)) ∧ w.cell? ⟨g, i * 2, none⟩ = xs[i * 2]? ∧ w.cell? ⟨g, i * 2 + 1, none⟩ = xs[i * 2 + 1]? := by
  have hl := h.1
  rcases h.2 with ⟨hv, h1⟩ | ⟨g, cap, cur, hv, hg, hb, h1, h2, h3, h4⟩
  · omega
  · refine ⟨g, cap, cur, hv, hb, ?_, ?_⟩
    · rw [cell_of_row w g _ _ _ _ hb, ← h4, List.getElem?_take, if_pos (by omega), Array.getElem?_toList]
    · rw [cell_of_row w g _ _ _ _ hb, ← h4, List.getElem?_take, if_pos (by omega), Array.getElem?_toList]
/-- A file of a list in memory. -/
theorem FsAt.file {w : World} {base : Nat} {v : Value} {L : List (Tx × Tx)} (h : FsAt w base v L) (i : Nat) (hi : i < L.length) : ∃ g c pd cd, v = .slice (some ⟨g, 0, none⟩) L.length c ∧ w.cell? ⟨g, i * 2, none⟩ = some (encStr (L.getD i ([], [])).1) ∧ w.cell? ⟨g, i * 2 + 1, none⟩ = some (.slice pd (L.getD i ([], [])).2.length cd) ∧ Tv w (.slice pd (L.getD i ([], [])).2.length cd) (L.getD i ([], [])).2 := by
  obtain ⟨dv, h1, h2, h3⟩ := h.ex
  obtain ⟨g, c, cur, e1, _, e2, e3⟩ := own_cell2 h2 i hi
  have hz : i < ((L.map (·.1)).zip dv).length := by simp [h1, hi]
  obtain ⟨f1, f2⟩ := flc_at _ i hz
  have hO := h3 i hi
  obtain ⟨p, c', hv⟩ := hO.len
  have e4 : ((L.map (·.1)).zip dv).getD i ([], undef) = ((L.getD i ([], [])).1, dv.getD i undef) := by
    have hd : i < dv.length := by omega
    rw [List.getD, List.getElem?_eq_getElem hz, List.getElem_zip]
    simp [hi, hd]
  rw [e4] at f1 f2
  refine ⟨g, c, p, c', e1, e2.trans f1, ?_, ?_⟩
  · rw [e3.trans f2, ← hv]
  · rw [← hv]; exact hO.tv
theorem FsAt.len {w : World} {base : Nat} {v : Value} {L : List (Tx × Tx)} (h : FsAt w base v L) : ∃ p c, v = .slice p L.length c := own_len h.ex.choose_spec.2.1
/-- Files of a law's own are files that may be loaded. -/
theorem FsAt.fl {w : World} {base : Nat} {p : Option Addr} {n c : Nat} {L : List (Tx × Tx)} (h : FsAt w base (.slice p n c) L) : FlAt w p L := by
  intro i hi
  obtain ⟨g, c', pd, cd, e1, e2, e3, e4⟩ := h.file i hi
  injection e1 with e1
  exact ⟨g, 0, _, e1, by rw [Nat.zero_add]; exact e2, by rw [Nat.zero_add]; exact e3, e4⟩
/-- They stay where their blocks stay. -/
theorem FsAt.keep {w w' : World} {base : Nat} {v : Value} {L : List (Tx × Tx)} (h : FsAt w base v L) (hk : ∀ g, base ≤ g → g < w.heap.size → w'.heap[g]? = w.heap[g]?) : FsAt w' base v L := by
  obtain ⟨dv, h1, h2, h3⟩ := h
  have hrow : ∀ {e : TypeId} {sz n : Nat} {v : Value} {xs : List Value}, w.ownsRow base e sz v n xs → w'.ownsRow base e sz v n xs := by
    intro e sz n v xs h1
    refine ob_same h1 fun g hg => ?_
    rcases h1.2 with ⟨hv, _⟩ | ⟨g', cap, c, hv, hb, hh, _⟩
    · rw [hv] at hg; cases hg
    · rw [hv] at hg
      simp [Value.ownBlock] at hg
      subst hg
      exact hk g' hb (blt hh)
  exact ⟨dv, h1, hrow h2, fun i hi => hrow (h3 i hi)⟩
theorem FsAt.up {w : World} {a b : Nat} {v : Value} {L : List (Tx × Tx)} (h : FsAt w b v L) (hb : a ≤ b) : FsAt w a v L := by
  obtain ⟨dv, h1, h2, h3⟩ := h
  exact ⟨dv, h1, own_up h2 hb, fun i hi => own_up (h3 i hi) hb⟩
theorem Tv.conv {w : World} {v : Value} {d : Tx} (h : Tv w v d) (z : Nat) : (convert 26 9 v).run Try.prog (w.drewN z) = .ok (encStr d) (w.drewN z) := conv_tv (h.below ⟨rfl, rfl, rfl, Nat.le_refl _, fun _ _ => rfl⟩)
theorem size_nms {D : Dir} (h : Tidy D) : Maps.size D = (nms D).length := by
  rw [nms_len]
  obtain ⟨es, rfl, _⟩ := h
  simp [strKeys, Maps.size]
theorem fsz_tol (σ : Ds) (T : Bd → Tx) (D : Dir) (k : Nat) (hk : ∀ i, (T (σ.body i)).length ≤ k) : fsz (tol σ T D) ≤ (nms D).length * (1 + k) := by
  unfold tol fsz
  induction nms D with
  | nil => simp
  | cons x l ih =>
    simp only [List.map_cons, List.sum_cons, List.length_cons]
    have := hk ((lk D x).getD 0)
    rw [Nat.add_mul, Nat.one_mul]
    omega
theorem step_apO {P : Program} {ops : Array Oper} {o : Oper} {a : Act} {w : World} {K : Act → World → Prop} {Q : Exit → Act → World → Prop} {E : Prop}
    (hg : o.guard = none) (s x : Operand) (t : TypeId) (ho : o.op = .call { callee := .builtin .append, args := #[s, x], argTypes := #[t, t] })
    (base : Nat) (e : TypeId) (i : TypeInfo) (z : Value) (size bytes : Nat) (ht : P.underlying t = some (.slice e)) (hi : P.info? e = some i) (hz : i.zero = some z)
    (hsize : i.size = size) (hby : i.bytes = bytes) (hzs : z.cells.size = size) (hsz : 0 < size)
    (v : Value) (n : Nat) (xs : List Value) (hs : a.eval s = v) (hown : w.ownsRow base e size v n xs)
    (ad : Addr) (m c : Nat) (news : List Value) (hx : a.eval x = .slice (some ad) m c) (hl : news.length = m * size) (hnews : ∀ j u, news[j]? = some u → w.cell? (ad.add j) = some u) (h1 : ∀ u ∈ news, u.oneCell' = true)
    (h63 : n + m ≤ maxLen) (hbytes : (n + m) * bytes ≤ 140737488355328) (hbase : base ≤ w.heap.size)
    (h : ∀ v' w', w'.ownsRow base e size v' (n + m) (xs ++ news) → w.grownBy w' v.ownBlock → K (a.put o.dst v') w') :
    if Region.wanted o (yielded ops a.tmps) = true then Oper.wp P o a w K Q else E := by
  have hw : Region.wanted o (yielded ops a.tmps) = true := by simp [Region.wanted, hg]
  rw [if_pos hw]
  exact wp_append_own w s x t ho base e i z size bytes ht hi hz hsize hby hzs hsz v n xs hs hown ad m c news hx hl hnews h1 h63 hbytes hbase (fun v' w' a b _ => h v' w' a b)
section
attribute [local irreducible] Calls
set_option maxHeartbeats 1000000 in
set_option maxRecDepth 1000000 in
theorem same_files {w : World} {b1 b2 : Nat} {u v : Value} {L : List (Tx × Tx)} (h1 : FsAt w b1 u L) (h2 : FsAt w b2 v L) (hL : L.length ≤ 1000000000) : Calls Try.prog 30 #[u, v] w fun e w' => e = .returned (.bool true) ∧ Below w.heap.size w w' := by
  obtain ⟨n, hn⟩ : ∃ n, n = L.length := ⟨_, rfl⟩
  obtain ⟨p1, c1, rfl⟩ : ∃ p c, u = .slice p n c := by rw [hn]; exact own_len h1.ex.choose_spec.2.1
  obtain ⟨p2, c2, rfl⟩ : ∃ p c, v = .slice p n c := by rw [hn]; exact own_len h2.ex.choose_spec.2.1
  have HH := (show Hid (_ ∧ _ ∧ _) from ⟨h1, h2, hn⟩)
  rw [← hn] at hL
  clear h1 h2 hn
  go_enter Try.func30, Try.ntmps30
  go_wp2
  go_loopw [5] (fun i wr => ∃ k : Nat, k ≤ n ∧ i = .int .i64 k ∧ Hid (Below w.heap.size w wr)) (fun i _ => n - (intOf i).toNat)
  case atStart => exact ⟨0, Nat.zero_le _, rfl, Below.refl _ _⟩
  case round =>
    obtain ⟨k, hk, rfl, hB⟩ := hrel
    by_cases hlt : k < n
    · have hi : (k : Int) < (n : Int) := by omega
      obtain ⟨h1, h2, hn⟩ := HH.out
      obtain ⟨g, cg, pd, cd, e1, e2, e3, e4⟩ := (h1.below hB.out).file k (by omega)
      obtain ⟨g', cg', pd', cd', e1', e2', e3', e4'⟩ := (h2.below hB.out).file k (by omega)
      replace e4 := e4.conv
      replace e4' := e4'.conv
      injection e1 with e1 en ec
      injection e1' with e1' en' ec'
      subst e1 ec e1' ec'
      clear en en'
      generalize (L.getD k ([], [])).1 = x at *
      generalize (L.getD k ([], [])).2 = d at *
      generalize d.length = nd at *
      have hxx : (x == x) = true := by simp
      have hdd : (d == d) = true := by simp
      clear h1 h2 hn
      go_wp2
      go_quiet (fail)
      go_wp2
      go_roundw
      case rel => exact ⟨k + 1, by omega, by go_num, hB.out.trans ⟨rfl, rfl, rfl, Nat.le_refl _, fun _ _ => rfl⟩⟩
      case measure => simp [intOf]; omega
    · obtain rfl : k = n := by omega
      have hi : ¬ (k : Int) < (k : Int) := by omega
      go_wp2
      go_ret
      exact ⟨rfl, hB.out⟩
set_option maxRecDepth 1000000 in
theorem image_gen {w : World} {db : Nat} {σ : Ds} {F : Nat → Prop} (h : DrAt w db σ F) (nn : NN σ.st) (hs : Maps.size σ.st ≤ 1000000000) (hl : ∀ i, (σ.body i).data.length ≤ 140737488355328) : Calls Try.prog 24 #[.pointer (some ⟨db, 0, none⟩)] w fun e w' => ∃ v, e = .returned v ∧ FsAt w' w.heap.size v (tol σ (·.data) σ.st) ∧ Below w.heap.size w w' := by
  obtain ⟨hFd, hFw, m, rv, st, sf, pv, S, R⟩ := h
  have c2 := S.cell.2.2.1
  have FI := (show Hid _ from files_im (w := w) (m := m) σ st σ.st (by
    rcases R.dirs with ⟨rfl, rfl, e1, _⟩ | ⟨s, f, rfl, rfl, _, _, _, h1, _⟩
    · exact .inl ⟨rfl, e1⟩
    · exact .inr ⟨s, rfl, h1⟩) nn hs (·.data) hl (fun w' hb i hi => imf_any ((R.below hb).bod i (by rw [← R.len]; exact hi))))
  clear S R nn hs hl hFw hFd
  go_enter Try.func24, Try.ntmps24
  go_wp2_with (go_at_call 60; refine FI.out.mono ?_; rintro e w1 ⟨v, rfl, h1, h2⟩)
  go_ret
  exact ⟨v, rfl, h1, h2⟩
set_option maxRecDepth 1000000 in
theorem safe_gen {w : World} {db : Nat} {σ : Ds} {F : Nat → Prop} (h : DrAt w db σ F) (nf : NN σ.sf) (hs : Maps.size σ.sf ≤ 1000000000) (hl : ∀ i, (σ.body i).data.length ≤ 140737488355328) (sa : ∀ i, (σ.body i).safe ≤ (σ.body i).data.length) : Calls Try.prog 28 #[.pointer (some ⟨db, 0, none⟩)] w fun e w' => ∃ v, e = .returned v ∧ FsAt w' w.heap.size v (tol σ (fun b => b.data.take b.safe) σ.sf) ∧ Below w.heap.size w w' := by
  obtain ⟨hFd, hFw, m, rv, st, sf, pv, S, R⟩ := h
  have c3 := S.cell.2.2.2.1
  have FI := (show Hid _ from files_sa (w := w) (m := m) σ sf σ.sf (by
    rcases R.dirs with ⟨rfl, rfl, _, e1, _⟩ | ⟨s, f, rfl, rfl, _, _, _, _, h1⟩
    · exact .inl ⟨rfl, e1⟩
    · exact .inr ⟨f, rfl, h1⟩) nf hs (fun b => b.data.take b.safe) (fun i => by have := hl i; simp; omega) (fun w' hb i hi => saf_any ((R.below hb).bod i (by rw [← R.len]; exact hi)) (sa i)))
  clear S R nf hs hl sa hFw hFd
  go_enter Try.func28, Try.ntmps28
  go_wp2_with (go_at_call 60; refine FI.out.mono ?_; rintro e w1 ⟨v, rfl, h1, h2⟩)
  go_ret
  exact ⟨v, rfl, h1, h2⟩
end
end Go.Proofs.Ytbkndoamcnfbjaa
