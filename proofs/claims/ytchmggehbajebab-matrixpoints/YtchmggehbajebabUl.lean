/-
  The laws' own helpers: 'unlike', 'low' of any size.
-/
import Derived.Test.YtchmggehbajebabAl
import Derived.Test.YtchmggehbajebabCc
namespace Go.Proofs.Ytchmggehbajebab
open Go.RowKit
theorem low_gen {s : Int} (n : Int) (hs : 0 < s) (hs2 : s ≤ 1000000) (w : World) : Calls Try.prog 20 #[.int .i64 s, .int .i64 n] w fun e w' => e = .returned (.int .i64 (n % s)) ∧ w' = w := by
  have h0 : ¬ s = 0 := by omega
  have HL : Hid ((wrap64 (n.tmod s + s)).tmod s = n % s) := by
    show _ = _
    have b2 : n.tmod s < s := Int.tmod_lt_of_pos n hs
    have b1 : -s < n.tmod s := Int.lt_tmod_of_pos n hs
    have e1 : wrap64 (n.tmod s + s) = n.tmod s + s := by unfold wrap64; omega
    rw [e1, Int.tmod_eq_emod_of_nonneg (by omega), Int.add_emod_right]
    rcases Int.le_total 0 n with h0 | h0
    · rw [Int.tmod_eq_emod_of_nonneg h0, Int.emod_emod_of_dvd n (Int.dvd_refl s)]
    · have := Int.tmod_add_mul_tdiv n s
      have e : n.tmod s = n + s * (-(n.tdiv s)) := by rw [Int.mul_neg]; omega
      rw [e, Int.add_mul_emod_self_left]
  go_enter Try.func20, Try.ntmps20
  go_wp2
  go_ret
  exact ⟨ret_int HL.out, rfl⟩
/-- Ints as values. -/
def ivs (L : List Int) : List Value := L.map (fun (x : Int) => Value.int .i64 x)
theorem ivs_app (L : List Int) (x : Int) : ivs L ++ [.int .i64 x] = ivs (L ++ [x]) := by unfold ivs; rw [List.map_append]; rfl
theorem ivs_len (L : List Int) : (ivs L).length = L.length := by unfold ivs; rw [List.length_map]
theorem ivs_at {L : List Int} {u : Nat} (hu : u < L.length) : (ivs L)[u]? = some (.int .i64 L[u]) := by
  unfold ivs; rw [List.getElem?_map, List.getElem?_eq_getElem hu]; rfl
theorem ivs_lv (L : List Int) : ivs L = lv (fun j => .int .i64 (L.getD j 0)) L.length := by
  apply List.ext_getElem?
  intro i
  by_cases h : i < L.length
  · rw [ivs_at h, lv_at _ _ _ h]; simp [h]
  · rw [List.getElem?_eq_none (by rw [ivs_len]; omega), List.getElem?_eq_none (by rw [lv_len]; omega)]
theorem owns_form {w : World} {base : Nat} {t : TypeId} {k n : Nat} {v : Value} {xs : List Value} (h : w.ownsRow base t k v n xs) : ∃ p c, v = .slice p n c := by
  rcases h.2 with ⟨hv, h0⟩ | ⟨g, cap, c, hv, _⟩
  · subst h0; exact ⟨_, _, hv⟩
  · exact ⟨_, _, hv⟩
theorem take_mem {L : List Int} {u : Nat} (hu : u < L.length) (x : Int) : x ∈ L.take (u + 1) ↔ x ∈ L.take u ∨ x = L[u] := by
  rw [← List.take_append_getElem hu, List.mem_append, List.mem_singleton]
section
attribute [local irreducible] Calls ivs
set_option maxHeartbeats 8000000 in
set_option maxRecDepth 1000000 in
theorem unlike_core (p1 : Option Addr) (n c1 : Nat) (f : Nat → Int) (w : World) (hn : n ≤ 17592186044416) (H1 : Hid (0 < n → ∃ b o, p1 = some ⟨b, o, none⟩ ∧ ∀ i, i < n → w.cell? ⟨b, o + i, none⟩ = some (.int .i64 (f i)))) :
    Calls Try.prog 19 #[.slice p1 n c1] w fun e w' => ∃ v L, e = .returned v ∧ w'.ownsRow w.heap.size 3 1 v L.length (ivs L) ∧ L.Nodup ∧ (∀ x, x ∈ L → ∃ i, i < n ∧ f i = x) ∧ Below w.heap.size w w' := by
  obtain ⟨i1, hi1, hz01, hz11, hz21⟩ := info_parts infoI
  go_enter Try.func19, Try.ntmps19
  go_wp2
  go_loopw [3, 4] (fun v i wr => ∃ (k : Nat) (L : List Int), k ≤ n ∧ L.length ≤ k ∧ i = .int .i64 k ∧ wr.ownsRow w.heap.size 3 1 v L.length (ivs L) ∧ Hid (L.Nodup) ∧ Hid (∀ x, x ∈ L → ∃ i, i < k ∧ f i = x) ∧ Below w.heap.size w wr) (fun _ i _ => n - (intOf i).toNat)
  case atStart => exact ⟨0, [], Nat.zero_le _, Nat.le_refl _, rfl, by unfold ivs; exact World.ownsRow_nil _ _ _ _, List.nodup_nil, (fun x hx => by cases hx), Below.refl _ _⟩
  case round =>
    obtain ⟨k, L, hk, hLk, rfl, hown, hND, hM, hb⟩ := hrel
    by_cases hlt : k < n
    · have j1 : (k : Int) < (n : Int) := by omega
      obtain ⟨b, o, ep, hc⟩ := H1.out (by omega)
      subst ep
      have g0 := cell_below (hc k hlt) hb
      obtain ⟨pm, cm, em⟩ := owns_form hown
      subst em
      obtain ⟨q, hq⟩ : ∃ q, q = L.length := ⟨_, rfl⟩
      have HQ : Hid (q = L.length) := hq
      have HOW : Hid (World.ownsRow wr w.heap.size 3 1 (.slice pm L.length cm) L.length (ivs L)) := hown
      have HB := (show Hid _ from hb)
      obtain ⟨W0, hW0⟩ : ∃ W0, W0 = wr := ⟨_, rfl⟩
      subst hW0
      rw [← hq]
      have hqk : q ≤ k := by omega
      clear hown hb hc hq hLk
      go_wp2
      go_loopw [5, 6] (fun x i wq => ∃ (t : Nat) (bb : Bool), t ≤ q ∧ i = .int .i64 t ∧ x = .bool bb ∧ Hid (bb = decide (f k ∈ L.take t)) ∧ Below W0.heap.size W0 wq) (fun _ i _ => q - (intOf i).toNat)
      case atStart => exact ⟨0, false, Nat.zero_le _, rfl, rfl, (show false = decide (f k ∈ L.take 0) by simp), Below.refl _ _⟩
      case round =>
        obtain ⟨t, bb, ht, rfl, rfl, hbb, hbq⟩ := hrel
        by_cases hltt : t < q
        · have j2 : (t : Int) < (q : Int) := by omega
          have htl : t < L.length := by have := HQ.out; omega
          cases bb with
          | true =>
            have hbb2 : Hid (true = decide (f k ∈ L.take (t + 1))) := by
              show _ = _
              have h : f k ∈ L.take t := by simpa using hbb.out
              simp [(take_mem htl (f k)).2 (.inl h)]
            go_wp2
            go_quiet (fail)
            go_wp2
            exact ⟨⟨t + 1, true, by omega, by go_num, rfl, hbb2, below_drewN hbq _⟩, by simp [intOf]; omega⟩
          | false =>
            obtain ⟨g, cap, eg, _, _, _, _, cs, hcs⟩ := owns_some HOW.out (by omega)
            injection eg with eg eg2 eg3
            subst eg eg3
            have hg1 : W0.cell? ⟨g, t, none⟩ = some (.int .i64 L[t]) := owns_read HOW.out (ivs_at htl)
            have g1 := cell_below hg1 hbq
            have g2 := cell_below g0 hbq
            have hnot : ¬ f k ∈ L.take t := by simpa using hbb.out
            obtain ⟨y, hy⟩ : ∃ y, y = L[t] := ⟨_, rfl⟩
            rw [← hy] at g1
            clear hg1 hcs
            by_cases he : y = f k
            · have e1 : (y == f k) = true := by simpa using he
              have hbb2 : Hid (true = decide (f k ∈ L.take (t + 1))) := by
                show _ = _
                simp [(take_mem htl (f k)).2 (.inr (by rw [← hy, he]))]
              clear he hy hnot
              go_wp2
              go_quiet (fail)
              go_wp2
              exact ⟨⟨t + 1, true, by omega, by go_num, rfl, hbb2, below_drewN hbq _⟩, by simp [intOf]; omega⟩
            · have e1 : (y == f k) = false := by simpa using he
              have hbb2 : Hid (false = decide (f k ∈ L.take (t + 1))) := by
                show _ = _
                have h : ¬ f k ∈ L.take (t + 1) := fun h => by
                  rcases (take_mem htl (f k)).1 h with h | h
                  · exact hnot h
                  · exact he (by rw [hy, h])
                simp [h]
              clear he hy hnot
              go_wp2
              go_quiet (fail)
              go_wp2
              exact ⟨⟨t + 1, false, by omega, by go_num, rfl, hbb2, below_drewN hbq _⟩, by simp [intOf]; omega⟩
        · obtain rfl : t = q := by omega
          have hall : bb = decide (f k ∈ L) := by rw [hbb.out, HQ.out, List.take_length]
          have HOW2 : Hid (World.ownsRow wr w.heap.size 3 1 (.slice pm L.length cm) L.length (ivs L)) := owns_below HOW.out hbq
          have HB2 := (show Hid _ from bt HB.out hbq)
          have SZ : Hid (w.heap.size ≤ wr.heap.size) := HB2.out.size
          cases bb with
          | true =>
            have h : f k ∈ L := by simpa using hall
            clear hall hbq
            go_wp2
            exact ⟨⟨k + 1, L, by omega, by have := HQ.out; omega, by go_num, by rw [HQ.out]; exact HQ.out ▸ HOW2.out, hND, fun x hx => by obtain ⟨i, hi, e⟩ := hM.out x hx; exact ⟨i, by omega, e⟩, HB2.out⟩, by simp [intOf]; omega⟩
          | false =>
            have h : ¬ f k ∈ L := by simpa using hall
            have g2 := cell_below g0 hbq
            have M1 : Hid (L.length + 1 ≤ maxLen) := by show _ ≤ _; have := HQ.out; unfold maxLen; omega
            have M3 : Hid ((L.length + 1) * 8 ≤ 140737488355328) := by show _ ≤ _; have := HQ.out; omega
            have HN : Hid ((L ++ [f k]).Nodup) := by
              show List.Nodup _
              rw [List.nodup_append]
              exact ⟨hND.out, by simp, fun a ha b hb => by simp at hb; subst hb; exact fun e => h (e ▸ ha)⟩
            have HM2 : Hid (∀ x, x ∈ L ++ [f k] → ∃ i, i < k + 1 ∧ f i = x) := fun x hx => by
              rcases List.mem_append.1 hx with hx | hx
              · obtain ⟨i, hi, e⟩ := hM.out x hx; exact ⟨i, by omega, e⟩
              · simp at hx; exact ⟨k, by omega, hx.symm⟩
            clear hall hbq h
            go_wp2_with (at_builtin; refine wpList_append_own _ rfl _ _ 23 rfl w.heap.size 3 i1 (.int .i64 0) 1 8 Try.underlying23 hi1 hz01 hz11 hz21 rfl (by decide) _ _ _ (by rw [HQ.out]; rfl) (HOW2.out.alloc _) ⟨wr.heap.size, 0, none⟩ 1 1 [.int .i64 (f k)] rfl rfl (one_new _ _ _) (one_cellv rfl) M1.out M3.out (by have := SZ.out; simp at *; omega) ?_; intro v' w4 hown' hgrow _)
            have hb4 := below_append (HB2.out.alloc SZ.out _) (by have := SZ.out; simp at *; omega) hgrow (HOW2.out.alloc _) (Nat.le_refl _)
            rw [ivs_app] at hown'
            clear hgrow
            exact ⟨⟨k + 1, L ++ [f k], by omega, by simp; have := HQ.out; omega, by go_num, by rw [List.length_append]; exact hown', HN, HM2, hb4⟩, by simp [intOf]; omega⟩
    · obtain rfl : k = n := by omega
      go_wp2
      go_ret
      exact ⟨_, L, rfl, hown, hND.out, hM.out, hb⟩
end
theorem unlike_any {w : World} {v : Value} {n : Nat} {f : Nat → Int} (h : Jr w v n f) (hn : n ≤ 17592186044416) :
    Calls Try.prog 19 #[v] w fun e w' => ∃ v' L, e = .returned v' ∧ w'.ownsRow w.heap.size 3 1 v' L.length (ivs L) ∧ L.Nodup ∧ (∀ x, x ∈ L → ∃ i, i < n ∧ f i = x) ∧ Below w.heap.size w w' := by
  obtain ⟨p, c, rfl, h2⟩ := jr_at h
  exact unlike_core p n c f w hn h2
end Go.Proofs.Ytchmggehbajebab
