/-
  Package frame: 'Spoilt'.
-/
import Derived.Test.YtfcjkaigmlfjnaaP8q
import Derived.Laws.Cover3
import Derived.Deep.RegionHeld3
import Derived.Deep.RegionLaw
import Derived.BigCall
import Derived.Test.YtfcjkaigmlfjnaaP8h
namespace Go.Proofs.Ytfcjkaigmlfjnaa
open Go.RowKit
theorem vbl_get (gb go c : Nat) (b : List (BitVec 8)) (s : BitVec 32) (ns : List Nat) : ∀ a j i, i < ns.length → ∃ a', (vbl gb go c b s a j ns)[i]? = some (vb gb (go + a') (ns.getD i 0) (c - a') (rb b a' (ns.getD i 0) s (j + i))) ∧ (rbs b s a j ns)[i]? = some (rb b a' (ns.getD i 0) s (j + i)) := by
  induction ns with
  | nil => intro a j i hi; simp at hi
  | cons n ns ih =>
    intro a j i hi
    cases i with
    | zero => exact ⟨a, by simp [vbl], by simp [rbs]⟩
    | succ i =>
      obtain ⟨a', h1, h2⟩ := ih (a + n + 4) (j + 1) i (by simpa using hi)
      refine ⟨a', ?_, ?_⟩
      · simp only [vbl, List.getElem?_cons_succ, List.getD_cons_succ, h1]
        rw [show j + 1 + i = j + (i + 1) by omega]
      · simp only [rbs, List.getElem?_cons_succ, List.getD_cons_succ, h2]
        rw [show j + 1 + i = j + (i + 1) by omega]
theorem pH_at (b : List (BitVec 8)) (e : (pH b).1 = 0) : (pH b).2.Ok ∧ 40 + (pH b).2.key.length ≤ b.length := by
  obtain ⟨ok, t, hb⟩ := pH_inv b (pH b).2 (by rw [← e])
  refine ⟨ok, ?_⟩
  have := congrArg List.length hb
  rw [List.length_append, Hd.hb_len] at this
  omega
theorem pH_no (b : List (BitVec 8)) (e : (pH b).1 ≠ 0) : (pH b).2 = hd0 := by
  unfold pH at e ⊢
  split
  · rfl
  split
  · rfl
  split
  · rfl
  split
  · rfl
  split
  · rfl
  split
  · rfl
  · rename_i h1 h2 h3 h4 h5 h6
    rw [if_neg h1, if_neg h2, if_neg h3, if_neg h4, if_neg h5, if_neg h6] at e
    exact absurd rfl e
def spn (j : Nat) : Option (List (BitVec 8)) → List Nat
  | none => [j]
  | some _ => []
theorem spo_step (j : Nat) (l : List (Option (List (BitVec 8)))) (t : Nat) (x : Option (List (BitVec 8))) (h : l[t]? = some x) : spo (j + t) (l.drop t) = spn (j + t) x ++ spo (j + (t + 1)) (l.drop (t + 1)) := by
  have hlt : t < l.length := by
    rcases Nat.lt_or_ge t l.length with h1 | h1
    · exact h1
    · rw [List.getElem?_eq_none h1] at h; cases h
  have hd : l.drop t = x :: l.drop (t + 1) := by
    rw [List.drop_eq_getElem_cons hlt]
    rw [List.getElem?_eq_getElem hlt] at h
    injection h with h
    rw [h]
  rw [hd]
  cases x with
  | none => simp only [spo]; rfl
  | some x => simp only [spo]; rfl
theorem eql_some (a : Addr) (n c : Nat) (W : World) : (binOp .eql 35 (.slice (some a) n c) (.slice none 0 0)).run Try.prog W = .ok (.bool false) W := by
  simp [binOp, run_equal_slice_nil _ 35 5 (some a) n c Try.underlying35]
theorem eql_none (W : World) : (binOp .eql 35 (.slice none 0 0) (.slice none 0 0)).run Try.prog W = .ok (.bool true) W := by
  simp [binOp, run_equal_slice_nil _ 35 5 none 0 0 Try.underlying35]
section
attribute [local irreducible] Calls el Hd.cs cmo rg sm bsm vb rb rhd lv cutl kl
set_option maxHeartbeats 4000000 in
set_option maxRecDepth 1000000 in
theorem spoilt_no (RHD : RHd) {w : World} {p : Option Addr} {bs : List (BitVec 8)} (hr : Rd w p bs) (n c : Nat) (hn : bs.length = n) (hc : n ≤ c) (hcc : n ≤ 211106232532992) (h1 : (pH bs).1 ≠ 0) :
    Calls Try.prog 12 #[.slice p n c] w fun e w' => e = .returned (.tuple #[.slice none 0 0, .int .i64 (pH bs).1]) ∧ Below w.heap.size w w' := by
  have al : ∀ (W : World) (o : Obj), Below W.heap.size W (W.alloc o) := fun W o => (Below.refl _ _).alloc (Nat.le_refl _) o
  have PH := (show Hid (∀ W, Below w.heap.size w W → _) from fun W hW => pHead_any RHD (hr.below hW) n c hn hc hcc)
  generalize (pH bs).1 = z at PH h1 ⊢
  generalize (pH bs).2 = hd at PH
  go_enter Try.func12, Try.ntmps12
  go_wp2_with (first
    | (refine wpList_stH hd rfl _ _ rfl rfl w1.heap.size rfl rfl (hz0 (heap_alloc_new w1 _)) ?_; intro wA HA hTA; have hbA := hTA.2.1 _ _ (hb1.alloc hb1.size _) hb1.size)
    | (go_at_call 24; refine (PH.out _ (Below.refl _ _)).mono ?_; rintro e w1 ⟨rfl, hb1⟩))
  go_ret2
  exact ⟨rfl, hbA⟩
set_option maxHeartbeats 4000000 in
set_option maxRecDepth 1000000 in
theorem spoilt_ok (RHD : RHd) {w : World} {gb go : Nat} {bs : List (BitVec 8)} (hr : Rd w (some ⟨gb, go, none⟩) bs) (n c : Nat) (hn : bs.length = n) (hc : n ≤ c) (hcc : n ≤ 211106232532992) (h1 : (pH bs).1 = 0) :
    Calls Try.prog 12 #[.slice (some ⟨gb, go, none⟩) n c] w fun e w' => ∃ v, e = .returned (.tuple #[v, .int .i64 0]) ∧ Oi w' w.heap.size v (spo 0 ((pH bs).2.bk bs)) ∧ Below w.heap.size w w' := by
  have al : ∀ (W : World) (o : Obj), Below W.heap.size W (W.alloc o) := fun W o => (Below.refl _ _).alloc (Nat.le_refl _) o
  have PH := (show Hid _ from pHead_any RHD hr n c hn hc hcc)
  obtain ⟨ok, hl⟩ := pH_at bs h1
  rw [h1] at PH
  have RB := (show Hid (∀ W, Below w.heap.size w W → _) from fun W hW => rightBlocks_any (pH bs).2 ok (hr.below hW) n c hn hc hcc (by omega))
  have hbk : (pH bs).2.bk bs = rbs bs ((pH bs).2.at bs) (40 + (pH bs).2.key.length) 0 (pH bs).2.ls := rfl
  rw [hbk]
  have hlb := (pH bs).2.ls_bd ok
  clear hbk h1
  generalize (pH bs).2 = hd at PH RB ok hl hlb ⊢
  have hg := (show Hid _ from vbl_get gb go c bs (hd.at bs) hd.ls (40 + hd.key.length) 0)
  have hvl := vbl_len gb go c bs (hd.at bs) hd.ls (40 + hd.key.length) 0
  have hrl := rbs_len bs (hd.at bs) hd.ls (40 + hd.key.length) 0
  obtain ⟨L, HLs⟩ : ∃ L, Hid (hd.ls = L) := ⟨_, rfl⟩
  rw [HLs.out] at hlb hvl hrl hg RB ⊢
  generalize vbl gb go c bs (hd.at bs) (40 + hd.key.length) 0 L = us at RB hvl hg
  generalize rbs bs (hd.at bs) (40 + hd.key.length) 0 L = os at hrl hg ⊢
  clear hl
  go_enter Try.func12, Try.ntmps12
  go_wp2_with (first
    | (refine wpList_stH hd rfl _ _ rfl rfl w1.heap.size rfl rfl (hz0 (heap_alloc_new w1 _)) ?_; intro wA HA hTA; have hbA := hTA.2.1 _ _ (hb1.alloc hb1.size _) hb1.size)
    | (refine wpList_loadHd rfl _ rfl w1.heap.size rfl HA ?_)
    | (go_at_call 24; refine PH.out.mono ?_; rintro e w1 ⟨rfl, hb1⟩)
    | (go_at_call 25; refine (RB.out _ hbA).mono ?_; rintro e w2 ⟨v, rfl, hO, hb2⟩; obtain ⟨pv, cv, rfl, hcv, hV⟩ := hO.rd))
  have hb0 := (show Hid (Below w.heap.size w w2) from bt hbA hb2)
  rw [hvl] at *
  clear PH RB hO hbA hb2 HA hTA hb1 hr
  go_loopw [6, 21] (fun o i wr => ∃ (t : Nat) (zs : List Nat), t ≤ L.length ∧ i = .int .i64 (t : Int) ∧ zs.length ≤ t ∧ Hid (zs ++ spo t (os.drop t) = spo 0 os) ∧ Oi wr w2.heap.size o zs ∧ Below w2.heap.size w2 wr) (fun _ i _ => L.length - (intOf i).toNat)
  case atStart => exact ⟨0, [], Nat.zero_le _, rfl, Nat.le_refl _, rfl, Oi.nil _ _, Below.refl _ _⟩
  case round =>
    obtain ⟨t, zs, ht, rfl, hzl, hE, hOr, hbr⟩ := hrel
    by_cases hlt : t < L.length
    · obtain ⟨a', hu, ho⟩ := hg.out t hlt
      rw [Nat.zero_add] at hu ho
      obtain ⟨pb, po, rfl, hc0⟩ : ∃ pb po, pv = some ⟨pb, po, none⟩ ∧ w2.cell? ⟨pb, po + t, none⟩ = some (vb gb (go + a') (L.getD t 0) (c - a') (rb bs a' (L.getD t 0) (hd.at bs) t)) := by
        rcases hV with h | ⟨b, o, e, hcc⟩
        · rw [h] at hu; simp at hu
        · exact ⟨b, o, e, hcc t _ hu⟩
      have hc' := cell_below hc0 hbr
      have hi : (t : Int) < (L.length : Int) := by omega
      have hst := spo_step 0 os t _ ho
      rw [Nat.zero_add, Nat.zero_add] at hst
      have en := eql_none wr
      have es := fun a n c => eql_some a n c wr
      clear hu ho hc0
      generalize L.getD t 0 = d at hst hc'
      cases hx : rb bs a' d (hd.at bs) t with
      | none =>
        rw [hx] at hst hc'
        rw [vb_none] at hc'
        have HE : Hid (zs ++ [t] ++ spo (t + 1) (os.drop (t + 1)) = spo 0 os) := by
          show _ = _
          rw [← hE.out, hst]; simp [spn]
        clear hst hx
        have rc := cell_of_row (wr.alloc (.cells #[.int .i64 (t : Int)] 3)) wr.heap.size 0 _ _ (0, 0) (heap_alloc_new wr _)
        go_wp2_with (at_builtin; refine wpList_api rfl (.tmp 28) (.tmp 30) rfl w2.heap.size u6 zs rfl (hOr.below (al _ _)) ⟨wr.heap.size, 0, none⟩ 1 t rfl rc (by omega) (Nat.le_trans hbr.size (al _ _).size) ?_; intro v6 w6 ho6 hg6)
        go_roundw
        case rel =>
          have hbA := below_append (t := 3) (hbr.alloc hbr.size _) (Nat.le_trans hbr.size (al _ _).size) hg6 (hOr.below (al _ _)) (Nat.le_refl _)
          exact ⟨t + 1, zs ++ [t], hlt, by go_num, by rw [List.length_append]; simp; omega, HE, ho6, hbA⟩
        case measure => simp [intOf]; omega
      | some x =>
        rw [hx] at hst hc'
        rw [vb_some] at hc'
        have HE : Hid (zs ++ spo (t + 1) (os.drop (t + 1)) = spo 0 os) := by
          show _ = _
          rw [← hE.out, hst]; simp [spn]
        clear hst hx
        go_wp2
        go_roundw
        case rel => exact ⟨t + 1, zs, hlt, by go_num, by omega, HE, hOr, hbr⟩
        case measure => simp [intOf]; omega
    · obtain rfl : t = L.length := by omega
      have he := hE.out
      rw [List.drop_of_length_le (by omega)] at he
      have he' : zs = spo 0 os := by rw [← he]; exact (List.append_nil _).symm
      clear he hE
      go_wp2
      go_ret2
      exact ⟨_, rfl, by rw [← he']; exact own_mono hOr hb0.out.size, hb0.out.trans (hbr.mono hb0.out.size)⟩
theorem spoilt_any (RHD : RHd) {w : World} {p : Option Addr} {bs : List (BitVec 8)} (hr : Rd w p bs) (n c : Nat) (hn : bs.length = n) (hc : n ≤ c) (hcc : n ≤ 211106232532992) :
    Calls Try.prog 12 #[.slice p n c] w fun e w' => ∃ v, e = .returned (.tuple #[v, .int .i64 (sP bs).1]) ∧ Oi w' w.heap.size v (sP bs).2 ∧ Below w.heap.size w w' := by
  unfold sP
  by_cases h1 : (pH bs).1 = 0
  · rw [if_neg (not_not_intro h1)]
    obtain ⟨_, hl⟩ := pH_at bs h1
    obtain ⟨gb, go, rfl⟩ : ∃ gb go, p = some ⟨gb, go, none⟩ := by
      rcases hr with h | ⟨b, o, e, _⟩
      · subst h; simp at hl
      · exact ⟨b, o, e⟩
    exact spoilt_ok RHD hr n c hn hc hcc h1
  · rw [if_pos h1]
    refine (spoilt_no RHD hr n c hn hc hcc h1).mono ?_
    rintro e w' ⟨rfl, hb⟩
    exact ⟨_, rfl, Oi.nil _ _, hb⟩
end
end Go.Proofs.Ytfcjkaigmlfjnaa
/-
  Package frame: 'Parse'.
-/
namespace Go.Proofs.Ytfcjkaigmlfjnaa
open Go.RowKit
/-- A shard in memory. -/
def SdAt (w : World) (g : Nat) (h : Hd) (v : Value) : Prop := w.heap[g]? = some (.cells (h.sh v) 31)
theorem SdAt.below {w w' : World} {g : Nat} {h : Hd} {v : Value} (H : SdAt w g h v) (hb : Below w.heap.size w w') : SdAt w' g h v := by
  unfold SdAt at *; rw [hb.block g (Hm.lt H)]; exact H
theorem Turned.sd {g g' : Nat} {w w' : World} {h : Hd} {v : Value} (T : Turned g' w w') (H : SdAt w g h v) (hne : g ≠ g') : SdAt w' g h v := by
  unfold SdAt at *; rw [T.1 g hne]; exact H
theorem sizeSd : (Try.prog.info? 31).map (·.size) = some 17 := by kernel_rfl
theorem sh0_cs : hd0.sh (.slice none 0 0) = #[.int .u8 0, .int .u8 0, .int .u8 0, .int .u8 0, .int .u8 0, .int .u8 0, .int .u8 0, .int .u8 0, .int .i64 0, .int .i64 0, .int .i64 0, .string ⟨#[]⟩, .int .i64 0, .int .i64 0, .int .i64 0, .int .i64 0, .slice none 0 0] := rfl
theorem sz0 {w : World} {g : Nat} (H : w.heap[g]? = some (.cells #[.int .u8 0, .int .u8 0, .int .u8 0, .int .u8 0, .int .u8 0, .int .u8 0, .int .u8 0, .int .u8 0, .int .i64 0, .int .i64 0, .int .i64 0, .string ⟨#[]⟩, .int .i64 0, .int .i64 0, .int .i64 0, .int .i64 0, .slice none 0 0] 31)) : SdAt w g hd0 (.slice none 0 0) := H
theorem sh_size (h : Hd) (v : Value) : (h.sh v).size = 17 := rfl
theorem sh_all (h : Hd) (v : Value) (hv : v.oneCell' = true) : ((h.sh v).all fun x => x.oneCell') = true := by
  unfold Hd.sh
  rw [Array.all_push, cs_all h, hv]; rfl
theorem SdAt.head {w : World} {g : Nat} {h : Hd} {v : Value} (H : SdAt w g h v) : HdIn w g h := by
  intro j u hj
  unfold SdAt at H
  rw [cell_of_row _ _ _ _ _ (0, 0) H]
  unfold Hd.sh
  have hj' : j < h.cs.size := by
    rcases Nat.lt_or_ge j h.cs.toList.length with h1 | h1
    · simpa using h1
    · rw [List.getElem?_eq_none h1] at hj; cases hj
  rw [Array.getElem?_push_lt hj']
  simpa [hj'] using hj
theorem SdAt.last {w : World} {g : Nat} {h : Hd} {v : Value} (H : SdAt w g h v) : w.cell? ⟨g, 16, none⟩ = some v := by
  unfold SdAt at H
  rw [cell_of_row _ _ _ _ _ (0, 0) H]
  unfold Hd.sh
  have : h.cs.size = 16 := rfl
  rw [← this, Array.getElem?_push_size]
theorem SdAt.frozen {w : World} {g : Nat} {h : Hd} {v : Value} (H : SdAt w g h v) (i : Nat) : w.frozen? ⟨g, i, none⟩ = false := frozen_of_row w g i _ _ H
theorem SdAt.set {w : World} {g : Nat} {h : Hd} {v : Value} (H : SdAt w g h v) (u : Value) : SdAt (w.setCell ⟨g, 16, none⟩ u) g h u := by
  unfold SdAt at *
  exact heap_setCell_same w g 16 _ _ _ H
theorem wpList_stS {w : World} {ops : Array Oper} {rest : List Oper} {o : Oper} {a : Act} {Q : Exit → Act → World → Prop} {h0 : Hd} {v0 : Value} (h : Hd) (v : Value) (hv : v.oneCell' = true) (hgd : o.guard = none) (x y : Operand) (ho : o.op = .store 31 x y) (hd : o.dst = none) (g : Nat) (hx : a.eval x = .pointer (some ⟨g, 0, none⟩)) (hy : a.eval y = .agg (h.sh v)) (H : SdAt w g h0 v0)
    (k : ∀ w', SdAt w' g h v → Turned g w w' → wpList Try.prog ops Q rest a w') : wpList Try.prog ops Q (o :: rest) a w := by
  refine wpList_store_rowTo hgd 31 x y ho hd g (h.sh v) hx hy 31 (h0.sh v0) H sizeSd rfl (sh_all h v hv) ?_
  refine k _ ?_ ⟨fun j hj => setRow_other w g j _ hj, fun B w0 hb hB => below_setRow hb hB _, by simp⟩
  unfold SdAt at H ⊢
  exact setRow_heap w g _ _ _ _ H
theorem wpList_ldS {w : World} {ops : Array Oper} {rest : List Oper} {o : Oper} {a : Act} {Q : Exit → Act → World → Prop} {h : Hd} {v : Value} (hgd : o.guard = none) (x : Operand) (ho : o.op = .load 31 x) (g : Nat) (hx : a.eval x = .pointer (some ⟨g, 0, none⟩)) (H : SdAt w g h v)
    (k : wpList Try.prog ops Q rest (a.put o.dst (.agg (h.sh v))) w) : wpList Try.prog ops Q (o :: rest) a w :=
  wpList_load_row hgd 31 x ho g hx 31 (h.sh v) (0, 0) _ H Try.underlying31 rfl sizeSd k
theorem res_sd {fn : Func} {p u : Tmp} (h : fn.results = #[.cell p 31, .tmp u]) (tmps : Array Value) (w : World) (g : Nat) (hd : Hd) (v e : Value) (hp : tmps.getD p undef = .pointer (some ⟨g, 0, none⟩)) (hu : tmps.getD u undef = e) (H : SdAt w g hd v) :
    (results fn tmps).run Try.prog w = .ok (.tuple #[.agg (hd.sh v), e]) w := by
  have hl := run_loadVar_row (P := Try.prog) w g 31 31 (hd.sh v) (0, 0) _ H Try.underlying31 rfl sizeSd
  have hp' : tmps[p]?.getD undef = .pointer (some ⟨g, 0, none⟩) := by simpa using hp
  have hu' : tmps[u]?.getD undef = e := by simpa using hu
  simp [results, h, hp', hu', asAddr, hl]
section
attribute [local irreducible] Calls el Hd.cs Hd.sh cmo rg sm bsm vb rb rhd lv cutl kl
set_option maxHeartbeats 4000000 in
set_option maxRecDepth 1000000 in
theorem clone_any {w : World} {p : Addr} {xs : List (BitVec 8)} (h : Rd w (some p) xs) (n c : Nat) (hn : xs.length = n) (hm : n ≤ 140737488355328) :
    Calls Try.prog 26 #[.slice (some p) n c] w fun e w' => ∃ v, e = .returned v ∧ Ow w' w.heap.size v xs ∧ Below w.heap.size w w' := by
  have es := fun a n c => eql_some a n c w
  go_enter Try.func26, Try.ntmps26
  have al : ∀ (W : World) (o : Obj), Below W.heap.size W (W.alloc o) := fun W o => (Below.refl _ _).alloc (Nat.le_refl _) o
  have o1 := Ow.made w 0 (by omega)
  go_wp2_with (at_builtin; refine wpList_apa rfl (.tmp 5) (.tmp 6) rfl w.heap.size _ [] rfl o1 (some p) n c xs rfl (h.below (al _ _)) hn (by simp; omega) (al _ _).size ?_; intro v1 w1 ho1 hg1 hk1)
  go_ret
  rw [List.nil_append] at ho1
  exact ⟨_, rfl, ho1, o1.below_append (al _ _) (al _ _).size hg1 (Nat.le_refl _)⟩
set_option maxHeartbeats 4000000 in
set_option maxRecDepth 1000000 in
theorem parse_no (RHD : RHd) {w : World} {p : Option Addr} {bs : List (BitVec 8)} (hr : Rd w p bs) (n c : Nat) (hn : bs.length = n) (hc : n ≤ c) (hcc : n ≤ 211106232532992) (h1 : (pH bs).1 ≠ 0) :
    Calls Try.prog 10 #[.slice p n c] w fun e w' => e = .returned (.tuple #[.agg (hd0.sh (.slice none 0 0)), .int .i64 (pH bs).1]) ∧ Below w.heap.size w w' := by
  have al : ∀ (W : World) (o : Obj), Below W.heap.size W (W.alloc o) := fun W o => (Below.refl _ _).alloc (Nat.le_refl _) o
  have PH := (show Hid (∀ W, Below w.heap.size w W → _) from fun W hW => pHead_any RHD (hr.below hW) n c hn hc hcc)
  generalize (pH bs).1 = z at PH h1 ⊢
  generalize (pH bs).2 = hd at PH
  go_enter Try.func10, Try.ntmps10
  have HZ0 := (show Hid _ from sz0 (heap_alloc_new w _))
  go_wp2_with (first
    | (refine wpList_stH hd rfl _ _ rfl rfl w1.heap.size rfl rfl (hz0 (heap_alloc_new w1 _)) ?_; intro wA HA hTA; have hZ := Turned.sd hTA (SdAt.below (SdAt.below HZ0.out hb1) (al _ _)) (Nat.ne_of_lt (Nat.lt_of_lt_of_le (Hm.lt HZ0.out) hb1.size)); have hbA := hTA.2.1 _ _ ((bt (al _ _) hb1).alloc (bt (al _ _) hb1).size _) (bt (al w _) hb1).size)
    | (refine wpList_stS hd0 (.slice none 0 0) rfl rfl _ _ rfl rfl w.heap.size rfl (by rw [sh0_cs]; rfl) hZ ?_; intro wB HB hTB; have hbB := hTB.2.1 _ _ hbA (Nat.le_refl _))
    | (go_at_call 24; refine (PH.out _ (by first | exact Below.refl _ _ | exact al _ _)).mono ?_; rintro e w1 ⟨rfl, hb1⟩))
  refine bodyPost_ret (v := .tuple #[.agg (hd0.sh (.slice none 0 0)), .int .i64 z]) ?_ rfl ⟨rfl, hbB⟩
  exact res_sd rfl _ _ w.heap.size hd0 (.slice none 0 0) _ rfl rfl HB
end
end Go.Proofs.Ytfcjkaigmlfjnaa
/-
  Package frame: 'Parse', its ways.
-/
namespace Go.Proofs.Ytfcjkaigmlfjnaa
open Go.RowKit
theorem run_bdS (h : Hd) (w : World) : (Instr.build 31 #[(0, .agg h.cs)]).run Try.prog w = .ok (.agg (h.sh (.slice none 0 0))) w := by kernel_rfl
theorem wpList_bdS {w : World} {ops : Array Oper} {rest : List Oper} {o : Oper} {a : Act} {Q : Exit → Act → World → Prop} {h : Hd} (hgd : o.guard = none) (x : Operand) (ho : o.op = .build 31 #[(0, x)]) (hx : a.eval x = .agg h.cs)
    (k : wpList Try.prog ops Q rest (a.put o.dst (.agg (h.sh (.slice none 0 0)))) w) : wpList Try.prog ops Q (o :: rest) a w := by
  refine wpList_plain hgd fun K hK => ?_
  unfold Oper.wp execOp
  simp only [ho, List.map_toArray, List.map_cons, List.map_nil, hx, run_bdS, Sem.run_bind, Sem.run_pure, Result.andThen_ok]
  exact hK _ _ k
theorem pH_in (bs : List (BitVec 8)) (h : (pH bs).1 = 0) : (pH bs).2.In := by
  unfold pH at h ⊢
  split
  · rename_i h1; rw [if_pos h1] at h; cases h
  rename_i h1
  rw [if_neg h1] at h
  split
  · rename_i h2; rw [if_pos h2] at h; cases h
  rename_i h2
  rw [if_neg h2] at h
  split
  · rename_i h3; rw [if_pos h3] at h; cases h
  rename_i h3
  rw [if_neg h3] at h
  split
  · rename_i h4; rw [if_pos h4] at h; cases h
  rename_i h4
  rw [if_neg h4] at h
  split
  · rename_i h5; rw [if_pos h5] at h; cases h
  rename_i h5
  rw [if_neg h5] at h
  split
  · rename_i h6; rw [if_pos h6] at h; cases h
  · exact rhd_in _ _
section
attribute [local irreducible] Calls el Hd.cs Hd.sh cmo rg sm bsm vb rb rhd lv cutl kl
set_option maxHeartbeats 4000000 in
set_option maxRecDepth 1000000 in
theorem parse_cut (RHD : RHd) {w : World} {p : Option Addr} {bs : List (BitVec 8)} (hr : Rd w p bs) (n c : Nat) (hn : bs.length = n) (hc : n ≤ c) (hcc : n ≤ 211106232532992) (h1 : (pH bs).1 = 0) (h2 : n < (pH bs).2.len) :
    Calls Try.prog 10 #[.slice p n c] w fun e w' => e = .returned (.tuple #[.agg (hd0.sh (.slice none 0 0)), .int .i64 70]) ∧ Below w.heap.size w w' := by
  have al : ∀ (W : World) (o : Obj), Below W.heap.size W (W.alloc o) := fun W o => (Below.refl _ _).alloc (Nat.le_refl _) o
  have PH := (show Hid (∀ W, Below w.heap.size w W → _) from fun W hW => pHead_any RHD (hr.below hW) n c hn hc hcc)
  obtain ⟨ok, hl⟩ := pH_at bs h1
  have hin := pH_in bs h1
  rw [h1] at PH
  have LE := (show Hid _ from fun w => length_any (pH bs).2 hin (by have := ok.y2; omega) w)
  rw [if_pos ((chk_ok _).2 ok), (chk_ok _).2 ok] at LE
  have hLb := (pH bs).2.len_bd ok
  have HZ0 := (show Hid _ from sz0 (heap_alloc_new w _))
  have i1 : (n : Int) < ((pH bs).2.len : Int) := by omega
  generalize (pH bs).2 = hd at *
  clear ok hl hin
  go_enter Try.func10, Try.ntmps10
  go_wp2_with (first
    | (refine wpList_stH hd rfl _ _ rfl rfl w1.heap.size rfl rfl (hz0 (heap_alloc_new w1 _)) ?_; intro wA HA hTA; have hZ := Turned.sd hTA (SdAt.below (SdAt.below HZ0.out hb1) (al _ _)) (Nat.ne_of_lt (Nat.lt_of_lt_of_le (Hm.lt HZ0.out) hb1.size)); have hbA := hTA.2.1 _ _ ((bt (al _ _) hb1).alloc (bt (al _ _) hb1).size _) (bt (al w _) hb1).size)
    | (refine wpList_loadHd rfl _ rfl w1.heap.size rfl HA ?_)
    | (refine wpList_stS hd0 (.slice none 0 0) rfl rfl _ _ rfl rfl w.heap.size rfl (by rw [sh0_cs]; rfl) hZ ?_; intro wB HB hTB; have hbB := hTB.2.1 _ _ hbA (Nat.le_refl _))
    | (go_at_call 24; refine (PH.out _ (by first | exact Below.refl _ _ | exact al _ _)).mono ?_; rintro e w1 ⟨rfl, hb1⟩)
    | (go_at_call 16; refine (LE.out _).mono ?_; rintro e w3 ⟨rfl, hb⟩; replace HA := HA.below hb; replace hZ := hZ.below hb; replace hbA := bt hbA hb))
  refine bodyPost_ret (v := .tuple #[.agg (hd0.sh (.slice none 0 0)), .int .i64 70]) ?_ rfl ⟨rfl, hbB⟩
  exact res_sd rfl _ _ w.heap.size hd0 (.slice none 0 0) _ rfl rfl HB
set_option maxHeartbeats 4000000 in
set_option maxRecDepth 1000000 in
theorem parse_tail (RHD : RHd) {w : World} {p : Option Addr} {bs : List (BitVec 8)} (hr : Rd w p bs) (n c : Nat) (hn : bs.length = n) (hc : n ≤ c) (hcc : n ≤ 211106232532992) (h1 : (pH bs).1 = 0) (h2 : (pH bs).2.len < n) :
    Calls Try.prog 10 #[.slice p n c] w fun e w' => e = .returned (.tuple #[.agg (hd0.sh (.slice none 0 0)), .int .i64 72]) ∧ Below w.heap.size w w' := by
  have al : ∀ (W : World) (o : Obj), Below W.heap.size W (W.alloc o) := fun W o => (Below.refl _ _).alloc (Nat.le_refl _) o
  have PH := (show Hid (∀ W, Below w.heap.size w W → _) from fun W hW => pHead_any RHD (hr.below hW) n c hn hc hcc)
  obtain ⟨ok, hl⟩ := pH_at bs h1
  have hin := pH_in bs h1
  rw [h1] at PH
  have LE := (show Hid _ from fun w => length_any (pH bs).2 hin (by have := ok.y2; omega) w)
  rw [if_pos ((chk_ok _).2 ok), (chk_ok _).2 ok] at LE
  have hLb := (pH bs).2.len_bd ok
  have HZ0 := (show Hid _ from sz0 (heap_alloc_new w _))
  have i1 : ¬ (n : Int) < ((pH bs).2.len : Int) := by omega
  have i2 : ((pH bs).2.len : Int) < (n : Int) := by omega
  generalize (pH bs).2 = hd at *
  clear ok hl hin
  go_enter Try.func10, Try.ntmps10
  go_wp2_with (first
    | (refine wpList_stH hd rfl _ _ rfl rfl w1.heap.size rfl rfl (hz0 (heap_alloc_new w1 _)) ?_; intro wA HA hTA; have hZ := Turned.sd hTA (SdAt.below (SdAt.below HZ0.out hb1) (al _ _)) (Nat.ne_of_lt (Nat.lt_of_lt_of_le (Hm.lt HZ0.out) hb1.size)); have hbA := hTA.2.1 _ _ ((bt (al _ _) hb1).alloc (bt (al _ _) hb1).size _) (bt (al w _) hb1).size)
    | (refine wpList_loadHd rfl _ rfl w1.heap.size rfl HA ?_)
    | (refine wpList_stS hd0 (.slice none 0 0) rfl rfl _ _ rfl rfl w.heap.size rfl (by rw [sh0_cs]; rfl) hZ ?_; intro wB HB hTB; have hbB := hTB.2.1 _ _ hbA (Nat.le_refl _))
    | (go_at_call 24; refine (PH.out _ (by first | exact Below.refl _ _ | exact al _ _)).mono ?_; rintro e w1 ⟨rfl, hb1⟩)
    | (go_at_call 16; refine (LE.out _).mono ?_; rintro e w3 ⟨rfl, hb⟩; replace HA := HA.below hb; replace hZ := hZ.below hb; replace hbA := bt hbA hb))
  refine bodyPost_ret (v := .tuple #[.agg (hd0.sh (.slice none 0 0)), .int .i64 72]) ?_ rfl ⟨rfl, hbB⟩
  exact res_sd rfl _ _ w.heap.size hd0 (.slice none 0 0) _ rfl rfl HB
end
end Go.Proofs.Ytfcjkaigmlfjnaa
/-
  Package frame: rows in a shard that is made: what 'Parse' keeps.
-/
namespace Go.Proofs.Ytfcjkaigmlfjnaa
open Go.RowKit
theorem step_apr {ops : Array Oper} {o : Oper} {a : Act} {w : World} {K : Act → World → Prop} {Q : Exit → Act → World → Prop} {E : Prop} (hgd : o.guard = none) (s x : Operand) (ho : o.op = .call { callee := .builtin .append, args := #[s, x], argTypes := #[29, 29] })
    (base : Nat) (v : Value) (us : List Value) (hs : a.eval s = v) (hown : Or w base v us) (ad : Addr) (c : Nat) (u : Value) (hu : u.oneCell' = true) (hx : a.eval x = .slice (some ad) 1 c) (hr : w.cell? ad = some u) (hm : us.length + 1 ≤ 1099511627776) (hbase : base ≤ w.heap.size)
    (h : ∀ v' w', Or w' base v' (us ++ [u]) → w.grownBy w' v.ownBlock → K (a.put o.dst v') w') : if Region.wanted o (yielded ops a.tmps) = true then Oper.wp Try.prog o a w K Q else E := by
  have hw : Region.wanted o (yielded ops a.tmps) = true := by simp [Region.wanted, hgd]
  rw [if_pos hw]
  obtain ⟨i0, hi, hz0, hz1, hz2⟩ := info_parts infoR
  have S : ∀ j t, ([u] : List Value)[j]? = some t → w.cell? (ad.add j) = some t := by
    intro j t ht
    match j with
    | 0 =>
      simp at ht
      rw [show ad.add 0 = ad by unfold Addr.add; split <;> simp_all, hr, ht]
    | j + 1 => simp at ht
  refine wp_append_own w s x 29 ho base 35 i0 (.slice none 0 0) 1 24 Try.underlying29 hi hz0 hz1 hz2 rfl (by decide) v us.length _ hs hown ad 1 c [u] hx rfl S (by intro t ht; simp at ht; subst ht; exact hu) (by unfold maxLen; omega) (by omega) hbase ?_
  intro v' w' ho' hg _
  refine h v' w' ?_ hg
  unfold Or
  simpa using ho'
/-- An own list of own rows. -/
def Bl (w : World) (B : Nat) (v : Value) (bl : List (List (BitVec 8))) : Prop := ∃ us, Or w B v us ∧ us.length = bl.length ∧ ∀ i, i < bl.length → Ow w B (us.getD i (.slice none 0 0)) (bl.getD i [])
theorem Bl.nil (w : World) (B : Nat) : Bl w B (.slice none 0 0) [] := ⟨[], Or.nil _ _, rfl, fun i hi => by simp at hi⟩
theorem Ow.young {w w' : World} {B g : Nat} {u : Value} {xs : List (BitVec 8)} (h : Ow w B u xs) (hg : w.grownBy w' (some g)) (hgB : g < B) : Ow w' B u xs := ow_kept h hgB hg
theorem Or.young {w w' : World} {B g : Nat} {v : Value} {us : List Value} (h : Or w B v us) (hg : w.grownBy w' (some g)) (hgB : g < B) : Or w' B v us :=
  World.ownsRow.kept h hg (.inr (fun e => by have := own_lt h e; omega))
theorem Bl.below {w w' : World} {B : Nat} {v : Value} {bl : List (List (BitVec 8))} (h : Bl w B v bl) (hb : Below w.heap.size w w') : Bl w' B v bl := by
  obtain ⟨us, h1, h2, h3⟩ := h
  exact ⟨us, h1.below hb, h2, fun i hi => (h3 i hi).below hb⟩
theorem Bl.young {w w' : World} {B g : Nat} {v : Value} {bl : List (List (BitVec 8))} (h : Bl w B v bl) (hg : w.grownBy w' (some g)) (hgB : g < B) : Bl w' B v bl := by
  obtain ⟨us, h1, h2, h3⟩ := h
  exact ⟨us, h1.young hg hgB, h2, fun i hi => (h3 i hi).young hg hgB⟩
/-- A row is not the list of rows. -/
theorem ow_or {w w' : World} {B B' : Nat} {u v : Value} {xs : List (BitVec 8)} {us : List Value} (h : Ow w B u xs) (hv : Or w B' v us) (hg : w.grownBy w' v.ownBlock) : Ow w' B u xs := by
  refine World.ownsRow.kept h hg ?_
  cases hb : u.ownBlock with
  | none => exact .inl rfl
  | some g =>
    refine .inr (fun e => ?_)
    obtain ⟨_, _, cs, hc⟩ := own_lt hv e.symm
    obtain ⟨_, _, ds, hd⟩ := own_lt h hb
    rw [hc] at hd
    injection hd with hd
    injection hd with _ hd
    cases hd
theorem Bl.push {w w' : World} {B : Nat} {v v' u : Value} {bl : List (List (BitVec 8))} {us : List Value} {x : List (BitVec 8)} (h1 : Or w B v us) (h2 : us.length = bl.length) (h3 : ∀ i, i < bl.length → Ow w B (us.getD i (.slice none 0 0)) (bl.getD i [])) (hu : Ow w B u x) (hO : Or w' B v' (us ++ [u])) (hg : w.grownBy w' v.ownBlock) : Bl w' B v' (bl ++ [x]) := by
  refine ⟨us ++ [u], hO, by simp [h2], fun i hi => ?_⟩
  rw [List.length_append, List.length_singleton] at hi
  by_cases hlt : i < bl.length
  · have := ow_or (h3 i hlt) h1 hg
    simpa [List.getD, List.getElem?_append_left hlt, List.getElem?_append_left (h2 ▸ hlt : i < us.length)] using this
  · have e : i = bl.length := by omega
    subst e
    have := ow_or hu h1 hg
    have e2 : (us ++ [u]).getD bl.length (.slice none 0 0) = u := by rw [← h2]; simp [List.getD]
    have e3 : (bl ++ [x]).getD bl.length [] = x := by simp [List.getD]
    rw [e2, e3]; exact this
theorem Bl.rws {w : World} {B : Nat} {v : Value} {bl : List (List (BitVec 8))} (h : Bl w B v bl) : ∃ p c, v = .slice p bl.length c ∧ bl.length ≤ c ∧ Rws w p bl := by
  obtain ⟨us, h1, h2, h3⟩ := h
  obtain ⟨p, c, hv, hc, hV⟩ := h1.rd
  rw [h2] at hv hc
  refine ⟨p, c, hv, hc, ?_⟩
  by_cases h0 : bl = []
  · exact .inl h0
  · rcases hV with h | ⟨b, o, e, hcell⟩
    · rw [h] at h2; exact absurd (List.length_eq_zero_iff.1 h2.symm) h0
    · refine .inr ⟨b, o, e, fun i hi => ?_⟩
      obtain ⟨q, d, hq, hd, hr⟩ := (h3 i hi).rd
      refine ⟨q, d, ?_, hd, hr⟩
      rw [← hq]
      exact hcell i _ (by simp [List.getD, show i < us.length by omega])
theorem SdAt.kept {w w' : World} {g : Nat} {h : Hd} {v : Value} {r : Option Nat} (H : SdAt w g h v) (hg : w.grownBy w' r) (hne : r ≠ some g) : SdAt w' g h v := by
  have hl := Hm.lt H
  unfold SdAt at *
  rw [hg.block g hl (fun e => hne e.symm)]; exact H
/-- A shard is not the list of its rows. -/
theorem sd_or {w w' : World} {g B : Nat} {h : Hd} {v u : Value} {us : List Value} (H : SdAt w g h v) (hv : Or w B u us) (hg : w.grownBy w' u.ownBlock) : SdAt w' g h v := by
  refine H.kept hg (fun e => ?_)
  obtain ⟨_, _, cs, hc⟩ := own_lt hv e
  unfold SdAt at H
  rw [H] at hc
  injection hc with hc
  injection hc with _ hc
  cases hc
end Go.Proofs.Ytfcjkaigmlfjnaa
/-
  Package frame: 'Parse', its blocks.
-/
namespace Go.Proofs.Ytfcjkaigmlfjnaa
open Go.RowKit
theorem alls_no (l : List (Option (List (BitVec 8)))) (t : Nat) (h : l[t]? = some none) : alls l = none := by
  induction l generalizing t with
  | nil => simp at h
  | cons x xs ih =>
    cases x with
    | none => rfl
    | some x =>
      cases t with
      | zero => simp at h
      | succ t =>
        have := ih t (by simpa using h)
        simp only [alls, this]
theorem rb_some {b : List (BitVec 8)} {a n j : Nat} {s : BitVec 32} {x : List (BitVec 8)} (h : rb b a n s j = some x) : x = cutl b a n ∧ a + n + 4 ≤ b.length := by
  unfold rb at h
  split at h
  · cases h
  split at h
  · cases h
  · injection h with h; exact ⟨h.symm, by omega⟩
theorem run_clone (args : Array Value) (w : World) : (callFunc 26 args).run Try.prog w = .ok (.enter 26 args) w := by kernel_rfl
theorem step_call {ops : Array Oper} {dst : Option Tmp} {ty : TypeId} {pos : String} {after : Array Edge} {xs : Array Operand} {ats : Array TypeId} {a : Act} {w : World} {K : Act → World → Prop} {Q : Exit → Act → World → Prop} {E : Prop}
    (args : Array Value) (hargs : xs.map a.eval = args) (h : Calls Try.prog 26 args w fun e w' => ∃ v, e = .returned v ∧ K (a.put dst v) w') :
    if Region.wanted { dst := dst, op := .call { callee := .value (.func 26), args := xs, argTypes := ats }, type := ty, pos := pos, after := after, guard := none } (yielded ops a.tmps) = true
      then Oper.wp Try.prog { dst := dst, op := .call { callee := .value (.func 26), args := xs, argTypes := ats }, type := ty, pos := pos, after := after, guard := none } a w K Q else E := by
  have hw : Region.wanted { dst := dst, op := .call { callee := .value (.func 26), args := xs, argTypes := ats }, type := ty, pos := pos, after := after, guard := none } (yielded ops a.tmps) = true := by simp [Region.wanted]
  rw [if_pos hw]
  unfold Oper.wp
  rw [execOp_call_go, run_clone, Oper.upon_enter]
  have e : #[] ++ xs.map a.eval ++ #[] = args := by rw [hargs]; simp
  rw [e]
  refine h.mono ?_
  rintro e w' ⟨v, rfl, hk⟩
  exact hk
theorem Turned.grown {g : Nat} {w w' : World} (T : Turned g w w') : w.grownBy w' (some g) := by
  have b := T.2.1 g w (Below.refl _ _) (Nat.le_refl _)
  exact ⟨b.os, b.tape, b.output, by rw [T.2.2]; exact Nat.le_refl _, fun k _ hne => T.1 k (fun e => hne (by rw [e]))⟩
theorem grown_or {w w1 w2 : World} {r B : Nat} {v : Value} {us : List Value} (h : w.grownBy w1 (some r)) (ho : Or w1 B v us) (hB : w.heap.size ≤ B) (k : w1.grownBy w2 v.ownBlock) : w.grownBy w2 (some r) := by
  cases hb : v.ownBlock with
  | none => rw [hb] at k; exact ⟨k.os.trans h.os, k.tape.trans h.tape, k.output.trans h.output, Nat.le_trans h.size k.size, fun i hi hne => (k.block i (Nat.lt_of_lt_of_le hi h.size) (fun e => by cases e)).trans (h.block i hi hne)⟩
  | some g => rw [hb] at k; exact grown_new h (Nat.le_trans hB (own_lt ho hb).1) k
theorem Bl.mono {w : World} {B B' : Nat} {v : Value} {bl : List (List (BitVec 8))} (h : Bl w B v bl) (hb : B' ≤ B) : Bl w B' v bl := by
  obtain ⟨us, h1, h2, h3⟩ := h
  exact ⟨us, own_mono h1 hb, h2, fun i hi => (h3 i hi).mono hb⟩
/-- What Parse comes to where its bytes are just as many. -/
def PaS (w : World) (hd : Hd) (os : List (Option (List (BitVec 8)))) (e : Ending) (w' : World) : Prop :=
  Below w.heap.size w w' ∧ match alls os with
    | none => e = .returned (.tuple #[.agg (hd0.sh (.slice none 0 0)), .int .i64 82])
    | some bl => ∃ v, e = .returned (.tuple #[.agg (hd.sh v), .int .i64 0]) ∧ Bl w' w.heap.size v bl
theorem PaS.no {w : World} {hd : Hd} {os : List (Option (List (BitVec 8)))} {w' : World} (h : alls os = none) (hb : Below w.heap.size w w') : PaS w hd os (.returned (.tuple #[.agg (hd0.sh (.slice none 0 0)), .int .i64 82])) w' := by
  refine ⟨hb, ?_⟩; rw [h]
theorem PaS.ok {w : World} {hd : Hd} {os : List (Option (List (BitVec 8)))} {w' : World} {bl : List (List (BitVec 8))} {v : Value} (h : alls os = some bl) (hb : Below w.heap.size w w') (hB : Bl w' w.heap.size v bl) : PaS w hd os (.returned (.tuple #[.agg (hd.sh v), .int .i64 0])) w' := by
  refine ⟨hb, ?_⟩; rw [h]; exact ⟨v, rfl, hB⟩
section
attribute [local irreducible] Calls el Hd.cs Hd.sh cmo rg sm bsm vb rb rhd lv cutl kl PaS
set_option maxHeartbeats 40000000 in
set_option maxRecDepth 1000000 in
theorem parse_main (RHD : RHd) {w : World} {gb go : Nat} {bs : List (BitVec 8)} (hr : Rd w (some ⟨gb, go, none⟩) bs) (n c : Nat) (hn : bs.length = n) (hc : n ≤ c) (hcc : n ≤ 211106232532992) (h1 : (pH bs).1 = 0) (h2 : (pH bs).2.len = n) :
    Calls Try.prog 10 #[.slice (some ⟨gb, go, none⟩) n c] w fun e w' => PaS w (pH bs).2 ((pH bs).2.bk bs) e w' := by
  have al : ∀ (W : World) (o : Obj), Below W.heap.size W (W.alloc o) := fun W o => (Below.refl _ _).alloc (Nat.le_refl _) o
  have PH := (show Hid (∀ W, Below w.heap.size w W → _) from fun W hW => pHead_any RHD (hr.below hW) n c hn hc hcc)
  obtain ⟨ok, hl⟩ := pH_at bs h1
  have hin := pH_in bs h1
  rw [h1] at PH
  have LE := (show Hid _ from fun w => length_any (pH bs).2 hin (by have := ok.y2; omega) w)
  rw [if_pos ((chk_ok _).2 ok), (chk_ok _).2 ok] at LE
  have hLb := (pH bs).2.len_bd ok
  have HZ0 := (show Hid _ from sz0 (heap_alloc_new w _))
  have i1 : ¬ (n : Int) < ((pH bs).2.len : Int) := by omega
  have i2 : ¬ ((pH bs).2.len : Int) < (n : Int) := by omega
  have RB := (show Hid (∀ W, Below w.heap.size w W → _) from fun W hW => rightBlocks_any (pH bs).2 ok (hr.below hW) n c hn hc hcc (by omega))
  have hbk : (pH bs).2.bk bs = rbs bs ((pH bs).2.at bs) (40 + (pH bs).2.key.length) 0 (pH bs).2.ls := rfl
  rw [hbk]
  have hlb := (pH bs).2.ls_bd ok
  clear hbk h1 h2
  generalize (pH bs).2 = hd at *
  have hg := (show Hid _ from vbl_get gb go c bs (hd.at bs) hd.ls (40 + hd.key.length) 0)
  have hvl := vbl_len gb go c bs (hd.at bs) hd.ls (40 + hd.key.length) 0
  have hrl := rbs_len bs (hd.at bs) hd.ls (40 + hd.key.length) 0
  generalize hd.ls = L at hlb hvl hrl hg RB ⊢
  generalize vbl gb go c bs (hd.at bs) (40 + hd.key.length) 0 L = vus at RB hvl hg
  generalize rbs bs (hd.at bs) (40 + hd.key.length) 0 L = os at hrl hg ⊢
  go_enter Try.func10, Try.ntmps10
  go_wp2_with (first
    | (refine wpList_stH hd rfl _ _ rfl rfl w1.heap.size rfl rfl (hz0 (heap_alloc_new w1 _)) ?_; intro wA HA hTA; have hZ := Turned.sd hTA (SdAt.below (SdAt.below HZ0.out hb1) (al _ _)) (Nat.ne_of_lt (Nat.lt_of_lt_of_le (Hm.lt HZ0.out) hb1.size)); have hbA := hTA.2.1 _ _ ((bt (al _ _) hb1).alloc (bt (al _ _) hb1).size _) (bt (al w _) hb1).size)
    | (refine wpList_loadHd rfl _ rfl w1.heap.size rfl HA ?_)
    | (refine wpList_stS hd0 (.slice none 0 0) rfl rfl _ _ rfl rfl w.heap.size rfl (by rw [sh0_cs]; rfl) hZ ?_; intro wB HB hTB; have hbB := hTB.2.1 _ _ hbA (Nat.le_refl _))
    | (go_at_call 24; refine (PH.out _ (by first | exact Below.refl _ _ | exact al _ _)).mono ?_; rintro e w1 ⟨rfl, hb1⟩)
    | (go_at_call 16; refine (LE.out _).mono ?_; rintro e w3 ⟨rfl, hb⟩; replace HA := HA.below hb; replace hZ := hZ.below hb; replace hbA := bt hbA hb; have hz3 := Hm.lt hZ)
    | (refine wpList_bdS rfl _ rfl rfl ?_)
    | (refine wpList_stS hd (.slice none 0 0) rfl rfl _ _ rfl rfl w3.heap.size rfl rfl (sz0 (heap_alloc_new w3 _)) ?_; intro wS HS hTS; replace HA := Turned.hd hTS (HA.below (al _ _)) (Nat.ne_of_lt HA.lt); replace hZ := Turned.sd hTS (hZ.below (al _ _)) (Nat.ne_of_lt (Hm.lt hZ)); replace hbA := hTS.2.1 _ _ (hbA.alloc hbA.size _) hbA.size)
    | (go_at_call 25; refine (RB.out _ hbA).mono ?_; rintro e w4 ⟨v, rfl, hO, hb4⟩; obtain ⟨pv, cv, rfl, hcv, hV⟩ := hO.rd))
  rw [hvl] at *
  have hbw4 := (show Hid (Below w.heap.size w w4) from bt hbA hb4)
  have HS4 := (show Hid (SdAt w4 w3.heap.size hd (.slice none 0 0)) from SdAt.below HS hb4)
  have HR4 := (show Hid (SdAt w4 w.heap.size hd0 (.slice none 0 0)) from SdAt.below hZ hb4)
  have hgS := (show Hid (w3.heap.size < wS.heap.size ∧ wS.heap.size ≤ w4.heap.size ∧ w.heap.size < w3.heap.size) from ⟨Hm.lt HS, hb4.size, hz3⟩)
  have hVne := (show Hid (∀ b o, pv = some ⟨b, o, none⟩ → 0 < L.length → wS.heap.size ≤ b) from fun b o e _ => (own_lt hO (by rw [e]; rfl)).1)
  clear PH LE RB HA hZ hTA HZ0
  go_loopw [41] (fun i wr => ∃ (t : Nat) (bl : List (List (BitVec 8))) (v : Value), t ≤ L.length ∧ i = .int .i64 (t : Int) ∧ bl.length = t ∧ Hid (os.take t = bl.map some) ∧ SdAt wr w3.heap.size hd v ∧ Bl wr w4.heap.size v bl ∧ w4.grownBy wr (some w3.heap.size)) (fun i _ => L.length - (intOf i).toNat)
  case atStart => exact ⟨0, [], .slice none 0 0, Nat.zero_le _, rfl, rfl, rfl, HS4.out, Bl.nil _ _, grefl _ _⟩
  case round =>
    obtain ⟨t, bl, v, ht, rfl, hbl, hE, hSd, hBl, hgr⟩ := hrel
    have hbr : Below w.heap.size w wr := hbw4.out.grown hgr hbw4.out.size (fun k hk => by injection hk with hk; have := hgS.out; omega)
    have hRr := HR4.out.kept hgr (fun e => by injection e with e; have := hgS.out; omega)
    by_cases hlt : t < L.length
    · obtain ⟨a', hu, ho⟩ := hg.out t hlt
      rw [Nat.zero_add] at hu ho
      obtain ⟨pb, po, rfl, hc0⟩ : ∃ pb po, pv = some ⟨pb, po, none⟩ ∧ w4.cell? ⟨pb, po + t, none⟩ = some (vb gb (go + a') (L.getD t 0) (c - a') (rb bs a' (L.getD t 0) (hd.at bs) t)) := by
        rcases hV with h | ⟨b, o, e, hcc⟩
        · rw [h] at hu; simp at hu
        · exact ⟨b, o, e, hcc t _ hu⟩
      have hpb := hVne.out pb po rfl (by omega)
      have hc' := hgr.cell hc0 (fun e => by injection e with e; have e : pb = w3.heap.size := e; have := hgS.out; omega)
      have hi : (t : Int) < (L.length : Int) := by omega
      have en := eql_none wr
      have es := fun a n c => eql_some a n c wr
      clear hu hc0
      generalize L.getD t 0 = d at ho hc'
      cases hx : rb bs a' d (hd.at bs) t with
      | none =>
        rw [hx] at ho hc'
        rw [vb_none] at hc'
        have HN := (show Hid _ from alls_no os t ho)
        clear ho hx
        go_wp2_with (refine wpList_stS hd0 (.slice none 0 0) rfl rfl _ _ rfl rfl w.heap.size rfl (by rw [sh0_cs]; rfl) hRr ?_; intro wB HB hTB)
        refine bodyPost_ret (v := .tuple #[.agg (hd0.sh (.slice none 0 0)), .int .i64 82]) ?_ rfl (PaS.no HN.out (hTB.2.1 _ _ hbr (Nat.le_refl _)))
        exact res_sd rfl _ _ w.heap.size hd0 (.slice none 0 0) _ rfl rfl HB
      | some x =>
        rw [hx] at ho hc'
        rw [vb_some] at hc'
        obtain ⟨hxx, hxl⟩ := rb_some hx
        have HX0 : os.take (t + 1) = (bl ++ [x]).map some := by
          rw [List.take_add_one, ho, hE.out]; simp
        have HX := (show Hid (os.take (t + 1) = (bl ++ [x]).map some) from HX0)
        clear HX0
        obtain ⟨us, hOr, hul, hrows⟩ := hBl
        obtain ⟨q, cq, hvq, hcq, _⟩ := hOr.rd
        rw [hul, hbl] at hvq hcq
        subst hvq
        have HRW := (show Hid (∀ i, i < bl.length → Ow wr w4.heap.size (us.getD i (.slice none 0 0)) (bl.getD i [])) from hrows)
        have hSz := hgr.size
        have hrx := (show Hid (Rd wr.drew (some ⟨gb, go + a', none⟩) x) from by rw [hxx]; exact (hr.below hbr.drew).cutl a' d (by omega))
        have hxd : x.length = d := by rw [hxx]; exact cutl_len _ _ _ (by omega)
        have CL := (show Hid _ from fun c' => clone_any hrx.out d c' hxd (by omega))
        have hSd0 := (show Hid (SdAt wr.drew w3.heap.size hd (.slice q t cq)) from SdAt.below hSd ((Below.refl _ _).drew))
        have hOr0 := (show Hid (Or wr.drew w4.heap.size (.slice q t cq) us) from hOr.below ((Below.refl _ _).drew))
        have KS := (show Hid (_ ∧ _) from ⟨hSd0.out.last, hSd0.out.frozen 16⟩)
        have hcell := hSd.last
        clear ho hx hxx hrows hOr
        go_wp2
        have k0 := hSd0.out.last
        go_region_law (first
          | (refine step_call #[.slice (some ⟨gb, go + a', none⟩) d (c - a')] (by simp [Act.eval, Act.put]) ?_; refine (CL.out _).mono ?_; rintro e w5 ⟨vc, rfl, hO5, hb5⟩; refine ⟨_, rfl, ?_⟩; obtain ⟨pc, cc, hv5, hcc5, hrc⟩ := hO5.rd; rw [hxd] at hv5; subst hv5; have hS5 := (show Hid (SdAt w5 w3.heap.size hd (.slice q t cq)) from SdAt.below hSd0.out hb5); have KH := (show Hid (_ ∧ _) from ⟨hS5.out.last, hS5.out.frozen 16⟩); have hS6 := (show Hid (SdAt (w5.alloc (.cells #[.slice pc d cc] 35)) w3.heap.size hd (.slice q t cq)) from SdAt.below hS5.out (al _ _)); have KA := (show Hid (_ ∧ _) from ⟨hS6.out.last, hS6.out.frozen 16⟩); have hO6 := (show Hid (Or (w5.alloc (.cells #[.slice pc d cc] 35)) w4.heap.size (.slice q t cq) us) from (hOr0.out.below hb5).below (al _ _)); have rc := cell_of_row (w5.alloc (.cells #[.slice pc d cc] 35)) w5.heap.size 0 _ _ (0, 0) (heap_alloc_new w5 _); have k5 := hS5.out.last; have k6 := hS6.out.last)
          | (refine step_apr rfl _ _ rfl w4.heap.size (.slice q t cq) us rfl hO6.out ⟨w5.heap.size, 0, none⟩ 1 (.slice pc d cc) rfl rfl rc (by omega) (Nat.le_trans hSz (Nat.le_trans hb5.size (al _ _).size)) ?_; intro v7 w7 ho7 hg7; obtain ⟨p7, c7, hv7, hc7, _⟩ := ho7.rd; rw [List.length_append, hul, hbl, List.length_singleton] at hv7 hc7; subst hv7; have hS7 := (show Hid (SdAt w7 w3.heap.size hd (.slice q t cq)) from sd_or hS6.out hO6.out hg7); have k7 := hS7.out.last; have f7 := hS7.out.frozen 16))
        all_goals
          go_wp2
          go_roundw
          case rel =>
            have hd5 := (show Below wr.heap.size wr w5 from ((Below.refl _ _).drew).trans hb5)
            have hd6 := bt hd5 (al w5 (.cells #[.slice pc d cc] 35))
            have hrows6 : ∀ i, i < bl.length → Ow (w5.alloc (.cells #[.slice pc d cc] 35)) w4.heap.size (us.getD i (.slice none 0 0)) (bl.getD i []) := fun i hi => (HRW.out i hi).below hd6
            have hu6 : Ow (w5.alloc (.cells #[.slice pc d cc] 35)) w4.heap.size (.slice pc d cc) x := (hO5.mono hSz).below (al _ _)
            have hB7 := Bl.push hO6.out hul hrows6 hu6 ho7 hg7
            have hg6 := grown_or (grown_below hgr hd6) hO6.out (Nat.le_refl _) hg7
            refine ⟨t + 1, bl ++ [x], .slice p7 (t + 1) c7, hlt, by go_num, by rw [List.length_append, hbl]; rfl, HX, hS7.out.set _, hB7.young (grown_set _ _ _ _) (by have := hgS.out; omega), gtrans hg6 (grown_set _ _ _ _)⟩
          case measure => simp [intOf]; omega
    · obtain rfl : t = L.length := by omega
      have he := hE.out
      rw [List.take_of_length_le (by omega)] at he
      have hal : Hid (alls os = some bl) := by show _ = _; rw [he]; exact alls_map bl
      obtain ⟨q, cq, rfl, hcq, _⟩ := hBl.rws
      clear he hE
      go_wp2_with (first
        | (refine wpList_ldS rfl _ rfl w3.heap.size rfl hSd ?_)
        | (refine wpList_stS hd (.slice q bl.length cq) rfl rfl _ _ rfl rfl w.heap.size rfl rfl hRr ?_; intro wB HB hTB))
      refine bodyPost_ret (v := .tuple #[.agg (hd.sh (.slice q bl.length cq)), .int .i64 0]) ?_ rfl (PaS.ok hal.out (hTB.2.1 _ _ hbr (Nat.le_refl _)) ((hBl.young hTB.grown (by have := hgS.out; omega)).mono (by have := hgS.out; omega)))
      exact res_sd rfl _ _ w.heap.size hd (.slice q bl.length cq) _ rfl rfl HB
end
end Go.Proofs.Ytfcjkaigmlfjnaa
/-
  Package frame: 'Parse', whole.
-/
namespace Go.Proofs.Ytfcjkaigmlfjnaa
open Go.RowKit
theorem rhd_ok : RHd := fun _ _ _ _ _ _ h hk cf nk ck hn hc hkl => readHead_any h hk cf nk ck hn hc hkl
theorem parse_any {w : World} {p : Option Addr} {bs : List (BitVec 8)} (hr : Rd w p bs) (n c : Nat) (hn : bs.length = n) (hc : n ≤ c) (hcc : n ≤ 211106232532992) :
    Calls Try.prog 10 #[.slice p n c] w fun e w' => ∃ v, e = .returned (.tuple #[.agg ((pS bs).2.1.sh v), .int .i64 (pS bs).1]) ∧ Bl w' w.heap.size v (pS bs).2.2 ∧ Below w.heap.size w w' := by
  unfold pS
  by_cases h1 : (pH bs).1 = 0
  · rw [if_neg (not_not_intro h1)]
    by_cases h2 : n < (pH bs).2.len
    · rw [hn, if_pos h2]
      refine (parse_cut rhd_ok hr n c hn hc hcc h1 h2).mono ?_
      rintro e w' ⟨rfl, hb⟩
      exact ⟨_, rfl, Bl.nil _ _, hb⟩
    · rw [hn, if_neg h2]
      by_cases h3 : (pH bs).2.len < n
      · rw [if_pos h3]
        refine (parse_tail rhd_ok hr n c hn hc hcc h1 h3).mono ?_
        rintro e w' ⟨rfl, hb⟩
        exact ⟨_, rfl, Bl.nil _ _, hb⟩
      · rw [if_neg h3]
        obtain ⟨_, hl⟩ := pH_at bs h1
        obtain ⟨gb, go, rfl⟩ : ∃ gb go, p = some ⟨gb, go, none⟩ := by
          rcases hr with h | ⟨b, o, e, _⟩
          · subst h; simp at hl
          · exact ⟨b, o, e⟩
        refine (parse_main rhd_ok hr n c hn hc hcc h1 (by omega)).mono ?_
        intro e w' hP
        unfold PaS at hP
        obtain ⟨hb, hP⟩ := hP
        cases ha : alls ((pH bs).2.bk bs) with
        | none =>
          rw [ha] at hP
          subst hP
          exact ⟨_, rfl, Bl.nil _ _, hb⟩
        | some bl =>
          rw [ha] at hP
          obtain ⟨v, rfl, hB⟩ := hP
          exact ⟨v, rfl, hB, hb⟩
  · rw [if_pos h1]
    refine (parse_no rhd_ok hr n c hn hc hcc h1).mono ?_
    rintro e w' ⟨rfl, hb⟩
    exact ⟨_, rfl, Bl.nil _ _, hb⟩
end Go.Proofs.Ytfcjkaigmlfjnaa
