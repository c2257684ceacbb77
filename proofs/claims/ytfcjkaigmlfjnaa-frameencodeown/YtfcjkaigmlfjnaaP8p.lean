/-
  Package frame: 'ParseHead'.
-/
import Derived.Test.YtfcjkaigmlfjnaaP8s
namespace Go.Proofs.Ytfcjkaigmlfjnaa
open Go.RowKit
/-- What 'readHead' says, as a premise. -/
def RHd : Prop := ∀ (w : World) (gb go : Nat) (pk : Option Addr) (fs key : List (BitVec 8)) (_ : Rd w (some ⟨gb, go, none⟩) fs) (_ : Rd w pk key) (cf nk ck : Nat) (_ : fs.length = 32) (_ : 32 ≤ cf) (_ : key.length = nk),
    Calls Try.prog 36 #[.slice (some ⟨gb, go, none⟩) 32 cf, .slice pk nk ck] w fun e w' => e = .returned (.agg (rhd fs key).cs) ∧ Below w.heap.size w w'
theorem hd0_cs : hd0.cs = #[.int .u8 0, .int .u8 0, .int .u8 0, .int .u8 0, .int .u8 0, .int .u8 0, .int .u8 0, .int .u8 0, .int .i64 0, .int .i64 0, .int .i64 0, .string ⟨#[]⟩, .int .i64 0, .int .i64 0, .int .i64 0, .int .i64 0] := rfl
theorem res_hd {fn : Func} {p u : Tmp} (h : fn.results = #[.cell p 28, .tmp u]) (tmps : Array Value) (w : World) (g : Nat) (hd : Hd) (v : Value) (hp : tmps.getD p undef = .pointer (some ⟨g, 0, none⟩)) (hu : tmps.getD u undef = v) (H : HdAt w g hd) :
    (results fn tmps).run Try.prog w = .ok (.tuple #[.agg hd.cs, v]) w := by
  have hl := run_loadVar_row (P := Try.prog) w g 28 28 hd.cs (0, 0) _ H Try.underlying28 rfl sizeHd
  have hp' : tmps[p]?.getD undef = .pointer (some ⟨g, 0, none⟩) := by simpa using hp
  have hu' : tmps[u]?.getD undef = v := by simpa using hu
  simp [results, h, hp', hu', asAddr, hl]
theorem hz0 {w : World} {g : Nat} (H : w.heap[g]? = some (.cells #[.int .u8 0, .int .u8 0, .int .u8 0, .int .u8 0, .int .u8 0, .int .u8 0, .int .u8 0, .int .u8 0, .int .i64 0, .int .i64 0, .int .i64 0, .string ⟨#[]⟩, .int .i64 0, .int .i64 0, .int .i64 0, .int .i64 0] 28)) : HdAt w g hd0 := H
theorem cs_all (h : Hd) : (h.cs.all fun x => x.oneCell') = true := by simp [Hd.cs, Value.oneCell']
theorem wpList_stH {w : World} {ops : Array Oper} {rest : List Oper} {o : Oper} {a : Act} {Q : Exit → Act → World → Prop} {h0 : Hd} (h : Hd) (hgd : o.guard = none) (x y : Operand) (ho : o.op = .store 28 x y) (hd : o.dst = none) (g : Nat) (hx : a.eval x = .pointer (some ⟨g, 0, none⟩)) (hy : a.eval y = .agg h.cs) (H : HdAt w g h0)
    (k : ∀ w', HdAt w' g h → Turned g w w' → wpList Try.prog ops Q rest a w') : wpList Try.prog ops Q (o :: rest) a w := by
  refine wpList_store_rowTo hgd 28 x y ho hd g h.cs hx hy 28 h0.cs H sizeHd rfl (cs_all h) ?_
  refine k _ ?_ ⟨fun j hj => setRow_other w g j _ hj, fun B w0 hb hB => below_setRow hb hB _, by simp⟩
  unfold HdAt at H ⊢
  exact setRow_heap w g _ _ _ _ H
theorem kl_el (bs : List (BitVec 8)) : el (bs.getD 31 0#8) = ((kl bs : Nat) : Int) := by unfold el kl; rfl
theorem kl_lt (bs : List (BitVec 8)) : kl bs < 256 := by unfold kl; exact (bs.getD 31 0#8).isLt
theorem Rd.byte {w : World} {gb go : Nat} {bs : List (BitVec 8)} (h : Rd w (some ⟨gb, go, none⟩) bs) (i : Nat) (hi : i < bs.length) : w.cell? ⟨gb, go + i, none⟩ = some (.int .u8 (el (bs.getD i 0#8))) := by
  rcases h with h | ⟨b, o, e, hc⟩
  · subst h; simp at hi
  · injection e with e
    injection e with e1 e2
    subst e1 e2
    exact hc i hi
section
attribute [local irreducible] Calls el Hd.cs cmo rg sm bsm
set_option maxHeartbeats 4000000 in
set_option maxRecDepth 1000000 in
theorem pHead_cut {w : World} {p : Option Addr} (n c : Nat) (h1 : n < 36) :
    Calls Try.prog 24 #[.slice p n c] w fun e w' => e = .returned (.tuple #[.agg hd0.cs, .int .i64 70]) ∧ Below w.heap.size w w' := by
  have al : ∀ (W : World) (o : Obj), Below W.heap.size W (W.alloc o) := fun W o => (Below.refl _ _).alloc (Nat.le_refl _) o
  have i1 : (n : Int) < 36 := by omega
  go_enter Try.func24, Try.ntmps24
  go_wp2
  refine bodyPost_ret (v := .tuple #[.agg hd0.cs, .int .i64 70]) ?_ rfl ⟨rfl, al _ _⟩
  exact res_hd rfl _ _ w.heap.size hd0 _ rfl rfl (hz0 (heap_alloc_new w _))
set_option maxHeartbeats 4000000 in
set_option maxRecDepth 1000000 in
theorem pHead_magic {w : World} {gb go : Nat} {bs : List (BitVec 8)} (hr : Rd w (some ⟨gb, go, none⟩) bs) (n c : Nat) (hn : bs.length = n) (hc : n ≤ c) (h1 : ¬ n < 36) (h2 : ¬ bs.take 4 = mk8) :
    Calls Try.prog 24 #[.slice (some ⟨gb, go, none⟩) n c] w fun e w' => e = .returned (.tuple #[.agg hd0.cs, .int .i64 80]) ∧ Below w.heap.size w w' := by
  have al : ∀ (W : World) (o : Obj), Below W.heap.size W (W.alloc o) := fun W o => (Below.refl _ _).alloc (Nat.le_refl _) o
  have i0 : ¬ (n : Int) < 36 := by omega
  have kc := Lib.run_convert_bytes_const (P := Try.prog) (w.alloc (.cells #[.int .u8 0, .int .u8 0, .int .u8 0, .int .u8 0, .int .u8 0, .int .u8 0, .int .u8 0, .int .u8 0, .int .i64 0, .int .i64 0, .int .i64 0, .string ⟨#[]⟩, .int .i64 0, .int .i64 0, .int .i64 0, .int .i64 0] 28)) 35 5 #[.int .u8 67, .int .u8 82, .int .u8 78, .int .u8 2] 4 4 Try.underlying35 Try.underlying5
  have rm := rd_mark (w.alloc (.cells #[.int .u8 0, .int .u8 0, .int .u8 0, .int .u8 0, .int .u8 0, .int .u8 0, .int .u8 0, .int .u8 0, .int .i64 0, .int .i64 0, .int .i64 0, .string ⟨#[]⟩, .int .i64 0, .int .i64 0, .int .i64 0, .int .i64 0] 28)) (4, 5)
  rw [World.size_alloc] at kc rm
  have HZ := HdAt.below (hz0 (heap_alloc_new w _)) (al (w.alloc (.cells #[.int .u8 0, .int .u8 0, .int .u8 0, .int .u8 0, .int .u8 0, .int .u8 0, .int .u8 0, .int .u8 0, .int .i64 0, .int .i64 0, .int .i64 0, .string ⟨#[]⟩, .int .i64 0, .int .i64 0, .int .i64 0, .int .i64 0] 28)) (.cells #[.int .u8 67, .int .u8 82, .int .u8 78, .int .u8 2] 5 (4, 5)))
  have hbw := bt (al w (.cells #[.int .u8 0, .int .u8 0, .int .u8 0, .int .u8 0, .int .u8 0, .int .u8 0, .int .u8 0, .int .u8 0, .int .i64 0, .int .i64 0, .int .i64 0, .string ⟨#[]⟩, .int .i64 0, .int .i64 0, .int .i64 0, .int .i64 0] 28)) (al _ (.cells #[.int .u8 67, .int .u8 82, .int .u8 78, .int .u8 2] 5 (4, 5)))
  have HP := (show Hid (∀ (W : World), Below w.heap.size w W → ∀ (q : Option Addr), Rd W q mk8 → _) from fun W hW q hq => hasPrefix_any (hr.below hW) hq n c 4 hn hc rfl (by omega))
  go_enter Try.func24, Try.ntmps24
  go_wp2_with (first
    | (refine wpList_stH hd0 rfl _ _ rfl rfl w.heap.size rfl (by rw [hd0_cs]; rfl) HZ ?_; intro w9 HZ9 hT9)
    | (go_at_call 34; refine (HP.out _ hbw _ rm).mono ?_; rintro e w2 ⟨rfl, hb⟩; rw [decide_eq_false h2]; replace HZ := HZ.below hb; replace hbw := bt hbw hb))
  refine bodyPost_ret (v := .tuple #[.agg hd0.cs, .int .i64 80]) ?_ rfl ⟨rfl, hT9.2.1 _ _ hbw (Nat.le_refl _)⟩
  exact res_hd rfl _ _ w.heap.size hd0 _ rfl rfl HZ9
end
end Go.Proofs.Ytfcjkaigmlfjnaa
