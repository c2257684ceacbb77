/-
  LabelParses: the walk.
-/
import Derived.Test.YtlhacjenpginbaaMb15
import Derived.Test.YtlhacjenpginbaaRw15
namespace Go.Proofs.Ytlhacjenpginbaa
open Go.RowKit Go.Maps
section
attribute [local irreducible] Calls el Lbl.cs cmo rg smL ar8
set_option maxHeartbeats 8000000 in
set_option maxRecDepth 1000000 in
theorem labelParses_walk {w : World} {p : Option Addr} {bs : List (BitVec 8)} (h : Rd w p bs) (n c : Nat) (hn : bs.length = n) (hc : n ≤ c) (hm : n ≤ 140737488355328) : Calls Try.prog 5 #[.slice p n c] w fun e w' => e = .returned (.bool true) ∧ Below w.heap.size w w' := by
  have KN := (show Hid _ from fun w => known_any w)
  have RP := (show Hid _ from rparse_any h n c hn hc)
  have TW := (show Hid _ from fun (W : World) (hb : Below w.heap.size w W) => twin15_any (h.below hb) n c hn hm)
  have LP := (show Hid (∀ (W : World) v (base : Nat), Ow W base v bs → Calls Try.prog 14 #[v] W fun e w' => e = .returned (.tuple #[.agg (pL bs).2.cs, .int .i64 (pL bs).1]) ∧ Below W.heap.size W w') from fun W v base ho => by
    obtain ⟨q, d, rfl, hd, hr⟩ := ho.rd
    exact lparse_any hr bs.length d rfl hd)
  generalize pL bs = q at *
  obtain ⟨ez, lz⟩ := q
  have Q1 := fun W => eql_lbl lz lz W
  rw [(lq_iff lz lz).2 rfl] at Q1
  go_enter Try.func5, Try.ntmps5
  go_wp2_with (first
    | (go_at_call 13; refine RP.out.mono ?_; rintro e w1 ⟨rfl, hbw⟩; have s1 : Hid (0 = 0) := rfl)
    | (revert s1; intro s1; refine wpList_alLb rfl rfl ?_; intro w2 ZN hbN hs; clear hs)
    | (revert s1; intro s1; refine wpList_storeLb rfl _ _ rfl rfl w1.heap.size rfl rfl ZN ?_; intro w3 Z3 hT3; have hb3 := hT3.2.1 _ _ hbN (Nat.le_refl _); replace hbw := bt hbw hb3; clear s1 ZN)
    | (go_at_call 15; refine (TW.out _ hbw).mono ?_; rintro e w4 ⟨v4, rfl, ho4, hb4⟩; replace Z3 := Z3.below hb4; replace hbw := bt hbw hb4)
    | (go_at_call 14; refine (LP.out _ _ _ ho4).mono ?_; rintro e w5 ⟨rfl, hb5⟩; replace Z3 := Z3.below hb5; replace hbw := bt hbw hb5; have s2 : Hid (0 = 0) := rfl)
    | (revert s2; intro s2; refine wpList_alLb rfl rfl ?_; intro w6 ZM hbM hs; clear hs)
    | (revert s2; intro s2; refine wpList_storeLb rfl _ _ rfl rfl w5.heap.size rfl rfl ZM ?_; intro w7 Z7 hT7; have hb7 := hT7.2.1 _ _ hbM (Nat.le_refl _); replace hbw := bt hbw hb7; replace Z3 := Z3.below hb7; clear s2 ZM)
    | (refine wpList_ldLg (by rfl) _ rfl w5.heap.size rfl Z7 ?_)
    | (refine wpList_ldLg (by rfl) _ rfl w1.heap.size rfl Z3 ?_)
    | (go_at_call 10; refine (KN.out _).mono ?_; rintro e w8 ⟨rfl, hb8⟩; replace hbw := bt hbw hb8))
  go_ret
  exact ⟨rfl, hbw⟩
end
end Go.Proofs.Ytlhacjenpginbaa
