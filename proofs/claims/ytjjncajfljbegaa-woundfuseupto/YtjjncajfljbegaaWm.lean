/-
  A wound on its drive: Sync, Rename, Remove, SyncDir, List, Rest.
-/
import Derived.Test.YtjjncajfljbegaaWh
import Derived.Test.YtjjncajfljbegaaDsD
namespace Go.Proofs.Ytjjncajfljbegaa
open Go.RowKit Go.Maps
theorem ksync {w : World} {wb db : Nat} {pl : Option Nat} {g : Gt} {P : DataW Unit} {σ : Ds} {F : Nat → Prop} (h : Kw w wb db pl g P σ F) (ok : Gok g) (x : Tx) (hx : x.length ≤ 9223372036854775807) :
    Calls Try.prog 36 #[.pointer (some ⟨wb, 0, none⟩), encStr x] w fun e w' => e = .returned (.int .i64 (if (ahd g P false).1.2 = 0 then ((σ.sync x).1 : Int) else (ahd g P false).1.2)) ∧ Kw w' wb db pl (ahd g P false).2 P (if (ahd g P false).1.2 = 0 then (σ.sync x).2 else σ) (Fn F w w') ∧ Tn (fun b => b = wb ∨ F b) w w' := by
  obtain ⟨hW, hP, hD, hn, hq⟩ := h
  have hwl := blt hW
  have hpl : ∀ b, pl = some b → b < w.heap.size := fun b e => hP.lt e
  by_cases he : (ahd g P false).1.2 = 0
  · rw [if_pos he, if_pos he]
    refine (wsync_go hW hP ok (encStr x) he (fun w1 e w' => e = .returned (.int .i64 (σ.sync x).1) ∧ DrAt w' db (σ.sync x).2 (Fn F w1 w') ∧ Tn F w1 w') (fun w1 ht => ?_)).mono ?_
    · refine (sync_any (hD.tn ht (fun b hb e => hn (e ▸ hb))) x hx).mono ?_
      rintro e w' ⟨h1, h2⟩
      exact ⟨⟨_, h1⟩, h1, h2⟩
    · rintro e w' ⟨w1, h1, h2, h3, h4, h5, h6⟩
      exact ⟨h4, kw_end hwl hpl hD.2.1 hn hq h1 h2 h3 h5 h6⟩
  · rw [if_neg he, if_neg he]
    refine (wsync_no hW hP ok (encStr x) he).mono ?_
    rintro e w' ⟨h1, h2, h3, h4⟩
    exact ⟨h1, kw_end hwl hpl hD.2.1 hn hq h2 h3 h4 (hD.tn h4 (fun b hb e => hn (e ▸ hb))).self (Tn.refl _ _)⟩
theorem krename {w : World} {wb db : Nat} {pl : Option Nat} {g : Gt} {P : DataW Unit} {σ : Ds} {F : Nat → Prop} (h : Kw w wb db pl g P σ F) (ok : Gok g) (od : Okd σ) (x y : Tx) (hx : x.length ≤ 9223372036854775807) (hy : y.length ≤ 9223372036854775807) :
    Calls Try.prog 38 #[.pointer (some ⟨wb, 0, none⟩), encStr x, encStr y] w fun e w' => e = .returned (.int .i64 (if (ahd g P false).1.2 = 0 then ((σ.rename x y).1 : Int) else (ahd g P false).1.2)) ∧ Kw w' wb db pl (ahd g P false).2 P (if (ahd g P false).1.2 = 0 then (σ.rename x y).2 else σ) (Fn F w w') ∧ Tn (fun b => b = wb ∨ F b) w w' := by
  obtain ⟨hW, hP, hD, hn, hq⟩ := h
  have hwl := blt hW
  have hpl : ∀ b, pl = some b → b < w.heap.size := fun b e => hP.lt e
  by_cases he : (ahd g P false).1.2 = 0
  · rw [if_pos he, if_pos he]
    refine (wrename_go hW hP ok (encStr x) (encStr y) he (fun w1 e w' => e = .returned (.int .i64 (σ.rename x y).1) ∧ DrAt w' db (σ.rename x y).2 (Fn F w1 w') ∧ Tn F w1 w') (fun w1 ht => ?_)).mono ?_
    · refine (rename_any (hD.tn ht (fun b hb e => hn (e ▸ hb))) od x y hx hy).mono ?_
      rintro e w' ⟨h1, h2⟩
      exact ⟨⟨_, h1⟩, h1, h2⟩
    · rintro e w' ⟨w1, h1, h2, h3, h4, h5, h6⟩
      exact ⟨h4, kw_end hwl hpl hD.2.1 hn hq h1 h2 h3 h5 h6⟩
  · rw [if_neg he, if_neg he]
    refine (wrename_no hW hP ok (encStr x) (encStr y) he).mono ?_
    rintro e w' ⟨h1, h2, h3, h4⟩
    exact ⟨h1, kw_end hwl hpl hD.2.1 hn hq h2 h3 h4 (hD.tn h4 (fun b hb e => hn (e ▸ hb))).self (Tn.refl _ _)⟩
theorem kremove {w : World} {wb db : Nat} {pl : Option Nat} {g : Gt} {P : DataW Unit} {σ : Ds} {F : Nat → Prop} (h : Kw w wb db pl g P σ F) (ok : Gok g) (od : Okd σ) (x : Tx) (hx : x.length ≤ 9223372036854775807) :
    Calls Try.prog 39 #[.pointer (some ⟨wb, 0, none⟩), encStr x] w fun e w' => e = .returned (.int .i64 (if (ahd g P false).1.2 = 0 then ((σ.remove x).1 : Int) else (ahd g P false).1.2)) ∧ Kw w' wb db pl (ahd g P false).2 P (if (ahd g P false).1.2 = 0 then (σ.remove x).2 else σ) (Fn F w w') ∧ Tn (fun b => b = wb ∨ F b) w w' := by
  obtain ⟨hW, hP, hD, hn, hq⟩ := h
  have hwl := blt hW
  have hpl : ∀ b, pl = some b → b < w.heap.size := fun b e => hP.lt e
  by_cases he : (ahd g P false).1.2 = 0
  · rw [if_pos he, if_pos he]
    refine (wremove_go hW hP ok (encStr x) he (fun w1 e w' => e = .returned (.int .i64 (σ.remove x).1) ∧ DrAt w' db (σ.remove x).2 (Fn F w1 w') ∧ Tn F w1 w') (fun w1 ht => ?_)).mono ?_
    · refine (remove_any (hD.tn ht (fun b hb e => hn (e ▸ hb))) od x hx).mono ?_
      rintro e w' ⟨h1, h2⟩
      exact ⟨⟨_, h1⟩, h1, h2⟩
    · rintro e w' ⟨w1, h1, h2, h3, h4, h5, h6⟩
      exact ⟨h4, kw_end hwl hpl hD.2.1 hn hq h1 h2 h3 h5 h6⟩
  · rw [if_neg he, if_neg he]
    refine (wremove_no hW hP ok (encStr x) he).mono ?_
    rintro e w' ⟨h1, h2, h3, h4⟩
    exact ⟨h1, kw_end hwl hpl hD.2.1 hn hq h2 h3 h4 (hD.tn h4 (fun b hb e => hn (e ▸ hb))).self (Tn.refl _ _)⟩
theorem ksyncDir {w : World} {wb db : Nat} {pl : Option Nat} {g : Gt} {P : DataW Unit} {σ : Ds} {F : Nat → Prop} (h : Kw w wb db pl g P σ F) (ok : Gok g) (od : Okp σ) :
    Calls Try.prog 40 #[.pointer (some ⟨wb, 0, none⟩)] w fun e w' => e = .returned (.int .i64 (if (ahd g P false).1.2 = 0 then (0 : Int) else (ahd g P false).1.2)) ∧ Kw w' wb db pl (ahd g P false).2 P (if (ahd g P false).1.2 = 0 then σ.syncDir else σ) (Fn F w w') ∧ Tn (fun b => b = wb ∨ F b) w w' := by
  obtain ⟨hW, hP, hD, hn, hq⟩ := h
  have hwl := blt hW
  have hpl : ∀ b, pl = some b → b < w.heap.size := fun b e => hP.lt e
  by_cases he : (ahd g P false).1.2 = 0
  · rw [if_pos he, if_pos he]
    refine (wsyncDir_go hW hP ok  he (fun w1 e w' => e = .returned (.int .i64 0) ∧ DrAt w' db σ.syncDir (Fn F w1 w') ∧ Tn F w1 w') (fun w1 ht => ?_)).mono ?_
    · refine (syncDir_any (hD.tn ht (fun b hb e => hn (e ▸ hb))) od).mono ?_
      rintro e w' ⟨h1, h2⟩
      exact ⟨⟨_, h1⟩, h1, h2⟩
    · rintro e w' ⟨w1, h1, h2, h3, h4, h5, h6⟩
      exact ⟨h4, kw_end hwl hpl hD.2.1 hn hq h1 h2 h3 h5 h6⟩
  · rw [if_neg he, if_neg he]
    refine (wsyncDir_no hW hP ok  he).mono ?_
    rintro e w' ⟨h1, h2, h3, h4⟩
    exact ⟨h1, kw_end hwl hpl hD.2.1 hn hq h2 h3 h4 (hD.tn h4 (fun b hb e => hn (e ▸ hb))).self (Tn.refl _ _)⟩
theorem klist {w : World} {wb db : Nat} {pl : Option Nat} {g : Gt} {P : DataW Unit} {σ : Ds} {F : Nat → Prop} (h : Kw w wb db pl g P σ F) (ok : Gok g) (hs : Maps.size σ.st ≤ 8000000000000) :
    Calls Try.prog 26 #[.pointer (some ⟨wb, 0, none⟩)] w fun e w' => (∃ v, e = .returned (.tuple #[v, .int .i64 (ahd g P false).1.2]) ∧ Ts w' w.heap.size v (if (ahd g P false).1.2 = 0 then nms σ.st else [])) ∧ Kw w' wb db pl (ahd g P false).2 P σ F ∧ Tn (· = wb) w w' := by
  obtain ⟨hW, hP, hD, hn, hq⟩ := h
  by_cases he : (ahd g P false).1.2 = 0
  · rw [if_pos he]
    refine (wlist_go hW hP ok he (fun w1 e w' => ∃ v, e = .returned (.tuple #[v, .int .i64 0]) ∧ Ts w' w1.heap.size v (nms σ.st) ∧ Below w1.heap.size w1 w') (fun w1 ht => ?_)).mono ?_
    · refine (list_any (hD.tn ht (fun b hb e => hn (e ▸ hb))) hs).mono ?_
      rintro e w' ⟨v, h1, h2⟩
      exact ⟨⟨_, _, h1⟩, v, h1, h2⟩
    · rintro e w' ⟨w1, h1, h2, h3, v, h4, h5, h6⟩
      refine ⟨⟨v, by rw [h4, he], ownsRow_base_a h5 h3.size⟩, (kw_own hD hn (fun b e _ => hq b e) (h1.below h6) (h2.sameAt (fun b _ hl => h6.block b hl)) (h3.trans (Tn.of_below h6))).1, h3.trans (Tn.of_below h6)⟩
  · rw [if_neg he]
    refine (wlist_no hW hP ok he).mono ?_
    rintro e w' ⟨h1, h2, h3, h4⟩
    exact ⟨⟨_, h1, ts_nil _ _⟩, (kw_own hD hn (fun b e _ => hq b e) h2 h3 h4).1, h4⟩
section
attribute [local irreducible] Calls
set_option maxHeartbeats 1000000 in
set_option maxRecDepth 1000000 in
theorem rest_plain {w : World} {wb : Nat} {dp : Option Addr} {pl : Option Nat} {g : Gt} (h : WAt w wb dp pl g) (hth : g.th = false) : Calls Try.prog 12 #[.pointer (some ⟨wb, 0, none⟩), .bool false] w fun e w' => (∃ v, e = .returned v) ∧ WAt w' wb dp pl { g with rc := 0 } ∧ Tn (· = wb) w w' := by
  have c5 := h.cell.2.2.2.2.2.1
  have f5 := h.frozen 5
  have h5 := h.set5 0
  have c6 := h5.cell.2.2.2.2.2.2.1
  have ST := (show Hid _ from struck_any h5)
  simp only [hth, Bool.false_and] at ST c6
  have HH := (show Hid _ from h5)
  clear h h5 hth
  go_enter Try.func12, Try.ntmps12
  go_wp2_with (go_at_call 16; refine ST.out.mono ?_; rintro e w1 ⟨rfl, rfl⟩)
  go_end0
  exact ⟨⟨_, rfl⟩, HH.out, Tn.setCell (F := (· = wb)) _ ⟨wb, 5, none⟩ rfl _⟩
end
theorem krest {w : World} {wb db : Nat} {pl : Option Nat} {g : Gt} {P : DataW Unit} {σ : Ds} {F : Nat → Prop} (h : Kw w wb db pl g P σ F) (hth : g.th = false) : Calls Try.prog 12 #[.pointer (some ⟨wb, 0, none⟩), .bool false] w fun e w' => (∃ v, e = .returned v) ∧ Kw w' wb db pl { g with rc := 0 } P σ F ∧ Tn (· = wb) w w' := by
  obtain ⟨hW, hP, hD, hn, hq⟩ := h
  refine (rest_plain hW hth).mono ?_
  rintro e w' ⟨h1, h2, h3⟩
  exact ⟨h1, (kw_own hD hn (fun b e _ => hq b e) h2 (hP.tn hW h3) h3).1, h3⟩
end Go.Proofs.Ytjjncajfljbegaa
