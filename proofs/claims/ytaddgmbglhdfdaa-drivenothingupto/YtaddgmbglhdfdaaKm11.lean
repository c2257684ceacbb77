/-
  Layer 11's laws: 'made' in one, 'played', 'shows', 'named', 'touches'.
-/
import Derived.Test.YtaddgmbglhdfdaaKl11
import Derived.Test.YtaddgmbglhdfdaaKf11
namespace Go.Proofs.Ytaddgmbglhdfdaa
open Go.RowKit Go.Maps Go.Sort
theorem made_any {w : World} (how room : Int) (p : Option Addr) (n c : Nat) (nm dt : Nat → Tx) (hF : FlIn w p nm dt n) (hz : fsz (fls nm dt n) ≤ 134217728) (hx : ∀ i, i < n → (nm i).length ≤ 134217728) (hn : n ≤ 134217728) : Calls Try.prog 9 #[.agg (stC how room (.slice p n c))] w fun e w' => ∃ pt, e = .returned (.tuple #[.pointer pt, .bool true]) ∧ MadeR w w' (Ds.start how room (fls nm dt n)) pt ∧ Below w.heap.size w w' := by
  by_cases h0 : how = 0
  · subst h0; exact made_new room _ _
  · by_cases h1 : how = 1
    · subst h1; exact made_load room p n c nm dt hF hz hx hn
    · exact made_zero how room _ _ h0 h1
theorem Okk.new' (n k : Nat) : Okk k (Ds.new n) := (Okk.new n).mono (Nat.zero_le _)
theorem start_okk {how room : Int} {L : List (Tx × Tx)} {σ : Ds} (h : Ds.start how room L = some σ) : Okk (fsz L) σ := by
  unfold Ds.start at h
  split at h
  · split at h
    · injection h with h; subst h; exact Okk.new' _ _
    · cases h
  · split at h
    · exact (load_okk h).1
    · injection h with h; subst h; exact Okk.new' _ _
/-- An act of a script: its kind, its fields, what its lists hold. -/
abbrev Atp := Int × Ac × Al
/-- Seven cells. -/
structure Svn (w : World) (b o : Nat) (k : Int) (s : Ac) : Prop where
  c : w.cell? ⟨b, o, none⟩ = some (.int .i64 k) ∧ w.cell? ⟨b, o + 1, none⟩ = some (encStr s.x) ∧ w.cell? ⟨b, o + 2, none⟩ = some (encStr s.y) ∧ w.cell? ⟨b, o + 3, none⟩ = some (.int .i64 s.n) ∧ w.cell? ⟨b, o + 4, none⟩ = some (.slice s.pd s.nd s.cd) ∧ w.cell? ⟨b, o + 5, none⟩ = some (.slice s.qd s.nq s.cq) ∧ w.cell? ⟨b, o + 6, none⟩ = some (.slice s.rd s.nr s.cr)
theorem Svn.run {w : World} {b o : Nat} {k : Int} {s : Ac} (h : Svn w b o k s) : (loadVar 46 ⟨b, o, none⟩).run Try.prog w = .ok (.agg (s.v k)) w := by
  refine run_loadVar_at (P := Try.prog) w b o 46 (s.v k) _ (fun j v hj => ?_) Try.underlying46 rfl (by unfold Ac.v; exact size_Ac)
  obtain ⟨c0, c1, c2, c3, c4, c5, c6⟩ := h.c
  unfold Ac.v at hj
  match j, hj with
  | 0, hj => simp at hj; subst hj; exact c0
  | 1, hj => simp at hj; subst hj; exact c1
  | 2, hj => simp at hj; subst hj; exact c2
  | 3, hj => simp at hj; subst hj; exact c3
  | 4, hj => simp at hj; subst hj; exact c4
  | 5, hj => simp at hj; subst hj; exact c5
  | 6, hj => simp at hj; subst hj; exact c6
  | j + 7, hj => simp at hj
/-- A script in memory. -/
def AcsAt (w : World) (p : Option Addr) (L : List Atp) : Prop := ∀ i (h : i < L.length), ∃ b o, p = some ⟨b, o, none⟩ ∧ Svn w b (o + i * 7) (L[i]).1 (L[i]).2.1 ∧ AcAt w (L[i]).2.1 (L[i]).2.2
theorem Svn.below {w w' : World} {b o : Nat} {k : Int} {s : Ac} (h : Svn w b o k s) (hb : Below w.heap.size w w') : Svn w' b o k s := by
  obtain ⟨c0, c1, c2, c3, c4, c5, c6⟩ := h.c
  exact ⟨cell_below c0 hb, cell_below c1 hb, cell_below c2 hb, cell_below c3 hb, cell_below c4 hb, cell_below c5 hb, cell_below c6 hb⟩
theorem AcsAt.below {w w' : World} {p : Option Addr} {L : List Atp} (h : AcsAt w p L) (hb : Below w.heap.size w w') : AcsAt w' p L := fun i hi => by
  obtain ⟨b, o, h1, h2, h3⟩ := h i hi
  exact ⟨b, o, h1, h2.below hb, h3.below hb⟩
/-- What an act does. -/
def Ds.step (σ : Ds) (a : Atp) : Ds := (σ.act a.1 a.2.1.x a.2.1.y a.2.1.n a.2.2).2
def Ds.run (σ : Ds) (L : List Atp) : Ds := L.foldl Ds.step σ
/-- How much acts ask. -/
def aez (a : Atp) : Nat := 2 + a.2.2.d.length + a.2.2.dirs.length
def aesz (L : List Atp) : Nat := (L.map aez).sum
end Go.Proofs.Ytaddgmbglhdfdaa
