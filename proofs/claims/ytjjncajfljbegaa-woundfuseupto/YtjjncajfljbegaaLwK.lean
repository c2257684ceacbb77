/-
  The end of WoundFuse: a loss of power on both drives.
-/
import Derived.Test.YtjjncajfljbegaaLwI
namespace Go.Proofs.Ytjjncajfljbegaa
open Go.RowKit Go.Maps Go.Sort
theorem Eqd.level {W Y : World} {wb db tb m : Nat} {g : Gt} (h : Eqd W wb db tb m g Y) (hm : m ≤ 134217728) : Calls Try.prog 19 #[.pointer (some ⟨db, 0, none⟩), .pointer (some ⟨tb, 0, none⟩)] Y fun e Z => e = .returned (.bool true) ∧ Eqd W wb db tb m g Z ∧ Below Y.heap.size Y Z := by
  obtain ⟨σ, F, G, h1, h2⟩ := h
  refine (h1.level h2 hm).mono ?_
  rintro e Z ⟨h3, h4, h5⟩
  exact ⟨h3, ⟨σ, F, G, h4, h2⟩, h5⟩
/-- A fate is drawn for the wound's drive. -/
def Fd1 (W : World) (wb db tb m : Nat) (g : Gt) (dirs : List Bool) (cuts : List Int) (p1 p2 : Option Addr) (Y : World) : Prop := ∃ σ F G, Mid W wb db tb g σ σ F G Y ∧ Okk m σ ∧ Bls Y p1 dirs ∧ Ils Y p2 cuts ∧ ∀ b o, p2 = some ⟨b, o, none⟩ → ¬ F b
/-- The wound's drive has lost power. -/
def Fd2 (W : World) (wb db tb m : Nat) (g : Gt) (dirs : List Bool) (cuts : List Int) (Y : World) : Prop := ∃ σ F G, Mid W wb db tb g (σ.crash dirs cuts) σ F G Y ∧ Okk m σ ∧ Okk m (σ.crash dirs cuts)
/-- A fate is drawn for the plain drive. -/
def Fd3 (W : World) (wb db tb m : Nat) (g : Gt) (dirs : List Bool) (cuts : List Int) (p1 p2 : Option Addr) (Y : World) : Prop := ∃ σ F G, Mid W wb db tb g (σ.crash dirs cuts) σ F G Y ∧ Okk m σ ∧ Okk m (σ.crash dirs cuts) ∧ Bls Y p1 dirs ∧ Ils Y p2 cuts ∧ ∀ b o, p2 = some ⟨b, o, none⟩ → ¬ G b
theorem Fd1.w {W Y : World} {wb db tb m : Nat} {g : Gt} {dirs : List Bool} {cuts : List Int} {p1 p2 : Option Addr} (h : Fd1 W wb db tb m g dirs cuts p1 p2 Y) : Below W.heap.size W Y ∧ WAt Y wb (some ⟨db, 0, none⟩) none g := by
  obtain ⟨σ, F, G, h1, _⟩ := h
  exact ⟨h1.bl, h1.K.1⟩
theorem Fd2.w {W Y : World} {wb db tb m : Nat} {g : Gt} {dirs : List Bool} {cuts : List Int} (h : Fd2 W wb db tb m g dirs cuts Y) : Below W.heap.size W Y ∧ WAt Y wb (some ⟨db, 0, none⟩) none g := by
  obtain ⟨σ, F, G, h1, _⟩ := h
  exact ⟨h1.bl, h1.K.1⟩
theorem Fd3.w {W Y : World} {wb db tb m : Nat} {g : Gt} {dirs : List Bool} {cuts : List Int} {p1 p2 : Option Addr} (h : Fd3 W wb db tb m g dirs cuts p1 p2 Y) : Below W.heap.size W Y ∧ WAt Y wb (some ⟨db, 0, none⟩) none g := by
  obtain ⟨σ, F, G, h1, _⟩ := h
  exact ⟨h1.bl, h1.K.1⟩
theorem Eqd.fate {W Y : World} {wb db tb m : Nat} {g : Gt} (h : Eqd W wb db tb m g Y) (pd : Option Addr) (nd cd : Nat) (dirs : List Bool) (hdl : dirs.length = nd) (hd : Bls W pd dirs) (hdn : pd = none → nd = 0 ∧ cd = 0) (pc : Option Addr) (nc cc : Nat) (cuts : List Int) (hcl : cuts.length = nc) (hc : Ils W pc cuts) (hcn : pc = none → nc = 0 ∧ cc = 0) (hnd : nd ≤ 1000000000) (hnc : nc ≤ 1000000000) : Calls Try.prog 24 #[.agg #[.slice pd nd cd, .slice pc nc cc]] Y fun e Z => ∃ p1 c1 p2 c2, e = .returned (.agg #[.slice p1 nd c1, .slice p2 nc c2]) ∧ Fd1 W wb db tb m g dirs cuts p1 p2 Z := by
  obtain ⟨σ, F, G, h1, h2⟩ := h
  refine (fate_any pd nd cd dirs hdl (hd.below h1.bl) hdn pc nc cc cuts hcl (hc.below h1.bl) hcn hnd hnc).mono ?_
  rintro e Z ⟨p1, c1, p2, c2, h3, h4, h5, h6, h7⟩
  exact ⟨p1, c1, p2, c2, h3, σ, F, G, h1.below h7, h2, h4, h5, fun b o e h9 => by have := h6 b o e; have := h1.K.dlt b h9; omega⟩
theorem Fd1.crash {W Y : World} {wb db tb m : Nat} {g : Gt} {dirs : List Bool} {cuts : List Int} {p1 p2 : Option Addr} (h : Fd1 W wb db tb m g dirs cuts p1 p2 Y) (hm : m ≤ 134217728) (nd cd nc cc : Nat) (hdl : dirs.length = nd) (hcl : cuts.length = nc) (hnd : nd ≤ 1000000000) (hnc : nc ≤ 1000000000) : Calls Try.prog 23 #[.pointer (some ⟨db, 0, none⟩), .agg #[.slice p1 nd cd, .slice p2 nc cc]] Y fun e Z => e = .returned (.int .i64 0) ∧ Fd2 W wb db tb m g dirs cuts Z := by
  obtain ⟨σ, F, G, h1, h2, h3, h4, h5⟩ := h
  have ho := h2.crash hm dirs cuts h1.K.2.2.1
  refine (h1.wcrash h2 hm p1 nd cd dirs hdl h3 p2 nc cc cuts hcl h4 hnd hnc h5).mono ?_
  rintro e Z ⟨h6, h7, _⟩
  exact ⟨h6, σ, _, G, h7, h2, ho⟩
theorem Fd2.fate {W Y : World} {wb db tb m : Nat} {g : Gt} {dirs : List Bool} {cuts : List Int} (h : Fd2 W wb db tb m g dirs cuts Y) (pd : Option Addr) (nd cd : Nat) (hdl : dirs.length = nd) (hd : Bls W pd dirs) (hdn : pd = none → nd = 0 ∧ cd = 0) (pc : Option Addr) (nc cc : Nat) (hcl : cuts.length = nc) (hc : Ils W pc cuts) (hcn : pc = none → nc = 0 ∧ cc = 0) (hnd : nd ≤ 1000000000) (hnc : nc ≤ 1000000000) : Calls Try.prog 24 #[.agg #[.slice pd nd cd, .slice pc nc cc]] Y fun e Z => ∃ p1 c1 p2 c2, e = .returned (.agg #[.slice p1 nd c1, .slice p2 nc c2]) ∧ Fd3 W wb db tb m g dirs cuts p1 p2 Z := by
  obtain ⟨σ, F, G, h1, h2, h8⟩ := h
  refine (fate_any pd nd cd dirs hdl (hd.below h1.bl) hdn pc nc cc cuts hcl (hc.below h1.bl) hcn hnd hnc).mono ?_
  rintro e Z ⟨p1, c1, p2, c2, h3, h4, h5, h6, h7⟩
  exact ⟨p1, c1, p2, c2, h3, σ, F, G, h1.below h7, h2, h8, h4, h5, fun b o e h9 => by have := h6 b o e; have := h1.D.2.1 b h9; omega⟩
theorem Fd3.crash {W Y : World} {wb db tb m : Nat} {g : Gt} {dirs : List Bool} {cuts : List Int} {p1 p2 : Option Addr} (h : Fd3 W wb db tb m g dirs cuts p1 p2 Y) (hm : m ≤ 134217728) (nd cd nc cc : Nat) (hdl : dirs.length = nd) (hcl : cuts.length = nc) (hnd : nd ≤ 1000000000) (hnc : nc ≤ 1000000000) : Calls Try.prog 23 #[.pointer (some ⟨tb, 0, none⟩), .agg #[.slice p1 nd cd, .slice p2 nc cc]] Y fun e Z => e = .returned (.int .i64 0) ∧ Eqd W wb db tb m g Z := by
  obtain ⟨σ, F, G, h1, h2, h8, h3, h4, h5⟩ := h
  refine (h1.tcrash h2 hm p1 nd cd dirs hdl h3 p2 nc cc cuts hcl h4 hnd hnc h5).mono ?_
  rintro e Z ⟨h6, h7, _⟩
  exact ⟨h6, _, F, _, h7, h8⟩
/-- Both lists hold the same names. -/
theorem Eqd.wlist {W Y : World} {wb db tb m : Nat} {g : Gt} (h : Eqd W wb db tb m g Y) (gok : Gok g) (he : (ahd g (.map []) false).1.2 = 0) (hm : m ≤ 134217728) : Calls Try.prog 26 #[.pointer (some ⟨wb, 0, none⟩)] Y fun e Z => ∃ p n c, e = .returned (.tuple #[.slice p n c, .int .i64 0]) ∧ ∃ σ F G, Mid W wb db tb (ahd g (.map []) false).2 σ σ F G Z ∧ Okk m σ ∧ Ts Z Y.heap.size (.slice p n c) (nms σ.st) := by
  obtain ⟨σ, F, G, h1, h2⟩ := h
  refine (klist h1.K gok (by have := h2.ss; omega)).mono ?_
  rintro e Z ⟨⟨v, h3, h4⟩, h5, h6⟩
  rw [he] at h3
  rw [if_pos he] at h4
  obtain ⟨p, c, rfl⟩ := own_len h4
  exact ⟨_, _, _, h3, σ, F, G, h1.own h5 h6, h2, h4⟩
def Lst1 (W : World) (wb db tb m : Nat) (g : Gt) (v : Value) (Z : World) : Prop := ∃ σ F G b, Mid W wb db tb g σ σ F G Z ∧ Okk m σ ∧ Ts Z b v (nms σ.st)
theorem Lst1.tlist {W Y : World} {wb db tb m : Nat} {g : Gt} {v : Value} (h : Lst1 W wb db tb m g v Y) (hm : m ≤ 134217728) : Calls Try.prog 27 #[.pointer (some ⟨tb, 0, none⟩)] Y fun e Z => ∃ p n c, e = .returned (.tuple #[.slice p n c, .int .i64 0]) ∧ WAt Z wb (some ⟨db, 0, none⟩) none g ∧ Below W.heap.size W Z ∧ ∃ b1 b2 ns, SdV Z b1 (.agg #[.int .i64 0, .slice none 0 0, v, .slice none 0 0, .int .i64 0, .bool false]) (0, [], ns) ∧ SdV Z b2 (.agg #[.int .i64 0, .slice none 0 0, .slice p n c, .slice none 0 0, .int .i64 0, .bool false]) (0, [], ns) ∧ ns.length ≤ 1000000000 := by
  obtain ⟨σ, F, G, b, h1, h2, h3⟩ := h
  refine (list_any h1.D (by have := h2.ss; omega)).mono ?_
  rintro e Z ⟨u, h4, h5, h6⟩
  obtain ⟨p, c, rfl⟩ := own_len h5
  refine ⟨p, _, c, h4, h1.K.1.below h6, bt h1.bl h6, b, _, nms σ.st, ⟨_, _, rfl, ob_nil _ _, own_below h3 h6⟩, ⟨_, _, rfl, ob_nil _ _, h5⟩, ?_⟩
  have h9 := h2.ss
  obtain ⟨es, e, _⟩ := h2.ts
  rw [nms_len]
  rw [e] at h9 ⊢
  have : es.length ≤ 2 * m := by simpa [strKeys, Maps.size] using h9
  simp [strKeys]
  omega
end Go.Proofs.Ytjjncajfljbegaa
