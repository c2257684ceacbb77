/-
  The short form of a number, as plain mathematics: no Go in sight.
-/
import Derived.KernelRfl
import Derived.Test.YtjobaeopokfekaaGreatKz
import Derived.Laws.Bits64
import Derived.Laws.IdiomStrings
import Derived.Laws.Strings
import Derived.Laws.Bits64b
import Derived.Test.YtjobaeopokfekaaGreatLm15
import Derived.Test.YtjobaeopokfekaaGreatLst
namespace Go.Proofs.YtjobaeopokfekaaGreat

/-- The short form, of at most k + 1 bytes. -/
def sfk : Nat → Nat → List Nat
  | 0, v => [v]
  | k + 1, v => if v < 128 then [v] else (128 + v % 128) :: sfk k (v / 128)
/-- The short form of a number below 2^64. -/
def sf (v : Nat) : List Nat := sfk 9 v
/-- What a reading of a short form comes to: its number and its length; or it is cut (false) or over (true). -/
abbrev Rs := Except Bool (Nat × Nat)
/-- The reading, with k bytes at most behind the first one (9 at first). -/
def rsk : Nat → List Nat → Rs
  | _, [] => .error false
  | 0, c :: _ => if 1 < c then .error true else if c = 0 then .error true else .ok (c, 1)
  | k + 1, c :: l => if c < 128 then (if c = 0 ∧ k + 1 < 9 then .error true else .ok (c, 1)) else match rsk k l with
    | .ok (v, n) => .ok (c % 128 + 128 * v, n + 1)
    | .error e => .error e
theorem rsk_nil (k : Nat) : rsk k [] = .error false := by cases k <;> rfl
theorem sfk_small (k v : Nat) (h : v < 128) : sfk k v = [v] := by
  cases k with
  | zero => rfl
  | succ k => unfold sfk; rw [if_pos h]
theorem sfk_big (k v : Nat) (h : ¬ v < 128) : sfk (k + 1) v = (128 + v % 128) :: sfk k (v / 128) := by
  show (if v < 128 then [v] else _) = _
  rw [if_neg h]
theorem sfk_pos (k v : Nat) : 0 < (sfk k v).length := by
  cases k with
  | zero => simp [sfk]
  | succ k => unfold sfk; split <;> simp
theorem sfk_len (k v : Nat) : (sfk k v).length ≤ k + 1 := by
  induction k generalizing v with
  | zero => simp [sfk]
  | succ k ih =>
    by_cases h : v < 128
    · rw [sfk_small _ _ h]; simp
    · rw [sfk_big k v h, List.length_cons]; have := ih (v / 128); omega
theorem sfk_byte (k v : Nat) (h : v < 2 ^ (7 * k + 1)) : ∀ c ∈ sfk k v, c < 256 := by
  induction k generalizing v with
  | zero => intro c hc; simp [sfk] at hc; subst hc; simp at h; omega
  | succ k ih =>
    intro c hc
    by_cases h1 : v < 128
    · rw [sfk_small _ _ h1] at hc; simp at hc; omega
    · rw [sfk_big k v h1] at hc
      rcases List.mem_cons.1 hc with rfl | hc
      · omega
      · refine ih (v / 128) ?_ c hc
        rw [show 7 * (k + 1) + 1 = (7 * k + 1) + 7 by omega, Nat.pow_add] at h
        exact Nat.div_lt_of_lt_mul (by rw [Nat.mul_comm]; exact h)
theorem div_bound {k v : Nat} (h : v < 2 ^ (7 * (k + 1) + 1)) : v / 128 < 2 ^ (7 * k + 1) := by
  rw [show 7 * (k + 1) + 1 = (7 * k + 1) + 7 by omega, Nat.pow_add] at h
  exact Nat.div_lt_of_lt_mul (by rw [Nat.mul_comm]; exact h)
/-- What was put is read. -/
theorem rsk_sfk (k v : Nat) (rest : List Nat) (hk : k ≤ 9) (h : v < 2 ^ (7 * k + 1)) (h0 : k = 9 ∨ v ≠ 0) : rsk k (sfk k v ++ rest) = .ok (v, (sfk k v).length) := by
  induction k generalizing v with
  | zero =>
    have hv : v = 1 := by simp at h; omega
    subst hv; rfl
  | succ k ih =>
    by_cases h1 : v < 128
    · rw [sfk_small _ _ h1]
      show (if v < 128 then (if v = 0 ∧ k + 1 < 9 then (.error true : Rs) else .ok (v, 1)) else _) = _
      rw [if_pos h1, if_neg (by omega)]; rfl
    · rw [sfk_big k v h1]
      show (if 128 + v % 128 < 128 then _ else match rsk k (sfk k (v / 128) ++ rest) with
        | .ok (u, n) => (.ok ((128 + v % 128) % 128 + 128 * u, n + 1) : Rs)
        | .error e => .error e) = _
      rw [if_neg (by omega), ih (v / 128) (by omega) (div_bound h) (.inr (by omega))]
      simp only [List.length_cons]
      congr 2; omega
/-- What is read is just what was put. -/
theorem sfk_rsk (k : Nat) (l : List Nat) (v n : Nat) (hk : k ≤ 9) (hl : ∀ c ∈ l, c < 256) (h : rsk k l = .ok (v, n)) : v < 2 ^ (7 * k + 1) ∧ l.take n = sfk k v ∧ n = (sfk k v).length ∧ (k = 9 ∨ v ≠ 0) := by
  induction k generalizing l v n with
  | zero =>
    cases l with
    | nil => cases h
    | cons c l =>
      have h' : (if 1 < c then (.error true : Rs) else if c = 0 then .error true else .ok (c, 1)) = .ok (v, n) := h
      by_cases h1 : 1 < c
      · rw [if_pos h1] at h'; cases h'
      · by_cases h2 : c = 0
        · rw [if_neg h1, if_pos h2] at h'; cases h'
        · rw [if_neg h1, if_neg h2] at h'
          injection h' with h'
          injection h' with e1 e2
          subst e1 e2
          exact ⟨by simp; omega, rfl, rfl, .inr (by omega)⟩
  | succ k ih =>
    cases l with
    | nil => cases h
    | cons c l =>
      have h' : (if c < 128 then (if c = 0 ∧ k + 1 < 9 then (.error true : Rs) else .ok (c, 1)) else match rsk k l with
        | .ok (u, m) => (.ok (c % 128 + 128 * u, m + 1) : Rs)
        | .error e => .error e) = .ok (v, n) := h
      by_cases h1 : c < 128
      · rw [if_pos h1] at h'
        by_cases h2 : c = 0 ∧ k + 1 < 9
        · rw [if_pos h2] at h'; cases h'
        · rw [if_neg h2] at h'
          injection h' with h'
          injection h' with e1 e2
          subst e1 e2
          have hb : 128 ≤ 2 ^ (7 * (k + 1) + 1) := by
            rw [show 7 * (k + 1) + 1 = 7 + (7 * k + 1) by omega, Nat.pow_add]
            exact Nat.le_mul_of_pos_right _ (Nat.two_pow_pos _)
          rw [sfk_small _ _ h1]
          exact ⟨by omega, rfl, rfl, by omega⟩
      · rw [if_neg h1] at h'
        cases hr : rsk k l with
        | error e => rw [hr] at h'; cases h'
        | ok um =>
          obtain ⟨u, m⟩ := um
          rw [hr] at h'
          injection h' with h'
          injection h' with e1 e2
          obtain ⟨q1, q2, q3, q4⟩ := ih l u m (by omega) (fun x hx => hl x (List.mem_cons_of_mem _ hx)) hr
          have hu : u ≠ 0 := q4.resolve_left (by omega)
          have hc := hl c (List.mem_cons_self ..)
          subst e1 e2
          have hd : (c % 128 + 128 * u) / 128 = u := by omega
          have hmd : 128 + (c % 128 + 128 * u) % 128 = c := by omega
          rw [sfk_big k _ (by omega), hd, hmd, List.take_succ_cons, q2]
          refine ⟨?_, rfl, by rw [List.length_cons, q3], .inr (by omega)⟩
          rw [show 7 * (k + 1) + 1 = (7 * k + 1) + 7 by omega, Nat.pow_add]
          have : u + 1 ≤ 2 ^ (7 * k + 1) := q1
          have h128 : 2 ^ 7 = 128 := rfl
          rw [h128]
          have := Nat.mul_le_mul_right 128 this
          omega
/-- A beginning that is too short. -/
theorem rsk_short (k v m : Nat) (h : m < (sfk k v).length) : rsk k ((sfk k v).take m) = .error false := by
  induction k generalizing v m with
  | zero =>
    have : m = 0 := by simp [sfk] at h; exact h
    subst this; rfl
  | succ k ih =>
    cases m with
    | zero => rfl
    | succ m =>
      by_cases h1 : v < 128
      · rw [sfk_small _ _ h1] at h; simp at h
      · rw [sfk_big k v h1] at h ⊢
        rw [List.take_succ_cons]
        show (if 128 + v % 128 < 128 then _ else match rsk k ((sfk k (v / 128)).take m) with
          | .ok (u, n) => (.ok ((128 + v % 128) % 128 + 128 * u, n + 1) : Rs)
          | .error e => .error e) = _
        rw [if_neg (by omega), ih (v / 128) m (by simpa using h)]
end Go.Proofs.YtjobaeopokfekaaGreat
/-
  What the Puts stand on: 'anew', 'shortForm', 'PutUvarint'.
-/
namespace Go.Proofs.YtjobaeopokfekaaGreat
open Go.RowKit
/-- The short form as bytes. -/
def sb (k v : Nat) : List (BitVec 8) := (sfk k v).map (BitVec.ofNat 8)
theorem sb_small (k v : Nat) (h : v < 128) : sb k v = [BitVec.ofNat 8 v] := by unfold sb; rw [sfk_small k v h]; rfl
theorem sb_big (k v : Nat) (h : ¬ v < 128) : sb (k + 1) v = BitVec.ofNat 8 (128 + v % 128) :: sb k (v / 128) := by unfold sb; rw [sfk_big k v h]; rfl
theorem sb_len (k v : Nat) : (sb k v).length ≤ k + 1 := by unfold sb; rw [List.length_map]; exact sfk_len k v
theorem sb_pos (k v : Nat) : 0 < (sb k v).length := by unfold sb; rw [List.length_map]; exact sfk_pos k v
theorem el_ofNat (n : Nat) : el (BitVec.ofNat 8 n) = ((n % 256 : Nat) : Int) := by unfold el; rw [BitVec.toNat_ofNat]
theorem wrap_u8 (n : Int) : IntKind.u8.wrap n = n % 256 := by simp [IntKind.wrap, IntKind.bits, IntKind.signed]
theorem byte_conv (n : Nat) : (n : Int) % 256 = el (BitVec.ofNat 8 n) := by rw [el_ofNat]; omega
theorem or128 : ∀ x : BitVec 8, bits .or .u8 (el x) 128 = el (x ||| 128#8) := by decide +kernel
theorem or128n : ∀ x : Fin 256, BitVec.ofNat 8 x.val ||| 128#8 = BitVec.ofNat 8 (128 + x.val % 128) := by decide +kernel
theorem ofNat_mod (n : Nat) : BitVec.ofNat 8 (n % 256) = BitVec.ofNat 8 n := by
  apply BitVec.eq_of_toNat_eq; rw [BitVec.toNat_ofNat, BitVec.toNat_ofNat]; omega
theorem byte_on (n : Nat) : bits .or .u8 ((n : Int) % 256) 128 = el (BitVec.ofNat 8 (128 + n % 128)) := by
  rw [byte_conv, or128]
  have h := or128n ⟨n % 256, by omega⟩
  simp only at h
  rw [ofNat_mod, show n % 256 % 128 = n % 128 by omega] at h
  rw [h]
theorem rd_k (W : World) (k : Nat) (hk : k < 256) : Rd (W.alloc (.cells #[.int .u8 (k : Int)] 5)) (some ⟨W.heap.size, 0, none⟩) [BitVec.ofNat 8 k] := by
  have h := rd_new1 W (BitVec.ofNat 8 k) 5
  have e : el (BitVec.ofNat 8 k) = (k : Int) := by unfold el; rw [BitVec.toNat_ofNat]; omega
  rwa [e] at h
section
attribute [local irreducible] Calls el sb
set_option maxRecDepth 1000000 in
theorem anew_any {w : World} {a : Option Addr} {bs : List (BitVec 8)} (h : Rd w a bs) (n c m : Nat) (hn : bs.length = n) (hm : n + m ≤ 140737488355328) :
    Calls Tryz.prog 64 #[.slice a n c, .int .i64 (m : Int)] w fun e w' => ∃ v, e = .returned v ∧ Ow w' w.heap.size v bs ∧ Below w.heap.size w w' := by
  have hmk : ∀ w, (Instr.makeSlice 22 (.int .i64 0) (.int .i64 ((n : Int) + (m : Int)))).run Tryz.prog w = .ok (.slice (some ⟨w.heap.size, 0, none⟩) 0 (n + m)) (w.alloc (.cells (Array.replicate (n + m) (.int .u8 0)) 5)) := fun w => by rw [← Int.natCast_add]; exact make_room (n + m) hm w
  have al : ∀ (W : World) (o : Obj), Below W.heap.size W (W.alloc o) := fun W o => (Below.refl _ _).alloc (Nat.le_refl _) o
  have o1 := Ow.made w (n + m) hm
  go_enter Tryz.func64, Tryz.ntmps64
  go_wp2_with (at_builtin; refine wpList_apa rfl (.tmp 9) (.tmp 10) rfl w.heap.size _ [] rfl o1 a n c bs rfl (h.below (al _ _)) hn (by simp; omega) ((al _ _).size) ?_; intro v1 w1 ho1 hg1 hk1)
  go_ret
  exact ⟨_, rfl, ho1, o1.below_append (al _ _) (al _ _).size hg1 (Nat.le_refl _)⟩
theorem anew0 {w : World} {a : Option Addr} {bs : List (BitVec 8)} (h : Rd w a bs) (n c : Nat) (hn : bs.length = n) (hm : n ≤ 140737488355328) :
    Calls Tryz.prog 64 #[.slice a n c, .int .i64 0] w fun e w' => ∃ v, e = .returned v ∧ Ow w' w.heap.size v bs ∧ Below w.heap.size w w' := anew_any h n c 0 hn hm
end
end Go.Proofs.YtjobaeopokfekaaGreat
/-
  Short forms: what CodecShort asks of them.
-/
namespace Go.Proofs.YtjobaeopokfekaaGreat
/-- The groups' sum, of the first i bytes. -/
def ps : List Nat → Nat → Nat
  | _, 0 => 0
  | [], _ + 1 => 0
  | c :: l, i + 1 => c % 128 + 128 * ps l i
theorem ps_succ (l : List Nat) (i : Nat) (h : i < l.length) : ps l (i + 1) = ps l i + (l.getD i 0 % 128) * 128 ^ i := by
  induction l generalizing i with
  | nil => simp at h
  | cons c l ih =>
    cases i with
    | zero => simp [ps]
    | succ i =>
      have h' : i < l.length := by simpa using h
      show c % 128 + 128 * ps l (i + 1) = c % 128 + 128 * ps l i + _
      rw [ih i h']
      simp only [List.getD_cons_succ]
      rw [Nat.mul_add, Nat.pow_succ, Nat.mul_comm (128 ^ i) 128, Nat.mul_left_comm]
      omega
theorem ps_mono (l : List Nat) (i j : Nat) (h : i ≤ j) : ps l i ≤ ps l j := by
  induction l generalizing i j with
  | nil => cases i <;> cases j <;> simp [ps]
  | cons c l ih =>
    cases i with
    | zero => simp [ps]
    | succ i => cases j with
      | zero => omega
      | succ j =>
        show c % 128 + 128 * ps l i ≤ c % 128 + 128 * ps l j
        have := ih i j (by omega)
        omega
theorem ps_sfk (k v : Nat) (h : v < 2 ^ (7 * k + 1)) : ps (sfk k v) (sfk k v).length = v := by
  induction k generalizing v with
  | zero => 
    have : v < 2 := by simpa using h
    show v % 128 + 128 * 0 = v
    omega
  | succ k ih =>
    by_cases h1 : v < 128
    · rw [sfk_small _ _ h1]
      show v % 128 + 128 * 0 = v
      omega
    · rw [sfk_big k v h1]
      show (128 + v % 128) % 128 + 128 * ps (sfk k (v / 128)) (sfk k (v / 128)).length = v
      rw [ih _ (div_bound h)]
      omega
theorem sfk_mark (k v i : Nat) (h : v < 2 ^ (7 * k + 1)) (hi : i < (sfk k v).length) : 128 ≤ (sfk k v).getD i 0 ↔ i + 1 < (sfk k v).length := by
  induction k generalizing v i with
  | zero =>
    have h0 : v < 2 := by simpa using h
    have : i = 0 := by simp [sfk] at hi; exact hi
    subst this
    show 128 ≤ v ↔ 0 + 1 < 1
    omega
  | succ k ih =>
    by_cases h1 : v < 128
    · rw [sfk_small _ _ h1] at hi ⊢
      have : i = 0 := by simpa using hi
      subst this
      show 128 ≤ v ↔ 0 + 1 < 1
      omega
    · rw [sfk_big k v h1] at hi ⊢
      have hp := sfk_pos k (v / 128)
      cases i with
      | zero =>
        show 128 ≤ 128 + v % 128 ↔ 0 + 1 < (sfk k (v / 128)).length + 1
        omega
      | succ i =>
        have := ih (v / 128) i (div_bound h) (by simpa using hi)
        simp only [List.getD_cons_succ, List.length_cons]
        omega
/-- How many groups are counted from here on. -/
def gl (k u : Nat) : Nat := if u = 0 then 0 else (sfk k u).length
theorem gl_zero (k : Nat) : gl k 0 = 0 := rfl
theorem gl_step (k u : Nat) (h : 0 < u) (hu : u < 2 ^ (7 * k + 1)) : gl k u = 1 + gl (k - 1) (u / 128) ∧ u / 128 < 2 ^ (7 * (k - 1) + 1) := by
  unfold gl
  rw [if_neg (by omega)]
  by_cases h1 : u < 128
  · rw [sfk_small _ _ h1, if_pos (by omega)]
    refine ⟨rfl, ?_⟩
    have := Nat.two_pow_pos (7 * (k - 1) + 1)
    omega
  · cases k with
    | zero => simp at hu; omega
    | succ k =>
      rw [sfk_big k u h1, if_neg (by omega), List.length_cons]
      exact ⟨by simp only [Nat.add_sub_cancel]; omega, div_bound hu⟩
theorem gl_first (v : Nat) (h : v < 18446744073709551616) : (sfk 9 v).length = 1 + gl 8 (v / 128) ∧ v / 128 < 2 ^ (7 * 8 + 1) := by
  by_cases h1 : v < 128
  · rw [sfk_small _ _ h1, show v / 128 = 0 by omega, gl_zero]; exact ⟨rfl, by decide⟩
  · rw [sfk_big 8 v h1, List.length_cons]
    unfold gl
    rw [if_neg (by omega)]
    exact ⟨by omega, by omega⟩
theorem sb_nat (k v : Nat) (h : v < 2 ^ (7 * k + 1)) : (sb k v).map BitVec.toNat = sfk k v := by
  unfold sb
  rw [List.map_map]
  have hb := sfk_byte k v h
  conv => rhs; rw [← List.map_id (sfk k v)]
  apply List.map_congr_left
  intro c hc
  have := hb c hc
  show (BitVec.ofNat 8 c).toNat = c
  rw [BitVec.toNat_ofNat]; omega
theorem sb_get (k v i : Nat) (h : v < 2 ^ (7 * k + 1)) (hi : i < (sfk k v).length) : el ((sb k v).getD i 0#8) = (((sfk k v).getD i 0 : Nat) : Int) := by
  have hb := sfk_byte k v h
  have e : (sb k v).getD i 0#8 = BitVec.ofNat 8 ((sfk k v).getD i 0) := by
    simp [sb, List.getD, List.getElem?_eq_getElem hi]
  have hl : (sfk k v).getD i 0 < 256 := by
    rw [show (sfk k v).getD i 0 = (sfk k v)[i] by simp [List.getD, List.getElem?_eq_getElem hi]]
    exact hb _ (List.getElem_mem hi)
  rw [e, el_ofNat]; omega
theorem sb_sfl (k v : Nat) : (sb k v).length = (sfk k v).length := by unfold sb; rw [List.length_map]
/-- None begins another. -/
theorem sf_apart (v w : Nat) (hv : v < 18446744073709551616) (hw : w < 18446744073709551616) (h : sb 9 v = (sb 9 w).take (sfk 9 v).length) : v = w := by
  have h1 := congrArg (List.map BitVec.toNat) h
  rw [sb_nat 9 v hv, List.map_take, sb_nat 9 w hw] at h1
  have h2 := rsk_sfk 9 v ((sfk 9 w).drop (sfk 9 v).length) (Nat.le_refl _) hv (.inl rfl)
  have e : sfk 9 v ++ (sfk 9 w).drop (sfk 9 v).length = sfk 9 w := by
    conv => lhs; arg 1; rw [h1]
    exact List.take_append_drop _ _
  rw [e] at h2
  have h3 := rsk_sfk 9 w [] (Nat.le_refl _) hw (.inl rfl)
  rw [List.append_nil, h2] at h3
  injection h3 with h3
  exact (Prod.mk.inj h3).1
theorem sf_prefix (v w : Nat) (hv : v < 18446744073709551616) (hw : w < 18446744073709551616) : ((sb 9 v).take (min (sfk 9 v).length (sfk 9 w).length) = (sb 9 w).take (min (sfk 9 v).length (sfk 9 w).length)) ↔ v = w := by
  constructor
  · intro h
    rcases Nat.le_total (sfk 9 v).length (sfk 9 w).length with hl | hl
    · rw [Nat.min_eq_left hl, List.take_of_length_le (by rw [sb_sfl]; exact Nat.le_refl _)] at h
      exact sf_apart v w hv hw h
    · rw [Nat.min_eq_right hl, List.take_of_length_le (l := sb 9 w) (by rw [sb_sfl]; exact Nat.le_refl _)] at h
      exact (sf_apart w v hw hv h.symm).symm
  · rintro rfl; rfl
end Go.Proofs.YtjobaeopokfekaaGreat
/-
  A reading of a short form, byte by byte; blocks and texts: mathematics alone.
-/
namespace Go.Proofs.YtjobaeopokfekaaGreat
/-- A reading that goes on behind i bytes whose groups are s. -/
def comb (s i : Nat) : Rs → Rs
  | .ok (v, n) => .ok (s + v * 128 ^ i, i + n)
  | .error e => .error e
theorem comb_start (R : Rs) : comb 0 0 R = R := by
  cases R with
  | error e => rfl
  | ok vn => simp [comb]
theorem step_on (s i k c : Nat) (l : List Nat) (h : 128 ≤ c) : comb s i (rsk (k + 1) (c :: l)) = comb (s + (c % 128) * 128 ^ i) (i + 1) (rsk k l) := by
  show comb s i (if c < 128 then _ else match rsk k l with
    | .ok (v, n) => (.ok (c % 128 + 128 * v, n + 1) : Rs)
    | .error e => .error e) = _
  rw [if_neg (by omega)]
  cases rsk k l with
  | error e => rfl
  | ok vn =>
    obtain ⟨v, n⟩ := vn
    simp only [comb]
    rw [Nat.pow_succ, Nat.add_mul, show 128 * v * 128 ^ i = v * (128 ^ i * 128) by rw [Nat.mul_comm 128 v, Nat.mul_assoc, Nat.mul_comm 128], Nat.add_assoc]
    congr 2; omega
theorem step_last (c : Nat) (l : List Nat) (h : 1 < c) : rsk 0 (c :: l) = .error true := by
  show (if 1 < c then (.error true : Rs) else _) = _
  rw [if_pos h]
theorem step_zero (k : Nat) (l : List Nat) (h : k < 9) : rsk k (0 :: l) = .error true := by
  cases k with
  | zero => rfl
  | succ k =>
    show (if 0 < 128 then (if 0 = 0 ∧ k + 1 < 9 then (.error true : Rs) else _) else _) = _
    rw [if_pos (by omega), if_pos ⟨rfl, h⟩]
theorem step_end (k c : Nat) (l : List Nat) (h : c < 128) (h0 : c ≠ 0 ∨ k = 9) (h1 : k = 0 → c ≤ 1) : rsk k (c :: l) = .ok (c, 1) := by
  cases k with
  | zero =>
    show (if 1 < c then (.error true : Rs) else if c = 0 then .error true else .ok (c, 1)) = _
    have := h1 rfl
    rw [if_neg (by omega), if_neg (by omega)]
  | succ k =>
    show (if c < 128 then (if c = 0 ∧ k + 1 < 9 then (.error true : Rs) else .ok (c, 1)) else _) = _
    rw [if_pos h, if_neg (by omega)]
/-- The bytes as numbers. -/
def nt (bs : List (BitVec 8)) : List Nat := bs.map BitVec.toNat
theorem nt_len (bs : List (BitVec 8)) : (nt bs).length = bs.length := by simp [nt]
theorem nt_byte (bs : List (BitVec 8)) : ∀ c ∈ nt bs, c < 256 := by
  intro c hc
  obtain ⟨b, _, rfl⟩ := List.mem_map.1 hc
  exact b.isLt
/-- What a walk's step comes to: an error's number, or an answer and what is left. -/
abbrev Ans (α : Type) := Except Int (α × List (BitVec 8))
/-- A short form. -/
def uv (bs : List (BitVec 8)) : Ans Nat := match rsk 9 (nt bs) with
  | .ok (v, n) => .ok (v, bs.drop n)
  | .error false => .error 70
  | .error true => .error 71
/-- So many bytes. -/
def tk (n : Nat) (bs : List (BitVec 8)) : Ans (List (BitVec 8)) := if bs.length < n then .error 70 else .ok (bs.take n, bs.drop n)
/-- A short form that is at most so much. -/
def ct (most : Nat) (bs : List (BitVec 8)) : Ans Nat := match uv bs with
  | .error e => .error e
  | .ok (v, l) => if most < v then .error 71 else .ok (v, l)
/-- A block. -/
def bk (most : Nat) (bs : List (BitVec 8)) : Ans (List (BitVec 8)) := match ct most bs with
  | .error e => .error e
  | .ok (v, l) => tk v l
theorem uv_lt {bs l : List (BitVec 8)} {v : Nat} (h : uv bs = .ok (v, l)) : v < 18446744073709551616 := by
  unfold uv at h
  cases hr : rsk 9 (nt bs) with
  | error e => rw [hr] at h; cases e <;> cases h
  | ok un =>
    obtain ⟨u, n⟩ := un
    rw [hr] at h
    injection h with h
    injection h with h1 h2
    subst h1
    exact (sfk_rsk 9 _ u n (Nat.le_refl _) (nt_byte bs) hr).1
theorem or_disj (s d i : Nat) (h : s < 128 ^ i) : s ||| d * 128 ^ i = s + d * 128 ^ i := by
  have e : 128 ^ i = 2 ^ (7 * i) := by rw [Nat.pow_mul]
  rw [e] at h ⊢
  rw [← Nat.shiftLeft_eq, Nat.or_comm, ← Nat.shiftLeft_add_eq_or_of_lt h, Nat.add_comm]
end Go.Proofs.YtjobaeopokfekaaGreat
/-
  Rows of bytes as strings.
-/
namespace Go.Proofs.YtjobaeopokfekaaGreat
open Go.RowKit
/-- Bytes as a string has them. -/
def us (xs : List (BitVec 8)) : List UInt8 := xs.map (fun b => UInt8.ofNat b.toNat)
def bstr (xs : List (BitVec 8)) : ByteArray := ⟨(us xs).toArray⟩
theorem us_len (xs : List (BitVec 8)) : (us xs).length = xs.length := by simp [us]
theorem us_at (xs : List (BitVec 8)) (j : Nat) (hj : j < (us xs).length) : ((us xs)[j].toNat : Int) = el (xs.getD j 0#8) := by
  have h' : j < xs.length := by rw [us_len] at hj; exact hj
  have e : (us xs)[j] = UInt8.ofNat (xs.getD j 0#8).toNat := by simp [us, List.getD, h']
  have := (xs.getD j 0#8).isLt
  rw [e]
  unfold el
  simp
theorem u8_inj {a b : BitVec 8} (h : UInt8.ofNat a.toNat = UInt8.ofNat b.toNat) : a = b := by
  apply BitVec.eq_of_toNat_eq
  have h1 := congrArg UInt8.toNat h
  simpa using h1
theorem us_inj {xs ys : List (BitVec 8)} (h : us xs = us ys) : xs = ys := by
  induction xs generalizing ys with
  | nil => cases ys with
    | nil => rfl
    | cons y ys => simp [us] at h
  | cons x xs ih => cases ys with
    | nil => simp [us] at h
    | cons y ys =>
      simp only [us, List.map_cons, List.cons.injEq] at h
      rw [u8_inj h.1, ih h.2]
theorem bstr_inj {xs ys : List (BitVec 8)} (h : bstr xs = bstr ys) : xs = ys := by
  unfold bstr at h
  injection h with h
  exact us_inj (List.toArray_inj h)
theorem bstr_eq (xs ys : List (BitVec 8)) : (bstr xs = bstr ys) = (xs = ys) := propext ⟨bstr_inj, fun h => by rw [h]⟩
theorem bstr_toList (xs : List (BitVec 8)) : (bstr xs).toList = us xs := by rw [ByteArray.toList_eq]; rfl
theorem bstr_beq (xs ys : List (BitVec 8)) : ((bstr xs).toList == (bstr ys).toList) = decide (xs = ys) := by
  rw [bstr_toList, bstr_toList]
  by_cases e : xs = ys
  · rw [e, decide_eq_true rfl]; simp
  · rw [decide_eq_false e]
    have : ¬ us xs = us ys := fun h => e (us_inj h)
    simp [this]
theorem und5 : Tryz.prog.underlying 5 = some (.int .u8) := Tryz.underlying5
theorem undS : Tryz.prog.underlying 9 = some .string := Tryz.underlying9
theorem conv_rd {w : World} {p : Option Addr} {xs : List (BitVec 8)} (h : Rd w p xs) (n c : Nat) (hn : xs.length = n) : (convert 22 9 (.slice p n c)).run Tryz.prog w = .ok (.string (bstr xs)) w := by
  subst hn
  cases p with
  | none =>
    have h0 : xs = [] := by
      rcases h with h | ⟨b, o, e, _⟩
      · exact h
      · cases e
    subst h0
    rw [show ([] : List (BitVec 8)).length = 0 from rfl, run_convert_bytes_string w 22 9 5 none 0 c Tryz.underlying22 und5 undS]
    simp [Conv.bytesToString, bstr, us]
    first | rfl | skip
  | some a =>
    have hb : ∀ j (hj : j < (us xs).length), w.cell? (a.add j) = some (.int .u8 ((us xs)[j].toNat : Int)) := fun j hj => by
      have hjn : j < xs.length := by rw [us_len] at hj; exact hj
      rcases h with h | ⟨b, o, e, hc⟩
      · subst h; simp at hjn
      · injection e with e
        subst e
        rw [add_pl, hc j hjn, us_at]
    have := run_convert_bytes_back (P := Tryz.prog) w 22 9 5 a c (us xs) Tryz.underlying22 und5 undS hb
    rw [us_len] at this
    exact this
/-- The beginning of a row. -/
theorem Rd.take {w : World} {p : Option Addr} {xs : List (BitVec 8)} (h : Rd w p xs) (m : Nat) : Rd w p (xs.take m) := by
  rcases h with h | ⟨b, o, e, hc⟩
  · subst h; exact .inl (by simp)
  · refine .inr ⟨b, o, e, fun i hi => ?_⟩
    have h1 : i < xs.length := by rw [List.length_take] at hi; omega
    have h2 : i < m := by rw [List.length_take] at hi; omega
    rw [hc i h1]
    simp [List.getD, h2]
end Go.Proofs.YtjobaeopokfekaaGreat
/-
  A reading on its way: 'next', 'short', 'count', 'block'.
-/
namespace Go.Proofs.YtjobaeopokfekaaGreat
open Go.RowKit
/-- A slice that reads as these bytes. -/
def Sq (w : World) (v : Value) (bs : List (BitVec 8)) : Prop :=
  (bs = [] ∧ v = .slice none 0 0) ∨ ∃ b o c, v = .slice (some ⟨b, o, none⟩) bs.length c ∧ bs.length ≤ c ∧ ∀ i, i < bs.length → w.cell? ⟨b, o + i, none⟩ = some (.int .u8 (el (bs.getD i 0#8)))
/-- No bytes lie in that block. -/
def Nb (w : World) (g : Nat) : Prop := ∀ i z, w.cell? ⟨g, i, none⟩ ≠ some (.int .u8 z)
theorem gtrans {w w1 w2 : World} {r : Option Nat} (h : w.grownBy w1 r) (k : w1.grownBy w2 r) : w.grownBy w2 r :=
  ⟨k.os.trans h.os, k.tape.trans h.tape, k.output.trans h.output, Nat.le_trans h.size k.size, fun i hi hne => (k.block i (Nat.lt_of_lt_of_le hi h.size) hne).trans (h.block i hi hne)⟩
theorem grefl (w : World) (r : Option Nat) : w.grownBy w r := ⟨rfl, rfl, rfl, Nat.le_refl _, fun _ _ _ => rfl⟩
theorem grown_below {w w1 w2 : World} {r : Option Nat} (h : w.grownBy w1 r) (k : Below w1.heap.size w1 w2) : w.grownBy w2 r :=
  ⟨k.os.trans h.os, k.tape.trans h.tape, k.output.trans h.output, Nat.le_trans h.size k.size, fun i hi hne => (k.block i (Nat.lt_of_lt_of_le hi h.size)).trans (h.block i hi hne)⟩
theorem Sq.kept {w w' : World} {v : Value} {bs : List (BitVec 8)} {g : Nat} (h : Sq w v bs) (hb : Nb w g) (hg : w.grownBy w' (some g)) : Sq w' v bs := by
  rcases h with h | ⟨b, o, c, hv, hc, hr⟩
  · exact .inl h
  · refine .inr ⟨b, o, c, hv, hc, fun i hi => hg.cell (hr i hi) (fun e => ?_)⟩
    injection e with e
    have e : b = g := e
    have := hr i hi
    rw [e] at this
    exact hb _ _ this
theorem Sq.below {w w' : World} {v : Value} {bs : List (BitVec 8)} (h : Sq w v bs) (hg : Below w.heap.size w w') : Sq w' v bs := by
  rcases h with h | ⟨b, o, c, hv, hc, hr⟩
  · exact .inl h
  · exact .inr ⟨b, o, c, hv, hc, fun i hi => cell_below (hr i hi) hg⟩
theorem Sq.rd {w : World} {v : Value} {bs : List (BitVec 8)} (h : Sq w v bs) : ∃ p c, v = .slice p bs.length c ∧ bs.length ≤ c ∧ Rd w p bs := by
  rcases h with ⟨rfl, rfl⟩ | ⟨b, o, c, rfl, hc, hr⟩
  · exact ⟨none, 0, rfl, Nat.le_refl _, .inl rfl⟩
  · exact ⟨_, c, rfl, hc, .inr ⟨b, o, rfl, hr⟩⟩
theorem Ow.sq {w : World} {base : Nat} {v : Value} {xs : List (BitVec 8)} (h : Ow w base v xs) : Sq w v xs := by
  obtain ⟨p, c, hv, hc, hr⟩ := h.rd
  rcases h.2 with ⟨hv0, h0⟩ | ⟨g, cap, cur, hv1, _⟩
  · exact .inl ⟨List.length_eq_zero_iff.1 h0, hv0⟩
  · rw [hv1] at hv
    injection hv with e1 e2 e3
    subst e1 e3
    refine .inr ⟨g, 0, cap, hv1, hc, fun i hi => ?_⟩
    rcases hr with hr | ⟨b, o, e, hr⟩
    · rw [hr] at hi; cases hi
    · injection e with e
      injection e with e1 e2
      subst e1 e2
      exact hr i hi
/-- A walk: what is left. -/
def Wk (B : Nat) (w : World) (g : Nat) (bs : List (BitVec 8)) : Prop := ∃ v, w.heap[g]? = some (.cells #[v] 148 (0, 0)) ∧ Sq w v bs ∧ B ≤ g ∧ ∀ b, v.ownBlock = some b → b < B
theorem nb_of {w : World} {g : Nat} {cs : Array Value} {t : TypeId} {fz : Nat × Nat} (h : w.heap[g]? = some (.cells cs t fz)) (hc : ∀ (i : Nat) z, cs[i]? ≠ some (.int .u8 z)) : Nb w g := by
  intro i z e
  rw [cell_of_row w g i _ _ _ h] at e
  exact hc i z e
theorem sq_nint {w : World} {v : Value} {bs : List (BitVec 8)} (h : Sq w v bs) : ∀ z, v ≠ .int .u8 z := by
  rcases h with ⟨_, rfl⟩ | ⟨b, o, c, rfl, _⟩ <;> (intro z e; cases e)
theorem Wk.nb {B : Nat} {w : World} {g : Nat} {bs : List (BitVec 8)} (h : Wk B w g bs) : Nb w g := by
  obtain ⟨v, hg, hs, _⟩ := h
  refine nb_of hg (fun i z e => ?_)
  cases i with
  | zero => simp at e; exact sq_nint hs z e
  | succ i => simp at e
theorem Wk.lt {B : Nat} {w : World} {g : Nat} {bs : List (BitVec 8)} (h : Wk B w g bs) : g < w.heap.size := by
  obtain ⟨v, hg, hs, _⟩ := h
  rcases Nat.lt_or_ge g w.heap.size with h1 | h1
  · exact h1
  · rw [Array.getElem?_eq_none h1] at hg; cases hg
theorem Wk.below {B : Nat} {w w' : World} {g : Nat} {bs : List (BitVec 8)} (h : Wk B w g bs) (hb : Below w.heap.size w w') : Wk B w' g bs := by
  have hl := h.lt
  obtain ⟨v, hg, hs, hBg, hv⟩ := h
  exact ⟨v, by rw [hb.block g hl]; exact hg, hs.below hb, hBg, hv⟩
/-- Behind what turned blocks that are younger than the walk. -/
theorem Wk.young {B : Nat} {w w' : World} {g : Nat} {bs : List (BitVec 8)} {o : Option Nat} (h : Wk B w g bs) (hg : w.grownBy w' o) (ho : ∀ k, o = some k → B ≤ k ∧ k ≠ g) : Wk B w' g bs := by
  have hl := h.lt
  obtain ⟨v, hh, hs, hBg, hv⟩ := h
  refine ⟨v, by rw [hg.block g hl (fun e => (ho g e.symm).2 rfl)]; exact hh, ?_, hBg, hv⟩
  rcases hs with h1 | ⟨b, of, c, rfl, hc, hr⟩
  · exact .inl h1
  · have hbg : b < B := hv b rfl
    exact .inr ⟨b, of, c, rfl, hc, fun i hi => hg.cell (hr i hi) (fun e => by have := (ho b e.symm).1; omega)⟩
theorem grown_set (w : World) (g i : Nat) (v : Value) : w.grownBy (w.setCell ⟨g, i, none⟩ v) (some g) :=
  ⟨rfl, rfl, rfl, ((Below.refl 0 w).setCell (Nat.zero_le _) v).size, fun k _ hne => heap_setCell_other w ⟨g, i, none⟩ k v (fun e => hne (congrArg some e))⟩
theorem wk_set {B : Nat} {w : World} {g : Nat} {u v : Value} {bs : List (BitVec 8)} (hg : w.heap[g]? = some (.cells #[u] 148 (0, 0))) (hb : Nb w g) (hs : Sq w v bs) (hBg : B ≤ g) (hv : ∀ b, v.ownBlock = some b → b < B) : Wk B (w.setCell ⟨g, 0, none⟩ v) g bs :=
  ⟨v, heap_setCell_same w g 0 _ _ v hg, hs.kept hb (grown_set w g 0 v), hBg, hv⟩
/-- A panic with an error's number. -/
abbrev pan (e : Int) : Ending := .panicked [{ v := .iface 38 (.int .i64 e), recovered := false }]
section
attribute [local irreducible] Calls el
set_option maxRecDepth 1000000 in
theorem next_cut {B : Nat} {w : World} {g : Nat} {bs : List (BitVec 8)} (h : Wk B w g bs) (n : Int) (hn : (bs.length : Int) < n) :
    Calls Tryz.prog 95 #[.pointer (some ⟨g, 0, none⟩), .int .i64 n] w fun e w' => e = pan 70 ∧ w' = w := by
  obtain ⟨v, hg, hs, _⟩ := h
  have h1 := cell_of_row w g 0 _ _ (0, 0) hg
  rcases hs with ⟨rfl, rfl⟩ | ⟨b, o, c, rfl, hc, hr⟩
  · have hn' : (0 : Int) < n := by simpa using hn
    go_enter Tryz.func95, Tryz.ntmps95
    go_wp2
    exact ⟨rfl, rfl, rfl⟩
  · go_enter Tryz.func95, Tryz.ntmps95
    go_wp2
    exact ⟨rfl, rfl, rfl⟩
theorem sq_head {w : World} {b o c : Nat} {xs ys : List (BitVec 8)} (hc : (xs ++ ys).length ≤ c) (hr : ∀ i, i < (xs ++ ys).length → w.cell? ⟨b, o + i, none⟩ = some (.int .u8 (el ((xs ++ ys).getD i 0#8)))) : Sq w (.slice (some ⟨b, o, none⟩) xs.length c) xs := by
  rw [List.length_append] at hc hr
  refine .inr ⟨b, o, c, rfl, by omega, fun i hi => ?_⟩
  rw [hr i (by omega)]
  simp [List.getD, List.getElem?_append_left hi]
theorem sq_tail {w : World} {b o c : Nat} {xs ys : List (BitVec 8)} (hc : (xs ++ ys).length ≤ c) (hr : ∀ i, i < (xs ++ ys).length → w.cell? ⟨b, o + i, none⟩ = some (.int .u8 (el ((xs ++ ys).getD i 0#8)))) : Sq w (.slice (some ⟨b, o + xs.length, none⟩) ys.length (c - xs.length)) ys := by
  rw [List.length_append] at hc hr
  refine .inr ⟨b, o + xs.length, c - xs.length, rfl, by omega, fun i hi => ?_⟩
  have := hr (xs.length + i) (by omega)
  rw [Nat.add_assoc, this]
  simp [List.getD, List.getElem?_append_right]
set_option maxRecDepth 1000000 in
theorem next_ok {B : Nat} {w : World} {g : Nat} {xs ys : List (BitVec 8)} (h : Wk B w g (xs ++ ys)) (n : Nat) (hn : xs.length = n) :
    Calls Tryz.prog 95 #[.pointer (some ⟨g, 0, none⟩), .int .i64 (n : Int)] w fun e w' => ∃ v, e = .returned v ∧ Sq w' v xs ∧ Wk B w' g ys ∧ w.grownBy w' (some g) := by
  have hnb := h.nb
  obtain ⟨v, hg, hs, hBg, hbd⟩ := h
  have h1 := cell_of_row w g 0 _ _ (0, 0) hg
  have h2 := frozen_of_row w g 0 _ _ hg
  rcases hs with ⟨he, rfl⟩ | ⟨b, o, c, rfl, hc, hr⟩
  · obtain ⟨rfl, rfl⟩ := List.append_eq_nil_iff.1 he
    obtain rfl : 0 = n := hn
    go_enter Tryz.func95, Tryz.ntmps95
    go_wp2
    go_ret
    exact ⟨_, rfl, .inl ⟨rfl, rfl⟩, wk_set hg hnb (.inl ⟨rfl, rfl⟩) hBg (fun b h => by cases h), grown_set _ _ _ _⟩
  · subst hn
    have q1 := sq_head (xs := xs) (ys := ys) hc hr
    have q2 := sq_tail (xs := xs) (ys := ys) hc hr
    have hl : (xs ++ ys).length = xs.length + ys.length := List.length_append
    rw [hl] at hc h1 hr
    obtain ⟨n, hn⟩ : ∃ n, xs.length = n := ⟨_, rfl⟩
    obtain ⟨m, hm⟩ : ∃ m, ys.length = m := ⟨_, rfl⟩
    rw [hn, hm] at hc h1 hr
    rw [hn] at q1
    rw [hn, hm] at q2
    rw [hn]
    have hlt : ¬ ((n + m : Nat) : Int) < (n : Int) := by omega
    by_cases hcn : n = c
    · have hm0 : m = 0 := by omega
      have hys : ys = [] := List.length_eq_zero_iff.1 (by omega)
      subst hys hcn hm0
      go_enter Tryz.func95, Tryz.ntmps95
      go_wp2
      go_ret
      exact ⟨_, rfl, q1.kept hnb (grown_set _ _ _ _), wk_set hg hnb (.inr ⟨_, _, _, rfl, Nat.le_refl _, fun i hi => by cases hi⟩) hBg hbd, grown_set _ _ _ _⟩
    · have hcn' : ¬ c - n = 0 := by omega
      go_enter Tryz.func95, Tryz.ntmps95
      go_wp2
      go_ret
      exact ⟨_, rfl, q1.kept hnb (grown_set _ _ _ _), wk_set hg hnb q2 hBg hbd, grown_set _ _ _ _⟩
theorem short_bits (s d i : Nat) (h : s < 128 ^ i) (hb : s + d * 128 ^ i < 18446744073709551616) : bits .or .u64 (s : Int) (IntKind.u64.wrap ((d : Int) * 2 ^ (7 * i))) = ((s + d * 128 ^ i : Nat) : Int) := by
  have e : (2 : Int) ^ (7 * i) = ((128 ^ i : Nat) : Int) := by rw [Int.pow_mul]; simp
  rw [e, ← Int.natCast_mul, IntKind.wrap_u64, show ((d * 128 ^ i : Nat) : Int) % 18446744073709551616 = ((d * 128 ^ i : Nat) : Int) by omega, bits_or_u64_nat _ _ (by omega) (by omega), or_disj s d i h]
theorem pow_le9 (i : Nat) (h : i ≤ 8) : 128 ^ (i + 1) ≤ 9223372036854775808 := Nat.le_trans (Nat.pow_le_pow_right (by omega) (show i + 1 ≤ 9 by omega)) (by decide)
/-- What a walk's step answers. -/
def Tell {α : Type} (B : Nat) (w : World) (g : Nat) (f : α → World → Value → Prop) (R : Ans α) (e : Ending) (w' : World) : Prop :=
  w.grownBy w' (some g) ∧ match R with
  | .error c => e = pan c
  | .ok (a, l) => ∃ v, e = .returned v ∧ f a w' v ∧ Wk B w' g l
theorem sum_fits (s i c : Nat) (hs : s < 128 ^ i) (hi : i ≤ 9) (h9 : i = 9 → c ≤ 1) (hc : c < 256) : s + (c % 128) * 128 ^ i < 18446744073709551616 := by
  rcases Nat.lt_or_ge i 9 with h | h
  · have h1 := pow_le9 i (by omega)
    rw [Nat.pow_succ] at h1
    have h2 : (c % 128) * 128 ^ i ≤ 127 * 128 ^ i := Nat.mul_le_mul_right _ (by omega)
    omega
  · have : i = 9 := by omega
    subst this
    have h1 := h9 rfl
    have h2 : (c % 128) * 128 ^ 9 ≤ 1 * 128 ^ 9 := Nat.mul_le_mul_right _ (by omega)
    have h3 : (128 : Nat) ^ 9 = 9223372036854775808 := by decide
    omega
theorem sum_next (s i c : Nat) (hs : s < 128 ^ i) : s + (c % 128) * 128 ^ i < 128 ^ (i + 1) := by
  rw [Nat.pow_succ]
  have h2 : (c % 128) * 128 ^ i ≤ 127 * 128 ^ i := Nat.mul_le_mul_right _ (by omega)
  omega
end
end Go.Proofs.YtjobaeopokfekaaGreat
/-
  Numbers of a width: mathematics; 'width'.
-/
namespace Go.Proofs.YtjobaeopokfekaaGreat
open Go.RowKit
/-- A number of so many bytes. -/
def fx (n : Nat) (bs : List (BitVec 8)) : Ans Nat := match tk n bs with
  | .error e => .error e
  | .ok (xs, l) => .ok ((lv xs), l)
theorem fx_lt {n v : Nat} {bs l : List (BitVec 8)} (h : fx n bs = .ok (v, l)) : v < 256 ^ n := by
  unfold fx tk at h
  by_cases e : bs.length < n
  · rw [if_pos e] at h; cases h
  · rw [if_neg e] at h
    injection h with h; injection h with h1 h2
    subst h1
    have := lv_lt (bs.take n)
    rwa [List.length_take, Nat.min_eq_left (by omega)] at this
theorem num_bits (s d i : Nat) (h : s < 256 ^ i) (hb : s + d * 256 ^ i < 18446744073709551616) : bits .or .u64 (s : Int) (IntKind.u64.wrap ((d : Int) * 2 ^ (8 * i))) = ((s + d * 256 ^ i : Nat) : Int) := by
  have e : (2 : Int) ^ (8 * i) = ((256 ^ i : Nat) : Int) := by rw [Int.pow_mul]; simp
  have e2 : 256 ^ i = 2 ^ (8 * i) := by rw [Nat.pow_mul]
  have od : s ||| d * 256 ^ i = s + d * 256 ^ i := by
    rw [e2] at h ⊢
    rw [← Nat.shiftLeft_eq, Nat.or_comm, ← Nat.shiftLeft_add_eq_or_of_lt h, Nat.add_comm]
  rw [e, ← Int.natCast_mul, IntKind.wrap_u64, show ((d * 256 ^ i : Nat) : Int) % 18446744073709551616 = ((d * 256 ^ i : Nat) : Int) by omega, bits_or_u64_nat _ _ (by omega) (by omega), od]
theorem pow256 (n : Nat) (h : n ≤ 8) : 256 ^ n ≤ 18446744073709551616 := Nat.le_trans (Nat.pow_le_pow_right (by omega) h) (by decide)
section
attribute [local irreducible] Calls el
set_option maxRecDepth 1000000 in
theorem width8_any (w : World) : Calls Tryz.prog 63 #[] w fun e w' => e = .returned (.int .i64 1) ∧ w' = w := by
  go_enter Tryz.func63, Tryz.ntmps63
  go_wp2
  refine wp_loop_rounds 2 ?_
  rw [rounds_succ]
  go_wp2
  rw [rounds_succ]
  go_wp2
  go_ret
  exact ⟨rfl, rfl⟩
set_option maxRecDepth 1000000 in
theorem width32_any (w : World) : Calls Tryz.prog 65 #[] w fun e w' => e = .returned (.int .i64 4) ∧ w' = w := by
  go_enter Tryz.func65, Tryz.ntmps65
  go_wp2
  refine wp_loop_rounds 5 ?_
  rw [rounds_succ]
  go_wp2
  rw [rounds_succ]
  go_wp2
  rw [rounds_succ]
  go_wp2
  rw [rounds_succ]
  go_wp2
  rw [rounds_succ]
  go_wp2
  go_ret
  exact ⟨rfl, rfl⟩
set_option maxRecDepth 1000000 in
theorem width64_any (w : World) : Calls Tryz.prog 66 #[] w fun e w' => e = .returned (.int .i64 8) ∧ w' = w := by
  go_enter Tryz.func66, Tryz.ntmps66
  go_wp2
  refine wp_loop_rounds 9 ?_
  rw [rounds_succ]
  go_wp2
  rw [rounds_succ]
  go_wp2
  rw [rounds_succ]
  go_wp2
  rw [rounds_succ]
  go_wp2
  rw [rounds_succ]
  go_wp2
  rw [rounds_succ]
  go_wp2
  rw [rounds_succ]
  go_wp2
  rw [rounds_succ]
  go_wp2
  rw [rounds_succ]
  go_wp2
  go_ret
  exact ⟨rfl, rfl⟩
end
end Go.Proofs.YtjobaeopokfekaaGreat
/-
  Folding: Zig and Zag of each kind, the document's Fold and Unfold.
-/
namespace Go.Proofs.YtjobaeopokfekaaGreat
open Go.RowKit
/-- A number with a sign, folded. -/
def zg (v : Int) : Int := if 0 ≤ v then 2 * v else -2 * v - 1
/-- The number that is u when it is folded. -/
def ug (u : Int) : Int := if u % 2 = 0 then u / 2 else -(u / 2) - 1
theorem zg_ug (u : Int) (h : 0 ≤ u) : zg (ug u) = u := by
  unfold zg ug
  by_cases e : u % 2 = 0
  · rw [if_pos e, if_pos (by omega)]; omega
  · rw [if_neg e, if_neg (by omega)]; omega
theorem ug_zg (v : Int) : ug (zg v) = v := by
  unfold zg ug
  by_cases e : 0 ≤ v
  · rw [if_pos e, if_pos (by omega)]; omega
  · rw [if_neg e, if_neg (by omega)]; omega
theorem zg_nn (v : Int) : 0 ≤ zg v := by
  unfold zg
  by_cases e : 0 ≤ v
  · rw [if_pos e]; omega
  · rw [if_neg e]; omega
theorem zg_lt (v b : Int) (h : -b ≤ v ∧ v < b) : zg v < 2 * b := by
  unfold zg
  by_cases e : 0 ≤ v
  · rw [if_pos e]; omega
  · rw [if_neg e]; omega
/-- What Zag answers for a kind of so many numbers. -/
def zu (u lim : Int) : Int := if u < lim then ug u else 0
theorem zu_pos {u lim : Int} (h : u < lim) : zu u lim = ug u := if_pos h
theorem zu_neg {u lim : Int} (h : ¬ u < lim) : zu u lim = 0 := if_neg h
theorem not_u64 (x : Int) (h0 : 0 ≤ x) (h1 : x < 18446744073709551616) : bits .xor .u64 IntKind.u64.max x = 18446744073709551615 - x := by
  obtain ⟨n, rfl⟩ := Int.eq_ofNat_of_zero_le h0
  have e : IntKind.u64.max = ((18446744073709551615 : Nat) : Int) := rfl
  have hn : n < 18446744073709551616 := by omega
  rw [e, bits_xor_u64_nat _ _ (by decide) hn]
  have h2 : (18446744073709551615#64 ^^^ BitVec.ofNat 64 n).toNat = 18446744073709551615 - n := by
    rw [show (18446744073709551615#64 : BitVec 64) = BitVec.allOnes 64 by decide, BitVec.allOnes_xor, BitVec.toNat_not, BitVec.toNat_ofNat]
    omega
  rw [BitVec.toNat_xor, BitVec.toNat_ofNat, BitVec.toNat_ofNat] at h2
  have h3 : n % 2 ^ 64 = n := Nat.mod_eq_of_lt (by omega)
  rw [h3, show 18446744073709551615 % 2 ^ 64 = 18446744073709551615 by decide] at h2
  rw [h2]; omega
theorem wrap_i64 (n : Int) : IntKind.i64.wrap n = wrap64 n := by
  simp [IntKind.wrap, IntKind.bits, IntKind.signed, wrap64]; omega
theorem not_i64 (x : Int) (h0 : 0 ≤ x) (h1 : x < 9223372036854775808) : bits .xor .i64 (-1) x = -x - 1 := by
  obtain ⟨n, rfl⟩ := Int.eq_ofNat_of_zero_le h0
  have hn : n < 9223372036854775808 := by omega
  show IntKind.i64.wrap ((BitVec.ofInt 64 (-1) ^^^ BitVec.ofInt 64 (n : Int)).toNat : Int) = _
  rw [show BitVec.ofInt 64 (-1) = BitVec.allOnes 64 by decide, BitVec.allOnes_xor, BitVec.toNat_not, BitVec.ofInt_natCast, BitVec.toNat_ofNat, Nat.mod_eq_of_lt (by omega), wrap_i64]
  unfold wrap64
  omega
theorem wrap_i8 (n : Int) : IntKind.i8.wrap n = (n + 128) % 256 - 128 := by
  simp [IntKind.wrap, IntKind.bits, IntKind.signed]; omega
theorem wrap_i16 (n : Int) : IntKind.i16.wrap n = (n + 32768) % 65536 - 32768 := by
  simp [IntKind.wrap, IntKind.bits, IntKind.signed]; omega
theorem wrap_i32 (n : Int) : IntKind.i32.wrap n = (n + 2147483648) % 4294967296 - 2147483648 := by
  simp [IntKind.wrap, IntKind.bits, IntKind.signed]; omega
theorem zg_neg {v : Int} (h : v < 0) : zg v = -2 * v - 1 := if_neg (by omega)
theorem zg_pos {v : Int} (h : ¬ v < 0) : zg v = 2 * v := if_pos (by omega)
theorem zig_fact (v : Int) (h : -9223372036854775808 ≤ v ∧ v ≤ 9223372036854775807) (h1 : v < 0) : bits .xor .u64 IntKind.u64.max (IntKind.u64.wrap (IntKind.u64.wrap v * 2)) = zg v := by
  rw [zg_neg h1, IntKind.wrap_u64, IntKind.wrap_u64, not_u64 _ (by omega) (by omega)]
  omega
section
attribute [local irreducible] Calls
end
end Go.Proofs.YtjobaeopokfekaaGreat
