/-
  Stacks in plain words: what each place has, what each group holds whole. No program is named here.
-/
import Derived.WalkKit
namespace Go.Proofs.Ytkpoilcbdcddcaa
set_option linter.unusedVariables false

/-- A cell: its kind, its word, its region, its offset. -/
structure C4 where
  k : Int
  wd : Int
  rg : Int
  of : Int
deriving DecidableEq
def c0 : C4 := ⟨0, 0, 0, 0⟩
def wordC (n : Int) : C4 := ⟨1, n, 0, 0⟩
/-- A stack: the byte of each place, if it is set; what each group holds whole, or c0. -/
structure AS where
  pl : Nat → Option Int
  wh : Nat → C4
def AS.none : AS := ⟨fun _ => .none, fun _ => c0⟩
def AS.put1 (A : AS) (n : Nat) (x : Int) : AS := ⟨fun m => if m = n then some x else A.pl m, fun g => if g = n / 8 then c0 else A.wh g⟩
def AS.put (A : AS) : Nat → List Int → AS
  | _, [] => A
  | n, x :: r => (A.put1 n x).put (n + 1) r
def AS.hold (A : AS) (g : Nat) (c : C4) : AS := ⟨fun m => if m / 8 = g then .none else A.pl m, fun h => if h = g then c else A.wh h⟩
def AS.got (A : AS) : Nat → Nat → Option (List Int)
  | _, 0 => some []
  | off, n + 1 => (A.pl off).bind fun x => (A.got (off + 1) n).map (x :: ·)

theorem AS.ext' {A B : AS} (h : ∀ m, A.pl m = B.pl m) (k : ∀ g, A.wh g = B.wh g) : A = B := by
  cases A; cases B
  simp only [AS.mk.injEq]
  exact ⟨funext h, funext k⟩
theorem AS.put_append (A : AS) (n : Nat) (a b : List Int) : A.put n (a ++ b) = (A.put n a).put (n + a.length) b := by
  induction a generalizing A n with
  | nil => rfl
  | cons x r ih =>
    rw [List.cons_append, AS.put, ih, AS.put, List.length_cons, show n + 1 + r.length = n + (r.length + 1) by omega]
theorem AS.put_snoc (A : AS) (n : Nat) (a : List Int) (x : Int) : A.put n (a ++ [x]) = (A.put n a).put1 (n + a.length) x := by
  rw [AS.put_append]; rfl
theorem AS.put_pl (A : AS) (n : Nat) (d : List Int) (m : Nat) : (A.put n d).pl m = if n ≤ m ∧ m < n + d.length then d[m - n]? else A.pl m := by
  induction d generalizing A n with
  | nil => rw [if_neg (by simp only [List.length_nil]; omega)]; rfl
  | cons x r ih =>
    rw [AS.put, ih]
    by_cases h : n + 1 ≤ m ∧ m < n + 1 + r.length
    · rw [if_pos h, if_pos (by simp; omega), show m - n = (m - (n + 1)) + 1 by omega, List.getElem?_cons_succ]
    · rw [if_neg h]
      show (if m = n then some x else A.pl m) = _
      by_cases e : m = n
      · subst e
        rw [if_pos rfl, if_pos (by simp), Nat.sub_self]
        rfl
      · rw [if_neg e, if_neg (by simp; omega)]
theorem AS.put_wh (A : AS) (n : Nat) (d : List Int) (g : Nat) : (A.put n d).wh g = if 0 < d.length ∧ n / 8 ≤ g ∧ g ≤ (n + d.length - 1) / 8 then c0 else A.wh g := by
  induction d generalizing A n with
  | nil => rw [if_neg (by simp)]; rfl
  | cons x r ih =>
    rw [AS.put, ih]
    by_cases h : 0 < r.length ∧ (n + 1) / 8 ≤ g ∧ g ≤ (n + 1 + r.length - 1) / 8
    · rw [if_pos h, if_pos (by simp only [List.length_cons]; omega)]
    · rw [if_neg h]
      show (if g = n / 8 then c0 else A.wh g) = _
      by_cases e : g = n / 8
      · rw [if_pos e, if_pos (by simp only [List.length_cons]; omega)]
      · rw [if_neg e, if_neg (by simp only [List.length_cons]; omega)]
theorem AS.got_iff (A : AS) (off n : Nat) (l : List Int) : A.got off n = some l ↔ l.length = n ∧ ∀ i, i < n → A.pl (off + i) = l[i]? := by
  induction n generalizing off l with
  | zero =>
    simp only [AS.got, Option.some.injEq]
    constructor
    · rintro rfl
      exact ⟨rfl, fun i hi => absurd hi (by omega)⟩
    · rintro ⟨h, _⟩
      exact (List.eq_nil_of_length_eq_zero h).symm
  | succ n ih =>
    simp only [AS.got]
    constructor
    · intro h
      rw [Option.bind_eq_some_iff] at h
      obtain ⟨x, hx, h⟩ := h
      rw [Option.map_eq_some_iff] at h
      obtain ⟨r, hr, rfl⟩ := h
      obtain ⟨h1, h2⟩ := (ih (off + 1) r).1 hr
      refine ⟨by simp [h1], fun i hi => ?_⟩
      cases i with
      | zero => simpa using hx
      | succ i => rw [List.getElem?_cons_succ, ← h2 i (by omega), show off + (i + 1) = off + 1 + i by omega]
    · rintro ⟨h1, h2⟩
      cases l with
      | nil => simp at h1
      | cons x r =>
        have h0 : A.pl off = some x := h2 0 (by omega)
        rw [h0, Option.bind_some, (ih (off + 1) r).2 ⟨by simpa using h1, fun i hi => by rw [show off + 1 + i = off + (i + 1) by omega, h2 (i + 1) (by omega), List.getElem?_cons_succ]⟩]
        rfl
theorem AS.got_none (A : AS) (off n i : Nat) (hi : i < n) (h : A.pl (off + i) = .none) : A.got off n = .none := by
  cases hg : A.got off n with
  | none => rfl
  | some l =>
    obtain ⟨h1, h2⟩ := (A.got_iff off n l).1 hg
    have := h2 i hi
    rw [h, List.getElem?_eq_getElem (by omega)] at this
    cases this
theorem AS.got_add (A : AS) (off a b : Nat) : A.got off (a + b) = (A.got off a).bind fun l => (A.got (off + a) b).map (l ++ ·) := by
  induction a generalizing off with
  | zero => simp [AS.got]
  | succ a ih =>
    rw [show a + 1 + b = (a + b) + 1 by omega, AS.got, ih, AS.got, show off + 1 + a = off + (a + 1) by omega]
    cases A.pl off with
    | none => rfl
    | some x =>
      simp only [Option.bind_some]
      cases A.got (off + 1) a with
      | none => rfl
      | some l =>
        simp only [Option.bind_some, Option.map_some]
        cases A.got (off + (a + 1)) b with
        | none => rfl
        | some r => rfl
/-- What each place and group must be. -/
structure AS.Ok (A : AS) : Prop where
  apart : ∀ g, (A.wh g).k ≠ 0 → ∀ m, m / 8 = g → A.pl m = .none
  zero : ∀ g, (A.wh g).k = 0 → A.wh g = c0
  byte : ∀ m x, A.pl m = some x → 0 ≤ x ∧ x < 256
theorem AS.Ok.none : AS.none.Ok := ⟨fun g h => absurd rfl h, fun g _ => rfl, fun m x h => by cases h⟩
theorem AS.Ok.put1 {A : AS} (h : A.Ok) (n : Nat) {x : Int} (hx : 0 ≤ x ∧ x < 256) : (A.put1 n x).Ok := by
  refine ⟨fun g hg m hm => ?_, fun g hg => ?_, fun m y hy => ?_⟩
  · simp only [AS.put1] at hg ⊢
    by_cases e : g = n / 8
    · rw [if_pos e] at hg; exact absurd rfl hg
    · rw [if_neg e] at hg
      rw [if_neg (by rintro rfl; exact e hm.symm)]
      exact h.apart g hg m hm
  · simp only [AS.put1] at hg ⊢
    by_cases e : g = n / 8
    · rw [if_pos e]
    · rw [if_neg e] at hg ⊢
      exact h.zero g hg
  · simp only [AS.put1] at hy
    by_cases e : m = n
    · rw [if_pos e] at hy
      cases hy
      exact hx
    · rw [if_neg e] at hy
      exact h.byte m y hy
theorem AS.Ok.put {A : AS} (h : A.Ok) (n : Nat) (d : List Int) (hd : ∀ x ∈ d, 0 ≤ x ∧ x < 256) : (A.put n d).Ok := by
  induction d generalizing A n with
  | nil => exact h
  | cons x r ih => exact ih (h.put1 n (hd x (by simp))) _ (fun y hy => hd y (by simp [hy]))
theorem AS.Ok.hold {A : AS} (h : A.Ok) (g : Nat) {c : C4} (hc : c.k ≠ 0) : (A.hold g c).Ok := by
  refine ⟨fun g' hg m hm => ?_, fun g' hg => ?_, fun m y hy => ?_⟩
  · simp only [AS.hold] at hg ⊢
    by_cases e : m / 8 = g
    · rw [if_pos e]
    · rw [if_neg e]
      rw [if_neg (by rintro rfl; exact e hm)] at hg
      exact h.apart g' hg m hm
  · simp only [AS.hold] at hg ⊢
    by_cases e : g' = g
    · rw [if_pos e] at hg; exact absurd hg hc
    · rw [if_neg e] at hg ⊢
      exact h.zero g' hg
  · simp only [AS.hold] at hy
    by_cases e : m / 8 = g
    · rw [if_pos e] at hy; cases hy
    · rw [if_neg e] at hy
      exact h.byte m y hy

/-- The word of bytes, the lowest first; and back. -/
def wordM : List Int → Int
  | [] => 0
  | x :: r => x + 256 * wordM r
def bytesM : Nat → Int → List Int
  | 0, _ => []
  | n + 1, w => w % 256 :: bytesM n (w / 256)
theorem bytesM_length (n : Nat) (w : Int) : (bytesM n w).length = n := by
  induction n generalizing w with
  | zero => rfl
  | succ n ih => simp [bytesM, ih]
theorem bytesM_byte (n : Nat) (w : Int) : ∀ x ∈ bytesM n w, 0 ≤ x ∧ x < 256 := by
  induction n generalizing w with
  | zero => simp [bytesM]
  | succ n ih =>
    intro x hx
    rw [bytesM, List.mem_cons] at hx
    rcases hx with rfl | hx
    · omega
    · exact ih _ x hx
theorem bytesM_at (n : Nat) (w : Int) (i : Nat) (hi : i < n) : (bytesM n w)[i]? = some (w / 256 ^ i % 256) := by
  induction n generalizing w i with
  | zero => omega
  | succ n ih =>
    cases i with
    | zero => simp [bytesM]
    | succ i =>
      rw [bytesM, List.getElem?_cons_succ, ih _ _ (by omega), Int.ediv_ediv_of_nonneg (by omega), show (256 : Int) * 256 ^ i = 256 ^ (i + 1) by rw [Int.pow_succ, Int.mul_comm]]
theorem wordM_bytes (n : Nat) (w : Int) : wordM (bytesM n w) = w % 256 ^ n := by
  induction n generalizing w with
  | zero => simp [bytesM, wordM, Int.emod_one]
  | succ n ih =>
    rw [bytesM, wordM, ih, Int.pow_succ, Int.mul_comm (256 ^ n) 256]
    have h := Int.emod_add_mul_ediv w 256
    have h2 := Int.emod_add_mul_ediv (w / 256) (256 ^ n)
    have hp : (0 : Int) < 256 ^ n := Int.pow_pos (by omega)
    have h3 := Int.emod_nonneg (w / 256) (Int.ne_of_gt hp)
    have h4 := Int.emod_lt_of_pos (w / 256) hp
    have h5 := Int.emod_nonneg w (b := 256) (by omega)
    have h6 := Int.emod_lt_of_pos w (b := 256) (by omega)
    generalize w % 256 = a at *
    generalize w / 256 % 256 ^ n = b at *
    generalize w / 256 / 256 ^ n = c at *
    have e : w = (a + 256 * b) + (256 * 256 ^ n) * c := by
      rw [← h, ← h2, Int.mul_add, ← Int.mul_assoc]; omega
    rw [e, Int.add_mul_emod_self_left, Int.emod_eq_of_lt (by omega) (by omega)]
theorem wordM_append (a b : List Int) : wordM (a ++ b) = wordM a + 256 ^ a.length * wordM b := by
  induction a with
  | nil => simp [wordM]
  | cons x r ih => rw [List.cons_append, wordM, ih, wordM, List.length_cons, Int.pow_succ, Int.mul_add, Int.mul_comm (256 ^ r.length) 256, Int.mul_assoc]; omega
theorem wordM_range (l : List Int) (h : ∀ x ∈ l, 0 ≤ x ∧ x < 256) : 0 ≤ wordM l ∧ wordM l < 256 ^ l.length := by
  induction l with
  | nil => simp [wordM]
  | cons x r ih =>
    have h1 := h x (by simp)
    have h2 := ih (fun y hy => h y (by simp [hy]))
    rw [wordM, List.length_cons, Int.pow_succ]
    omega

def sizedB (n : Int) : Bool := n == 1 || n == 2 || n == 4 || n == 8
def rightB (c : C4) : Bool :=
  if c.k = 0 then c.wd == 0 && c.rg == 0 && c.of == 0 else if c.k = 1 then c.rg == 0 && c.of == 0 else if c.k = 2 then c.wd == 0 else if c.k = 3 then c.wd == 0 && c.of == 0 else false
def wholeB (c : C4) : Bool := c.k == 2 || c.k == 3
def placedB (off n : Int) : Bool := decide (0 ≤ off) && decide (n ≤ 512 - off)
def groupedB (off n : Int) : Bool := n == 8 && off % 8 == 0
def storeM (A : AS) (off n : Int) (c : C4) : Int × AS :=
  if !sizedB n || !rightB c then (2, A) else if !placedB off n then (32, A) else if c.k = 0 then (30, A)
  else if wholeB c && !groupedB off n then (38, A) else if wholeB c then (0, A.hold (off.toNat / 8) c) else (0, A.put off.toNat (bytesM n.toNat c.wd))
def loadM (A : AS) (off n : Int) : C4 × Int :=
  if !sizedB n then (c0, 2) else if !placedB off n then (c0, 32)
  else if groupedB off n && (A.wh (off.toNat / 8)).k != 0 then (A.wh (off.toNat / 8), 0)
  else match A.got off.toNat n.toNat with | .none => (c0, 30) | some l => (wordC (wordM l), 0)
def readM (A : AS) (off n : Int) : Option (List Int) × Int :=
  if decide (n < 0) || decide (512 < n) then (.none, 2) else if !placedB off n then (.none, 32)
  else match A.got off.toNat n.toNat with | .none => (.none, 30) | some l => (some l, 0)
def writeM (A : AS) (off : Int) (d : List Int) : Int × AS :=
  if 512 < d.length then (2, A) else if !placedB off d.length then (32, A) else (0, A.put off.toNat d)
theorem storeM_ok {A : AS} (h : A.Ok) (off n : Int) (c : C4) : (storeM A off n c).2.Ok := by
  unfold storeM
  split
  · exact h
  split
  · exact h
  split
  · exact h
  rename_i h1
  split
  · exact h
  split
  · exact h.hold _ h1
  · exact h.put _ _ (bytesM_byte _ _)
theorem writeM_ok {A : AS} (h : A.Ok) (off : Int) (d : List Int) (hd : ∀ x ∈ d, 0 ≤ x ∧ x < 256) : (writeM A off d).2.Ok := by
  unfold writeM
  split
  · exact h
  · split
    · exact h
    · exact h.put _ _ hd
end Go.Proofs.Ytkpoilcbdcddcaa
