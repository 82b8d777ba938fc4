/-
  A stack in memory; its groups: found, asked for, set.
-/
import Derived.Test.YtkpoilcbdcddcaaF3
import Derived.StillTailTactics
import Derived.Laws.CopyOwn
namespace Go.Proofs.Ytkpoilcbdcddcaa
open Go.RowKit
set_option linter.unusedVariables false
set_option linter.unusedSimpArgs false

/-- A part's bits. -/
def mb (x y : Nat) : Nat := 2 ^ y - 2 ^ x
theorem mb_fin : ∀ y : Fin 9, ∀ x : Fin 9, ∀ i : Fin 8, x.1 < y.1 → (mb x.1 y.1).testBit i.1 = (decide (x.1 ≤ i.1) && decide (i.1 < y.1)) := by decide
theorem mb_lt : ∀ y : Fin 9, ∀ x : Fin 9, mb x.1 y.1 < 256 := by decide
theorem mb_bits : ∀ y : Fin 9, ∀ x : Fin 9, x.1 < y.1 → bitsM x.1 y.1 = (mb x.1 y.1 : Int) := by decide
theorem mb_high (x y i : Nat) (hy : y ≤ 8) (hx : x < y) (hi : 8 ≤ i) : (mb x y).testBit i = false := by
  have := mb_lt ⟨y, by omega⟩ ⟨x, by omega⟩
  simp only at this
  exact Nat.testBit_lt_two_pow (Nat.lt_of_lt_of_le this (Nat.pow_le_pow_right (n := 2) (i := 8) (by omega) hi))

/-- Group g of the cells of a stack. -/
structure GrpL (cs : List Value) (A : AS) (g : Nat) : Prop where
  k : cs[1 + 13 * g]? = some (.int .u8 (A.wh g).k)
  wd : cs[1 + 13 * g + 1]? = some (.int .u64 (A.wh g).wd)
  rg : cs[1 + 13 * g + 2]? = some (.int .i64 (A.wh g).rg)
  of : cs[1 + 13 * g + 3]? = some (.int .i64 (A.wh g).of)
  set : ∃ s : Nat, s < 256 ∧ cs[1 + 13 * g + 4]? = some (.int .u8 s) ∧ ∀ i, i < 8 → s.testBit i = (A.pl (8 * g + i)).isSome
  byte : ∀ i, i < 8 → ∃ y : Int, cs[1 + 13 * g + 5 + i]? = some (.int .u8 y) ∧ ∀ x, A.pl (8 * g + i) = some x → y = x
/-- A stack that New made: its block. -/
structure PSL (cs : List Value) (b : Nat) (A : AS) : Prop where
  len : cs.length = 833
  self : cs[0]? = some (.pointer (some ⟨b, 0, none⟩))
  grp : ∀ g, g < 64 → GrpL cs A g
def PS (w : World) (b : Nat) (A : AS) : Prop := ∃ cs : List Value, w.heap[b]? = some (.cells cs.toArray 58 (0, 0)) ∧ PSL cs b A
def Turn (b : Nat) (w w' : World) : Prop := w.grownBy w' (some b)
theorem Turn.refl (b : Nat) (w : World) : Turn b w w := ⟨rfl, rfl, rfl, Nat.le_refl _, fun _ _ _ => rfl⟩
theorem Turn.trans {b : Nat} {X Y Z : World} (h : Turn b X Y) (k : Turn b Y Z) : Turn b X Z := grown_row h k
theorem Turn.of_below {b : Nat} {w w' : World} (h : Below w.heap.size w w') : Turn b w w' := ⟨h.os, h.tape, h.output, h.size, fun k hk _ => h.block k hk⟩
theorem Turn.below {b B : Nat} {w0 w w' : World} (h : Turn b w w') (h0 : Below B w0 w) (hB : B ≤ b) (hw : B ≤ w0.heap.size) : Below B w0 w' := h0.grown h (Nat.le_trans hw h0.size) (fun k e => by cases e; exact hB)
theorem PS.lt {w : World} {b : Nat} {A : AS} (h : PS w b A) : b < w.heap.size := by
  obtain ⟨cs, h, _⟩ := h
  exact at_lt h
theorem PS.same {w w' : World} {b : Nat} {A : AS} (h : PS w b A) (hb : w'.heap[b]? = w.heap[b]?) : PS w' b A := by
  obtain ⟨cs, h1, h2⟩ := h
  exact ⟨cs, hb.trans h1, h2⟩
theorem PS.below {w w' : World} {b : Nat} {A : AS} (h : PS w b A) (hb : Below w.heap.size w w') : PS w' b A := h.same (hb.block _ h.lt)
theorem PS.cell {w : World} {b : Nat} {cs : List Value} {t : TypeId} (h : w.heap[b]? = some (.cells cs.toArray t (0, 0))) (i : Nat) : w.cell? ⟨b, i, none⟩ = cs[i]? := by
  rw [blk_cell h i]; simp
/-- Bytes that lie elsewhere than in block b. -/
def Src (w : World) (b : Nat) (S : Option Addr) (q : Nat) (l : List Int) : Prop :=
  l.length = q ∧ (0 < q → ∃ ad, S = some ad ∧ ad.block ≠ b ∧ ad.block < w.heap.size ∧ ∀ j u, (u8s l)[j]? = some u → w.cell? (ad.add j) = some u)
theorem Src.turn {w w' : World} {b q : Nat} {S : Option Addr} {l : List Int} (h : Src w b S q l) (ht : Turn b w w') : Src w' b S q l := by
  refine ⟨h.1, fun hq => ?_⟩
  obtain ⟨ad, e, h1, h2, h3⟩ := h.2 hq
  exact ⟨ad, e, h1, Nat.lt_of_lt_of_le h2 ht.size, fun j u hu => (World.cell?_of_block (by rw [block_add]; exact ht.block _ h2 (fun e => h1 (by cases e; rfl)))).trans (h3 j u hu)⟩

set_option maxRecDepth 100000 in
theorem at_any (b : Nat) (off : Int) (w : World) (h0 : 0 ≤ off) (h1 : off < 512) : Calls Try.prog 29 #[.pointer (some ⟨b, 1, none⟩), .int .i64 off] w fun e w' => e = .returned (.pointer (some ⟨b, 1 + 13 * (off.toNat / 8), none⟩)) ∧ w = w' := by
  obtain ⟨o, rfl⟩ : ∃ o : Nat, off = o := ⟨off.toNat, by omega⟩
  go_enter Try.func29, Try.ntmps29
  go_wp2
  go_ret
  exact ⟨congrArg (fun n => Ending.returned (.pointer (some ⟨b, n, none⟩))) (by show 1 + o / 8 * 13 = 1 + 13 * ((o : Int).toNat / 8); rw [Int.toNat_natCast, Nat.mul_comm]), rfl⟩
set_option maxRecDepth 100000 in
theorem holds_any (b g : Nat) (A : AS) (w : World) (h : PS w b A) (hg : g < 64) : Calls Try.prog 30 #[.pointer (some ⟨b, 1 + 13 * g, none⟩)] w fun e w' => e = .returned (.bool ((A.wh g).k != 0)) ∧ w = w' := by
  obtain ⟨cs, hb, hs⟩ := h
  have c0 := (PS.cell hb (1 + 13 * g)).trans (hs.grp g hg).k
  go_enter Try.func30, Try.ntmps30
  go_wp2
  go_ret
  exact ⟨rfl, rfl⟩
theorem and_all (s x y : Nat) (hx : x < y) (hy : y ≤ 8) : (s &&& mb x y = mb x y) ↔ ∀ i, x ≤ i → i < y → s.testBit i = true := by
  constructor
  · intro h i h1 h2
    have h3 := mb_fin ⟨y, by omega⟩ ⟨x, by omega⟩ ⟨i, by omega⟩ hx
    simp only [h1, h2, decide_true, Bool.and_self] at h3
    have h4 : (s &&& mb x y).testBit i = true := by rw [h]; exact h3
    rw [Nat.testBit_and, h3, Bool.and_true] at h4
    exact h4
  · intro h
    refine Nat.eq_of_testBit_eq (fun i => ?_)
    rw [Nat.testBit_and]
    by_cases hi : i < 8
    · have h3 := mb_fin ⟨y, by omega⟩ ⟨x, by omega⟩ ⟨i, hi⟩ hx
      simp only at h3
      rw [h3]
      by_cases hh : x ≤ i ∧ i < y
      · rw [h i hh.1 hh.2]; simp [hh.1, hh.2]
      · have : (decide (x ≤ i) && decide (i < y)) = false := by
          simp; omega
        rw [this]; simp
    · rw [mb_high x y i hy hx (by omega)]; simp
theorem got_some_iff (A : AS) (off n : Nat) : (A.got off n).isSome = true ↔ ∀ i, i < n → (A.pl (off + i)).isSome = true := by
  constructor
  · intro h i hi
    cases hp : A.pl (off + i) with
    | some x => rfl
    | none => rw [A.got_none off n i hi hp] at h; cases h
  · intro h
    induction n generalizing off with
    | zero => rfl
    | succ n ih =>
      obtain ⟨x, hx⟩ := Option.isSome_iff_exists.1 (h 0 (by omega))
      simp only [Nat.add_zero] at hx
      have := ih (off + 1) (fun i hi => by rw [show off + 1 + i = off + (i + 1) by omega]; exact h (i + 1) (by omega))
      obtain ⟨l, hl⟩ := Option.isSome_iff_exists.1 this
      simp [AS.got, hx, hl]
theorem has_iff (s x y g : Nat) (A : AS) (hx : x < y) (hy : y ≤ 8) (hs : ∀ i, i < 8 → s.testBit i = (A.pl (8 * g + i)).isSome) : (s &&& mb x y == mb x y) = (A.got (8 * g + x) (y - x)).isSome := by
  rw [Bool.eq_iff_iff, beq_iff_eq, and_all s x y hx hy, got_some_iff]
  constructor
  · intro h i hi
    have := h (x + i) (by omega) (by omega)
    rw [hs (x + i) (by omega)] at this
    rw [show 8 * g + x + i = 8 * g + (x + i) by omega]
    exact this
  · intro h i h1 h2
    have := h (i - x) (by omega)
    rw [show 8 * g + x + (i - x) = 8 * g + i by omega] at this
    rw [hs i (by omega)]
    exact this
set_option maxRecDepth 100000 in
theorem has_any (b g x y : Nat) (A : AS) (w : World) (h : PS w b A) (hg : g < 64) (hx : x < y) (hy : y ≤ 8) :
    Calls Try.prog 43 #[.pointer (some ⟨b, 1 + 13 * g, none⟩), .agg #[.int .i64 x, .int .i64 y]] w fun e w' => e = .returned (.bool (A.got (8 * g + x) (y - x)).isSome) ∧ Below w.heap.size w w' := by
  have hbw := below1 w (.cells #[.int .i64 x, .int .i64 y] 86)
  obtain ⟨cs, hb, hs⟩ := h.below hbw
  obtain ⟨s, s1, s2, s3⟩ := (hs.grp g hg).set
  have c4 := (PS.cell hb (1 + 13 * g + 4)).trans s2
  have l4 := Later.cell c4
  have hp := World.alloc_heap_new w (.cells #[.int .i64 x, .int .i64 y] 86)
  obtain ⟨p0, p1⟩ := later2 hp
  have hm := mb_lt ⟨y, by omega⟩ ⟨x, by omega⟩
  simp only at hm
  have hbm := mb_bits ⟨y, by omega⟩ ⟨x, by omega⟩ hx
  simp only at hbm
  have HQ := hide (fun w => partBits_any x y w hx hy)
  have HI := hide (has_iff s x y g A hx hy s3)
  rw [hbm] at HQ
  have hand := u8_and_nat s (mb x y) s1 hm
  clear hb hs s2 s3 c4 hp
  go_enter Try.func43, Try.ntmps43
  go_wp2
  refine wp_region_later (by kernel_rfl) (by kernel_rfl) ?_
  repeat (go_big_quiet_step ((exact Later.calls _ HQ.out)))
  refine wpQuiet_nil ?_
  rintro _ ⟨z, rfl⟩
  have HX := hide (hbw.trans (z.below.mono hbw.size))
  clear l4 p0 p1
  go_wp2
  go_ret
  refine ⟨?_, HX.out⟩
  rw [← HI.out]
  refine congrArg (fun t => Ending.returned (.bool t)) ?_
  rw [Bool.eq_iff_iff, beq_iff_eq, beq_iff_eq]
  omega
end Go.Proofs.Ytkpoilcbdcddcaa
