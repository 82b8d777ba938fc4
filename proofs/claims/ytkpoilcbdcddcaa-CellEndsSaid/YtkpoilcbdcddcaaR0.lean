/-
  The document's stack by definition, in memory: what it tells of sizes, places, cells, bytes that are set.
-/
import Derived.Test.YtkpoilcbdcddcaaST3
import Derived.Test.YtkpoilcbdcddcaaEQ
namespace Go.Proofs.Ytkpoilcbdcddcaa
open Go.RowKit
set_option linter.unusedVariables false
set_option linter.unusedSimpArgs false

structure RSL (cs : List Value) (A : AS) : Prop where
  len : cs.length = 1280
  byte : ∀ m, m < 512 → ∃ x, cs[m]? = some (.int .u8 x) ∧ ∀ y, A.pl m = some y → x = y
  set : ∀ m, m < 512 → cs[512 + m]? = some (.bool (A.pl m).isSome)
  k : ∀ g, g < 64 → cs[1024 + 4 * g]? = some (.int .u8 (A.wh g).k)
  wd : ∀ g, g < 64 → cs[1024 + 4 * g + 1]? = some (.int .u64 (A.wh g).wd)
  rg : ∀ g, g < 64 → cs[1024 + 4 * g + 2]? = some (.int .i64 (A.wh g).rg)
  of : ∀ g, g < 64 → cs[1024 + 4 * g + 3]? = some (.int .i64 (A.wh g).of)
def RSt (w : World) (b : Nat) (A : AS) : Prop := ∃ cs : List Value, w.heap[b]? = some (.cells cs.toArray 36 (0, 0)) ∧ RSL cs A
theorem RSt.lt {w : World} {b : Nat} {A : AS} (h : RSt w b A) : b < w.heap.size := by
  obtain ⟨cs, hb, _⟩ := h
  exact at_lt hb
theorem RSt.same {w w' : World} {b : Nat} {A : AS} (h : RSt w b A) (hb : w'.heap[b]? = w.heap[b]?) : RSt w' b A := by
  obtain ⟨cs, h1, h2⟩ := h
  exact ⟨cs, hb.trans h1, h2⟩
theorem RSt.below {w w' : World} {b : Nat} {A : AS} (h : RSt w b A) (hb : Below w.heap.size w w') : RSt w' b A := h.same (hb.block _ h.lt)
theorem rsize_any (n : Int) (w : World) : Calls Try.prog 33 #[.int .i64 n] w fun e w' => e = .returned (.bool (sizedB n)) ∧ w = w' := by
  by_cases h1 : n = 1
  · subst h1
    go_enter Try.func33, Try.ntmps33
    go_wp2
    go_ret
    exact ⟨rfl, rfl⟩
  by_cases h2 : n = 2
  · subst h2
    go_enter Try.func33, Try.ntmps33
    go_wp2
    go_ret
    exact ⟨rfl, rfl⟩
  by_cases h4 : n = 4
  · subst h4
    go_enter Try.func33, Try.ntmps33
    go_wp2
    go_ret
    exact ⟨rfl, rfl⟩
  by_cases h8 : n = 8
  · subst h8
    go_enter Try.func33, Try.ntmps33
    go_wp2
    go_ret
    exact ⟨rfl, rfl⟩
  have e1 : (n == 1) = false := by simpa using h1
  have e2 : (n == 2) = false := by simpa using h2
  have e4 : (n == 4) = false := by simpa using h4
  have e8 : (n == 8) = false := by simpa using h8
  go_enter Try.func33, Try.ntmps33
  go_wp2
  go_ret
  exact ⟨by simp [sizedB, e1, e2, e4, e8], rfl⟩
theorem there_any (off n : Int) (w : World) (h0 : 0 ≤ n) (h1 : n ≤ 512) : Calls Try.prog 34 #[.int .i64 off, .int .i64 n] w fun e w' => e = .returned (.bool (placedB off n)) ∧ w = w' := by
  by_cases h : 0 ≤ off
  · rw [show placedB off n = decide (off ≤ 512 - n) by simp [placedB, h]; omega]
    have e : decide (0 ≤ off) = true := decide_eq_true h
    go_enter Try.func34, Try.ntmps34
    go_wp2
    go_ret
    exact ⟨rfl, rfl⟩
  · have e : decide (0 ≤ off) = false := by simpa using h
    rw [show placedB off n = false by simp [placedB, h]]
    go_enter Try.func34, Try.ntmps34
    go_wp2
    go_ret
    exact ⟨rfl, rfl⟩
theorem got_snoc (A : AS) (o i : Nat) : (A.got o (i + 1)).isSome = ((A.got o i).isSome && (A.pl (o + i)).isSome) := by
  rw [A.got_add o i 1]
  cases A.got o i with
  | none => rfl
  | some l => simp only [Option.bind_some, AS.got, Option.isSome_some, Bool.true_and]; cases A.pl (o + i) <;> rfl
theorem got_less {A : AS} {o i q : Nat} (h : (A.got o i).isSome = false) (hi : i ≤ q) : (A.got o q).isSome = false := by
  obtain ⟨d, rfl⟩ : ∃ d, q = i + d := ⟨q - i, by omega⟩
  rw [A.got_add o i d]
  cases hg : A.got o i with
  | none => rfl
  | some l => rw [hg] at h; cases h
set_option maxRecDepth 100000 in
set_option maxHeartbeats 2000000 in
theorem all_any (b : Nat) (A : AS) (o q : Nat) (w : World) (h : RSt w b A) (hf : o + q ≤ 512) :
    Calls Try.prog 35 #[.pointer (some ⟨b, 0, none⟩), .int .i64 o, .int .i64 q] w fun e w' => e = .returned (.bool (A.got o q).isSome) ∧ w = w' := by
  obtain ⟨cs, hb, hs⟩ := h
  have HS := hide hs
  have HC : Hid (∀ i, w.cell? ⟨b, i, none⟩ = cs[i]?) := fun i => PS.cell hb i
  clear hb hs
  go_enter Try.func35, Try.ntmps35
  go_wp2
  go_loopw [7] (fun a wr => ∃ i : Nat, i ≤ q ∧ a = .int .i64 i ∧ wr = w ∧ (A.got o i).isSome = true) (fun a _ => q - (intOf a).toNat)
  case atStart => exact ⟨0, Nat.zero_le _, rfl, rfl, rfl⟩
  case round =>
    obtain ⟨i, hi, rfl, rfl, hg⟩ := hrel
    have HG := hide hg
    clear hg
    by_cases hiq : i < q
    · have c0 := (HC.out (512 + (o + i))).trans (HS.out.set (o + i) (by omega))
      cases hp : (A.pl (o + i)).isSome with
      | true =>
        rw [hp] at c0
        go_wp2
        go_roundw
        case rel => exact ⟨i + 1, by omega, by go_num, trivial, by rw [got_snoc, HG.out, hp]; rfl⟩
        case measure => simp [intOf]; omega
      | false =>
        rw [hp] at c0
        go_wp2
        go_ret
        exact ⟨by rw [got_less (i := i + 1) (by rw [got_snoc, hp, Bool.and_false]) (by omega)]; rfl, rfl⟩
    · have hie : i = q := by omega
      subst hie
      go_wp2
      go_ret
      exact ⟨by rw [HG.out]; rfl, rfl⟩
set_option maxRecDepth 100000 in
set_option maxHeartbeats 2000000 in
theorem rright_any (c : C4) (w : World) : Calls Try.prog 41 #[c.val] w fun e w' => e = .returned (.bool (rightB c)) ∧ Below w.heap.size w w' := by
  have hb := below1 w (.cells #[.int .u8 c.k, .int .u64 c.wd, .int .i64 c.rg, .int .i64 c.of] 33)
  have HB := hide hb
  have hp := World.alloc_heap_new w (.cells #[.int .u8 c.k, .int .u64 c.wd, .int .i64 c.rg, .int .i64 c.of] 33)
  clear hb
  obtain ⟨k, wd, rg, of⟩ := c
  simp only [C4.val] at HB hp ⊢
  go_enter Try.func41, Try.ntmps41
  go_upto_region 1 with fail
  generalize w.alloc (.cells _ 33) = w1 at HB hp ⊢
  have x0 := blk_cell hp 0
  have x1 := blk_cell hp 1
  have x2 := blk_cell hp 2
  have x3 := blk_cell hp 3
  simp at x0 x1 x2 x3
  have hl := at_lt hp
  have hne := fun W => eq33 W k wd rg of 0 0 0 0
  by_cases h0 : k = 0
  · subst h0
    go_wp2
    go_ret
    exact ⟨by simp [rightB], HB.out⟩
  have e0 : (k == 0) = false := by simpa using h0
  by_cases h1 : k = 1
  · subst h1
    clear hne
    by_cases hr : rg = 0
    · subst hr
      go_wp2
      go_ret
      exact ⟨by simp [rightB], HB.out⟩
    · have er : (rg == 0) = false := by simpa using hr
      go_wp2
      go_ret
      exact ⟨by simp [rightB, er], HB.out⟩
  have e1 : (k == 1) = false := by simpa using h1
  by_cases h2 : k = 2
  · subst h2
    clear hne
    go_wp2
    go_ret
    exact ⟨by simp [rightB], HB.out⟩
  have e2 : (k == 2) = false := by simpa using h2
  by_cases h3 : k = 3
  · subst h3
    clear hne
    by_cases hr : wd = 0
    · subst hr
      go_wp2
      go_ret
      exact ⟨by simp [rightB], HB.out⟩
    · have er : (wd == 0) = false := by simpa using hr
      go_wp2
      go_ret
      exact ⟨by simp [rightB, er], HB.out⟩
  have e3 : (k == 3) = false := by simpa using h3
  clear hne
  go_wp2
  go_ret
  exact ⟨by simp [rightB, h0, h1, h2, h3], HB.out⟩
end Go.Proofs.Ytkpoilcbdcddcaa
