/-
  A tree's head, its bytes' number: headOf, size.
-/
import Derived.Test.YtolmjnoaiiodlaaWS
import Derived.Test.YtolmjnoaiiodlaaWN
import Derived.BigQuiet
import Derived.Deep.QuietTactic
namespace Go.Proofs.Ytolmjnoaiiodlaa
open Go.RowKit Go.Maps Forest
set_option linter.unusedVariables false

def foldM (n : Int) : Nat := if 0 ≤ n then 2 * n.toNat else 2 * (-1 - n).toNat + 1
def headC (k : Int) : Int := if k = 1 then 0 else if k = 2 then 1 else 2
def headV (k n : Int) (bn kn : Nat) : Nat := if k = 1 then foldM n else if k = 2 then bn else kn
def numOk (n : Int) : Prop := -9223372036854775808 ≤ n ∧ n < 9223372036854775808
theorem foldM_lt {n : Int} (h : numOk n) : foldM n < 18446744073709551616 := by
  unfold foldM
  have h1 := h.1
  have h2 := h.2
  split <;> omega
theorem folded_any (n : Int) (w : World) (h : numOk n) : Calls Try.prog 43 #[.int .i64 n] w fun e w' => e = .returned (.int .u64 (foldM n : Nat)) ∧ w = w' := by
  have h1 := h.1
  have h2 := h.2
  unfold foldM
  by_cases h0 : 0 ≤ n
  · rw [if_pos h0]
    obtain ⟨m, rfl⟩ : ∃ m : Nat, n = m := ⟨n.toNat, by omega⟩
    exact folded_pos m w (by omega)
  · rw [if_neg h0]
    obtain ⟨m, rfl⟩ : ∃ m : Nat, n = -1 - (m : Int) := ⟨(-1 - n).toNat, by omega⟩
    rw [show (-1 - (-1 - (m : Int))).toNat = m by omega]
    exact folded_neg m w (by omega)
set_option maxRecDepth 100000 in
theorem headOf_any (k n : Int) (bA : Option Addr) (bn bc : Nat) (kA : Option Addr) (kn kc : Nat) (w : World) (hn : numOk n) (hb : bn ≤ 1000000000) (hk : kn ≤ 1000000000) :
    Calls Try.prog 35 #[.agg #[.int .u8 k, .int .i64 n, .slice bA bn bc, .slice kA kn kc]] w fun e w' => e = .returned (.tuple #[.int .u8 (headC k), .int .u64 (headV k n bn kn : Nat)]) ∧ Below w.heap.size w w' := by
  by_cases h1 : k = 1
  · subst h1
    have HF := hide (folded_any n (w.alloc (.cells #[.int .u8 1, .int .i64 n, .slice bA bn bc, .slice kA kn kc] 26)) hn)
    show Calls Try.prog 35 _ w fun e w' => e = .returned (.tuple #[.int .u8 0, .int .u64 (foldM n : Nat)]) ∧ _
    generalize foldM n = z at HF ⊢
    clear hn
    go_enter Try.func35, Try.ntmps35
    go_wp2_with fail
    refine HF.out.mono ?_
    rintro e w1 ⟨rfl, rfl⟩
    go_wp2_with fail
    go_ret2
    exact ⟨rfl, below1 _ _⟩
  · have h1b : (k == 1) = false := by simpa using h1
    by_cases h2 : k = 2
    · subst h2
      show Calls Try.prog 35 _ w fun e w' => e = .returned (.tuple #[.int .u8 1, .int .u64 (bn : Nat)]) ∧ _
      clear hn h1 h1b
      go_enter Try.func35, Try.ntmps35
      go_wp2_with fail
      go_region
      go_wp2_with fail
      go_ret2
      exact ⟨by simp, (below1 _ _).drew⟩
    · have h2b : (k == 2) = false := by simpa using h2
      have e1 : headC k = 2 := by simp [headC, h1, h2]
      have e2 : headV k n bn kn = kn := by simp [headV, h1, h2]
      rw [e1, e2]
      clear hn h1 h2 e1 e2
      go_enter Try.func35, Try.ntmps35
      go_wp2_with fail
      go_region
      go_wp2_with fail
      go_ret2
      exact ⟨by simp, (below1 _ _).drew⟩
namespace Forest
/-- Each number is one that an int64 holds, each row of bytes is no longer than may be. -/
def Wf : Forest → Prop
  | .nil => True
  | .cons _ n bs kids rest => numOk n ∧ bs.length ≤ 1000000000 ∧ kids.len ≤ 1000000000 ∧ kids.Wf ∧ rest.Wf
def sizeF : Forest → Nat
  | .nil => 0
  | .cons k n bs kids rest => headM (headV k n bs.length kids.len) + bs.length + kids.sizeF + rest.sizeF
end Forest
theorem headV_lt {k n : Int} {bn kn : Nat} (hn : numOk n) (hb : bn ≤ 1000000000) (hk : kn ≤ 1000000000) : headV k n bn kn < 18446744073709551616 := by
  unfold headV
  have := foldM_lt hn
  split
  · exact this
  · split <;> omega
theorem headM_le (v : Nat) : headM v ≤ 9 := by
  have := bytesM_le v
  unfold headM
  split <;> omega
theorem add_twice (a : Addr) (i j : Nat) : (a.add i).add j = a.add (i + j) := by
  unfold Addr.add
  by_cases hi : i = 0
  · subst hi; simp
  · by_cases hj : j = 0
    · subst hj; simp
    · rw [if_neg hi, if_neg hj, if_neg (by omega)]
      simp only [Addr.mk.injEq, and_true, true_and]
      omega
set_option maxRecDepth 100000 in
set_option maxHeartbeats 2000000 in
theorem size_all (N : Nat) : ∀ (k n : Int) (bs : List Int) (kids : Forest) (bA : Option Addr) (bc : Nat) (kA : Option Addr) (kc B : Nat) (w : World), kids.size < N → RowAt w B kA kids → B ≤ w.heap.size → Forest.Wf (.cons k n bs kids .nil) → sizeF (.cons k n bs kids .nil) ≤ 1000000000 →
    Calls Try.prog 25 #[.agg #[.int .u8 k, .int .i64 n, .slice bA bs.length bc, .slice kA kids.len kc]] w fun e w' => e = .returned (.int .i64 (sizeF (.cons k n bs kids .nil) : Nat)) ∧ Below w.heap.size w w' := by
  induction N with
  | zero => intro k n bs kids bA bc kA kc B w h; omega
  | succ N ih =>
    intro k n bs kids bA bc kA kc B w hN hrow hB hwf hS
    have IH := hide ih
    clear ih
    obtain ⟨hn, hbl, hkl, hwk, _⟩ := hwf
    simp only [sizeF, Nat.add_zero] at hS ⊢
    have hv := headV_lt (k := k) hn hbl hkl
    have hh := headM_le (headV k n bs.length kids.len)
    have HROW := hide hrow
    have HWK := hide hwk
    have HN := hide hN
    have HHO := hide (headOf_any k n bA bs.length bc kA kids.len kc (w.alloc (.cells #[.int .u8 k, .int .i64 n, .slice bA bs.length bc, .slice kA kids.len kc] 26)) hn hbl hkl)
    clear hrow hwk hN hn
    generalize headV k n bs.length kids.len = hv0 at hv hh hS HHO ⊢
    generalize headC k = hc0 at HHO
    have HHS : Hid (∀ W, Calls Try.prog 37 #[.int .u64 hv0] W fun e w' => e = .returned (.int .i64 (headM hv0)) ∧ Below W.heap.size W w') := fun W => (headSize_any hv0 W hv).mono fun e w' h => ⟨h.1, h.2 ▸ Below.refl _ _⟩
    generalize headM hv0 = h0 at hh hS HHS ⊢
    clear hv
    go_enter Try.func25, Try.ntmps25
    go_wp2_with fail
    refine HHO.out.mono ?_
    rintro e w1 ⟨rfl, hb1⟩
    have hx1 : w1.heap[w.heap.size]? = some (.cells #[.int .u8 k, .int .i64 n, .slice bA bs.length bc, .slice kA kids.len kc] 26 (0, 0)) := (hb1.block _ (by simp)).trans (World.alloc_heap_new _ _)
    have HX1 := hide hx1
    have HB1 := hide (below1c hb1)
    have d2 : w1.cell? ⟨w.heap.size, 2, none⟩ = some (.slice bA bs.length bc) := (blk_cell hx1 2).trans rfl
    have d3 : w1.cell? ⟨w.heap.size, 3, none⟩ = some (.slice kA kids.len kc) := (blk_cell hx1 3).trans rfl
    clear hb1 hx1
    go_wp2_with fail
    obtain ⟨l0, l1, l2, l3⟩ := later4 HX1.out
    refine wp_region_later (by kernel_rfl) (by kernel_rfl) ?_
    repeat (go_big_quiet_step (exact Later.calls _ HHS.out))
    refine wpQuiet_nil ?_
    rintro _ ⟨x, rfl⟩
    have d3' := l3 x
    have HB2 := hide (HB1.out.trans (x.below.mono HB1.out.size))
    clear l0 l1 l2 l3 d2 d3
    go_wp2_with fail
    go_loopw [5, 22] (fun s i wr => ∃ (S : Forest) (j acc : Nat), s = .int .i64 acc ∧ i = .int .i64 j ∧ j + S.len = kids.len ∧ acc + S.sizeF = h0 + bs.length + kids.sizeF ∧ S.Wf ∧ S.size ≤ kids.size ∧ (S.len = 0 ∨ ∃ ka, kA = some ka ∧ FAt wr B S (ka.add (j * 4))) ∧ Below w.heap.size w wr) (fun _ i _ => kids.len - (intOf i).toNat)
    case atStart =>
      refine ⟨kids, 0, h0 + bs.length, by simp, rfl, by omega, rfl, HWK.out, Nat.le_refl _, ?_, HB2.out⟩
      rcases HROW.out.below (HB2.out.mono hB) with h | ⟨ka, e, h⟩
      · exact .inl h
      · exact .inr ⟨ka, e, h⟩
    case round =>
      obtain ⟨S, j, acc, rfl, rfl, hjl, hacc, hwS, hszS, hat, hb⟩ := hrel
      have HB := hide hb
      clear hb
      cases S with
      | nil =>
        simp only [Forest.len, sizeF, Nat.add_zero] at hjl hacc
        clear hwS hszS hat
        rw [← hjl]
        go_wp2_with fail
        go_ret
        exact ⟨by simp [← hacc], HB.out⟩
      | cons k2 n2 bs2 kids2 rest =>
        simp only [Forest.len, sizeF, Forest.size] at hjl hacc hszS
        obtain ⟨ka, rfl, hfa⟩ : ∃ ka, kA = some ka ∧ FAt wr B (.cons k2 n2 bs2 kids2 rest) (ka.add (j * 4)) := by
          rcases hat with h | h
          · simp [Forest.len] at h
          · exact h
        obtain ⟨⟨hpb, hpc⟩, ⟨bA2, bc2, kA2, kc2, c0, c1, c2, c3, hrb, hnb, hkr, hkc⟩, hrest⟩ := hfa
        have ea : ∀ t, t ≠ 0 → (ka.add (j * 4)).add t = ⟨(ka.add (j * 4)).block, (ka.add (j * 4)).off + t, none⟩ := fun t ht => by
          generalize ka.add (j * 4) = q
          unfold Addr.add
          rw [if_neg ht]
        rw [ea 1 (by decide)] at c1
        rw [ea 2 (by decide)] at c2
        rw [ea 3 (by decide)] at c3
        obtain ⟨hn2, hbl2, hkl2, hwk2, hwr2⟩ := hwS
        have HRE : Hid (FAt wr B rest (ka.add ((j + 1) * 4))) := by
          rw [add_twice] at hrest
          rw [show (j + 1) * 4 = j * 4 + 4 by omega]
          exact hrest
        have HKR : Hid (RowAt wr B kA2 kids2) := hkr
        have HW2 := hide hwr2
        have hlt : j < kids.len := by omega
        obtain ⟨x, hx⟩ : ∃ x, x = sizeF (.cons k2 n2 bs2 kids2 .nil) := ⟨_, rfl⟩
        have hx2 : x = headM (headV k2 n2 bs2.length kids2.len) + bs2.length + kids2.sizeF := by rw [hx]; simp [sizeF]
        have HC := hide (IH.out k2 n2 bs2 kids2 bA2 bc2 kA2 kc2 B (wr.alloc (.cells #[.int .u8 k2, .int .i64 n2, .slice bA2 bs2.length bc2, .slice kA2 kids2.len kc2] 26)) (by have := HN.out; omega) (HKR.out.below ((below1 wr _).mono (Nat.le_trans hB HB.out.size))) (Nat.le_trans (Nat.le_trans hB HB.out.size) (below1 wr _).size) ⟨hn2, hbl2, hkl2, hwk2, trivial⟩ (by rw [← hx]; omega))
        rw [← hx] at HC
        have hax : acc + x + rest.sizeF = h0 + bs.length + kids.sizeF := by omega
        clear hpb hpc hrb hnb hkr hkc hrest ea hn2 hbl2 hkl2 hwk2 hwr2 hat hx hx2 hacc
        go_wp2_with fail
        refine HC.out.mono ?_
        rintro e w5 ⟨rfl, hb5⟩
        have HB5 := hide (below1c hb5)
        clear hb5 c0 c1 c2 c3
        go_wp2_with fail
        go_roundw
        case rel => exact ⟨rest, j + 1, acc + x, by go_num, by go_num, by omega, hax, HW2.out, by omega, .inr ⟨ka, rfl, HRE.out.kept (fun g hg => HB5.out.block g (Nat.lt_of_lt_of_le hg (Nat.le_trans hB HB.out.size)))⟩, HB.out.trans (HB5.out.mono HB.out.size)⟩
        case measure => simp [intOf]; omega
end Go.Proofs.Ytolmjnoaiiodlaa
