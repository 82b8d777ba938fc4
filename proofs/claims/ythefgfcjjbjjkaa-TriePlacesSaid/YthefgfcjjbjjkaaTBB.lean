/-
  The law's own words: how many bits a key says it has; is one of another one's beginnings?
-/
import Derived.Test.YthefgfcjjbjjkaaTX
import Derived.Deep.QuietTactic
import Derived.BigQuiet
namespace Go.Proofs.Ythefgfcjjbjjkaa
open Go.RowKit
set_option linter.unusedVariables false
set_option linter.unusedSimpArgs false

set_option maxRecDepth 100000 in
set_option maxHeartbeats 1000000 in
theorem bits_law (A : Option Addr) (n c B : Nat) (k : List Int) (w : World) (hk : ∀ b ∈ k, IsByte b) (hr : Rd w B 1 A n (u8s k)) (hn : 4 ≤ n) :
    Calls Try.prog 30 #[.slice A n c] w fun e w' => e = .returned (.int .i64 (bcN k)) ∧ Below w.heap.size w w' := by
  obtain ⟨ad, b0, rfl, h0, c0⟩ := hr.byte (show 0 < n by omega)
  obtain ⟨ad1, b1, e1, h1, c1⟩ := hr.byte (show 1 < n by omega)
  obtain ⟨ad2, b2, e2, h2, c2⟩ := hr.byte (show 2 < n by omega)
  obtain ⟨ad3, b3, e3, h3, c3⟩ := hr.byte (show 3 < n by omega)
  injection e1 with e1; injection e2 with e2; injection e3 with e3
  subst e1 e2 e3
  obtain ⟨r0, l0, u0⟩ := byN_at hk h0
  obtain ⟨r1, l1, u1⟩ := byN_at hk h1
  obtain ⟨r2, l2, u2⟩ := byN_at hk h2
  obtain ⟨r3, l3, u3⟩ := byN_at hk h3
  have HV : Hid (b0 + b1 * 256 + b2 * 65536 + b3 * 16777216 = (bcN k : Int)) := hide (by
    rw [r0, r1, r2, r3]
    unfold bcN
    omega)
  have q0 : (0 : Int) < (n : Int) := by omega
  have q1 : (1 : Int) < (n : Int) := by omega
  have q2 : (2 : Int) < (n : Int) := by omega
  have q3 : (3 : Int) < (n : Int) := by omega
  rw [show ad.add 0 = ad by simp [Addr.add]] at c0
  rw [show ad.add 1 = { block := ad.block, off := ad.off + 1 } by simp [Addr.add]] at c1
  rw [show ad.add 2 = { block := ad.block, off := ad.off + 2 } by simp [Addr.add]] at c2
  rw [show ad.add 3 = { block := ad.block, off := ad.off + 3 } by simp [Addr.add]] at c3
  clear r0 r1 r2 r3 h0 h1 h2 h3 hr hk
  go_enter Try.func30, Try.ntmps30
  go_wp2_with fail
  go_quiet (fail)
  go_wp2_with fail
  go_ret
  exact ⟨congrArg (fun x => Ending.returned (.int .i64 x)) HV.out, below_drewN (Below.refl _ _) _⟩
/-- Is one of another one's beginnings? -/
def begM (a b : List Int) : Prop := 4 ≤ a.length ∧ b.length = a.length ∧ bcN a ≤ bcN b ∧ bcN b ≤ 8 * (b.length - 4) ∧ ∀ i, i < bcN a → btN a i = btN b i
theorem and_bit (x s : Nat) (hx : x < 256) (hs : s < 8) : bits .and .u8 (x : Int) ((2 : Int) ^ s) = (((x / 2 ^ s % 2) * 2 ^ s : Nat) : Int) := by
  have h2 : (2 : Nat) ^ s < 256 := Nat.pow_lt_pow_right (by omega) (show s < 8 from hs)
  have e : ((2 : Int) ^ s) = ((2 ^ s : Nat) : Int) := by simp
  rw [e, u8_and_nat x (2 ^ s) hx h2]
  congr 1
  apply Nat.eq_of_testBit_eq
  intro i
  rw [Nat.testBit_and, Nat.testBit_two_pow]
  have hb : x.testBit s = decide (x / 2 ^ s % 2 = 1) := Nat.testBit_eq_decide_div_mod_eq
  have hlt : x / 2 ^ s % 2 < 2 := Nat.mod_lt _ (by omega)
  by_cases h : x / 2 ^ s % 2 = 1
  · rw [h, Nat.one_mul, Nat.testBit_two_pow]
    by_cases e2 : s = i
    · subst e2
      rw [hb, h]
      rfl
    · simp [e2]
  · rw [show x / 2 ^ s % 2 = 0 by omega, Nat.zero_mul, Nat.zero_testBit]
    by_cases e2 : s = i
    · subst e2
      rw [hb]
      simp [h]
    · simp [e2]
theorem bit_same {a b : List Int} {i : Nat} (ha : ∀ x ∈ a, IsByte x) (hb : ∀ x ∈ b, IsByte x) : bits .and .u8 (byN a (4 + i / 8) : Int) ((2 : Int) ^ (7 - i % 8)) = bits .and .u8 (byN b (4 + i / 8) : Int) ((2 : Int) ^ (7 - i % 8)) ↔ btN a i = btN b i := by
  rw [and_bit _ _ (byN_lt ha _) (by omega), and_bit _ _ (byN_lt hb _) (by omega)]
  have hp : 0 < 2 ^ (7 - i % 8) := Nat.pow_pos (by omega)
  have h1 : byN a (4 + i / 8) / 2 ^ (7 - i % 8) % 2 < 2 := Nat.mod_lt _ (by omega)
  have h2 : byN b (4 + i / 8) / 2 ^ (7 - i % 8) % 2 < 2 := Nat.mod_lt _ (by omega)
  unfold btN
  constructor
  · intro h
    have h3 := Nat.eq_of_mul_eq_mul_right hp (Int.ofNat.inj h)
    rw [h3]
  · intro h
    have h3 : byN a (4 + i / 8) / 2 ^ (7 - i % 8) % 2 = byN b (4 + i / 8) / 2 ^ (7 - i % 8) % 2 := by
      generalize byN a (4 + i / 8) / 2 ^ (7 - i % 8) % 2 = x at *
      generalize byN b (4 + i / 8) / 2 ^ (7 - i % 8) % 2 = y at *
      rcases (show x = 0 ∨ x = 1 by omega) with hx | hx <;> rcases (show y = 0 ∨ y = 1 by omega) with hy | hy <;> rw [hx, hy] at h ⊢ <;> first | rfl | cases h
    rw [h3]
theorem shr128 (i : Nat) : (128 : Int) / 2 ^ (i % 8) = 2 ^ (7 - i % 8) := by
  have : i % 8 < 8 := Nat.mod_lt _ (by omega)
  generalize i % 8 = s at *
  rcases (by omega : s = 0 ∨ s = 1 ∨ s = 2 ∨ s = 3 ∨ s = 4 ∨ s = 5 ∨ s = 6 ∨ s = 7) with rfl | rfl | rfl | rfl | rfl | rfl | rfl | rfl <;> rfl
def BegTold (a b : List Int) (w : World) (e : Ending) (w' : World) : Prop := ∃ t : Bool, e = .returned (.bool t) ∧ (t = true ↔ begM a b) ∧ Below w.heap.size w w'
set_option maxRecDepth 100000 in
set_option maxHeartbeats 4000000 in
theorem begins_any (A A' : Option Addr) (n n' c c' B : Nat) (a b : List Int) (w : World) (ha : ∀ x ∈ a, IsByte x) (hb : ∀ x ∈ b, IsByte x) (hr : Rd w B 1 A n (u8s a)) (hr' : Rd w B 1 A' n' (u8s b)) (hB : B ≤ w.heap.size) (hn : n ≤ 1000) (hn' : n' ≤ 1000) :
    Calls Try.prog 29 #[.slice A n c, .slice A' n' c'] w (BegTold a b w) := by
  have hla : a.length = n := by have := hr.1; simpa [u8s] using this
  have hlb : b.length = n' := by have := hr'.1; simpa [u8s] using this
  by_cases h4 : n < 4
  · have hno : ¬ begM a b := fun h => by have := h.1; omega
    have d4 : decide ((n : Int) < 4) = true := by simp; omega
    clear hr hr'
    go_enter Try.func29, Try.ntmps29
    go_wp2_with fail
    go_ret
    exact ⟨false, rfl, ⟨nofun, fun h => absurd h hno⟩, Below.refl _ _⟩
  have d4 : decide ((n : Int) < 4) = false := by simp; omega
  by_cases hnn : ¬ n' = n
  · have hno : ¬ begM a b := fun h => by have := h.2.1; omega
    have hq : ((n' : Int) != (n : Int)) = true := by simpa using (by omega : ¬ (n' : Int) = n)
    clear hr hr'
    go_enter Try.func29, Try.ntmps29
    go_wp2_with fail
    go_ret
    exact ⟨false, rfl, ⟨nofun, fun h => absurd h hno⟩, Below.refl _ _⟩
  obtain rfl : n' = n := Classical.not_not.1 hnn
  clear hnn
  have hq : ((n' : Int) != (n' : Int)) = false := by simp
  have HA : Hid (∀ W, Below w.heap.size w W → Calls Try.prog 30 #[.slice A n' c] W fun e w' => e = .returned (.int .i64 (bcN a)) ∧ Below W.heap.size W w') := hide (fun W hW => bits_law A n' c B a W ha (hr.below (hW.mono hB)) (by omega))
  have HB : Hid (∀ W, Below w.heap.size w W → Calls Try.prog 30 #[.slice A' n' c'] W fun e w' => e = .returned (.int .i64 (bcN b)) ∧ Below W.heap.size W w') := hide (fun W hW => bits_law A' n' c' B b W hb (hr'.below (hW.mono hB)) (by omega))
  have hba := bcN_lt ha
  have hbb := bcN_lt hb
  have HRA := hide hr
  have HRB := hide hr'
  have HAB := hide ha
  have HBB := hide hb
  have HLA := hide hla
  have HLB := hide hlb
  clear hr hr' ha hb hla hlb
  go_enter Try.func29, Try.ntmps29
  go_wp2_with (go_at_call 30; refine stop_here ?_)
  show Hid _
  refine start_here ?_
  refine (HA.out w (Below.refl _ _)).mono ?_
  rintro e w1 ⟨rfl, hb1⟩
  have H1 := hide hb1
  clear hb1
  go_wp2_with (go_at_call 30; refine stop_here ?_)
  show Hid _
  refine start_here ?_
  refine (HB.out w1 H1.out).mono ?_
  rintro e w2 ⟨rfl, hb2⟩
  have H2 := hide (H1.out.trans (hb2.mono H1.out.size))
  clear hb2
  by_cases hle : ¬ bcN a ≤ bcN b
  · have d1 : decide (bcN b < bcN a) = true := by simp; omega
    have hno : ¬ begM a b := fun h => hle h.2.2.1
    go_wp2_with fail
    go_ret
    exact ⟨false, rfl, ⟨nofun, fun h => absurd h hno⟩, H2.out⟩
  have hle := Classical.not_not.1 hle
  have d1 : decide (bcN b < bcN a) = false := by simp; omega
  go_wp2_with (go_at_call 30; refine stop_here ?_)
  show Hid _
  refine start_here ?_
  refine (HB.out w2 H2.out).mono ?_
  rintro e w3 ⟨rfl, hb3⟩
  have H3 := hide (H2.out.trans (hb3.mono H2.out.size))
  clear hb3
  by_cases hle2 : ¬ bcN b ≤ 8 * (n' - 4)
  · have d2 : decide ((8 : Int) * ((n' : Int) - 4) < (bcN b : Int)) = true := by simp; omega
    have hno : ¬ begM a b := fun h => hle2 (by have := h.2.2.2.1; rw [HLB.out] at this; exact this)
    go_wp2_with fail
    go_ret
    exact ⟨false, rfl, ⟨nofun, fun h => absurd h hno⟩, H3.out⟩
  have hle2 := Classical.not_not.1 hle2
  have d2 : decide ((8 : Int) * ((n' : Int) - 4) < (bcN b : Int)) = false := by simp; omega
  have HLE := hide (And.intro hle hle2)
  have HN4 := hide h4
  go_wp2_with fail
  clear d1 d2 d4 hq
  go_loopw [5] (fun p wr => ∃ i : Nat, i ≤ bcN a ∧ p = .int .i64 i ∧ Below w.heap.size w wr ∧ ∀ j, j < i → btN a j = btN b j) (fun p _ => bcN a - (intOf p).toNat)
  case atStart => exact ⟨0, Nat.zero_le _, rfl, H3.out, fun j hj => by omega⟩
  case round =>
    obtain ⟨i, hi, rfl, hb, hj⟩ := hrel
    have HJ := hide hj
    have HW := hide hb
    clear hb hj
    by_cases hlt : i < bcN a
    · have hbd : 4 + i / 8 < n' := by have := HLE.out; omega
      obtain ⟨ad, x, rfl, hx, cx⟩ := (HRA.out.below (HW.out.mono hB)).byte hbd
      obtain ⟨ad', y, rfl, hy, cy⟩ := (HRB.out.below (HW.out.mono hB)).byte hbd
      have dl : decide (i < bcN a) = true := by simpa using hlt
      have q0 : (0 : Int) ≤ 4 + (i : Int) / 8 := by omega
      have q1 : 4 + (i : Int) / 8 < (n' : Int) := by omega
      have HXY := hide (And.intro (And.intro hx cx) (And.intro hy cy))
      clear hx hy cx cy
      go_wp2_with (go_at_call 30; refine (HA.out wr HW.out).mono ?_; refine stop_here ?_)
      show Hid _
      refine start_here ?_
      rintro e w4 ⟨rfl, hb4⟩
      have H4 := hide (HW.out.trans (hb4.mono HW.out.size))
      clear hb4
      obtain ⟨_, x, e1, hx, cx⟩ := (HRA.out.below (H4.out.mono hB)).byte hbd
      injection e1 with e1
      subst e1
      obtain ⟨_, y, e2, hy, cy⟩ := (HRB.out.below (H4.out.mono hB)).byte hbd
      injection e2 with e2
      subst e2
      obtain ⟨rx, lx, ux⟩ := byN_at HAB.out hx
      obtain ⟨ry, ly, uy⟩ := byN_at HBB.out hy
      have hiff : bits .and .u8 x (128 / 2 ^ (i % 8)) = bits .and .u8 y (128 / 2 ^ (i % 8)) ↔ btN a i = btN b i := by
        rw [shr128, rx, ry]
        exact bit_same HAB.out HBB.out
      clear rx ry hx hy
      by_cases hbt : btN a i = btN b i
      · have hq2 : (bits .and .u8 x (128 / 2 ^ (i % 8)) != bits .and .u8 y (128 / 2 ^ (i % 8))) = false := by simpa using hiff.2 hbt
        have HBT := hide hbt
        clear hiff hbt
        go_wp2_with fail
        go_quiet (fail)
        go_wp2_with fail
        go_roundw
        case rel =>
          refine ⟨i + 1, by omega, by go_num, below_drewN H4.out _, fun j hj => ?_⟩
          by_cases e : j = i
          · rw [e]; exact HBT.out
          · exact HJ.out j (by omega)
        case measure => simp [intOf]; omega
      · have hq2 : (bits .and .u8 x (128 / 2 ^ (i % 8)) != bits .and .u8 y (128 / 2 ^ (i % 8))) = true := by simpa using (fun e => hbt (hiff.1 e))
        have hno : ¬ begM a b := fun h => hbt (h.2.2.2.2 i hlt)
        clear hiff hbt
        go_wp2_with fail
        go_quiet (fail)
        go_wp2_with fail
        go_ret
        exact ⟨false, rfl, ⟨nofun, fun h => absurd h hno⟩, below_drewN H4.out _⟩
    · have dl : decide (i < bcN a) = false := by simpa using hlt
      have hyes : begM a b := ⟨by rw [HLA.out]; have := HN4.out; omega, by rw [HLA.out, HLB.out], HLE.out.1, by rw [HLB.out]; exact HLE.out.2, fun j hj => HJ.out j (by omega)⟩
      go_wp2_with (go_at_call 30; refine (HA.out wr HW.out).mono ?_; refine stop_here ?_)
      show Hid _
      refine start_here ?_
      rintro e w4 ⟨rfl, hb4⟩
      have H4 := hide (HW.out.trans (hb4.mono HW.out.size))
      clear hb4
      go_wp2_with fail
      go_ret
      exact ⟨true, rfl, ⟨fun _ => hyes, fun _ => rfl⟩, H4.out⟩
end Go.Proofs.Ythefgfcjjbjjkaa
