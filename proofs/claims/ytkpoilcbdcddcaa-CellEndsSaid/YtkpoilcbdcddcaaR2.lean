/-
  The document's stack by definition, in memory: Write, Load.
-/
import Derived.Test.YtkpoilcbdcddcaaR1
namespace Go.Proofs.Ytkpoilcbdcddcaa
open Go.RowKit
set_option linter.unusedVariables false
set_option linter.unusedSimpArgs false

set_option maxRecDepth 8000 in
set_option maxHeartbeats 2000000 in
theorem rwrite_any (b : Nat) (A : AS) (off : Int) (S : Option Addr) (q sc : Nat) (l : List Int) (w : World) (h : RSt w b A) (hok : A.Ok) (hby : ∀ x ∈ l, 0 ≤ x ∧ x < 256) (hs : Src w b S q l) :
    Calls Try.prog 20 #[.pointer (some ⟨b, 0, none⟩), .int .i64 off, .slice S q sc] w fun e w' => e = .returned (.int .i64 (writeM A off l).1) ∧ RSt w' b (writeM A off l).2 ∧ Turn b w w' := by
  have hl := hs.1
  by_cases h1 : 512 < q
  · rw [show writeM A off l = (2, A) by simp [writeM, hl, h1]]
    have H := hide h
    have hd : decide (512 < (q : Int)) = true := decide_eq_true (by omega)
    clear h hs
    go_enter Try.func20, Try.ntmps20
    go_wp2
    go_ret
    exact ⟨rfl, H.out, Turn.refl b w⟩
  have hd : decide (512 < (q : Int)) = false := decide_eq_false (by omega)
  have HT := hide (there_any off q w (by omega) (by omega))
  by_cases h2 : placedB off q = false
  · rw [show writeM A off l = (32, A) by simp [writeM, hl, h1, h2]]
    rw [h2] at HT
    have H := hide h
    clear h hs
    go_enter Try.func20, Try.ntmps20
    go_wp2_with (go_at_call 34; refine (HT.out).mono ?_; rintro e w1 ⟨rfl, rfl⟩)
    go_ret
    exact ⟨rfl, H.out, Turn.refl b w⟩
  have h2' : placedB off q = true := by simpa using h2
  obtain ⟨h3, h4⟩ := placed_of h2'
  obtain ⟨o, rfl⟩ : ∃ o : Nat, off = o := ⟨off.toNat, by omega⟩
  rw [show writeM A o l = (0, A.put o l) by simp [writeM, hl, h1, h2']]
  rw [h2'] at HT
  have HP := hide (rput_any b A o S q sc l w h hok hby hs (by omega))
  clear h hs hok
  go_enter Try.func20, Try.ntmps20
  go_wp2_with (first
    | (go_at_call 34; refine (HT.out).mono ?_; rintro e w1 ⟨rfl, rfl⟩)
    | (go_at_call 38; refine (HP.out).mono ?_; rintro e w1 ⟨rfl, hr, ht⟩; have HR := hide hr; have HTn := hide ht; clear hr ht))
  go_ret
  exact ⟨rfl, HR.out, HTn.out⟩
end Go.Proofs.Ytkpoilcbdcddcaa
