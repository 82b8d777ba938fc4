/-
  There and back: the law answers true at whatever it is given.
-/
import Derived.Test.YtjndmpockfmenaaB2
namespace Go.Proofs.Ytjndmpockfmenaa
open Go.RowKit
set_option linter.unusedVariables false

theorem law_codeBack (A0 A1 A2 : Option Addr) (n0 n1 n2 c0 c1 c2 : Nat) (l m : List Ins) (bs : List Int) (w : World) (h0 : Rd w w.heap.size 5 A0 n0 (pcells l)) (h1 : Rd w w.heap.size 5 A1 n1 (pcells m)) (h2 : Rd w w.heap.size 1 A2 n2 (u8s bs))
    (hA0 : A0 = none → n0 = 0) (hA1 : A1 = none → n1 = 0) (hA2 : A2 = none → n2 = 0) (hf0 : ∀ s ∈ l, s.Fits) (hf1 : ∀ s ∈ m, s.Fits) (hbs : ∀ b ∈ bs, IsByte b) (k0 : n0 ≤ c0) (k1 : n1 ≤ c1) (k2 : n2 ≤ c2) (m0 : c0 ≤ maxLen) (m1 : c1 ≤ maxLen) (m2 : c2 ≤ maxLen)
    (r0 : n0 ≤ 140737488351232) (r1 : n1 ≤ 140737488351232) (r2 : n2 ≤ 140737488351232) :
    Calls Try.prog 5 #[.slice A0 n0 c0, .slice A1 n1 c1, .slice A2 n2 c2] w fun e w' => e = .returned (.bool true) ∧ Below w.heap.size w w' := by
  by_cases h : 2000 < n0 + n1 ∨ 16000 < n2
  · exact back_long A0 A1 A2 n0 n1 n2 c0 c1 c2 w r0 r1 r2 h
  · have hs : n0 + n1 ≤ 2000 := by omega
    have hs2 : n2 ≤ 16000 := by omega
    by_cases h8 : n2 % 8 = 0
    · have hk : n2 = 8 * (n2 / 8) := by omega
      cases hr0 : allRight l with
      | false => exact back_even_w A0 A1 A2 n0 n1 n2 c0 c1 c2 (n2 / 8) l m bs w h0 h1 h2 hA0 hA1 hf0 hf1 hbs hs hs2 k2 m2 hk hr0
      | true =>
        cases hr1 : allRight m with
        | false => exact back_even_rw A0 A1 A2 n0 n1 n2 c0 c1 c2 (n2 / 8) l m bs w h0 h1 h2 hA0 hA1 hf0 hf1 hbs hs hs2 k2 m2 hk hr0 hr1
        | true => exact back_even_rr A0 A1 A2 n0 n1 n2 c0 c1 c2 (n2 / 8) l m bs w h0 h1 h2 hA0 hA1 hf0 hf1 hbs hs hs2 k2 m2 hk hr0 hr1
    · cases hr0 : allRight l with
      | false => exact back_odd_w A0 A1 A2 n0 n1 n2 c0 c1 c2 0 l m bs w h0 h1 h2 hA0 hA1 hf0 hf1 hbs hs hs2 k2 m2 h8 hr0
      | true =>
        cases hr1 : allRight m with
        | false => exact back_odd_rw A0 A1 A2 n0 n1 n2 c0 c1 c2 0 l m bs w h0 h1 h2 hA0 hA1 hf0 hf1 hbs hs hs2 k2 m2 h8 hr0 hr1
        | true => exact back_odd_rr A0 A1 A2 n0 n1 n2 c0 c1 c2 0 l m bs w h0 h1 h2 hA0 hA1 hf0 hf1 hbs hs hs2 k2 m2 h8 hr0 hr1
end Go.Proofs.Ytjndmpockfmenaa
