/-
  Keys of a trie without keys.
-/
import Derived.Test.YthefgfcjjbjjkaaTX
namespace Go.Proofs.Ythefgfcjjbjjkaa
open Go.RowKit
set_option linter.unusedVariables false
set_option linter.unusedSimpArgs false

theorem insertion_none (fv : Value) (w : World) : Calls Try.prog 71 #[.slice none 0 0, .int .i64 0, .int .i64 0, fv] w fun e w' => e = .returned (.tuple #[]) ∧ w = w' := by
  go_enter Try.func71, Try.ntmps71
  go_wp2
  refine wp_loop_rounds 1 ?_
  rw [rounds_succ]
  go_wp2
  go_end0
  exact ⟨rfl, rfl⟩
theorem pdq_none (lim : Int) (fv : Value) (w : World) : Calls Try.prog 61 #[.slice none 0 0, .int .i64 0, .int .i64 0, .int .i64 lim, fv] w fun e w' => e = .returned (.tuple #[]) ∧ w = w' := by
  go_enter Try.func61, Try.ntmps61
  go_wp2
  refine wp_loop_rounds 1 ?_
  rw [rounds_succ]
  go_wp2_with (go_at_call 71; refine (insertion_none _ _).mono ?_; rintro e w' ⟨rfl, rfl⟩)
  refine bodyPost_ret (results_none rfl _ _ _) rfl ?_
  exact ⟨rfl, rfl⟩
set_option maxRecDepth 100000 in
theorem len64_none (w : World) : Calls Try.prog 80 #[.int .u64 0] w fun e w' => ∃ m, e = .returned (.int .i64 m) ∧ w = w' := by
  go_enter Try.func80, Try.ntmps80
  go_wp2
  go_ret
  exact ⟨_, rfl, rfl⟩
set_option maxRecDepth 100000 in
theorem len_none (w : World) : Calls Try.prog 62 #[.int .u64 0] w fun e w' => ∃ m, e = .returned (.int .i64 m) ∧ w = w' := by
  go_enter Try.func62, Try.ntmps62
  go_wp2_with (go_at_call 80; refine (len64_none _).mono ?_; rintro e w' ⟨m, rfl, rfl⟩)
  go_ret
  exact ⟨_, rfl, rfl⟩
set_option maxRecDepth 100000 in
theorem sort_none (fv : Value) (w : World) : Calls Try.prog 48 #[.slice none 0 0, fv] w fun e w' => e = .returned (.tuple #[]) ∧ w = w' := by
  go_enter Try.func48, Try.ntmps48
  go_wp2_with (first
    | (go_at_call 62; refine (len_none _).mono ?_; rintro e w' ⟨m, rfl, rfl⟩)
    | (go_at_call 61; refine (pdq_none _ _ _).mono ?_; rintro e w' ⟨rfl, rfl⟩))
  go_end0
  exact ⟨rfl, rfl⟩
set_option maxRecDepth 100000 in
theorem copyBytes_any (A : Option Addr) (n c B : Nat) (l : List Int) (w : World) (h : Rd w B 1 A n (u8s l)) (hA : A = none → n = 0) (hB : B ≤ w.heap.size) (hn : n ≤ 1000000) :
    Calls Try.prog 31 #[.slice A n c] w fun e w' => ∃ v, e = .returned v ∧ OwnB w' w.heap.size v n l ∧ Below w.heap.size w w' := by
  obtain ⟨i0, hi, hz0, hz1, hz2⟩ := info_parts u8info
  have HA := hide hA
  have HH := hide h
  clear hA h
  go_enter Try.func31, Try.ntmps31
  go_wp2_with (at_builtin; refine stop_here ?_)
  show Hid _
  refine start_here ?_
  refine wpList_append_rd _ rfl _ _ _ rfl 5 i0 _ 1 1 Try.underlying35 hi hz0 hz1 hz2 rfl (by decide) _ 0 [] rfl (owns_nil _ _ _) B A n c (u8s l) rfl HH.out HA.out (u8s_one l) (by unfold maxLen; omega) (by omega) ?_
  intro v w1 hl
  obtain ⟨h1, h2, h3⟩ := longer_new hl
  rw [Nat.zero_add, List.nil_append] at h1
  have H1 := hide h1
  have H2 := hide h2
  have H3 := hide h3
  clear h1 h2 h3 hl
  go_wp2
  go_ret
  exact ⟨v, rfl, ⟨H1.out, H2.out⟩, H3.out⟩
set_option maxRecDepth 100000 in
set_option maxHeartbeats 1000000 in
theorem keys_none (B : Nat) (t : TP) (P : List PL) (N : List Bool → Nat) (w : World) (h : Tri w B t P N) (hno : ∀ r ∈ P, r.k = none) :
    Calls Try.prog 23 #[.pointer (some ⟨t.tb, 0, none⟩)] w fun e w' => e = .returned (.slice none 0 0) ∧ Below w.heap.size w w' := by
  have HM := hide (is_yes t.tb w ((h.c 0).trans rfl))
  have c4 : w.cell? ⟨t.tb, 4, none⟩ = some (.slice (some ⟨t.cb, 0, none⟩) t.n t.n) := (h.c 4).trans rfl
  have hmany := h.many
  have hlen := h.len
  have H := hide h
  have HNO := hide hno
  clear h hno
  go_enter Try.func23, Try.ntmps23
  go_wp2_with (go_at_call 46; refine HM.out.mono ?_; rintro e w' ⟨rfl, rfl⟩)
  clear c4
  go_loopw [3, 15] (fun q p wr => ∃ i : Nat, i ≤ t.n ∧ q = .slice none 0 0 ∧ p = .int .i64 i ∧ Below w.heap.size w wr) (fun _ p _ => t.n - (intOf p).toNat)
  case atStart => exact ⟨0, Nat.zero_le _, rfl, rfl, Below.refl _ _⟩
  case round =>
    obtain ⟨i, hi, rfl, rfl, hb⟩ := hrel
    by_cases hlt : i < t.n
    · have hr : P[i]? = some P[i] := List.getElem?_eq_getElem (by omega)
      obtain ⟨r, hrr⟩ : ∃ r, r = P[i] := ⟨_, rfl⟩
      rw [← hrr] at hr
      have hk := HNO.out r (List.mem_of_getElem? hr)
      obtain ⟨c0, c1, c2⟩ := (H.out.below (Nat.le_refl _) hb).at_ hr
      have hb1 := below1 wr (.cells #[.int .i64 i, .slice (some ⟨r.g, 0, none⟩) t.sz t.sz, kslV r.k] 77)
      have HB := hide (hb.trans (hb1.mono hb.size))
      have hfr := hide (free_any (.int .i64 i) (.slice (some ⟨r.g, 0, none⟩) t.sz t.sz) r.k (wr.alloc (.cells #[.int .i64 i, .slice (some ⟨r.g, 0, none⟩) t.sz t.sz, kslV r.k] 77)))
      rw [hk] at hfr c2
      simp only [kslV, Option.isNone_none] at hfr c2
      have HB2 : Hid (Below w.heap.size w (wr.alloc (.cells #[.int .i64 i, .slice (some ⟨r.g, 0, none⟩) t.sz t.sz, .slice none 0 0] 77))) := hide (by have := HB.out; rw [hk] at this; exact this)
      clear hb hr hrr hk hb1
      go_wp2_with (go_at_call 47; refine hfr.out.mono ?_; rintro e w' ⟨rfl, hb2⟩; have HB3 := hide hb2; clear hb2)
      go_roundw
      case rel => exact ⟨i + 1, by omega, rfl, by go_num, HB2.out.trans (HB3.out.mono HB2.out.size)⟩
      case measure => simp [intOf]; omega
    · have HB := hide hb
      clear hb
      go_wp2_with (go_at_call 48; refine (sort_none _ _).mono ?_; rintro e w' ⟨rfl, rfl⟩)
      go_ret
      exact ⟨rfl, HB.out⟩
end Go.Proofs.Ythefgfcjjbjjkaa
