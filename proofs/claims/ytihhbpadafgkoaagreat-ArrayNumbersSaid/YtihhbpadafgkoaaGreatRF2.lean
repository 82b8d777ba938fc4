/-
  The document's Update.
-/
import Derived.Test.YtihhbpadafgkoaaGreatRF1
namespace Go.Proofs.YtihhbpadafgkoaaGreat
open Go.RowKit
set_option linter.unusedVariables false

theorem lookV_no {n : Nat} {l : List Int} {len : Nat} (h : ¬ keyV l < len) (hn : n = 4) : lookV n l len = (0, 6) := by unfold lookV; rw [if_pos hn, if_neg h]
theorem lookV_yes {n : Nat} {l : List Int} {len : Nat} (h : keyV l < len) (hn : n = 4) : lookV n l len = ((keyV l : Int), 0) := by unfold lookV; rw [if_pos hn, if_pos h]
set_option maxRecDepth 100000 in
set_option maxHeartbeats 1000000 in
theorem rupd_arg (x sz m k c sc : Nat) (A S : Option Addr) (fl : Int) (w : World) (c2 : w.cell? ⟨x, 2, none⟩ = some (.int .i64 sz)) (he : ¬ (m = 4 ∧ k = sz ∧ fl ≤ 2)) :
    Calls Tryz.prog 72 #[.pointer (some ⟨x, 0, none⟩), .slice A m c, .slice S k sc, .int .u64 fl] w fun e w' => e = .returned (.int .i64 2) ∧ Below w.heap.size w w' := by
  by_cases hm : m = 4
  · have d1 : ((m : Int) != 4) = false := by simp [hm]
    by_cases hk : k = sz
    · have d2 : ((k : Int) != (sz : Int)) = false := by simp [hk]
      have d3 : decide (2 < fl) = true := decide_eq_true (by omega)
      clear he hm hk
      go_enter Tryz.func72, Tryz.ntmps72
      go_wp2_with fail
      go_ret
      exact ⟨rfl, Below.refl _ _⟩
    · have d2 : ((k : Int) != (sz : Int)) = true := by simp; omega
      clear he hm hk
      go_enter Tryz.func72, Tryz.ntmps72
      go_wp2_with fail
      go_ret
      exact ⟨rfl, Below.refl _ _⟩
  · have d1 : ((m : Int) != 4) = true := by simp; omega
    clear he hm
    go_enter Tryz.func72, Tryz.ntmps72
    go_wp2_with fail
    go_ret
    exact ⟨rfl, Below.refl _ _⟩
set_option maxRecDepth 100000 in
set_option maxHeartbeats 1000000 in
theorem rupd_none (B x sz n rc : Nat) (RA : Option Addr) (bs : List Int) (A S : Option Addr) (c C sc : Nat) (l : List Int) (fl : Int) (w : World) (h : RArr w B x sz n RA rc bs) (hr : Rd w C 1 A 4 (u8s l)) (hb : ∀ x ∈ l, IsByte x) (hf : fl ≤ 2) (hv : ¬ keyV l < n) :
    Calls Tryz.prog 72 #[.pointer (some ⟨x, 0, none⟩), .slice A 4 c, .slice S sz sc, .int .u64 fl] w fun e w' => e = .returned (.int .i64 6) ∧ Below w.heap.size w w' := by
  have hlk := rlookup_any B x sz n rc RA bs A 4 c C l w h hr hb
  rw [lookV_no hv rfl] at hlk
  have HK := hide hlk
  have c2 := h.size
  have d2 : ((sz : Int) != (sz : Int)) = false := by simp
  have d3 : decide (2 < fl) = false := decide_eq_false (by omega)
  clear h hr hb hf hv hlk
  go_enter Tryz.func72, Tryz.ntmps72
  go_wp2_with (go_at_call 73; refine HK.out.mono ?_; rintro e w1 ⟨rfl, hb⟩; have HB := hide hb; clear hb)
  go_ret
  exact ⟨rfl, HB.out⟩
set_option maxRecDepth 100000 in
set_option maxHeartbeats 1000000 in
theorem rupd_there (B x sz n rc : Nat) (RA : Option Addr) (bs : List Int) (A S : Option Addr) (c C sc : Nat) (l : List Int) (w : World) (h : RArr w B x sz n RA rc bs) (hr : Rd w C 1 A 4 (u8s l)) (hb : ∀ x ∈ l, IsByte x) (hv : keyV l < n) :
    Calls Tryz.prog 72 #[.pointer (some ⟨x, 0, none⟩), .slice A 4 c, .slice S sz sc, .int .u64 1] w fun e w' => e = .returned (.int .i64 7) ∧ Below w.heap.size w w' := by
  have hlk := rlookup_any B x sz n rc RA bs A 4 c C l w h hr hb
  rw [lookV_yes hv rfl] at hlk
  have HK := hide hlk
  have c2 := h.size
  have d2 : ((sz : Int) != (sz : Int)) = false := by simp
  clear h hr hb hv hlk
  generalize keyV l = kv at *
  go_enter Tryz.func72, Tryz.ntmps72
  go_wp2_with (go_at_call 73; refine HK.out.mono ?_; rintro e w1 ⟨rfl, hb⟩; have HB := hide hb; clear hb)
  go_ret
  exact ⟨rfl, HB.out⟩
set_option maxRecDepth 100000 in
set_option maxHeartbeats 1000000 in
theorem rupd_yes (B x sz n rc : Nat) (RA : Option Addr) (bs : List Int) (A S : Option Addr) (c C D sc : Nat) (l d : List Int) (fl : Int) (w : World) (h : RArr w B x sz n RA rc bs) (hr : Rd w C 1 A 4 (u8s l)) (hb : ∀ x ∈ l, IsByte x) (hf : fl ≤ 2) (hf1 : fl ≠ 1) (hv : keyV l < n) (hd : Rd w D 1 S sz (u8s d)) (hD : D ≤ w.heap.size) :
    Calls Tryz.prog 72 #[.pointer (some ⟨x, 0, none⟩), .slice A 4 c, .slice S sz sc, .int .u64 fl] w fun e w' => e = .returned (.int .i64 0) ∧ RArr w' B x sz n RA rc (splice bs (keyV l * sz + 0) d) ∧ Kept (fun g => ¬ OfR x (.slice RA (sz * n) rc) g) w w' := by
  have hlk := rlookup_any B x sz n rc RA bs A 4 c C l w h hr hb
  rw [lookV_yes hv rfl] at hlk
  have HK := hide hlk
  obtain ⟨hs1, hs2⟩ := h.big
  obtain ⟨hn1, hn2⟩ := h.many
  have hl4 := hb
  generalize keyV l = i at *
  have hprod : i * sz + sz ≤ sz * n := by
    have : (i + 1) * sz ≤ n * sz := Nat.mul_le_mul_right _ (by omega)
    rw [Nat.mul_comm n] at this
    rw [Nat.add_mul] at this
    omega
  have hprod2 : sz * n ≤ 1048576 := by
    have : sz * n ≤ 1024 * 1024 := Nat.mul_le_mul hs2 hn2
    omega
  have hmul : (i : Int) * (sz : Int) = ((i * sz : Nat) : Int) := by simp
  obtain ⟨p, hp⟩ : ∃ p, p = i * sz := ⟨_, rfl⟩
  rw [← hp] at hprod hmul ⊢
  have c2 := h.size
  have d2 : ((sz : Int) != (sz : Int)) = false := by simp
  have d3 : decide (2 < fl) = false := decide_eq_false (by omega)
  have d4 : (fl == 1) = false := by simpa using hf1
  have hx := at_lt h.blk
  have C2 := hide h.size
  have C4 := hide h.bytes
  have p1 : IntKind.i64.wrap ((i : Int) * (sz : Int)) = (p : Int) := by rw [hmul]; exact IntWalk.i64_in _ (by omega)
  have HR := hide h
  have HD := hide hd
  clear h hd hlk hr hb hl4 hf hf1 hp hmul
  go_enter Tryz.func72, Tryz.ntmps72
  go_wp2_with (go_at_call 73; refine HK.out.mono ?_; rintro e w1 ⟨rfl, hb⟩; have HB := hide hb; have e2 := (hb.cell (p := ⟨x, 2, none⟩) hx).trans C2.out; have e4 := (hb.cell (p := ⟨x, 4, none⟩) hx).trans C4.out; clear hb)
  obtain ⟨A2, c2', hcut, hg2⟩ := cut_rest (P := Tryz.prog) Tryz.underlying34 u8size (HR.out.below HB.out).row p (by omega)
  have HG2 := hide hg2
  have hcw := hcut w1.drew
  clear hcut hg2
  refine wp_region_still_tail 13 (by kernel_rfl) (by kernel_rfl) ?_
  simp only [List.take_succ_cons, List.take_zero, List.drop_succ_cons, List.drop_zero]
  repeat still_step
  refine wpStill_nil ?_
  have hbw := HB.out.drew
  refine wpList_copy_owns (e := 5) (n := sz * n) (xs := u8s bs) rfl (.tmp 50) (.tmp 51) 34 34 rfl Tryz.underlying34 u8size RA rc (owns_kept_below HR.out.row hbw) p A2 (sz * n - p) c2' rfl HG2.out D S sz sc rfl (u8s d) (HD.out.below (hbw.mono hD)) (u8s_one d) (by omega) (by omega) ?_
  intro w4 ho4 hg4 hz4
  have HO4 := hide ho4
  have HG4 := hide hg4
  clear ho4 hg4 hz4 hcw
  go_wp2
  go_ret
  obtain ⟨h1, h2⟩ := (HR.out.below hbw).put (bs' := splice bs p d) (by rw [u8s_splice]; exact HO4.out) ((Kept.refl _ _).grown HG4.out (fun j e _ h => h e))
  exact ⟨rfl, h1, keptTrans (Kept.of_below hbw) h2⟩
theorem rupd_no (B x sz n rc : Nat) (RA : Option Addr) (bs : List Int) (A S : Option Addr) (m c C k sc : Nat) (l : List Int) (fl : Int) (w : World) (h : RArr w B x sz n RA rc bs) (hr : Rd w C 1 A m (u8s l)) (hb : ∀ x ∈ l, IsByte x) (he : updE n sz m l k fl ≠ 0) :
    Calls Tryz.prog 72 #[.pointer (some ⟨x, 0, none⟩), .slice A m c, .slice S k sc, .int .u64 fl] w fun e w' => e = .returned (.int .i64 (updE n sz m l k fl)) ∧ Below w.heap.size w w' := by
  unfold updE at he ⊢
  by_cases hn : m = 4
  · rw [if_pos hn] at he ⊢
    by_cases hk : k = sz ∧ fl ≤ 2
    · rw [if_pos hk] at he ⊢
      obtain ⟨rfl, hf⟩ := hk
      subst hn
      by_cases hv : keyV l < n
      · rw [if_pos hv] at he ⊢
        by_cases h1 : fl = 1
        · subst h1
          rw [if_pos rfl]
          exact rupd_there B x k n rc RA bs A S c C sc l w h hr hb hv
        · rw [if_neg h1] at he; exact absurd rfl he
      · rw [if_neg hv]
        exact rupd_none B x k n rc RA bs A S c C sc l fl w h hr hb hf hv
    · rw [if_neg hk]
      exact rupd_arg x sz m k c sc A S fl w h.size (fun hh => hk hh.2)
  · rw [if_neg hn]
    exact rupd_arg x sz m k c sc A S fl w h.size (fun hh => hn hh.1)
end Go.Proofs.YtihhbpadafgkoaaGreat
