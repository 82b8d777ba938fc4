/-
  Are two rows of bytes the same? Rows of bytes that came in.
-/
import Derived.Test.YtihhbpadafgkoaaK2
import Derived.Test.YtihhbpadafgkoaaUOPD
namespace Go.Proofs.Ytihhbpadafgkoaa
open Go.ChangeShapes Go.WideShapes Go.ChangeAt Go.RowKit Go.Deep
set_option linter.unusedVariables false

theorem Rd.ints {w : World} {B n : Nat} {A : Option Addr} {l : List Int} (h : Rd w B 1 A n (u8s l)) : l.length = n := by have := h.1; simpa [u8s] using this
set_option maxRecDepth 100000 in
set_option maxHeartbeats 1000000 in
theorem sameBytes_any (A A' : Option Addr) (n n' c c' B : Nat) (l l' : List Int) (w : World) (h : Rd w B 1 A n (u8s l)) (h' : Rd w B 1 A' n' (u8s l')) (hB : B ≤ w.heap.size) (hn : n ≤ 1000000) (hn' : n' ≤ 1000000) :
    Calls Try.prog 19 #[.slice A n c, .slice A' n' c'] w fun e w' => e = .returned (.bool (decide (l = l'))) ∧ Below w.heap.size w w' := by
  have e1 := Rd.ints h
  have e2 := Rd.ints h'
  obtain ⟨d, hd⟩ : ∃ d, decide (l = l') = d := ⟨_, rfl⟩
  rw [hd]
  by_cases hnn : n = n'
  · subst hnn
    have HD := hide hd
    have E1 := hide e1
    have E2 := hide e2
    clear hd e1 e2
    go_enter Try.func19, Try.ntmps19
    go_wp2
    go_loopw [5] (fun p wr => ∃ k : Nat, k ≤ n ∧ p = .int .i64 k ∧ l.take k = l'.take k ∧ Below w.heap.size w wr) (fun p _ => n - (intOf p).toNat)
    case atStart => exact ⟨0, Nat.zero_le _, rfl, rfl, Below.refl _ _⟩
    case round =>
      obtain ⟨k, hk, rfl, ht, hb⟩ := hrel
      by_cases hlt : k < n
      · obtain ⟨ad, b, rfl, hl, hc⟩ := (h.below (hb.mono hB)).byte hlt
        obtain ⟨ad', b', rfl, hl', hc'⟩ := (h'.below (hb.mono hB)).byte hlt
        have HB := hide hb
        have HL := hide hl
        have HL' := hide hl'
        have HT := hide ht
        by_cases hbb : b = b'
        · subst hbb
          clear hb h h' hl hl' ht
          go_wp2
          go_region
          go_wp2
          have ht2 : l.take (k + 1) = l'.take (k + 1) := by rw [List.take_add_one, List.take_add_one, HT.out, HL.out, HL'.out]
          have HT2 := hide ht2
          clear ht2
          go_roundw
          case rel => exact ⟨k + 1, by omega, by go_num, HT2.out, HB.out.drew⟩
          case measure => simp [intOf]; omega
        · have hd0 : d = false := by
            rw [← HD.out]
            exact decide_eq_false (fun e => by
              have := HL.out
              rw [e, HL'.out] at this
              injection this with this
              exact hbb this.symm)
          subst hd0
          have hne : (b != b') = true := by simpa using hbb
          clear hb h h' hl hl' ht hbb
          go_wp2
          go_region
          go_wp2
          go_ret
          exact ⟨rfl, HB.out.drew⟩
      · have HB := hide hb
        obtain rfl : k = n := by omega
        have hd1 : d = true := by
          rw [← HD.out]
          refine decide_eq_true ?_
          rw [List.take_of_length_le (by rw [E1.out]; exact Nat.le_refl _), List.take_of_length_le (by rw [E2.out]; exact Nat.le_refl _)] at ht
          exact ht
        subst hd1
        clear hb h h' ht
        go_wp2
        go_ret
        exact ⟨rfl, HB.out⟩
  · have hd0 : d = false := by
      rw [← hd]
      exact decide_eq_false (fun e => hnn (by rw [← e1, ← e2, e]))
    subst hd0
    have hne : ((n : Int) != (n' : Int)) = true := by simp; omega
    clear hd e1 e2 h h'
    go_enter Try.func19, Try.ntmps19
    go_wp2
    go_ret
    exact ⟨rfl, Below.refl _ _⟩
theorem same_any (A A' : Option Addr) (n n' c c' B : Nat) (l l' : List Int) (w : World) (h : Rd w B 1 A n (u8s l)) (h' : Rd w B 1 A' n' (u8s l')) (hB : B ≤ w.heap.size) (hn : n ≤ 1000000) (hn' : n' ≤ 1000000) :
    Calls Try.prog 29 #[.slice A n c, .slice A' n' c'] w fun e w' => e = .returned (.bool (decide (l = l'))) ∧ Below w.heap.size w w' := by
  have H := hide (sameBytes_any A A' n n' c c' B l l' w h h' hB hn hn')
  clear h h'
  generalize decide (l = l') = d at *
  go_enter Try.func29, Try.ntmps29
  go_wp2_with (go_at_call 19; refine H.out.mono ?_; rintro e w' ⟨rfl, hb⟩; have HB := hide hb; clear hb)
  go_ret
  exact ⟨rfl, HB.out⟩
/-- Rows of bytes that came in, each byte a byte. -/
structure KRows (w : World) (B : Nat) (A : Option Addr) (m : Nat) (rs : List ARow) : Prop where
  outer : Rd w B 1 A m (rs.map ARow.sl)
  inner : ∀ r ∈ rs, InB w B r
theorem KRows.below {w w' : World} {B : Nat} {A : Option Addr} {m : Nat} {rs : List ARow} (h : KRows w B A m rs) (hb : Below B w w') : KRows w' B A m rs := ⟨h.outer.below hb, fun r hr => (h.inner r hr).below hb⟩
theorem KRows.len {w : World} {B : Nat} {A : Option Addr} {m : Nat} {rs : List ARow} (h : KRows w B A m rs) : rs.length = m := by have := h.outer.1; simpa using this
theorem KRows.cell {w : World} {B : Nat} {A : Option Addr} {m j : Nat} {rs : List ARow} (h : KRows w B A m rs) (hj : j < m) : ∃ ad r, A = some ad ∧ rs[j]? = some r ∧ w.cell? (ad.add j) = some (.slice r.A r.n r.c) := by
  obtain ⟨ad, e, _, hc⟩ := h.outer.2 (by omega)
  have hl := h.len
  have hr : rs[j]? = some rs[j] := List.getElem?_eq_getElem (by omega)
  exact ⟨ad, rs[j], e, hr, hc j _ (by simp [hr, ARow.sl])⟩
section
variable {H : Type} {enc : TypeId × Value → H} {W : World}
theorem view_rowsK {fuel : Nat} {cs : List Value} {x : DataW H × List MemPlace} (hx : Szd 49 x.1) (h : DataW.trod enc Try.prog W 0 (fun _ => true) true fuel 49 cs = some x) :
    ∃ (A : Option Addr) (m c : Nat) (rs : List ARow), cs = [.slice A m c] ∧ KRows W W.heap.size A m rs ∧ m ≤ c ∧ c ≤ 140737488351232 := by
  obtain ⟨A, c, l, hcs, hr, hl, h1, h2, h3⟩ := view_rows (P := fun r : ARow => r.Is W) Try.underlying49 cells31 (by decide) (fun r : ARow => [r.sl]) (fun _ => rfl) view_bytes hx h
  rw [bytes31] at h3
  have h4 : c ≤ 140737488351232 := by simp only [reachBytes] at h3; omega
  rw [sl_flat] at hr
  exact ⟨A, l.length, c, l, hcs, ⟨hr, fun r hrm => inB_of (hl r hrm)⟩, h1, h4⟩
end
end Go.Proofs.Ytihhbpadafgkoaa
