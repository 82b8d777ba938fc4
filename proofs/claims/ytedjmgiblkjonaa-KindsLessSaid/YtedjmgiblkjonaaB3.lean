/-
  Rows of arguments: are they the same?
-/
import Derived.Test.YtedjmgiblkjonaaB2
namespace Go.Proofs.Ytedjmgiblkjonaa
open Go.RowKit Go.Maps
set_option linter.unusedVariables false

theorem Later.callsL {P : Program} {f : FuncId} {args : Array Value} {w0 : World} {v : Value} (x : Later w0) (h : ∀ y : Later w0, Calls P f args y.w fun e w' => e = .returned v ∧ Below y.w.heap.size y.w w') :
    Calls P f args x.w fun e w' => e = .returned v ∧ ∃ y : Later w0, w' = y.w :=
  (h x).mono fun e w' ⟨he, hb⟩ => ⟨he, ⟨w', x.below.trans (hb.mono x.below.size)⟩, rfl⟩
/-- At place p lies an argument; what it holds lies below block B. -/
def ArgAt (W : World) (B : Nat) (p : Addr) (a : ArgM) : Prop := ∃ A c, W.cell? p = some (.int .u8 a.kind) ∧ W.cell? { block := p.block, off := p.off + 1 } = some (.int .i64 a.lo) ∧
  W.cell? { block := p.block, off := p.off + 2 } = some (.int .i64 a.hi) ∧ W.cell? { block := p.block, off := p.off + 3 } = some (.slice A a.maps.length c) ∧ Rd W B 1 A a.maps.length (mks a.maps) ∧ (a.maps.length ≤ 1000000 ∧ a.maps.length ≤ c ∧ c ≤ maxLen)
theorem ArgAt.below {W W' : World} {B : Nat} {p : Addr} {a : ArgM} (h : ArgAt W B p a) (hp : p.block < B) (hb : Below B W W') : ArgAt W' B p a := by
  obtain ⟨A, c, h0, h1, h2, h3, h4, h5⟩ := h
  exact ⟨A, c, (hb.cell hp).trans h0, (hb.cell (p := { block := p.block, off := p.off + 1 }) hp).trans h1, (hb.cell (p := { block := p.block, off := p.off + 2 }) hp).trans h2, (hb.cell (p := { block := p.block, off := p.off + 3 }) hp).trans h3, h4.below hb, h5⟩
theorem ArgAt.mono {W : World} {B B' : Nat} {p : Addr} {a : ArgM} (h : ArgAt W B p a) (hB : B ≤ B') : ArgAt W B' p a := by
  obtain ⟨A, c, h0, h1, h2, h3, h4, h5⟩ := h
  exact ⟨A, c, h0, h1, h2, h3, h4.mono hB, h5⟩
/-- A slice reads as these arguments; it lies below block B. -/
def Args (W : World) (B : Nat) (A : Option Addr) (n : Nat) (l : List ArgM) : Prop :=
  l.length = n ∧ (0 < n → ∃ ad, A = some ad ∧ ad.block < B ∧ ∀ i a, l[i]? = some a → ArgAt W B (ad.add (i * 4)) a)
theorem Args.below {W W' : World} {B n : Nat} {A : Option Addr} {l : List ArgM} (h : Args W B A n l) (hb : Below B W W') : Args W' B A n l :=
  ⟨h.1, fun hn => by
    obtain ⟨ad, e, hB, hc⟩ := h.2 hn
    exact ⟨ad, e, hB, fun i a ha => (hc i a ha).below (by rw [block_add]; exact hB) hb⟩⟩
theorem Args.mono {W : World} {B B' n : Nat} {A : Option Addr} {l : List ArgM} (h : Args W B A n l) (hB : B ≤ B') : Args W B' A n l :=
  ⟨h.1, fun hn => by
    obtain ⟨ad, e, hb, hc⟩ := h.2 hn
    exact ⟨ad, e, by omega, fun i a ha => (hc i a ha).mono hB⟩⟩
theorem Args.at_ {W : World} {B n k : Nat} {A : Option Addr} {l : List ArgM} (h : Args W B A n l) (hk : k < n) : ∃ ad a, A = some ad ∧ ad.block < B ∧ l[k]? = some a ∧ ArgAt W B (ad.add (k * 4)) a := by
  obtain ⟨ad, e, hb, hc⟩ := h.2 (by omega)
  have hl : k < l.length := by rw [h.1]; exact hk
  exact ⟨ad, l[k], e, hb, List.getElem?_eq_getElem hl, hc k _ (List.getElem?_eq_getElem hl)⟩
theorem Args.nil {W : World} {B : Nat} {A : Option Addr} : Args W B A 0 [] := ⟨rfl, fun h => absurd h (by omega)⟩
def argsEq : List ArgM → List ArgM → Bool
  | [], [] => true
  | a :: l, b :: m => a.eq b && argsEq l m
  | _, _ => false
theorem argsEq_iff : ∀ (l m : List ArgM), argsEq l m = true ↔ l = m
  | [], [] => by simp [argsEq]
  | a :: l, [] => by simp [argsEq]
  | [], b :: m => by simp [argsEq]
  | a :: l, b :: m => by simp [argsEq, ArgM.eq_iff, argsEq_iff l m]
theorem argsEq_no {l m : List ArgM} (h : l ≠ m) : argsEq l m = false := by
  cases hx : argsEq l m
  · rfl
  · exact absurd ((argsEq_iff l m).1 hx) h
set_option maxRecDepth 100000 in
set_option maxHeartbeats 2000000 in
theorem sameArgs_any (A A' : Option Addr) (n n' c c' B : Nat) (l m : List ArgM) (w : World) (h : Args w B A n l) (h' : Args w B A' n' m) (hB : B ≤ w.heap.size) (hn : n ≤ 1000000) (hn' : n' ≤ 1000000) :
    Calls Try.prog 33 #[.slice A n c, .slice A' n' c'] w fun e w' => e = .returned (.bool (argsEq l m)) ∧ Below w.heap.size w w' := by
  have hl1 := h.1
  have hl2 := h'.1
  by_cases hnn : n = n'
  · subst hnn
    have HL1 := hide hl1
    have HL2 := hide hl2
    clear hl1 hl2
    go_enter Try.func33, Try.ntmps33
    go_wp2
    go_loopw [5] (fun p wr => ∃ k : Nat, k ≤ n ∧ p = .int .i64 k ∧ Below w.heap.size w wr ∧ l.take k = m.take k) (fun p _ => n - (intOf p).toNat)
    case atStart => exact ⟨0, Nat.zero_le _, rfl, Below.refl _ _, by simp⟩
    case round =>
      obtain ⟨k, hk, rfl, hb, htk⟩ := hrel
      have HT := hide htk
      clear htk
      by_cases hlt : k < n
      · obtain ⟨ad, a, rfl, hab, hl, hc⟩ := (h.below (hb.mono hB)).at_ hlt
        obtain ⟨ad', a', rfl, hab', hl', hc'⟩ := (h'.below (hb.mono hB)).at_ hlt
        have HB := hide hb
        have HL := hide hl
        have HL' := hide hl'
        clear hb h h' hl hl'
        obtain ⟨Am, cm, q0, q1, q2, q3, q4, q5⟩ := hc
        obtain ⟨Am', cm', q0', q1', q2', q3', q4', q5'⟩ := hc'
        have hBr : B ≤ wr.heap.size := Nat.le_trans hB HB.out.size
        have hC : Hid (∀ y : Later wr, Calls Try.prog 58 #[a.v Am cm, a'.v Am' cm'] y.w fun e w' => e = .returned (.bool (a.eq a')) ∧ Below y.w.heap.size y.w w') := hide (fun y =>
          sameArgK_any a a' Am Am' cm cm' B y.w (q4.below (y.below.mono hBr)) (q4'.below (y.below.mono hBr)) (Nat.le_trans hBr y.below.size) q5.1 q5'.1)
        replace q0 := Later.cell q0
        replace q1 := Later.cell q1
        replace q2 := Later.cell q2
        replace q3 := Later.cell q3
        replace q0' := Later.cell q0'
        replace q1' := Later.cell q1'
        replace q2' := Later.cell q2'
        replace q3' := Later.cell q3'
        simp only [ArgM.v] at hC
        cases hd : a.eq a'
        · rw [hd] at hC
          have HN : Hid (argsEq l m = false) := hide (argsEq_no (by
            rintro rfl
            have := HL.out.symm.trans HL'.out
            injection this with this
            subst this
            rw [a.eq_refl] at hd; cases hd))
          clear hd
          generalize a.maps.length = z1 at *
          generalize a'.maps.length = z2 at *
          go_wp2
          refine wp_region_later (by kernel_rfl) (by kernel_rfl) ?_
          repeat (go_big_quiet_step ((exact Later.callsL _ hC.out)))
          refine wpQuiet_nil ?_
          rintro _ ⟨x, rfl⟩
          have HX := hide x.below
          go_wp2
          go_ret
          exact ⟨by rw [HN.out]; rfl, HB.out.trans (HX.out.mono HB.out.size)⟩
        · rw [hd] at hC
          have HA : Hid (l[k]? = some a ∧ m[k]? = some a) := hide ⟨HL.out, by rw [HL'.out, ((ArgM.eq_iff a a').1 hd)]⟩
          clear hd
          generalize a.maps.length = z1 at *
          generalize a'.maps.length = z2 at *
          go_wp2
          refine wp_region_later (by kernel_rfl) (by kernel_rfl) ?_
          repeat (go_big_quiet_step ((exact Later.callsL _ hC.out)))
          refine wpQuiet_nil ?_
          rintro _ ⟨x, rfl⟩
          have HX := hide x.below
          go_wp2
          go_roundw
          case rel => exact ⟨k + 1, by omega, by go_num, HB.out.trans (HX.out.mono HB.out.size), take_more HT.out HA.out.1 HA.out.2⟩
          case measure => simp [intOf]; omega
      · have HB := hide hb
        have HN : Hid (argsEq l m = true) := hide (by
          rw [argsEq_iff]
          exact take_all HT.out (by rw [HL1.out]; omega) (by rw [HL2.out]; omega))
        clear hb h h'
        go_wp2
        go_ret
        exact ⟨by rw [HN.out]; rfl, HB.out⟩
  · have HN : Hid (argsEq l m = false) := hide (argsEq_no (by
      rintro rfl
      exact hnn (hl1.symm.trans hl2)))
    have hd : ((n : Int) == (n' : Int)) = false := by simp; omega
    have hd2 : ((n : Int) != (n' : Int)) = true := by simp; omega
    clear h h' hl1 hl2
    go_enter Try.func33, Try.ntmps33
    go_wp2
    go_ret
    exact ⟨by rw [HN.out]; rfl, Below.refl _ _⟩
end Go.Proofs.Ytedjmgiblkjonaa
