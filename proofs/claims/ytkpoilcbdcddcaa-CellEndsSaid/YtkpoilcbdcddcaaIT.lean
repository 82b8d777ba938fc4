/-
  The groups that bytes touch, gone through.
-/
import Derived.Test.YtkpoilcbdcddcaaG2
namespace Go.Proofs.Ytkpoilcbdcddcaa
open Go.RowKit
set_option linter.unusedVariables false
set_option linter.unusedSimpArgs false
attribute [local go_sem] Oper.semAt_some

/-- A part of a group: the group, from where, up to where. -/
structure PartM where
  g : Nat
  x : Nat
  y : Nat
def partsM : Nat → Nat → Nat → List PartM
  | 0, _, _ => []
  | f + 1, off, n => if n = 0 then [] else ⟨off / 8, off % 8, min 8 (off % 8 + n)⟩ :: partsM f (off + (min 8 (off % 8 + n) - off % 8)) (n - (min 8 (off % 8 + n) - off % 8))
theorem partsM_zero (f off : Nat) : partsM f off 0 = [] := by cases f <;> simp [partsM]
theorem partsM_fuel (f f' off n : Nat) (h : n ≤ f) (h' : n ≤ f') : partsM f off n = partsM f' off n := by
  induction f generalizing f' off n with
  | zero => rw [show n = 0 by omega, partsM_zero, partsM_zero]
  | succ f ih =>
    cases f' with
    | zero => rw [show n = 0 by omega, partsM_zero, partsM_zero]
    | succ f' =>
      unfold partsM
      by_cases hn : n = 0
      · simp [hn]
      · rw [if_neg hn, if_neg hn, ih]
        · omega
        · omega
/-- The parts of the bytes from off on, n of them. -/
def parts (off n : Nat) : List PartM := partsM n off n
theorem parts_next (off n : Nat) (h : 0 < n) : parts off n = ⟨off / 8, off % 8, min 8 (off % 8 + n)⟩ :: parts (off + (min 8 (off % 8 + n) - off % 8)) (n - (min 8 (off % 8 + n) - off % 8)) := by
  obtain ⟨m, rfl⟩ : ∃ m, n = m + 1 := ⟨n - 1, by omega⟩
  unfold parts
  rw [partsM, if_neg (by omega)]
  congr 1
  exact partsM_fuel _ _ _ _ (by omega) (by omega)
theorem parts_zero (off : Nat) : parts off 0 = [] := rfl
theorem parts_mem (f off n : Nat) (h : off + n ≤ 512) (hf : n ≤ f) : ∀ p ∈ partsM f off n, p.g < 64 ∧ p.x < p.y ∧ p.y ≤ 8 := by
  induction f generalizing off n with
  | zero => simp [partsM]
  | succ f ih =>
    unfold partsM
    intro p hp
    by_cases hn : n = 0
    · simp [hn] at hp
    · rw [if_neg hn, List.mem_cons] at hp
      rcases hp with rfl | hp
      · simp only; omega
      · exact ih _ _ (by omega) (by omega) p hp
def PartM.encs (b : Nat) (p : PartM) : Array Value := #[.pointer (some ⟨b, 1 + 13 * p.g, none⟩), .agg #[.int .i64 p.x, .int .i64 p.y]]
theorem yield_two {e : Ending} {A B : Prop} (h : (e = .returned (.bool true) ∧ A) ∨ (e = .returned (.bool false) ∧ B)) : ∃ b : Bool, e = .returned (.bool b) ∧ ((b = true ∧ A) ∨ (b = false ∧ B)) := by
  rcases h with ⟨h1, h2⟩ | ⟨h1, h2⟩
  · exact ⟨true, h1, .inl ⟨rfl, h2⟩⟩
  · exact ⟨false, h1, .inr ⟨rfl, h2⟩⟩
/-- What each round keeps: three boxes. -/
def Keep3 (B : Nat) (W W' : World) : Prop := W'.heap[B]? = W.heap[B]? ∧ W'.heap[B + 1]? = W.heap[B + 1]? ∧ W'.heap[B + 2]? = W.heap[B + 2]?
theorem Keep3.trans {B : Nat} {X Y Z : World} (h : Keep3 B X Y) (k : Keep3 B Y Z) : Keep3 B X Z := ⟨k.1.trans h.1, k.2.1.trans h.2.1, k.2.2.trans h.2.2⟩
theorem Keep3.of_below {B : Nat} {X Y : World} (hB : B + 2 < X.heap.size) (h : Below X.heap.size X Y) : Keep3 B X Y := ⟨h.block _ (by omega), h.block _ (by omega), h.block _ hB⟩
theorem Keep3.turn {B b : Nat} {X Y : World} (hB : B + 2 < X.heap.size) (h : Turn b X Y) (h1 : b ≠ B) (h2 : b ≠ B + 1) (h3 : b ≠ B + 2) : Keep3 B X Y :=
  ⟨h.block _ (by omega) (fun e => h1 (by cases e; rfl)), h.block _ (by omega) (fun e => h2 (by cases e; rfl)), h.block _ hB (fun e => h3 (by cases e; rfl))⟩
theorem Keep3.put {B l : Nat} (X : World) (o' : Obj) (h : B + 2 < l) : Keep3 B X (X.putObj l o') := ⟨World.putObj_heap_other (by omega), World.putObj_heap_other (by omega), World.putObj_heap_other (by omega)⟩
/-- The boxes that the iterator holds. -/
structure Bx3 (W : World) (B b off n : Nat) : Prop where
  r : Boxed W B 81 (.pointer (some ⟨b, 1, none⟩))
  o : Boxed W (B + 1) 2 (.int .i64 off)
  s : Boxed W (B + 2) 3 (.int .i64 n)
theorem Bx3.keep {W W' : World} {B b off n : Nat} (h : Bx3 W B b off n) (k : Keep3 B W W') : Bx3 W' B b off n := ⟨k.1.trans h.r, k.2.1.trans h.o, k.2.2.trans h.s⟩
theorem Bx3.lt {W : World} {B b off n : Nat} (h : Bx3 W B b off n) : B + 2 < W.heap.size := at_lt h.s

/-- What each round keeps: the boxes, and the parts that were laid since the call. -/
def KeepT (B : Nat) (n : Nat) (W W' : World) : Prop := Keep3 B W W' ∧ ∀ k cs, n ≤ k → W.heap[k]? = some (.cells cs 86 (0, 0)) → W'.heap[k]? = some (.cells cs 86 (0, 0))
theorem KeepT.trans {B n : Nat} {X Y Z : World} (h : KeepT B n X Y) (k : KeepT B n Y Z) : KeepT B n X Z := ⟨h.1.trans k.1, fun i cs hi hx => k.2 i cs hi (h.2 i cs hi hx)⟩
theorem KeepT.of_below {B n : Nat} {X Y : World} (hB : B + 2 < X.heap.size) (h : Below X.heap.size X Y) : KeepT B n X Y := ⟨.of_below hB h, fun k cs _ hx => (h.block k (at_lt hx)).trans hx⟩
theorem KeepT.turn {B n b : Nat} {X Y : World} (hB : B + 2 < X.heap.size) (h : Turn b X Y) (h1 : b < B) (h2 : b < n) : KeepT B n X Y :=
  ⟨.turn hB h (by omega) (by omega) (by omega), fun k cs hk hx => (h.block k (at_lt hx) (fun e => by cases e; omega)).trans hx⟩
theorem touched_any (b off n : Nat) (w : World) : Calls Try.prog 42 #[.pointer (some ⟨b, 1, none⟩), .int .i64 off, .int .i64 n] w fun e w' =>
    e = .returned (.func (.func 48) #[] #[.pointer (some ⟨w.heap.size + 1, 0, none⟩), .pointer (some ⟨w.heap.size + 2, 0, none⟩), .pointer (some ⟨w.heap.size, 0, none⟩)]) ∧ Below w.heap.size w w' ∧ Bx3 w' w.heap.size b off n := by
  have hmf : ∀ (fn : Fn) (first cap : Array Value) (w : World), (Instr.makeFunc fn first cap).run Try.prog w = .ok (.func fn first cap) w := fun _ _ _ _ => rfl
  go_enter Try.func42, Try.ntmps42
  go_wp2
  go_ret
  have h1 := two_boxes w (.cells #[.pointer (some ⟨b, 1, none⟩)] 81) (.cells #[.int .i64 off] 2)
  refine ⟨rfl, ((below2 w _ _).alloc (by simp; omega) _), ?_, ?_, ?_⟩
  · exact (Below.heap_alloc _ _ _ (by simp; omega)).trans h1.1
  · exact (Below.heap_alloc _ _ _ (by simp)).trans h1.2
  · exact boxed_at (by simp)
set_option maxRecDepth 100000 in
set_option maxHeartbeats 4000000 in
theorem touched_iter (n : Nat) (hn : 1 ≤ n) (B b off q : Nat) (hq : off + q ≤ 512) (w0 : World) (hbx : Bx3 w0 B b off q) :
    IterX Fence.wide n Try.prog 48 #[.pointer (some ⟨B + 1, 0, none⟩), .pointer (some ⟨B + 2, 0, none⟩), .pointer (some ⟨B, 0, none⟩)] (PartM.encs b) (KeepT B) (fun pre x => pre ++ [x] <+: parts off q) (fun xs => xs = parts off q) w0 := by
  intro lp J Jx W hW hJ hJx hY h0
  have hbW := hbx.keep (.of_below hbx.lt (hW.mono (Nat.le_refl _)))
  clear hbx
  have hltW := hbW.lt
  have cb0 := hbW.r.cell
  have cb1 := hbW.o.cell
  have cb2 := hbW.s.cell
  refine callsIn_of_wp Try.func48 rfl trivial ?_ rfl
  simp only [Try.ntmps48, List.size_toArray, List.length_cons, List.length_nil, Nat.reduceAdd, Nat.reduceSub, Array.replicate_succ, Array.replicate_zero, List.push_toArray, List.append_toArray, List.nil_append, List.cons_append]
  gi_wp2
  gi_region
  gi_wp2
  gi_loopw [5, 6] (fun p r wr => ∃ (place left : Nat) (pre : List PartM), place + left = off + q ∧ p = .int .i64 place ∧ r = .int .i64 left ∧ pre ++ parts place left = parts off q ∧ J pre wr ∧ Bx3 wr B b off q ∧ W.heap.size ≤ wr.heap.size) (fun _ r _ => (intOf r).toNat)
  case atStart =>
    exact ⟨off, q, [], rfl, rfl, rfl, rfl, hJ _ _ _ h0 (.of_below (Below.refl _ _).drew), hbW.keep ⟨rfl, rfl, rfl⟩, Nat.le_refl _⟩
  case round =>
    obtain ⟨place, left, pre, hpl, rfl, rfl, hpre, hJk, hbk, hws⟩ := hrel
    clear cb0 cb1 cb2
    have HPRE := hide hpre
    clear hpre
    by_cases hl : 0 < left
    · obtain ⟨g, hge⟩ : ∃ g, g = place / 8 := ⟨_, rfl⟩
      obtain ⟨x, hxe⟩ : ∃ x, x = place % 8 := ⟨_, rfl⟩
      have hxi : (place : Int) % 8 = (x : Int) := by omega
      have hx8 : x < 8 := by omega
      have HA : Hid (∀ w, Calls Try.prog 29 #[.pointer (some ⟨b, 1, none⟩), .int .i64 place] w fun e w' => e = .returned (.pointer (some ⟨b, 1 + 13 * g, none⟩)) ∧ w = w') := fun w => by
        have := at_any b place w (by omega) (by omega)
        rw [Int.toNat_natCast, ← hge] at this
        exact this
      by_cases h8 : 8 ≤ x + left
      · have h8i : (8 : Int) ≤ (x : Int) + (left : Int) := by omega
        have HN : Hid (parts place left = ⟨g, x, 8⟩ :: parts (place + (8 - x)) (left - (8 - x))) := by
          have := parts_next place left hl
          rw [← hge, ← hxe, show min 8 (x + left) = 8 by omega] at this
          exact this
        have HPX : Hid (pre ++ [(⟨g, x, 8⟩ : PartM)] <+: parts off q) := by
          rw [← HPRE.out, HN.out]
          exact ⟨_, by rw [List.append_assoc]; rfl⟩
        obtain ⟨w1, hw1⟩ : ∃ w1, w1 = wr.alloc (.cells #[.int .i64 x, .int .i64 8] 86) := ⟨_, rfl⟩
        have hbw : Below wr.heap.size wr w1 := by rw [hw1]; exact below1 wr _
        have hpx : w1.heap[wr.heap.size]? = some (.cells #[.int .i64 x, .int .i64 8] 86 (0, 0)) := by rw [hw1]; exact World.alloc_heap_new wr _
        have hb1 := hbk.keep (.of_below hbk.lt hbw)
        have hJ1 := hJ _ _ _ hJk ((Stays.of_below hbw.drew).mono hws)
        obtain ⟨fn, tmps, assign, body, hy, hR⟩ := hY pre ⟨g, x, 8⟩ w1.drew hJ1 HPX.out (Nat.le_trans hws hbw.size)
        simp only [PartM.encs, Int.cast_ofNat_Int] at hy
        have hd0 := blk_cell hpx 0
        have hd1 := blk_cell hpx 1
        simp at hd0 hd1
        have cb0 := hb1.r.cell
        have HB1 := hide hb1
        have HBW := hide hbw
        have HPX1 := hide hpx
        have hlt1 := hb1.lt
        have hltp := at_lt hpx
        have hmo : Try.prog.follows .mixedOrders = true := by kernel_rfl
        clear hge hxe hJk hbk hJ1 hbw hpx hb1
        gi_wp2
        rw [← hw1]
        clear hw1
        have cb0d : ({ heap := w1.heap, tape := w1.tape, drawn := w1.drawn + 1, os := w1.os, output := w1.output } : World).cell? ⟨B, 0, none⟩ = some (.pointer (some ⟨b, 1, none⟩)) := cb0
        have hd0d : ({ heap := w1.heap, tape := w1.tape, drawn := w1.drawn + 1, os := w1.os, output := w1.output } : World).cell? ⟨wr.heap.size, 0, none⟩ = some (.int .i64 x) := hd0
        have hd1d : ({ heap := w1.heap, tape := w1.tape, drawn := w1.drawn + 1, os := w1.os, output := w1.output } : World).cell? ⟨wr.heap.size, 1, none⟩ = some (.int .i64 8) := hd1
        have cb0e : w1.drew.cell? ⟨B, 0, none⟩ = some (.pointer (some ⟨b, 1, none⟩)) := cb0
        have hd0e : w1.drew.cell? ⟨wr.heap.size, 0, none⟩ = some (.int .i64 x) := hd0
        have hd1e : w1.drew.cell? ⟨wr.heap.size, 1, none⟩ = some (.int .i64 8) := hd1
        gi_region_with_o (first
          | (refine ⟨trivial, (callsIn_wide.2 (HA.out _)).mono ?_⟩; rintro e w2 ⟨rfl, rfl⟩)
          | (refine ⟨trivial, fun h => by simp [Fence.wide] at h, (callsIn_wide.2 (HA.out _)).mono ?_⟩; rintro e w2 ⟨rfl, rfl⟩)
          | (refine hR.mono ?_; rintro e W' hor; obtain ⟨bv, he, hor2⟩ := yield_two hor; clear hor; subst he; have HOR := hide hor2; clear hor2))
        all_goals
          rcases HOR.out with ⟨rfl, hJ', hs', hk'⟩ | ⟨rfl, hJx'⟩
          · have hb2 := (HB1.out.keep (W' := w1.drew) ⟨rfl, rfl, rfl⟩).keep hk'.1
            have hp2 := hk'.2 wr.heap.size _ hws HPX1.out
            have e0 := blk_cell hp2 0
            have e1 := blk_cell hp2 1
            simp at e0 e1
            have HJ2 := hide hJ'
            have HB2 := hide hb2
            have BP := hide hp2
            have HC := hide (Below.refl W'.heap.size W').drew
            have HQ := hide (fun w => partSize_any (x : Int) (8 : Int) w (by omega) (by omega))
            have HW1 : Hid (IntKind.i64.wrap ((place : Int) + ((8 : Int) - (x : Int))) = ((place + (8 - x) : Nat) : Int)) := by
              show IntKind.i64.wrap _ = _
              simp [IntKind.wrap, IntKind.bits, IntKind.signed]; omega
            have HW2 : Hid (IntKind.i64.wrap ((left : Int) - ((8 : Int) - (x : Int))) = ((left - (8 - x) : Nat) : Int)) := by
              show IntKind.i64.wrap _ = _
              simp [IntKind.wrap, IntKind.bits, IntKind.signed]; omega
            have HWS := hide (Nat.le_trans hws (Nat.le_trans HBW.out.size hs'))
            clear cb0 cb0d cb0e hd0 hd0d hd0e hd1 hd1d hd1e hJ' hs' hk' hb2 hp2 HOR
            gi_wp2
            gi_region_with_o (refine ⟨trivial, (callsIn_wide.2 (HQ.out _)).mono ?_⟩; rintro e w5 ⟨rfl, hb5⟩; have hbp := (hb5.block wr.heap.size (at_lt BP.out)).trans BP.out; have HC := hide (HC.out.trans (hb5.mono HC.out.size)); have e0 := blk_cell hbp 0; have e1 := blk_cell hbp 1; simp at e0 e1; have BP := hide hbp; clear hbp hb5)
            all_goals
              gi_wp2
              simp only [Act.put, List.getElem_toArray, List.getElem_cons_succ, List.getElem_cons_zero, List.setIfInBounds_toArray, List.set_cons_succ, List.set_cons_zero]
              go_roundw
              case rel =>
                exact ⟨place + (8 - x), left - (8 - x), pre ++ [⟨g, x, 8⟩], by omega, congrArg (Value.int .i64) HW1.out, congrArg (Value.int .i64) HW2.out, by rw [List.append_assoc, ← HPRE.out, HN.out]; rfl, hJ _ _ _ HJ2.out ((Stays.of_below HC.out).mono HWS.out), HB2.out.keep (.of_below HB2.out.lt HC.out), Nat.le_trans HWS.out HC.out.size⟩
              case measure => simp only [intOf, HW2.out]; omega
          · clear HOR
            gi_wp2
            refine bodyPost_ret (results_none rfl _ _ _) rfl ?_
            exact ⟨_, rfl, .inr ⟨_, hJx'⟩⟩
      · have h8i : ¬ (8 : Int) ≤ (x : Int) + (left : Int) := by omega
        have HN : Hid (parts place left = ⟨g, x, (x + left)⟩ :: parts (place + ((x + left) - x)) (left - ((x + left) - x))) := by
          have := parts_next place left hl
          rw [← hge, ← hxe, show min 8 (x + left) = x + left by omega] at this
          exact this
        have HPX : Hid (pre ++ [(⟨g, x, (x + left)⟩ : PartM)] <+: parts off q) := by
          rw [← HPRE.out, HN.out]
          exact ⟨_, by rw [List.append_assoc]; rfl⟩
        obtain ⟨w1, hw1⟩ : ∃ w1, w1 = wr.alloc (.cells #[.int .i64 x, .int .i64 ((x : Int) + (left : Int))] 86) := ⟨_, rfl⟩
        have hbw : Below wr.heap.size wr w1 := by rw [hw1]; exact below1 wr _
        have hpx : w1.heap[wr.heap.size]? = some (.cells #[.int .i64 x, .int .i64 ((x : Int) + (left : Int))] 86 (0, 0)) := by rw [hw1]; exact World.alloc_heap_new wr _
        have hb1 := hbk.keep (.of_below hbk.lt hbw)
        have hJ1 := hJ _ _ _ hJk ((Stays.of_below hbw.drew).mono hws)
        obtain ⟨fn, tmps, assign, body, hy, hR⟩ := hY pre ⟨g, x, (x + left)⟩ w1.drew hJ1 HPX.out (Nat.le_trans hws hbw.size)
        simp only [PartM.encs, Int.natCast_add] at hy
        have hd0 := blk_cell hpx 0
        have hd1 := blk_cell hpx 1
        simp at hd0 hd1
        have cb0 := hb1.r.cell
        have HB1 := hide hb1
        have HBW := hide hbw
        have HPX1 := hide hpx
        have hlt1 := hb1.lt
        have hltp := at_lt hpx
        have hmo : Try.prog.follows .mixedOrders = true := by kernel_rfl
        clear hge hxe hJk hbk hJ1 hbw hpx hb1
        gi_wp2
        rw [← hw1]
        clear hw1
        have cb0d : ({ heap := w1.heap, tape := w1.tape, drawn := w1.drawn + 1, os := w1.os, output := w1.output } : World).cell? ⟨B, 0, none⟩ = some (.pointer (some ⟨b, 1, none⟩)) := cb0
        have hd0d : ({ heap := w1.heap, tape := w1.tape, drawn := w1.drawn + 1, os := w1.os, output := w1.output } : World).cell? ⟨wr.heap.size, 0, none⟩ = some (.int .i64 x) := hd0
        have hd1d : ({ heap := w1.heap, tape := w1.tape, drawn := w1.drawn + 1, os := w1.os, output := w1.output } : World).cell? ⟨wr.heap.size, 1, none⟩ = some (.int .i64 ((x : Int) + (left : Int))) := hd1
        have cb0e : w1.drew.cell? ⟨B, 0, none⟩ = some (.pointer (some ⟨b, 1, none⟩)) := cb0
        have hd0e : w1.drew.cell? ⟨wr.heap.size, 0, none⟩ = some (.int .i64 x) := hd0
        have hd1e : w1.drew.cell? ⟨wr.heap.size, 1, none⟩ = some (.int .i64 ((x : Int) + (left : Int))) := hd1
        gi_region_with_o (first
          | (refine ⟨trivial, (callsIn_wide.2 (HA.out _)).mono ?_⟩; rintro e w2 ⟨rfl, rfl⟩)
          | (refine ⟨trivial, fun h => by simp [Fence.wide] at h, (callsIn_wide.2 (HA.out _)).mono ?_⟩; rintro e w2 ⟨rfl, rfl⟩)
          | (refine hR.mono ?_; rintro e W' hor; obtain ⟨bv, he, hor2⟩ := yield_two hor; clear hor; subst he; have HOR := hide hor2; clear hor2))
        all_goals
          rcases HOR.out with ⟨rfl, hJ', hs', hk'⟩ | ⟨rfl, hJx'⟩
          · have hb2 := (HB1.out.keep (W' := w1.drew) ⟨rfl, rfl, rfl⟩).keep hk'.1
            have hp2 := hk'.2 wr.heap.size _ hws HPX1.out
            have e0 := blk_cell hp2 0
            have e1 := blk_cell hp2 1
            simp at e0 e1
            have HJ2 := hide hJ'
            have HB2 := hide hb2
            have BP := hide hp2
            have HC := hide (Below.refl W'.heap.size W').drew
            have HQ := hide (fun w => partSize_any (x : Int) (((x : Int) + (left : Int)) : Int) w (by omega) (by omega))
            have HW1 : Hid (IntKind.i64.wrap ((place : Int) + ((((x : Int) + (left : Int)) : Int) - (x : Int))) = ((place + ((x + left) - x) : Nat) : Int)) := by
              show IntKind.i64.wrap _ = _
              simp [IntKind.wrap, IntKind.bits, IntKind.signed]; omega
            have HW2 : Hid (IntKind.i64.wrap ((left : Int) - ((((x : Int) + (left : Int)) : Int) - (x : Int))) = ((left - ((x + left) - x) : Nat) : Int)) := by
              show IntKind.i64.wrap _ = _
              simp [IntKind.wrap, IntKind.bits, IntKind.signed]; omega
            have HWS := hide (Nat.le_trans hws (Nat.le_trans HBW.out.size hs'))
            clear cb0 cb0d cb0e hd0 hd0d hd0e hd1 hd1d hd1e hJ' hs' hk' hb2 hp2 HOR
            gi_wp2
            gi_region_with_o (refine ⟨trivial, (callsIn_wide.2 (HQ.out _)).mono ?_⟩; rintro e w5 ⟨rfl, hb5⟩; have hbp := (hb5.block wr.heap.size (at_lt BP.out)).trans BP.out; have HC := hide (HC.out.trans (hb5.mono HC.out.size)); have e0 := blk_cell hbp 0; have e1 := blk_cell hbp 1; simp at e0 e1; have BP := hide hbp; clear hbp hb5)
            all_goals
              gi_wp2
              simp only [Act.put, List.getElem_toArray, List.getElem_cons_succ, List.getElem_cons_zero, List.setIfInBounds_toArray, List.set_cons_succ, List.set_cons_zero]
              go_roundw
              case rel =>
                exact ⟨place + ((x + left) - x), left - ((x + left) - x), pre ++ [⟨g, x, (x + left)⟩], by omega, congrArg (Value.int .i64) HW1.out, congrArg (Value.int .i64) HW2.out, by rw [List.append_assoc, ← HPRE.out, HN.out]; rfl, hJ _ _ _ HJ2.out ((Stays.of_below HC.out).mono HWS.out), HB2.out.keep (.of_below HB2.out.lt HC.out), Nat.le_trans HWS.out HC.out.size⟩
              case measure => simp only [intOf, HW2.out]; omega
          · clear HOR
            gi_wp2
            refine bodyPost_ret (results_none rfl _ _ _) rfl ?_
            exact ⟨_, rfl, .inr ⟨_, hJx'⟩⟩
    · have hl0 : left = 0 := by omega
      subst hl0
      have hpre := HPRE.out
      rw [parts_zero, List.append_nil] at hpre
      gi_wp2
      go_end0
      exact ⟨_, rfl, .inl ⟨pre, hpre, hJk⟩⟩
end Go.Proofs.Ytkpoilcbdcddcaa
