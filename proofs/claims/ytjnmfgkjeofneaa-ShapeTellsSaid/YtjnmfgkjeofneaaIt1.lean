/-
  The first slots of a program, gone through.
-/
import Derived.Test.YtjnmfgkjeofneaaFn10
namespace Go.Proofs.Ytjnmfgkjeofneaa
open Go.RowKit Go.Maps
set_option linter.unusedVariables false
attribute [local go_sem] Oper.semAt_some

/-- The first slots of a row of slots, with their places, from place k on. -/
def fsts : Nat → Bool → List Ins → List (Nat × Ins)
  | _, _, [] => []
  | k, true, _ :: r => fsts (k + 1) false r
  | k, false, s :: r => (k, s) :: fsts (k + 1) (decide (s.op = 24)) r
theorem fsts_next (l : List Ins) (k : Nat) (s : Ins) (h : l[k]? = some s) : fsts k false (l.drop k) = (k, s) :: fsts (k + slotsN s.op) false (l.drop (k + slotsN s.op)) := by
  obtain ⟨hk, hs⟩ := List.getElem?_eq_some_iff.1 h
  rw [List.drop_eq_getElem_cons hk, hs]
  unfold slotsN
  by_cases h24 : s.op = 24
  · rw [fsts, if_pos h24, decide_eq_true h24]
    rcases hd : l.drop (k + 1) with _ | ⟨x, r⟩
    · rw [List.drop_eq_nil_of_le (i := k + 2) (by have := List.drop_eq_nil_iff.1 hd; omega)]
      rfl
    · rw [fsts]
      have : l.drop (k + 2) = r := by rw [show k + 2 = (k + 1) + 1 by omega, ← List.drop_drop, hd]; rfl
      rw [this]
  · rw [fsts, if_neg h24, decide_eq_false h24]
theorem fsts_end (l : List Ins) (k : Nat) (h : l.length ≤ k) : fsts k false (l.drop k) = [] := by rw [List.drop_eq_nil_of_le h]; rfl
theorem fsts_mem : ∀ (l : List Ins) (k : Nat) (b : Bool) (p : Nat × Ins), p ∈ fsts k b l → k ≤ p.1 ∧ p.1 < k + l.length ∧ l[p.1 - k]? = some p.2
  | [], k, b, p, h => by cases b <;> simp [fsts] at h
  | s :: r, k, true, p, h => by
    rw [fsts] at h
    obtain ⟨h1, h2, h3⟩ := fsts_mem r (k + 1) false p h
    refine ⟨by omega, by simp; omega, ?_⟩
    rw [show p.1 - k = (p.1 - (k + 1)) + 1 by omega, List.getElem?_cons_succ]
    exact h3
  | s :: r, k, false, p, h => by
    rw [fsts, List.mem_cons] at h
    rcases h with rfl | h
    · exact ⟨Nat.le_refl _, by simp, by simp⟩
    · obtain ⟨h1, h2, h3⟩ := fsts_mem r (k + 1) _ p h
      refine ⟨by omega, by simp; omega, ?_⟩
      rw [show p.1 - k = (p.1 - (k + 1)) + 1 by omega, List.getElem?_cons_succ]
      exact h3

/-- What each round keeps: what lies below n0, and block Bx. -/
def KeepB (n0 Bx : Nat) (W W' : World) : Prop := Below n0 W W' ∧ W'.heap[Bx]? = W.heap[Bx]?
theorem KeepB.refl (n0 Bx : Nat) (W : World) : KeepB n0 Bx W W := ⟨Below.refl _ _, rfl⟩
theorem KeepB.trans {n0 Bx : Nat} {X Y Z : World} (h : KeepB n0 Bx X Y) (k : KeepB n0 Bx Y Z) : KeepB n0 Bx X Z := ⟨h.1.trans k.1, k.2.trans h.2⟩
theorem KeepB.of_below {n0 Bx : Nat} {X Y : World} (hn : n0 ≤ X.heap.size) (hb : Bx < X.heap.size) (h : Below X.heap.size X Y) : KeepB n0 Bx X Y := ⟨h.mono hn, h.block Bx hb⟩
theorem KeepB.grown {n0 Bx g : Nat} {X Y : World} (hn : n0 ≤ X.heap.size) (hb : Bx < X.heap.size) (h : X.grownBy Y (some g)) (h1 : n0 ≤ g) (h2 : g ≠ Bx) : KeepB n0 Bx X Y :=
  ⟨(Below.refl _ X).grown h hn (fun k e => by cases e; exact h1), h.block Bx hb (fun e => h2 (by cases e; rfl))⟩
theorem KeepB.put {n0 Bx l : Nat} (X : World) (o' : Obj) (h : n0 ≤ l) (h2 : Bx ≠ l) : KeepB n0 Bx X (X.putObj l o') := ⟨below_put X o' h, World.putObj_heap_other h2⟩

theorem firsts_any (A : Option Addr) (n c : Nat) (w : World) : Calls Try.prog 24 #[.slice A n c] w fun e w' =>
    e = .returned (.func (.func 48) #[] #[.pointer (some ⟨w.heap.size, 0, none⟩)]) ∧ w.alloc (.cells #[.slice A n c] 22) = w' := by
  have hmf : ∀ (fn : Fn) (first cap : Array Value) (w : World), (Instr.makeFunc fn first cap).run Try.prog w = .ok (.func fn first cap) w := fun _ _ _ _ => rfl
  go_enter Try.func24, Try.ntmps24
  go_wp2
  go_ret
  exact ⟨rfl, rfl⟩
set_option maxRecDepth 100000 in
set_option maxHeartbeats 1000000 in
theorem firsts_iter (n : Nat) (hn : 1 ≤ n) (Bx m c n0 : Nat) (A : Option Addr) (l : List Ins) (w0 : World) (hbox : Boxed w0 Bx 22 (.slice A m c)) (hn0 : n0 ≤ w0.heap.size) (hp : Rd w0 n0 5 A m (pcells l)) (hm : m ≤ 4096) :
    IterX Fence.wide n Try.prog 48 #[.pointer (some ⟨Bx, 0, none⟩)] (fun p : Nat × Ins => #[.int .i64 (p.1 : Nat), .agg p.2.cells.toArray]) (fun _ => KeepB n0 Bx) (fun pre x => pre ++ [x] <+: fsts 0 false l) (fun xs => xs = fsts 0 false l) w0 := by
  intro lp J Jx W hW hJ hJx hY h0
  have hll : l.length = m := hp.prg.1
  have HLL := hide hll
  clear hll
  have hW0 : Bx < w0.heap.size := hbox.lt
  refine callsIn_of_wp Try.func48 rfl trivial ?_ rfl
  simp only [Try.ntmps48, List.size_toArray, List.length_cons, List.length_nil, Nat.reduceAdd, Nat.reduceSub, Array.replicate_succ, Array.replicate_zero, List.push_toArray, List.append_toArray, List.nil_append, List.cons_append]
  gi_wp2
  gi_loopw [3] (fun p wr => ∃ (k : Nat) (pre : List (Nat × Ins)), k ≤ m + 1 ∧ p = .int .i64 k ∧ pre ++ fsts k false (l.drop k) = fsts 0 false l ∧ J pre wr ∧ Rd wr n0 5 A m (pcells l) ∧ Boxed wr Bx 22 (.slice A m c) ∧ n0 ≤ wr.heap.size ∧ W.heap.size ≤ wr.heap.size) (fun p _ => m + 1 - (intOf p).toNat)
  case atStart =>
    exact ⟨0, [], by omega, rfl, by simp, h0, hp.below (hW.mono hn0), (hW.block Bx hW0).trans hbox, Nat.le_trans hn0 hW.size, Nat.le_refl _⟩
  case round =>
    obtain ⟨k, pre, hk, rfl, hpre, hJk, hpk, hbx, hsz, hws⟩ := hrel
    have cb := hbx.cell
    have hbl := hbx.lt
    have HP := hide hpk
    have HPRE := hide hpre
    clear hpre
    by_cases hlt : k < m
    · obtain ⟨ad, ⟨op, dst, src, off, imm⟩, rfl, hl, c0, c1, c2, c3, c4⟩ := hpk.slot hlt
      simp only at c0 c1 c2 c3 c4
      have HN := hide (fsts_next l k _ hl)
      have HPX : Hid (pre ++ [(k, (⟨op, dst, src, off, imm⟩ : Ins))] <+: fsts 0 false l) := by
        rw [← HPRE.out, HN.out]
        exact ⟨_, by rw [List.append_assoc]; rfl⟩
      have hsl := slotsN_le op
      have hs1 : 1 ≤ slotsN op := by unfold slotsN; split <;> omega
      obtain ⟨fn, tmps, assign, body, hy, hR⟩ := hY pre (k, ⟨op, dst, src, off, imm⟩) wr hJk HPX.out hws
      simp only [Ins.cells] at hy
      have HB := hide hbx
      have HL := hide hl
      clear hpk hl hbx
      gi_wp2_with fail
      refine hR.mono ?_
      rintro e W' (⟨rfl, hJ', hs', hk'⟩ | ⟨rfl, hJx'⟩)
      · have hr' := (HP.out.below hk'.1)
        have hb' : Boxed W' Bx 22 (.slice (some ad) m c) := hk'.2.trans HB.out
        obtain ⟨ad', s', e1, hl', d0, d1, d2, d3, d4⟩ := hr'.slot hlt
        cases e1
        obtain rfl : s' = ⟨op, dst, src, off, imm⟩ := by
          have := HL.out
          rw [hl'] at this
          injection this
        simp only at d0 d1 d2 d3 d4
        have cb' := hb'.cell
        have HR' := hide hr'
        have HB' := hide hb'
        have hz : n0 ≤ W'.heap.size := Nat.le_trans hsz hs'
        have hz2 : Bx < W'.heap.size := hb'.lt
        clear hr' hb' hk' hl'
        gi_wp2_with fail
        refine ⟨trivial, (callsIn_wide.2 (slots_any op dst src off imm _)).mono ?_⟩
        rintro e w2 ⟨rfl, hb2⟩
        have HJ2 := hide (hJ _ _ _ hJ' (.of_below hb2))
        have HK2 := hide (show KeepB n0 Bx W' w2 from .of_below hz hz2 hb2)
        have hz3 := hb2.size
        clear hb2
        gi_wp2
        go_roundw
        case rel =>
          exact ⟨k + slotsN op, pre ++ [(k, ⟨op, dst, src, off, imm⟩)], by omega, by go_num, by rw [List.append_assoc, ← HPRE.out, HN.out]; rfl, HJ2.out, HR'.out.below HK2.out.1, HK2.out.2.trans HB'.out, by omega, by omega⟩
        case measure => simp [intOf]; omega
      · gi_wp2
        refine bodyPost_ret (results_none rfl _ _ _) rfl ?_
        exact ⟨_, rfl, .inr ⟨_, hJx'⟩⟩
    · have hkm : fsts k false (l.drop k) = [] := fsts_end l k (by rw [HLL.out]; omega)
      have hpre := HPRE.out
      rw [hkm, List.append_nil] at hpre
      have hd : decide ((k : Int) < (m : Int)) = false := by simp; omega
      gi_wp2
      go_end0
      exact ⟨_, rfl, .inl ⟨pre, hpre, hJk⟩⟩
end Go.Proofs.Ytjnmfgkjeofneaa
