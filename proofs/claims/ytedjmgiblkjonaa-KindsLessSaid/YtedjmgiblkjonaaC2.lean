/-
  Rows gone through, each element with all those ahead of it.
-/
import Derived.Test.YtedjmgiblkjonaaC1
import Derived.Shelf.RegionOpen
namespace Go.Proofs.Ytedjmgiblkjonaa
open Go.RowKit Go.Maps
set_option linter.unusedVariables false
attribute [local go_sem] Oper.semAt_some

/-- The elements of a row from place k on, with their places. -/
def placed {α : Type} : Nat → List α → List (Nat × α)
  | _, [] => []
  | k, x :: r => (k, x) :: placed (k + 1) r
theorem placed_next {α : Type} (l : List α) (k : Nat) (x : α) (h : l[k]? = some x) : placed k (l.drop k) = (k, x) :: placed (k + 1) (l.drop (k + 1)) := by
  obtain ⟨hk, hs⟩ := List.getElem?_eq_some_iff.1 h
  rw [List.drop_eq_getElem_cons hk, hs]
  rfl
theorem placed_end {α : Type} (l : List α) (k : Nat) (h : l.length ≤ k) : placed k (l.drop k) = [] := by rw [List.drop_eq_nil_of_le h]; rfl
theorem placed_mem {α : Type} : ∀ (l : List α) (k : Nat) (p : Nat × α), p ∈ placed k l → k ≤ p.1 ∧ l[p.1 - k]? = some p.2
  | [], k, p, h => by simp [placed] at h
  | x :: r, k, p, h => by
    rw [placed, List.mem_cons] at h
    rcases h with rfl | h
    · simp
    · obtain ⟨h1, h2⟩ := placed_mem r (k + 1) p h
      refine ⟨by omega, ?_⟩
      rw [show p.1 - k = (p.1 - (k + 1)) + 1 by omega, List.getElem?_cons_succ]
      exact h2
theorem prefix_mem {α : Type} {l pre : List α} {x : α} (h : pre ++ [x] <+: l) : x ∈ l := h.sublist.subset (by simp)
/-- What is gone through so far is what stands ahead. -/
theorem placed_pre {α : Type} {l : List α} {pre : List (Nat × α)} {p : Nat × α} (h : pre ++ [p] <+: placed 0 l) : pre = placed 0 (l.take p.1) ∧ l[p.1]? = some p.2 := by
  have gen : ∀ (l : List α) (k : Nat) (pre : List (Nat × α)), pre ++ [p] <+: placed k l → k ≤ p.1 ∧ pre = placed k (l.take (p.1 - k)) ∧ l[p.1 - k]? = some p.2 := by
    intro l
    induction l with
    | nil => intro k pre h; exact absurd (prefix_mem h) (by simp [placed])
    | cons x r ih =>
      intro k pre h
      cases pre with
      | nil =>
        simp only [List.nil_append, placed, List.cons_prefix_cons] at h
        obtain ⟨rfl, _⟩ := h
        simp [placed]
      | cons q pre =>
        simp only [List.cons_append, placed, List.cons_prefix_cons] at h
        obtain ⟨rfl, h⟩ := h
        obtain ⟨h1, h2, h3⟩ := ih (k + 1) pre h
        refine ⟨by omega, ?_, ?_⟩
        · rw [show p.1 - k = (p.1 - (k + 1)) + 1 by omega, List.take_succ_cons, placed, h2]
        · rw [show p.1 - k = (p.1 - (k + 1)) + 1 by omega, List.getElem?_cons_succ]; exact h3
  obtain ⟨_, h2, h3⟩ := gen l 0 pre h
  simpa using ⟨h2, h3⟩

theorem aheadMk_any (A : Option Addr) (n c : Nat) (w : World) : Calls Try.prog 106 #[.slice A n c] w fun e w' =>
    e = .returned (.func (.func 108) #[] #[.pointer (some ⟨w.heap.size, 0, none⟩)]) ∧ w.alloc (.cells #[.slice A n c] 41) = w' := by
  have hmf : ∀ (fn : Fn) (first cap : Array Value) (w : World), (Instr.makeFunc fn first cap).run Try.prog w = .ok (.func fn first cap) w := fun _ _ _ _ => rfl
  go_enter Try.func106, Try.ntmps106
  go_wp2
  go_ret
  exact ⟨rfl, rfl⟩
set_option maxRecDepth 100000 in
set_option maxHeartbeats 1000000 in
theorem mk_iter (n : Nat) (hn : 1 ≤ n) (Bx m c n0 : Nat) (A : Option Addr) (l : List Int) (w0 : World) (hbox : Boxed w0 Bx 41 (.slice A m c)) (hn0 : n0 ≤ w0.heap.size) (hp : Rd w0 n0 1 A m (mks l)) (hm : m ≤ 1000000) (hmc : m ≤ c) (hc : c ≤ maxLen) :
    IterX Fence.wide n Try.prog 108 #[.pointer (some ⟨Bx, 0, none⟩)] (fun p : Nat × Int => #[.slice A p.1 c, .int .u8 p.2]) (fun _ => KeepB n0 Bx) (fun pre x => pre ++ [x] <+: placed 0 l) (fun xs => xs = placed 0 l) w0 := by
  intro lp J Jx W hW hJ hJx hY h0
  have hll : l.length = m := hp.mks_len
  have HLL := hide hll
  unfold maxLen at hc
  clear hll
  have hW0 : Bx < w0.heap.size := hbox.lt
  have hbW : Boxed W Bx 41 (.slice A m c) := (hW.block Bx hW0).trans hbox
  have cb := hbW.cell
  have hbl0 := hbW.lt
  clear hbW
  refine callsIn_of_wp Try.func108 rfl trivial ?_ rfl
  simp only [Try.ntmps108, List.size_toArray, List.length_cons, List.length_nil, Nat.reduceAdd, Nat.reduceSub, Array.replicate_succ, Array.replicate_zero, List.push_toArray, List.append_toArray, List.nil_append, List.cons_append]
  gi_wp2
  gi_loopw [7] (fun p wr => ∃ (k : Nat) (pre : List (Nat × Int)), k ≤ m ∧ p = .int .i64 k ∧ pre ++ placed k (l.drop k) = placed 0 l ∧ J pre wr ∧ Rd wr n0 1 A m (mks l) ∧ Boxed wr Bx 41 (.slice A m c) ∧ n0 ≤ wr.heap.size ∧ W.heap.size ≤ wr.heap.size) (fun p _ => m - (intOf p).toNat)
  case atStart =>
    exact ⟨0, [], by omega, rfl, by simp, h0, hp.below (hW.mono hn0), (hW.block Bx hW0).trans hbox, Nat.le_trans hn0 hW.size, Nat.le_refl _⟩
  case round =>
    obtain ⟨k, pre, hk, rfl, hpre, hJk, hpk, hbx, hsz, hws⟩ := hrel
    have cb2 := hbx.cell
    have hbl := hbx.lt
    have HP := hide hpk
    have HPRE := hide hpre
    clear hpre cb
    by_cases hlt : k < m
    · obtain ⟨ad, b, rfl, hl, c0⟩ := hpk.mk hlt
      have HN := hide (placed_next l k _ hl)
      have HPX : Hid (pre ++ [(k, b)] <+: placed 0 l) := by
        rw [← HPRE.out, HN.out]
        exact ⟨_, by rw [List.append_assoc]; rfl⟩
      obtain ⟨fn, tmps, assign, body, hy, hR⟩ := hY pre (k, b) wr hJk HPX.out hws
      have HB := hide hbx
      have HL := hide hl
      clear hpk hl hbx
      gi_wp2_with fail
      refine hR.mono ?_
      rintro e W' (⟨rfl, hJ', hs', hk'⟩ | ⟨rfl, hJx'⟩)
      · have hr' := HP.out.below hk'.1
        have hb' : Boxed W' Bx 41 (.slice (some ad) m c) := hk'.2.trans HB.out
        have HR' := hide hr'
        have HB' := hide hb'
        have hz : n0 ≤ W'.heap.size := Nat.le_trans hsz hs'
        clear hr' hb' hk'
        gi_wp2
        go_roundw
        case rel =>
          exact ⟨k + 1, pre ++ [(k, b)], by omega, by go_num, by rw [List.append_assoc, ← HPRE.out, HN.out]; rfl, hJ', HR'.out, HB'.out, by omega, by omega⟩
        case measure => simp [intOf]; omega
      · gi_wp2
        refine bodyPost_ret (results_none rfl _ _ _) rfl ?_
        exact ⟨_, rfl, .inr ⟨_, hJx'⟩⟩
    · have hkm : placed k (l.drop k) = [] := placed_end l k (by rw [HLL.out]; omega)
      have hpre := HPRE.out
      rw [hkm, List.append_nil] at hpre
      gi_wp2
      go_end0
      exact ⟨_, rfl, .inl ⟨pre, hpre, hJk⟩⟩
end Go.Proofs.Ytedjmgiblkjonaa
