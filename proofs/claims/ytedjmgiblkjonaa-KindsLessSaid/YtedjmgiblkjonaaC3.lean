/-
  The fields of a type, gone through.
-/
import Derived.Test.YtedjmgiblkjonaaC2
namespace Go.Proofs.Ytedjmgiblkjonaa
open Go.RowKit Go.Maps
set_option linter.unusedVariables false
attribute [local go_sem] Oper.semAt_some

/-- A field. -/
structure FieldM where
  off : Int
  size : Int
  kind : Int
  write : Bool
def FieldM.cells (f : FieldM) : List Value := [.int .i64 f.off, .int .i64 f.size, .int .u8 f.kind, .bool f.write]
def FieldM.v (f : FieldM) : Value := .agg #[.int .i64 f.off, .int .i64 f.size, .int .u8 f.kind, .bool f.write]
def fcells (l : List FieldM) : List Value := l.flatMap FieldM.cells
theorem Rd.fcells_len {w : World} {B n : Nat} {A : Option Addr} {l : List FieldM} (h : Rd w B 4 A n (fcells l)) : l.length = n := by have := h.1; unfold fcells at this; rw [flat_length FieldM.cells 4 (fun _ => rfl)] at this; omega
theorem Rd.field {w : World} {B n k : Nat} {A : Option Addr} {l : List FieldM} (h : Rd w B 4 A n (fcells l)) (hk : k < n) : ∃ ad s, A = some ad ∧ ad.block < B ∧ l[k]? = some s ∧
    w.cell? (ad.add (k * 4)) = some (.int .i64 s.off) ∧ w.cell? { block := (ad.add (k * 4)).block, off := (ad.add (k * 4)).off + 1 } = some (.int .i64 s.size) ∧
    w.cell? { block := (ad.add (k * 4)).block, off := (ad.add (k * 4)).off + 2 } = some (.int .u8 s.kind) ∧ w.cell? { block := (ad.add (k * 4)).block, off := (ad.add (k * 4)).off + 3 } = some (.bool s.write) := by
  obtain ⟨ad, e, hb, hc⟩ := h.2 (by omega)
  have hll : l.length = n := h.fcells_len
  have hl : l[k]? = some (l[k]'(by omega)) := List.getElem?_eq_getElem _
  have hx : ∀ j, j < 4 → ∀ u, (l[k]'(by omega)).cells[j]? = some u → w.cell? (ad.add (k * 4 + j)) = some u := fun j hj u hu => by
    refine hc _ u ?_
    unfold fcells
    rw [flat_at FieldM.cells 4 (fun _ => rfl) l k j hj, hl]
    exact hu
  refine ⟨ad, _, e, hb, hl, hx 0 (by omega) _ rfl, ?_, ?_, ?_⟩
  · rw [← add_parts _ _ _ (by omega)]; exact hx 1 (by omega) _ rfl
  · rw [← add_parts _ _ _ (by omega)]; exact hx 2 (by omega) _ rfl
  · rw [← add_parts _ _ _ (by omega)]; exact hx 3 (by omega) _ rfl
theorem yield_two {e : Ending} {A B : Prop} (h : (e = .returned (.bool true) ∧ A) ∨ (e = .returned (.bool false) ∧ B)) : ∃ bv, e = .returned (.bool bv) ∧ ((bv = true ∧ A) ∨ (bv = false ∧ B)) := by
  rcases h with ⟨h1, h2⟩ | ⟨h1, h2⟩
  · exact ⟨true, h1, .inl ⟨rfl, h2⟩⟩
  · exact ⟨false, h1, .inr ⟨rfl, h2⟩⟩
theorem aheadField_any (A : Option Addr) (n c : Nat) (w : World) : Calls Try.prog 104 #[.slice A n c] w fun e w' =>
    e = .returned (.func (.func 107) #[] #[.pointer (some ⟨w.heap.size, 0, none⟩)]) ∧ w.alloc (.cells #[.slice A n c] 59) = w' := by
  have hmf : ∀ (fn : Fn) (first cap : Array Value) (w : World), (Instr.makeFunc fn first cap).run Try.prog w = .ok (.func fn first cap) w := fun _ _ _ _ => rfl
  go_enter Try.func104, Try.ntmps104
  go_wp2
  go_ret
  exact ⟨rfl, rfl⟩
set_option maxRecDepth 100000 in
set_option maxHeartbeats 4000000 in
theorem field_iter (n : Nat) (hn : 1 ≤ n) (Bx m c n0 : Nat) (A : Option Addr) (l : List FieldM) (w0 : World) (hbox : Boxed w0 Bx 59 (.slice A m c)) (hn0 : n0 ≤ w0.heap.size) (hp : Rd w0 n0 4 A m (fcells l)) (hm : m ≤ 1000000) (hmc : m ≤ c) (hc : c ≤ maxLen) :
    IterX Fence.wide n Try.prog 107 #[.pointer (some ⟨Bx, 0, none⟩)] (fun p : Nat × FieldM => #[.slice A p.1 c, p.2.v]) (fun _ => KeepB n0 Bx) (fun pre x => pre ++ [x] <+: placed 0 l) (fun xs => xs = placed 0 l) w0 := by
  intro lp J Jx W hW hJ hJx hY h0
  have hll : l.length = m := hp.fcells_len
  have HLL := hide hll
  unfold maxLen at hc
  clear hll
  have hW0 : Bx < w0.heap.size := hbox.lt
  have hbW : Boxed W Bx 59 (.slice A m c) := (hW.block Bx hW0).trans hbox
  have cb := hbW.cell
  have hbl0 := hbW.lt
  clear hbW
  refine callsIn_of_wp Try.func107 rfl trivial ?_ rfl
  simp only [Try.ntmps107, List.size_toArray, List.length_cons, List.length_nil, Nat.reduceAdd, Nat.reduceSub, Array.replicate_succ, Array.replicate_zero, List.push_toArray, List.append_toArray, List.nil_append, List.cons_append]
  gi_wp2
  gi_loopw [7] (fun p wr => ∃ (k : Nat) (pre : List (Nat × FieldM)), k ≤ m ∧ p = .int .i64 k ∧ pre ++ placed k (l.drop k) = placed 0 l ∧ J pre wr ∧ Rd wr n0 4 A m (fcells l) ∧ Boxed wr Bx 59 (.slice A m c) ∧ n0 ≤ wr.heap.size ∧ W.heap.size ≤ wr.heap.size) (fun p _ => m - (intOf p).toNat)
  case atStart =>
    exact ⟨0, [], by omega, rfl, by simp, h0, hp.below (hW.mono hn0), (hW.block Bx hW0).trans hbox, Nat.le_trans hn0 hW.size, Nat.le_refl _⟩
  case round =>
    obtain ⟨k, pre, hk, rfl, hpre, hJk, hpk, hbx, hsz, hws⟩ := hrel
    have cb2 := hbx.cell
    have hbl := hbx.lt
    have HP := hide hpk
    have HPRE := hide hpre
    clear hpre cb
    by_cases hlt : k < m
    · obtain ⟨ad, b, rfl, hab, hl, c0, c1, c2, c3⟩ := hpk.field hlt
      have HN := hide (placed_next l k _ hl)
      have HPX : Hid (pre ++ [(k, b)] <+: placed 0 l) := by
        rw [← HPRE.out, HN.out]
        exact ⟨_, by rw [List.append_assoc]; rfl⟩
      have HBW : Hid (Below wr.heap.size wr ((wr.alloc (.cells #[.int .i64 b.off, .int .i64 b.size, .int .u8 b.kind, .bool b.write] 65)).drew)) := hide (below1 wr _).drew
      obtain ⟨fn, tmps, assign, body, hy, hR⟩ := hY pre (k, b) ((wr.alloc (.cells #[.int .i64 b.off, .int .i64 b.size, .int .u8 b.kind, .bool b.write] 65)).drew) (hJ _ _ _ hJk (.of_below (HBW.out.mono (Nat.le_refl _)))) HPX.out (Nat.le_trans hws HBW.out.size)
      simp only [FieldM.v] at hy
      have HB := hide hbx
      have HL := hide hl
      clear hpk hl hbx
      have hmo : Try.prog.follows .mixedOrders = true := by kernel_rfl
      gi_wp2
      gi_region_with_o (refine hR.mono ?_; rintro e W' hor; obtain ⟨bv, he, hor2⟩ := yield_two hor; clear hor; subst he; have HOR := hide hor2; clear hor2)
      all_goals
        rcases HOR.out with ⟨rfl, hJ', hs', hk'⟩ | ⟨rfl, hJx'⟩
        · have hkb : KeepB n0 Bx wr W' := (KeepB.of_below hsz hbl HBW.out).trans hk'
          have hr' := HP.out.below hkb.1
          have hb' : Boxed W' Bx 59 (.slice (some ad) m c) := hkb.2.trans HB.out
          have HR' := hide hr'
          have HB' := hide hb'
          have hz : n0 ≤ W'.heap.size := Nat.le_trans (Nat.le_trans hsz HBW.out.size) hs'
          have hw' : W.heap.size ≤ W'.heap.size := Nat.le_trans (Nat.le_trans hws HBW.out.size) hs'
          clear hr' hb' hk' hkb HOR
          gi_wp2
          go_roundw
          case rel =>
            exact ⟨k + 1, pre ++ [(k, b)], by omega, by go_num, by rw [List.append_assoc, ← HPRE.out, HN.out]; rfl, hJ', HR'.out, HB'.out, hz, hw'⟩
          case measure => simp [intOf]; omega
        · clear HOR
          gi_wp2
          refine bodyPost_ret (results_none rfl _ _ _) rfl ?_
          exact ⟨_, rfl, .inr ⟨_, hJx'⟩⟩
    · have hkm : placed k (l.drop k) = [] := placed_end l k (by rw [HLL.out]; omega)
      have hpre := HPRE.out
      rw [hkm, List.append_nil] at hpre
      gi_wp2
      go_end0
      exact ⟨_, rfl, .inl ⟨pre, hpre, hJk⟩⟩
end Go.Proofs.Ytedjmgiblkjonaa
