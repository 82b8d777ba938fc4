/-
  The slots of a program are gone through, up to the first that is not right.
-/
import Derived.Test.YtjndmpockfmenaaGreatS3
import Derived.Test.YtjndmpockfmenaaGreatRL
import Derived.Shelf.Abstract
import Derived.Shelf.RegionOpen
import Derived.OwnWalkIn
import Derived.TacticsInMore
import Derived.LoopNIn
import Derived.LoopIn
import Derived.RangeFuncCalls
namespace Go.Proofs.YtjndmpockfmenaaGreat
open Go.RowKit
set_option linter.unusedVariables false

theorem block_of_add (a : Addr) (n : Nat) : (a.add n).block = a.block := by unfold Addr.add; split <;> rfl
/-- A slice that reads as these slots; it lies below block B. -/
def Prg (w : World) (B : Nat) (A : Option Addr) (n : Nat) (l : List Ins) : Prop :=
  l.length = n ∧ (0 < n → ∃ ad, A = some ad ∧ ad.block < B ∧ ∀ i s, l[i]? = some s → ∀ j u, s.cells[j]? = some u → w.cell? (ad.add (i * 5 + j)) = some u)
def Right (s : Ins) : Prop := s.dst < 16 ∧ s.src < 16

theorem Prg.mono {w : World} {B B' : Nat} {A : Option Addr} {n : Nat} {l : List Ins} (h : Prg w B A n l) (hB : B ≤ B') : Prg w B' A n l :=
  ⟨h.1, fun hn => by
    obtain ⟨ad, e, hb, hc⟩ := h.2 hn
    exact ⟨ad, e, Nat.lt_of_lt_of_le hb hB, hc⟩⟩
theorem Prg.below {w w' : World} {B : Nat} {A : Option Addr} {n : Nat} {l : List Ins} (h : Prg w B A n l) (hb : Below B w w') : Prg w' B A n l :=
  ⟨h.1, fun hn => by
    obtain ⟨ad, e, hB, hc⟩ := h.2 hn
    refine ⟨ad, e, hB, fun i s hs j u hu => ?_⟩
    rw [← hc i s hs j u hu]
    exact hb.cell (by rw [block_of_add]; exact hB)⟩

theorem add_parts (a : Addr) (i j : Nat) (hj : 0 < j) : a.add (i + j) = { block := (a.add i).block, off := (a.add i).off + j } := by
  unfold Addr.add
  by_cases hi : i = 0
  · subst hi
    rw [if_neg (by omega), if_pos rfl]
    simp
  · rw [if_neg (by omega), if_neg hi]
    simp [Nat.add_assoc]
/-- The five cells of a program's slot. -/
theorem Prg.cells {w : World} {B : Nat} {A : Option Addr} {n : Nat} {l : List Ins} (h : Prg w B A n l) {k : Nat} (hk : k < n) : ∃ ad s, A = some ad ∧ ad.block < B ∧ l[k]? = some s ∧
    w.cell? (ad.add (k * 5)) = some (.int .u8 s.op) ∧ w.cell? { block := (ad.add (k * 5)).block, off := (ad.add (k * 5)).off + 1 } = some (.int .u8 s.dst) ∧
    w.cell? { block := (ad.add (k * 5)).block, off := (ad.add (k * 5)).off + 2 } = some (.int .u8 s.src) ∧ w.cell? { block := (ad.add (k * 5)).block, off := (ad.add (k * 5)).off + 3 } = some (.int .i16 s.off) ∧
    w.cell? { block := (ad.add (k * 5)).block, off := (ad.add (k * 5)).off + 4 } = some (.int .i32 s.imm) := by
  obtain ⟨ad, e, hB, hc⟩ := h.2 (by omega)
  have hl : l[k]? = some (l[k]'(by rw [h.1]; exact hk)) := List.getElem?_eq_getElem _
  refine ⟨ad, _, e, hB, hl, hc k _ hl 0 _ rfl, ?_, ?_, ?_, ?_⟩
  · rw [← add_parts _ _ _ (by omega)]; exact hc k _ hl 1 _ rfl
  · rw [← add_parts _ _ _ (by omega)]; exact hc k _ hl 2 _ rfl
  · rw [← add_parts _ _ _ (by omega)]; exact hc k _ hl 3 _ rfl
  · rw [← add_parts _ _ _ (by omega)]; exact hc k _ hl 4 _ rfl

theorem slots_any (A : Option Addr) (n c : Nat) (w : World) : Calls Tryz.prog 22 #[.slice A n c] w fun e w' =>
    e = .returned (.func (.func 35) #[] #[.pointer (some ⟨w.heap.size, 0, none⟩)]) ∧ w' = w.alloc (.cells #[.slice A n c] 28) := by
  have hmf : ∀ (fn : Fn) (first cap : Array Value) (w : World), (Instr.makeFunc fn first cap).run Tryz.prog w = .ok (.func fn first cap) w := fun _ _ _ _ => rfl
  go_enter Tryz.func22, Tryz.ntmps22
  go_wp2
  go_ret
  exact ⟨rfl, rfl⟩
set_option maxRecDepth 100000 in
set_option maxHeartbeats 1000000 in
theorem right_iter (n Bx n0 m c : Nat) (A : Option Addr) (l : List Ins) (w0 : World) (hbox : Boxed w0 Bx 28 (.slice A m c)) (hn0 : n0 ≤ w0.heap.size) (hp : Prg w0 n0 A m l) (hm : m ≤ 4096) (hf : ∀ s ∈ l, s.Fits) :
    Iter Fence.wide n Tryz.prog 35 #[.pointer (some ⟨Bx, 0, none⟩)] (fun s : Ins => #[.agg s.cells.toArray]) (fun _ => Below n0) (fun pre x => pre ++ [x] <+: l ∧ Right x) (fun xs => xs = l ∧ ∀ s ∈ l, Right s)
      (fun c _ => c = [{ v := .iface 30 (.int .i64 21), recovered := false }] ∧ ∃ s ∈ l, ¬ Right s) w0 := by
  intro lp J W hW hJ hY h0
  have hc0 : W.cell? ⟨Bx, 0, none⟩ = some (.slice A m c) := (hW.cell (p := ⟨Bx, 0, none⟩) hbox.lt).trans hbox.cell
  refine callsIn_of_wp Tryz.func35 rfl trivial ?_ rfl
  simp only [Tryz.ntmps35, List.size_toArray, List.length_cons, List.length_nil, Nat.reduceAdd, Nat.reduceSub, Array.replicate_succ, Array.replicate_zero, List.push_toArray, List.append_toArray, List.nil_append, List.cons_append]
  gi_wp2
  gi_loopw [7] (fun p wr => ∃ k : Nat, k ≤ m ∧ p = .int .i64 k ∧ J (l.take k) wr ∧ Prg wr n0 A m l ∧ n0 ≤ wr.heap.size ∧ W.heap.size ≤ wr.heap.size ∧ ∀ s ∈ l.take k, Right s) (fun p _ => m - (intOf p).toNat)
  case atStart =>
    exact ⟨0, Nat.zero_le _, rfl, by simpa using h0, hp.below (hW.mono hn0), Nat.le_trans hn0 hW.size, Nat.le_refl _, by simp⟩
  case round =>
    obtain ⟨k, hk, rfl, hJk, hpk, hsz, hws, hr⟩ := hrel
    by_cases hlt : k < m
    · obtain ⟨ad, ⟨op, dst, src, off, imm⟩, rfl, hblk, hl, c0, c1, c2, c3, c4⟩ := hpk.cells hlt
      have HP := hide hpk
      have HL := hide hl
      have HR := hide hr
      have hkl : k < l.length := by rw [hpk.1]; exact hlt
      clear hpk hl hr
      by_cases hd : dst ≤ 15
      · by_cases hs : src ≤ 15
        · have hx : Right ⟨op, dst, src, off, imm⟩ := ⟨by show dst < 16; omega, by show src < 16; omega⟩
          have htk : l.take k ++ [⟨op, dst, src, off, imm⟩] = l.take (k + 1) := by rw [List.take_add_one, HL.out]; rfl
          obtain ⟨fn, tmps, assign, body, hy, hR⟩ := hY (l.take k) ⟨op, dst, src, off, imm⟩ (wr.alloc (.cells #[.int .u8 op, .int .u8 dst, .int .u8 src, .int .i16 off, .int .i32 imm] 27))
            (hJ _ _ _ hJk (.of_below ((Below.refl _ wr).alloc (Nat.le_refl _) _))) ⟨by rw [htk]; exact List.take_prefix _ _, hx⟩ (Nat.le_trans hws (by rw [World.size_alloc]; omega))
          simp only [Ins.cells] at hy
          have HT := hide htk
          have HX := hide hx
          clear htk hx
          gi_wp2_with (refine ⟨trivial, fun h => by simp [Fence.wide] at h, (callsIn_wide.2 (demand_yes _ _)).mono ?_⟩; rintro e w' ⟨rfl, rfl⟩)
          refine ⟨fun h => by simp [Fence.wide] at h, hR.mono ?_⟩
          rintro e W' ⟨rfl, hJ', hs', hk'⟩
          gi_wp2
          go_roundw
          case rel =>
            refine ⟨k + 1, by omega, by go_num, by rw [← HT.out]; exact hJ', (HP.out.below ((Below.refl _ wr).alloc hsz _)).below hk', Nat.le_trans (Nat.le_trans hsz (by rw [World.size_alloc]; omega)) hs', Nat.le_trans (Nat.le_trans hws (by rw [World.size_alloc]; omega)) hs', ?_⟩
            intro s hs
            rw [← HT.out, List.mem_append] at hs
            rcases hs with hs | hs
            · exact HR.out s hs
            · simp only [List.mem_singleton] at hs
              subst hs
              exact HX.out
          case measure => clear hk' ; simp only [intOf, Int.toNat_natCast]; omega
        · gi_wp2_with (refine ⟨trivial, fun h => by simp [Fence.wide] at h, (callsIn_wide.2 (demand_no _ _)).mono ?_⟩; rintro e w' ⟨rfl, rfl⟩)
          exact ⟨rfl, .inr ⟨_, _, rfl, ⟨rfl, _, List.mem_of_getElem? HL.out, fun h => by have h2 : src < 16 := h.2; omega⟩, hJ _ _ _ hJk (.of_below ((Below.refl _ wr).alloc (Nat.le_refl _) _))⟩⟩
      · have hd' : decide (dst ≤ 15) = false := by simpa using hd
        gi_wp2_with (refine ⟨trivial, fun h => by simp [Fence.wide] at h, (callsIn_wide.2 (demand_no _ _)).mono ?_⟩; rintro e w' ⟨rfl, rfl⟩)
        exact ⟨rfl, .inr ⟨_, _, rfl, ⟨rfl, _, List.mem_of_getElem? HL.out, fun h => by have h2 : dst < 16 := h.1; omega⟩, hJ _ _ _ hJk (.of_below ((Below.refl _ wr).alloc (Nat.le_refl _) _))⟩⟩
    · have hkm : l.take k = l := List.take_of_length_le (by have := hpk.1; omega)
      rw [hkm] at hJk hr
      gi_wp2
      go_end0
      exact .inl ⟨_, _, rfl, ⟨rfl, hr⟩, hJk⟩
end Go.Proofs.YtjndmpockfmenaaGreat
