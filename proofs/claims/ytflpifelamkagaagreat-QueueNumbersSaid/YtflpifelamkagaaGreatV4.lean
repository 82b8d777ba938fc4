/-
  The rows that are left, the next one first; where the next one stands.
-/
import Derived.Test.YtflpifelamkagaaGreatV3
namespace Go.Proofs.YtflpifelamkagaaGreat
open Go.RowKit
set_option linter.unusedVariables false
attribute [local go_sem] Oper.semAt_some

def nx1 (st : Bool) : FuncId := if st then 41 else 40
theorem seq_any (st : Bool) (A : Option Addr) (n c : Nat) (w : World) : Calls Tryz.prog (nx st) #[.slice A n c] w fun e w' => e = .returned (.func (.func (nx1 st)) #[] #[.pointer (some ⟨w.heap.size, 0, none⟩)]) ∧ w' = w.alloc (.cells #[.slice A n c] 57) := by
  cases st
  · show Calls Tryz.prog 24 _ _ _
    go_enter Tryz.func24, Tryz.ntmps24
    go_wp2
    go_ret
    exact ⟨rfl, rfl⟩
  · show Calls Tryz.prog 25 _ _ _
    go_enter Tryz.func25, Tryz.ntmps25
    go_wp2
    go_ret
    exact ⟨rfl, rfl⟩
set_option maxRecDepth 100000 in
theorem left_any (b n c : Nat) (st : Bool) (A : Option Addr) (w : World) (h3 : w.cell? ⟨b, 3, none⟩ = some (.slice A n c)) (h4 : w.cell? ⟨b, 4, none⟩ = some (.func (.func (nx st)) #[] #[])) :
    Calls Tryz.prog 44 #[.pointer (some ⟨b, 3, none⟩)] w fun e w' => e = .returned (.func (.func (nx1 st)) #[] #[.pointer (some ⟨w.heap.size, 0, none⟩)]) ∧ w' = w.drew.alloc (.cells #[.slice A n c] 57) := by
  have HS := hide (seq_any st A n c w.drew)
  have hE : ∀ args (W : World), (callFunc (nx st) args).run Tryz.prog W = .ok (.enter (nx st) args) W := by
    cases st
    · exact enters_of Tryz.func24 (by kernel_rfl) rfl
    · exact enters_of Tryz.func25 (by kernel_rfl) rfl
  generalize nx st = F at *
  generalize nx1 st = F1 at *
  go_enter Tryz.func44, Tryz.ntmps44
  go_wp2_with fail
  go_region_with (refine HS.out.mono ?_; rintro e w' ⟨rfl, rfl⟩)
  all_goals
    go_wp2_with fail
    go_ret
    exact ⟨rfl, rfl⟩
/-- All blocks below K lie as they lay. -/
def KeepA (K : Nat) (W W' : World) : Prop := W.heap.size ≤ W'.heap.size ∧ ∀ k, k < K → W'.heap[k]? = W.heap[k]?
def rowI (sz : Nat) (L : List QR) (i : Nat) : Value := QR.sl sz (L.getD i ⟨0, 0, []⟩)
/-- Which place comes behind pre. -/
def NxI (st : Bool) (n : Nat) (pre : List Nat) (i : Nat) : Prop := i < n ∧ (if st = true then i + pre.length + 1 = n else i = pre.length)
set_option maxRecDepth 100000 in
set_option maxHeartbeats 1000000 in
theorem seq_iter (k0 Bx sz c : Nat) (st : Bool) (A : Option Addr) (L : List QR) (w0 : World) (hbox : Boxed w0 Bx 57 (.slice A L.length c)) (hrd : Rd w0 w0.heap.size 1 A L.length (L.map (QR.sl sz))) (hn : L.length ≤ 1024) :
    IterX Fence.wide k0 Tryz.prog (nx1 st) #[.pointer (some ⟨Bx, 0, none⟩)] (fun i : Nat => #[.int .i64 i, rowI sz L i]) (fun _ => KeepA w0.heap.size) (NxI st L.length) (fun xs => xs.length = L.length) w0 := by
  intro lp J Jx W hW hJ hJx hY h0
  have hbl := hbox.lt
  have HW : Hid (∀ X : World, (∀ k, k < w0.heap.size → X.heap[k]? = w0.heap[k]?) → X.cell? ⟨Bx, 0, none⟩ = some (.slice A L.length c) ∧ ∀ i, i < L.length → ∃ (ad : Addr) (r : QR), A = some ad ∧ rowI sz L i = .slice (some ⟨r.g, 0, none⟩) sz r.c ∧ X.cell? (ad.add i) = some (.slice (some ⟨r.g, 0, none⟩) sz r.c)) := hide (fun X hX => by
    refine ⟨(World.cell?_of_block (hX Bx hbl)).trans hbox.cell, fun i hi => ?_⟩
    obtain ⟨ad, e, hlt, hc⟩ := hrd.2 (by omega)
    have hr : L[i]? = some L[i] := List.getElem?_eq_getElem hi
    refine ⟨ad, L[i], e, by simp [rowI, hr, QR.sl], ?_⟩
    rw [World.cell?_of_block (w := w0) (a := ad.add i) (by rw [block_add]; exact hX _ hlt)]
    exact hc i _ (by rw [List.getElem?_map, hr]; rfl))
  have HWK : Hid (∀ k, k < w0.heap.size → W.heap[k]? = w0.heap[k]?) := hide (fun k hk => hW.block k hk)
  clear hbox hrd
  cases st
  · show CallsIn _ _ _ 40 _ _ _
    refine callsIn_of_wp Tryz.func40 rfl trivial ?_ rfl
    simp only [Tryz.ntmps40, List.size_toArray, List.length_cons, List.length_nil, Nat.reduceAdd, Nat.reduceSub, Array.replicate_succ, Array.replicate_zero, List.push_toArray, List.append_toArray, List.nil_append, List.cons_append]
    obtain ⟨k1, _⟩ := HW.out W HWK.out
    gi_wp2
    clear k1
    gi_loopw [7] (fun q wr => ∃ (k : Nat) (pre : List Nat), k ≤ L.length ∧ pre.length = k ∧ q = .int .i64 k ∧ J pre wr ∧ (∀ k, k < w0.heap.size → wr.heap[k]? = w0.heap[k]?) ∧ W.heap.size ≤ wr.heap.size) (fun q _ => L.length - (intOf q).toNat)
    case atStart => exact ⟨0, [], Nat.zero_le _, rfl, rfl, h0, HWK.out, Nat.le_refl _⟩
    case round =>
      obtain ⟨k, pre, hk, hp, rfl, hJk, hX, hws⟩ := hrel
      have HX := hide hX
      obtain ⟨k1, k2⟩ := HW.out wr hX
      clear hX
      by_cases hlt : k < L.length
      · obtain ⟨ad, r, rfl, hrow, k3⟩ := k2 k hlt
        have q0 : (0 : Int) ≤ (k : Int) := by omega
        have q1 : (k : Int) < (L.length : Int) := by omega
        obtain ⟨fn, tmps, assign, body, hy, hR⟩ := hY pre k wr hJk ⟨hlt, hp.symm⟩ hws
        rw [hrow] at hy
        have HP := hide hp
        clear k2 hp hrow
        gi_wp2
        refine ⟨fun h => by simp [Fence.wide] at h, hR.mono ?_⟩
        rintro e W' (⟨rfl, hJ', hs', hk'⟩ | ⟨rfl, hJx'⟩)
        · gi_wp2
          go_roundw
          case rel => exact ⟨k + 1, pre ++ [k], by omega, by rw [List.length_append, HP.out]; rfl, by go_num, hJ', fun g hg => (hk'.2 g hg).trans (HX.out g hg), Nat.le_trans hws hs'⟩
          case measure => simp only [intOf, Int.toNat_natCast]; omega
        · gi_wp2
          refine bodyPost_ret (results_none rfl _ _ _) rfl ?_
          exact ⟨_, rfl, .inr ⟨_, hJx'⟩⟩
      · obtain rfl : k = L.length := by omega
        clear k2
        gi_wp2
        go_end0
        exact ⟨_, rfl, .inl ⟨_, hp, hJk⟩⟩
  · show CallsIn _ _ _ 41 _ _ _
    refine callsIn_of_wp Tryz.func41 rfl trivial ?_ rfl
    simp only [Tryz.ntmps41, List.size_toArray, List.length_cons, List.length_nil, Nat.reduceAdd, Nat.reduceSub, Array.replicate_succ, Array.replicate_zero, List.push_toArray, List.append_toArray, List.nil_append, List.cons_append]
    obtain ⟨k1, _⟩ := HW.out W HWK.out
    gi_wp2
    clear k1
    gi_loopw [3] (fun q wr => ∃ (k : Nat) (pre : List Nat), k ≤ L.length ∧ pre.length + k = L.length ∧ q = .int .i64 ((k : Int) - 1) ∧ J pre wr ∧ (∀ k, k < w0.heap.size → wr.heap[k]? = w0.heap[k]?) ∧ W.heap.size ≤ wr.heap.size) (fun q _ => (intOf q + 1).toNat)
    case atStart => exact ⟨L.length, [], Nat.le_refl _, by simp, rfl, h0, HWK.out, Nat.le_refl _⟩
    case round =>
      obtain ⟨k, pre, hk, hp, rfl, hJk, hX, hws⟩ := hrel
      have HX := hide hX
      obtain ⟨k1, k2⟩ := HW.out wr hX
      clear hX
      cases k with
      | succ k =>
        obtain ⟨ad, r, rfl, hrow, k3⟩ := k2 k (by omega)
        rw [show ((k + 1 : Nat) : Int) - 1 = (k : Int) by omega]
        have q0 : (0 : Int) ≤ (k : Int) := by omega
        have q1 : (k : Int) < (L.length : Int) := by omega
        have q2 : (k : Int) ≤ 1024 := by omega
        obtain ⟨fn, tmps, assign, body, hy, hR⟩ := hY pre k wr hJk ⟨by omega, by rw [if_pos rfl]; omega⟩ hws
        rw [hrow] at hy
        have HP := hide hp
        clear k2 hp hrow
        gi_wp2
        refine ⟨fun h => by simp [Fence.wide] at h, hR.mono ?_⟩
        rintro e W' (⟨rfl, hJ', hs', hk'⟩ | ⟨rfl, hJx'⟩)
        · gi_wp2
          go_roundw
          case rel => exact ⟨k, pre ++ [k], by omega, by rw [List.length_append]; have := HP.out; simp; omega, rfl, hJ', fun g hg => (hk'.2 g hg).trans (HX.out g hg), Nat.le_trans hws hs'⟩
          case measure => simp only [intOf]; omega
        · gi_wp2
          refine bodyPost_ret (results_none rfl _ _ _) rfl ?_
          exact ⟨_, rfl, .inr ⟨_, hJx'⟩⟩
      | zero =>
        rw [show ((0 : Nat) : Int) - 1 = -1 by omega]
        clear k2
        gi_wp2
        go_end0
        exact ⟨_, rfl, .inl ⟨_, hp, hJk⟩⟩
end Go.Proofs.YtflpifelamkagaaGreat
