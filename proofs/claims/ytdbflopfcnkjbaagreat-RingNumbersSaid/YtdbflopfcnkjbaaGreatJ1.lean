/-
  The links are gone through; what all records take; what is left.
-/
import Derived.Test.YtdbflopfcnkjbaaGreatJ0
import Derived.Test.YtdbflopfcnkjbaaGreatRS
import Derived.Test.YtdbflopfcnkjbaaGreatRTW
import Derived.Test.YtdbflopfcnkjbaaGreatAP4
import Derived.Deep.RegionLaw
import Derived.RangeFuncNested
import Derived.RangeFuncBox
namespace Go.Proofs.YtdbflopfcnkjbaaGreat
open Go.RowKit Go.Maps
set_option linter.unusedVariables false
set_option linter.unusedSimpArgs false
attribute [local go_sem] Oper.semAt_some

theorem lneq_some (a : Addr) (w : World) : (binOp .neq 51 (.pointer (some a)) (.pointer none)).run Tryz.prog w = .ok (.bool true) w := by
  have h : ∀ d : Nat, (Op.equalIn (d + 1) 51 (.pointer (some a)) (.pointer none)).run Tryz.prog w = .ok false w := fun d => by
    simp [Op.equalIn, run_underlying Tryz.underlying51]
  simp only [binOp]
  simp [Op.equal, Op.maxDepth, h 9999]
theorem lneq_none (w : World) : (binOp .neq 51 (.pointer none) (.pointer none)).run Tryz.prog w = .ok (.bool false) w := by
  have h : ∀ d : Nat, (Op.equalIn (d + 1) 51 (.pointer none) (.pointer none)).run Tryz.prog w = .ok true w := fun d => by
    simp [Op.equalIn, run_underlying Tryz.underlying51]
  simp only [binOp]
  simp [Op.equal, Op.maxDepth, h 9999]
theorem leql_some (a : Addr) (w : World) : (binOp .eql 51 (.pointer (some a)) (.pointer none)).run Tryz.prog w = .ok (.bool false) w := by
  have h : ∀ d : Nat, (Op.equalIn (d + 1) 51 (.pointer (some a)) (.pointer none)).run Tryz.prog w = .ok false w := fun d => by
    simp [Op.equalIn, run_underlying Tryz.underlying51]
  simp only [binOp]
  simp [Op.equal, Op.maxDepth, h 9999]
theorem leql_none (w : World) : (binOp .eql 51 (.pointer none) (.pointer none)).run Tryz.prog w = .ok (.bool true) w := by
  have h : ∀ d : Nat, (Op.equalIn (d + 1) 51 (.pointer none) (.pointer none)).run Tryz.prog w = .ok true w := fun d => by
    simp [Op.equalIn, run_underlying Tryz.underlying51]
  simp only [binOp]
  simp [Op.equal, Op.maxDepth, h 9999]
theorem takes_any (bx n c : Nat) (A : Option Addr) (w : World) (h : w.cell? ⟨bx, 0, none⟩ = some (.int .i64 8)) (hn : n ≤ 140737488351232) :
    Calls Tryz.prog 35 #[.slice A n c, .pointer (some ⟨bx, 0, none⟩)] w fun e w' => e = .returned (.int .i64 ((8 + n : Nat) : Int)) ∧ w = w' := by
  go_enter Tryz.func35, Tryz.ntmps35
  go_wp2
  go_ret
  exact ⟨ret_int (by omega), rfl⟩
theorem all_any (p : Option Addr) (w : World) : Calls Tryz.prog 64 #[.pointer p] w fun e w' => e = .returned (.func (.func 91) #[] #[.pointer (some ⟨w.heap.size, 0, none⟩)]) ∧ w' = w.alloc (.cells #[.pointer p] 99) := by
  have hmf : ∀ (fn : Fn) (first cap : Array Value) (w : World), (Instr.makeFunc fn first cap).run Tryz.prog w = .ok (.func fn first cap) w := fun _ _ _ _ => rfl
  go_enter Tryz.func64, Tryz.ntmps64
  go_wp2
  go_ret
  exact ⟨rfl, rfl⟩
/-- All blocks that are meant lie as they lay. -/
def KeepP (F : Nat → Prop) (W W' : World) : Prop := W.heap.size ≤ W'.heap.size ∧ ∀ k, F k → W'.heap[k]? = W.heap[k]?
def FI (Bx b : Nat) (L : List RK) (k : Nat) : Prop := k = Bx ∨ k = b ∨ ∃ r ∈ L, r.g = k
def posOf (l : List Nat) (u : Nat) : Nat := (l.findIdx? fun x => x == u).getD 0
theorem nodup_at {l : List Nat} (hn : l.Nodup) {i j u : Nat} (hi : l[i]? = some u) (hj : l[j]? = some u) : i = j :=
  (List.getElem?_inj (List.getElem?_eq_some_iff.1 hi).1 hn).1 (hi.trans hj.symm)
theorem posOf_is {l : List Nat} {j u : Nat} (hn : l.Nodup) (h : l[j]? = some u) : posOf l u = j := by
  unfold posOf
  cases hf : l.findIdx? (fun x => x == u) with
  | none =>
    have := List.findIdx?_eq_none_iff.1 hf u (List.mem_of_getElem? h)
    simp at this
  | some i =>
    obtain ⟨hi, h1, _⟩ := List.findIdx?_eq_some_iff_getElem.1 hf
    simp at h1
    exact nodup_at hn (show l[i]? = some u by rw [List.getElem?_eq_getElem hi, h1]) h
/-- How many rounds are to come. -/
def restOf (l : List Nat) : Value → Nat
  | .pointer (some a) => l.length - posOf l a.block
  | _ => 0
theorem hdV_end (L : List RK) : hdV (L.drop L.length) = .pointer none := by rw [List.drop_length]; rfl
theorem restOf_at {L : List RK} (hn : (L.map RK.g).Nodup) {j : Nat} (hj : j ≤ L.length) : restOf (L.map RK.g) (hdV (L.drop j)) = L.length - j := by
  rcases Nat.lt_or_ge j L.length with h | h
  · have hr : L[j]? = some L[j] := List.getElem?_eq_getElem h
    rw [hdV_drop L j _ hr]
    simp only [restOf, List.length_map]
    rw [posOf_is hn (j := j) (by rw [List.getElem?_map, hr]; rfl)]
  · have : j = L.length := by omega
    subst this
    rw [hdV_end]
    simp [restOf]
set_option maxRecDepth 100000 in
set_option maxHeartbeats 1000000 in
theorem all_iter (k0 Bx b : Nat) (L : List RK) (w0 : World) (hbox : Boxed w0 Bx 99 (.pointer (some ⟨b, 2, none⟩))) (h2 : w0.cell? ⟨b, 2, none⟩ = some (hdV L)) (hlnk : ∀ (i : Nat) (r : RK), L[i]? = some r → LinkV w0 r.g r.sl (hdV (L.drop (i + 1)))) (hsep : (L.map RK.g).Nodup) :
    IterX Fence.wide k0 Tryz.prog 91 #[.pointer (some ⟨Bx, 0, none⟩)] (fun r : RK => #[r.sl]) (fun _ => KeepP (FI Bx b L)) (fun pre x => ∃ j : Nat, pre = L.take j ∧ L[j]? = some x) (fun xs => xs = L) w0 := by
  intro lp J Jx W hW hJ hJx hY h0
  have hbl := hbox.lt
  have hb2 := World.block_lt_of_cell? w0 _ h2
  have k0 : W.cell? ⟨Bx, 0, none⟩ = some (.pointer (some ⟨b, 2, none⟩)) := (hW.cell (p := ⟨Bx, 0, none⟩) hbl).trans hbox.cell
  have k1 : W.cell? ⟨b, 2, none⟩ = some (hdV L) := (hW.cell (p := ⟨b, 2, none⟩) hb2).trans h2
  have HL : Hid (∀ X : World, (∀ k, FI Bx b L k → X.heap[k]? = W.heap[k]?) → ∀ (i : Nat) (r : RK), L[i]? = some r → LinkV X r.g r.sl (hdV (L.drop (i + 1)))) := hide (fun X hX i r hi => by
    have h1 := hlnk i r hi
    exact (hX r.g (.inr (.inr ⟨r, List.mem_of_getElem? hi, rfl⟩))).trans ((hW.block r.g (at_lt h1)).trans h1))
  have HN := hide hsep
  clear hbox h2 hlnk hsep hbl hb2 hW
  refine callsIn_of_wp Tryz.func91 rfl trivial ?_ rfl
  simp only [Tryz.ntmps91, List.size_toArray, List.length_cons, List.length_nil, Nat.reduceAdd, Nat.reduceSub, Array.replicate_succ, Array.replicate_zero, List.push_toArray, List.append_toArray, List.nil_append, List.cons_append]
  gi_wp2
  clear k0 k1
  gi_loopw [3] (fun q wr => ∃ j : Nat, j ≤ L.length ∧ q = hdV (L.drop j) ∧ J (L.take j) wr ∧ KeepP (FI Bx b L) W wr) (fun q _ => restOf (L.map RK.g) q)
  case atStart => exact ⟨0, Nat.zero_le _, rfl, h0, Nat.le_refl _, fun _ _ => rfl⟩
  case round =>
    obtain ⟨j, hj, hq, hJj, hk⟩ := hrel
    by_cases hlt : j < L.length
    · have hr : L[j]? = some L[j] := List.getElem?_eq_getElem hlt
      obtain ⟨r, hrr⟩ : ∃ r, r = L[j] := ⟨_, rfl⟩
      rw [← hrr] at hr
      have hm := restOf_at HN.out hj
      rw [hdV_drop L j r hr] at hq hm
      have HM := hide hm
      clear hm
      subst hq
      have hl := HL.out wr hk.2 j r hr
      have d0 := hl.c0
      have hcmp := lneq_some ⟨r.g, 0, none⟩ wr
      have HR := hide hr
      have HK := hide hk
      have HT : Hid (L.take j ++ [r] = L.take (j + 1)) := hide (by rw [List.take_add_one, hr]; rfl)
      obtain ⟨fn, tmps, assign, body, hy, hR⟩ := hY (L.take j) r wr hJj ⟨j, rfl, hr⟩ hk.1
      have hy2 := hy
      unfold RK.sl at hy2 d0
      clear hr hrr hl hk hJj hy
      gi_wp2
      refine ⟨fun h => by simp [Fence.wide] at h, hR.mono ?_⟩
      rintro e2 W' (⟨rfl, hJ', hs', hk'⟩ | ⟨rfl, hJx'⟩)
      · have hk2 : KeepP (FI Bx b L) W W' := ⟨Nat.le_trans HK.out.1 hk'.1, fun k hF => (hk'.2 k hF).trans (HK.out.2 k hF)⟩
        have d1 := (HL.out W' hk2.2 j r HR.out).c1
        have HK2 := hide hk2
        have HJ2 := hide hJ'
        clear hk' hJ' hs' hk2 d0
        gi_wp2
        go_roundw
        case rel => exact ⟨j + 1, by omega, rfl, by rw [← HT.out]; exact HJ2.out, HK2.out⟩
        case measure =>
          have h1 := HM.out
          have h2 := restOf_at HN.out (show j + 1 ≤ L.length by omega)
          rw [h1, h2]
          omega
      · gi_wp2
        refine bodyPost_ret (results_none rfl _ _ _) rfl ?_
        exact ⟨_, rfl, .inr ⟨_, hJx'⟩⟩
    · obtain rfl : j = L.length := by omega
      rw [hdV_end] at hq
      subst hq
      have hcmp := lneq_none wr
      have HJ : Hid (J L wr) := hide (by rw [List.take_length] at hJj; exact hJj)
      clear hk hJj hlt hj
      gi_wp2
      go_end0
      exact ⟨_, rfl, .inl ⟨_, rfl, HJ.out⟩⟩
end Go.Proofs.YtdbflopfcnkjbaaGreat
