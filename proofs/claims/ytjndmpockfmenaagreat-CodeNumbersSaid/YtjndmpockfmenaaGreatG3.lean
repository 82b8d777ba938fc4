/-
  Bytes are gone through eight by eight.
-/
import Derived.Test.YtjndmpockfmenaaGreatG2
namespace Go.Proofs.YtjndmpockfmenaaGreat
open Go.RowKit
set_option linter.unusedVariables false
attribute [local go_sem] Oper.semAt_some

/-- A slice that reads as these bytes; it lies below block B. -/
def Byt (w : World) (B : Nat) (A : Option Addr) (n : Nat) (l : List Int) : Prop :=
  l.length = n ∧ (0 < n → ∃ ad, A = some ad ∧ ad.block < B ∧ ∀ i b, l[i]? = some b → w.cell? (ad.add i) = some (.int .u8 b))
theorem Byt.mono {w : World} {B B' : Nat} {A : Option Addr} {n : Nat} {l : List Int} (h : Byt w B A n l) (hB : B ≤ B') : Byt w B' A n l :=
  ⟨h.1, fun hn => by
    obtain ⟨ad, e, hb, hc⟩ := h.2 hn
    exact ⟨ad, e, Nat.lt_of_lt_of_le hb hB, hc⟩⟩
theorem Byt.below {w w' : World} {B : Nat} {A : Option Addr} {n : Nat} {l : List Int} (h : Byt w B A n l) (hb : Below B w w') : Byt w' B A n l :=
  ⟨h.1, fun hn => by
    obtain ⟨ad, e, hB, hc⟩ := h.2 hn
    refine ⟨ad, e, hB, fun i b hi => ?_⟩
    rw [← hc i b hi]
    exact hb.cell (by rw [block_of_add]; exact hB)⟩
def IsByte (b : Int) : Prop := 0 ≤ b ∧ b < 256

theorem chunk_any (A : Option Addr) (n c : Nat) (w : World) : Calls Tryz.prog 32 #[.slice A n c, .int .i64 8] w fun e w' =>
    e = .returned (.func (.func 66) #[] #[.pointer (some ⟨w.heap.size, 0, none⟩), .pointer (some ⟨w.heap.size + 1, 0, none⟩)]) ∧ w' = (w.alloc (.cells #[.slice A n c] 22)).alloc (.cells #[.int .i64 8] 3) := by
  have hmf : ∀ (fn : Fn) (first cap : Array Value) (w : World), (Instr.makeFunc fn first cap).run Tryz.prog w = .ok (.func fn first cap) w := fun _ _ _ _ => rfl
  go_enter Tryz.func32, Tryz.ntmps32
  go_wp2
  go_ret
  exact ⟨rfl, rfl⟩
/-- What the pieces of eight bytes are. -/
def piece (ad : Addr) (k : Nat) : Value := .slice (some (ad.add (8 * k))) 8 8
/-- Two boxes hold what they held. -/
def Boxes2 (b : Nat) (W W' : World) : Prop := (∀ v, W.cell? ⟨b, 0, none⟩ = some v → W'.cell? ⟨b, 0, none⟩ = some v) ∧ ∀ v, W.cell? ⟨b + 1, 0, none⟩ = some v → W'.cell? ⟨b + 1, 0, none⟩ = some v
set_option maxRecDepth 100000 in
set_option maxHeartbeats 1000000 in
theorem chunk_iter (n Bx m c : Nat) (A : Option Addr) (ad : Addr) (w0 : World) (hm : m ≤ 4096) (hA : 0 < m → A = some ad) (hb1 : Boxed w0 Bx 22 (.slice A (8 * m) c)) (hc : 8 * m ≤ c) (hcm : c ≤ maxLen) (hb2 : Boxed w0 (Bx + 1) 3 (.int .i64 8)) :
    Iter Fence.wide n Tryz.prog 66 #[.pointer (some ⟨Bx, 0, none⟩), .pointer (some ⟨Bx + 1, 0, none⟩)] (fun k : Nat => #[piece ad k]) (fun _ => Boxes2 Bx) (fun pre k => pre = List.range k ∧ k < m) (fun xs => xs = List.range m) (fun _ _ => False) w0 := by
  intro lp J W hW hJ hY h0
  have c1 : W.cell? ⟨Bx, 0, none⟩ = some (.slice A (8 * m) c) := (hW.cell (p := ⟨Bx, 0, none⟩) hb1.lt).trans hb1.cell
  have c2 : W.cell? ⟨Bx + 1, 0, none⟩ = some (.int .i64 8) := (hW.cell (p := ⟨Bx + 1, 0, none⟩) hb2.lt).trans hb2.cell
  refine callsIn_of_wp Tryz.func66 rfl trivial ?_ rfl
  simp only [Tryz.ntmps66, List.size_toArray, List.length_cons, List.length_nil, Nat.reduceAdd, Nat.reduceSub, Array.replicate_succ, Array.replicate_zero, List.push_toArray, List.append_toArray, List.nil_append, List.cons_append]
  gi_wp2
  unfold maxLen at hcm
  gi_loopw [4] (fun p wr => ∃ k : Nat, k ≤ m ∧ p = .int .i64 ((8 * k : Nat) : Int) ∧ J (List.range k) wr ∧ wr.cell? ⟨Bx, 0, none⟩ = some (.slice A (8 * m) c) ∧ wr.cell? ⟨Bx + 1, 0, none⟩ = some (.int .i64 8) ∧ W.heap.size ≤ wr.heap.size) (fun p _ => 8 * m - (intOf p).toNat)
  case atStart => exact ⟨0, Nat.zero_le _, rfl, by simpa using h0, c1, c2, Nat.le_refl _⟩
  case round =>
    clear c1 c2
    obtain ⟨k, hk, rfl, hJk, c1, c2, hsz⟩ := hrel
    by_cases hlt : k < m
    · have hA' := hA (by omega)
      subst hA'
      clear hA
      have l1 : (8 * k : Nat) < 8 * m := by omega
      have l2 : ((8 * k : Nat) : Int) ≤ ((8 * m : Nat) : Int) := by omega
      have l3 : ((8 * k : Nat) : Int) ≤ (c : Int) := by omega
      gi_wp2_with fail
      gi_region
      have l4 : ((8 * k : Nat) : Int) + 8 ≤ (c : Int) := by omega
      have l5 : 8 * k + 8 ≤ c := by omega
      obtain ⟨fn, tmps, assign, body, hy, hR⟩ := hY (List.range k) k wr.drew (hJ _ _ _ hJk (.of_below (Below.refl _ wr).drew)) ⟨rfl, hlt⟩ hsz
      simp only [piece] at hy
      gi_wp2_with fail
      refine ⟨fun h => by simp [Fence.wide] at h, hR.mono ?_⟩
      rintro e W' ⟨rfl, hJ', hs', hk1, hk2⟩
      have d1 := hk1 _ c1
      have d2 := hk2 _ c2
      have HJ := hide hJ'
      clear c1 c2 hJ' hk1 hk2 hy hR hJk
      gi_wp2
      go_roundw
      case rel => exact ⟨k + 1, by omega, by go_num, by rw [List.range_succ]; exact HJ.out, d1, d2, Nat.le_trans hsz hs'⟩
      case measure => simp only [intOf]; omega
    · have hkm : k = m := by omega
      subst hkm
      gi_wp2
      go_end0
      exact .inl ⟨_, _, rfl, rfl, hJk⟩
end Go.Proofs.YtjndmpockfmenaaGreat
