/-
  The bits of a key are gone through.
-/
import Derived.Test.YthefgfcjjbjjkaaTA
namespace Go.Proofs.Ythefgfcjjbjjkaa
open Go.RowKit
set_option linter.unusedVariables false
set_option linter.unusedSimpArgs false
attribute [local go_sem] Oper.semAt_some

def els (k : List Int) : List (Nat × Bool) := (List.range (bcN k)).map fun i => (i, btN k i)
def encB (x : Nat × Bool) : Array Value := #[.int .i64 x.1, .int .i64 (if x.2 then 1 else 0)]
/-- The key lies in its box. -/
def KeyIn (Bx B n c : Nat) (A : Option Addr) (k : List Int) (W : World) : Prop := W.cell? ⟨Bx, 0, none⟩ = some (.slice A n c) ∧ Rd W B 1 A n (u8s k)
theorem els_next {k : List Int} {i : Nat} (h : i < bcN k) : (els k).take i ++ [(i, btN k i)] = (els k).take (i + 1) := by
  have : (els k)[i]? = some (i, btN k i) := by simp [els, h]
  rw [List.take_add_one, this]
  rfl
theorem els_all {k : List Int} {i : Nat} (h : bcN k ≤ i) : (els k).take i = els k := List.take_of_length_le (by simpa [els] using h)
theorem bit_is {k : List Int} (hk : ∀ b ∈ k, IsByte b) (i : Nat) : bits .and .i64 ((byN k (4 + i / 8) : Int) / 2 ^ (7 - i % 8)) 1 = if btN k i then 1 else 0 := by
  rw [i64_and1]
  have e : ((byN k (4 + i / 8) : Int) / 2 ^ (7 - i % 8)) % 2 = ((byN k (4 + i / 8) / 2 ^ (7 - i % 8) % 2 : Nat) : Int) := by simp
  rw [e]
  unfold btN
  have : byN k (4 + i / 8) / 2 ^ (7 - i % 8) % 2 < 2 := Nat.mod_lt _ (by omega)
  split
  · rename_i h; simp at h; omega
  · rename_i h; simp at h; omega
set_option maxRecDepth 100000 in
set_option maxHeartbeats 1000000 in
theorem bits_iter (t : Option TypeId) (N Bx B n c : Nat) (A : Option Addr) (k : List Int) (w0 : World) (hk : ∀ b ∈ k, IsByte b) (hn : 4 ≤ n) (hc : n ≤ c) (hb : n ≤ 1000000) (hright : bcN k ≤ 8 * (n - 4)) (hx : Bx < w0.heap.size) (hB : B ≤ w0.heap.size) (hin : KeyIn Bx B n c A k w0) :
    IterW t Fence.wide N Try.prog 58 #[.pointer (some ⟨Bx, 0, none⟩)] encB (fun _ X Y => X.heap.size ≤ Y.heap.size) (fun _ => KeyIn Bx B n c A k) (fun pre x _ => ∃ i, i < bcN k ∧ pre = (els k).take i ∧ x = (i, btN k i)) (fun xs _ => xs = els k) w0 := by
  intro lp J Jx W hW hJ hJx hJK hY h0
  have hinW : KeyIn Bx B n c A k W := ⟨(hW.cell (p := ⟨Bx, 0, none⟩) hx).trans hin.1, hin.2.below (hW.mono hB)⟩
  have HI0 := hide hinW
  have HK := hide hk
  have k0 := hinW.1
  have HR := hide hinW.2
  clear hin hinW
  refine callsIn_of_wp Try.func58 rfl trivial ?_ rfl
  simp only [Try.ntmps58, List.size_toArray, List.length_cons, List.length_nil, Nat.reduceAdd, Nat.reduceSub, Array.replicate_succ, Array.replicate_zero, List.push_toArray, List.append_toArray, List.nil_append, List.cons_append]
  gi_wp2_with fail
  refine ⟨trivial, fun h => by simp [Fence.wide] at h, (callsIn_wide.2 (count_any A n c B k W HK.out HR.out hn hc)).mono ?_⟩
  rintro e w' ⟨rfl, rfl⟩
  gi_wp2_with fail
  have HBC : Hid (bcN k ≤ 8 * (n - 4)) := hide hright
  have hbn : bcN k ≤ 8000000 := by omega
  clear k0
  gi_loopw [7] (fun q wr => ∃ i : Nat, i ≤ bcN k ∧ q = .int .i64 i ∧ J ((els k).take i) wr ∧ KeyIn Bx B n c A k wr ∧ W.heap.size ≤ wr.heap.size) (fun q _ => bcN k - (intOf q).toNat)
  case atStart => exact ⟨0, Nat.zero_le _, rfl, h0, HI0.out, Nat.le_refl _⟩
  case round =>
    obtain ⟨i, hi, rfl, hJi, hKi, hsz⟩ := hrel
    by_cases hlt : i < bcN k
    · have hlen : k.length = n := by have := hKi.2.1; simpa [u8s] using this
      obtain ⟨ad, b, rfl, hbi, hc1⟩ := hKi.2.byte (k := 4 + i / 8) (by omega)
      have k0 := hKi.1
      obtain ⟨rb, lb, ub⟩ := byN_at HK.out hbi
      subst rb
      have hw1 : wrap64 ((byN k (4 + i / 8) : Int) / 2 ^ (7 - i % 8)) = (byN k (4 + i / 8) : Int) / 2 ^ (7 - i % 8) := by
        have e : ((byN k (4 + i / 8) : Int) / 2 ^ (7 - i % 8)) = ((byN k (4 + i / 8) / 2 ^ (7 - i % 8) : Nat) : Int) := by simp
        have h1 : byN k (4 + i / 8) / 2 ^ (7 - i % 8) ≤ byN k (4 + i / 8) := Nat.div_le_self _ _
        rw [e]
        have h2 := byN_lt HK.out (4 + i / 8)
        generalize byN k (4 + i / 8) / 2 ^ (7 - i % 8) = q at h1 ⊢
        exact IntWalk.wrap64_in (q : Int) (by omega)
      have hv := bit_is HK.out i
      have HJ2 := hide hJi
      have hbd : 4 + i / 8 < n := by omega
      obtain ⟨fn, tmps, assign, body, hy, hR⟩ := hY ((els k).take i) (i, btN k i) wr hJi ⟨i, hlt, rfl, rfl⟩ hsz
      simp only [encB] at hy
      generalize (if btN k i = true then (1 : Int) else 0) = z at hv hy
      have HE : Hid ((els k).take i ++ [(i, btN k i)] = (els k).take (i + 1)) := hide (els_next hlt)
      clear hKi hJi hbi
      gi_wp2
      refine ⟨fun h => by simp [Fence.wide] at h, hR.mono ?_⟩
      rintro e2 W' (⟨rfl, hJ', hs', _⟩ | ⟨rfl, hJx', _, _⟩)
      · have HKq := hide (hJK _ _ (by simp) hJ')
        have HJ3 : Hid (J ((els k).take (i + 1)) W') := hide (by rw [← HE.out]; exact hJ')
        clear hJ' hv hw1 hy
        gi_wp2
        go_roundw
        case rel => exact ⟨i + 1, by omega, by go_num, HJ3.out, HKq.out, by omega⟩
        case measure => simp [intOf]; omega
      · gi_wp2
        refine bodyPost_ret (results_none rfl _ _ _) rfl ?_
        exact ⟨_, rfl, .inr ⟨_, hJx'⟩⟩
    · have HJ2 : Hid (J (els k) wr) := hide (by rw [els_all (by omega)] at hJi; exact hJi)
      clear hJi hKi
      gi_wp2
      go_end0
      exact ⟨_, rfl, .inl ⟨_, rfl, HJ2.out⟩⟩
end Go.Proofs.Ythefgfcjjbjjkaa
