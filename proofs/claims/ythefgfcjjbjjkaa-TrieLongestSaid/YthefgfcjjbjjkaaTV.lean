/-
  New: a trie, or the error.
-/
import Derived.Test.YthefgfcjjbjjkaaTU
import Derived.Test.YthefgfcjjbjjkaaKI4
namespace Go.Proofs.Ythefgfcjjbjjkaa
open Go.RowKit Go.Maps
set_option linter.unusedVariables false
set_option linter.unusedSimpArgs false

/-- What New tells of a make. -/
def newE (k key val ent : Int) : Int := if specM k key val ent = 0 then (if k = 4 then 0 else 9) else specM k key val ent
theorem newE_yes {k key val ent : Int} (h : newE k key val ent = 0) : k = 4 ∧ specM k key val ent = 0 ∧ 5 ≤ key ∧ key ≤ 36 ∧ 1 ≤ val ∧ val ≤ 1024 ∧ 1 ≤ ent ∧ ent ≤ 1024 := by
  unfold newE at h
  by_cases hs : specM k key val ent = 0
  · rw [if_pos hs] at h
    by_cases hk : k = 4
    · subst hk
      have hs2 := hs
      unfold specM at hs2
      rw [show ptM 4 = some ⟨5, 36, 1, 1024, 1, 1024⟩ from rfl] at hs2
      simp only at hs2
      split at hs2
      · rename_i hh
        simp only [inI, Bool.and_eq_true, decide_eq_true_eq] at hh
        refine ⟨rfl, hs, by omega, by omega, by omega, by omega, by omega, by omega⟩
      · cases hs2
    · rw [if_neg hk] at h; cases h
  · rw [if_neg hs] at h; exact absurd h hs
/-- A place of noughts in block g. -/
def zPL (sz g : Nat) : PL := ⟨g, List.replicate sz 0, none⟩
def zPLs (s sz n : Nat) : List PL := (List.range n).map fun i => zPL sz (s + i)
theorem zPLs_at {s sz n i : Nat} {r : PL} (h : (zPLs s sz n)[i]? = some r) : i < n ∧ r = zPL sz (s + i) := by
  have hi : i < n := by
    have := (List.getElem?_eq_some_iff.1 h).1
    simpa [zPLs] using this
  refine ⟨hi, ?_⟩
  simp [zPLs, hi] at h
  exact h.symm
theorem zPLs_len (s sz n : Nat) : (zPLs s sz n).length = n := by simp [zPLs]
theorem zPLs_made (s sz n : Nat) : cellsP sz (zPLs s sz n) = madeT s sz n n := by
  refine trips_ext (by unfold cellsP; rw [cellsF_len, zPLs_len]; omega) (fun i hi => ?_)
  have hr : (zPLs s sz n)[i]? = some (zPL sz (s + i)) := by simp [zPLs, hi]
  obtain ⟨h1, h2, h3⟩ := cellsP_at (sz := sz) hr
  rw [Nat.mul_comm i 3, h1, h2, h3, if_pos hi, if_pos hi]
  exact ⟨rfl, rfl, rfl⟩
theorem zPLs_key {s sz n i : Nat} {r : PL} (h : (zPLs s sz n)[i]? = some r) : keyOf r = none := by rw [(zPLs_at h).2]; rfl
theorem zPLs_pr (s sz n : Nat) (q : List Bool) : prP (zPLs s sz n) q = false := by
  cases e : prP (zPLs s sz n) q with
  | false => rfl
  | true =>
    obtain ⟨i, r, b, h1, h2, _⟩ := cntP_pos.1 e
    rw [zPLs_key h1] at h2
    cases h2
set_option maxRecDepth 100000 in
set_option maxHeartbeats 2000000 in
theorem new_no (k key val ent : Int) (w : World) (hk : 0 ≤ k ∧ k < 256) (he : newE k key val ent ≠ 0) :
    Calls Try.prog 9 #[.agg #[.int .u8 k, .int .i64 key, .int .i64 val, .int .i64 ent]] w fun e w' => e = .returned (.tuple #[.pointer none, .int .i64 (newE k key val ent)]) ∧ Below w.heap.size w w' := by
  have hb1 := below1 w (.cells #[.int .u8 k, .int .i64 key, .int .i64 val, .int .i64 ent] 24)
  have hx := World.alloc_heap_new w (.cells #[.int .u8 k, .int .i64 key, .int .i64 val, .int .i64 ent] 24)
  have HS := hide (spec_any k key val ent (w.alloc (.cells #[.int .u8 k, .int .i64 key, .int .i64 val, .int .i64 ent] 24)) hk)
  have HX := hide hx
  have HB1 := hide hb1
  have HE : Hid (newE k key val ent = if specM k key val ent = 0 then (if k = 4 then 0 else 9) else specM k key val ent) := hide rfl
  clear hx hb1
  generalize newE k key val ent = ne at *
  generalize specM k key val ent = sm at *
  by_cases hs : sm = 0
  · subst hs
    have hk1 : k ≠ 4 := fun h => he (by rw [HE.out, if_pos rfl, if_pos h])
    obtain rfl : ne = 9 := by rw [HE.out, if_pos rfl, if_neg hk1]
    have hkb : (k == 4) = false := by simpa using hk1
    have hkb2 : (k != 4) = true := by simpa using hk1
    clear he HE hk1
    go_enter Try.func9, Try.ntmps9
    go_wp2_with (go_at_call 33; refine HS.out.mono ?_; rintro e w1 ⟨rfl, hb⟩; have HB := hide (HB1.out.trans (hb.mono HB1.out.size)); have d0 : w1.cell? ⟨w.heap.size, 0, none⟩ = some (.int .u8 k) := (blk_cell ((hb.block _ (at_lt HX.out)).trans HX.out) 0).trans rfl; clear hb)
    go_ret2
    exact ⟨rfl, HB.out⟩
  · obtain rfl : ne = sm := by rw [HE.out, if_neg hs]
    have hkb : (ne == 0) = false := by simpa using hs
    have hkb2 : (ne != 0) = true := by simpa using hs
    clear he HE hs
    go_enter Try.func9, Try.ntmps9
    go_wp2_with (go_at_call 33; refine HS.out.mono ?_; rintro e w1 ⟨rfl, hb⟩; have HB := hide (HB1.out.trans (hb.mono HB1.out.size)); clear hb)
    go_ret2
    exact ⟨rfl, HB.out⟩
/-- What New tells of a right make. -/
def NewTold (n ks sz : Nat) (w : World) (en : Ending) (w' : World) : Prop := ∃ t s N, en = .returned (.tuple #[.pointer (some ⟨t.tb, 0, none⟩), .int .i64 0]) ∧ Tri w' w.heap.size t (zPLs s sz n) N ∧ t.ks = ks ∧ t.sz = sz ∧ t.n = n ∧ Below w.heap.size w w'
theorem Tri.made {W : World} {B b c s ks sz n : Nat} (hb : W.heap[b]? = some (.cells #[.pointer (some ⟨b, 0, none⟩), .int .i64 ks, .pointer none, .int .i64 sz, .slice (some ⟨c, 0, none⟩) n n] 60 (0, 0)))
    (hc : W.heap[c]? = some (.cells (madeT s sz n n).toArray 77 (0, 0))) (hr : ∀ i, i < n → W.heap[s + i]? = some (.cells (u8s (List.replicate sz 0)).toArray 5 (0, 0)))
    (hB : B ≤ b ∧ B ≤ c ∧ B ≤ s) (hks : 5 ≤ ks ∧ ks ≤ 36) (hs : 1 ≤ sz ∧ sz ≤ 1024) (hn : 1 ≤ n ∧ n ≤ 1024) : Tri W B ⟨b, ks, sz, c, n⟩ (zPLs s sz n) (fun _ => 0) := by
  have hno : ∀ p, prP (zPLs s sz n) p = true → False := fun p h => by rw [zPLs_pr] at h; cases h
  refine ⟨⟨?_, fun p h => (hno p h).elim, fun p q h => (hno p h).elim, fun p x h => (hno _ h).elim⟩, by rw [zPLs_made]; exact hc, zPLs_len _ _ _, fun r hr2 => ?_, fun r hr2 g l hk => ?_, ?_, fun i j r t hi hj hij => ?_, fun r hr2 x hx g l hk => ?_, fun i j r t b2 hi hj hk => ?_, hs, hn, hks⟩
  · rw [show ptN (prP (zPLs s sz n)) (fun _ => 0) [] = none by simp [ptN, zPLs_pr]]
    exact hb
  · obtain ⟨i, hi⟩ := List.mem_iff_getElem?.1 hr2
    obtain ⟨h1, rfl⟩ := zPLs_at hi
    exact ⟨hr i h1, by simp [zPL]⟩
  · obtain ⟨i, hi⟩ := List.mem_iff_getElem?.1 hr2
    rw [(zPLs_at hi).2] at hk
    cases hk
  · rintro g ((rfl | ⟨p, hp, _⟩) | rfl | ⟨r, hr2, rfl⟩ | ⟨r, hr2, l, hk⟩)
    · exact hB.1
    · exact (hno p hp).elim
    · exact hB.2.1
    · obtain ⟨i, hi⟩ := List.mem_iff_getElem?.1 hr2
      rw [(zPLs_at hi).2]
      show B ≤ s + i
      omega
    · obtain ⟨i, hi⟩ := List.mem_iff_getElem?.1 hr2
      rw [(zPLs_at hi).2] at hk
      cases hk
  · rw [(zPLs_at hi).2, (zPLs_at hj).2]
    show s + i ≠ s + j
    omega
  · obtain ⟨i, hi⟩ := List.mem_iff_getElem?.1 hx
    rw [(zPLs_at hi).2] at hk
    cases hk
  · rw [zPLs_key hi] at hk
    cases hk
set_option maxRecDepth 100000 in
set_option maxHeartbeats 2000000 in
theorem new_yes (n ks sz : Nat) (w : World) (hsp : specM 4 ks sz n = 0) (hks : 5 ≤ ks ∧ ks ≤ 36) (hs : 1 ≤ sz ∧ sz ≤ 1024) (hn : 1 ≤ n ∧ n ≤ 1024) :
    Calls Try.prog 9 #[.agg #[.int .u8 4, .int .i64 ks, .int .i64 sz, .int .i64 n]] w (NewTold n ks sz w) := by
  have hb1 := below1 w (.cells #[.int .u8 4, .int .i64 ks, .int .i64 sz, .int .i64 n] 24)
  have hx := World.alloc_heap_new w (.cells #[.int .u8 4, .int .i64 ks, .int .i64 sz, .int .i64 n] 24)
  have HS0 := spec_any 4 ks sz n (w.alloc (.cells #[.int .u8 4, .int .i64 ks, .int .i64 sz, .int .i64 n] 24)) (by decide)
  rw [hsp] at HS0
  have HS := hide HS0
  have HX := hide hx
  have HB1 := hide hb1
  have HPO : Hid (∀ W, Calls Try.prog 34 #[.int .i64 n, .int .i64 sz] W (RowsMade n sz W)) := hide (fun W => rowsOf_any n sz hn hs W)
  clear hx hb1 hsp HS0
  go_enter Try.func9, Try.ntmps9
  go_wp2_with (go_at_call 33; refine stop_here ?_)
  show Hid _
  refine start_here ?_
  refine HS.out.mono ?_
  rintro e w1 ⟨rfl, hb⟩
  generalize w.alloc (.cells #[.int .u8 4, .int .i64 ks, .int .i64 sz, .int .i64 n] 24) = w0 at *
  have hblk := (hb.block _ (at_lt HX.out)).trans HX.out
  have d0 : w1.cell? ⟨w.heap.size, 0, none⟩ = some (.int .u8 4) := (blk_cell hblk 0).trans rfl
  have d1 : w1.cell? ⟨w.heap.size, 1, none⟩ = some (.int .i64 ks) := (blk_cell hblk 1).trans rfl
  have d2 : w1.cell? ⟨w.heap.size, 2, none⟩ = some (.int .i64 sz) := (blk_cell hblk 2).trans rfl
  have d3 : w1.cell? ⟨w.heap.size, 3, none⟩ = some (.int .i64 n) := (blk_cell hblk 3).trans rfl
  have HB := hide (HB1.out.trans (hb.mono HB1.out.size))
  have HBL := hide hblk
  clear hb hblk
  go_wp2_with fail
  go_region_with (go_at_call 34; refine (HPO.out _).mono ?_; rintro e w2 ⟨c, s, rfl, r1, r2, r3, r4, r5, r6⟩; have hbb := (r6.block _ (at_lt HBL.out)).trans HBL.out; have x0 : w2.cell? ⟨w.heap.size, 1, none⟩ = some (.int .i64 ks) := (blk_cell hbb 1).trans rfl; have x2 : w2.cell? ⟨w.heap.size, 2, none⟩ = some (.int .i64 sz) := (blk_cell hbb 2).trans rfl; have x3 : w2.cell? ⟨w.heap.size, 3, none⟩ = some (.int .i64 n) := (blk_cell hbb 3).trans rfl; have HR := hide (And.intro r1 (And.intro r2 (And.intro r3 (And.intro r4 (And.intro r5 r6))))); clear r1 r2 r3 r4 r5 r6 hbb)
  all_goals
    go_wp2_with fail
    go_ret2
    obtain ⟨r1, r2, r3, r4, r5, r6⟩ := HR.out
    have hST := World.alloc_heap_new w2 (.cells #[.pointer (some ⟨w2.heap.size, 0, none⟩), .int .i64 ks, .pointer none, .int .i64 sz, .slice (some ⟨c, 0, none⟩) n n] 60)
    have hBA := below1 w2 (.cells #[.pointer (some ⟨w2.heap.size, 0, none⟩), .int .i64 ks, .pointer none, .int .i64 sz, .slice (some ⟨c, 0, none⟩) n n] 60)
    have hw1 : w.heap.size ≤ w1.heap.size := HB.out.size
    have r1' : w1.heap.size ≤ c := r1
    have hbw : Below w.heap.size w (w2.alloc (.cells #[.pointer (some ⟨w2.heap.size, 0, none⟩), .int .i64 ks, .pointer none, .int .i64 sz, .slice (some ⟨c, 0, none⟩) n n] 60)) := by
      have h1 : Below w.heap.size w w2 := HB.out.trans ((((Below.refl w1.heap.size w1).drew).trans r6).mono hw1)
      exact h1.trans (hBA.mono h1.size)
    have hc2 := at_lt r4
    have hsz : w.heap.size ≤ s := by omega
    have hT : Tri (w2.alloc (.cells #[.pointer (some ⟨w2.heap.size, 0, none⟩), .int .i64 ks, .pointer none, .int .i64 sz, .slice (some ⟨c, 0, none⟩) n n] 60)) w.heap.size ⟨w2.heap.size, ks, sz, c, n⟩ (zPLs s sz n) (fun _ => 0) :=
      Tri.made hST ((hBA.block c hc2).trans r4) (fun i hi => (hBA.block _ (at_lt (r5 i hi))).trans (r5 i hi)) ⟨by have := r6.size; have h3 : w1.heap.size ≤ w2.heap.size := this; omega, by omega, hsz⟩ hks hs hn
    exact ⟨⟨w2.heap.size, ks, sz, c, n⟩, s, _, rfl, hT, rfl, rfl, rfl, hbw⟩
end Go.Proofs.Ythefgfcjjbjjkaa
