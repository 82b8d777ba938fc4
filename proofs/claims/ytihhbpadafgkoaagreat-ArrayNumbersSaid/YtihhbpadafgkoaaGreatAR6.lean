/-
  New: an array, or the error.
-/
import Derived.Test.YtihhbpadafgkoaaGreatAR5
import Derived.Test.YtihhbpadafgkoaaGreatKI4
namespace Go.Proofs.YtihhbpadafgkoaaGreat
open Go.RowKit Go.Maps
set_option linter.unusedVariables false

/-- What New tells of a make. -/
def newE (k key val ent : Int) : Int := if specM k key val ent = 0 then (if k = 1 then 0 else 9) else specM k key val ent
theorem newE_yes {k key val ent : Int} (h : newE k key val ent = 0) : k = 1 ∧ key = 4 ∧ specM k key val ent = 0 ∧ 1 ≤ val ∧ val ≤ 1024 ∧ 1 ≤ ent ∧ ent ≤ 1024 := by
  unfold newE at h
  by_cases hs : specM k key val ent = 0
  · rw [if_pos hs] at h
    by_cases hk : k = 1
    · subst hk
      have hs2 := hs
      unfold specM ptM at hs2
      simp only [if_true] at hs2
      split at hs2
      · rename_i hh
        simp only [inI, Bool.and_eq_true, decide_eq_true_eq] at hh
        refine ⟨rfl, by omega, hs, by omega, by omega, by omega, by omega⟩
      · cases hs2
    · rw [if_neg hk] at h; cases h
  · rw [if_neg hs] at h; exact absurd h hs
/-- A row of noughts in block g. -/
def zAR (sz g : Nat) : AR := ⟨some ⟨g, 0, none⟩, sz, List.replicate sz 0⟩
def zARs (s sz n : Nat) : List AR := (List.range n).map fun i => zAR sz (s + i)
theorem zARs_at {s sz n i : Nat} {r : AR} (h : (zARs s sz n)[i]? = some r) : i < n ∧ r = zAR sz (s + i) := by
  have hi : i < n := by
    have := (List.getElem?_eq_some_iff.1 h).1
    simpa [zARs] using this
  refine ⟨hi, ?_⟩
  simp [zARs, hi] at h
  exact h.symm
theorem zARs_madeL (s sz n : Nat) : (zARs s sz n).map (AR.sl sz) = madeL s sz n n := by
  apply List.ext_getElem
  · simp [zARs, madeL]
  · intro i h1 h2
    have hi : i < n := by simpa [zARs] using h1
    simp [zARs, madeL, hi, AR.sl, zAR]
theorem owns_new {W : World} {g sz : Nat} (h : W.heap[g]? = some (.cells (u8s (List.replicate sz 0)).toArray 5 (0, 0))) (hs : sz ≤ 1024) : W.ownsRow 0 5 1 (.slice (some ⟨g, 0, none⟩) sz sz) sz (u8s (List.replicate sz 0)) :=
  ⟨by simp [u8s], .inr ⟨g, sz, (u8s (List.replicate sz 0)).toArray, rfl, Nat.zero_le _, h, Nat.le_refl _, by unfold maxLen; omega, by simp [u8s], by simp [u8s]⟩⟩
theorem Arr.made {W : World} {B b c s sz n : Nat} (hb : W.heap[b]? = some (.cells #[.pointer (some ⟨b, 0, none⟩), .int .i64 sz, .slice (some ⟨c, 0, none⟩) n n] 70 (0, 0)))
    (hc : W.heap[c]? = some (.cells (madeL s sz n n).toArray 145 (0, 0))) (hr : ∀ i, i < n → W.heap[s + i]? = some (.cells (u8s (List.replicate sz 0)).toArray 5 (0, 0)))
    (hB : B ≤ b ∧ B ≤ c ∧ B ≤ s) (hs : 1 ≤ sz ∧ sz ≤ 1024) (hn : 1 ≤ n ∧ n ≤ 1024) : Arr W B b c sz (zARs s sz n) := by
  have hl : (zARs s sz n).length = n := by simp [zARs]
  refine ⟨by rw [hl]; exact hb, by rw [zARs_madeL]; exact hc, fun i r hi => ?_, ?_, fun i j r t hi hj hij g hg => ?_, hs, by rw [hl]; exact hn⟩
  · obtain ⟨h1, rfl⟩ := zARs_at hi
    exact owns_new (hr i h1) hs.2
  · rintro g (rfl | rfl | ⟨r, hr', hg⟩)
    · exact hB.1
    · exact hB.2.1
    · obtain ⟨i, hi⟩ := List.mem_iff_getElem?.1 hr'
      obtain ⟨h1, rfl⟩ := zARs_at hi
      have : s + i = g := by simpa [AR.sl, zAR, Value.ownBlock] using hg
      omega
  · obtain ⟨h1, rfl⟩ := zARs_at hi
    obtain ⟨h2, rfl⟩ := zARs_at hj
    intro hg2
    have e1 : s + i = g := by simpa [AR.sl, zAR, Value.ownBlock] using hg
    have e2 : s + j = g := by simpa [AR.sl, zAR, Value.ownBlock] using hg2
    omega
set_option maxRecDepth 100000 in
set_option maxHeartbeats 1000000 in
theorem newIn_no (k key val ent : Int) (Bp : Nat) (w : World) (hbox : w.heap[Bp]? = some (.cells #[.int .u8 k, .int .i64 key, .int .i64 val, .int .i64 ent] 25 (0, 0))) (hk : 0 ≤ k ∧ k < 256) (he : newE k key val ent ≠ 0) :
    Calls Tryz.prog 26 #[.pointer (some ⟨Bp, 0, none⟩)] w fun e w' => e = .panicked (panicOf (newE k key val ent)) ∧ Below w.heap.size w w' := by
  have HS := hide (spec_any k key val ent w hk)
  have HX := hide hbox
  have c0 := blk_cell hbox 0
  have c1 := blk_cell hbox 1
  have c2 := blk_cell hbox 2
  have c3 := blk_cell hbox 3
  simp at c0 c1 c2 c3
  have HE : Hid (newE k key val ent = if specM k key val ent = 0 then (if k = 1 then 0 else 9) else specM k key val ent) := hide rfl
  generalize newE k key val ent = ne at *
  generalize specM k key val ent = sm at *
  by_cases hs : sm = 0
  · subst hs
    have hk1 : k ≠ 1 := fun h => he (by rw [HE.out, if_pos rfl, if_pos h])
    obtain rfl : ne = 9 := by rw [HE.out, if_pos rfl, if_neg hk1]
    have hkb : (k == 1) = false := by simpa using hk1
    clear hbox he HE hk1
    go_enter Tryz.func26, Tryz.ntmps26
    go_wp2_with (first
      | (go_at_call 27; refine HS.out.mono ?_; rintro e w1 ⟨rfl, hb⟩; have HB := hide hb; have d0 := (hb.cell (p := ⟨Bp, 0, none⟩) (at_lt HX.out)).trans c0; clear hb)
      | (go_at_call 28; ((with_reducible refine (demand_yes _ _).mono ?_)); rintro e w' ⟨rfl, rfl⟩)
      | (go_at_call 28; ((with_reducible refine (demand_no _ _).mono ?_)); rintro e w' ⟨rfl, rfl⟩))
    exact ⟨rfl, rfl, HB.out⟩
  · obtain rfl : ne = sm := by rw [HE.out, if_neg hs]
    have hkb : (ne == 0) = false := by simpa using hs
    clear hbox he HE hs
    go_enter Tryz.func26, Tryz.ntmps26
    go_wp2_with (first
      | (go_at_call 27; refine HS.out.mono ?_; rintro e w1 ⟨rfl, hb⟩; have HB := hide hb; clear hb)
      | (go_at_call 28; ((with_reducible refine (demand_no _ _).mono ?_)); rintro e w' ⟨rfl, rfl⟩))
    exact ⟨rfl, rfl, HB.out⟩
/-- What New leaves of a right make. -/
def NewMade (n sz : Nat) (w : World) (e : Ending) (w' : World) : Prop := ∃ b c s, e = .returned (.pointer (some ⟨b, 0, none⟩)) ∧ Arr w' w.heap.size b c sz (zARs s sz n) ∧ Below w.heap.size w w'
set_option maxRecDepth 100000 in
set_option maxHeartbeats 1000000 in
theorem newIn_yes (n sz : Nat) (Bp : Nat) (w : World) (hbox : w.heap[Bp]? = some (.cells #[.int .u8 1, .int .i64 4, .int .i64 sz, .int .i64 n] 25 (0, 0))) (hsp : specM 1 4 sz n = 0) (hs : 1 ≤ sz ∧ sz ≤ 1024) (hn : 1 ≤ n ∧ n ≤ 1024) :
    Calls Tryz.prog 26 #[.pointer (some ⟨Bp, 0, none⟩)] w (NewMade n sz w) := by
  have HS0 := spec_any 1 4 sz n w (by decide)
  rw [hsp] at HS0
  have HS := hide HS0
  have HX := hide hbox
  have c0 := blk_cell hbox 0
  have c1 := blk_cell hbox 1
  have c2 := blk_cell hbox 2
  have c3 := blk_cell hbox 3
  simp at c0 c1 c2 c3
  clear hbox hsp HS0
  go_enter Tryz.func26, Tryz.ntmps26
  go_wp2_with (first
    | (go_at_call 27; refine HS.out.mono ?_; rintro e w1 ⟨rfl, hb⟩; have HB := hide hb; have d0 := (hb.cell (p := ⟨Bp, 0, none⟩) (at_lt HX.out)).trans c0; have d2 := (hb.cell (p := ⟨Bp, 2, none⟩) (at_lt HX.out)).trans c2; have d3 := (hb.cell (p := ⟨Bp, 3, none⟩) (at_lt HX.out)).trans c3; clear hb)
    | (go_at_call 28; ((with_reducible refine (demand_yes _ _).mono ?_)); rintro e w' ⟨rfl, rfl⟩)
    | (go_at_call 29; refine (rowsOf_any n sz hn hs _).mono ?_; rintro e w2 ⟨c, s, rfl, h1, h2, h3, h4, h5, h6⟩; have H1 := hide h1; have H2 := hide h2; have H3 := hide h3; have H4 := hide h4; have H5 := hide h5; have H6 := hide h6; clear h1 h2 h3 h4 h5 h6))
  have hb0 := World.alloc_heap_new w2 (.cells #[.pointer (some ⟨w2.heap.size, 0, none⟩), .int .i64 sz, .slice (some ⟨c, 0, none⟩) n n] 70)
  have hh : ∀ g, g < w2.heap.size → (w2.alloc (.cells #[.pointer (some ⟨w2.heap.size, 0, none⟩), .int .i64 sz, .slice (some ⟨c, 0, none⟩) n n] 70)).heap[g]? = w2.heap[g]? := fun g hg => Below.heap_alloc _ _ _ hg
  have hfin : NewMade n sz w (.returned (.pointer (some ⟨w2.heap.size, 0, none⟩))) (w2.alloc (.cells #[.pointer (some ⟨w2.heap.size, 0, none⟩), .int .i64 sz, .slice (some ⟨c, 0, none⟩) n n] 70)) := by
    have g1 := H1.out
    have g2 := H2.out
    have g3 := H3.out
    have g4 := HB.out.size
    have g6 := H6.out.size
    refine ⟨w2.heap.size, c, s, rfl, Arr.made hb0 ((hh c (by omega)).trans H4.out) (fun i hi => (hh _ (by omega)).trans (H5.out i hi)) ⟨by omega, by omega, by omega⟩ hs hn, ?_⟩
    exact (HB.out.trans (H6.out.mono g4)).alloc (by omega) _
  clear hb0 hh
  go_ret
  exact hfin
/-- New's answers. -/
theorem new_no (k key val ent : Int) (w : World) (hk : 0 ≤ k ∧ k < 256) (he : newE k key val ent ≠ 0) :
    Calls Tryz.prog 6 #[.agg #[.int .u8 k, .int .i64 key, .int .i64 val, .int .i64 ent]] w fun e w' => e = .returned (.tuple #[.pointer none, .int .i64 (newE k key val ent)]) ∧ Below w.heap.size w w' := by
  have hmf : ∀ (fn : Fn) (first cap : Array Value) (w : World), (Instr.makeFunc fn first cap).run Tryz.prog w = .ok (.func fn first cap) w := fun _ _ _ _ => rfl
  have hF : ∀ (args : Array Value) (W : World), (callFunc 26 args).run Tryz.prog W = .ok (.enter 26 args) W := enters_of Tryz.func26 (by kernel_rfl) rfl
  have hx := World.alloc_heap_new w (.cells #[.int .u8 k, .int .i64 key, .int .i64 val, .int .i64 ent] 25)
  have HC := hide (caughtPtr_no 26 #[.pointer (some ⟨w.heap.size, 0, none⟩)] (newE k key val ent) (w.alloc (.cells #[.int .u8 k, .int .i64 key, .int .i64 val, .int .i64 ent] 25)) hF (fun W hb _ => newIn_no k key val ent _ W ((hb.block _ (at_lt hx)).trans hx) hk he))
  clear hx he hF
  generalize newE k key val ent = ne at *
  go_enter Tryz.func6, Tryz.ntmps6
  go_wp2_with (go_at_call 25; refine HC.out.mono ?_; rintro e w1 ⟨rfl, hb⟩; have HB := hide hb; clear hb)
  go_ret2
  exact ⟨rfl, (below1 w _).trans (HB.out.mono (by simp))⟩
/-- What New tells of a right make. -/
def NewTold (n sz : Nat) (w : World) (e : Ending) (w' : World) : Prop := ∃ b c s, e = .returned (.tuple #[.pointer (some ⟨b, 0, none⟩), .int .i64 0]) ∧ Arr w' w.heap.size b c sz (zARs s sz n) ∧ Below w.heap.size w w'
theorem new_yes (n sz : Nat) (w : World) (hsp : specM 1 4 sz n = 0) (hs : 1 ≤ sz ∧ sz ≤ 1024) (hn : 1 ≤ n ∧ n ≤ 1024) :
    Calls Tryz.prog 6 #[.agg #[.int .u8 1, .int .i64 4, .int .i64 sz, .int .i64 n]] w (NewTold n sz w) := by
  have hmf : ∀ (fn : Fn) (first cap : Array Value) (w : World), (Instr.makeFunc fn first cap).run Tryz.prog w = .ok (.func fn first cap) w := fun _ _ _ _ => rfl
  have hF : ∀ (args : Array Value) (W : World), (callFunc 26 args).run Tryz.prog W = .ok (.enter 26 args) W := enters_of Tryz.func26 (by kernel_rfl) rfl
  have hx := World.alloc_heap_new w (.cells #[.int .u8 1, .int .i64 4, .int .i64 sz, .int .i64 n] 25)
  have HC := hide (caughtPtr_ok 26 #[.pointer (some ⟨w.heap.size, 0, none⟩)] (w.alloc (.cells #[.int .u8 1, .int .i64 4, .int .i64 sz, .int .i64 n] 25))
    (fun x w' => ∃ b c s, x = some ⟨b, 0, none⟩ ∧ Arr w' (w.heap.size + 4) b c sz (zARs s sz n)) hF (fun W hb hz => (newIn_yes n sz _ W ((hb.block _ (at_lt hx)).trans hx) hsp hs hn).mono (by
      rintro e w' ⟨b, c, s, rfl, ha, hb2⟩
      exact ⟨_, rfl, hb2, b, c, s, rfl, by rw [hz] at ha; simpa using ha⟩)))
  clear hx hsp hF
  go_enter Tryz.func6, Tryz.ntmps6
  go_wp2_with (go_at_call 25; refine HC.out.mono ?_; rintro e w1 ⟨x, rfl, hb, w0, ⟨b, c, s, rfl, ha⟩, hnr⟩; have HB := hide hb; have HA := hide ha; have HN := hide hnr; clear hb ha hnr)
  have hfin : NewTold n sz w (.returned (.tuple #[.pointer (some ⟨b, 0, none⟩), .int .i64 0])) w1 :=
    ⟨b, c, s, rfl, by
      have h1 := HA.out.kept HN.out (fun g hg => .inr (by have := HA.out.low g hg; simp; omega))
      exact ⟨h1.blk, h1.cel, h1.row, fun g hg => by have := h1.low g hg; omega, h1.sep, h1.big, h1.many⟩, (below1 w _).trans (HB.out.mono (by simp))⟩
  go_ret2
  exact hfin
end Go.Proofs.YtihhbpadafgkoaaGreat
