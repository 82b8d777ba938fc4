/-
  The document's New.
-/
import Derived.Test.YtihhbpadafgkoaaGreatRF3
namespace Go.Proofs.YtihhbpadafgkoaaGreat
open Go.RowKit Go.Maps
set_option linter.unusedVariables false

theorem rnew_no (k key val ent : Int) (w : World) (hk : 0 ≤ k ∧ k < 256) (he : newE k key val ent ≠ 0) :
    Calls Tryz.prog 7 #[.agg #[.int .u8 k, .int .i64 key, .int .i64 val, .int .i64 ent]] w fun e w' => e = .returned (.tuple #[.pointer none, .int .i64 (newE k key val ent)]) ∧ Below w.heap.size w w' := by
  have hx := World.alloc_heap_new w (.cells #[.int .u8 k, .int .i64 key, .int .i64 val, .int .i64 ent] 25)
  have hb0 := below1 w (.cells #[.int .u8 k, .int .i64 key, .int .i64 val, .int .i64 ent] 25)
  have HS := hide (rspec_any k key val ent (w.alloc (.cells #[.int .u8 k, .int .i64 key, .int .i64 val, .int .i64 ent] 25)) hk)
  have HX := hide hx
  have HB0 := hide hb0
  have HE : Hid (newE k key val ent = if specM k key val ent = 0 then (if k = 1 then 0 else 9) else specM k key val ent) := hide rfl
  generalize newE k key val ent = ne at *
  generalize specM k key val ent = sm at *
  by_cases hs : sm = 0
  · subst hs
    have hk1 : k ≠ 1 := fun h => he (by rw [HE.out, if_pos rfl, if_pos h])
    obtain rfl : ne = 9 := by rw [HE.out, if_pos rfl, if_neg hk1]
    have hkb : (k != 1) = true := by simpa using hk1
    clear he HE hk1 hx hb0
    go_enter Tryz.func7, Tryz.ntmps7
    go_wp2_with (go_at_call 30; refine HS.out.mono ?_; rintro e w1 ⟨rfl, hb⟩; have HB := hide hb; have d0 := (blk_cell ((hb.block _ (at_lt HX.out)).trans HX.out) 0).trans rfl; clear hb)
    go_ret2
    exact ⟨rfl, HB0.out.trans (HB.out.mono HB0.out.size)⟩
  · obtain rfl : ne = sm := by rw [HE.out, if_neg hs]
    have hkb : (ne != 0) = true := by simpa using hs
    clear he HE hs hx hb0
    go_enter Tryz.func7, Tryz.ntmps7
    go_wp2_with (go_at_call 30; refine HS.out.mono ?_; rintro e w1 ⟨rfl, hb⟩; have HB := hide hb; clear hb)
    go_ret2
    exact ⟨rfl, HB0.out.trans (HB.out.mono HB0.out.size)⟩
def TNew (Bx sz n S : Nat) (j : Nat) (σ : Nat → Value) (W : World) : Prop :=
  match j with
  | 0 => σ 0 = .agg #[.int .u8 1, .int .i64 4, .int .i64 sz, .int .i64 n]
  | 1 => σ 1 = .pointer (some ⟨Bx, 2, none⟩)
  | 2 => σ 2 = .int .i64 (sz : Int)
  | 3 => σ 3 = .pointer (some ⟨Bx, 3, none⟩)
  | 4 => σ 4 = .int .i64 (n : Int)
  | 5 => σ 5 = .int .i64 ((sz * n : Nat) : Int)
  | 6 => σ 6 = .slice (some ⟨S, 0, none⟩) (sz * n) (sz * n)
  | 7 => σ 7 = .agg #[.int .u8 1, .int .i64 4, .int .i64 sz, .int .i64 n, .slice (some ⟨S, 0, none⟩) (sz * n) (sz * n)]
  | 8 => σ 8 = .pointer (some ⟨S + 1, 0, none⟩) ∧ W.heap[S + 1]? = some (.cells #[.int .u8 1, .int .i64 4, .int .i64 sz, .int .i64 n, .slice (some ⟨S, 0, none⟩) (sz * n) (sz * n)] 73 (0, 0)) ∧ W.heap[S]? = some (.cells (u8s (List.replicate (sz * n) 0)).toArray 5 (0, 0))
  | 9 => σ 9 = .pointer (some ⟨S + 1, 0, none⟩) ∧ W.heap[S + 1]? = some (.cells #[.int .u8 1, .int .i64 4, .int .i64 sz, .int .i64 n, .slice (some ⟨S, 0, none⟩) (sz * n) (sz * n)] 73 (0, 0)) ∧ W.heap[S]? = some (.cells (u8s (List.replicate (sz * n) 0)).toArray 5 (0, 0))
  | 10 => σ 10 = .int .i64 0
  | _ => True
theorem TNew.below {Bx sz n S : Nat} {j : Nat} {σ : Nat → Value} {W W' : World} (h : TNew Bx sz n S j σ W) (hb : Below W.heap.size W W') : TNew Bx sz n S j σ W' := by
  unfold TNew at h ⊢
  split at h
  all_goals first
    | exact h
    | exact ⟨h.1, (hb.block _ (at_lt h.2.1)).trans h.2.1, (hb.block _ (at_lt h.2.2)).trans h.2.2⟩
def GNew (sz n : Nat) (w1 : World) (L : Nat → Bool) (W : World) : Prop :=
  Below w1.heap.size w1 W ∧ (L 8 = false → if L 6 = true then W.heap.size = w1.heap.size + 1 ∧ W.heap[w1.heap.size]? = some (.cells (u8s (List.replicate (sz * n) 0)).toArray 5 (0, 0)) else W.heap.size = w1.heap.size)
theorem GNew.same {sz n : Nat} {w1 : World} {i : Nat} {L : Nat → Bool} {W : World} (h : GNew sz n w1 L W) (h0 : i ≠ 6) (h1 : i ≠ 8) : GNew sz n w1 (fun j => L j || j == i) W := by
  have e1 : (6 == i) = false := by simpa using fun e => h0 e.symm
  have e2 : (8 == i) = false := by simpa using fun e => h1 e.symm
  refine ⟨h.1, ?_⟩
  simp only [e1, e2, Bool.or_false]
  exact h.2
/-- What the document's New tells of a right make. -/
def RNewTold (n sz : Nat) (w : World) (e : Ending) (w' : World) : Prop := ∃ x RA rc, e = .returned (.tuple #[.pointer (some ⟨x, 0, none⟩), .int .i64 0]) ∧ RArr w' w.heap.size x sz n RA rc (List.replicate (sz * n) 0) ∧ Below w.heap.size w w'
set_option maxRecDepth 100000 in
set_option maxHeartbeats 4000000 in
theorem rnew_yes (n sz : Nat) (w : World) (hsp : specM 1 4 sz n = 0) (hs : 1 ≤ sz ∧ sz ≤ 1024) (hn : 1 ≤ n ∧ n ≤ 1024) :
    Calls Tryz.prog 7 #[.agg #[.int .u8 1, .int .i64 4, .int .i64 sz, .int .i64 n]] w (RNewTold n sz w) := by
  have hprod2 : sz * n ≤ 1048576 := by
    have : sz * n ≤ 1024 * 1024 := Nat.mul_le_mul hs.2 hn.2
    omega
  have hx := World.alloc_heap_new w (.cells #[.int .u8 1, .int .i64 4, .int .i64 sz, .int .i64 n] 25)
  have hb0 := below1 w (.cells #[.int .u8 1, .int .i64 4, .int .i64 sz, .int .i64 n] 25)
  have hS := rspec_any 1 4 sz n (w.alloc (.cells #[.int .u8 1, .int .i64 4, .int .i64 sz, .int .i64 n] 25)) (by decide)
  rw [hsp] at hS
  have HS := hide hS
  have HX0 := hide hx
  have HB0 := hide hb0
  have p1 : IntKind.i64.wrap ((sz : Int) * (n : Int)) = (sz : Int) * (n : Int) := by
    have : (sz : Int) * (n : Int) = ((sz * n : Nat) : Int) := by simp
    rw [this]; exact IntWalk.i64_in _ (by omega)
  clear hx hb0 hS hsp
  go_enter Tryz.func7, Tryz.ntmps7
  go_wp2_with (go_at_call 30; refine HS.out.mono ?_; rintro e w1 ⟨rfl, hb⟩; have HB := hide hb; have hxx := (hb.block _ (at_lt HX0.out)).trans HX0.out; have d0 := (blk_cell hxx 0).trans rfl; have HX := hide hxx; clear hb hxx)
  rename_i K hK
  clear d0
  refine wp_tells4 (by kernel_rfl) (TNew w.heap.size sz n w1.heap.size) (GNew sz n w1) (by kernel_rfl) (by kernel_rfl) (by kernel_rfl) (by kernel_rfl) ?_ ?_ ?_ ?_
  · intro q oj σ σ' W hj h hs
    have hi : q < 11 := (Array.getElem?_eq_some_iff.1 hj).1
    have h0 := hs q (.inl rfl)
    have hi' : q = 0 ∨ q = 1 ∨ q = 2 ∨ q = 3 ∨ q = 4 ∨ q = 5 ∨ q = 6 ∨ q = 7 ∨ q = 8 ∨ q = 9 ∨ q = 10 := by omega
    rcases hi' with rfl | rfl | rfl | rfl | rfl | rfl | rfl | rfl | rfl | rfl | rfl
    all_goals (simp only [TNew] at h ⊢; rw [h0]; exact h)
  · exact ⟨(Below.refl _ _).drew, fun _ => rfl⟩
  · intro q o ho L a W hi hG hold hT hcl hh
    have hi2 : q < 11 := (Array.getElem?_eq_some_iff.1 ho).1
    have hi' : q = 0 ∨ q = 1 ∨ q = 2 ∨ q = 3 ∨ q = 4 ∨ q = 5 ∨ q = 6 ∨ q = 7 ∨ q = 8 ∨ q = 9 ∨ q = 10 := by omega
    rcases hi' with rfl | rfl | rfl | rfl | rfl | rfl | rfl | rfl | rfl | rfl | rfl
    · cases ho
      have k0 : W.cell? ⟨w.heap.size, 0, none⟩ = some (.int .u8 1) := (blk_cell ((hG.1.block _ (at_lt HX.out)).trans HX.out) 0).trans rfl
      have k1 : W.cell? ⟨w.heap.size, 1, none⟩ = some (.int .i64 4) := (blk_cell ((hG.1.block _ (at_lt HX.out)).trans HX.out) 1).trans rfl
      have k2 : W.cell? ⟨w.heap.size, 2, none⟩ = some (.int .i64 (sz : Int)) := (blk_cell ((hG.1.block _ (at_lt HX.out)).trans HX.out) 2).trans rfl
      have k3 : W.cell? ⟨w.heap.size, 3, none⟩ = some (.int .i64 (n : Int)) := (blk_cell ((hG.1.block _ (at_lt HX.out)).trans HX.out) 3).trans rfl
      refine step4_told (.agg #[.int .u8 1, .int .i64 4, .int .i64 sz, .int .i64 n]) ?_ (by decide) (hG.same (by decide) (by decide)) hT rfl
      have e0 : a.eval (.tmp 1) = .pointer (some ⟨w.heap.size, 0, none⟩) := hold 1 (unyet_of (by kernel_rfl))
      generalize a.eval = ev at e0 ⊢
      simp [execOp, go_sem, e0, k0, k1, k2, k3]
    · cases ho
      refine step4_told (.pointer (some ⟨w.heap.size, 2, none⟩)) ?_ (by decide) (hG.same (by decide) (by decide)) hT rfl
      have e0 : a.eval (.tmp 1) = .pointer (some ⟨w.heap.size, 0, none⟩) := hold 1 (unyet_of (by kernel_rfl))
      generalize a.eval = ev at e0 ⊢
      simp [execOp, go_sem, e0]
    · cases ho
      have k2 : W.cell? ⟨w.heap.size, 2, none⟩ = some (.int .i64 (sz : Int)) := (blk_cell ((hG.1.block _ (at_lt HX.out)).trans HX.out) 2).trans rfl
      refine step4_told (.int .i64 (sz : Int)) ?_ (by decide) (hG.same (by decide) (by decide)) hT rfl
      have e0 : a.eval (.tmp 14) = .pointer (some ⟨w.heap.size, 2, none⟩) := hT 1 (hh 1 rfl)
      generalize a.eval = ev at e0 ⊢
      simp [execOp, go_sem, e0, k2]
    · cases ho
      refine step4_told (.pointer (some ⟨w.heap.size, 3, none⟩)) ?_ (by decide) (hG.same (by decide) (by decide)) hT rfl
      have e0 : a.eval (.tmp 1) = .pointer (some ⟨w.heap.size, 0, none⟩) := hold 1 (unyet_of (by kernel_rfl))
      generalize a.eval = ev at e0 ⊢
      simp [execOp, go_sem, e0]
    · cases ho
      have k3 : W.cell? ⟨w.heap.size, 3, none⟩ = some (.int .i64 (n : Int)) := (blk_cell ((hG.1.block _ (at_lt HX.out)).trans HX.out) 3).trans rfl
      refine step4_told (.int .i64 (n : Int)) ?_ (by decide) (hG.same (by decide) (by decide)) hT rfl
      have e0 : a.eval (.tmp 16) = .pointer (some ⟨w.heap.size, 3, none⟩) := hT 3 (hh 3 rfl)
      generalize a.eval = ev at e0 ⊢
      simp [execOp, go_sem, e0, k3]
    · cases ho
      refine step4_told (.int .i64 ((sz * n : Nat) : Int)) ?_ (by decide) (hG.same (by decide) (by decide)) hT rfl
      have e0 : a.eval (.tmp 15) = .int .i64 (sz : Int) := hT 2 (hh 2 rfl)
      have e1 : a.eval (.tmp 17) = .int .i64 (n : Int) := hT 4 (hh 4 rfl)
      generalize a.eval = ev at e0 e1 ⊢
      simp [execOp, go_sem, e0, e1, p1]
    · cases ho
      obtain ⟨g1, g2⟩ := hG
      have h8 : L 8 = false := by
        cases h : L 8 with
        | false => rfl
        | true =>
          have h7 := hcl 8 _ h rfl 7 (by kernel_rfl)
          have := hcl 7 _ h7 rfl 6 (by kernel_rfl)
          rw [hi] at this; cases this
      have hz := g2 h8
      rw [if_neg (by simp [hi])] at hz
      have hmk := zeros_made Tryz.underlying34 (sz * n) (by omega) W
      refine step4_turned (.slice (some ⟨w1.heap.size, 0, none⟩) (sz * n) (sz * n)) (W.alloc (.cells (u8s (List.replicate (sz * n) 0)).toArray 5)) ?_ (by decide) ⟨g1.alloc g1.size _, fun _ => ?_⟩ (fun j hj => (hT j hj).below (below1 W _)) rfl
      · have e0 : a.eval (.tmp 18) = .int .i64 ((sz * n : Nat) : Int) := hT 5 (hh 5 rfl)
        generalize a.eval = ev at e0 ⊢
        simp only [hz] at hmk
        simp [execOp, go_sem, e0]
        simp only [Int.natCast_mul] at hmk
        simp [hmk]
      · rw [if_pos (by simp)]
        have := World.alloc_heap_new W (.cells (u8s (List.replicate (sz * n) 0)).toArray 5)
        rw [hz] at this
        exact ⟨by simp [hz], this⟩
    · cases ho
      refine step4_told (.agg #[.int .u8 1, .int .i64 4, .int .i64 sz, .int .i64 n, .slice (some ⟨w1.heap.size, 0, none⟩) (sz * n) (sz * n)]) ?_ (by decide) (hG.same (by decide) (by decide)) hT rfl
      have e0 : a.eval (.tmp 13) = .agg #[.int .u8 1, .int .i64 4, .int .i64 sz, .int .i64 n] := hT 0 (hh 0 rfl)
      have e1 : a.eval (.tmp 19) = .slice (some ⟨w1.heap.size, 0, none⟩) (sz * n) (sz * n) := hT 6 (hh 6 rfl)
      generalize a.eval = ev at e0 e1 ⊢
      simp [execOp, go_sem, e0, e1]
    · cases ho
      obtain ⟨g1, g2⟩ := hG
      have hz := g2 hi
      have h6 := hcl
      have hl6 : L 6 = true := hcl 7 _ (hh 7 rfl) rfl 6 (by kernel_rfl)
      rw [if_pos hl6] at hz
      have hnew := World.alloc_heap_new W (.cells #[.int .u8 1, .int .i64 4, .int .i64 sz, .int .i64 n, .slice (some ⟨w1.heap.size, 0, none⟩) (sz * n) (sz * n)] 73)
      rw [hz.1] at hnew
      refine step4_turned (.pointer (some ⟨w1.heap.size + 1, 0, none⟩)) (W.alloc (.cells #[.int .u8 1, .int .i64 4, .int .i64 sz, .int .i64 n, .slice (some ⟨w1.heap.size, 0, none⟩) (sz * n) (sz * n)] 73)) ?_ (by decide) ⟨g1.alloc g1.size _, fun hx => by simp at hx⟩ (fun j hj => (hT j hj).below (below1 W _)) ⟨rfl, hnew, (Below.heap_alloc _ _ _ (at_lt hz.2)).trans hz.2⟩
      have e0 : a.eval (.tmp 20) = .agg #[.int .u8 1, .int .i64 4, .int .i64 sz, .int .i64 n, .slice (some ⟨w1.heap.size, 0, none⟩) (sz * n) (sz * n)] := hT 7 (hh 7 rfl)
      generalize a.eval = ev at e0 ⊢
      simp [execOp, go_sem, e0, hz.1]
    · cases ho
      obtain ⟨h1, h2, h3⟩ : a.eval (.tmp 21) = .pointer (some ⟨w1.heap.size + 1, 0, none⟩) ∧ W.heap[w1.heap.size + 1]? = some (.cells #[.int .u8 1, .int .i64 4, .int .i64 sz, .int .i64 n, .slice (some ⟨w1.heap.size, 0, none⟩) (sz * n) (sz * n)] 73 (0, 0)) ∧ W.heap[w1.heap.size]? = some (.cells (u8s (List.replicate (sz * n) 0)).toArray 5 (0, 0)) := hT 8 (hh 8 rfl)
      refine step4_told (.pointer (some ⟨w1.heap.size + 1, 0, none⟩)) ?_ (by decide) (hG.same (by decide) (by decide)) hT ⟨rfl, h2, h3⟩
      generalize a.eval = ev at h1 ⊢
      simp [execOp, go_sem, h1]
    · cases ho
      refine step4_told (.int .i64 0) ?_ (by decide) (hG.same (by decide) (by decide)) hT rfl
      have ec : a.eval (.const (.int .i64 0)) = .int .i64 0 := rfl
      generalize a.eval = ev at ec ⊢
      simp [execOp, go_sem, ec]
  · intro a W hd hs2 hold hT hG
    obtain ⟨e2, hbk, hzk⟩ : a.tmps.getD 2 undef = .pointer (some ⟨w1.heap.size + 1, 0, none⟩) ∧ W.heap[w1.heap.size + 1]? = some (.cells #[.int .u8 1, .int .i64 4, .int .i64 sz, .int .i64 n, .slice (some ⟨w1.heap.size, 0, none⟩) (sz * n) (sz * n)] 73 (0, 0)) ∧ W.heap[w1.heap.size]? = some (.cells (u8s (List.replicate (sz * n) 0)).toArray 5 (0, 0)) := hT 9 (by decide)
    have e3 : a.tmps.getD 3 undef = .int .i64 0 := hT 10 (by decide)
    obtain ⟨f, hf, ha⟩ := act_puts [13, 14, 15, 16, 17, 18, 19, 20, 21, 2, 3] (fun t ht => by
      by_cases h : t ∈ [13, 14, 15, 16, 17, 18, 19, 20, 21, 2, 3]
      · exact h
      · exfalso
        simp [unwritten] at ht
        simp only [List.mem_cons, not_or] at h
        obtain ⟨h0, h1, h2, h3, h4, h5, h6, h7, h8, h9, h10, _⟩ := h
        exact absurd (ht (fun e => h0 e.symm) (fun e => h1 e.symm) (fun e => h2 e.symm) (fun e => h3 e.symm) (fun e => h4 e.symm) (fun e => h5 e.symm) (fun e => h6 e.symm) (fun e => h7 e.symm) (fun e => h8 e.symm) (fun e => h9 e.symm)) (fun e => h10 e.symm)) (fun t ht => by
      have hsz : t < 22 := by
        simp only [List.mem_cons, List.mem_nil_iff, or_false] at ht
        omega
      exact hsz) hd hs2 hold
    rw [← hf 2] at e2
    rw [← hf 3] at e3
    have hB : Below w.heap.size w W := HB0.out.trans ((HB.out.trans (hG.1.mono HB.out.size)).mono HB0.out.size)
    have hw1 : w.heap.size ≤ w1.heap.size := Nat.le_trans HB0.out.size HB.out.size
    have hfin : RNewTold n sz w (.returned (.tuple #[.pointer (some ⟨w1.heap.size + 1, 0, none⟩), .int .i64 0])) W := by
      refine ⟨_, some ⟨w1.heap.size, 0, none⟩, sz * n, rfl, ⟨hbk, ⟨by simp [u8s], .inr ⟨w1.heap.size, sz * n, (u8s (List.replicate (sz * n) 0)).toArray, rfl, Nat.zero_le _, hzk, Nat.le_refl _, by unfold maxLen; omega, by simp [u8s], by simp [u8s]⟩⟩, ?_, hs, hn⟩, hB⟩
      rintro g (rfl | hg)
      · omega
      · simp [Value.ownBlock] at hg; omega
    subst ha
    clear hd hs2 hold hT hf hG p1 hbk hzk
    show K _ _
    refine hK _ _ ?_
    simp only [List.foldl_cons, List.foldl_nil, e2, e3]
    obtain ⟨u13, hu13⟩ : ∃ u, u = f 13 := ⟨_, rfl⟩
    obtain ⟨u14, hu14⟩ : ∃ u, u = f 14 := ⟨_, rfl⟩
    obtain ⟨u15, hu15⟩ : ∃ u, u = f 15 := ⟨_, rfl⟩
    obtain ⟨u16, hu16⟩ : ∃ u, u = f 16 := ⟨_, rfl⟩
    obtain ⟨u17, hu17⟩ : ∃ u, u = f 17 := ⟨_, rfl⟩
    obtain ⟨u18, hu18⟩ : ∃ u, u = f 18 := ⟨_, rfl⟩
    obtain ⟨u19, hu19⟩ : ∃ u, u = f 19 := ⟨_, rfl⟩
    obtain ⟨u20, hu20⟩ : ∃ u, u = f 20 := ⟨_, rfl⟩
    obtain ⟨u21, hu21⟩ : ∃ u, u = f 21 := ⟨_, rfl⟩
    rw [← hu13, ← hu14, ← hu15, ← hu16, ← hu17, ← hu18, ← hu19, ← hu20, ← hu21]
    clear hu13 hu14 hu15 hu16 hu17 hu18 hu19 hu20 hu21 e2 e3
    go_simp
    go_wp2
    go_ret2
    exact hfin
end Go.Proofs.YtihhbpadafgkoaaGreat
