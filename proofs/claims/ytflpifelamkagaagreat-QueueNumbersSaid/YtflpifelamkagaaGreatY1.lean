/-
  The document's queue, in memory; which one is next; Peek.
-/
import Derived.Test.YtflpifelamkagaaGreatV8
namespace Go.Proofs.YtflpifelamkagaaGreat
open Go.RowKit
set_option linter.unusedVariables false

structure RQue (w : World) (B x : Nat) (st : Bool) (sz n : Nat) (A : Option Addr) (c : Nat) (M : List QR) : Prop where
  blk : w.heap[x]? = some (.cells #[.int .u8 (kindI st), .int .i64 0, .int .i64 sz, .int .i64 n, .slice A M.length c] 49 (0, 0))
  out : w.ownsRow 0 36 1 (.slice A M.length c) M.length (M.map (QR.sl sz))
  row : ∀ r ∈ M, w.ownsRow 0 5 1 (QR.sl sz r) sz (u8s r.bs)
  low : ∀ g, OfQ x A M g → B ≤ g
  big : 1 ≤ sz ∧ sz ≤ 1024
  many : M.length ≤ n ∧ 1 ≤ n ∧ n ≤ 1024
section
variable {w w' : World} {B x sz n c : Nat} {st : Bool} {A : Option Addr} {M : List QR}
theorem RQue.lt (h : RQue w B x st sz n A c M) : ∀ g, OfQ x A M g → g < w.heap.size := by
  rintro g (rfl | hg | ⟨r, hr, rfl⟩)
  · exact at_lt h.blk
  · exact (h.out.lt g (own_of_slice.trans hg)).2
  · exact ((h.row r hr).lt r.g rfl).2
theorem RQue.kept {F : Nat → Prop} (h : RQue w B x st sz n A c M) (hk : Kept F w w') (hF : ∀ g, OfQ x A M g → F g) : RQue w' B x st sz n A c M :=
  ⟨(hk.block x (at_lt h.blk) (hF x (.inl rfl))).trans h.blk, owns_kept h.out hk (fun g hg => hF g (.inr (.inl (own_of_slice.trans hg)))),
    fun r hr => owns_kept (h.row r hr) hk (fun g hg => hF g (.inr (.inr ⟨r, hr, by simpa [QR.sl, Value.ownBlock] using hg⟩))), h.low, h.big, h.many⟩
theorem RQue.below (h : RQue w B x st sz n A c M) (hb : Below w.heap.size w w') : RQue w' B x st sz n A c M :=
  h.kept (F := fun _ => True) (Kept.of_below hb) (fun _ _ => trivial)
theorem RQue.c0 (h : RQue w B x st sz n A c M) : w.cell? ⟨x, 0, none⟩ = some (.int .u8 (kindI st)) := by rw [blk_cell h.blk]; rfl
theorem RQue.c2 (h : RQue w B x st sz n A c M) : w.cell? ⟨x, 2, none⟩ = some (.int .i64 sz) := by rw [blk_cell h.blk]; rfl
theorem RQue.c3 (h : RQue w B x st sz n A c M) : w.cell? ⟨x, 3, none⟩ = some (.int .i64 n) := by rw [blk_cell h.blk]; rfl
theorem RQue.c4 (h : RQue w B x st sz n A c M) : w.cell? ⟨x, 4, none⟩ = some (.slice A M.length c) := by rw [blk_cell h.blk]; rfl
theorem RQue.B_le (h : RQue w B x st sz n A c M) : B ≤ w.heap.size := Nat.le_of_lt (Nat.lt_of_le_of_lt (h.low x (.inl rfl)) (at_lt h.blk))
theorem RQue.addr (h : RQue w B x st sz n A c M) (h0 : 0 < M.length) : ∃ g, A = some ⟨g, 0, none⟩ := by
  rcases h.out.2 with ⟨_, h1⟩ | ⟨g, cap, cur, hv, _⟩
  · omega
  · injection hv with hv
    exact ⟨g, hv⟩
/-- The outer row stands in a block that is none of the rows' nor the queue's. -/
theorem RQue.out_x (h : RQue w B x st sz n A c M) : (Value.slice A 0 0).ownBlock ≠ some x := fun e => by
  rcases h.out.2 with ⟨h0, _⟩ | ⟨g, cap, cur, hv, _, hg, _⟩
  · injection h0 with h0
    subst h0
    cases e
  · injection hv with hv
    subst hv
    simp only [Value.ownBlock, Option.some.injEq] at e
    subst e
    rw [h.blk] at hg
    injection hg with hg
    injection hg with _ ht
    exact absurd ht (by decide)
theorem RQue.x_r (h : RQue w B x st sz n A c M) {r : QR} (hr : r ∈ M) : r.g ≠ x := fun e => by
  rcases (h.row r hr).2 with ⟨h0, _⟩ | ⟨g, cap, cur, hv, _, hg, _⟩
  · cases h0
  · injection hv with hv
    injection hv with hv
    injection hv with hv
    rw [← hv, e, h.blk] at hg
    injection hg with hg
    injection hg with _ ht
    exact absurd ht (by decide)
set_option maxRecDepth 100000 in
theorem next_any (h : RQue w B x st sz n A c M) (h0 : 0 < M.length) : Calls Tryz.prog 30 #[.pointer (some ⟨x, 0, none⟩)] w fun e w' => e = .returned (.int .i64 (atI st M.length)) ∧ w = w' := by
  have c0 := h.c0
  have c4 := h.c4
  have hm := h.many
  have hat : atI st M.length = if st then M.length - 1 else 0 := rfl
  rw [hat]
  generalize M.length = q at *
  cases st
  · simp only [kindI, Bool.false_eq_true, if_false] at c0 ⊢
    clear h hat hm
    go_enter Tryz.func30, Tryz.ntmps30
    go_wp2
    go_ret
    exact ⟨rfl, rfl⟩
  · simp only [kindI, if_true] at c0 ⊢
    have hq : (q : Int) ≤ 1024 := by omega
    have hq0 : (0 : Int) ≤ (q : Int) := by omega
    clear h hat hm
    go_enter Tryz.func30, Tryz.ntmps30
    go_wp2
    go_ret
    exact ⟨ret_int (by omega), rfl⟩
theorem rpeek_none (h : RQue w B x st sz n A c M) (h0 : M.length = 0) : Calls Tryz.prog 15 #[.pointer (some ⟨x, 0, none⟩)] w fun e w' => e = .returned (.tuple #[.slice none 0 0, .int .i64 6]) ∧ w = w' := by
  have c4 := h.c4
  rw [h0] at c4
  clear h h0
  go_enter Tryz.func15, Tryz.ntmps15
  go_wp2
  go_ret2
  exact ⟨rfl, rfl⟩
theorem atM_lt (h0 : 0 < M.length) : ∃ r, M[atI st M.length]? = some r := atI_lt h0
set_option maxRecDepth 100000 in
set_option maxHeartbeats 2000000 in
theorem rpeek_some (h : RQue w B x st sz n A c M) (h0 : 0 < M.length) : Calls Tryz.prog 15 #[.pointer (some ⟨x, 0, none⟩)] w (PeekTold st sz M w) := by
  obtain ⟨i0, hi, hz0, hz1, hz2⟩ := info_parts u8info
  obtain ⟨r, hr⟩ := atM_lt (st := st) h0
  have hmem := List.mem_of_getElem? hr
  have hlt : atI st M.length < M.length := (List.getElem?_eq_some_iff.1 hr).1
  obtain ⟨g, rfl⟩ := h.addr h0
  have hbig := h.big
  have HC : Hid (∀ w1, Below w.heap.size w w1 → w1.cell? ⟨x, 4, none⟩ = some (.slice (some ⟨g, 0, none⟩) M.length c) ∧ w1.cell? ⟨g, atI st M.length, none⟩ = some (.slice (some ⟨r.g, 0, none⟩) sz r.c) ∧
      Calls Tryz.prog 30 #[.pointer (some ⟨x, 0, none⟩)] w1 fun e w' => ∃ v, e = .returned v ∧ (v = .int .i64 (atI st M.length) ∧ w1 = w')) := hide (fun w1 hb => by
    have h1 := h.below hb
    refine ⟨h1.c4, ?_, (next_any h1 h0).mono (fun e w' hh => ⟨_, hh.1, rfl, hh.2⟩)⟩
    have := h1.out.cells (g := g) rfl (atI st M.length) (QR.sl sz r) (by rw [List.getElem?_map, hr]; rfl)
    rw [own_add, Nat.zero_add] at this
    exact this)
  have hb1 : Below w.heap.size w (w.alloc (.cells #[] 5)).drew := (below1 w (.cells #[] 5)).drew
  have hE : ∀ args (W : World), (callFunc 30 args).run Tryz.prog W = .ok (.enter 30 args) W := enters_of Tryz.func30 (by kernel_rfl) rfl
  have hemp : (w.alloc (.cells #[] 5)).drew.ownsRow 0 5 1 (.slice (some ⟨w.heap.size, 0, none⟩) 0 0) 0 [] := owns_kept_below (owns_empty w) ((Below.refl _ _).drew)
  obtain ⟨v', w3, hrun, hl⟩ := run_append_rd (P := Tryz.prog) (w.alloc (.cells #[] 5)).drew 36 36 5 i0 _ 1 1 Tryz.underlying36 hi hz0 hz1 hz2 rfl (by decide) (.slice (some ⟨w.heap.size, 0, none⟩) 0 0) 0 [] hemp
    (w.alloc (.cells #[] 5)).drew.heap.size (some ⟨r.g, 0, none⟩) sz r.c (u8s r.bs) (Rd.of_own ((h.below hb1).row r hmem)) (fun e => by cases e) (u8s_one r.bs) (by unfold maxLen; omega) (by omega)
  have hfin : PeekTold st sz M w (.returned (.tuple #[v', .int .i64 0])) w3 := by
    obtain ⟨l1, l2, l3⟩ := hl
    rw [Nat.zero_add, List.nil_append] at l1
    have hbw : Below w.heap.size w w3 := hb1.grown l2 hb1.size (fun k e => by cases e; exact Nat.le_refl _)
    rcases l1.2 with ⟨_, h0⟩ | ⟨g', cap, cur, rfl, _⟩
    · omega
    · refine ⟨r, g', cap, hr, rfl, l1, ?_, hbw⟩
      rcases l3 with l3 | l3
      · simp only [Value.ownBlock, Option.some.injEq] at l3
        omega
      · simp only [Value.ownBlock, Option.some.injEq] at l3
        have := hb1.size
        omega
  obtain ⟨k1, k2, k3⟩ := HC.out w.drew ((Below.refl _ w).drew)
  obtain ⟨k4, k5, k6⟩ := HC.out _ hb1
  have HN := hide (And.intro k3 k6)
  obtain ⟨k0, _, _⟩ := HC.out w (Below.refl _ w)
  have q0 : (0 : Int) ≤ (atI st M.length : Nat) := by omega
  have q1 : ((atI st M.length : Nat) : Int) < (M.length : Int) := by omega
  have q2 : 0 < M.length := h0
  have HF := hide hfin
  clear h h0 hr hmem hlt hl hfin hemp hb1 HC k3 k6
  generalize M.length = q at *
  generalize atI st q = i at *
  go_enter Tryz.func15, Tryz.ntmps15
  go_wp2_with fail
  go_region_law (first
    | (refine step_append_run _ w3 (by rfl) (.tmp 10) (.tmp 18) 36 (by rfl) _ _ _ (by rfl) (by rfl) hrun ?_)
    | (refine step_enter (f := 30) (args := #[.pointer (some ⟨x, 0, none⟩)]) (R := fun v w1 => v = .int .i64 i ∧ (w.alloc (.cells #[] 5)).drew = w1) (by rfl) (by simp [go_sem, hE]) HN.out.2 ?_; rintro v w1 ⟨rfl, rfl⟩)
    | (refine step_enter (f := 30) (args := #[.pointer (some ⟨x, 0, none⟩)]) (R := fun v w1 => v = .int .i64 i ∧ w.drew = w1) (by rfl) (by simp [go_sem, hE]) HN.out.1 ?_; rintro v w1 ⟨rfl, rfl⟩))
  all_goals
    go_wp2_with fail
    go_ret2
    exact HF.out
end
end Go.Proofs.YtflpifelamkagaaGreat
