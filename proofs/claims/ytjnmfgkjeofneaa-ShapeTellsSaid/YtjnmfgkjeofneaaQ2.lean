/-
  The document's functions of a slot: is there such an Op, are its parts right, does it jump?
-/
import Derived.Test.YtjnmfgkjeofneaaQ1
namespace Go.Proofs.Ytjnmfgkjeofneaa
open Go.RowKit Go.Maps
set_option linter.unusedVariables false

theorem Later.calls0 {P : Program} {f : FuncId} {args : Array Value} {w0 : World} {v : Value} (h : ∀ w, Calls P f args w fun e w' => e = .returned v ∧ Below w.heap.size w w') :
    Calls P f args w0 fun e w' => e = .returned v ∧ ∃ y : Later w0, w' = y.w := (h w0).mono fun e w' ⟨he, hb⟩ => ⟨he, ⟨w', hb⟩, rfl⟩
section
variable (op dst src off imm : Int) (w : World)
set_option maxRecDepth 100000 in
set_option maxHeartbeats 2000000 in
theorem opcode_any (ho : 0 ≤ op ∧ op < 256) : Calls Try.prog 53 #[.agg #[.int .u8 op, .int .u8 dst, .int .u8 src, .int .i16 off, .int .i32 imm]] w fun e w' => e = .returned (.bool (opcodeR op)) ∧ Below w.heap.size w w' := by
  have hC := hide (fun d s f i w => class_any op d s f i w)
  have hH := hide (fun d s f i w => hi_any op d s f i w)
  have hR := hide (fun d s f i w => reg_any op d s f i w)
  have hW := hide (fun w => wide_any op dst src off imm w)
  have hM := hide (fun w => memory_any op w true)
  have hN := hide (fun w => memory_any op w false)
  have hK := hide (fun w => condition_any w (hiI op))
  unfold opcodeR
  have h8 := cls_eight op ho
  obtain ⟨c0, c1, c2, c3, c4⟩ := later5 (World.alloc_heap_new w (.cells #[.int .u8 op, .int .u8 dst, .int .u8 src, .int .i16 off, .int .i32 imm] 42))
  generalize clsI op = c at *
  generalize memR op true = m1 at *
  generalize memR op false = m2 at *
  generalize hiI op = o at *
  generalize rsB op = r at *
  generalize condR o = k at *
  clear ho
  rcases h8 with rfl | rfl | rfl | rfl | rfl | rfl | rfl | rfl
  · skip
    go_enter Try.func53, Try.ntmps53
    go_wp2_with (first
          | (go_at_call 29; (first | (with_reducible refine (Later.calls _ (hC.out _ _ _ _)).mono ?_) | (with_reducible refine (Later.calls0 (hC.out _ _ _ _)).mono ?_)); rintro e w1 ⟨rfl, x, rfl⟩)
          | (go_at_call 30; (first | (with_reducible refine (Later.calls _ (hH.out _ _ _ _)).mono ?_) | (with_reducible refine (Later.calls0 (hH.out _ _ _ _)).mono ?_)); rintro e w1 ⟨rfl, x, rfl⟩)
          | (go_at_call 69; (first | (with_reducible refine (Later.calls _ (hR.out _ _ _ _)).mono ?_) | (with_reducible refine (Later.calls0 (hR.out _ _ _ _)).mono ?_)); rintro e w1 ⟨rfl, x, rfl⟩)
          | (go_at_call 52; (first | (with_reducible refine (Later.calls _ (hW.out)).mono ?_) | (with_reducible refine (Later.calls0 (hW.out)).mono ?_)); rintro e w1 ⟨rfl, x, rfl⟩)
          | (go_at_call 68; (first | (with_reducible refine (hM.out _).mono ?_) | (with_reducible refine (hN.out _).mono ?_)); rintro e w' ⟨rfl, rfl⟩))
    all_goals
      go_ret
      try simp only [beq_iff_eq, beq_eq_false_iff_ne, bne_iff_ne, bne_eq_false_iff_eq, ne_eq] at *
      exact ⟨by simp [*] <;> omega, by first | exact below1c (Later.below _) | exact below1 _ _⟩
  · skip
    go_enter Try.func53, Try.ntmps53
    go_wp2_with (first
          | (go_at_call 29; (first | (with_reducible refine (Later.calls _ (hC.out _ _ _ _)).mono ?_) | (with_reducible refine (Later.calls0 (hC.out _ _ _ _)).mono ?_)); rintro e w1 ⟨rfl, x, rfl⟩)
          | (go_at_call 30; (first | (with_reducible refine (Later.calls _ (hH.out _ _ _ _)).mono ?_) | (with_reducible refine (Later.calls0 (hH.out _ _ _ _)).mono ?_)); rintro e w1 ⟨rfl, x, rfl⟩)
          | (go_at_call 69; (first | (with_reducible refine (Later.calls _ (hR.out _ _ _ _)).mono ?_) | (with_reducible refine (Later.calls0 (hR.out _ _ _ _)).mono ?_)); rintro e w1 ⟨rfl, x, rfl⟩)
          | (go_at_call 52; (first | (with_reducible refine (Later.calls _ (hW.out)).mono ?_) | (with_reducible refine (Later.calls0 (hW.out)).mono ?_)); rintro e w1 ⟨rfl, x, rfl⟩)
          | (go_at_call 68; (first | (with_reducible refine (hM.out _).mono ?_) | (with_reducible refine (hN.out _).mono ?_)); rintro e w' ⟨rfl, rfl⟩))
    all_goals
      go_ret
      try simp only [beq_iff_eq, beq_eq_false_iff_ne, bne_iff_ne, bne_eq_false_iff_eq, ne_eq] at *
      exact ⟨by simp [*] <;> omega, by first | exact below1c (Later.below _) | exact below1 _ _⟩
  · skip
    go_enter Try.func53, Try.ntmps53
    go_wp2_with (first
          | (go_at_call 29; (first | (with_reducible refine (Later.calls _ (hC.out _ _ _ _)).mono ?_) | (with_reducible refine (Later.calls0 (hC.out _ _ _ _)).mono ?_)); rintro e w1 ⟨rfl, x, rfl⟩)
          | (go_at_call 30; (first | (with_reducible refine (Later.calls _ (hH.out _ _ _ _)).mono ?_) | (with_reducible refine (Later.calls0 (hH.out _ _ _ _)).mono ?_)); rintro e w1 ⟨rfl, x, rfl⟩)
          | (go_at_call 69; (first | (with_reducible refine (Later.calls _ (hR.out _ _ _ _)).mono ?_) | (with_reducible refine (Later.calls0 (hR.out _ _ _ _)).mono ?_)); rintro e w1 ⟨rfl, x, rfl⟩)
          | (go_at_call 52; (first | (with_reducible refine (Later.calls _ (hW.out)).mono ?_) | (with_reducible refine (Later.calls0 (hW.out)).mono ?_)); rintro e w1 ⟨rfl, x, rfl⟩)
          | (go_at_call 68; (first | (with_reducible refine (hM.out _).mono ?_) | (with_reducible refine (hN.out _).mono ?_)); rintro e w' ⟨rfl, rfl⟩))
    all_goals
      go_ret
      try simp only [beq_iff_eq, beq_eq_false_iff_ne, bne_iff_ne, bne_eq_false_iff_eq, ne_eq] at *
      exact ⟨by simp [*] <;> omega, by first | exact below1c (Later.below _) | exact below1 _ _⟩
  · skip
    go_enter Try.func53, Try.ntmps53
    go_wp2_with (first
          | (go_at_call 29; (first | (with_reducible refine (Later.calls _ (hC.out _ _ _ _)).mono ?_) | (with_reducible refine (Later.calls0 (hC.out _ _ _ _)).mono ?_)); rintro e w1 ⟨rfl, x, rfl⟩)
          | (go_at_call 30; (first | (with_reducible refine (Later.calls _ (hH.out _ _ _ _)).mono ?_) | (with_reducible refine (Later.calls0 (hH.out _ _ _ _)).mono ?_)); rintro e w1 ⟨rfl, x, rfl⟩)
          | (go_at_call 69; (first | (with_reducible refine (Later.calls _ (hR.out _ _ _ _)).mono ?_) | (with_reducible refine (Later.calls0 (hR.out _ _ _ _)).mono ?_)); rintro e w1 ⟨rfl, x, rfl⟩)
          | (go_at_call 52; (first | (with_reducible refine (Later.calls _ (hW.out)).mono ?_) | (with_reducible refine (Later.calls0 (hW.out)).mono ?_)); rintro e w1 ⟨rfl, x, rfl⟩)
          | (go_at_call 68; (first | (with_reducible refine (hM.out _).mono ?_) | (with_reducible refine (hN.out _).mono ?_)); rintro e w' ⟨rfl, rfl⟩))
    all_goals
      go_ret
      try simp only [beq_iff_eq, beq_eq_false_iff_ne, bne_iff_ne, bne_eq_false_iff_eq, ne_eq] at *
      exact ⟨by simp [*] <;> omega, by first | exact below1c (Later.below _) | exact below1 _ _⟩
  · skip
    go_enter Try.func53, Try.ntmps53
    go_wp2_with (first
          | (go_at_call 29; (first | (with_reducible refine (Later.calls _ (hC.out _ _ _ _)).mono ?_) | (with_reducible refine (Later.calls0 (hC.out _ _ _ _)).mono ?_)); rintro e w1 ⟨rfl, x, rfl⟩)
          | (go_at_call 30; (first | (with_reducible refine (Later.calls _ (hH.out _ _ _ _)).mono ?_) | (with_reducible refine (Later.calls0 (hH.out _ _ _ _)).mono ?_)); rintro e w1 ⟨rfl, x, rfl⟩)
          | (go_at_call 69; (first | (with_reducible refine (Later.calls _ (hR.out _ _ _ _)).mono ?_) | (with_reducible refine (Later.calls0 (hR.out _ _ _ _)).mono ?_)); rintro e w1 ⟨rfl, x, rfl⟩)
          | (go_at_call 52; (first | (with_reducible refine (Later.calls _ (hW.out)).mono ?_) | (with_reducible refine (Later.calls0 (hW.out)).mono ?_)); rintro e w1 ⟨rfl, x, rfl⟩)
          | (go_at_call 68; (first | (with_reducible refine (hM.out _).mono ?_) | (with_reducible refine (hN.out _).mono ?_)); rintro e w' ⟨rfl, rfl⟩))
    all_goals
      go_ret
      try simp only [beq_iff_eq, beq_eq_false_iff_ne, bne_iff_ne, bne_eq_false_iff_eq, ne_eq] at *
      exact ⟨by simp [*] <;> omega, by first | exact below1c (Later.below _) | exact below1 _ _⟩
  · cases k <;> cases r
    all_goals
      go_enter Try.func53, Try.ntmps53
      go_wp2_with (first
            | (go_at_call 29; (first | (with_reducible refine (Later.calls _ (hC.out _ _ _ _)).mono ?_) | (with_reducible refine (Later.calls0 (hC.out _ _ _ _)).mono ?_)); rintro e w1 ⟨rfl, x, rfl⟩)
            | (go_at_call 30; (first | (with_reducible refine (Later.calls _ (hH.out _ _ _ _)).mono ?_) | (with_reducible refine (Later.calls0 (hH.out _ _ _ _)).mono ?_)); rintro e w1 ⟨rfl, x, rfl⟩)
            | (go_at_call 69; (first | (with_reducible refine (Later.calls _ (hR.out _ _ _ _)).mono ?_) | (with_reducible refine (Later.calls0 (hR.out _ _ _ _)).mono ?_)); rintro e w1 ⟨rfl, x, rfl⟩)
            | (go_at_call 70; (with_reducible refine (hK.out _).mono ?_); rintro e w' ⟨rfl, rfl⟩))
      all_goals
        go_ret
        try simp only [beq_iff_eq, beq_eq_false_iff_ne, bne_iff_ne, bne_eq_false_iff_eq, ne_eq] at *
        exact ⟨by simp [*] <;> omega, by first | exact below1c (Later.below _) | exact below1 _ _⟩
  · cases k <;> cases r
    all_goals
      go_enter Try.func53, Try.ntmps53
      go_wp2_with (first
            | (go_at_call 29; (first | (with_reducible refine (Later.calls _ (hC.out _ _ _ _)).mono ?_) | (with_reducible refine (Later.calls0 (hC.out _ _ _ _)).mono ?_)); rintro e w1 ⟨rfl, x, rfl⟩)
            | (go_at_call 30; (first | (with_reducible refine (Later.calls _ (hH.out _ _ _ _)).mono ?_) | (with_reducible refine (Later.calls0 (hH.out _ _ _ _)).mono ?_)); rintro e w1 ⟨rfl, x, rfl⟩)
            | (go_at_call 69; (first | (with_reducible refine (Later.calls _ (hR.out _ _ _ _)).mono ?_) | (with_reducible refine (Later.calls0 (hR.out _ _ _ _)).mono ?_)); rintro e w1 ⟨rfl, x, rfl⟩)
            | (go_at_call 70; (with_reducible refine (hK.out _).mono ?_); rintro e w' ⟨rfl, rfl⟩))
      all_goals
        go_ret
        try simp only [beq_iff_eq, beq_eq_false_iff_ne, bne_iff_ne, bne_eq_false_iff_eq, ne_eq] at *
        exact ⟨by simp [*] <;> omega, by first | exact below1c (Later.below _) | exact below1 _ _⟩
  · skip
    go_enter Try.func53, Try.ntmps53
    go_wp2_with (first
          | (go_at_call 29; (first | (with_reducible refine (Later.calls _ (hC.out _ _ _ _)).mono ?_) | (with_reducible refine (Later.calls0 (hC.out _ _ _ _)).mono ?_)); rintro e w1 ⟨rfl, x, rfl⟩)
          | (go_at_call 30; (first | (with_reducible refine (Later.calls _ (hH.out _ _ _ _)).mono ?_) | (with_reducible refine (Later.calls0 (hH.out _ _ _ _)).mono ?_)); rintro e w1 ⟨rfl, x, rfl⟩)
          | (go_at_call 69; (first | (with_reducible refine (Later.calls _ (hR.out _ _ _ _)).mono ?_) | (with_reducible refine (Later.calls0 (hR.out _ _ _ _)).mono ?_)); rintro e w1 ⟨rfl, x, rfl⟩)
          | (go_at_call 52; (first | (with_reducible refine (Later.calls _ (hW.out)).mono ?_) | (with_reducible refine (Later.calls0 (hW.out)).mono ?_)); rintro e w1 ⟨rfl, x, rfl⟩)
          | (go_at_call 68; (first | (with_reducible refine (hM.out _).mono ?_) | (with_reducible refine (hN.out _).mono ?_)); rintro e w' ⟨rfl, rfl⟩))
    all_goals
      go_ret
      try simp only [beq_iff_eq, beq_eq_false_iff_ne, bne_iff_ne, bne_eq_false_iff_eq, ne_eq] at *
      exact ⟨by simp [*] <;> omega, by first | exact below1c (Later.below _) | exact below1 _ _⟩
set_option maxRecDepth 100000 in
set_option maxHeartbeats 2000000 in
theorem alu_ref : Calls Try.prog 71 #[.agg #[.int .u8 op, .int .u8 dst, .int .u8 src, .int .i16 off, .int .i32 imm]] w fun e w' => e = .returned (.bool (aluR ⟨op, dst, src, off, imm⟩)) ∧ Below w.heap.size w w' := by
  have hC := hide (fun d s f i w => class_any op d s f i w)
  have hH := hide (fun d s f i w => hi_any op d s f i w)
  have hR := hide (fun d s f i w => reg_any op d s f i w)
  unfold aluR
  obtain ⟨c0, c1, c2, c3, c4⟩ := later5 (World.alloc_heap_new w (.cells #[.int .u8 op, .int .u8 dst, .int .u8 src, .int .i16 off, .int .i32 imm] 42))
  simp only
  generalize clsI op = c at *
  generalize hiI op = o at *
  generalize rsB op = r at *
  cases r
  · skip
    go_enter Try.func71, Try.ntmps71
    go_wp2_with (first
          | (go_at_call 29; (first | (with_reducible refine (Later.calls _ (hC.out _ _ _ _)).mono ?_) | (with_reducible refine (Later.calls0 (hC.out _ _ _ _)).mono ?_)); rintro e w1 ⟨rfl, x, rfl⟩)
          | (go_at_call 30; (first | (with_reducible refine (Later.calls _ (hH.out _ _ _ _)).mono ?_) | (with_reducible refine (Later.calls0 (hH.out _ _ _ _)).mono ?_)); rintro e w1 ⟨rfl, x, rfl⟩)
          | (go_at_call 69; (first | (with_reducible refine (Later.calls _ (hR.out _ _ _ _)).mono ?_) | (with_reducible refine (Later.calls0 (hR.out _ _ _ _)).mono ?_)); rintro e w1 ⟨rfl, x, rfl⟩))
    all_goals
      go_ret
      try simp only [beq_iff_eq, beq_eq_false_iff_ne, bne_iff_ne, bne_eq_false_iff_eq, ne_eq] at *
      exact ⟨by simp [*] <;> omega, by first | exact below1c (Later.below _) | exact below1 _ _⟩
  · skip
    go_enter Try.func71, Try.ntmps71
    go_wp2_with (first
          | (go_at_call 29; (first | (with_reducible refine (Later.calls _ (hC.out _ _ _ _)).mono ?_) | (with_reducible refine (Later.calls0 (hC.out _ _ _ _)).mono ?_)); rintro e w1 ⟨rfl, x, rfl⟩)
          | (go_at_call 30; (first | (with_reducible refine (Later.calls _ (hH.out _ _ _ _)).mono ?_) | (with_reducible refine (Later.calls0 (hH.out _ _ _ _)).mono ?_)); rintro e w1 ⟨rfl, x, rfl⟩)
          | (go_at_call 69; (first | (with_reducible refine (Later.calls _ (hR.out _ _ _ _)).mono ?_) | (with_reducible refine (Later.calls0 (hR.out _ _ _ _)).mono ?_)); rintro e w1 ⟨rfl, x, rfl⟩))
    all_goals
      go_ret
      try simp only [beq_iff_eq, beq_eq_false_iff_ne, bne_iff_ne, bne_eq_false_iff_eq, ne_eq] at *
      exact ⟨by simp [*] <;> omega, by first | exact below1c (Later.below _) | exact below1 _ _⟩
set_option maxRecDepth 100000 in
set_option maxHeartbeats 2000000 in
theorem jump_ref : Calls Try.prog 72 #[.agg #[.int .u8 op, .int .u8 dst, .int .u8 src, .int .i16 off, .int .i32 imm]] w fun e w' => e = .returned (.bool (jumpR ⟨op, dst, src, off, imm⟩)) ∧ Below w.heap.size w w' := by
  have hC := hide (fun d s f i w => class_any op d s f i w)
  have hH := hide (fun d s f i w => hi_any op d s f i w)
  have hR := hide (fun d s f i w => reg_any op d s f i w)
  have hK := hide (fun w => condition_any w (hiI op))
  unfold jumpR
  obtain ⟨c0, c1, c2, c3, c4⟩ := later5 (World.alloc_heap_new w (.cells #[.int .u8 op, .int .u8 dst, .int .u8 src, .int .i16 off, .int .i32 imm] 42))
  simp only
  generalize clsI op = c at *
  generalize hiI op = o at *
  generalize rsB op = r at *
  generalize condR o = k at *
  cases k <;> cases r
  · skip
    go_enter Try.func72, Try.ntmps72
    go_wp2_with (first
          | (go_at_call 29; (first | (with_reducible refine (Later.calls _ (hC.out _ _ _ _)).mono ?_) | (with_reducible refine (Later.calls0 (hC.out _ _ _ _)).mono ?_)); rintro e w1 ⟨rfl, x, rfl⟩)
          | (go_at_call 30; (first | (with_reducible refine (Later.calls _ (hH.out _ _ _ _)).mono ?_) | (with_reducible refine (Later.calls0 (hH.out _ _ _ _)).mono ?_)); rintro e w1 ⟨rfl, x, rfl⟩)
          | (go_at_call 69; (first | (with_reducible refine (Later.calls _ (hR.out _ _ _ _)).mono ?_) | (with_reducible refine (Later.calls0 (hR.out _ _ _ _)).mono ?_)); rintro e w1 ⟨rfl, x, rfl⟩)
          | (go_at_call 70; (with_reducible refine (hK.out _).mono ?_); rintro e w' ⟨rfl, rfl⟩))
    all_goals
      go_ret
      try simp only [beq_iff_eq, beq_eq_false_iff_ne, bne_iff_ne, bne_eq_false_iff_eq, ne_eq] at *
      exact ⟨by simp [*] <;> omega, by first | exact below1c (Later.below _) | exact below1 _ _⟩
  · skip
    go_enter Try.func72, Try.ntmps72
    go_wp2_with (first
          | (go_at_call 29; (first | (with_reducible refine (Later.calls _ (hC.out _ _ _ _)).mono ?_) | (with_reducible refine (Later.calls0 (hC.out _ _ _ _)).mono ?_)); rintro e w1 ⟨rfl, x, rfl⟩)
          | (go_at_call 30; (first | (with_reducible refine (Later.calls _ (hH.out _ _ _ _)).mono ?_) | (with_reducible refine (Later.calls0 (hH.out _ _ _ _)).mono ?_)); rintro e w1 ⟨rfl, x, rfl⟩)
          | (go_at_call 69; (first | (with_reducible refine (Later.calls _ (hR.out _ _ _ _)).mono ?_) | (with_reducible refine (Later.calls0 (hR.out _ _ _ _)).mono ?_)); rintro e w1 ⟨rfl, x, rfl⟩)
          | (go_at_call 70; (with_reducible refine (hK.out _).mono ?_); rintro e w' ⟨rfl, rfl⟩))
    all_goals
      go_ret
      try simp only [beq_iff_eq, beq_eq_false_iff_ne, bne_iff_ne, bne_eq_false_iff_eq, ne_eq] at *
      exact ⟨by simp [*] <;> omega, by first | exact below1c (Later.below _) | exact below1 _ _⟩
  · skip
    go_enter Try.func72, Try.ntmps72
    go_wp2_with (first
          | (go_at_call 29; (first | (with_reducible refine (Later.calls _ (hC.out _ _ _ _)).mono ?_) | (with_reducible refine (Later.calls0 (hC.out _ _ _ _)).mono ?_)); rintro e w1 ⟨rfl, x, rfl⟩)
          | (go_at_call 30; (first | (with_reducible refine (Later.calls _ (hH.out _ _ _ _)).mono ?_) | (with_reducible refine (Later.calls0 (hH.out _ _ _ _)).mono ?_)); rintro e w1 ⟨rfl, x, rfl⟩)
          | (go_at_call 69; (first | (with_reducible refine (Later.calls _ (hR.out _ _ _ _)).mono ?_) | (with_reducible refine (Later.calls0 (hR.out _ _ _ _)).mono ?_)); rintro e w1 ⟨rfl, x, rfl⟩)
          | (go_at_call 70; (with_reducible refine (hK.out _).mono ?_); rintro e w' ⟨rfl, rfl⟩))
    all_goals
      go_ret
      try simp only [beq_iff_eq, beq_eq_false_iff_ne, bne_iff_ne, bne_eq_false_iff_eq, ne_eq] at *
      exact ⟨by simp [*] <;> omega, by first | exact below1c (Later.below _) | exact below1 _ _⟩
  · skip
    go_enter Try.func72, Try.ntmps72
    go_wp2_with (first
          | (go_at_call 29; (first | (with_reducible refine (Later.calls _ (hC.out _ _ _ _)).mono ?_) | (with_reducible refine (Later.calls0 (hC.out _ _ _ _)).mono ?_)); rintro e w1 ⟨rfl, x, rfl⟩)
          | (go_at_call 30; (first | (with_reducible refine (Later.calls _ (hH.out _ _ _ _)).mono ?_) | (with_reducible refine (Later.calls0 (hH.out _ _ _ _)).mono ?_)); rintro e w1 ⟨rfl, x, rfl⟩)
          | (go_at_call 69; (first | (with_reducible refine (Later.calls _ (hR.out _ _ _ _)).mono ?_) | (with_reducible refine (Later.calls0 (hR.out _ _ _ _)).mono ?_)); rintro e w1 ⟨rfl, x, rfl⟩)
          | (go_at_call 70; (with_reducible refine (hK.out _).mono ?_); rintro e w' ⟨rfl, rfl⟩))
    all_goals
      go_ret
      try simp only [beq_iff_eq, beq_eq_false_iff_ne, bne_iff_ne, bne_eq_false_iff_eq, ne_eq] at *
      exact ⟨by simp [*] <;> omega, by first | exact below1c (Later.below _) | exact below1 _ _⟩
set_option maxRecDepth 100000 in
set_option maxHeartbeats 2000000 in
theorem parts_ref (ho : 0 ≤ op ∧ op < 256) : Calls Try.prog 55 #[.agg #[.int .u8 op, .int .u8 dst, .int .u8 src, .int .i16 off, .int .i32 imm]] w fun e w' => e = .returned (.bool (partsR ⟨op, dst, src, off, imm⟩)) ∧ Below w.heap.size w w' := by
  have hC := hide (fun d s f i w => class_any op d s f i w)
  have hA := hide (fun w => alu_ref op dst src off imm w)
  have hJ := hide (fun w => jump_ref op dst src off imm w)
  unfold partsR
  have h8 := cls_eight op ho
  obtain ⟨c0, c1, c2, c3, c4⟩ := later5 (World.alloc_heap_new w (.cells #[.int .u8 op, .int .u8 dst, .int .u8 src, .int .i16 off, .int .i32 imm] 42))
  simp only
  generalize aluR ⟨op, dst, src, off, imm⟩ = ra at *
  generalize jumpR ⟨op, dst, src, off, imm⟩ = rj at *
  generalize clsI op = c at *
  clear ho
  rcases h8 with rfl | rfl | rfl | rfl | rfl | rfl | rfl | rfl
  · skip
    go_enter Try.func55, Try.ntmps55
    go_wp2_with (first
          | (go_at_call 29; (first | (with_reducible refine (Later.calls _ (hC.out _ _ _ _)).mono ?_) | (with_reducible refine (Later.calls0 (hC.out _ _ _ _)).mono ?_)); rintro e w1 ⟨rfl, x, rfl⟩)
          | (go_at_call 71; (first | (with_reducible refine (Later.calls _ (hA.out)).mono ?_) | (with_reducible refine (Later.calls0 (hA.out)).mono ?_)); rintro e w1 ⟨rfl, x, rfl⟩)
          | (go_at_call 72; (first | (with_reducible refine (Later.calls _ (hJ.out)).mono ?_) | (with_reducible refine (Later.calls0 (hJ.out)).mono ?_)); rintro e w1 ⟨rfl, x, rfl⟩))
    all_goals
      go_ret
      try simp only [beq_iff_eq, beq_eq_false_iff_ne, bne_iff_ne, bne_eq_false_iff_eq, ne_eq] at *
      exact ⟨by simp [*] <;> omega, by first | exact below1c (Later.below _) | exact below1 _ _⟩
  · skip
    go_enter Try.func55, Try.ntmps55
    go_wp2_with (first
          | (go_at_call 29; (first | (with_reducible refine (Later.calls _ (hC.out _ _ _ _)).mono ?_) | (with_reducible refine (Later.calls0 (hC.out _ _ _ _)).mono ?_)); rintro e w1 ⟨rfl, x, rfl⟩)
          | (go_at_call 71; (first | (with_reducible refine (Later.calls _ (hA.out)).mono ?_) | (with_reducible refine (Later.calls0 (hA.out)).mono ?_)); rintro e w1 ⟨rfl, x, rfl⟩)
          | (go_at_call 72; (first | (with_reducible refine (Later.calls _ (hJ.out)).mono ?_) | (with_reducible refine (Later.calls0 (hJ.out)).mono ?_)); rintro e w1 ⟨rfl, x, rfl⟩))
    all_goals
      go_ret
      try simp only [beq_iff_eq, beq_eq_false_iff_ne, bne_iff_ne, bne_eq_false_iff_eq, ne_eq] at *
      exact ⟨by simp [*] <;> omega, by first | exact below1c (Later.below _) | exact below1 _ _⟩
  · skip
    go_enter Try.func55, Try.ntmps55
    go_wp2_with (first
          | (go_at_call 29; (first | (with_reducible refine (Later.calls _ (hC.out _ _ _ _)).mono ?_) | (with_reducible refine (Later.calls0 (hC.out _ _ _ _)).mono ?_)); rintro e w1 ⟨rfl, x, rfl⟩)
          | (go_at_call 71; (first | (with_reducible refine (Later.calls _ (hA.out)).mono ?_) | (with_reducible refine (Later.calls0 (hA.out)).mono ?_)); rintro e w1 ⟨rfl, x, rfl⟩)
          | (go_at_call 72; (first | (with_reducible refine (Later.calls _ (hJ.out)).mono ?_) | (with_reducible refine (Later.calls0 (hJ.out)).mono ?_)); rintro e w1 ⟨rfl, x, rfl⟩))
    all_goals
      go_ret
      try simp only [beq_iff_eq, beq_eq_false_iff_ne, bne_iff_ne, bne_eq_false_iff_eq, ne_eq] at *
      exact ⟨by simp [*] <;> omega, by first | exact below1c (Later.below _) | exact below1 _ _⟩
  · skip
    go_enter Try.func55, Try.ntmps55
    go_wp2_with (first
          | (go_at_call 29; (first | (with_reducible refine (Later.calls _ (hC.out _ _ _ _)).mono ?_) | (with_reducible refine (Later.calls0 (hC.out _ _ _ _)).mono ?_)); rintro e w1 ⟨rfl, x, rfl⟩)
          | (go_at_call 71; (first | (with_reducible refine (Later.calls _ (hA.out)).mono ?_) | (with_reducible refine (Later.calls0 (hA.out)).mono ?_)); rintro e w1 ⟨rfl, x, rfl⟩)
          | (go_at_call 72; (first | (with_reducible refine (Later.calls _ (hJ.out)).mono ?_) | (with_reducible refine (Later.calls0 (hJ.out)).mono ?_)); rintro e w1 ⟨rfl, x, rfl⟩))
    all_goals
      go_ret
      try simp only [beq_iff_eq, beq_eq_false_iff_ne, bne_iff_ne, bne_eq_false_iff_eq, ne_eq] at *
      exact ⟨by simp [*] <;> omega, by first | exact below1c (Later.below _) | exact below1 _ _⟩
  · skip
    go_enter Try.func55, Try.ntmps55
    go_wp2_with (first
          | (go_at_call 29; (first | (with_reducible refine (Later.calls _ (hC.out _ _ _ _)).mono ?_) | (with_reducible refine (Later.calls0 (hC.out _ _ _ _)).mono ?_)); rintro e w1 ⟨rfl, x, rfl⟩)
          | (go_at_call 71; (first | (with_reducible refine (Later.calls _ (hA.out)).mono ?_) | (with_reducible refine (Later.calls0 (hA.out)).mono ?_)); rintro e w1 ⟨rfl, x, rfl⟩)
          | (go_at_call 72; (first | (with_reducible refine (Later.calls _ (hJ.out)).mono ?_) | (with_reducible refine (Later.calls0 (hJ.out)).mono ?_)); rintro e w1 ⟨rfl, x, rfl⟩))
    all_goals
      go_ret
      try simp only [beq_iff_eq, beq_eq_false_iff_ne, bne_iff_ne, bne_eq_false_iff_eq, ne_eq] at *
      exact ⟨by simp [*] <;> omega, by first | exact below1c (Later.below _) | exact below1 _ _⟩
  · skip
    go_enter Try.func55, Try.ntmps55
    go_wp2_with (first
          | (go_at_call 29; (first | (with_reducible refine (Later.calls _ (hC.out _ _ _ _)).mono ?_) | (with_reducible refine (Later.calls0 (hC.out _ _ _ _)).mono ?_)); rintro e w1 ⟨rfl, x, rfl⟩)
          | (go_at_call 71; (first | (with_reducible refine (Later.calls _ (hA.out)).mono ?_) | (with_reducible refine (Later.calls0 (hA.out)).mono ?_)); rintro e w1 ⟨rfl, x, rfl⟩)
          | (go_at_call 72; (first | (with_reducible refine (Later.calls _ (hJ.out)).mono ?_) | (with_reducible refine (Later.calls0 (hJ.out)).mono ?_)); rintro e w1 ⟨rfl, x, rfl⟩))
    all_goals
      go_ret
      try simp only [beq_iff_eq, beq_eq_false_iff_ne, bne_iff_ne, bne_eq_false_iff_eq, ne_eq] at *
      exact ⟨by simp [*] <;> omega, by first | exact below1c (Later.below _) | exact below1 _ _⟩
  · skip
    go_enter Try.func55, Try.ntmps55
    go_wp2_with (first
          | (go_at_call 29; (first | (with_reducible refine (Later.calls _ (hC.out _ _ _ _)).mono ?_) | (with_reducible refine (Later.calls0 (hC.out _ _ _ _)).mono ?_)); rintro e w1 ⟨rfl, x, rfl⟩)
          | (go_at_call 71; (first | (with_reducible refine (Later.calls _ (hA.out)).mono ?_) | (with_reducible refine (Later.calls0 (hA.out)).mono ?_)); rintro e w1 ⟨rfl, x, rfl⟩)
          | (go_at_call 72; (first | (with_reducible refine (Later.calls _ (hJ.out)).mono ?_) | (with_reducible refine (Later.calls0 (hJ.out)).mono ?_)); rintro e w1 ⟨rfl, x, rfl⟩))
    all_goals
      go_ret
      try simp only [beq_iff_eq, beq_eq_false_iff_ne, bne_iff_ne, bne_eq_false_iff_eq, ne_eq] at *
      exact ⟨by simp [*] <;> omega, by first | exact below1c (Later.below _) | exact below1 _ _⟩
  · skip
    go_enter Try.func55, Try.ntmps55
    go_wp2_with (first
          | (go_at_call 29; (first | (with_reducible refine (Later.calls _ (hC.out _ _ _ _)).mono ?_) | (with_reducible refine (Later.calls0 (hC.out _ _ _ _)).mono ?_)); rintro e w1 ⟨rfl, x, rfl⟩)
          | (go_at_call 71; (first | (with_reducible refine (Later.calls _ (hA.out)).mono ?_) | (with_reducible refine (Later.calls0 (hA.out)).mono ?_)); rintro e w1 ⟨rfl, x, rfl⟩)
          | (go_at_call 72; (first | (with_reducible refine (Later.calls _ (hJ.out)).mono ?_) | (with_reducible refine (Later.calls0 (hJ.out)).mono ?_)); rintro e w1 ⟨rfl, x, rfl⟩))
    all_goals
      go_ret
      try simp only [beq_iff_eq, beq_eq_false_iff_ne, bne_iff_ne, bne_eq_false_iff_eq, ne_eq] at *
      exact ⟨by simp [*] <;> omega, by first | exact below1c (Later.below _) | exact below1 _ _⟩
end
end Go.Proofs.Ytjnmfgkjeofneaa
