/-
  depth's small functions: a row's place, its level; places are compared.
-/
import Derived.Test.YtolmjnoaiiodlaaTM
import Derived.Test.YtolmjnoaiiodlaaAP3
import Derived.Test.YtolmjnoaiiodlaaCP
import Derived.StillTailTactics
import Derived.LaidEql
import Derived.Laws.Rows
namespace Go.Proofs.Ytolmjnoaiiodlaa
open Go.RowKit Go.Maps Forest
set_option linter.unusedVariables false

theorem size26 : (Try.prog.info? 26).map (·.size) = some 4 := by kernel_rfl
theorem ptr_eq (w : World) (B d : Nat) (p q : Pl) (hp : Good w B p) (hq : Good w B q) : (Op.equalIn (d + 1) 69 (.pointer p.a) (.pointer q.a)).run Try.prog w = .ok (decide (p.a = q.a)) w := by
  obtain ⟨j, hj, hjs⟩ := Option.map_eq_some_iff.1 size26
  rcases hp with hp | ⟨a, ea, _, c, t, ha⟩
  · rcases hq with hq | ⟨b, eb, _, c', t', hb⟩
    · rw [hp, hq]; simp [Op.equalIn, run_underlying Try.underlying69]
    · rw [hp, eb]; simp [Op.equalIn, run_underlying Try.underlying69]
  · rcases hq with hq | ⟨b, eb, _, c', t', hb⟩
    · rw [ea, hq]; simp [Op.equalIn, run_underlying Try.underlying69]
    · rw [ea, eb]
      by_cases h : a = b
      · subst h
        simp [Op.equalIn, run_underlying Try.underlying69, sizeOf, typeInfo, hj, run_sameAddr_same]
      · simp [Op.equalIn, run_underlying Try.underlying69, sizeOf, typeInfo, hj, hjs, run_sameAddr_other w h ha hb, h]
theorem pl_eq (w : World) (B : Nat) (p q : Pl) (hp : Good w B p) (hq : Good w B q) : (Op.equal 71 p.val q.val).run Try.prog w = .ok (decide (p = q)) w := by
  have ht : Try.prog.underlying 71 = some (.struct (Try.prog.fieldsOf 71)) := by kernel_rfl
  have hps : Try.prog.stoodInHeld 71 = false := by kernel_rfl
  have h1 := ptr_eq w B 9998 p q hp hq
  have h2 : (Op.equalIn 9999 3 (.int .i64 p.n) (.int .i64 q.n)).run Try.prog w = .ok (p.n == q.n) w := run_equalIn_int (P := Try.prog) w 9998 3 .i64 .i64 p.n q.n Try.underlying3
  have e : decide (p = q) = (decide (p.a = q.a) && (p.n == q.n)) := by
    cases p; cases q
    simp [Bool.beq_eq_decide_eq]
  simp only [Op.equal, Op.maxDepth, Pl.val]
  rw [show (10000 : Nat) = 9999 + 1 from rfl, run_equalIn_struct w 9999 71 _ _ ht hps]
  unfold Program.fieldsOf
  rw [Try.underlying71]
  have a1 : (part 69 #[Value.pointer p.a, .int .i64 p.n] 0).run Try.prog w = .ok (.pointer p.a) w := by kernel_rfl
  have a2 : (part 69 #[Value.pointer q.a, .int .i64 q.n] 0).run Try.prog w = .ok (.pointer q.a) w := by kernel_rfl
  have a3 : (part 3 #[Value.pointer p.a, .int .i64 p.n] 1).run Try.prog w = .ok (.int .i64 p.n) w := by kernel_rfl
  have a4 : (part 3 #[Value.pointer q.a, .int .i64 q.n] 1).run Try.prog w = .ok (.int .i64 q.n) w := by kernel_rfl
  rw [e]
  simp [a1, a2, a3, a4, h1, h2, Op.eqFields, Result.andThen]
  by_cases h3 : p.a = q.a <;> by_cases h4 : p.n = q.n <;> simp [h3, h4]
theorem plKey : PlKey Try.prog 71 := ⟨by kernel_rfl, pl_eq, fun w em p => by cases em <;> kernel_rfl⟩
set_option maxRecDepth 100000 in
theorem placeOf_any (A : Option Addr) (c B : Nat) (F : Forest) (w : World) (h : RowAt w B A F) : Calls Try.prog 38 #[.slice A F.len c] w fun e w' => e = .returned (placeR A F).val ∧ Below w.heap.size w w' := by
  unfold placeR Pl.val
  by_cases h0 : F.len = 0
  · rw [if_pos h0, h0]
    clear h h0
    go_enter Try.func38, Try.ntmps38
    go_wp2
    refine bodyPost_ret (results_cell_row rfl _ _ w.heap.size 71 _ _ _ rfl (World.alloc_heap_new _ _) Try.underlying71 rfl (by kernel_rfl)) rfl ?_
    exact ⟨rfl, below1 _ _⟩
  · rw [if_neg h0]
    rcases h with h | ⟨a, rfl, _⟩
    · exact absurd h h0
    · generalize F.len = n at h0 ⊢
      have hn : 0 < n := by omega
      clear h0
      go_enter Try.func38, Try.ntmps38
      go_wp2
      refine bodyPost_ret (results_cell_row rfl _ _ w.heap.size 71 _ _ _ rfl (World.alloc_heap_new _ _) Try.underlying71 rfl (by kernel_rfl)) rfl ?_
      exact ⟨rfl, below1 _ _⟩
set_option maxRecDepth 100000 in
theorem levelOf_any (A : Option Addr) (c B : Nat) (F : Forest) (w : World) (h : RowAt w B A F) (hB : B ≤ w.heap.size) : Calls Try.prog 39 #[.slice A F.len c] w fun e w' => e = .returned (.agg #[.pointer (placeR A F).a, .int .i64 (placeR A F).n, .slice A F.len c, .int .i64 0]) ∧ Below w.heap.size w w' := by
  obtain ⟨w0, hw0⟩ : ∃ w0, w0 = w.alloc (.cells #[.pointer none, .int .i64 0, .slice none 0 0, .int .i64 0] 75) := ⟨_, rfl⟩
  have hb0 : Below w.heap.size w w0 := by rw [hw0]; exact below1 _ _
  have hx0 : w0.heap[w.heap.size]? = some (.cells #[.pointer none, .int .i64 0, .slice none 0 0, .int .i64 0] 75 (0, 0)) := by rw [hw0]; exact World.alloc_heap_new _ _
  have HP := hide (placeOf_any A c B F w0 (h.below (hb0.mono hB)))
  have HB0 := hide hb0
  have HX0 := hide hx0
  have HW := hide hw0
  generalize placeR A F = p at HP ⊢
  generalize F.len = n at HP ⊢
  clear h hb0 hx0 hw0
  go_enter Try.func39, Try.ntmps39
  go_wp2_with fail
  rw [show w.alloc (.cells #[.pointer none, .int .i64 0, .slice none 0 0, .int .i64 0] 75) = w0 from HW.out.symm]
  refine HP.out.mono ?_
  rintro e w1 ⟨rfl, hb⟩
  have hx1 : w1.heap[w.heap.size]? = some (.cells #[.pointer none, .int .i64 0, .slice none 0 0, .int .i64 0] 75 (0, 0)) := (hb.block _ (at_lt HX0.out)).trans HX0.out
  have HX1 := hide hx1
  have HB1 := hide (HB0.out.trans (hb.mono HB0.out.size))
  have f0 := blk_free hx1
  have c0 := (blk_cell hx1 0).trans rfl
  have c1 := (blk_cell hx1 1).trans rfl
  have c2 := (blk_cell hx1 2).trans rfl
  have c3 := (blk_cell hx1 3).trans rfl
  clear hx1 hb HP HB0 HX0 HW
  unfold Pl.val
  go_wp2_with fail
  clear c0 c1 c2 c3 f0
  obtain ⟨hst, hgr⟩ := store_4 HX1.out (.pointer p.a) (.int .i64 p.n) (.slice A n c) (.int .i64 0)
  refine bodyPost_ret (results_cell_row rfl _ _ w.heap.size 75 _ _ _ rfl hst Try.underlying75 rfl (by kernel_rfl)) rfl ?_
  exact ⟨rfl, HB1.out.grown hgr HB1.out.size (fun k e => by cases e; exact Nat.le_refl _)⟩
end Go.Proofs.Ytolmjnoaiiodlaa
