/-
  The document's own answer, whatever the operation, is what 'Alu' tells; where there is no such operation, neither tells one.
-/
import Derived.Test.YtmlkbpmchcdldaaGreatRef4
namespace Go.Proofs.YtmlkbpmchcdldaaGreat
open Go.RowKit Go.Maps
set_option linter.unusedVariables false
theorem ne_b {a b : Int} (h : ¬ a = b) : (a == b) = false := by simpa using h

theorem none_64 (op off : Int) (h : (alu op off true 0 0).2 = false) : ∀ q ∈ fns64, q.1 ≠ (op, off) := by
  intro q hq he
  unfold alu at h
  rw [if_pos rfl] at h
  split at h
  · cases h
  · rename_i hn
    have := List.find?_eq_none.1 hn q hq
    rw [he] at this
    simp at this

set_option maxHeartbeats 1000000 in
theorem known_64 (op off : Int) (h : (alu op off true 0 0).2 = false) (w : World) : Calls Tryz.prog 19 #[.int .u8 op, .int .i16 off, .bool true] w fun e w' => e = .returned (.bool false) ∧ w = w' := by
  have hf := none_64 op off h
  clear h
  simp only [fns64, List.mem_cons, List.not_mem_nil, or_false, forall_eq_or_imp, forall_eq, ne_eq, Prod.mk.injEq, not_and] at hf
  obtain ⟨g0, g1, g2, g3, g4, g5, g6, g7, g8, g9, g10, g11, g12, g13, g14, g15, g16, g17⟩ := hf
  by_cases c0 : op = 0
  · have hs : ∀ o f : Int, (o = op → ¬ f = off) → op = o → (off == f) = false := fun o f k e => ne_b (fun e2 => k e.symm e2.symm)
    have f0 := hs 0 0 g0 c0
    clear g0 g1 g2 g3 g4 g5 g6 g7 g8 g9 g10 g11 g12 g13 g14 g15 g16 g17 hs
    subst c0
    go_enter Tryz.func19, Tryz.ntmps19
    go_wp2
    all_goals go_ret
    all_goals exact ⟨rfl, rfl⟩
  by_cases c16 : op = 16
  · have hs : ∀ o f : Int, (o = op → ¬ f = off) → op = o → (off == f) = false := fun o f k e => ne_b (fun e2 => k e.symm e2.symm)
    have f0 := hs 16 0 g1 c16
    clear g0 g1 g2 g3 g4 g5 g6 g7 g8 g9 g10 g11 g12 g13 g14 g15 g16 g17 hs
    subst c16
    go_enter Tryz.func19, Tryz.ntmps19
    go_wp2
    all_goals go_ret
    all_goals exact ⟨rfl, rfl⟩
  by_cases c32 : op = 32
  · have hs : ∀ o f : Int, (o = op → ¬ f = off) → op = o → (off == f) = false := fun o f k e => ne_b (fun e2 => k e.symm e2.symm)
    have f0 := hs 32 0 g2 c32
    clear g0 g1 g2 g3 g4 g5 g6 g7 g8 g9 g10 g11 g12 g13 g14 g15 g16 g17 hs
    subst c32
    go_enter Tryz.func19, Tryz.ntmps19
    go_wp2
    all_goals go_ret
    all_goals exact ⟨rfl, rfl⟩
  by_cases c48 : op = 48
  · have hs : ∀ o f : Int, (o = op → ¬ f = off) → op = o → (off == f) = false := fun o f k e => ne_b (fun e2 => k e.symm e2.symm)
    have f0 := hs 48 0 g3 c48
    have f1 := hs 48 1 g4 c48
    clear g0 g1 g2 g3 g4 g5 g6 g7 g8 g9 g10 g11 g12 g13 g14 g15 g16 g17 hs
    subst c48
    go_enter Tryz.func19, Tryz.ntmps19
    go_wp2
    all_goals go_ret
    all_goals exact ⟨rfl, rfl⟩
  by_cases c144 : op = 144
  · have hs : ∀ o f : Int, (o = op → ¬ f = off) → op = o → (off == f) = false := fun o f k e => ne_b (fun e2 => k e.symm e2.symm)
    have f0 := hs 144 0 g5 c144
    have f1 := hs 144 1 g6 c144
    clear g0 g1 g2 g3 g4 g5 g6 g7 g8 g9 g10 g11 g12 g13 g14 g15 g16 g17 hs
    subst c144
    go_enter Tryz.func19, Tryz.ntmps19
    go_wp2
    all_goals go_ret
    all_goals exact ⟨rfl, rfl⟩
  by_cases c64 : op = 64
  · have hs : ∀ o f : Int, (o = op → ¬ f = off) → op = o → (off == f) = false := fun o f k e => ne_b (fun e2 => k e.symm e2.symm)
    have f0 := hs 64 0 g7 c64
    clear g0 g1 g2 g3 g4 g5 g6 g7 g8 g9 g10 g11 g12 g13 g14 g15 g16 g17 hs
    subst c64
    go_enter Tryz.func19, Tryz.ntmps19
    go_wp2
    all_goals go_ret
    all_goals exact ⟨rfl, rfl⟩
  by_cases c80 : op = 80
  · have hs : ∀ o f : Int, (o = op → ¬ f = off) → op = o → (off == f) = false := fun o f k e => ne_b (fun e2 => k e.symm e2.symm)
    have f0 := hs 80 0 g8 c80
    clear g0 g1 g2 g3 g4 g5 g6 g7 g8 g9 g10 g11 g12 g13 g14 g15 g16 g17 hs
    subst c80
    go_enter Tryz.func19, Tryz.ntmps19
    go_wp2
    all_goals go_ret
    all_goals exact ⟨rfl, rfl⟩
  by_cases c160 : op = 160
  · have hs : ∀ o f : Int, (o = op → ¬ f = off) → op = o → (off == f) = false := fun o f k e => ne_b (fun e2 => k e.symm e2.symm)
    have f0 := hs 160 0 g9 c160
    clear g0 g1 g2 g3 g4 g5 g6 g7 g8 g9 g10 g11 g12 g13 g14 g15 g16 g17 hs
    subst c160
    go_enter Tryz.func19, Tryz.ntmps19
    go_wp2
    all_goals go_ret
    all_goals exact ⟨rfl, rfl⟩
  by_cases c96 : op = 96
  · have hs : ∀ o f : Int, (o = op → ¬ f = off) → op = o → (off == f) = false := fun o f k e => ne_b (fun e2 => k e.symm e2.symm)
    have f0 := hs 96 0 g10 c96
    clear g0 g1 g2 g3 g4 g5 g6 g7 g8 g9 g10 g11 g12 g13 g14 g15 g16 g17 hs
    subst c96
    go_enter Tryz.func19, Tryz.ntmps19
    go_wp2
    all_goals go_ret
    all_goals exact ⟨rfl, rfl⟩
  by_cases c112 : op = 112
  · have hs : ∀ o f : Int, (o = op → ¬ f = off) → op = o → (off == f) = false := fun o f k e => ne_b (fun e2 => k e.symm e2.symm)
    have f0 := hs 112 0 g11 c112
    clear g0 g1 g2 g3 g4 g5 g6 g7 g8 g9 g10 g11 g12 g13 g14 g15 g16 g17 hs
    subst c112
    go_enter Tryz.func19, Tryz.ntmps19
    go_wp2
    all_goals go_ret
    all_goals exact ⟨rfl, rfl⟩
  by_cases c192 : op = 192
  · have hs : ∀ o f : Int, (o = op → ¬ f = off) → op = o → (off == f) = false := fun o f k e => ne_b (fun e2 => k e.symm e2.symm)
    have f0 := hs 192 0 g12 c192
    clear g0 g1 g2 g3 g4 g5 g6 g7 g8 g9 g10 g11 g12 g13 g14 g15 g16 g17 hs
    subst c192
    go_enter Tryz.func19, Tryz.ntmps19
    go_wp2
    all_goals go_ret
    all_goals exact ⟨rfl, rfl⟩
  by_cases c128 : op = 128
  · have hs : ∀ o f : Int, (o = op → ¬ f = off) → op = o → (off == f) = false := fun o f k e => ne_b (fun e2 => k e.symm e2.symm)
    have f0 := hs 128 0 g13 c128
    clear g0 g1 g2 g3 g4 g5 g6 g7 g8 g9 g10 g11 g12 g13 g14 g15 g16 g17 hs
    subst c128
    go_enter Tryz.func19, Tryz.ntmps19
    go_wp2
    all_goals go_ret
    all_goals exact ⟨rfl, rfl⟩
  by_cases c176 : op = 176
  · have hs : ∀ o f : Int, (o = op → ¬ f = off) → op = o → (off == f) = false := fun o f k e => ne_b (fun e2 => k e.symm e2.symm)
    have f0 := hs 176 0 g14 c176
    have f1 := hs 176 8 g15 c176
    have f2 := hs 176 16 g16 c176
    have f3 := hs 176 32 g17 c176
    clear g0 g1 g2 g3 g4 g5 g6 g7 g8 g9 g10 g11 g12 g13 g14 g15 g16 g17 hs
    subst c176
    go_enter Tryz.func19, Tryz.ntmps19
    go_wp2
    all_goals go_ret
    all_goals exact ⟨rfl, rfl⟩
  have d0 := ne_b c0
  have d16 := ne_b c16
  have d32 := ne_b c32
  have d48 := ne_b c48
  have d144 := ne_b c144
  have d64 := ne_b c64
  have d80 := ne_b c80
  have d160 := ne_b c160
  have d96 := ne_b c96
  have d112 := ne_b c112
  have d192 := ne_b c192
  have d128 := ne_b c128
  have d176 := ne_b c176
  clear g0 g1 g2 g3 g4 g5 g6 g7 g8 g9 g10 g11 g12 g13 g14 g15 g16 g17 c0 c16 c32 c48 c144 c64 c80 c160 c96 c112 c192 c128 c176
  go_enter Tryz.func19, Tryz.ntmps19
  go_wp2
  all_goals go_ret
  all_goals exact ⟨rfl, rfl⟩

theorem alu_no_64 (op off : Int) (x y : BitVec 64) (h : (alu op off true 0 0).2 = false) : alu op off true x y = (0, false) := by
  rw [← alu_ok op off true x y] at h
  unfold alu at h ⊢
  rw [if_pos rfl] at h ⊢
  split at h
  · cases h
  · rfl
set_option maxHeartbeats 400000 in
theorem refno_64 (op off a b : Int) (h : (alu op off true 0 0).2 = false) (w : World) : Calls Tryz.prog 9 #[.int .u8 op, .int .i16 off, .bool true, .int .u64 a, .int .u64 b] w fun e w' => e = .returned (.tuple #[.int .u64 0, .bool false]) ∧ w = w' := by
  have HC := put_by' (known_64 op off h)
  clear h
  go_enter Tryz.func9, Tryz.ntmps9
  go_wp2_with (go_at_call 19; refine (HC.out _).mono ?_; rintro e w' ⟨rfl, rfl⟩)
  go_ret2
  exact ⟨rfl, rfl⟩

theorem ref_any_64 (op off : Int) (x y : BitVec 64) (w : World) :
    Calls Tryz.prog 9 #[.int .u8 op, .int .i16 off, .bool true, .int .u64 x.toNat, .int .u64 y.toNat] w fun e w' => e = .returned (.tuple #[.int .u64 (alu op off true x y).1.toNat, .bool (alu op off true x y).2]) ∧ w = w' := by
  cases hk : (alu op off true 0 0).2 with
  | false =>
    rw [alu_no_64 op off x y hk]
    exact refno_64 op off _ _ hk w
  | true =>
    have hm : ∃ f, ((op, off), f) ∈ fns64 := by
      unfold alu at hk
      rw [if_pos rfl] at hk
      split at hk
      · rename_i q hq
        have h1 : q.1 = (op, off) := by simpa using List.find?_some hq
        exact ⟨q.2, h1 ▸ List.mem_of_find?_eq_some hq⟩
      · cases hk
    clear hk
    obtain ⟨f, hm⟩ := hm
    simp only [fns64, List.mem_cons, List.not_mem_nil, or_false, Prod.mk.injEq] at hm
    rcases hm with ⟨⟨rfl, rfl⟩, rfl⟩ | ⟨⟨rfl, rfl⟩, rfl⟩ | ⟨⟨rfl, rfl⟩, rfl⟩ | ⟨⟨rfl, rfl⟩, rfl⟩ | ⟨⟨rfl, rfl⟩, rfl⟩ | ⟨⟨rfl, rfl⟩, rfl⟩ | ⟨⟨rfl, rfl⟩, rfl⟩ | ⟨⟨rfl, rfl⟩, rfl⟩ | ⟨⟨rfl, rfl⟩, rfl⟩ | ⟨⟨rfl, rfl⟩, rfl⟩ | ⟨⟨rfl, rfl⟩, rfl⟩ | ⟨⟨rfl, rfl⟩, rfl⟩ | ⟨⟨rfl, rfl⟩, rfl⟩ | ⟨⟨rfl, rfl⟩, rfl⟩ | ⟨⟨rfl, rfl⟩, rfl⟩ | ⟨⟨rfl, rfl⟩, rfl⟩ | ⟨⟨rfl, rfl⟩, rfl⟩ | ⟨⟨rfl, rfl⟩, rfl⟩
    · exact ref_add_64 _ _ x y (cutw x) (cutw y) w
    · exact ref_sub_64 _ _ x y (cutw x) (cutw y) w
    · exact ref_mul_64 _ _ x y (cutw x) (cutw y) w
    · exact ref_quo_64 _ _ x y (cutw x) (cutw y) w
    · exact ref_sdiv_64 _ _ x y (cutw x) (cutw y) w
    · exact ref_rem_64 _ _ x y (cutw x) (cutw y) w
    · exact ref_srem_64 _ _ x y (cutw x) (cutw y) w
    · exact ref_or_64 _ _ x y (cutw x) (cutw y) w
    · exact ref_and_64 _ _ x y (cutw x) (cutw y) w
    · exact ref_xor_64 _ _ x y (cutw x) (cutw y) w
    · exact ref_shl_64 _ _ x y (cutw x) (cutw y) w
    · exact ref_shr_64 _ _ x y (cutw x) (cutw y) w
    · exact ref_sar_64 _ _ x y (cutw x) (cutw y) w
    · exact ref_neg_64 _ _ x y (cutw x) (cutw y) w
    · exact ref_mov_64 _ _ x y (cutw x) (cutw y) w
    · exact ref_m8_64 _ _ x y (cutw x) (cutw y) w
    · exact ref_m16_64 _ _ x y (cutw x) (cutw y) w
    · exact ref_m32_64 _ _ x y (cutw x) (cutw y) w

theorem none_32 (op off : Int) (h : (alu op off false 0 0).2 = false) : ∀ q ∈ fns32, q.1 ≠ (op, off) := by
  intro q hq he
  unfold alu at h
  rw [if_neg (by decide)] at h
  split at h
  · cases h
  · rename_i hn
    have := List.find?_eq_none.1 hn q hq
    rw [he] at this
    simp at this

set_option maxHeartbeats 1000000 in
theorem known_32 (op off : Int) (h : (alu op off false 0 0).2 = false) (w : World) : Calls Tryz.prog 19 #[.int .u8 op, .int .i16 off, .bool false] w fun e w' => e = .returned (.bool false) ∧ w = w' := by
  have hf := none_32 op off h
  clear h
  simp only [fns32, List.mem_cons, List.not_mem_nil, or_false, forall_eq_or_imp, forall_eq, ne_eq, Prod.mk.injEq, not_and] at hf
  obtain ⟨g0, g1, g2, g3, g4, g5, g6, g7, g8, g9, g10, g11, g12, g13, g14, g15, g16⟩ := hf
  by_cases c0 : op = 0
  · have hs : ∀ o f : Int, (o = op → ¬ f = off) → op = o → (off == f) = false := fun o f k e => ne_b (fun e2 => k e.symm e2.symm)
    have f0 := hs 0 0 g0 c0
    clear g0 g1 g2 g3 g4 g5 g6 g7 g8 g9 g10 g11 g12 g13 g14 g15 g16 hs
    subst c0
    go_enter Tryz.func19, Tryz.ntmps19
    go_wp2
    all_goals go_ret
    all_goals exact ⟨rfl, rfl⟩
  by_cases c16 : op = 16
  · have hs : ∀ o f : Int, (o = op → ¬ f = off) → op = o → (off == f) = false := fun o f k e => ne_b (fun e2 => k e.symm e2.symm)
    have f0 := hs 16 0 g1 c16
    clear g0 g1 g2 g3 g4 g5 g6 g7 g8 g9 g10 g11 g12 g13 g14 g15 g16 hs
    subst c16
    go_enter Tryz.func19, Tryz.ntmps19
    go_wp2
    all_goals go_ret
    all_goals exact ⟨rfl, rfl⟩
  by_cases c32 : op = 32
  · have hs : ∀ o f : Int, (o = op → ¬ f = off) → op = o → (off == f) = false := fun o f k e => ne_b (fun e2 => k e.symm e2.symm)
    have f0 := hs 32 0 g2 c32
    clear g0 g1 g2 g3 g4 g5 g6 g7 g8 g9 g10 g11 g12 g13 g14 g15 g16 hs
    subst c32
    go_enter Tryz.func19, Tryz.ntmps19
    go_wp2
    all_goals go_ret
    all_goals exact ⟨rfl, rfl⟩
  by_cases c48 : op = 48
  · have hs : ∀ o f : Int, (o = op → ¬ f = off) → op = o → (off == f) = false := fun o f k e => ne_b (fun e2 => k e.symm e2.symm)
    have f0 := hs 48 0 g3 c48
    have f1 := hs 48 1 g4 c48
    clear g0 g1 g2 g3 g4 g5 g6 g7 g8 g9 g10 g11 g12 g13 g14 g15 g16 hs
    subst c48
    go_enter Tryz.func19, Tryz.ntmps19
    go_wp2
    all_goals go_ret
    all_goals exact ⟨rfl, rfl⟩
  by_cases c144 : op = 144
  · have hs : ∀ o f : Int, (o = op → ¬ f = off) → op = o → (off == f) = false := fun o f k e => ne_b (fun e2 => k e.symm e2.symm)
    have f0 := hs 144 0 g5 c144
    have f1 := hs 144 1 g6 c144
    clear g0 g1 g2 g3 g4 g5 g6 g7 g8 g9 g10 g11 g12 g13 g14 g15 g16 hs
    subst c144
    go_enter Tryz.func19, Tryz.ntmps19
    go_wp2
    all_goals go_ret
    all_goals exact ⟨rfl, rfl⟩
  by_cases c64 : op = 64
  · have hs : ∀ o f : Int, (o = op → ¬ f = off) → op = o → (off == f) = false := fun o f k e => ne_b (fun e2 => k e.symm e2.symm)
    have f0 := hs 64 0 g7 c64
    clear g0 g1 g2 g3 g4 g5 g6 g7 g8 g9 g10 g11 g12 g13 g14 g15 g16 hs
    subst c64
    go_enter Tryz.func19, Tryz.ntmps19
    go_wp2
    all_goals go_ret
    all_goals exact ⟨rfl, rfl⟩
  by_cases c80 : op = 80
  · have hs : ∀ o f : Int, (o = op → ¬ f = off) → op = o → (off == f) = false := fun o f k e => ne_b (fun e2 => k e.symm e2.symm)
    have f0 := hs 80 0 g8 c80
    clear g0 g1 g2 g3 g4 g5 g6 g7 g8 g9 g10 g11 g12 g13 g14 g15 g16 hs
    subst c80
    go_enter Tryz.func19, Tryz.ntmps19
    go_wp2
    all_goals go_ret
    all_goals exact ⟨rfl, rfl⟩
  by_cases c160 : op = 160
  · have hs : ∀ o f : Int, (o = op → ¬ f = off) → op = o → (off == f) = false := fun o f k e => ne_b (fun e2 => k e.symm e2.symm)
    have f0 := hs 160 0 g9 c160
    clear g0 g1 g2 g3 g4 g5 g6 g7 g8 g9 g10 g11 g12 g13 g14 g15 g16 hs
    subst c160
    go_enter Tryz.func19, Tryz.ntmps19
    go_wp2
    all_goals go_ret
    all_goals exact ⟨rfl, rfl⟩
  by_cases c96 : op = 96
  · have hs : ∀ o f : Int, (o = op → ¬ f = off) → op = o → (off == f) = false := fun o f k e => ne_b (fun e2 => k e.symm e2.symm)
    have f0 := hs 96 0 g10 c96
    clear g0 g1 g2 g3 g4 g5 g6 g7 g8 g9 g10 g11 g12 g13 g14 g15 g16 hs
    subst c96
    go_enter Tryz.func19, Tryz.ntmps19
    go_wp2
    all_goals go_ret
    all_goals exact ⟨rfl, rfl⟩
  by_cases c112 : op = 112
  · have hs : ∀ o f : Int, (o = op → ¬ f = off) → op = o → (off == f) = false := fun o f k e => ne_b (fun e2 => k e.symm e2.symm)
    have f0 := hs 112 0 g11 c112
    clear g0 g1 g2 g3 g4 g5 g6 g7 g8 g9 g10 g11 g12 g13 g14 g15 g16 hs
    subst c112
    go_enter Tryz.func19, Tryz.ntmps19
    go_wp2
    all_goals go_ret
    all_goals exact ⟨rfl, rfl⟩
  by_cases c192 : op = 192
  · have hs : ∀ o f : Int, (o = op → ¬ f = off) → op = o → (off == f) = false := fun o f k e => ne_b (fun e2 => k e.symm e2.symm)
    have f0 := hs 192 0 g12 c192
    clear g0 g1 g2 g3 g4 g5 g6 g7 g8 g9 g10 g11 g12 g13 g14 g15 g16 hs
    subst c192
    go_enter Tryz.func19, Tryz.ntmps19
    go_wp2
    all_goals go_ret
    all_goals exact ⟨rfl, rfl⟩
  by_cases c128 : op = 128
  · have hs : ∀ o f : Int, (o = op → ¬ f = off) → op = o → (off == f) = false := fun o f k e => ne_b (fun e2 => k e.symm e2.symm)
    have f0 := hs 128 0 g13 c128
    clear g0 g1 g2 g3 g4 g5 g6 g7 g8 g9 g10 g11 g12 g13 g14 g15 g16 hs
    subst c128
    go_enter Tryz.func19, Tryz.ntmps19
    go_wp2
    all_goals go_ret
    all_goals exact ⟨rfl, rfl⟩
  by_cases c176 : op = 176
  · have hs : ∀ o f : Int, (o = op → ¬ f = off) → op = o → (off == f) = false := fun o f k e => ne_b (fun e2 => k e.symm e2.symm)
    have f0 := hs 176 0 g14 c176
    have f1 := hs 176 8 g15 c176
    have f2 := hs 176 16 g16 c176
    clear g0 g1 g2 g3 g4 g5 g6 g7 g8 g9 g10 g11 g12 g13 g14 g15 g16 hs
    subst c176
    go_enter Tryz.func19, Tryz.ntmps19
    go_wp2
    all_goals go_ret
    all_goals exact ⟨rfl, rfl⟩
  have d0 := ne_b c0
  have d16 := ne_b c16
  have d32 := ne_b c32
  have d48 := ne_b c48
  have d144 := ne_b c144
  have d64 := ne_b c64
  have d80 := ne_b c80
  have d160 := ne_b c160
  have d96 := ne_b c96
  have d112 := ne_b c112
  have d192 := ne_b c192
  have d128 := ne_b c128
  have d176 := ne_b c176
  clear g0 g1 g2 g3 g4 g5 g6 g7 g8 g9 g10 g11 g12 g13 g14 g15 g16 c0 c16 c32 c48 c144 c64 c80 c160 c96 c112 c192 c128 c176
  go_enter Tryz.func19, Tryz.ntmps19
  go_wp2
  all_goals go_ret
  all_goals exact ⟨rfl, rfl⟩

theorem alu_no_32 (op off : Int) (x y : BitVec 64) (h : (alu op off false 0 0).2 = false) : alu op off false x y = (0, false) := by
  rw [← alu_ok op off false x y] at h
  unfold alu at h ⊢
  rw [if_neg (by decide)] at h ⊢
  split at h
  · cases h
  · rfl
set_option maxHeartbeats 400000 in
theorem refno_32 (op off a b : Int) (h : (alu op off false 0 0).2 = false) (w : World) : Calls Tryz.prog 9 #[.int .u8 op, .int .i16 off, .bool false, .int .u64 a, .int .u64 b] w fun e w' => e = .returned (.tuple #[.int .u64 0, .bool false]) ∧ w = w' := by
  have HC := put_by' (known_32 op off h)
  clear h
  go_enter Tryz.func9, Tryz.ntmps9
  go_wp2_with (go_at_call 19; refine (HC.out _).mono ?_; rintro e w' ⟨rfl, rfl⟩)
  go_ret2
  exact ⟨rfl, rfl⟩

theorem ref_any_32 (op off : Int) (x y : BitVec 64) (w : World) :
    Calls Tryz.prog 9 #[.int .u8 op, .int .i16 off, .bool false, .int .u64 x.toNat, .int .u64 y.toNat] w fun e w' => e = .returned (.tuple #[.int .u64 (alu op off false x y).1.toNat, .bool (alu op off false x y).2]) ∧ w = w' := by
  cases hk : (alu op off false 0 0).2 with
  | false =>
    rw [alu_no_32 op off x y hk]
    exact refno_32 op off _ _ hk w
  | true =>
    have hm : ∃ f, ((op, off), f) ∈ fns32 := by
      unfold alu at hk
      rw [if_neg (by decide)] at hk
      split at hk
      · rename_i q hq
        have h1 : q.1 = (op, off) := by simpa using List.find?_some hq
        exact ⟨q.2, h1 ▸ List.mem_of_find?_eq_some hq⟩
      · cases hk
    clear hk
    obtain ⟨f, hm⟩ := hm
    simp only [fns32, List.mem_cons, List.not_mem_nil, or_false, Prod.mk.injEq] at hm
    rcases hm with ⟨⟨rfl, rfl⟩, rfl⟩ | ⟨⟨rfl, rfl⟩, rfl⟩ | ⟨⟨rfl, rfl⟩, rfl⟩ | ⟨⟨rfl, rfl⟩, rfl⟩ | ⟨⟨rfl, rfl⟩, rfl⟩ | ⟨⟨rfl, rfl⟩, rfl⟩ | ⟨⟨rfl, rfl⟩, rfl⟩ | ⟨⟨rfl, rfl⟩, rfl⟩ | ⟨⟨rfl, rfl⟩, rfl⟩ | ⟨⟨rfl, rfl⟩, rfl⟩ | ⟨⟨rfl, rfl⟩, rfl⟩ | ⟨⟨rfl, rfl⟩, rfl⟩ | ⟨⟨rfl, rfl⟩, rfl⟩ | ⟨⟨rfl, rfl⟩, rfl⟩ | ⟨⟨rfl, rfl⟩, rfl⟩ | ⟨⟨rfl, rfl⟩, rfl⟩ | ⟨⟨rfl, rfl⟩, rfl⟩
    · have h := ref_add_32 _ _ (x.setWidth 32) (y.setWidth 32) (cutl x) (cutl y) w
      rw [← up_nat] at h
      exact h
    · have h := ref_sub_32 _ _ (x.setWidth 32) (y.setWidth 32) (cutl x) (cutl y) w
      rw [← up_nat] at h
      exact h
    · have h := ref_mul_32 _ _ (x.setWidth 32) (y.setWidth 32) (cutl x) (cutl y) w
      rw [← up_nat] at h
      exact h
    · have h := ref_quo_32 _ _ (x.setWidth 32) (y.setWidth 32) (cutl x) (cutl y) w
      rw [← up_nat] at h
      exact h
    · have h := ref_sdiv_32 _ _ (x.setWidth 32) (y.setWidth 32) (cutl x) (cutl y) w
      rw [← up_nat] at h
      exact h
    · have h := ref_rem_32 _ _ (x.setWidth 32) (y.setWidth 32) (cutl x) (cutl y) w
      rw [← up_nat] at h
      exact h
    · have h := ref_srem_32 _ _ (x.setWidth 32) (y.setWidth 32) (cutl x) (cutl y) w
      rw [← up_nat] at h
      exact h
    · have h := ref_or_32 _ _ (x.setWidth 32) (y.setWidth 32) (cutl x) (cutl y) w
      rw [← up_nat] at h
      exact h
    · have h := ref_and_32 _ _ (x.setWidth 32) (y.setWidth 32) (cutl x) (cutl y) w
      rw [← up_nat] at h
      exact h
    · have h := ref_xor_32 _ _ (x.setWidth 32) (y.setWidth 32) (cutl x) (cutl y) w
      rw [← up_nat] at h
      exact h
    · have h := ref_shl_32 _ _ (x.setWidth 32) (y.setWidth 32) (cutl x) (cutl y) w
      rw [← up_nat] at h
      exact h
    · have h := ref_shr_32 _ _ (x.setWidth 32) (y.setWidth 32) (cutl x) (cutl y) w
      rw [← up_nat] at h
      exact h
    · have h := ref_sar_32 _ _ (x.setWidth 32) (y.setWidth 32) (cutl x) (cutl y) w
      rw [← up_nat] at h
      exact h
    · have h := ref_neg_32 _ _ (x.setWidth 32) (y.setWidth 32) (cutl x) (cutl y) w
      rw [← up_nat] at h
      exact h
    · have h := ref_mov_32 _ _ (x.setWidth 32) (y.setWidth 32) (cutl x) (cutl y) w
      rw [← up_nat] at h
      exact h
    · have h := ref_m8_32 _ _ (x.setWidth 32) (y.setWidth 32) (cutl x) (cutl y) w
      rw [← up_nat] at h
      exact h
    · have h := ref_m16_32 _ _ (x.setWidth 32) (y.setWidth 32) (cutl x) (cutl y) w
      rw [← up_nat] at h
      exact h

theorem ref_any (op off : Int) (wide : Bool) (x y : BitVec 64) (w : World) :
    Calls Tryz.prog 9 #[.int .u8 op, .int .i16 off, .bool wide, .int .u64 x.toNat, .int .u64 y.toNat] w fun e w' => e = .returned (.tuple #[.int .u64 (alu op off wide x y).1.toNat, .bool (alu op off wide x y).2]) ∧ w = w' := by
  cases wide
  · exact ref_any_32 op off x y w
  · exact ref_any_64 op off x y w

set_option maxHeartbeats 400000 in
/-- What WordAlu's own text tells. -/
theorem word_alu (op off : Int) (h1 : (Lit.int .u8 op).wf = true) (h2 : (Lit.int .i16 off).wf = true) (wide : Bool) (a b : Int) (w0 : W64 a) (w1 : W64 b) (w : World) :
    Calls Tryz.prog 5 #[.int .u8 op, .int .i16 off, .bool wide, .int .u64 a, .int .u64 b] w fun e w' => e = .returned (.bool true) ∧ Below w.heap.size w w' := by
  obtain ⟨x, rfl⟩ := of64 w0
  obtain ⟨y, rfl⟩ := of64 w1
  have HB := put_by (Below.refl w.heap.size w)
  have HC := put_by' (alu_any op off h1 h2 wide x y)
  have HD := put_by' (ref_any op off wide x y)
  generalize alu op off wide x y = r at HC HD
  clear h1 h2 w0 w1
  obtain ⟨r, ok⟩ := r
  simp only at HC HD
  generalize (r.toNat : Int) = m at HC HD
  go_enter Tryz.func5, Tryz.ntmps5
  go_wp2_with (first
    | (go_at_call 4; refine (from_w HB.out (awake_any _)).mono ?_; clear HB; rintro e w' ⟨rfl, hb⟩; have HB := put_by hb; clear hb)
    | (go_at_call 7; refine (from_w HB.out (HC.out _)).mono ?_; clear HB; rintro e w' ⟨rfl, hb⟩; have HB := put_by hb; clear hb)
    | (go_at_call 9; refine (HD.out _).mono ?_; rintro e w' ⟨rfl, rfl⟩))
  all_goals go_ret
  all_goals exact ⟨rfl, HB.out⟩
end Go.Proofs.YtmlkbpmchcdldaaGreat
