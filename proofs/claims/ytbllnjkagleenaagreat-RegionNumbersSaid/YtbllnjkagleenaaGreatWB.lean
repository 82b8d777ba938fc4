/-
  Rows of bytes, and the marks that stand behind what is lent.
-/
import Derived.Test.YtbllnjkagleenaaGreatKB
namespace Go.Proofs.YtbllnjkagleenaaGreat
open Go.RowKit
set_option linter.unusedVariables false

def u8s (l : List Int) : List Value := l.map (.int .u8 ·)
def IsByte (b : Int) : Prop := 0 ≤ b ∧ b < 256
theorem u8s_one (l : List Int) : ∀ u ∈ u8s l, u.oneCell' = true := by
  intro u hu
  unfold u8s at hu
  rw [List.mem_map] at hu
  obtain ⟨b, _, rfl⟩ := hu
  rfl
theorem u8info : (Tryz.prog.info? 5).map (fun i => (i.zero, i.size, i.bytes)) = some (some (.int .u8 0), 1, 1) := by kernel_rfl
theorem flip_same {f : FuncId} {args : Array Value} {w : World} {v : Value} (h : Calls Tryz.prog f args w fun e w' => e = .returned v ∧ w = w') : Calls Tryz.prog f args w fun e w' => e = .returned v ∧ w' = w :=
  h.mono fun e w' h => ⟨h.1, h.2.symm⟩
theorem blk_free {W : World} {b : Nat} {cs : Array Value} {t : TypeId} (h : W.heap[b]? = some (.cells cs t (0, 0))) (i : Nat) : W.frozen? ⟨b, i, none⟩ = false := by simp [World.frozen?, h]
theorem add_own (g i : Nat) : (⟨g, 0, none⟩ : Addr).add i = ⟨g, i, none⟩ := by unfold Addr.add; split <;> simp_all
theorem made_row (c : Nat) (hc : c ≤ 4194304) : ∃ C : Array Value, C.size = c ∧ ∀ w : World, (Instr.makeSlice 26 (.int .i64 0) (.int .i64 (c : Int))).run Tryz.prog w = .ok (.slice (some ⟨w.heap.size, 0, none⟩) 0 c) (w.alloc (.cells C 5)) ∧
    Row (w.alloc (.cells C 5)) w.heap.size c 5 1 0 [] := by
  obtain ⟨i0, hi, hz0, hz1, hz2⟩ := info_parts u8info
  refine ⟨madeCells (Value.int .u8 0).cells (c * i0.size), by rw [size_madeCells, hz1]; omega, fun w => ⟨?_, ?_⟩⟩
  · have := run_make (P := Tryz.prog) w 26 5 i0 _ Tryz.underlying26 hi hz0 .i64 .i64 0 (c : Int) (Int.le_refl _) (by omega) (by rw [hz2]; omega) (by omega)
    simpa using this
  · exact World.ownsRow_made w _ c (Nat.zero_le _) (by simp only [maxLen]; omega) (by rw [size_madeCells, hz1])
def markN (k i : Nat) : Int := 1000003 * ((k : Int) + 7) + i
theorem mark_any (k i : Nat) (hk : k ≤ 1000) (hi : i ≤ 1000000000) (w : World) : Calls Tryz.prog 41 #[.int .i64 k, .int .i64 i] w fun e w' => e = .returned (.int .i64 (markN k i)) ∧ w = w' := by
  go_enter Tryz.func41, Tryz.ntmps41
  go_wp2
  go_ret
  exact ⟨by simp [markN], rfl⟩
def markB (k i : Nat) : Int := (markN k i * 11400714819323198485) % 18446744073709551616 / 72057594037927936
theorem markB_byte (k i : Nat) : IsByte (markB k i) := by
  unfold markB IsByte
  omega
set_option maxRecDepth 100000 in
theorem markByte_any (k i : Nat) (hk : k ≤ 1000) (hi : i ≤ 1000000000) (w : World) : Calls Tryz.prog 33 #[.int .i64 k, .int .i64 i] w fun e w' => e = .returned (.int .u8 (markB k i)) ∧ w = w' := by
  go_enter Tryz.func33, Tryz.ntmps33
  go_wp2_with (go_at_call 41; refine (mark_any _ _ hk hi _).mono ?_; rintro e w' ⟨rfl, rfl⟩)
  go_ret
  refine ⟨congrArg (fun n => Ending.returned (.int .u8 n)) ?_, rfl⟩
  have h1 : ∀ n, IntKind.u64.wrap n = n % 18446744073709551616 := fun n => by simp [IntKind.wrap, IntKind.bits, IntKind.signed]
  have h2 : markN k i % 18446744073709551616 = markN k i := by unfold markN; omega
  rw [h1, h1, h2]
  unfold markB
  generalize markN k i * 11400714819323198485 = x
  omega
end Go.Proofs.YtbllnjkagleenaaGreat
