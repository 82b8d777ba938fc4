/-
  Numbers of one, two and four bytes are put behind a row of bytes that has room.
-/
import Derived.Test.YtjndmpockfmenaaGreatS1
import Derived.Deep.DeepAppendRoom
import Derived.Maps.AppendAt
import Derived.Outline
namespace Go.Proofs.YtjndmpockfmenaaGreat
open Go.RowKit
set_option linter.unusedVariables false

/-- Block g holds, from its beginning on, n elements of type e, with room for cap. -/
def Row (w : World) (g cap : Nat) (e : TypeId) (sz n : Nat) (xs : List Value) : Prop := w.ownsRow 0 e sz (.slice (some ⟨g, 0, none⟩) n cap) n xs

theorem hide {p : Prop} (h : p) : Hid p := h
theorem u8info : (Tryz.prog.info? 5).map (fun i => (i.zero, i.size, i.bytes)) = some (some (.int .u8 0), 1, 1) := by kernel_rfl

theorem grown_row {w w1 w2 : World} {g : Nat} (h1 : w.grownBy w1 (some g)) (h2 : w1.grownBy w2 (some g)) : w.grownBy w2 (some g) :=
  ⟨h2.os.trans h1.os, h2.tape.trans h1.tape, h2.output.trans h1.output, Nat.le_trans h1.size h2.size, fun k hk hn => (h2.block k (Nat.lt_of_lt_of_le hk h1.size) hn).trans (h1.block k hk hn)⟩
theorem grown_alloc {w w1 : World} {g : Nat} {o : Obj} (h2 : (w.alloc o).grownBy w1 (some g)) : w.grownBy w1 (some g) :=
  grown_row (World.grownBy_alloc w o (some g)) h2

set_option maxRecDepth 100000 in
set_option maxHeartbeats 1000000 in
theorem put8_any (g n cap : Nat) (xs : List Value) (v : Int) (h0 : 0 ≤ v) (h1 : v < 256) (w : World) (hrow : Row w g cap 5 1 n xs) (hr : n + 1 ≤ cap) :
    Calls Tryz.prog 36 #[.slice (some ⟨g, 0, none⟩) n cap, .int .u8 v] w fun e w' =>
      e = .returned (.slice (some ⟨g, 0, none⟩) (n + 1) cap) ∧ Row w' g cap 5 1 (n + 1) (xs ++ [.int .u8 v]) ∧ w.grownBy w' (some g) := by
  obtain ⟨i0, hi, hz0, hz1, hz2⟩ := info_parts u8info
  unfold Row at hrow ⊢
  go_enter Tryz.func36, Tryz.ntmps36
  go_wp2_with (go_at_call 69; refine (size8 _).mono ?_; rintro e w' ⟨rfl, rfl⟩)
  refine wp_loop_rounds 2 ?_
  rw [rounds_succ]
  go_wp2_with (at_builtin; refine wpList_append_own_spare _ rfl (.tmp 10) (.tmp 15) _ rfl 0 5 i0 1 Tryz.underlying22 hi hz1 g n cap xs rfl (hrow.alloc _) _ 1 1 [.int .u8 (v)] rfl rfl (cell_one_new _ _ _) (by simp [Value.oneCell']) (by omega) ?_; intro w1 hrow1 hg1)
  rw [rounds_succ]
  go_wp2
  go_ret
  refine ⟨rfl, by simpa using hrow1, ?_⟩
  exact grown_alloc hg1
set_option maxRecDepth 100000 in
set_option maxHeartbeats 1000000 in
theorem put16_any (g n cap : Nat) (xs : List Value) (v : Int) (h0 : 0 ≤ v) (h1 : v < 65536) (w : World) (hrow : Row w g cap 5 1 n xs) (hr : n + 2 ≤ cap) :
    Calls Tryz.prog 37 #[.slice (some ⟨g, 0, none⟩) n cap, .int .u16 v] w fun e w' =>
      e = .returned (.slice (some ⟨g, 0, none⟩) (n + 2) cap) ∧ Row w' g cap 5 1 (n + 2) (xs ++ [.int .u8 (v % 256), .int .u8 (v / 256)]) ∧ w.grownBy w' (some g) := by
  obtain ⟨i0, hi, hz0, hz1, hz2⟩ := info_parts u8info
  unfold Row at hrow ⊢
  go_enter Tryz.func37, Tryz.ntmps37
  go_wp2_with (go_at_call 70; refine (size16 _).mono ?_; rintro e w' ⟨rfl, rfl⟩)
  refine wp_loop_rounds 3 ?_
  rw [rounds_succ]
  go_wp2_with (at_builtin; refine wpList_append_own_spare _ rfl (.tmp 10) (.tmp 16) _ rfl 0 5 i0 1 Tryz.underlying22 hi hz1 g n cap xs rfl (hrow.alloc _) _ 1 1 [.int .u8 (v % 256)] rfl rfl (cell_one_new _ _ _) (by simp [Value.oneCell']) (by omega) ?_; intro w1 hrow1 hg1)
  rw [rounds_succ]
  go_wp2_with (at_builtin; refine wpList_append_own_spare _ rfl (.tmp 10) (.tmp 16) _ rfl 0 5 i0 1 Tryz.underlying22 hi hz1 g (n + 1) cap _ rfl (hrow1.alloc _) _ 1 1 [.int .u8 (v / 256)] rfl rfl (cell_one_new _ _ _) (by simp [Value.oneCell']) (by omega) ?_; intro w2 hrow2 hg2)
  rw [rounds_succ]
  go_wp2
  go_ret
  refine ⟨rfl, by simpa using hrow2, ?_⟩
  exact (grown_alloc hg1).trans (grown_alloc hg2)
set_option maxRecDepth 100000 in
set_option maxHeartbeats 1000000 in
theorem put32_any (g n cap : Nat) (xs : List Value) (v : Int) (h0 : 0 ≤ v) (h1 : v < 4294967296) (w : World) (hrow : Row w g cap 5 1 n xs) (hr : n + 4 ≤ cap) :
    Calls Tryz.prog 38 #[.slice (some ⟨g, 0, none⟩) n cap, .int .u32 v] w fun e w' =>
      e = .returned (.slice (some ⟨g, 0, none⟩) (n + 4) cap) ∧ Row w' g cap 5 1 (n + 4) (xs ++ [.int .u8 (v % 256), .int .u8 (v / 256 % 256), .int .u8 (v / 65536 % 256), .int .u8 (v / 16777216)]) ∧ w.grownBy w' (some g) := by
  obtain ⟨i0, hi, hz0, hz1, hz2⟩ := info_parts u8info
  unfold Row at hrow ⊢
  go_enter Tryz.func38, Tryz.ntmps38
  go_wp2_with (go_at_call 71; refine (size32 _).mono ?_; rintro e w' ⟨rfl, rfl⟩)
  refine wp_loop_rounds 5 ?_
  rw [rounds_succ]
  go_wp2_with (at_builtin; refine wpList_append_own_spare _ rfl (.tmp 10) (.tmp 16) _ rfl 0 5 i0 1 Tryz.underlying22 hi hz1 g n cap xs rfl (hrow.alloc _) _ 1 1 [.int .u8 (v % 256)] rfl rfl (cell_one_new _ _ _) (by simp [Value.oneCell']) (by omega) ?_; intro w1 hrow1 hg1)
  rw [rounds_succ]
  go_wp2_with (at_builtin; refine wpList_append_own_spare _ rfl (.tmp 10) (.tmp 16) _ rfl 0 5 i0 1 Tryz.underlying22 hi hz1 g (n + 1) cap _ rfl (hrow1.alloc _) _ 1 1 [.int .u8 (v / 256 % 256)] rfl rfl (cell_one_new _ _ _) (by simp [Value.oneCell']) (by omega) ?_; intro w2 hrow2 hg2)
  rw [rounds_succ]
  go_wp2_with (at_builtin; refine wpList_append_own_spare _ rfl (.tmp 10) (.tmp 16) _ rfl 0 5 i0 1 Tryz.underlying22 hi hz1 g (n + 2) cap _ rfl (hrow2.alloc _) _ 1 1 [.int .u8 (v / 65536 % 256)] rfl rfl (cell_one_new _ _ _) (by simp [Value.oneCell']) (by omega) ?_; intro w3 hrow3 hg3)
  rw [rounds_succ]
  go_wp2_with (at_builtin; refine wpList_append_own_spare _ rfl (.tmp 10) (.tmp 16) _ rfl 0 5 i0 1 Tryz.underlying22 hi hz1 g (n + 3) cap _ rfl (hrow3.alloc _) _ 1 1 [.int .u8 (v / 16777216)] rfl rfl (cell_one_new _ _ _) (by simp [Value.oneCell']) (by omega) ?_; intro w4 hrow4 hg4)
  rw [rounds_succ]
  go_wp2
  go_ret
  refine ⟨rfl, by simpa using hrow4, ?_⟩
  exact (((grown_alloc hg1).trans (grown_alloc hg2)).trans (grown_alloc hg3)).trans (grown_alloc hg4)
end Go.Proofs.YtjndmpockfmenaaGreat
