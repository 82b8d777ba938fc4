/-
  A slot's eight bytes are put behind a row of bytes that has room.
-/
import Derived.Test.YtjndmpockfmenaaGreatS2
import Derived.RangeFuncRecord
namespace Go.Proofs.YtjndmpockfmenaaGreat
open Go.RowKit
set_option linter.unusedVariables false

/-- A slot: its parts. -/
structure Ins where
  op : Int
  dst : Int
  src : Int
  off : Int
  imm : Int
/-- Each part is a number of its own kind. -/
structure Ins.Fits (s : Ins) : Prop where
  op : 0 ≤ s.op ∧ s.op < 256
  dst : 0 ≤ s.dst ∧ s.dst < 256
  src : 0 ≤ s.src ∧ s.src < 256
  off : -32768 ≤ s.off ∧ s.off < 32768
  imm : -2147483648 ≤ s.imm ∧ s.imm < 2147483648
def Ins.cells (s : Ins) : List Value := [.int .u8 s.op, .int .u8 s.dst, .int .u8 s.src, .int .i16 s.off, .int .i32 s.imm]

theorem row_lt {w : World} {g cap : Nat} {e : TypeId} {sz n : Nat} {xs : List Value} (h : Row w g cap e sz n xs) : g < w.heap.size := (World.ownsRow.lt h g rfl).2
theorem blk_cell {W : World} {b : Nat} {cs : Array Value} {t : TypeId} (h : W.heap[b]? = some (.cells cs t (0, 0))) (i : Nat) : W.cell? ⟨b, i, none⟩ = cs[i]? := cell_of_row W b i cs t (0, 0) h
theorem blk_kept {W W' : World} {b g : Nat} {o : Obj} (h : W.heap[b]? = some o) (hg : W.grownBy W' (some g)) (hne : b ≠ g) : W'.heap[b]? = some o :=
  (hg.block b (Array.getElem?_eq_some_iff.1 h).1 (fun e => hne (by injection e))).trans h
theorem row_alloc {w : World} {g cap : Nat} {e : TypeId} {sz n : Nat} {xs : List Value} (h : Row w g cap e sz n xs) (o : Obj) : Row (w.alloc o) g cap e sz n xs := World.ownsRow.alloc h o

theorem or_parts (a b : Int) (h0 : 0 ≤ a) (h1 : a < 16) (h2 : 0 ≤ b) (h3 : b < 16) : bits .or .u8 a (b * 16) = a + 16 * b := by
  rw [u8_or a (b * 16) h0 (by omega) (by omega) (by omega)]
  obtain ⟨a, rfl⟩ := Int.eq_ofNat_of_zero_le h0
  obtain ⟨b, rfl⟩ := Int.eq_ofNat_of_zero_le h2
  have := Nat.two_pow_add_eq_or_of_lt (i := 4) (b := a) (by omega) b
  rw [show ((b : Int) * 16).toNat = 2 ^ 4 * b by omega, Int.toNat_natCast, Nat.or_comm, ← this]
  omega
/-- The eight bytes of a slot that is right. -/
def Ins.bytes (s : Ins) : List Int :=
  [s.op, s.dst + 16 * s.src, s.off % 65536 % 256, s.off % 65536 / 256, s.imm % 4294967296 % 256, s.imm % 4294967296 / 256 % 256, s.imm % 4294967296 / 65536 % 256, s.imm % 4294967296 / 16777216]
def u8s (l : List Int) : List Value := l.map (.int .u8 ·)

set_option maxRecDepth 100000 in
set_option maxHeartbeats 1000000 in
theorem putSlot_walk (g n cap : Nat) (xs : List Value) (op dst src off imm : Int) (hop : 0 ≤ op ∧ op < 256) (hd : 0 ≤ dst ∧ dst < 16) (hs : 0 ≤ src ∧ src < 16) (ho : -32768 ≤ off ∧ off < 32768) (hi : -2147483648 ≤ imm ∧ imm < 2147483648)
    (w : World) (hrow : Row w g cap 5 1 n xs) (hr : n + 8 ≤ cap) :
    Calls Tryz.prog 23 #[.slice (some ⟨g, 0, none⟩) n cap, .agg #[.int .u8 op, .int .u8 dst, .int .u8 src, .int .i16 off, .int .i32 imm]] w fun e w' =>
      e = .returned (.slice (some ⟨g, 0, none⟩) (n + 8) cap) ∧ Row w' g cap 5 1 (n + 8) (xs ++ u8s (Ins.bytes ⟨op, dst, src, off, imm⟩)) ∧ w.grownBy w' (some g) := by
  have hlt := row_lt hrow
  have HB := hide (World.alloc_heap_new w (.cells #[.int .u8 op, .int .u8 dst, .int .u8 src, .int .i16 off, .int .i32 imm] 27))
  have HG := hide (World.grownBy_alloc w (.cells #[.int .u8 op, .int .u8 dst, .int .u8 src, .int .i16 off, .int .i32 imm] 27) (some g))
  have hrow0 := row_alloc hrow (.cells #[.int .u8 op, .int .u8 dst, .int .u8 src, .int .i16 off, .int .i32 imm] 27)
  have HO := hide (or_parts dst src hd.1 hd.2 hs.1 hs.2)
  go_enter Tryz.func23, Tryz.ntmps23
  go_wp2_with fail
  refine (put8_any g n cap xs op hop.1 hop.2 _ hrow0 (by omega)).mono ?_
  rintro e w1 ⟨rfl, hrow1, hg1⟩
  have HG1 := hide (HG.out.trans hg1)
  have HB1 := hide (blk_kept HB.out hg1 (by omega))
  have c1 := blk_cell HB1.out 1
  have c2 := blk_cell HB1.out 2
  simp at c1 c2
  clear HB HG hg1
  go_wp2_with fail
  rw [HO.out]
  refine (put8_any g (n + 1) cap _ _ (by omega) (by omega) _ hrow1 (by omega)).mono ?_
  rintro e w2 ⟨rfl, hrow2, hg2⟩
  have HG2 := hide (HG1.out.trans hg2)
  have HB2 := hide (blk_kept HB1.out hg2 (by omega))
  have c3 := blk_cell HB2.out 3
  simp at c3
  clear HB1 HG1 hg2 c1 c2
  go_wp2_with fail
  refine (put16_any g (n + 1 + 1) cap _ (off % 65536) (by omega) (by omega) _ hrow2 (by omega)).mono ?_
  rintro e w3 ⟨rfl, hrow3, hg3⟩
  have HG3 := hide (HG2.out.trans hg3)
  have HB3 := hide (blk_kept HB2.out hg3 (by omega))
  have c4 := blk_cell HB3.out 4
  simp at c4
  clear HB2 HG2 hg3 c3
  go_wp2_with fail
  refine (put32_any g (n + 1 + 1 + 2) cap _ (imm % 4294967296) (by omega) (by omega) _ hrow3 (by omega)).mono ?_
  rintro e w4 ⟨rfl, hrow4, hg4⟩
  go_wp2
  go_ret
  exact ⟨rfl, by simpa [Ins.bytes, u8s] using hrow4, HG3.out.trans hg4⟩
theorem putSlot_any (g n cap : Nat) (xs : List Value) (s : Ins) (hf : s.Fits) (hd : s.dst < 16) (hs : s.src < 16) (w : World) (hrow : Row w g cap 5 1 n xs) (hr : n + 8 ≤ cap) :
    Calls Tryz.prog 23 #[.slice (some ⟨g, 0, none⟩) n cap, .agg s.cells.toArray] w fun e w' =>
      e = .returned (.slice (some ⟨g, 0, none⟩) (n + 8) cap) ∧ Row w' g cap 5 1 (n + 8) (xs ++ u8s s.bytes) ∧ w.grownBy w' (some g) :=
  putSlot_walk g n cap xs s.op s.dst s.src s.off s.imm hf.op ⟨hf.dst.1, hd⟩ ⟨hf.src.1, hs⟩ hf.off hf.imm w hrow hr
end Go.Proofs.YtjndmpockfmenaaGreat
