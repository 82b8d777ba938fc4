/-
  The closed law CodeNumbers: its walk.
-/
import Derived.Test.YtjndmpockfmenaaGreatR3
import Derived.Test.YtjndmpockfmenaaGreatK3
import Derived.Test.YtjndmpockfmenaaGreatA1
import Derived.Test.YtjndmpockfmenaaGreatN2
import Derived.Deep.RegionHeld3
import Derived.Laws.OwnMore
import Derived.Lib.SmallJoins
namespace Go.Proofs.YtjndmpockfmenaaGreat
open Go.RowKit
set_option linter.unusedVariables false

theorem lit_cell {W : World} {b : Nat} {cs : List Value} {t : TypeId} (h : W.heap[b]? = some (.cells cs.toArray t (0, 0))) {Q : Value → Prop} (hq : ∀ u ∈ cs, Q u) {n : Nat} (hn : n < cs.length) : ∃ u, W.cell? ⟨b, n, none⟩ = some u ∧ Q u := by
  refine ⟨cs[n], ?_, hq _ (List.getElem_mem _)⟩
  rw [cell_of_row W b n cs.toArray t (0, 0) h]
  simp [List.getElem?_eq_getElem hn]
def IsU8 (u : Value) : Prop := ∃ v : Int, u = .int .u8 v ∧ 0 ≤ v ∧ v < 256
def IsI16 (u : Value) : Prop := ∃ v : Int, u = .int .i16 v ∧ -32768 ≤ v ∧ v < 32768
def IsI32 (u : Value) : Prop := ∃ v : Int, u = .int .i32 v ∧ -2147483648 ≤ v ∧ v < 2147483648
theorem regs_are : ∀ u ∈ [Value.int .u8 0, .int .u8 1, .int .u8 10, .int .u8 15, .int .u8 16, .int .u8 255], IsU8 u := by
  intro u hu
  simp only [List.mem_cons, List.not_mem_nil, or_false] at hu
  rcases hu with rfl | rfl | rfl | rfl | rfl | rfl <;> exact ⟨_, rfl, by omega, by omega⟩
theorem offs_are : ∀ u ∈ [Value.int .i16 (-32768), .int .i16 (-1), .int .i16 0, .int .i16 1, .int .i16 255, .int .i16 256, .int .i16 32767], IsI16 u := by
  intro u hu
  simp only [List.mem_cons, List.not_mem_nil, or_false] at hu
  rcases hu with rfl | rfl | rfl | rfl | rfl | rfl | rfl <;> exact ⟨_, rfl, by omega, by omega⟩
theorem imms_are : ∀ u ∈ [Value.int .i32 (-2147483648), .int .i32 (-1), .int .i32 0, .int .i32 1, .int .i32 255, .int .i32 65536, .int .i32 2147483647], IsI32 u := by
  intro u hu
  simp only [List.mem_cons, List.not_mem_nil, or_false] at hu
  rcases hu with rfl | rfl | rfl | rfl | rfl | rfl | rfl <;> exact ⟨_, rfl, by omega, by omega⟩
theorem three_blocks (w : World) (a b c : Obj) : (((w.alloc a).alloc b).alloc c).heap[w.heap.size]? = some a ∧ (((w.alloc a).alloc b).alloc c).heap[w.heap.size + 1]? = some b ∧ (((w.alloc a).alloc b).alloc c).heap[w.heap.size + 2]? = some c := by
  have h1 : (w.alloc a).heap[w.heap.size]? = some a := World.alloc_heap_new w a
  have h2 : ((w.alloc a).alloc b).heap[w.heap.size + 1]? = some b := by
    have := World.alloc_heap_new (w.alloc a) b
    rwa [World.size_alloc] at this
  have h3 : (((w.alloc a).alloc b).alloc c).heap[w.heap.size + 2]? = some c := by
    have := World.alloc_heap_new ((w.alloc a).alloc b) c
    rwa [World.size_alloc, World.size_alloc] at this
  exact ⟨(Below.heap_alloc _ _ _ (by simp; omega)).trans ((Below.heap_alloc _ _ _ (by simp)).trans h1), (Below.heap_alloc _ _ _ (by simp)).trans h2, h3⟩
theorem below1c0 {w w' : World} {o : Obj} (h : Below (w.alloc o).heap.size (w.alloc o) w') : Below w.heap.size w w' := ((Below.refl _ w).alloc (Nat.le_refl _) o).trans (h.mono (by simp))
theorem u8_wrap (x : Int) : 0 ≤ IntKind.u8.wrap x ∧ IntKind.u8.wrap x < 256 := by
  simp [IntKind.wrap, IntKind.bits, IntKind.signed]
  omega
theorem bytes_made (n : Nat) (hn : n ≤ 40000) (x : Int) (hx : x = (n : Int)) (w : World) : (Instr.makeSlice 22 (.int .i64 x) (.int .i64 x)).run Tryz.prog w = .ok (.slice (some ⟨w.heap.size, 0, none⟩) n n) (w.alloc (.cells (u8s (List.replicate n 0)).toArray 5)) := by
  subst hx
  obtain ⟨i0, hi, hz0, hz1, hz2⟩ := info_parts u8info
  have e : (madeCells #[.int .u8 0] n) = (u8s (List.replicate n 0)).toArray := by
    rw [← Array.toArray_toList (xs := madeCells #[.int .u8 0] n), toList_madeCells_one]
    simp [u8s]
  have := run_make (P := Tryz.prog) w 22 5 i0 _ Tryz.underlying22 hi hz0 .i64 .i64 (n : Int) (n : Int) (by omega) (Int.le_refl _) (by rw [hz2]; omega) (by omega)
  rw [hz1, show (Value.int .u8 0).cells = #[.int .u8 0] from rfl, Int.toNat_natCast, Nat.mul_one, e] at this
  exact this
theorem bytes_rd (n : Nat) (w : World) : Rd (w.alloc (.cells (u8s (List.replicate n 0)).toArray 5)) (w.heap.size + 1) 1 (some ⟨w.heap.size, 0, none⟩) n (u8s (List.replicate n 0)) :=
  cells_rd w (u8s (List.replicate n 0)) 5 1 n (by simp [u8s])
def zeroI : Ins := ⟨0, 0, 0, 0, 0⟩
theorem long_made : ∃ C : Array Value, (∀ w : World, (Instr.makeSlice 28 (.int .i64 4097) (.int .i64 4097)).run Tryz.prog w = .ok (.slice (some ⟨w.heap.size, 0, none⟩) 4097 4097) (w.alloc (.cells C 27))) ∧
    (∀ i j u, i < 4097 → zeroI.cells[j]? = some u → C[i * 5 + j]? = some u) := by
  obtain ⟨i0, hi, hz0, hz1, hz2⟩ := info_parts slotInfo
  refine ⟨madeCells (Value.agg #[.int .u8 0, .int .u8 0, .int .u8 0, .int .i16 0, .int .i32 0]).cells (4097 * 5), fun w => ?_, fun i j u hil hu => ?_⟩
  · have := run_make (P := Tryz.prog) w 28 27 i0 _ Tryz.underlying28 hi hz0 .i64 .i64 4097 4097 (by omega) (Int.le_refl _) (by rw [hz2]; omega) (by omega)
    rw [hz1] at this
    exact this
  · have hj : j < 5 := by have := (List.getElem?_eq_some_iff.1 hu).1; simpa [Ins.cells] using this
    unfold madeCells
    rw [Array.getElem?_map, Array.getElem?_range, if_pos (by omega)]
    have e : (i * 5 + j) % (Value.agg #[.int .u8 0, .int .u8 0, .int .u8 0, .int .i16 0, .int .i32 0]).cells.size = j := by
      rw [show (Value.agg #[.int .u8 0, .int .u8 0, .int .u8 0, .int .i16 0, .int .i32 0]).cells.size = 5 from rfl]
      omega
    simp only [Option.map_some, e]
    rw [← hu]
    match j, hj with
    | 0, _ => rfl
    | 1, _ => rfl
    | 2, _ => rfl
    | 3, _ => rfl
    | 4, _ => rfl
theorem long_prg (C : Array Value) (h : ∀ i j u, i < 4097 → zeroI.cells[j]? = some u → C[i * 5 + j]? = some u) (w : World) (v : Value) (l : List Ins) (hl : l.length = 4096) (hz : ∀ s ∈ l, s = zeroI) : Prg (w.alloc (.cells (C.setIfInBounds 20481 v) 27)) (w.heap.size + 1) (some ⟨w.heap.size, 0, none⟩) 4096 l := by
  refine ⟨hl, fun _ => ⟨_, rfl, Nat.lt_succ_self _, fun i s hs j u hu => ?_⟩⟩
  have hil := (List.getElem?_eq_some_iff.1 hs).1
  have hj : j < 5 := by have := (List.getElem?_eq_some_iff.1 hu).1; simpa [Ins.cells] using this
  rw [hz s (List.mem_of_getElem? hs)] at hu
  rw [add_own, cell_of_row _ _ _ _ 27 (0, 0) (World.alloc_heap_new w _), Array.getElem?_setIfInBounds_ne (by omega)]
  exact h i j u (by omega) hu
theorem zeros : ∃ l : List Ins, l.length = 4096 ∧ ∀ s ∈ l, s = zeroI := ⟨List.replicate 4096 zeroI, List.length_replicate, fun s hs => (List.mem_replicate.1 hs).2⟩
theorem bytes_zero (n : Nat) : ∀ b ∈ List.replicate n (0 : Int), IsByte b := by
  intro b hb
  rw [(List.mem_replicate.1 hb).2]
  exact ⟨by decide, by decide⟩
theorem bytes_put (w : World) (p c : Nat) : Rd (w.alloc (.cells ((u8s (List.replicate 8 0)).toArray.setIfInBounds p (.int .u8 (c : Int))) 5)) (w.heap.size + 1) 1 (some ⟨w.heap.size, 0, none⟩) 8 (u8s ((List.replicate 8 (0 : Int)).set p (c : Int))) := by
  have : ((u8s (List.replicate 8 0)).toArray.setIfInBounds p (.int .u8 (c : Int))) = (u8s ((List.replicate 8 (0 : Int)).set p (c : Int))).toArray := by
    simp only [u8s, List.map_set, List.setIfInBounds_toArray]
  rw [this]
  exact cells_rd w (u8s ((List.replicate 8 (0 : Int)).set p (c : Int))) 5 1 8 (by simp [u8s])
theorem bytes_set (p c : Nat) (hc : c < 256) : ∀ b ∈ (List.replicate 8 (0 : Int)).set p (c : Int), IsByte b := by
  intro b hb
  rcases List.mem_or_eq_of_mem_set hb with h | h
  · exact bytes_zero 8 b h
  · rw [h]; exact ⟨by omega, by omega⟩
set_option maxRecDepth 100000 in
set_option maxHeartbeats 4000000 in
theorem numbers_any (PUTS : Hid (∀ (A : Option Addr) (n c : Nat) (l : List Ins) (w : World), Rd w w.heap.size 5 A n (pcells l) → (A = none → n = 0) → (∀ s ∈ l, s.Fits) → n ≤ 5000 → Calls Tryz.prog 4 #[.slice A n c] w fun e w' => e = .returned (.bool true) ∧ Below w.heap.size w w'))
    (GETS : Hid (∀ (A : Option Addr) (n c : Nat) (l : List Int) (w : World), Rd w w.heap.size 1 A n (u8s l) → (A = none → n = 0) → (∀ b ∈ l, IsByte b) → n ≤ 40000 → Calls Tryz.prog 10 #[.slice A n c] w fun e w' => e = .returned (.bool true) ∧ Below w.heap.size w w')) (w : World) : Calls Tryz.prog 3 #[] w fun e w' => e = .returned (.bool true) ∧ Below w.heap.size w w' := by
  go_enter Tryz.func3, Tryz.ntmps3
  go_wp2_with fail
  generalize hW3 : ((w.alloc (.cells #[.int .u8 0, .int .u8 1, .int .u8 10, .int .u8 15, .int .u8 16, .int .u8 255] 5)).alloc (.cells #[.int .i16 (-32768), .int .i16 (-1), .int .i16 0, .int .i16 1, .int .i16 255, .int .i16 256, .int .i16 32767] 23)).alloc (.cells #[.int .i32 (-2147483648), .int .i32 (-1), .int .i32 0, .int .i32 1, .int .i32 255, .int .i32 65536, .int .i32 2147483647] 21) = W3
  obtain ⟨t1, t2, t3⟩ := three_blocks w (.cells #[.int .u8 0, .int .u8 1, .int .u8 10, .int .u8 15, .int .u8 16, .int .u8 255] 5) (.cells #[.int .i16 (-32768), .int .i16 (-1), .int .i16 0, .int .i16 1, .int .i16 255, .int .i16 256, .int .i16 32767] 23) (.cells #[.int .i32 (-2147483648), .int .i32 (-1), .int .i32 0, .int .i32 1, .int .i32 255, .int .i32 65536, .int .i32 2147483647] 21)
  rw [hW3] at t1 t2 t3
  have T1 : Hid (∀ n, n < 6 → ∃ u, W3.cell? ⟨w.heap.size, n, none⟩ = some u ∧ IsU8 u) := fun n hn => lit_cell t1 regs_are hn
  have T2 : Hid (∀ n, n < 7 → ∃ u, W3.cell? ⟨w.heap.size + 1, n, none⟩ = some u ∧ IsI16 u) := fun n hn => lit_cell t2 offs_are hn
  have T3 : Hid (∀ n, n < 7 → ∃ u, W3.cell? ⟨w.heap.size + 2, n, none⟩ = some u ∧ IsI32 u) := fun n hn => lit_cell t3 imms_are hn
  have B3 : Hid (Below w.heap.size w W3) := by
    show Below w.heap.size w W3
    rw [← hW3]
    exact (((Below.refl _ w).alloc (Nat.le_refl _) _).alloc (by simp) _).alloc (by simp; omega) _
  have hs3 : w.heap.size + 2 < W3.heap.size := at_lt t3
  clear t1 t2 t3 hW3
  go_loopw [4] (fun p wr => ∃ i : Nat, i ≤ 7 ∧ p = .int .i64 i ∧ Below W3.heap.size W3 wr) (fun p _ => 7 - (intOf p).toNat)
  case atStart => exact ⟨0, by omega, rfl, Below.refl _ _⟩
  case round =>
    obtain ⟨i, hi, rfl, hX⟩ := hrel
    have HX := hide hX
    clear hX
    by_cases hli : i < 7
    · obtain ⟨wo, hwo⟩ : ∃ wo : World, wo = wr := ⟨_, rfl⟩
      subst hwo
      have di : decide ((i : Int) < 7) = true := by simp; omega
      go_wp2
      go_loopw [5] (fun p wr => ∃ k : Nat, k ≤ 7 ∧ p = .int .i64 k ∧ Below W3.heap.size W3 wr) (fun p _ => 7 - (intOf p).toNat)
      case atStart => exact ⟨0, by omega, rfl, HX.out⟩
      case round =>
        obtain ⟨k, hk, rfl, hX⟩ := hrel
        clear HX
        have HX := hide hX
        clear hX
        by_cases hlk : k < 7
        · obtain ⟨wo2, hwo⟩ : ∃ wo : World, wo = wr := ⟨_, rfl⟩
          subst hwo
          have dk : decide ((k : Int) < 7) = true := by simp; omega
          go_wp2
          go_loopw [6] (fun p wr => ∃ n : Nat, n ≤ 6 ∧ p = .int .i64 n ∧ Below W3.heap.size W3 wr) (fun p _ => 6 - (intOf p).toNat)
          case atStart => exact ⟨0, by omega, rfl, HX.out⟩
          case round =>
            obtain ⟨n, hn, rfl, hX⟩ := hrel
            clear HX
            have HX := hide hX
            clear hX
            by_cases hln : n < 6
            · obtain ⟨_, g1, v1, rfl, a1⟩ := T1.out n hln
              obtain ⟨r, hr⟩ : ∃ r : Nat, r = (n + i) % 6 := ⟨_, rfl⟩
              have hr6 : r < 6 := by omega
              obtain ⟨_, g2, v2, rfl, a2⟩ := T1.out r hr6
              obtain ⟨_, g3, v3, rfl, a3⟩ := T2.out i hli
              obtain ⟨_, g4, v4, rfl, a4⟩ := T3.out k hlk
              have k1 := (HX.out.cell (p := ⟨w.heap.size, n, none⟩) (by simp; omega)).trans g1
              have k2 := (HX.out.cell (p := ⟨w.heap.size, r, none⟩) (by simp; omega)).trans g2
              have k3 := (HX.out.cell (p := ⟨w.heap.size + 1, i, none⟩) (by simp; omega)).trans g3
              have k4 := (HX.out.cell (p := ⟨w.heap.size + 2, k, none⟩) (by simp; omega)).trans g4
              clear g1 g2 g3 g4
              have dn : decide ((n : Int) < 6) = true := by simp; omega
              have q1 : (0 : Int) ≤ (n : Int) := by omega
              have q2 : (n : Int) < 6 := by omega
              have q3 : (0 : Int) ≤ (i : Int) := by omega
              have q4 : (i : Int) < 7 := by omega
              have q5 : (0 : Int) ≤ (k : Int) := by omega
              have q6 : (k : Int) < 7 := by omega
              have p1 : IntKind.i64.wrap ((n : Int) + (i : Int)) = (n : Int) + (i : Int) := IntWalk.i64_in _ (by omega)
              have p2 : ((n : Int) + (i : Int)).tmod 6 = (r : Int) := by rw [Int.tmod_eq_emod_of_nonneg (by omega)]; omega
              have p3 : IntKind.i64.wrap ((n : Int) * 51) = (n : Int) * 51 := IntWalk.i64_in _ (by omega)
              have p4 : IntKind.u8.wrap ((n : Int) * 51) = (n : Int) * 51 := by
                simp only [IntKind.wrap, IntKind.bits, IntKind.signed]
                simp
                omega
              have q7 : (0 : Int) ≤ (r : Int) := by omega
              have q8 : (r : Int) < 6 := by omega
              clear hr
              go_wp2_with fail
              go_region_held3 (fun W => W.cell? ⟨w.heap.size, n, none⟩ = some (.int .u8 v1) ∧ W.cell? ⟨w.heap.size, r, none⟩ = some (.int .u8 v2) ∧ W.cell? ⟨w.heap.size + 1, i, none⟩ = some (.int .i16 v3) ∧ W.cell? ⟨w.heap.size + 2, k, none⟩ = some (.int .i32 v4)) (first | exact ⟨k1, k2, k3, k4⟩ | go_keep) (fail)
              clear k1 k2 k3 k4 p1 p2 p3 p4 q1 q2 q3 q4 q5 q6 q7 q8
              have hrd : Rd (wr.alloc (.cells #[.int .u8 ((n : Int) * 51), .int .u8 v1, .int .u8 v2, .int .i16 v3, .int .i32 v4] 27)).drew (wr.heap.size + 1) 5 (some ⟨wr.heap.size, 0, none⟩) 1 (pcells [⟨(n : Int) * 51, v1, v2, v3, v4⟩]) := by
                have := new_slotR_d wr (pcells [⟨(n : Int) * 51, v1, v2, v3, v4⟩]) rfl
                exact this
              have hbx : Below W3.heap.size W3 (wr.alloc (.cells #[.int .u8 ((n : Int) * 51), .int .u8 v1, .int .u8 v2, .int .i16 v3, .int .i32 v4] 27)).drew := (HX.out.alloc HX.out.size _).drew
              have hsz : (wr.alloc (.cells #[.int .u8 ((n : Int) * 51), .int .u8 v1, .int .u8 v2, .int .i16 v3, .int .i32 v4] 27)).drew.heap.size = wr.heap.size + 1 := by simp
              generalize (wr.alloc (.cells #[.int .u8 ((n : Int) * 51), .int .u8 v1, .int .u8 v2, .int .i16 v3, .int .i32 v4] 27)).drew = WX at *
              have hfs : (⟨(n : Int) * 51, v1, v2, v3, v4⟩ : Ins).Fits := ⟨⟨by simp only; omega, by simp only; omega⟩, a1, a2, a3, a4⟩
              have hf7 : (⟨7, 0, 0, 0, 0⟩ : Ins).Fits := ⟨⟨by decide, by decide⟩, ⟨by decide, by decide⟩, ⟨by decide, by decide⟩, ⟨by decide, by decide⟩, ⟨by decide, by decide⟩⟩
              have HR := hide hrd
              have HBX := hide hbx
              have HSZ := hide hsz
              have HFS := hide hfs
              have HF7 := hide hf7
              clear hrd hbx hsz hfs hf7
              go_wp2_with fail
              refine (PUTS.out _ 1 1 [⟨(n : Int) * 51, v1, v2, v3, v4⟩] WX (HR.out.mono (by rw [HSZ.out]; exact Nat.le_refl _)) nofun (fun s hs => by rw [List.mem_singleton] at hs; rw [hs]; exact HFS.out) (by omega)).mono ?_
              rintro e w1 ⟨rfl, hb1⟩
              obtain ⟨⟨o', d', s', f', m'⟩, hl, c0, c1, c2, c3, c4⟩ := (HR.out.below (hb1.mono (by rw [HSZ.out]; exact Nat.le_refl _))).slot_own (show 0 < 1 by omega)
              have HB1 := hide (HBX.out.trans (hb1.mono HBX.out.size))
              simp only [List.getElem?_cons_zero, Option.some.injEq, Ins.mk.injEq] at hl
              obtain ⟨rfl, rfl, rfl, rfl, rfl⟩ := hl
              simp only [Nat.zero_mul, Nat.zero_add] at c0 c1 c2 c3 c4
              clear hb1
              have hrd2 : Rd (w1.alloc (.cells #[.int .u8 7, .int .u8 0, .int .u8 0, .int .i16 0, .int .i32 0, .int .u8 ((n : Int) * 51), .int .u8 v1, .int .u8 v2, .int .i16 v3, .int .i32 v4] 27)) (w1.heap.size + 1) 5 (some ⟨w1.heap.size, 0, none⟩) 2 (pcells [⟨7, 0, 0, 0, 0⟩, ⟨(n : Int) * 51, v1, v2, v3, v4⟩]) :=
                cells_rd w1 (pcells [⟨7, 0, 0, 0, 0⟩, ⟨(n : Int) * 51, v1, v2, v3, v4⟩]) 27 5 2 rfl
              have HR2 := hide hrd2
              clear hrd2
              go_wp2_with fail
              refine (PUTS.out _ 2 2 [⟨7, 0, 0, 0, 0⟩, ⟨(n : Int) * 51, v1, v2, v3, v4⟩] _ (HR2.out.mono (by simp)) nofun (fun s hs => by
                rw [List.mem_cons, List.mem_singleton] at hs
                rcases hs with rfl | rfl
                · exact HF7.out
                · exact HFS.out) (by omega)).mono ?_
              rintro e w2 ⟨rfl, hb2⟩
              have HB2 := hide (HB1.out.trans ((below1c0 hb2).mono HB1.out.size))
              clear hb2 c0 c1 c2 c3 c4
              go_wp2
              go_roundw
              case rel => exact ⟨n + 1, by omega, by go_num, HB2.out⟩
              case measure => simp [intOf]; omega
            · have hn6 : n = 6 := by omega
              have dn : decide ((n : Int) < 6) = false := by simp; omega
              clear hn6
              go_wp2
              go_roundw
              case rel => exact ⟨k + 1, by omega, by go_num, HX.out⟩
              case measure => simp [intOf]; omega
        · have hk7 : k = 7 := by omega
          have dk : decide ((k : Int) < 7) = false := by simp; omega
          clear hk7
          go_wp2
          go_roundw
          case rel => exact ⟨i + 1, by omega, by go_num, HX.out⟩
          case measure => simp [intOf]; omega
    · have hi7 : i = 7 := by omega
      have di : decide ((i : Int) < 7) = false := by simp; omega
      clear hi7
      have HW := hide (B3.out.trans (HX.out.mono (by omega)))
      clear HX T1 T2 T3 B3
      obtain ⟨wo, hwo⟩ : ∃ wo : World, wo = wr := ⟨_, rfl⟩
      subst hwo
      clear hs3
      go_wp2_with fail
      go_loopw [8] (fun p wr => ∃ i : Nat, i ≤ 8 ∧ p = .int .i64 i ∧ Below w.heap.size w wr) (fun p _ => 8 - (intOf p).toNat)
      case atStart => exact ⟨0, by omega, rfl, HW.out⟩
      case round =>
        obtain ⟨i, hi, rfl, hX⟩ := hrel
        clear HW
        have HX := hide hX
        clear hX
        by_cases hli : i < 8
        · obtain ⟨wo2, hwo⟩ : ∃ wo : World, wo = wr := ⟨_, rfl⟩
          subst hwo
          have di : decide ((i : Int) < 8) = true := by simp; omega
          go_wp2
          go_loopw [9] (fun p wr => ∃ k : Nat, k ≤ 256 ∧ p = .int .i64 k ∧ Below w.heap.size w wr) (fun p _ => 256 - (intOf p).toNat)
          case atStart => exact ⟨0, by omega, rfl, HX.out⟩
          case round =>
            obtain ⟨k, hk, rfl, hX⟩ := hrel
            clear HX
            have HX := hide hX
            clear hX
            by_cases hlk : k < 256
            · have dk : decide ((k : Int) < 256) = true := by simp; omega
              have HP := hide (bytes_put wr i k)
              have HBS := hide (bytes_set i k hlk)
              have hmk := bytes_made 8 (by omega) 8 rfl
              have hcl : (wr.alloc (.cells (u8s (List.replicate 8 0)).toArray 5)).cell? ⟨wr.heap.size, i, none⟩ = some (.int .u8 0) := by
                rw [cell_of_row _ _ i _ 5 (0, 0) (World.alloc_heap_new wr _)]
                have hi8 : i < (List.replicate 8 (0 : Int)).length := by simp; omega
                simp only [u8s, List.getElem?_toArray, List.getElem?_map, List.getElem?_eq_getElem hi8, List.getElem_replicate]
                rfl
              have hfz : (wr.alloc (.cells (u8s (List.replicate 8 0)).toArray 5)).frozen? ⟨wr.heap.size, i, none⟩ = false := Joins.unfrozen_of_block (World.alloc_heap_new wr _) i
              have hbz : Below wr.heap.size wr (wr.alloc (.cells (u8s (List.replicate 8 0)).toArray 5)) := (Below.refl _ _).alloc (Nat.le_refl _) _
              have hzz : (wr.alloc (.cells (u8s (List.replicate 8 0)).toArray 5)).heap.size = wr.heap.size + 1 := by simp
              generalize (u8s (List.replicate 8 0)).toArray = Z at hmk hcl hfz hbz hzz HP
              have HZ := hide (show Below w.heap.size w (wr.alloc (.cells (Z.setIfInBounds i (.int .u8 (k : Int))) 5)) from HX.out.alloc HX.out.size _)
              have HZS := hide (show (wr.alloc (.cells (Z.setIfInBounds i (.int .u8 (k : Int))) 5)).heap.size = wr.heap.size + 1 by simp)
              have HBL := hide (show ((List.replicate 8 (0 : Int)).set i (k : Int)).length = 8 by simp)
              clear hbz hzz
              have q1 : (0 : Int) ≤ (i : Int) := by omega
              have q2 : (i : Int) < 8 := by omega
              have q3 : (0 : Int) ≤ (k : Int) := by omega
              have q4 : (k : Int) < 256 := by omega
              generalize (List.replicate 8 (0 : Int)).set i (k : Int) = bs at *
              have HSR := hide (slots_right bs 1 HBS.out)
              have HBB := hide (bytes_slots bs 1 HBL.out HBS.out)
              go_wp2_with fail
              generalize wr.alloc (.cells (Z.setIfInBounds i (.int .u8 (k : Int))) 5) = WZ at *
              refine (get_right 8 1 8 (some ⟨wr.heap.size, 0, none⟩) (wr.heap.size + 1) bs WZ rfl (by omega) (by omega) (by simp [maxLen]) HP.out.byt (by rw [HZS.out]; exact Nat.le_refl _) HBS.out).mono ?_
              rintro e w1 ⟨g1, rfl, hm1⟩
              have HM1 := hide hm1
              have HB1 := hide (HZ.out.trans (hm1.2.2.mono HZ.out.size))
              have HR1 : Hid (Rd w1 w1.heap.size 5 (some ⟨g1, 0, none⟩) 1 (pcells (slots bs 1))) := hm1.rd
              have HP1 := hide (HP.out.below (hm1.2.2.mono (by rw [HZS.out]; exact Nat.le_refl _)))
              have hz1 := hm1.2.2.size
              rw [HZS.out] at hz1
              clear hm1 hcl hfz hmk
              go_wp2_with fail
              refine (put_right 1 1 (some ⟨g1, 0, none⟩) w1.heap.size (slots bs 1) w1 (by omega) HR1.out.prg (Nat.le_refl _) HSR.out.1 HSR.out.2).mono ?_
              rintro e w2 ⟨g2, rfl, hm2⟩
              rw [HBB.out] at hm2
              have HB2 := hide (HB1.out.trans (hm2.2.2.mono HB1.out.size))
              have HQ2 : Hid (Rd w2 w2.heap.size 1 (some ⟨g2, 0, none⟩) (8 * 1) (u8s bs)) := hm2.rd
              have HR2 := hide ((HR1.out.below hm2.2.2).mono hm2.2.2.size)
              have HP2 := hide (HP1.out.below (hm2.2.2.mono hz1))
              have hz2 := Nat.le_trans hz1 hm2.2.2.size
              clear hm2
              go_wp2_with fail
              refine (refGet_right (some ⟨wr.heap.size, 0, none⟩) 8 1 8 (wr.heap.size + 1) bs w2 HP2.out hz2 rfl (by omega) HBS.out).mono ?_
              rintro e w3 ⟨v, rfl, ho3, hb3⟩
              obtain ⟨A3, c3, rfl, hr3⟩ := owns_slice ho3
              have HB3 := hide (HB2.out.trans (hb3.mono HB2.out.size))
              have HQ3 := hide ((HQ2.out.below hb3).mono hb3.size)
              have HR3 := hide ((HR2.out.below hb3).mono hb3.size)
              have HP3 := hide (HP2.out.below (hb3.mono hz2))
              have HV3 := hide hr3
              have hz3 := Nat.le_trans hz2 hb3.size
              clear ho3 hr3 hb3
              go_wp2_with fail
              refine (sameProgram_yes (some ⟨g1, 0, none⟩) A3 1 1 c3 w3.heap.size (slots bs 1) w3 HR3.out HV3.out (Nat.le_refl _) (by omega)).mono ?_
              rintro e w4 ⟨rfl, hb4⟩
              have HB4 := hide (HB3.out.trans (hb4.mono HB3.out.size))
              have HQ4 := hide ((HQ3.out.below hb4).mono hb4.size)
              have HP4 := hide ((HP3.out.below (hb4.mono hz3)).mono (Nat.le_trans hz3 hb4.size))
              clear hb4
              go_wp2_with fail
              refine (sameBytes_yes (some ⟨g2, 0, none⟩) (some ⟨wr.heap.size, 0, none⟩) 8 8 8 w4.heap.size bs w4 HQ4.out HP4.out (Nat.le_refl _) (by omega)).mono ?_
              rintro e w5 ⟨rfl, hb5⟩
              have HB5 := hide (HB4.out.trans (hb5.mono HB4.out.size))
              clear hb5
              go_wp2
              go_roundw
              case rel => exact ⟨k + 1, by omega, by go_num, HB5.out⟩
              case measure => simp [intOf]; omega
            · have hk256 : k = 256 := by omega
              have dk : decide ((k : Int) < 256) = false := by simp; omega
              clear hk256
              go_wp2
              go_roundw
              case rel => exact ⟨i + 1, by omega, by go_num, HX.out⟩
              case measure => simp [intOf]; omega
        · have hi8 : i = 8 := by omega
          have di : decide ((i : Int) < 8) = false := by simp; omega
          clear hi8
          go_wp2_with fail
          go_loopw [17] (fun p wr => ∃ i : Nat, i ≤ 20 ∧ p = .int .i64 i ∧ Below w.heap.size w wr) (fun p _ => 20 - (intOf p).toNat)
          case atStart => exact ⟨0, by omega, rfl, HX.out⟩
          case round =>
            obtain ⟨i, hi, rfl, hX⟩ := hrel
            clear HX
            have HX := hide hX
            clear hX
            by_cases hli : i < 20
            · have di2 : decide ((i : Int) < 20) = true := by simp; omega
              have hmk := bytes_made i (by omega) (i : Int) rfl
              have HR := hide (bytes_rd i wr)
              go_wp2_with fail
              refine (GETS.out _ i i (List.replicate i 0) _ (HR.out.mono (by simp)) nofun (bytes_zero i) (by omega)).mono ?_
              rintro e w1 ⟨rfl, hb1⟩
              have HB1 := hide (HX.out.trans ((below1c0 hb1).mono HX.out.size))
              clear hb1
              go_wp2
              go_roundw
              case rel => exact ⟨i + 1, by omega, by go_num, HB1.out⟩
              case measure => simp [intOf]; omega
            · have hi20 : i = 20 := by omega
              have di2 : decide ((i : Int) < 20) = false := by simp; omega
              clear hi20
              obtain ⟨C, hmk, hC⟩ := long_made
              obtain ⟨l, hl, hz⟩ := zeros
              have HPG := hide (long_prg C hC wr (.int .u8 99) l hl hz)
              have HFT : Hid (∀ s ∈ l, s.Fits) := fun s hs => by rw [hz s hs]; exact ⟨by decide, by decide, by decide, by decide, by decide⟩
              have HRT : Hid (∀ s ∈ l, Right s) := fun s hs => by rw [hz s hs]; exact ⟨by decide, by decide⟩
              have HBY := hide (bytes_are l HFT.out HRT.out)
              have HAR : Hid (allRight l = true) := (allRight_iff l).2 HRT.out
              have hcl : (wr.alloc (.cells C 27)).cell? ⟨wr.heap.size, 20481, none⟩ = some (.int .u8 0) := by
                rw [cell_of_row _ _ _ _ 27 (0, 0) (World.alloc_heap_new wr _)]
                exact hC 4096 1 _ (by omega) rfl
              have hfz : (wr.alloc (.cells C 27)).frozen? ⟨wr.heap.size, 20481, none⟩ = false := Joins.unfrozen_of_block (World.alloc_heap_new wr _) 20481
              have HZ := hide (show Below w.heap.size w (wr.alloc (.cells (C.setIfInBounds 20481 (.int .u8 99)) 27)) from HX.out.alloc HX.out.size _)
              have HZS := hide (show (wr.alloc (.cells (C.setIfInBounds 20481 (.int .u8 99)) 27)).heap.size = wr.heap.size + 1 by simp)
              obtain ⟨C2, hmk2⟩ : ∃ C2 : Array Value, ∀ w : World, (Instr.makeSlice 22 (.int .i64 32769) (.int .i64 32769)).run Tryz.prog w = .ok (.slice (some ⟨w.heap.size, 0, none⟩) 32769 32769) (w.alloc (.cells C2 5)) := ⟨_, bytes_made 32769 (by omega) 32769 rfl⟩
              have hge : getErr 32769 = 3 := if_pos (by omega)
              have HGE := hide hge
              clear hC hl hz hge
              go_wp2_with fail
              generalize wr.alloc (.cells (C.setIfInBounds 20481 (.int .u8 99)) 27) = WZ at *
              refine (put_right 4096 4097 (some ⟨wr.heap.size, 0, none⟩) (wr.heap.size + 1) l WZ (by omega) HPG.out (by rw [HZS.out]; exact Nat.le_refl _) HFT.out HAR.out).mono ?_
              rintro e w1 ⟨g1, rfl, hm1⟩
              generalize l.flatMap Ins.bytes = bs at *
              have HB1 := hide (HZ.out.trans (hm1.2.2.mono HZ.out.size))
              have HR1 : Hid (Rd w1 w1.heap.size 1 (some ⟨g1, 0, none⟩) (8 * 4096) (u8s bs)) := hm1.rd
              clear hm1 hcl hfz hmk
              go_wp2_with fail
              refine (put_long 4097 4097 _ _ (by omega)).mono ?_
              rintro e w2 ⟨rfl, hb2⟩
              have HB2 := hide (HB1.out.trans (hb2.mono HB1.out.size))
              have HR2 := hide ((HR1.out.below hb2).mono hb2.size)
              clear hb2
              go_wp2_with fail
              refine (get_right (8 * 4096) 4096 (8 * 4096) (some ⟨g1, 0, none⟩) w2.heap.size bs w2 rfl (by omega) (Nat.le_refl _) (by simp [maxLen]) HR2.out.byt (Nat.le_refl _) HBY.out).mono ?_
              rintro e w3 ⟨g3, rfl, hm3⟩
              have HB3 := hide (HB2.out.trans (hm3.2.2.mono HB2.out.size))
              clear hm3
              go_wp2_with fail
              refine (get_wrong 32769 32769 _ _ (.inl (by omega))).mono ?_
              rintro e w4 ⟨rfl, hb4⟩
              rw [HGE.out]
              have HB4 := hide (HB3.out.trans ((below1c0 hb4).mono HB3.out.size))
              clear hb4
              go_wp2_with fail
              refine (PUTS.out none 0 0 [] w4 Rd.nil (fun _ => rfl) (by simp) (by omega)).mono ?_
              rintro e w5 ⟨rfl, hb5⟩
              have HB5 := hide (HB4.out.trans (hb5.mono HB4.out.size))
              clear hb5
              go_wp2_with fail
              refine (awake_any w5).mono ?_
              rintro e w6 ⟨rfl, hb6⟩
              have HB6 := hide (HB5.out.trans (hb6.mono HB5.out.size))
              clear hb6
              go_wp2
              go_ret
              exact ⟨rfl, HB6.out⟩
end Go.Proofs.YtjndmpockfmenaaGreat
