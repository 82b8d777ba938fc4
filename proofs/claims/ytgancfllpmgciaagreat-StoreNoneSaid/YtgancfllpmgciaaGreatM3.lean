/-
  at, can, Spec, Push of what is no map in order.
-/
import Derived.Test.YtgancfllpmgciaaGreatM2
import Derived.Stop.Asserts
namespace Go.Proofs.YtgancfllpmgciaaGreat
open Go.RowKit
set_option linter.unusedVariables false

section
variable {w w' : World} {B b last c : Nat} {A : Option Addr} {L : List SE}
def zobj : Obj := .cells #[.int .u8 0, .int .i64 0, .int .i64 0, .int .i64 0, .nilIface] 60
theorem zobj_at (w : World) : (w.alloc (.cells #[.int .u8 0, .int .i64 0, .int .i64 0, .int .i64 0, .nilIface] 60)).heap[w.heap.size]? = some (.cells #[.int .u8 0, .int .i64 0, .int .i64 0, .int .i64 0, .nilIface] 60 (0, 0)) := World.alloc_heap_new w _
set_option maxRecDepth 100000 in
set_option maxHeartbeats 1000000 in
theorem at_no (x : Int) (h : Sto w B b last A c L) (hx : isAt L x = false) : Calls Tryz.prog 26 #[.pointer (some ⟨b, 0, none⟩), .int .i64 x] w fun e w' => e = .returned (.tuple #[zeroE, .int .i64 52]) ∧ Below w.heap.size w w' := by
  have hb1 := below1 w (.cells #[.int .u8 0, .int .i64 0, .int .i64 0, .int .i64 0, .nilIface] 60)
  have h1 := h.below hb1
  have HM := hide (is_yes b _ h1.c0)
  have HF := hide (find_no x h1 hx)
  have HX := hide (zobj_at w)
  have HB1 := hide hb1
  clear h h1 hb1 hx
  go_enter Tryz.func26, Tryz.ntmps26
  simp only [zeroE] at *
  go_wp2_with (first
    | (go_at_call 21; refine HM.out.mono ?_; rintro e w' ⟨rfl, rfl⟩)
    | (go_at_call 42; refine HF.out.mono ?_; rintro e w1 ⟨rfl, hb⟩; have HB := hide hb; obtain ⟨⟨k0, k1, k2, k3, k4⟩, ⟨f0, f1, f2, f3, f4⟩, hlt⟩ := five ((hb.block _ (at_lt HX.out)).trans HX.out); clear hb))
  have hW := (Below.heap_alloc _ (.cells #[.int .u8 0, .int .i64 0, .int .i64 0, .int .i64 0, .nilIface] 60) w.heap.size (by simpa using hlt)).trans (five_set ((HB.out.block _ (at_lt HX.out)).trans HX.out) (.int .u8 0) (.int .i64 0) (.int .i64 0) (.int .i64 0) .nilIface)
  have hBW := (set5 (HB1.out.trans (HB.out.mono HB1.out.size)) (Nat.le_refl w.heap.size) (.int .u8 0) (.int .i64 0) (.int .i64 0) (.int .i64 0) .nilIface).alloc (by simpa using Nat.le_trans HB1.out.size HB.out.size) (.cells #[.int .u8 0, .int .i64 0, .int .i64 0, .int .i64 0, .nilIface] 60)
  revert hW hBW
  generalize World.alloc _ _ = W
  intro hW hBW
  obtain ⟨⟨d0, d1, d2, d3, d4⟩, _⟩ := five hW
  refine bodyPost_ret (v := .tuple #[zeroE, .int .i64 52]) ?_ rfl ⟨rfl, hBW⟩
  simp [results, Tryz.results26, go_sem, d0, d1, d2, d3, d4, zeroE]
set_option maxRecDepth 100000 in
set_option maxHeartbeats 1000000 in
theorem at_yes {r : SE} {i : Nat} (x : Int) (h : Sto w B b last A c L) (hr : L[i]? = some r) (hx : x = r.h) : Calls Tryz.prog 26 #[.pointer (some ⟨b, 0, none⟩), .int .i64 x] w fun e w' => e = .returned (.tuple #[r.entry, .int .i64 0]) ∧ Below w.heap.size w w' := by
  have hb1 := below1 w (.cells #[.int .u8 0, .int .i64 0, .int .i64 0, .int .i64 0, .nilIface] 60)
  have h1 := h.below hb1
  have HM := hide (is_yes b _ h1.c0)
  have HF := hide (find_yes x h1 hr hx)
  have HX := hide (zobj_at w)
  have HB1 := hide hb1
  clear h h1 hb1 hx hr
  obtain ⟨h, k, key, val, ent, t, v⟩ := r
  simp only [SE.entry] at *
  go_enter Tryz.func26, Tryz.ntmps26
  go_wp2_with (first
    | (go_at_call 21; refine HM.out.mono ?_; rintro e w' ⟨rfl, rfl⟩)
    | (go_at_call 42; refine HF.out.mono ?_; rintro e w1 ⟨rfl, hb⟩; have HB := hide hb; obtain ⟨⟨k0, k1, k2, k3, k4⟩, ⟨f0, f1, f2, f3, f4⟩, hlt⟩ := five ((hb.block _ (at_lt HX.out)).trans HX.out); clear hb))
  have hW := (Below.heap_alloc _ (.cells #[.int .u8 k, .int .i64 key, .int .i64 val, .int .i64 ent, .iface t v] 60) w.heap.size (by simpa using hlt)).trans (five_set ((HB.out.block _ (at_lt HX.out)).trans HX.out) (.int .u8 k) (.int .i64 key) (.int .i64 val) (.int .i64 ent) (.iface t v))
  have hBW := (set5 (HB1.out.trans (HB.out.mono HB1.out.size)) (Nat.le_refl w.heap.size) (.int .u8 k) (.int .i64 key) (.int .i64 val) (.int .i64 ent) (.iface t v)).alloc (by simpa using Nat.le_trans HB1.out.size HB.out.size) (.cells #[.int .u8 k, .int .i64 key, .int .i64 val, .int .i64 ent, .iface t v] 60)
  revert hW hBW
  generalize World.alloc _ _ = W
  intro hW hBW
  obtain ⟨⟨d0, d1, d2, d3, d4⟩, _⟩ := five hW
  refine bodyPost_ret (v := .tuple #[.agg #[.int .u8 k, .int .i64 key, .int .i64 val, .int .i64 ent, .iface t v], .int .i64 0]) ?_ rfl ⟨rfl, hBW⟩
  simp [results, Tryz.results26, go_sem, d0, d1, d2, d3, d4]
/-- What can tells of a handle under which there is no map. -/
theorem can_stale (x : Int) (h : Sto w B b last A c L) (hx : isAt L x = false) : Calls Tryz.prog 28 #[.pointer (some ⟨b, 0, none⟩), .int .i64 x] w fun e w' => e = .returned (.tuple #[.nilIface, .int .i64 52]) ∧ Below w.heap.size w w' := by
  have HA := hide (at_no x h hx)
  clear h hx
  simp only [zeroE] at *
  go_enter Tryz.func28, Tryz.ntmps28
  go_wp2_with (go_at_call 26; refine HA.out.mono ?_; rintro e w1 ⟨rfl, hb⟩; have HB := hide hb; clear hb)
  go_ret2
  exact ⟨rfl, HB.out.alloc HB.out.size _⟩
theorem arr_lacks (v : Value) (xT : TypeId) (w : World) : (Instr.typeAssert (.iface 97 v) xT 72 true).run Tryz.prog w = .ok (.tuple #[.nilIface, .bool false]) w :=
  run_typeAssert_lacksB Tryz.underlying72 (by kernel_rfl) (by kernel_rfl) v xT w
/-- .. of an array. -/
theorem can_kind {r : SE} {i : Nat} (x : Int) (h : Sto w B b last A c L) (hr : L[i]? = some r) (hx : x = r.h) (ht : r.t = 97) : Calls Tryz.prog 28 #[.pointer (some ⟨b, 0, none⟩), .int .i64 x] w fun e w' => e = .returned (.tuple #[.nilIface, .int .i64 9]) ∧ Below w.heap.size w w' := by
  have HA := hide (at_yes x h hr hx)
  clear h hx hr
  obtain ⟨h, k, key, val, ent, t, v⟩ := r
  simp only [SE.entry] at *
  subst ht
  have hl := arr_lacks v 20
  go_enter Tryz.func28, Tryz.ntmps28
  go_wp2_with (go_at_call 26; refine HA.out.mono ?_; rintro e w1 ⟨rfl, hb⟩; have HB := hide hb; clear hb)
  go_ret2
  exact ⟨rfl, HB.out.alloc HB.out.size _⟩
theorem push_stale (x : Int) (a1 a2 : Value) (h : Sto w B b last A c L) (hx : isAt L x = false) : Calls Tryz.prog 17 #[.pointer (some ⟨b, 0, none⟩), .int .i64 x, a1, a2] w fun e w' => e = .returned (.int .i64 52) ∧ Below w.heap.size w w' := by
  have HA := hide (can_stale x h hx)
  clear h hx
  go_enter Tryz.func17, Tryz.ntmps17
  go_wp2_with (go_at_call 28; refine HA.out.mono ?_; rintro e w1 ⟨rfl, hb⟩; have HB := hide hb; clear hb)
  go_ret
  exact ⟨rfl, HB.out⟩
theorem push_kind {r : SE} {i : Nat} (x : Int) (a1 a2 : Value) (h : Sto w B b last A c L) (hr : L[i]? = some r) (hx : x = r.h) (ht : r.t = 97) : Calls Tryz.prog 17 #[.pointer (some ⟨b, 0, none⟩), .int .i64 x, a1, a2] w fun e w' => e = .returned (.int .i64 9) ∧ Below w.heap.size w w' := by
  have HA := hide (can_kind x h hr hx ht)
  clear h hx hr ht
  go_enter Tryz.func17, Tryz.ntmps17
  go_wp2_with (go_at_call 28; refine HA.out.mono ?_; rintro e w1 ⟨rfl, hb⟩; have HB := hide hb; clear hb)
  go_ret
  exact ⟨rfl, HB.out⟩
/-- A map's make. -/
theorem spec_no (x : Int) (h : Sto w B b last A c L) (hx : isAt L x = false) : Calls Tryz.prog 7 #[.pointer (some ⟨b, 0, none⟩), .int .i64 x] w fun e w' => e = .returned (.tuple #[.agg #[.int .u8 0, .int .i64 0, .int .i64 0, .int .i64 0], .int .i64 52]) ∧ Below w.heap.size w w' := by
  have hb1 := below1 w (.cells #[.int .u8 0, .int .i64 0, .int .i64 0, .int .i64 0] 24)
  have HX := hide (World.alloc_heap_new w (.cells #[.int .u8 0, .int .i64 0, .int .i64 0, .int .i64 0] 24))
  have HA := hide (at_no x (h.below hb1) hx)
  have HB1 := hide hb1
  clear h hx hb1
  simp only [zeroE] at *
  go_enter Tryz.func7, Tryz.ntmps7
  go_wp2_with (go_at_call 26; refine HA.out.mono ?_; rintro e w1 ⟨rfl, hb⟩; have HB := hide hb; have hx4 := (hb.block _ (at_lt HX.out)).trans HX.out; have k0 := (blk_cell hx4 0).trans rfl; have k1 := (blk_cell hx4 1).trans rfl; have k2 := (blk_cell hx4 2).trans rfl; have k3 := (blk_cell hx4 3).trans rfl; have f0 := Joins.unfrozen_of_block hx4 0; have f1 := Joins.unfrozen_of_block hx4 1; have f2 := Joins.unfrozen_of_block hx4 2; have f3 := Joins.unfrozen_of_block hx4 3; have hlt := at_lt hx4; clear hb hx4)
  have hW := (Below.heap_alloc _ (.cells #[.int .u8 0, .int .i64 0, .int .i64 0, .int .i64 0, .nilIface] 60) w.heap.size (by simpa using hlt)).trans (store_4 ((HB.out.block _ (at_lt HX.out)).trans HX.out) (.int .u8 0) (.int .i64 0) (.int .i64 0) (.int .i64 0)).1
  have hBW := (((((HB1.out.trans (HB.out.mono HB1.out.size)).setCell (p := ⟨w.heap.size, 0, none⟩) (Nat.le_refl _) (.int .u8 0)).setCell (p := ⟨w.heap.size, 1, none⟩) (Nat.le_refl _) (.int .i64 0)).setCell (p := ⟨w.heap.size, 2, none⟩) (Nat.le_refl _) (.int .i64 0)).setCell (p := ⟨w.heap.size, 3, none⟩) (Nat.le_refl _) (.int .i64 0)).alloc (by simpa using Nat.le_trans HB1.out.size HB.out.size) (.cells #[.int .u8 0, .int .i64 0, .int .i64 0, .int .i64 0, .nilIface] 60)
  revert hW hBW
  generalize World.alloc _ _ = W
  intro hW hBW
  have d0 := (blk_cell hW 0).trans rfl
  have d1 := (blk_cell hW 1).trans rfl
  have d2 := (blk_cell hW 2).trans rfl
  have d3 := (blk_cell hW 3).trans rfl
  refine bodyPost_ret (v := .tuple #[.agg #[.int .u8 0, .int .i64 0, .int .i64 0, .int .i64 0], .int .i64 52]) ?_ rfl ⟨rfl, hBW⟩
  simp [results, Tryz.results7, go_sem, d0, d1, d2, d3]
end
end Go.Proofs.YtgancfllpmgciaaGreat
