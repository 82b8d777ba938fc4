/-
  where, find, add, handles gone through: the table's calls.
-/
import Derived.Test.YtgancfllpmgciaaGreatM1
import Derived.Deep.RegionLaw
namespace Go.Proofs.YtgancfllpmgciaaGreat
open Go.RowKit
set_option linter.unusedVariables false

theorem five {w : World} {b : Nat} {v0 v1 v2 v3 v4 : Value} {t : TypeId} (h : w.heap[b]? = some (.cells #[v0, v1, v2, v3, v4] t (0, 0))) :
    (w.cell? ⟨b, 0, none⟩ = some v0 ∧ w.cell? ⟨b, 1, none⟩ = some v1 ∧ w.cell? ⟨b, 2, none⟩ = some v2 ∧ w.cell? ⟨b, 3, none⟩ = some v3 ∧ w.cell? ⟨b, 4, none⟩ = some v4) ∧
    (w.frozen? ⟨b, 0, none⟩ = false ∧ w.frozen? ⟨b, 1, none⟩ = false ∧ w.frozen? ⟨b, 2, none⟩ = false ∧ w.frozen? ⟨b, 3, none⟩ = false ∧ w.frozen? ⟨b, 4, none⟩ = false) ∧ b < w.heap.size :=
  ⟨⟨(blk_cell h 0).trans rfl, (blk_cell h 1).trans rfl, (blk_cell h 2).trans rfl, (blk_cell h 3).trans rfl, (blk_cell h 4).trans rfl⟩,
    ⟨Joins.unfrozen_of_block h 0, Joins.unfrozen_of_block h 1, Joins.unfrozen_of_block h 2, Joins.unfrozen_of_block h 3, Joins.unfrozen_of_block h 4⟩, at_lt h⟩
theorem set5 {a w : World} {B b : Nat} (h : Below B a w) (hb : B ≤ b) (u0 u1 u2 u3 u4 : Value) : Below B a (((((w.setCell ⟨b, 0, none⟩ u0).setCell ⟨b, 1, none⟩ u1).setCell ⟨b, 2, none⟩ u2).setCell ⟨b, 3, none⟩ u3).setCell ⟨b, 4, none⟩ u4) :=
  ((((h.setCell (p := ⟨b, 0, none⟩) hb u0).setCell (p := ⟨b, 1, none⟩) hb u1).setCell (p := ⟨b, 2, none⟩) hb u2).setCell (p := ⟨b, 3, none⟩) hb u3).setCell (p := ⟨b, 4, none⟩) hb u4
theorem five_set {w : World} {b : Nat} {v0 v1 v2 v3 v4 : Value} {t : TypeId} (h : w.heap[b]? = some (.cells #[v0, v1, v2, v3, v4] t (0, 0))) (u0 u1 u2 u3 u4 : Value) :
    (((((w.setCell ⟨b, 0, none⟩ u0).setCell ⟨b, 1, none⟩ u1).setCell ⟨b, 2, none⟩ u2).setCell ⟨b, 3, none⟩ u3).setCell ⟨b, 4, none⟩ u4).heap[b]? = some (.cells #[u0, u1, u2, u3, u4] t (0, 0)) := by
  have h0 := Joins.block_setCell (i := 0) h u0
  have h1 := Joins.block_setCell (i := 1) h0 u1
  have h2 := Joins.block_setCell (i := 2) h1 u2
  have h3 := Joins.block_setCell (i := 3) h2 u3
  have h4 := Joins.block_setCell (i := 4) h3 u4
  exact h4
section
variable {w w' : World} {B b last c : Nat} {A : Option Addr} {L : List SE}
theorem Sto.zero (h : Sto w B b last A c L) : ∀ ad, A = some ad → ad.off = 0 ∧ ad = ⟨ad.block, 0, none⟩ := fun ad e => by
  rcases h.out.2 with ⟨h0, _⟩ | ⟨g, cap, cur, hv, _⟩
  · injection h0 with h0
    rw [e] at h0
    cases h0
  · injection hv with hv
    rw [e] at hv
    injection hv with hv
    subst hv
    exact ⟨rfl, rfl⟩
theorem ahead_le (L : List SE) (x : Int) : ahead L x ≤ L.length := List.countP_le_length
theorem isAt_yes {L : List SE} {x : Int} (h : isAt L x = true) : ∃ r, L[ahead L x]? = some r ∧ (r.h : Int) = x := by
  unfold isAt at h
  split at h
  · rename_i r hr
    exact ⟨r, hr, by simpa using h⟩
  · cases h
theorem Sto.isAt_of (h : Sto w B b last A c L) {i : Nat} {r : SE} (hr : L[i]? = some r) : ahead L (r.h : Int) = i ∧ isAt L (r.h : Int) = true := by
  have hi := (List.getElem?_eq_some_iff.1 hr).1
  have hp := h.up
  have e : ahead L (r.h : Int) = i := ahead_of (by omega) (fun t s ht hs => by
    have h1 := (List.getElem?_eq_some_iff.1 hs)
    have := List.pairwise_iff_getElem.1 hp t i h1.1 hi ht
    rw [h1.2, (List.getElem?_eq_some_iff.1 hr).2] at this
    omega) (fun t s ht hs => by have := up_le hp ht hr hs; omega)
  exact ⟨e, by unfold isAt; rw [e, hr]; exact decide_eq_true rfl⟩
theorem isAt_no {x : Int} (h : ∀ r ∈ L, (r.h : Int) ≠ x) : isAt L x = false := by
  unfold isAt
  split
  · rename_i r hr
    exact decide_eq_false (h r (List.mem_of_getElem? hr))
  · rfl
set_option maxRecDepth 100000 in
theorem where_any (x : Int) (h : Sto w B b last A c L) : Calls Tryz.prog 43 #[.pointer (some ⟨b, 1, none⟩), .int .i64 x] w fun e w' => e = .returned (.tuple #[.int .i64 (ahead L x : Nat), .bool (isAt L x)]) ∧ Below w.heap.size w w' := by
  have hm := h.many
  have HS := hide (search_any A c L x w h.rd h.zero (by omega) h.up)
  have c2 := h.c2
  clear h hm
  generalize L.length = n at *
  go_enter Tryz.func43, Tryz.ntmps43
  go_wp2_with (go_at_call 62; refine HS.out.mono ?_; rintro e w1 ⟨rfl, hb⟩; have HB := hide hb; clear hb)
  go_ret2
  exact ⟨rfl, HB.out⟩
/-- What find tells. -/
def zeroE : Value := .agg #[.int .u8 0, .int .i64 0, .int .i64 0, .int .i64 0, .nilIface]
set_option maxRecDepth 100000 in
set_option maxHeartbeats 1000000 in
theorem find_no (x : Int) (h : Sto w B b last A c L) (hx : isAt L x = false) : Calls Tryz.prog 42 #[.pointer (some ⟨b, 1, none⟩), .int .i64 x] w fun e w' => e = .returned (.tuple #[zeroE, .bool false]) ∧ Below w.heap.size w w' := by
  have hb1 := below1 w (.cells #[.int .u8 0, .int .i64 0, .int .i64 0, .int .i64 0, .nilIface] 60)
  have HX := hide (World.alloc_heap_new w (.cells #[.int .u8 0, .int .i64 0, .int .i64 0, .int .i64 0, .nilIface] 60))
  have HS0 := where_any x (h.below hb1)
  rw [hx] at HS0
  have HS := hide HS0
  have HB1 := hide hb1
  clear h HS0 hb1 hx
  go_enter Tryz.func42, Tryz.ntmps42
  go_wp2_with (go_at_call 43; refine HS.out.mono ?_; rintro e w1 ⟨rfl, hb⟩; have HB := hide hb; obtain ⟨⟨k0, k1, k2, k3, k4⟩, ⟨f0, f1, f2, f3, f4⟩, hlt⟩ := five ((hb.block _ (at_lt HX.out)).trans HX.out); clear hb)
  have hb1 := (HX.out)
  have hW := (Below.heap_alloc _ (.cells #[.int .u8 0, .int .i64 0, .int .i64 0, .int .i64 0, .nilIface] 60) w.heap.size (by simpa using hlt)).trans (five_set ((HB.out.block _ (at_lt HX.out)).trans HX.out) (.int .u8 0) (.int .i64 0) (.int .i64 0) (.int .i64 0) .nilIface)
  have hBW := (set5 (HB1.out.trans (HB.out.mono HB1.out.size)) (Nat.le_refl w.heap.size) (.int .u8 0) (.int .i64 0) (.int .i64 0) (.int .i64 0) .nilIface).alloc (by simpa using Nat.le_trans HB1.out.size HB.out.size) (.cells #[.int .u8 0, .int .i64 0, .int .i64 0, .int .i64 0, .nilIface] 60)
  revert hW hBW
  generalize World.alloc _ _ = W
  intro hW hBW
  obtain ⟨⟨d0, d1, d2, d3, d4⟩, _⟩ := five hW
  refine bodyPost_ret (v := .tuple #[zeroE, .bool false]) ?_ rfl ⟨rfl, hBW⟩
  simp [results, Tryz.results42, go_sem, d0, d1, d2, d3, d4, zeroE]
set_option maxRecDepth 100000 in
set_option maxHeartbeats 1000000 in
theorem find_yes {r : SE} {i : Nat} (x : Int) (h : Sto w B b last A c L) (hr : L[i]? = some r) (hx : x = r.h) : Calls Tryz.prog 42 #[.pointer (some ⟨b, 1, none⟩), .int .i64 x] w fun e w' => e = .returned (.tuple #[r.entry, .bool true]) ∧ Below w.heap.size w w' := by
  have hb1 := below1 w (.cells #[.int .u8 0, .int .i64 0, .int .i64 0, .int .i64 0, .nilIface] 60)
  have HX := hide (World.alloc_heap_new w (.cells #[.int .u8 0, .int .i64 0, .int .i64 0, .int .i64 0, .nilIface] 60))
  have HS0 := where_any x (h.below hb1)
  obtain ⟨ha, hi⟩ := h.isAt_of hr
  rw [hx, hi, ha] at HS0
  have HS := hide HS0
  have HB1 := hide hb1
  have hil := (List.getElem?_eq_some_iff.1 hr).1
  obtain ⟨g, rfl, hg, hc⟩ := h.cell hr
  have HC := hide hc
  have HLB := hide (h.low)
  have c2 := h.c2
  have hbl := at_lt h.blk
  have HR1 : Hid (∀ W, Below w.heap.size w W → W.cell? ⟨b, 2, none⟩ = some (.slice (some ⟨g, 0, none⟩) L.length c) ∧ (∀ j u, r.cells[j]? = some u → W.cell? ⟨g, i * 6 + j, none⟩ = some u)) := hide (fun W hb => ⟨(hb.cell (p := ⟨b, 2, none⟩) hbl).trans c2, fun j u hu => (hb.cell (p := ⟨g, i * 6 + j, none⟩) hg).trans (hc j u hu)⟩)
  have hgs : g ≠ w.heap.size := by omega
  have hbs : b ≠ w.heap.size := by omega
  have hm := h.many
  have hiq : (i : Int) < (L.length : Int) := by omega
  subst hx
  clear h HS0 hb1 hi ha hc c2 hr
  generalize L.length = n at *
  obtain ⟨h, k, key, val, ent, t, v⟩ := r
  simp only [SE.entry, SE.cells] at *
  go_enter Tryz.func42, Tryz.ntmps42
  go_wp2_with (go_at_call 43; refine HS.out.mono ?_; rintro e w1 ⟨rfl, hb⟩; have HB := hide hb; obtain ⟨⟨k0, k1, k2, k3, k4⟩, ⟨f0, f1, f2, f3, f4⟩, hlt⟩ := five ((hb.block _ (at_lt HX.out)).trans HX.out); obtain ⟨c2, hc⟩ := HR1.out w1 (HB1.out.trans (hb.mono HB1.out.size)); have e0 := hc 0 _ rfl; have e1 := hc 1 _ rfl; have e2 := hc 2 _ rfl; have e3 := hc 3 _ rfl; have e4 := hc 4 _ rfl; have e5 := hc 5 _ rfl; clear hb hc)
  have hW := five_set ((HB.out.block _ (at_lt HX.out)).trans HX.out) (.int .u8 k) (.int .i64 key) (.int .i64 val) (.int .i64 ent) (.iface t v)
  have hBW := set5 (HB1.out.trans (HB.out.mono HB1.out.size)) (Nat.le_refl w.heap.size) (.int .u8 k) (.int .i64 key) (.int .i64 val) (.int .i64 ent) (.iface t v)
  revert hW hBW
  generalize World.setCell _ ⟨w.heap.size, 4, none⟩ _ = W
  intro hW hBW
  obtain ⟨⟨d0, d1, d2, d3, d4⟩, _⟩ := five hW
  refine bodyPost_ret (v := .tuple #[.agg #[.int .u8 k, .int .i64 key, .int .i64 val, .int .i64 ent, .iface t v], .bool true]) ?_ rfl ⟨rfl, hBW⟩
  simp [results, Tryz.results42, go_sem, d0, d1, d2, d3, d4]
end
end Go.Proofs.YtgancfllpmgciaaGreat
