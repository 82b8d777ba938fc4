/-
  A map less: slices.Delete of rows of six cells; remove; Free.
-/
import Derived.Test.YtgancfllpmgciaaGreatM4
import Derived.Lib.SliceRun
namespace Go.Proofs.YtgancfllpmgciaaGreat
open Go.RowKit
set_option linter.unusedVariables false

theorem owns_past {w : World} {e : TypeId} {sz g n cap j : Nat} {xs : List Value} (h : w.ownsRow 0 e sz (.slice (some ⟨g, 0, none⟩) n cap) n xs) (hj : n * sz ≤ j) (u : Value) : (w.setCell ⟨g, j, none⟩ u).ownsRow 0 e sz (.slice (some ⟨g, 0, none⟩) n cap) n xs := by
  refine ⟨h.1, ?_⟩
  rcases h.2 with ⟨h0, _⟩ | ⟨g', cap', cur, hv, hb, hg, hnc, hcm, hcs, htake⟩
  · cases h0
  · cases hv
    refine .inr ⟨g, cap, cur.setIfInBounds j u, rfl, hb, ?_, hnc, hcm, by simpa using hcs, ?_⟩
    · simp [World.setCell, Array.getElem?_modify, hg]
    · rw [Array.toList_setIfInBounds, List.take_set, htake]
      have hl := h.1
      exact List.set_eq_of_length_le (by omega)
theorem owns_cellx {w : World} {e : TypeId} {sz g n cap j : Nat} {xs : List Value} (h : w.ownsRow 0 e sz (.slice (some ⟨g, 0, none⟩) n cap) n xs) (hj : j < cap * sz) : (w.cell? ⟨g, j, none⟩).isSome = true := by
  rcases h.2 with ⟨h0, _⟩ | ⟨g', cap', cur, hv, hb, hg, hnc, hcm, hcs, htake⟩
  · cases h0
  · cases hv
    rw [blk_cell hg]
    have : j < cur.size := by omega
    simp [this]
def zeros6 : List Value := [.int .i64 0, .int .u8 0, .int .i64 0, .int .i64 0, .int .i64 0, .nilIface]
theorem clear6 (w : World) (ty : TypeId) (b o c : Nat) (hc : ∀ j, j < 6 → (w.cell? ⟨b, o + j, none⟩).isSome = true) (hf : ∀ j, j < 6 → w.frozen? ⟨b, o + j, none⟩ = false) :
    (Builtin.clear_ #[33] ty #[.slice (some ⟨b, o, none⟩) 1 c]).run Tryz.prog w = .ok (.tuple #[]) (w.setCells b o zeros6) := by
  have hst := run_storeCells_cells (P := Tryz.prog) b o zeros6 0 w (by simpa [zeros6] using hc) (by simpa [zeros6] using hf) (by intro v hv'; simp [zeros6] at hv'; rcases hv' with rfl | rfl | rfl | rfl <;> rfl)
  simp only [Nat.add_zero] at hst
  have hzc : (Builtin.zeroCells #[.int .i64 0, .int .u8 0, .int .i64 0, .int .i64 0, .int .i64 0, .nilIface] 1).toList = zeros6 := by kernel_rfl
  simp [Builtin.clear_, run_underlying Tryz.underlying33, Value.cells, hzc, hst]
theorem setCells_kept (g : Nat) : ∀ (vs : List Value) (o : Nat) (a w : World), Kept (fun k => k ≠ g) a w → Kept (fun k => k ≠ g) a (w.setCells g o vs)
  | [], _, _, _, h => h
  | v :: r, o, a, w, h => setCells_kept g r (o + 1) a _ (h.setCell (p := ⟨g, o, none⟩) (fun _ h => h rfl) v)
theorem setCells_owns {e : TypeId} {sz g n cap : Nat} {xs : List Value} : ∀ (vs : List Value) (o : Nat) (w : World), w.ownsRow 0 e sz (.slice (some ⟨g, 0, none⟩) n cap) n xs → n * sz ≤ o → (w.setCells g o vs).ownsRow 0 e sz (.slice (some ⟨g, 0, none⟩) n cap) n xs
  | [], _, _, h, _ => h
  | v :: r, o, w, h, ho => setCells_owns r (o + 1) _ (owns_past h ho v) (Nat.le_succ_of_le ho)
/-- A row without its i-th element. -/
def DelTold (g n cap i : Nat) (xs : List Value) (w w' : World) : Prop := w'.ownsRow 0 120 6 (.slice (some ⟨g, 0, none⟩) (n - 1) cap) (n - 1) (xs.take (i * 6) ++ xs.drop ((i + 1) * 6)) ∧ Kept (fun k => k ≠ g) w w'
set_option maxRecDepth 100000 in
set_option maxHeartbeats 1000000 in
theorem delete_any (g n cap i : Nat) (xs : List Value) (x y : Int) (w : World) (h : w.ownsRow 0 120 6 (.slice (some ⟨g, 0, none⟩) n cap) n xs) (hi : i < n) (hn : n ≤ 1000000) (h1 : ∀ u ∈ xs, u.oneCell' = true) (hx : x = i) (hy : y = (i + 1 : Nat)) :
    Calls Tryz.prog 44 #[.slice (some ⟨g, 0, none⟩) n cap, .int .i64 x, .int .i64 y] w fun e w' => e = .returned (.slice (some ⟨g, 0, none⟩) (n - 1) cap) ∧ DelTold g n cap i xs w w' := by
  obtain ⟨i0, hi0, hz0, hz1, hz2⟩ := info_parts srowInfo
  have hcap : n ≤ cap := by
    rcases h.2 with ⟨h0, _⟩ | ⟨g', cap', cur, hv, _, _, hnc, _⟩
    · cases h0
    · cases hv; exact hnc
  have hcm : cap ≤ maxLen := by
    rcases h.2 with ⟨h0, _⟩ | ⟨g', cap', cur, hv, _, _, _, hcm, _⟩
    · cases h0
    · cases hv; exact hcm
  have hl := h.1
  have hd : w.drew.ownsRow 0 120 6 (.slice (some ⟨g, 0, none⟩) n cap) n xs := owns_kept_below h ((Below.refl _ w).drew)
  have hpre := owns_prefix (n := i) hd (by omega)
  obtain ⟨A2, hA2, hrd⟩ : ∃ A2 : Addr, (if cap = i + 1 then some (⟨g, 0, none⟩ : Addr) else some ⟨g, (i + 1) * 6, none⟩) = some A2 ∧ Rd w.drew (g + 1) 6 (some A2) (n - (i + 1)) (xs.drop ((i + 1) * 6)) := by
    by_cases hc : cap = i + 1
    · refine ⟨⟨g, 0, none⟩, by simp [hc], by simp; omega, fun h0 => by omega⟩
    · refine ⟨⟨g, (i + 1) * 6, none⟩, by simp [hc], by simp; omega, fun _ => ⟨_, rfl, Nat.lt_succ_self _, fun j u hu => ?_⟩⟩
      rw [List.getElem?_drop] at hu
      have := hd.cells (g := g) rfl ((i + 1) * 6 + j) u hu
      rw [own_add] at this ⊢
      rwa [Nat.zero_add] at this
  obtain ⟨w1, hrun, ho1, hg1⟩ := run_append_rd_fits (P := Tryz.prog) w.drew 33 33 120 i0 6 Tryz.underlying33 hi0 hz1 g i cap _ hpre (g + 1) (some A2) (n - (i + 1)) (cap - (i + 1)) _ hrd (fun e => by cases e) (fun u hu => h1 u (List.mem_of_mem_drop hu)) (by omega)
  have e1 : i + (n - (i + 1)) = n - 1 := by omega
  rw [e1] at hrun ho1
  have hcl : ∀ ty, (Builtin.clear_ #[33] ty #[.slice (some ⟨g, (n - 1) * 6, none⟩) 1 (cap - (n - 1))]).run Tryz.prog w1 = .ok (.tuple #[]) (w1.setCells g ((n - 1) * 6) zeros6) := fun ty =>
    clear6 w1 ty g ((n - 1) * 6) _ (fun t ht => owns_cellx ho1 (by omega)) (fun t ht => owns_free ho1 _)
  have HFIN : Hid (DelTold g n cap i xs w (w1.setCells g ((n - 1) * 6) zeros6)) := by
    have hk : Kept (fun k => k ≠ g) w w1 := ((Kept.refl _ w).drew).grown hg1 (fun k e _ hh => hh (by cases e; rfl))
    exact ⟨setCells_owns _ _ _ ho1 (Nat.le_refl _), setCells_kept g _ _ _ _ hk⟩
  obtain ⟨m, rfl⟩ : ∃ m, n = m + 1 := ⟨n - 1, by omega⟩
  simp only [Nat.add_sub_cancel] at hrun hcl HFIN
  have f1 : (i : Int) ≤ ((i + 1 : Nat) : Int) := by omega
  have f2 : ((i + 1 : Nat) : Int) ≤ ((m + 1 : Nat) : Int) := by omega
  have f3 : ((m + 1 : Nat) : Int) ≤ (cap : Int) := by omega
  have f4 : ((i : Int) == ((i + 1 : Nat) : Int)) = false := by simp; omega
  have f5 : m ≤ cap := by omega
  have f6 : i ≤ cap := by omega
  have f7 : i + 1 ≤ cap := by omega
  have f8 : i ≤ m := by omega
  have f9 : m < cap := by omega
  have f11 : ¬ cap = m := by omega
  have f10 : (0 : Int) ≤ (i : Int) + 1 := by omega
  rw [show m + 1 - (i + 1) = m - i by omega] at hrun
  subst hx hy
  clear h hd hpre hrd ho1 hg1 h1 hl e1 hi0 hz0 hz1 hz2 hcm hn hi hcap
  go_enter Tryz.func44, Tryz.ntmps44
  go_wp2_with fail
  go_region_law (refine step_append_run _ w1 (by rfl) (.tmp 22) (.tmp 25) 33 (by rfl) _ _ _ (by rfl) (by rfl) hrun ?_)
  all_goals
    go_wp2
    go_ret
    exact ⟨rfl, HFIN.out⟩
theorem rowCells_erase (L : List SE) (i : Nat) : rowCells (L.eraseIdx i) = (rowCells L).take (i * 6) ++ (rowCells L).drop ((i + 1) * 6) := by
  induction L generalizing i with
  | nil => simp [rowCells]
  | cons r L ih =>
    cases i with
    | zero => simp [rowCells, SE.cells]
    | succ i =>
      have e1 : rowCells (r :: L) = r.cells ++ rowCells L := rfl
      have hl : r.cells.length = 6 := rfl
      have t1 : (r.cells ++ rowCells L).take ((i + 1) * 6) = r.cells ++ (rowCells L).take (i * 6) := by
        rw [List.take_append, List.take_of_length_le (l := r.cells) (by rw [hl]; omega), hl, show (i + 1) * 6 - 6 = i * 6 by omega]
      have t2 : (r.cells ++ rowCells L).drop ((i + 1 + 1) * 6) = (rowCells L).drop ((i + 1) * 6) := by
        rw [List.drop_append, List.drop_of_length_le (l := r.cells) (by rw [hl]; omega), hl, show (i + 1 + 1) * 6 - 6 = (i + 1) * 6 by omega, List.nil_append]
      rw [List.eraseIdx_cons_succ, show rowCells (r :: L.eraseIdx i) = r.cells ++ rowCells (L.eraseIdx i) from rfl, ih, e1, t1, t2, List.append_assoc]
/-- A store without its i-th map. -/
def RemTold (B b last : Nat) (A : Option Addr) (c : Nat) (L : List SE) (i : Nat) (w w' : World) : Prop :=
  Sto w' B b last A c (L.eraseIdx i) ∧ Kept (fun g => g ≠ b ∧ ¬ blkOf A g) w w'
section
variable {w w1 : World} {B b last c : Nat} {A : Option Addr} {L : List SE}
theorem Sto.removed {g i : Nat} (h : Sto w B b last (some ⟨g, 0, none⟩) c L) (hi : i < L.length) (hd : DelTold g L.length c i (rowCells L) w w1) :
    w1.cell? ⟨b, 2, none⟩ = some (.slice (some ⟨g, 0, none⟩) L.length c) ∧ w1.frozen? ⟨b, 2, none⟩ = false ∧ RemTold B b last (some ⟨g, 0, none⟩) c L i w (w1.setCell ⟨b, 2, none⟩ (.slice (some ⟨g, 0, none⟩) (L.length - 1) c)) := by
  obtain ⟨h1, h2⟩ := hd
  have hgb : g ≠ b := fun e => h.out_b (by rw [e]; rfl)
  have hbb : w1.heap[b]? = _ := (h2.block b (at_lt h.blk) (fun e => hgb e.symm)).trans h.blk
  have hlen : (L.eraseIdx i).length = L.length - 1 := List.length_eraseIdx_of_lt hi
  have hK : Kept (fun k => k ≠ b ∧ ¬ blkOf (some ⟨g, 0, none⟩) k) w (w1.setCell ⟨b, 2, none⟩ (.slice (some ⟨g, 0, none⟩) (L.length - 1) c)) :=
    (h2.mono (fun k hk e => hk.2 (by rw [e]; rfl))).setCell (p := ⟨b, 2, none⟩) (fun _ h => h.1 rfl) _
  have hK5 : Kept (fun k => k ≠ b) w1 (w1.setCell ⟨b, 2, none⟩ (.slice (some ⟨g, 0, none⟩) (L.length - 1) c)) := (Kept.refl _ w1).setCell (p := ⟨b, 2, none⟩) (fun _ h => h rfl) _
  refine ⟨by rw [blk_cell hbb]; rfl, Joins.unfrozen_of_block hbb 2, ⟨?_, ?_, h.low, h.up.sublist (List.eraseIdx_sublist _ _), fun r hr => h.ran r (List.mem_of_mem_eraseIdx hr), ?_⟩, hK⟩
  · rw [hlen]
    exact Joins.block_setCell (i := 2) hbb _
  · rw [hlen, rowCells_erase]
    refine owns_kept h1 hK5 (fun k hk e => ?_)
    subst e
    have : g = k := by simpa [Value.ownBlock] using hk
    exact hgb this
  · have := h.many
    rw [hlen]
    omega
theorem rowCells_one (L : List SE) : ∀ u ∈ rowCells L, u.oneCell' = true := by
  intro u hu
  obtain ⟨r, _, hr⟩ := List.mem_flatMap.1 hu
  simp [SE.cells] at hr
  rcases hr with rfl | rfl | rfl | rfl | rfl | rfl <;> rfl
set_option maxRecDepth 100000 in
set_option maxHeartbeats 1000000 in
theorem remove_yes {r : SE} {i : Nat} (x : Int) (h : Sto w B b last A c L) (hr : L[i]? = some r) (hx : x = r.h) :
    Calls Tryz.prog 30 #[.pointer (some ⟨b, 1, none⟩), .int .i64 x] w fun e w' => e = .returned (.bool true) ∧ RemTold B b last A c L i w w' := by
  have hi := (List.getElem?_eq_some_iff.1 hr).1
  obtain ⟨g, rfl, _, _⟩ := h.cell hr
  have hm := h.many
  have HW0 := where_any x h
  obtain ⟨ha, hia⟩ := h.isAt_of hr
  rw [hx, ha, hia] at HW0
  have HW := hide HW0
  have HR : Hid (∀ W, Below w.heap.size w W → W.cell? ⟨b, 2, none⟩ = some (.slice (some ⟨g, 0, none⟩) L.length c) ∧ Calls Tryz.prog 44 #[.slice (some ⟨g, 0, none⟩) L.length c, .int .i64 i, .int .i64 ((i : Int) + 1)] W fun e w' => e = .returned (.slice (some ⟨g, 0, none⟩) (L.length - 1) c) ∧ w'.cell? ⟨b, 2, none⟩ = some (.slice (some ⟨g, 0, none⟩) L.length c) ∧ w'.frozen? ⟨b, 2, none⟩ = false ∧ Hid (RemTold B b last (some ⟨g, 0, none⟩) c L i w (w'.setCell ⟨b, 2, none⟩ (.slice (some ⟨g, 0, none⟩) (L.length - 1) c)))) := hide (fun W hb => by
    have hW := h.below hb
    refine ⟨hW.c2, (delete_any g L.length c i (rowCells L) i ((i : Int) + 1) W hW.out hi (by omega) (rowCells_one L) rfl (by omega)).mono ?_⟩
    rintro e w' ⟨rfl, hd⟩
    obtain ⟨k1, k2, k3, k4⟩ := hW.removed hi hd
    exact ⟨rfl, k1, k2, k3, keptTrans (Kept.of_below hb) k4⟩)
  have hq : (i : Int) ≤ 1000000 := by omega
  subst hx
  clear h hr hi hm HW0 ha hia
  generalize L.length = n at *
  go_enter Tryz.func30, Tryz.ntmps30
  go_wp2_with (first
    | (go_at_call 43; refine HW.out.mono ?_; rintro e w1 ⟨rfl, hb⟩; obtain ⟨c2, hd⟩ := HR.out w1 hb; have HD := hide hd; clear hb hd)
    | (go_at_call 44; refine HD.out.mono ?_; rintro e w2 ⟨rfl, k1, k2, k3⟩))
  go_ret
  exact ⟨rfl, k3.out⟩
set_option maxRecDepth 100000 in
theorem remove_no (x : Int) (h : Sto w B b last A c L) (hx : isAt L x = false) :
    Calls Tryz.prog 30 #[.pointer (some ⟨b, 1, none⟩), .int .i64 x] w fun e w' => e = .returned (.bool false) ∧ Below w.heap.size w w' := by
  have HW0 := where_any x h
  rw [hx] at HW0
  have HW := hide HW0
  clear h HW0 hx
  go_enter Tryz.func30, Tryz.ntmps30
  go_wp2_with (go_at_call 43; refine HW.out.mono ?_; rintro e w1 ⟨rfl, hb⟩; have HB := hide hb; clear hb)
  go_ret
  exact ⟨rfl, HB.out⟩
theorem free_yes {r : SE} {i : Nat} (x : Int) (h : Sto w B b last A c L) (hr : L[i]? = some r) (hx : x = r.h) :
    Calls Tryz.prog 13 #[.pointer (some ⟨b, 0, none⟩), .int .i64 x] w fun e w' => e = .returned (.int .i64 0) ∧ RemTold B b last A c L i w w' := by
  have HM := hide (is_yes b w h.c0)
  have HR := hide (remove_yes x h hr hx)
  clear h hr hx
  go_enter Tryz.func13, Tryz.ntmps13
  go_wp2_with (first
    | (go_at_call 21; refine HM.out.mono ?_; rintro e w' ⟨rfl, rfl⟩)
    | (go_at_call 30; refine HR.out.mono ?_; rintro e w1 ⟨rfl, hb⟩; have HB := hide hb; clear hb))
  go_ret
  exact ⟨rfl, HB.out⟩
theorem free_no (x : Int) (h : Sto w B b last A c L) (hx : isAt L x = false) :
    Calls Tryz.prog 13 #[.pointer (some ⟨b, 0, none⟩), .int .i64 x] w fun e w' => e = .returned (.int .i64 52) ∧ Below w.heap.size w w' := by
  have HM := hide (is_yes b w h.c0)
  have HR := hide (remove_no x h hx)
  clear h hx
  go_enter Tryz.func13, Tryz.ntmps13
  go_wp2_with (first
    | (go_at_call 21; refine HM.out.mono ?_; rintro e w' ⟨rfl, rfl⟩)
    | (go_at_call 30; refine HR.out.mono ?_; rintro e w1 ⟨rfl, hb⟩; have HB := hide hb; clear hb))
  go_ret
  exact ⟨rfl, HB.out⟩
end
end Go.Proofs.YtgancfllpmgciaaGreat
