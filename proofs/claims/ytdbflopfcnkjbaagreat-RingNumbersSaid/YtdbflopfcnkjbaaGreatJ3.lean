/-
  What is left; calls of no ring; the first record goes.
-/
import Derived.Test.YtdbflopfcnkjbaaGreatJ2
namespace Go.Proofs.YtdbflopfcnkjbaaGreat
open Go.RowKit Go.Maps
set_option linter.unusedVariables false
set_option linter.unusedSimpArgs false

section
variable {P : Program} {ops : Array Oper} {o : Oper} {a : Act} {K : Act → World → Prop} {Q : Exit → Act → World → Prop} {E : Prop}
/-- A call, as a step of a region that draws. -/
theorem step_enter {w : World} (hgd : o.guard = none) {f : FuncId} {args : Array Value} {R : Value → World → Prop} (hrun : (execOp a.eval o).run P w = .ok (.enter f args) w) (hc : Calls P f args w fun e w' => ∃ v, e = .returned v ∧ R v w')
    (h : ∀ v w', R v w' → K (a.put o.dst v) w') : if Region.wanted o (yielded ops a.tmps) = true then Oper.wp P o a w K Q else E := by
  have hw : Region.wanted o (yielded ops a.tmps) = true := by simp [Region.wanted, hgd]
  rw [if_pos hw]
  unfold Oper.wp
  rw [hrun, Oper.upon_enter]
  refine hc.mono ?_
  rintro e w' ⟨v, rfl, hR⟩
  exact h v w' hR
end
section
variable {w w' : World} {B b bx sz : Nat} {L : List RK}
set_option maxRecDepth 100000 in
set_option maxHeartbeats 1000000 in
theorem left_any (h : Rng w B b bx sz L) : Calls Tryz.prog 25 #[.pointer (some ⟨b, 0, none⟩)] w fun e w' => e = .returned (.int .i64 (sz - sumR L : Nat)) ∧ Below w.heap.size w w' := by
  have hb := (Below.refl w.heap.size w).drew
  have hd := h.below hb
  have c1 : w.drew.cell? ⟨b, 1, none⟩ = some (.int .i64 sz) := hd.c1
  have HT := hide (taken_any hd)
  have HC : Hid (∀ w1, Below w.drew.heap.size w.drew w1 → w1.cell? ⟨b, 1, none⟩ = some (.int .i64 sz)) := hide (fun w1 h1 => (hd.below h1).c1)
  have hbig := h.big
  have hE : ∀ args (W : World), (callFunc 36 args).run Tryz.prog W = .ok (.enter 36 args) W := enters_of Tryz.func36 (by kernel_rfl) rfl
  have s1 : ((sz : Int) - (sumR L : Nat)) = ((sz - sumR L : Nat) : Int) := by omega
  have s2 : IntKind.i64.wrap ((sz - sumR L : Nat) : Int) = ((sz - sumR L : Nat) : Int) := IntWalk.i64_in _ (by omega)
  clear h hd hb
  generalize sumR L = s at *
  go_enter Tryz.func25, Tryz.ntmps25
  go_wp2_with fail
  go_region_law (refine step_enter (f := 36) (args := #[.pointer (some ⟨b, 2, none⟩)]) (R := fun v w1 => v = .int .i64 (s : Nat) ∧ Below w.drew.heap.size w.drew w1) (by rfl) (by simp [go_sem, hE]) (HT.out.mono (fun e w' hh => ⟨_, hh.1, rfl, hh.2⟩)) ?_; rintro v w1 ⟨rfl, h1⟩; have c1b := HC.out w1 h1; have HB := hide h1; clear h1)
  all_goals
    go_wp2_with fail
    go_ret
    exact ⟨ret_int (by omega), (Below.refl _ w).drew.trans HB.out⟩
theorem room_not (p : Option Addr) (w : World) (h : NoG p w) : Calls Tryz.prog 7 #[.pointer p] w fun e w' => e = .returned (.int .i64 0) ∧ w = w' := by
  have H := hide (h w (Below.refl _ _))
  clear h
  go_enter Tryz.func7, Tryz.ntmps7
  go_wp2_with (go_at_call 24; refine H.out.mono ?_; rintro e w' ⟨rfl, rfl⟩)
  go_ret
  exact ⟨rfl, rfl⟩
theorem room_yes (h : Rng w B b bx sz L) : Calls Tryz.prog 7 #[.pointer (some ⟨b, 0, none⟩)] w fun e w' => e = .returned (.int .i64 (sz - sumR L : Nat)) ∧ Below w.heap.size w w' := by
  have H := hide (is_yes b w h.c0)
  have HL := hide (left_any h)
  clear h
  generalize sz - sumR L = s at *
  go_enter Tryz.func7, Tryz.ntmps7
  go_wp2_with (first
    | (go_at_call 24; refine H.out.mono ?_; rintro e w' ⟨rfl, rfl⟩)
    | (go_at_call 25; refine HL.out.mono ?_; rintro e w1 ⟨rfl, hb⟩; have HB := hide hb; clear hb))
  go_ret
  exact ⟨rfl, HB.out⟩
theorem take_not (p : Option Addr) (w : World) (h : NoG p w) : Calls Tryz.prog 13 #[.pointer p] w fun e w' => e = .returned (.tuple #[.slice none 0 0, .int .i64 1]) ∧ w = w' := by
  have H := hide (h w (Below.refl _ _))
  clear h
  go_enter Tryz.func13, Tryz.ntmps13
  go_wp2_with (go_at_call 24; refine H.out.mono ?_; rintro e w' ⟨rfl, rfl⟩)
  go_ret2
  exact ⟨rfl, rfl⟩
theorem put_not (p : Option Addr) (S : Option Addr) (n c : Nat) (w : World) (h : NoG p w) : Calls Tryz.prog 6 #[.pointer p, .slice S n c] w fun e w' => e = .returned (.int .i64 1) ∧ w = w' := by
  have H := hide (h w (Below.refl _ _))
  clear h
  go_enter Tryz.func6, Tryz.ntmps6
  go_wp2_with (go_at_call 24; refine H.out.mono ?_; rintro e w' ⟨rfl, rfl⟩)
  go_ret
  exact ⟨rfl, rfl⟩
set_option maxRecDepth 100000 in
theorem take_none (h : Rng w B b bx sz []) : Calls Tryz.prog 13 #[.pointer (some ⟨b, 0, none⟩)] w fun e w' => e = .returned (.tuple #[.slice none 0 0, .int .i64 6]) ∧ w = w' := by
  have H := hide (is_yes b w h.c0)
  have c2 : w.cell? ⟨b, 2, none⟩ = some (.pointer none) := h.c2
  have hq := leql_none w
  clear h
  go_enter Tryz.func13, Tryz.ntmps13
  go_wp2_with (go_at_call 24; refine H.out.mono ?_; rintro e w' ⟨rfl, rfl⟩)
  go_ret2
  exact ⟨rfl, rfl⟩
theorem OfG.tail {r : RK} {g : Nat} (h : OfG b bx L g) : OfG b bx (r :: L) g := by
  rcases h with h | h | ⟨s, hs, h⟩
  · exact .inl h
  · exact .inr (.inl h)
  · exact .inr (.inr ⟨s, List.mem_cons_of_mem _ hs, h⟩)
/-- The first record has gone. -/
theorem Rng.tail {r : RK} (h : Rng w B b bx sz (r :: L)) (hk : Kept (fun g => g ≠ b) w w') (hb : w'.heap[b]? = some (.cells (ringCells b bx sz L) 58 (0, 0))) : Rng w' B b bx sz L := by
  refine ⟨hb, (hk.block bx (at_lt h.box) h.b_x).trans h.box, fun i s hi => ?_, fun s hs => ?_, fun g hg => h.low g hg.tail, ?_, fun i j s t hi hj hne => h.apart (i + 1) (j + 1) s t (by simpa using hi) (by simpa using hj) (by omega), ?_⟩
  · have h1 := h.lnk (i + 1) s (by simpa using hi)
    exact (hk.block s.g (at_lt h1) (h.b_l (List.mem_cons_of_mem _ (List.mem_of_getElem? hi)))).trans (by simpa [List.drop_succ_cons, LinkV] using h1)
  · refine owns_kept (h.row s (List.mem_cons_of_mem _ hs)) hk (fun g hg e => ?_)
    subst e
    exact h.row_b (List.mem_cons_of_mem _ hs) hg
  · exact (List.nodup_cons.1 h.sep).2
  · have := h.big
    simp [sumR] at this
    omega
set_option maxRecDepth 100000 in
set_option maxHeartbeats 1000000 in
theorem remove_any {r : RK} (h : Rng w B b bx sz (r :: L)) : Calls Tryz.prog 29 #[.pointer (some ⟨b, 2, none⟩)] w fun e w' => e = .returned r.sl ∧ Rng w' B b bx sz L ∧ Kept (fun g => g ≠ b) w w' := by
  have c2 : w.cell? ⟨b, 2, none⟩ = some (.pointer (some ⟨r.g, 0, none⟩)) := h.c2
  have f2 : w.frozen? ⟨b, 2, none⟩ = false := Joins.unfrozen_of_block h.blk 2
  have hl := h.lnk 0 r rfl
  have hne := h.b_l (List.mem_cons_self (a := r) (l := L))
  have d1 : w.cell? ⟨r.g, 1, none⟩ = some (hdV L) := hl.c1
  have hkA : ∀ v, Kept (fun g => g ≠ b) w (w.setCell ⟨b, 2, none⟩ v) := fun v => (Kept.refl _ _).setCell (p := ⟨b, 2, none⟩) (fun _ h => h rfl) _
  have d0 : ∀ v, (w.setCell ⟨b, 2, none⟩ v).cell? ⟨r.g, 0, none⟩ = some r.sl := fun v => (World.cell?_of_block ((hkA v).block r.g (at_lt hl) hne)).trans hl.c0
  have hbA : ∀ v, (w.setCell ⟨b, 2, none⟩ v).heap[b]? = some (.cells ((ringCells b bx sz (r :: L)).setIfInBounds 2 v) 58 (0, 0)) := fun v => Joins.block_setCell (i := 2) h.blk v
  cases L with
  | nil =>
    have hbB : ((w.setCell ⟨b, 2, none⟩ (.pointer none)).setCell ⟨b, 3, none⟩ (.pointer none)).heap[b]? = some (.cells (ringCells b bx sz []) 58 (0, 0)) := Joins.block_setCell (i := 3) (hbA (.pointer none)) (.pointer none)
    have hkB : Kept (fun g => g ≠ b) w ((w.setCell ⟨b, 2, none⟩ (.pointer none)).setCell ⟨b, 3, none⟩ (.pointer none)) := (hkA _).setCell (p := ⟨b, 3, none⟩) (fun _ h => h rfl) _
    have c2b : (w.setCell ⟨b, 2, none⟩ (.pointer none)).cell? ⟨b, 2, none⟩ = some (.pointer none) := by rw [blk_cell (hbA _)]; rfl
    have c3b : (w.setCell ⟨b, 2, none⟩ (.pointer none)).cell? ⟨b, 3, none⟩ = some (lastV [r]) := by rw [blk_cell (hbA _)]; rfl
    have f3 : (w.setCell ⟨b, 2, none⟩ (.pointer none)).frozen? ⟨b, 3, none⟩ = false := Joins.unfrozen_of_block (hbA _) 3
    have d0b : ((w.setCell ⟨b, 2, none⟩ (.pointer none)).setCell ⟨b, 3, none⟩ (.pointer none)).cell? ⟨r.g, 0, none⟩ = some r.sl := (World.cell?_of_block (hkB.block r.g (at_lt hl) hne)).trans hl.c0
    have hq := leql_none (w.setCell ⟨b, 2, none⟩ (.pointer none))
    have HF := hide (And.intro (h.tail hkB hbB) hkB)
    change w.cell? ⟨r.g, 1, none⟩ = some (.pointer none) at d1
    unfold RK.sl at *
    clear h hl hkA hbA hbB hkB d0
    go_enter Tryz.func29, Tryz.ntmps29
    go_wp2
    go_ret
    exact ⟨rfl, HF.out⟩
  | cons s L =>
    have hbB : (w.setCell ⟨b, 2, none⟩ (.pointer (some ⟨s.g, 0, none⟩))).heap[b]? = some (.cells (ringCells b bx sz (s :: L)) 58 (0, 0)) := hbA _
    have c2b : (w.setCell ⟨b, 2, none⟩ (.pointer (some ⟨s.g, 0, none⟩))).cell? ⟨b, 2, none⟩ = some (.pointer (some ⟨s.g, 0, none⟩)) := by rw [blk_cell hbB]; rfl
    have d0b := d0 (.pointer (some ⟨s.g, 0, none⟩))
    have hq := leql_some ⟨s.g, 0, none⟩ (w.setCell ⟨b, 2, none⟩ (.pointer (some ⟨s.g, 0, none⟩)))
    have HF := hide (And.intro (h.tail (hkA _) hbB) (hkA (.pointer (some ⟨s.g, 0, none⟩))))
    change w.cell? ⟨r.g, 1, none⟩ = some (.pointer (some ⟨s.g, 0, none⟩)) at d1
    unfold RK.sl at *
    clear h hl hkA hbA hbB d0
    go_enter Tryz.func29, Tryz.ntmps29
    go_wp2
    go_ret
    exact ⟨rfl, HF.out⟩
set_option maxRecDepth 100000 in
theorem take_some {r : RK} (h : Rng w B b bx sz (r :: L)) : Calls Tryz.prog 13 #[.pointer (some ⟨b, 0, none⟩)] w fun e w' => e = .returned (.tuple #[r.sl, .int .i64 0]) ∧ Rng w' B b bx sz L ∧ Kept (fun g => g ≠ b) w w' := by
  have H := hide (is_yes b w h.c0)
  have c2 : w.cell? ⟨b, 2, none⟩ = some (.pointer (some ⟨r.g, 0, none⟩)) := h.c2
  have hq := leql_some ⟨r.g, 0, none⟩ w
  have HR := hide (remove_any h)
  clear h
  unfold RK.sl at *
  go_enter Tryz.func13, Tryz.ntmps13
  go_wp2_with (first
    | (go_at_call 24; refine H.out.mono ?_; rintro e w' ⟨rfl, rfl⟩)
    | (go_at_call 29; refine HR.out.mono ?_; rintro e w1 ⟨rfl, hh⟩; have HF := hide hh; clear hh))
  go_ret2
  exact ⟨rfl, HF.out⟩
end
end Go.Proofs.YtdbflopfcnkjbaaGreat
