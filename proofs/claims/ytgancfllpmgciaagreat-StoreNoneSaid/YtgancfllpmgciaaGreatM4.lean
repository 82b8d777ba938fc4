/-
  A map more: add.
-/
import Derived.Test.YtgancfllpmgciaaGreatM3
import Derived.Deep.RegionLaw
namespace Go.Proofs.YtgancfllpmgciaaGreat
open Go.RowKit
set_option linter.unusedVariables false

section
variable {P : Program} {ops : Array Oper} {o : Oper} {a : Act} {K : Act → World → Prop} {Q : Exit → Act → World → Prop} {E : Prop}
/-- An append whose run is known. -/
theorem step_append_run (w w2 : World) (hgd : o.guard = none) (s x : Operand) (t : TypeId)
    (ho : o.op = .call { callee := .builtin .append, args := #[s, x], argTypes := #[t, t] }) (v vx v' : Value) (hs : a.eval s = v) (hx : a.eval x = vx) (hrun : (Builtin.append_ #[t, t] o.type #[v, vx]).run P w = .ok v' w2)
    (h : K (a.put o.dst v') w2) : if Region.wanted o (yielded ops a.tmps) = true then Oper.wp P o a w K Q else E := by
  have hw : Region.wanted o (yielded ops a.tmps) = true := by simp [Region.wanted, hgd]
  rw [if_pos hw]
  unfold Oper.wp execOp
  simp only [ho, resolve, invoke, builtin, Sem.run_bind, Sem.run_pure, Result.andThen_ok, List.map_toArray, List.map_cons, List.map_nil, hs, hx, hrun]
  exact h
end
theorem srowInfo : (Tryz.prog.info? 120).map (fun i => (i.zero, i.size, i.bytes)) = some (some (.agg #[.int .i64 0, .int .u8 0, .int .i64 0, .int .i64 0, .int .i64 0, .nilIface]), 6, 56) := by kernel_rfl
/-- A map more. -/
def AddTold (B b last : Nat) (A : Option Addr) (L : List SE) (k key val ent : Int) (t : TypeId) (v : Value) (w w' : World) : Prop :=
  ∃ A' c', Sto w' B b (last + 1) A' c' (L ++ [⟨last + 1, k, key, val, ent, t, v⟩]) ∧ Kept (fun g => g ≠ b ∧ ¬ blkOf A g) w w' ∧ ∀ g, blkOf A' g → blkOf A g ∨ w.heap.size ≤ g
section
variable {w w1 w3 : World} {B b last c : Nat} {A : Option Addr} {L : List SE} {k key val ent : Int} {t : TypeId} {v : Value}
/-- The number that was given last is counted on. -/
theorem Sto.counted (h : Sto w B b last A c L) (hm : last < 1000000) : Sto (w.setCell ⟨b, 1, none⟩ (.int .i64 ((last : Int) + 1))) B b (last + 1) A c L := by
  have hk : Kept (fun g => g ≠ b) w (w.setCell ⟨b, 1, none⟩ (.int .i64 ((last : Int) + 1))) := (Kept.refl _ w).setCell (p := ⟨b, 1, none⟩) (fun _ h => h rfl) _
  exact ⟨Joins.block_setCell (i := 1) h.blk _, owns_kept h.out hk (fun g hg e => by subst e; exact h.out_b (own_of_slice.trans hg)), h.low, h.up, fun r hr => ⟨(h.ran r hr).1, Nat.le_succ_of_le (h.ran r hr).2⟩, by have := h.many; omega⟩
theorem Sto.added (h : Sto w B b (last + 1) A c L) (hran : ∀ r ∈ L, r.h ≤ last) (hn : L.length < 32) (hb : Below w.heap.size w w1) {A' : Option Addr} {m : Nat}
    (hl : Longer w1 w3 120 6 (.slice A L.length c) (.slice A' (L.length + 1) m) (L.length + 1) (rowCells L ++ [.int .i64 ((last : Int) + 1), .int .u8 k, .int .i64 key, .int .i64 val, .int .i64 ent, .iface t v])) :
    w3.cell? ⟨b, 2, none⟩ = some (.slice A L.length c) ∧ w3.frozen? ⟨b, 2, none⟩ = false ∧ Sto (w3.setCell ⟨b, 2, none⟩ (.slice A' (L.length + 1) m)) B b (last + 1) A' m (L ++ [⟨last + 1, k, key, val, ent, t, v⟩]) ∧
      Kept (fun g => g ≠ b ∧ ¬ blkOf A g) w (w3.setCell ⟨b, 2, none⟩ (.slice A' (L.length + 1) m)) ∧ ∀ g, blkOf A' g → blkOf A g ∨ w.heap.size ≤ g := by
  obtain ⟨hl1, hl2, hl3⟩ := hl
  have hbl := at_lt h.blk
  have hKA : Kept (fun g => ¬ blkOf A g) w w3 := (Kept.of_below hb).grown hl2 (fun g hg hlt hF => hF (own_of_slice.trans hg))
  have hbb : w3.heap[b]? = _ := (hKA.block b hbl h.out_b).trans h.blk
  have hsub : ∀ g, blkOf A' g → blkOf A g ∨ w.heap.size ≤ g := by
    intro g hg
    rcases hl3 with h3 | h3
    · exact .inl ((own_of_slice.trans h3.symm).trans (own_of_slice.trans hg))
    · rw [own_of_slice (n' := 0) (c' := 0), hg] at h3
      injection h3 with h3
      have := hb.size
      exact .inr (by omega)
  have hA'b : ¬ blkOf A' b := fun e => by
    rcases hsub b e with h2 | h2
    · exact h.out_b h2
    · omega
  have hK4 : Kept (fun g => g ≠ b ∧ ¬ blkOf A g) w (w3.setCell ⟨b, 2, none⟩ (.slice A' (L.length + 1) m)) := (hKA.mono (fun _ h => h.2)).setCell (p := ⟨b, 2, none⟩) (fun _ h => h.1 rfl) _
  have hK5 : Kept (fun g => g ≠ b) w3 (w3.setCell ⟨b, 2, none⟩ (.slice A' (L.length + 1) m)) := (Kept.refl _ w3).setCell (p := ⟨b, 2, none⟩) (fun _ h => h rfl) _
  refine ⟨by rw [blk_cell hbb]; rfl, Joins.unfrozen_of_block hbb 2, ⟨?_, ?_, ⟨h.low.1, fun g hg => ?_⟩, ?_, fun r hr => ?_, ?_⟩, hK4, hsub⟩
  · rw [List.length_append]
    exact Joins.block_setCell (i := 2) hbb _
  · have e : rowCells (L ++ [⟨last + 1, k, key, val, ent, t, v⟩]) = rowCells L ++ [.int .i64 ((last : Int) + 1), .int .u8 k, .int .i64 key, .int .i64 val, .int .i64 ent, .iface t v] := by simp [rowCells, SE.cells]
    rw [e, List.length_append]
    exact owns_kept hl1 hK5 (fun g hg e => by subst e; exact hA'b (own_of_slice.trans hg))
  · rcases hsub g hg with h2 | h2
    · exact h.low.2 g h2
    · exact Nat.le_trans h.B_le h2
  · rw [List.pairwise_append]
    refine ⟨h.up, List.pairwise_singleton _ _, fun r hr s hs => ?_⟩
    simp at hs
    subst hs
    exact Nat.lt_succ_of_le (hran r hr)
  · rcases List.mem_append.1 hr with hr | hr
    · exact h.ran r hr
    · simp at hr
      subst hr
      exact ⟨Nat.succ_le_succ (Nat.zero_le _), Nat.le_refl _⟩
  · rw [List.length_append]
    exact ⟨hn, h.many.2⟩
set_option maxRecDepth 100000 in
set_option maxHeartbeats 2000000 in
theorem add_any (h : Sto w B b last A c L) (hn : L.length < 32) (hm : last < 1000000) :
    Calls Tryz.prog 25 #[.pointer (some ⟨b, 1, none⟩), .agg #[.int .u8 k, .int .i64 key, .int .i64 val, .int .i64 ent, .iface t v]] w fun e w' => e = .returned (.int .i64 ((last : Int) + 1)) ∧ AddTold B b last A L k key val ent t v w w' := by
  obtain ⟨i0, hi, hz0, hz1, hz2⟩ := info_parts srowInfo
  have hc := h.counted hm
  have hb00 := below1 w (.cells #[.int .u8 k, .int .i64 key, .int .i64 val, .int .i64 ent, .iface t v] 60)
  have c1 := (h.below hb00).c1
  have hf1 := Joins.unfrozen_of_block (h.below hb00).blk 1
  have hran : ∀ r ∈ L, r.h ≤ last := fun r hr => (h.ran r hr).2
  have hz : (w.setCell ⟨b, 1, none⟩ (.int .i64 ((last : Int) + 1))).heap.size = w.heap.size := by simp [World.setCell]
  have hb0 := below1 (w.setCell ⟨b, 1, none⟩ (.int .i64 ((last : Int) + 1))) (.cells #[.int .u8 k, .int .i64 key, .int .i64 val, .int .i64 ent, .iface t v] 60)
  have h1 := hc.below hb0
  have hbl := at_lt h.blk
  have hzne : b ≠ w.heap.size := by omega
  have hK01 : Kept (fun g => g ≠ b ∧ ¬ blkOf A g) w ((w.setCell ⟨b, 1, none⟩ (.int .i64 ((last : Int) + 1))).alloc (.cells #[.int .u8 k, .int .i64 key, .int .i64 val, .int .i64 ent, .iface t v] 60)) := ((Kept.refl _ w).setCell (p := ⟨b, 1, none⟩) (fun _ h => h.1 rfl) _).later hb0
  have hE0 := World.alloc_heap_new (w.setCell ⟨b, 1, none⟩ (.int .i64 ((last : Int) + 1))) (.cells #[.int .u8 k, .int .i64 key, .int .i64 val, .int .i64 ent, .iface t v] 60)
  rw [hz] at hE0
  have HB0 := hide h.B_le
  have hmi : (last : Int) < 1000000 := by omega
  clear h hb0 hc hb00
  go_enter Tryz.func25, Tryz.ntmps25
  go_wp2_with fail
  generalize hW : World.alloc (World.setCell _ ⟨b, 1, none⟩ _) _ = W1 at h1 hK01 hE0 ⊢
  have c1 : W1.cell? ⟨b, 1, none⟩ = some (.int .i64 ((last : Int) + 1)) := h1.c1
  have c2 := h1.c2
  obtain ⟨⟨k0, k1, k2, k3, k4⟩, _, hlt⟩ := five hE0
  have hb2 : Below W1.heap.size W1 (W1.alloc (.cells #[.int .i64 ((last : Int) + 1), .int .u8 k, .int .i64 key, .int .i64 val, .int .i64 ent, .iface t v] 120)).drew := (below1 W1 _).drew
  have hbl1 := at_lt h1.blk
  have c1b : (W1.alloc (.cells #[.int .i64 ((last : Int) + 1), .int .u8 k, .int .i64 key, .int .i64 val, .int .i64 ent, .iface t v] 120)).cell? ⟨b, 1, none⟩ = some (.int .i64 ((last : Int) + 1)) := (h1.below (below1 W1 _)).c1
  have c2b := (h1.below (below1 W1 (.cells #[.int .i64 ((last : Int) + 1), .int .u8 k, .int .i64 key, .int .i64 val, .int .i64 ent, .iface t v] 120))).c2
  have hrd : Rd (W1.alloc (.cells #[.int .i64 ((last : Int) + 1), .int .u8 k, .int .i64 key, .int .i64 val, .int .i64 ent, .iface t v] 120)).drew (W1.heap.size + 1) 6 (some ⟨W1.heap.size, 0, none⟩) 1 [.int .i64 ((last : Int) + 1), .int .u8 k, .int .i64 key, .int .i64 val, .int .i64 ent, .iface t v] := cells_rd W1 [.int .i64 ((last : Int) + 1), .int .u8 k, .int .i64 key, .int .i64 val, .int .i64 ent, .iface t v] 120 6 1 rfl
  obtain ⟨v', w3, hrun, hl⟩ := run_append_rd (P := Tryz.prog) (W1.alloc (.cells #[.int .i64 ((last : Int) + 1), .int .u8 k, .int .i64 key, .int .i64 val, .int .i64 ent, .iface t v] 120)).drew 33 33 120 i0 _ 6 56 Tryz.underlying33 hi hz0 hz1 hz2 rfl (by decide)
      (.slice A L.length c) L.length (rowCells L) (h1.below hb2).out (W1.heap.size + 1) (some ⟨W1.heap.size, 0, none⟩) 1 1 [.int .i64 ((last : Int) + 1), .int .u8 k, .int .i64 key, .int .i64 val, .int .i64 ent, .iface t v] hrd (fun e => by cases e) (fun u hu => by simp at hu; rcases hu with rfl | rfl | rfl | rfl | rfl | rfl <;> rfl) (by unfold maxLen; omega) (by omega)
  obtain ⟨A', m, rfl, _⟩ := owns_slice hl.1
  obtain ⟨d1, d2, hS, hK, hsub⟩ := h1.added hran hn hb2 hl
  have hc1 : (w3.setCell ⟨b, 2, none⟩ (.slice A' (L.length + 1) m)).cell? ⟨b, 1, none⟩ = some (.int .i64 ((last : Int) + 1)) := hS.c1
  have d3 : w3.cell? ⟨b, 1, none⟩ = some (.int .i64 ((last : Int) + 1)) := by
    rw [← hc1]
    exact (World.cell?_setCell_other w3 _ _ _ (by simp)).symm
  have HFIN : Hid (AddTold B b last A L k key val ent t v w (w3.setCell ⟨b, 2, none⟩ (.slice A' (L.length + 1) m))) := ⟨A', m, hS, keptTrans hK01 hK, fun g hg => (hsub g hg).imp id (Nat.le_trans hK01.size)⟩
  clear hW hS hK hsub hl hrd hE0 hb2 h1 hK01 hran
  generalize L.length = n at *
  go_region_law (refine step_append_run _ w3 (by rfl) (.tmp 16) (.tmp 23) 33 (by rfl) _ _ _ (by rfl) (by rfl) hrun ?_)
  all_goals
    go_wp2
    go_ret
    exact ⟨rfl, HFIN.out⟩
end
end Go.Proofs.YtgancfllpmgciaaGreat
