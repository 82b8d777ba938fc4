/-
  A value is put: a copy of it becomes the youngest row.
-/
import Derived.Test.YtflpifelamkagaaGreatV1
import Derived.Deep.RegionLaw
namespace Go.Proofs.YtflpifelamkagaaGreat
open Go.RowKit
set_option linter.unusedVariables false

theorem eql_slice (ad : Addr) (n c : Nat) (w : World) : (binOp .eql 36 (.slice (some ad) n c) (.slice none 0 0)).run Tryz.prog w = .ok (.bool false) w := by
  have h : ∀ d : Nat, (Op.equalIn (d + 1) 36 (.slice (some ad) n c) (.slice none 0 0)).run Tryz.prog w = .ok false w := fun d => by
    simp [Op.equalIn, run_underlying Tryz.underlying36]
  simp only [binOp]
  simp [Op.equal, Op.maxDepth, h 9999]
theorem owns_empty (w : World) : (w.alloc (.cells #[] 5)).ownsRow 0 5 1 (.slice (some ⟨w.heap.size, 0, none⟩) 0 0) 0 [] :=
  ⟨rfl, .inr ⟨w.heap.size, 0, #[], rfl, Nat.zero_le _, World.alloc_heap_new _ _, Nat.le_refl _, by simp [maxLen], by simp, by simp⟩⟩
/-- A copy of a row of bytes. -/
def Copied (n : Nat) (l : List Int) (w : World) (e : Ending) (w' : World) : Prop := ∃ g c, e = .returned (.slice (some ⟨g, 0, none⟩) n c) ∧ w'.ownsRow 0 5 1 (.slice (some ⟨g, 0, none⟩) n c) n (u8s l) ∧ w.heap.size ≤ g ∧ Below w.heap.size w w'
theorem copied_of {n : Nat} {l : List Int} {w w1 : World} {v : Value} (hn : 0 < n) (h : w1.ownsRow 0 5 1 v n (u8s l)) (hv : ∀ g, v.ownBlock = some g → w.heap.size ≤ g) (hb : Below w.heap.size w w1) : Copied n l w (.returned v) w1 := by
  rcases h.2 with ⟨_, h0⟩ | ⟨g, cap, cur, rfl, _⟩
  · omega
  · exact ⟨g, cap, rfl, h, hv g rfl, hb⟩
set_option maxRecDepth 100000 in
theorem clone_any (ad : Addr) (n c B : Nat) (l : List Int) (w : World) (h : Rd w B 1 (some ad) n (u8s l)) (hB : B ≤ w.heap.size) (h0 : 0 < n) (hn : n ≤ 1000000) :
    Calls Tryz.prog 46 #[.slice (some ad) n c] w (Copied n l w) := by
  obtain ⟨i0, hi, hz0, hz1, hz2⟩ := info_parts u8info
  have hq := eql_slice ad n c w
  have HE := hide (owns_empty w)
  have HR := hide ((h.mono hB).below (below1 w (.cells #[] 5)))
  clear h
  go_enter Tryz.func46, Tryz.ntmps46
  go_wp2_with (at_builtin; refine stop_here ?_)
  show Hid _
  refine start_here ?_
  refine wpList_append_rd _ rfl _ _ _ rfl 5 i0 _ 1 1 Tryz.underlying36 hi hz0 hz1 hz2 rfl (by decide) (.slice (some ⟨w.heap.size, 0, none⟩) 0 0) 0 [] rfl HE.out w.heap.size (some ad) n c (u8s l) rfl HR.out (fun e => by cases e) (u8s_one l) (by unfold maxLen; omega) (by omega) ?_
  intro v w1 hl
  obtain ⟨h1, h2, h3⟩ := hl
  rw [Nat.zero_add, List.nil_append] at h1
  have hfin : Copied n l w (.returned v) w1 := copied_of h0 h1 (fun g hg => by
    rcases h3 with h3 | h3
    · rw [h3] at hg
      simp only [Value.ownBlock, Option.some.injEq] at hg
      omega
    · rw [h3] at hg
      injection hg with hg
      rw [← hg]
      simp) ((below1 w _).grown h2 (Nat.le_of_lt (by simp)) (fun k e => by cases e; exact Nat.le_refl _))
  clear h1 h2 h3
  obtain ⟨g, c', e1, hfin⟩ := hfin
  injection e1 with e1
  subst e1
  have HF := hide hfin
  clear hfin
  go_wp2
  go_ret
  exact ⟨_, _, rfl, HF.out⟩
set_option maxRecDepth 100000 in
theorem bclone_any (ad : Addr) (n c B : Nat) (l : List Int) (w : World) (h : Rd w B 1 (some ad) n (u8s l)) (hB : B ≤ w.heap.size) (h0 : 0 < n) (hn : n ≤ 1000000) :
    Calls Tryz.prog 31 #[.slice (some ad) n c] w (Copied n l w) := by
  obtain ⟨i0, hi, hz0, hz1, hz2⟩ := info_parts u8info
  have hq := eql_slice ad n c w
  have HE := hide (owns_empty w)
  have HR := hide ((h.mono hB).below (below1 w (.cells #[] 5)))
  clear h
  go_enter Tryz.func31, Tryz.ntmps31
  go_wp2_with (at_builtin; refine stop_here ?_)
  show Hid _
  refine start_here ?_
  refine wpList_append_rd _ rfl _ _ _ rfl 5 i0 _ 1 1 Tryz.underlying36 hi hz0 hz1 hz2 rfl (by decide) (.slice (some ⟨w.heap.size, 0, none⟩) 0 0) 0 [] rfl HE.out w.heap.size (some ad) n c (u8s l) rfl HR.out (fun e => by cases e) (u8s_one l) (by unfold maxLen; omega) (by omega) ?_
  intro v w1 hl
  obtain ⟨h1, h2, h3⟩ := hl
  rw [Nat.zero_add, List.nil_append] at h1
  have hfin : Copied n l w (.returned v) w1 := copied_of h0 h1 (fun g hg => by
    rcases h3 with h3 | h3
    · rw [h3] at hg
      simp only [Value.ownBlock, Option.some.injEq] at hg
      omega
    · rw [h3] at hg
      injection hg with hg
      rw [← hg]
      simp) ((below1 w _).grown h2 (Nat.le_of_lt (by simp)) (fun k e => by cases e; exact Nat.le_refl _))
  clear h1 h2 h3
  obtain ⟨g, c', e1, hfin⟩ := hfin
  injection e1 with e1
  subst e1
  have HF := hide hfin
  clear hfin
  go_wp2
  go_ret
  exact ⟨_, _, rfl, HF.out⟩
section
variable {P : Program} {ops : Array Oper} {o : Oper} {a : Act} {K : Act → World → Prop} {Q : Exit → Act → World → Prop} {E : Prop}
/-- A call, as a step of a region that draws. -/
theorem step_enter {w : World} (hgd : o.guard = none) {f : FuncId} {args : Array Value} {R : Value → World → Prop} (hrun : (execOp a.eval o).run P w = .ok (.enter f args) w) (hc : Calls P f args w fun e w' => ∃ v, e = .returned v ∧ R v w')
    (h : ∀ v w', R v w' → K (a.put o.dst v) w') : if Region.wanted o (yielded ops a.tmps) = true then Oper.wp P o a w K Q else E := by
  have hw : Region.wanted o (yielded ops a.tmps) = true := by simp [Region.wanted, hgd]
  rw [if_pos hw]
  unfold Oper.wp
  rw [hrun, Oper.upon_enter]
  refine hc.mono ?_
  rintro e w' ⟨v, rfl, hR⟩
  exact h v w' hR
/-- An append whose run is known. -/
theorem step_append_run (w w2 : World) (hgd : o.guard = none) (s x : Operand) (t : TypeId)
    (ho : o.op = .call { callee := .builtin .append, args := #[s, x], argTypes := #[t, t] }) (v vx v' : Value) (hs : a.eval s = v) (hx : a.eval x = vx) (hrun : (Builtin.append_ #[t, t] o.type #[v, vx]).run P w = .ok v' w2)
    (h : K (a.put o.dst v') w2) : if Region.wanted o (yielded ops a.tmps) = true then Oper.wp P o a w K Q else E := by
  have hw : Region.wanted o (yielded ops a.tmps) = true := by simp [Region.wanted, hgd]
  rw [if_pos hw]
  unfold Oper.wp execOp
  simp only [ho, resolve, invoke, builtin, Sem.run_bind, Sem.run_pure, Result.andThen_ok, List.map_toArray, List.map_cons, List.map_nil, hs, hx, hrun]
  exact h
end
theorem qrowInfo : (Tryz.prog.info? 63).map (fun i => (i.zero, i.size, i.bytes)) = some (some (.slice none 0 0), 1, 24) := by kernel_rfl
/-- A value was put. -/
def PutTold (B b : Nat) (st : Bool) (sz n : Nat) (A : Option Addr) (L : List QR) (l : List Int) (w w' : World) : Prop :=
  ∃ A' c' r, r.bs = l ∧ Que w' B b st sz n A' c' (L ++ [r]) ∧ Kept (fun g => g ≠ b ∧ (Value.slice A 0 0).ownBlock ≠ some g) w w' ∧ ∀ g, OfQ b A' (L ++ [r]) g → OfQ b A L g ∨ w.heap.size ≤ g
theorem Que.B_le {w : World} {B b sz n c : Nat} {st : Bool} {A : Option Addr} {L : List QR} (h : Que w B b st sz n A c L) : B ≤ w.heap.size := Nat.le_of_lt (Nat.lt_of_le_of_lt (h.low b (.inl rfl)) (at_lt h.blk))
theorem Que.put {w w1 w3 : World} {B b sz n c g cg m : Nat} {st : Bool} {A A' : Option Addr} {L : List QR} {l : List Int} (h : Que w B b st sz n A c L) (hroom : L.length < n)
    (hb : Below w.heap.size w w1) (hr : w1.ownsRow 0 5 1 (.slice (some ⟨g, 0, none⟩) sz cg) sz (u8s l)) (hg : w.heap.size ≤ g)
    (hl : Longer (w1.alloc (.cells #[.slice (some ⟨g, 0, none⟩) sz cg] 63)) w3 63 1 (.slice A L.length c) (.slice A' (L.length + 1) m) (L.length + 1) (L.map (QR.sl sz) ++ [.slice (some ⟨g, 0, none⟩) sz cg])) :
    w3.cell? ⟨b, 3, none⟩ = some (.slice A L.length c) ∧ w3.frozen? ⟨b, 3, none⟩ = false ∧ PutTold B b st sz n A L l w (w3.setCell ⟨b, 3, none⟩ (.slice A' (L.length + 1) m)) := by
  obtain ⟨hl1, hl2, hl3⟩ := hl
  have hbl := at_lt h.blk
  have h1 := h.below hb
  have hgl := (hr.lt g rfl).2
  have hsz : (w1.alloc (.cells #[.slice (some ⟨g, 0, none⟩) sz cg] 63)).heap.size = w1.heap.size + 1 := by simp
  have hb2 := below1 w1 (.cells #[.slice (some ⟨g, 0, none⟩) sz cg] 63)
  have hKA : Kept (fun k => (Value.slice A 0 0).ownBlock ≠ some k) w1 w3 := (Kept.of_below hb2).grown hl2 (fun k hk hlt hF => hF (own_of_slice.trans hk))
  have hKw : Kept (fun k => (Value.slice A 0 0).ownBlock ≠ some k) w w3 := keptTrans (Kept.of_below hb) hKA
  have hbb : w3.heap[b]? = _ := (hKw.block b hbl h.out_b).trans h.blk
  have hbs : ∀ (v : Value), (w3.setCell ⟨b, 3, none⟩ v).heap[b]? = some (.cells #[.pointer (some ⟨b, 0, none⟩), .int .i64 sz, .int .i64 n, v, .func (.func (nx st)) #[] #[]] 62 (0, 0)) := fun v => Joins.block_setCell (i := 3) hbb v
  have hsub : ∀ g', OfQ b A' (L ++ [⟨g, cg, l⟩]) g' → OfQ b A L g' ∨ w.heap.size ≤ g' := by
    rintro g' (hg' | hg' | ⟨r, hr', rfl⟩)
    · exact .inl (.inl hg')
    · rcases hl3 with h3 | h3
      · exact .inl (.inr (.inl ((own_of_slice.trans h3.symm).trans (own_of_slice.trans hg'))))
      · rw [own_of_slice (n' := 0) (c' := 0), hg', hsz] at h3
        injection h3 with h3
        have := hb.size
        exact .inr (by omega)
    · rcases List.mem_append.1 hr' with hr' | hr'
      · exact .inl (.inr (.inr ⟨r, hr', rfl⟩))
      · simp at hr'
        subst hr'
        exact .inr hg
  have hA'b : (Value.slice A' 0 0).ownBlock ≠ some b := fun e => by
    rcases hl3 with h3 | h3
    · exact h.out_b ((own_of_slice.trans h3.symm).trans (own_of_slice.trans e))
    · rw [own_of_slice (n' := 0) (c' := 0), e, hsz] at h3
      injection h3 with h3
      have := hb.size
      omega
  have hK4 : Kept (fun k => k ≠ b ∧ (Value.slice A 0 0).ownBlock ≠ some k) w (w3.setCell ⟨b, 3, none⟩ (.slice A' (L.length + 1) m)) := (hKw.mono (fun _ h => h.2)).setCell (p := ⟨b, 3, none⟩) (fun _ h => h.1 rfl) _
  have hK5 : Kept (fun k => k ≠ b) w3 (w3.setCell ⟨b, 3, none⟩ (.slice A' (L.length + 1) m)) := (Kept.refl _ w3).setCell (p := ⟨b, 3, none⟩) (fun _ h => h rfl) _
  refine ⟨by rw [blk_cell hbb]; rfl, Joins.unfrozen_of_block hbb 3, A', m, ⟨g, cg, l⟩, rfl, ⟨?_, ?_, fun r hr' => ?_, fun g' hg' => ?_, ?_, h.big, ?_⟩, hK4, hsub⟩
  · rw [List.length_append]
    exact hbs _
  · rw [List.length_append, List.map_append]
    refine owns_kept hl1 hK5 (fun k hk e => ?_)
    subst e
    exact hA'b (own_of_slice.trans hk)
  · rcases List.mem_append.1 hr' with hr' | hr'
    · exact owns_kept (h.row r hr') hK4 (fun k hk => by
        have e : r.g = k := by simpa [QR.sl, Value.ownBlock] using hk
        subst e
        exact ⟨h.b_r hr', h.out_r hr'⟩)
    · simp at hr'
      subst hr'
      refine owns_kept (owns_kept hr hKA (fun k hk e => ?_)) hK5 (fun k hk e => ?_)
      · have e2 : g = k := by simpa [QR.sl, Value.ownBlock] using hk
        subst e2
        have := h.lt g (.inr (.inl e))
        omega
      · have e2 : g = k := by simpa [QR.sl, Value.ownBlock] using hk
        omega
  · rcases hsub g' hg' with h2 | h2
    · exact h.low g' h2
    · exact Nat.le_trans h.B_le h2
  · rw [List.map_append, List.nodup_append]
    refine ⟨h.sep, by simp, fun x hx y hy e => ?_⟩
    simp at hy
    obtain ⟨r, hr', rfl⟩ := List.mem_map.1 hx
    have := h.lt r.g (.inr (.inr ⟨r, hr', rfl⟩))
    omega
  · have := h.many
    rw [List.length_append]
    simp
    omega
set_option maxRecDepth 100000 in
set_option maxHeartbeats 2000000 in
theorem put_any {w : World} {B b sz n c : Nat} {st : Bool} {A : Option Addr} {L : List QR} (ad : Addr) (sc C : Nat) (l : List Int) (h : Que w B b st sz n A c L) (hroom : L.length < n) (hr : Rd w C 1 (some ad) sz (u8s l)) (hC : C ≤ w.heap.size) :
    Calls Tryz.prog 34 #[.pointer (some ⟨b, 3, none⟩), .slice (some ad) sz sc] w fun e w' => e = .returned (.tuple #[]) ∧ PutTold B b st sz n A L l w w' := by
  obtain ⟨i0, hi, hz0, hz1, hz2⟩ := info_parts qrowInfo
  have hbig := h.big
  have hmany := h.many
  have hd : Below w.heap.size w w.drew := (Below.refl _ w).drew
  have HQ := hide (h.below hd)
  have HKW := hide (Kept.of_below (F := fun _ => True) hd)
  have HC := hide (clone_any ad sz sc C l w.drew (hr.mono (Nat.le_refl _)) hC (by omega) (by omega))
  have hE : ∀ args (W : World), (callFunc 46 args).run Tryz.prog W = .ok (.enter 46 args) W := enters_of Tryz.func46 (by kernel_rfl) rfl
  have HX : Hid (∀ (w1 : World) (g cg : Nat), w1.ownsRow 0 5 1 (.slice (some ⟨g, 0, none⟩) sz cg) sz (u8s l) → w.heap.size ≤ g → Below w.drew.heap.size w.drew w1 → ∃ A' m w3, (Builtin.append_ #[57, 57] 57 #[.slice A L.length c, .slice (some ⟨w1.heap.size, 0, none⟩) 1 1]).run Tryz.prog (w1.alloc (.cells #[.slice (some ⟨g, 0, none⟩) sz cg] 63)) = .ok (.slice A' (L.length + 1) m) w3 ∧
      w1.cell? ⟨b, 3, none⟩ = some (.slice A L.length c) ∧ (w1.alloc (.cells #[.slice (some ⟨g, 0, none⟩) sz cg] 63)).cell? ⟨b, 3, none⟩ = some (.slice A L.length c) ∧ w3.cell? ⟨b, 3, none⟩ = some (.slice A L.length c) ∧ w3.frozen? ⟨b, 3, none⟩ = false ∧ Hid (PutTold B b st sz n A L l w (w3.setCell ⟨b, 3, none⟩ (.slice A' (L.length + 1) m)))) := hide (fun w1 g cg h1 h2 h3 => by
    have hq := HQ.out.below h3
    have hb2 := below1 w1 (.cells #[.slice (some ⟨g, 0, none⟩) sz cg] 63)
    have hrd := cells_rd w1 [.slice (some ⟨g, 0, none⟩) sz cg] 63 1 1 rfl
    obtain ⟨v', w3, hrun, hl⟩ := run_append_rd (P := Tryz.prog) (w1.alloc (.cells #[.slice (some ⟨g, 0, none⟩) sz cg] 63)) 57 57 63 i0 _ 1 24 Tryz.underlying57 hi hz0 hz1 hz2 rfl (by decide)
      (.slice A L.length c) L.length (L.map (QR.sl sz)) (hq.below hb2).out (w1.heap.size + 1) (some ⟨w1.heap.size, 0, none⟩) 1 1 [.slice (some ⟨g, 0, none⟩) sz cg] hrd (fun e => by cases e) (fun u hu => by simp at hu; subst hu; rfl) (by unfold maxLen; omega) (by omega)
    obtain ⟨A', m, rfl, _⟩ := owns_slice hl.1
    obtain ⟨k1, k2, A2, c2, r2, k3, k4, k5, k6⟩ := HQ.out.put hroom h3 h1 h2 hl
    exact ⟨A', m, w3, hrun, hq.c3, (hq.below hb2).c3, k1, k2, A2, c2, r2, k3, k4, keptTrans (HKW.out.mono (fun _ _ => trivial)) k5, k6⟩)
  have c3 : w.drew.cell? ⟨b, 3, none⟩ = some (.slice A L.length c) := HQ.out.c3
  generalize L.length = q at *
  clear h hr hC hroom hd hmany hbig
  go_enter Tryz.func34, Tryz.ntmps34
  go_wp2_with fail
  go_region_law (first
    | (refine step_enter (f := 46) (args := #[.slice (some ad) sz sc]) (R := fun v w1 => Copied sz l w.drew (.returned v) w1) (by rfl) (by simp [go_sem, hE]) (HC.out.mono (fun e w' hh => by obtain ⟨g, cg, rfl, hh⟩ := hh; exact ⟨_, rfl, g, cg, rfl, hh⟩)) ?_; rintro v w1 ⟨g, cg, e1, h1, h2, h3⟩; injection e1 with e1; subst e1; obtain ⟨A', m, w3, hrun, k1, k1b, k2, k3, k4⟩ := HX.out w1 g cg h1 h2 h3; clear h1 h2 h3)
    | (refine step_append_run _ w3 (by rfl) (.tmp 8) (.tmp 11) 57 (by rfl) _ _ _ (by rfl) (by rfl) hrun ?_))
  all_goals
    go_wp2_with fail
    go_end0
    exact ⟨rfl, k4.out⟩
end Go.Proofs.YtflpifelamkagaaGreat
