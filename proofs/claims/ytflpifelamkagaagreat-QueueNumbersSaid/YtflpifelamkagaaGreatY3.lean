/-
  The document's Push.
-/
import Derived.Test.YtflpifelamkagaaGreatY2
namespace Go.Proofs.YtflpifelamkagaaGreat
open Go.RowKit
set_option linter.unusedVariables false

section
variable {w w4 : World} {B x sz n c : Nat} {st : Bool} {A : Option Addr} {M : List QR}
set_option maxRecDepth 100000 in
theorem rpush_len (S : Option Addr) (m sc : Nat) (fl : Int) (h : RQue w B x st sz n A c M) (hm : m ≠ sz) : Calls Tryz.prog 17 #[.pointer (some ⟨x, 0, none⟩), .slice S m sc, .int .u64 fl] w fun e w' => e = .returned (.int .i64 2) ∧ w = w' := by
  have c2 := h.c2
  have d1 : ((m : Int) != (sz : Int)) = true := by simp; omega
  have d2 : (bne m sz) = true := by simp; omega
  have d3 : ¬ m = sz := hm
  clear h
  go_enter Tryz.func17, Tryz.ntmps17
  go_wp2
  go_ret
  exact ⟨rfl, rfl⟩
set_option maxRecDepth 100000 in
theorem rpush_flag (S : Option Addr) (sc : Nat) (fl : Int) (h : RQue w B x st sz n A c M) (hf0 : fl ≠ 0) (hf2 : fl ≠ 2) : Calls Tryz.prog 17 #[.pointer (some ⟨x, 0, none⟩), .slice S sz sc, .int .u64 fl] w fun e w' => e = .returned (.int .i64 2) ∧ w = w' := by
  have c2 := h.c2
  have d1 : (fl != 0) = true := by simpa using hf0
  have d2 : (fl != 2) = true := by simpa using hf2
  clear h
  go_enter Tryz.func17, Tryz.ntmps17
  go_wp2
  go_ret
  exact ⟨rfl, rfl⟩
set_option maxRecDepth 100000 in
set_option maxHeartbeats 1000000 in
theorem rpush_full (S : Option Addr) (sc : Nat) (h : RQue w B x st sz n A c M) (hn : M.length = n) : Calls Tryz.prog 17 #[.pointer (some ⟨x, 0, none⟩), .slice S sz sc, .int .u64 0] w fun e w' => e = .returned (.int .i64 8) ∧ Below w.heap.size w w' := by
  have c2 := h.c2
  have hd := h.below ((Below.refl w.heap.size w).drew)
  have d3 := hd.c3
  have d4 := hd.c4
  rw [hn] at d4
  clear h hd hn
  go_enter Tryz.func17, Tryz.ntmps17
  go_wp2_with fail
  go_region
  all_goals
    go_wp2
    go_ret
    exact ⟨rfl, (Below.refl _ w).drew⟩
/-- What Push leaves of the document's queue. -/
def RPushTold (B x : Nat) (st : Bool) (sz n : Nat) (A : Option Addr) (M : List QR) (k : Nat) (l : List Int) (w : World) (e : Ending) (w' : World) : Prop :=
  e = .returned (.int .i64 0) ∧ ∃ r, r.bs = l ∧ RTold B x st sz n A M (M.drop k ++ [r]) w w'
/-- The last statements of the document's Push: run ahead of the walk. 'A1' is the row that it has by then. -/
theorem rput_runs {w1 : World} {k q : Nat} (z : Nat) (hz : w1.heap.size = z) {A1 : Option Addr} {c1 : Nat} {S : Option Addr} {sc C : Nat} {l : List Int} (h : RQue w B x st sz n A c M) (hk : Kept (fun g => g ≠ x) w w1) (hq : M.length - k = q) (hroom : q < n)
    (hx : w1.heap[x]? = some (.cells #[.int .u8 (kindI st), .int .i64 0, .int .i64 sz, .int .i64 n, .slice A1 q c1] 49 (0, 0)))
    (hrd : Rd w1 w1.heap.size 1 A1 q ((M.drop k).map (QR.sl sz))) (hA1 : A1 = none → q = 0) (hr : Rd w1 C 1 S sz (u8s l)) (hC : C ≤ w1.heap.size) :
    (w1.alloc (.cells #[] 36)).cell? ⟨x, 4, none⟩ = some (.slice A1 q c1) ∧
    ∃ v2 w2, (Builtin.append_ #[35, 35] 35 #[.slice (some ⟨z, 0, none⟩) 0 0, .slice A1 q c1]).run Tryz.prog (w1.alloc (.cells #[] 36)) = .ok v2 w2 ∧
    ∃ g3 m3 w3, (Builtin.append_ #[36, 36] 36 #[.slice (some ⟨w2.heap.size, 0, none⟩) 0 0, .slice S sz sc]).run Tryz.prog (w2.alloc (.cells #[] 5)) = .ok (.slice (some ⟨g3, 0, none⟩) sz m3) w3 ∧
    ∃ A4 m4 w4, (Builtin.append_ #[35, 35] 35 #[v2, .slice (some ⟨w3.heap.size, 0, none⟩) 1 1]).run Tryz.prog (w3.alloc (.cells #[.slice (some ⟨g3, 0, none⟩) sz m3] 36)) = .ok (.slice A4 (q + 1) m4) w4 ∧
      w4.cell? ⟨x, 4, none⟩ = some (.slice A1 q c1) ∧ w4.frozen? ⟨x, 4, none⟩ = false ∧ Hid (RPushTold B x st sz n A M k l w (.returned (.int .i64 0)) (w4.setCell ⟨x, 4, none⟩ (.slice A4 (q + 1) m4))) := by
  obtain ⟨i0, hi0, hz0, hz1, hz2⟩ := info_parts slInfo
  obtain ⟨j0, hj0, hy0, hy1, hy2⟩ := info_parts u8info
  have hmany := h.many
  have hbig := h.big
  have hxl := at_lt h.blk
  have h1c : ∀ u ∈ (M.drop k).map (QR.sl sz), u.oneCell' = true := fun u hu => by obtain ⟨s, _, rfl⟩ := List.mem_map.1 hu; rfl
  have ha := below1 w1 (.cells #[] 36)
  have hwl := hk.size
  obtain ⟨v2, w2, hrun2, hl2⟩ := run_append_rd (P := Tryz.prog) (w1.alloc (.cells #[] 36)) 35 35 36 i0 _ 1 24 Tryz.underlying35 hi0 hz0 hz1 hz2 rfl (by decide) (.slice (some ⟨w1.heap.size, 0, none⟩) 0 0) 0 [] (owns_emptyT w1 _)
    _ A1 q c1 _ (hrd.below ha) hA1 h1c (by unfold maxLen; omega) (by omega)
  rw [Nat.zero_add, List.nil_append] at hl2
  rw [hz] at hrun2
  have hb2 : Below w1.heap.size w1 w2 := ha.grown hl2.2.1 ha.size (fun k e => by cases e; exact Nat.le_refl _)
  have hv2 : ∀ g, v2.ownBlock = some g → w1.heap.size ≤ g := fun g hg => by
    rcases hl2.2.2 with h3 | h3
    · rw [hg] at h3
      simp only [Value.ownBlock, Option.some.injEq] at h3
      omega
    · rw [hg] at h3
      injection h3 with h3
      have := ha.size
      omega
  have ha5 := below1 w2 (.cells #[] 5)
  have hbC : Below w1.heap.size w1 (w2.alloc (.cells #[] 5)) := hb2.trans (ha5.mono hb2.size)
  obtain ⟨v3, w3, hrun3, hl3⟩ := run_append_rd (P := Tryz.prog) (w2.alloc (.cells #[] 5)) 36 36 5 j0 _ 1 1 Tryz.underlying36 hj0 hy0 hy1 hy2 rfl (by decide) (.slice (some ⟨w2.heap.size, 0, none⟩) 0 0) 0 [] (owns_empty w2)
    C S sz sc (u8s l) (hr.below (hbC.mono hC)) (fun e => by
      obtain ⟨ad, e2, _⟩ := hr.2 (by omega)
      rw [e] at e2; cases e2) (u8s_one l) (by unfold maxLen; omega) (by omega)
  rw [Nat.zero_add, List.nil_append] at hl3
  have hb23 : Below w2.heap.size w2 w3 := ha5.grown hl3.2.1 ha5.size (fun k e => by cases e; exact Nat.le_refl _)
  obtain ⟨g3, m3, rfl⟩ : ∃ g3 m3, v3 = .slice (some ⟨g3, 0, none⟩) sz m3 := by
    rcases hl3.1.2 with ⟨_, h0⟩ | ⟨g, cap, cur, e, _⟩
    · omega
    · exact ⟨g, cap, e⟩
  have hg3 : w2.heap.size ≤ g3 := by
    rcases hl3.2.2 with h3 | h3
    · simp only [Value.ownBlock, Option.some.injEq] at h3
      omega
    · simp only [Value.ownBlock, Option.some.injEq] at h3
      have := ha5.size
      omega
  have ha6 := below1 w3 (.cells #[.slice (some ⟨g3, 0, none⟩) sz m3] 36)
  have hb26 : Below w2.heap.size w2 (w3.alloc (.cells #[.slice (some ⟨g3, 0, none⟩) sz m3] 36)) := hb23.trans (ha6.mono hb23.size)
  have ho2 : (w3.alloc (.cells #[.slice (some ⟨g3, 0, none⟩) sz m3] 36)).ownsRow 0 36 1 v2 q ((M.drop k).map (QR.sl sz)) := owns_kept_below hl2.1 hb26
  have hrd6 := cells_rd w3 [.slice (some ⟨g3, 0, none⟩) sz m3] 36 1 1 rfl
  obtain ⟨v4, w4, hrun4, hl4⟩ := run_append_rd (P := Tryz.prog) (w3.alloc (.cells #[.slice (some ⟨g3, 0, none⟩) sz m3] 36)) 35 35 36 i0 _ 1 24 Tryz.underlying35 hi0 hz0 hz1 hz2 rfl (by decide) v2 q _ ho2
    (w3.heap.size + 1) (some ⟨w3.heap.size, 0, none⟩) 1 1 [.slice (some ⟨g3, 0, none⟩) sz m3] hrd6 (fun e => by cases e) (fun u hu => by simp at hu; subst hu; rfl) (by unfold maxLen; omega) (by omega)
  obtain ⟨A4, m4, rfl, _⟩ := owns_slice hl4.1
  have hv4 : ∀ g, (Value.slice A4 (q + 1) m4).ownBlock = some g → w1.heap.size ≤ g := fun g hg => by
    rcases hl4.2.2 with h3 | h3
    · exact hv2 g (h3.symm.trans hg)
    · rw [hg] at h3
      injection h3 with h3
      have h5 := hb2.size
      have h6 := hb26.size
      omega
  have hb16 : Below w1.heap.size w1 (w3.alloc (.cells #[.slice (some ⟨g3, 0, none⟩) sz m3] 36)) := hb2.trans (hb26.mono hb2.size)
  have hb14 : Below w1.heap.size w1 w4 := hb16.grown hl4.2.1 hb16.size hv2
  have hr4 : w4.ownsRow 0 5 1 (.slice (some ⟨g3, 0, none⟩) sz m3) sz (u8s l) := by
    refine (owns_kept_below hl3.1 ha6).kept hl4.2.1 (.inr ?_)
    intro e
    rcases owns_ne (owns_kept_below hl3.1 ha6) ho2 (by decide) with h1 | h1
    · cases h1
    · exact h1 e
  have hml : (M.drop k ++ [(⟨g3, m3, l⟩ : QR)]).length = q + 1 := by simp; omega
  have ht := h.turn (u := .slice A1 q c1) (A' := A4) (m' := m4) (M' := M.drop k ++ [⟨g3, m3, l⟩]) (w4 := w4) (keptTrans hk (Kept.of_below hb14)) ((hb14.block x (Nat.lt_of_lt_of_le hxl hwl)).trans hx) (by omega)
    (by rw [hml, List.map_append]; exact hl4.1) (fun g hg => by have := hv4 g (own_of_slice.trans hg); omega) (fun r hr' => by
      rcases List.mem_append.1 hr' with h1 | h1
      · exact .inl (List.mem_of_mem_drop h1)
      · simp at h1
        subst h1
        exact .inr ⟨by have := hb2.size; show w.heap.size ≤ g3; omega, hr4⟩)
  rw [hml] at ht
  obtain ⟨t1, t2, t3⟩ := ht
  refine ⟨?_, v2, w2, hrun2, g3, m3, w3, hrun3, A4, m4, w4, hrun4, t1, t2, rfl, _, rfl, t3⟩
  rw [blk_cell ((ha.block x (Nat.lt_of_lt_of_le hxl hwl)).trans hx)]
  rfl
end
section
variable {P : Program}
/-- An append whose run is known, in a statement that does not draw. -/
theorem wpList_append_run {w w2 : World} {ops : Array Oper} {rest : List Oper} {o : Oper} {a : Act} {Q : Exit → Act → World → Prop} (hgd : o.guard = none) (s x : Operand) (t : TypeId)
    (ho : o.op = .call { callee := .builtin .append, args := #[s, x], argTypes := #[t, t] }) (v vx v' : Value) (hs : a.eval s = v) (hx : a.eval x = vx) (hrun : (Builtin.append_ #[t, t] o.type #[v, vx]).run P w = .ok v' w2)
    (h : wpList P ops Q rest (a.put o.dst v') w2) : wpList P ops Q (o :: rest) a w := by
  refine wpList_plain hgd fun _ hK => ?_
  unfold Oper.wp execOp
  simp only [ho, resolve, invoke, builtin, Sem.run_bind, Sem.run_pure, Result.andThen_ok, List.map_toArray, List.map_cons, List.map_nil, hs, hx, hrun]
  exact hK _ _ h
end
section
variable {w w4 : World} {B x sz n c : Nat} {st : Bool} {A : Option Addr} {M : List QR}
set_option maxRecDepth 100000 in
set_option maxHeartbeats 2000000 in
theorem rpush_room (S : Option Addr) (sc C : Nat) (l : List Int) (fl : Int) (h : RQue w B x st sz n A c M) (hn : M.length < n) (hr : Rd w C 1 S sz (u8s l)) (hC : C ≤ w.heap.size) (hf : fl = 0 ∨ fl = 2) : Calls Tryz.prog 17 #[.pointer (some ⟨x, 0, none⟩), .slice S sz sc, .int .u64 fl] w (RPushTold B x st sz n A M 0 l w) := by
  have c2 := h.c2
  have hb := (Below.refl w.heap.size w).drew
  have hd := h.below hb
  have d3 := hd.c3
  have d4 := hd.c4
  have hA : A = none → M.length = 0 := fun e => by
    rcases Nat.eq_zero_or_pos M.length with h0 | h0
    · exact h0
    · obtain ⟨g, e2⟩ := h.addr h0
      rw [e] at e2; cases e2
  obtain ⟨k1, v2, w2, hrun2, g3, m3, w3, hrun3, A4, m4, w4, hrun4, t1, t2, t3⟩ := rput_runs (w1 := w.drew) w.drew.heap.size rfl (k := 0) (q := M.length) (S := S) (sc := sc) (l := l) (A1 := A) (c1 := c) h (Kept.of_below hb) rfl hn hd.blk (Rd.of_own hd.out) hA (hr.below (hb.mono hC)) hC
  have HT := hide t3
  have q1 : ((M.length : Int) == (n : Int)) = false := by simp; omega
  have q2 : (M.length == n) = false := by simp; omega
  have q3 : ¬ M.length = n := by omega
  clear h hb hd hr hn hA t3
  generalize M.length = q at *
  rcases hf with rfl | rfl
  all_goals
    go_enter Tryz.func17, Tryz.ntmps17
    go_wp2_with fail
    go_region
    all_goals
      generalize w.drew = wd at *
      go_wp2_with (at_builtin; refine stop_here ?_)
      show Hid _
      refine start_here ?_
      refine wpList_append_run rfl (.tmp 45) (.tmp 49) 35 rfl _ _ _ rfl rfl hrun2 ?_
      go_wp2_with (at_builtin; refine stop_here ?_)
      show Hid _
      refine start_here ?_
      refine wpList_append_run rfl (.tmp 51) (.tmp 52) 36 rfl _ _ _ rfl rfl hrun3 ?_
      go_wp2_with (at_builtin; refine stop_here ?_)
      show Hid _
      refine start_here ?_
      refine wpList_append_run rfl (.tmp 50) (.tmp 54) 35 rfl _ _ _ rfl rfl hrun4 ?_
      go_wp2
      go_ret
      exact HT.out
set_option maxRecDepth 100000 in
set_option maxHeartbeats 2000000 in
theorem rpush_over (S : Option Addr) (sc C : Nat) (l : List Int) (h : RQue w B x st sz n A c M) (hn : M.length = n) (hr : Rd w C 1 S sz (u8s l)) (hC : C ≤ w.heap.size) (hCx : ∀ ad, S = some ad → ad.block ≠ x) : Calls Tryz.prog 17 #[.pointer (some ⟨x, 0, none⟩), .slice S sz sc, .int .u64 2] w (RPushTold B x st sz n A M 1 l w) := by
  have c2 := h.c2
  have hb := (Below.refl w.heap.size w).drew
  have hd := h.below hb
  have d3 := hd.c3
  have d4 := hd.c4
  have hmany := h.many
  obtain ⟨g, rfl⟩ := h.addr (by omega)
  have hcap : M.length ≤ c := by
    rcases h.out.2 with ⟨h0, _⟩ | ⟨g', cap', cur, hv, _, _, hnc, _⟩
    · cases h0
    · cases hv; exact hnc
  have dz : w.drew.frozen? ⟨x, 4, none⟩ = false := Joins.unfrozen_of_block hd.blk 4
  obtain ⟨A1, hA1, hrd⟩ : ∃ A1 : Addr, (if c = 1 then some (⟨g, 0, none⟩ : Addr) else some ⟨g, 1, none⟩) = some A1 ∧ Rd w.drew (g + 1) 1 (some A1) (M.length - 1) ((M.drop 1).map (QR.sl sz)) := by
    by_cases hc : c = 1
    · refine ⟨⟨g, 0, none⟩, by simp [hc], by simp, fun h0 => by omega⟩
    · refine ⟨⟨g, 1, none⟩, by simp [hc], by simp, fun _ => ⟨_, rfl, Nat.lt_succ_self _, fun j u hu => ?_⟩⟩
      rw [List.map_drop, List.getElem?_drop] at hu
      have := hd.out.cells (g := g) rfl (1 + j) u hu
      rw [own_add] at this ⊢
      rwa [Nat.zero_add] at this
  have hgl : g < w.heap.size := h.lt g (.inr (.inl rfl))
  have hgx : g ≠ x := fun e => h.out_x (by rw [e]; rfl)
  have hk1 : Kept (fun k => k ≠ x) w (w.drew.setCell ⟨x, 4, none⟩ (.slice (some A1) (M.length - 1) (c - 1))) := (Kept.of_below hb).setCell (p := ⟨x, 4, none⟩) (fun _ h => h rfl) _
  have hkd : Kept (fun k => k ≠ x) w.drew (w.drew.setCell ⟨x, 4, none⟩ (.slice (some A1) (M.length - 1) (c - 1))) := (Kept.refl _ _).setCell (p := ⟨x, 4, none⟩) (fun _ h => h rfl) _
  have hxx : (w.drew.setCell ⟨x, 4, none⟩ (.slice (some A1) (M.length - 1) (c - 1))).heap[x]? = some (.cells #[.int .u8 (kindI st), .int .i64 0, .int .i64 sz, .int .i64 n, .slice (some A1) (M.length - 1) (c - 1)] 49 (0, 0)) := Joins.block_setCell (i := 4) hd.blk _
  have hA1b : A1.block = g := by
    by_cases hc : c = 1
    · simp [hc] at hA1; rw [← hA1]
    · simp [hc] at hA1; rw [← hA1]
  obtain ⟨k1, v2, w2, hrun2, g3, m3, w3, hrun3, A4, m4, w4, hrun4, t1, t2, t3⟩ := rput_runs (w1 := w.drew.setCell ⟨x, 4, none⟩ (.slice (some A1) (M.length - 1) (c - 1))) w.drew.heap.size (by simp [World.setCell]) (k := 1) (q := M.length - 1) (C := C) (S := S) (sc := sc) (l := l) (A1 := some A1) (c1 := c - 1) h hk1 rfl (by omega) hxx
    ⟨hrd.1, fun h0 => by
      obtain ⟨ad, e, hlt, hc⟩ := hrd.2 h0
      cases e
      refine ⟨A1, rfl, by rw [hA1b]; exact Nat.lt_of_lt_of_le hgl hk1.size, fun j u hu => (World.cell?_of_block ?_).trans (hc j u hu)⟩
      rw [block_add, hA1b]
      exact hkd.block g hgl hgx⟩ (fun e => by cases e)
    ⟨hr.1, fun h0 => by
      obtain ⟨ad, e, hlt, hc⟩ := hr.2 h0
      refine ⟨ad, e, hlt, fun j u hu => (World.cell?_of_block ?_).trans (hc j u hu)⟩
      rw [block_add]
      exact hk1.block _ (by omega) (hCx ad e)⟩ (Nat.le_trans hC hk1.size)
  have HT := hide t3
  have q1 : ((M.length : Int) == (n : Int)) = true := by simp; omega
  have z0 : w.heap.size ≤ w.heap.size := Nat.le_refl _
  have qq : 1 ≤ M.length := by omega
  obtain ⟨m, hm⟩ : ∃ m, M.length = m + 1 := ⟨M.length - 1, by omega⟩
  rw [hn] at d4 hm qq
  rw [hn] at hrun2 hrun4 t1 k1 HT hcap
  clear h hb hd hr hn hrd hgl hgx hk1 hkd hxx hA1b t3 q1 hCx hmany
  subst hm
  simp only [Nat.add_sub_cancel] at *
  go_enter Tryz.func17, Tryz.ntmps17
  go_wp2_with fail
  go_region
  all_goals
    generalize w.drew = wd at *
    go_wp2_with (at_builtin; refine stop_here ?_)
    show Hid _
    refine start_here ?_
    refine wpList_append_run rfl (.tmp 45) (.tmp 49) 35 rfl _ _ _ rfl rfl hrun2 ?_
    go_wp2_with (at_builtin; refine stop_here ?_)
    show Hid _
    refine start_here ?_
    refine wpList_append_run rfl (.tmp 51) (.tmp 52) 36 rfl _ _ _ rfl rfl hrun3 ?_
    go_wp2_with (at_builtin; refine stop_here ?_)
    show Hid _
    refine start_here ?_
    refine wpList_append_run rfl (.tmp 50) (.tmp 54) 35 rfl _ _ _ rfl rfl hrun4 ?_
    go_wp2
    go_ret
    exact HT.out
end
end Go.Proofs.YtflpifelamkagaaGreat
