/-
  The document's ring, in memory; its room; its first record goes.
-/
import Derived.Test.YtdbflopfcnkjbaaGreatJ6
import Derived.IntWalk
namespace Go.Proofs.YtdbflopfcnkjbaaGreat
open Go.RowKit
set_option linter.unusedVariables false

def sumA : List ARow → Nat
  | [] => 0
  | r :: M => 8 + r.n + sumA M
theorem sumA_append : ∀ (L K : List ARow), sumA (L ++ K) = sumA L + sumA K
  | [], K => by simp [sumA]
  | r :: L, K => by simp [sumA, sumA_append L K]; omega
theorem sumA_take {L : List ARow} {j : Nat} {r : ARow} (h : L[j]? = some r) : sumA (L.take (j + 1)) = sumA (L.take j) + (8 + r.n) := by rw [List.take_add_one, h]; simp [sumA_append, sumA]
theorem sumA_take_le (L : List ARow) (j : Nat) : sumA (L.take j) ≤ sumA L := by
  have := sumA_append (L.take j) (L.drop j)
  rw [List.take_append_drop] at this
  omega
theorem sumA_len : ∀ (L : List ARow), 8 * L.length ≤ sumA L
  | [] => by simp [sumA]
  | r :: L => by have := sumA_len L; simp [sumA]; omega
theorem own_of_slice {A : Option Addr} {n c n' c' : Nat} : (Value.slice A n c).ownBlock = (Value.slice A n' c').ownBlock := by cases A <;> rfl
/-- The blocks of the document's ring. -/
def OfX (x : Nat) (A : Option Addr) (M : List ARow) (g : Nat) : Prop := g = x ∨ (Value.slice A 0 0).ownBlock = some g ∨ ∃ r ∈ M, r.sl.ownBlock = some g
def OffX (x : Nat) (A : Option Addr) (g : Nat) : Prop := g ≠ x ∧ (Value.slice A 0 0).ownBlock ≠ some g
structure RRng (w : World) (B x sz : Nat) (A : Option Addr) (c : Nat) (M : List ARow) : Prop where
  blk : w.heap[x]? = some (.cells #[.int .u8 7, .int .i64 0, .int .i64 0, .int .i64 sz, .slice A M.length c] 61 (0, 0))
  out : w.ownsRow 0 27 1 (.slice A M.length c) M.length (M.map ARow.sl)
  row : ∀ r ∈ M, w.ownsRow 0 5 1 r.sl r.n (u8s r.bs)
  low : ∀ g, OfX x A M g → B ≤ g
  big : sumA M ≤ sz ∧ sz ≤ 16384
section
variable {w w' w4 : World} {B x sz c : Nat} {A : Option Addr} {M : List ARow}
theorem RRng.lt (h : RRng w B x sz A c M) : ∀ g, OfX x A M g → g < w.heap.size := by
  rintro g (rfl | hg | ⟨r, hr, hg⟩)
  · exact at_lt h.blk
  · exact (h.out.lt g (own_of_slice.trans hg)).2
  · exact ((h.row r hr).lt g hg).2
theorem RRng.kept {F : Nat → Prop} (h : RRng w B x sz A c M) (hk : Kept F w w') (hF : ∀ g, OfX x A M g → F g) : RRng w' B x sz A c M :=
  ⟨(hk.block x (at_lt h.blk) (hF x (.inl rfl))).trans h.blk, owns_kept h.out hk (fun g hg => hF g (.inr (.inl (own_of_slice.trans hg)))),
    fun r hr => owns_kept (h.row r hr) hk (fun g hg => hF g (.inr (.inr ⟨r, hr, hg⟩))), h.low, h.big⟩
theorem RRng.below (h : RRng w B x sz A c M) (hb : Below w.heap.size w w') : RRng w' B x sz A c M :=
  h.kept (F := fun _ => True) (Kept.of_below hb) (fun _ _ => trivial)
theorem RRng.c3 (h : RRng w B x sz A c M) : w.cell? ⟨x, 3, none⟩ = some (.int .i64 sz) := by rw [blk_cell h.blk]; rfl
theorem RRng.c4 (h : RRng w B x sz A c M) : w.cell? ⟨x, 4, none⟩ = some (.slice A M.length c) := by rw [blk_cell h.blk]; rfl
theorem RRng.B_le (h : RRng w B x sz A c M) : B ≤ w.heap.size := Nat.le_of_lt (Nat.lt_of_le_of_lt (h.low x (.inl rfl)) (at_lt h.blk))
theorem RRng.addr (h : RRng w B x sz A c M) (h0 : 0 < M.length) : ∃ g, A = some ⟨g, 0, none⟩ := by
  rcases h.out.2 with ⟨_, h1⟩ | ⟨g, cap, cur, hv, _⟩
  · omega
  · injection hv with hv
    exact ⟨g, hv⟩
theorem RRng.nilA (h : RRng w B x sz A c M) : A = none → M.length = 0 := fun e => by
  rcases Nat.eq_zero_or_pos M.length with h0 | h0
  · exact h0
  · obtain ⟨g, e2⟩ := h.addr h0
    rw [e] at e2; cases e2
theorem RRng.x_r (h : RRng w B x sz A c M) {r : ARow} (hr : r ∈ M) : r.sl.ownBlock ≠ some x := row_off (h.row r hr) h.blk (by decide)
theorem RRng.x_out (h : RRng w B x sz A c M) : (Value.slice A 0 0).ownBlock ≠ some x := fun e => by
  rcases h.out.2 with ⟨h0, _⟩ | ⟨g, cap, cur, hv, _, hg, _⟩
  · injection h0 with h0
    subst h0
    cases e
  · injection hv with hv
    subst hv
    simp only [Value.ownBlock, Option.some.injEq] at e
    subst e
    rw [h.blk] at hg
    injection hg with hg
    injection hg with _ ht
    exact absurd ht (by decide)
theorem RRng.out_r (h : RRng w B x sz A c M) {r : ARow} (hr : r ∈ M) : ∀ g, r.sl.ownBlock = some g → OffX x A g := fun g hg => by
  refine ⟨fun e => by subst e; exact h.x_r hr hg, fun e => ?_⟩
  rcases owns_ne (h.row r hr) h.out (by decide) with h1 | h1
  · rw [h1] at hg; cases hg
  · exact h1 (hg.trans (e.symm.trans own_of_slice))
/-- The document's ring has turned. -/
def RTold (B x sz : Nat) (A : Option Addr) (M M' : List ARow) (w w' : World) : Prop :=
  ∃ A' c', RRng w' B x sz A' c' M' ∧ Kept (OffX x A) w w' ∧ ∀ g, OfX x A' M' g → OfX x A M g ∨ w.heap.size ≤ g
theorem RRng.turn {u : Value} {A' : Option Addr} {m' : Nat} {M' : List ARow} (h : RRng w B x sz A c M) (hk : Kept (OffX x A) w w4) (hx : w4.heap[x]? = some (.cells #[.int .u8 7, .int .i64 0, .int .i64 0, .int .i64 sz, u] 61 (0, 0))) (hsum : sumA M' ≤ sz)
    (ho : w4.ownsRow 0 27 1 (.slice A' M'.length m') M'.length (M'.map ARow.sl)) (hA : ∀ g, (Value.slice A' 0 0).ownBlock = some g → (Value.slice A 0 0).ownBlock = some g ∨ w.heap.size ≤ g)
    (hr : ∀ r ∈ M', r ∈ M ∨ ((∀ g, r.sl.ownBlock = some g → w.heap.size ≤ g) ∧ w4.ownsRow 0 5 1 r.sl r.n (u8s r.bs))) :
    w4.cell? ⟨x, 4, none⟩ = some u ∧ w4.frozen? ⟨x, 4, none⟩ = false ∧ RTold B x sz A M M' w (w4.setCell ⟨x, 4, none⟩ (.slice A' M'.length m')) := by
  have hxl := at_lt h.blk
  have hk5 : Kept (fun k => k ≠ x) w4 (w4.setCell ⟨x, 4, none⟩ (.slice A' M'.length m')) := (Kept.refl _ w4).setCell (p := ⟨x, 4, none⟩) (fun _ h => h rfl) _
  have hsub : ∀ g, OfX x A' M' g → OfX x A M g ∨ w.heap.size ≤ g := by
    rintro g (hg | hg | ⟨r, hr', hg⟩)
    · exact .inl (.inl hg)
    · exact (hA g hg).imp (fun h => .inr (.inl h)) id
    · exact (hr r hr').imp (fun h => .inr (.inr ⟨r, h, hg⟩)) (fun h => h.1 g hg)
  refine ⟨by rw [blk_cell hx]; rfl, Joins.unfrozen_of_block hx 4, A', m', ⟨Joins.block_setCell (i := 4) hx _, ?_, fun r hr' => ?_, fun g hg => ?_, hsum, h.big.2⟩, keptTrans hk (hk5.mono (fun _ h => h.1)), hsub⟩
  · refine owns_kept ho hk5 (fun g hg e => ?_)
    subst e
    rcases hA g (own_of_slice.trans hg) with h1 | h1
    · exact h.x_out h1
    · omega
  · rcases hr r hr' with h1 | h1
    · exact owns_kept (owns_kept (h.row r h1) hk (h.out_r h1)) hk5 (fun g hg => (h.out_r h1 g hg).1)
    · exact owns_kept h1.2 hk5 (fun g hg e => by have := h1.1 g hg; omega)
  · rcases hsub g hg with h1 | h1
    · exact h.low g h1
    · exact Nat.le_trans h.B_le h1
set_option maxRecDepth 100000 in
set_option maxHeartbeats 1000000 in
theorem rroom_any (h : RRng w B x sz A c M) : Calls Tryz.prog 19 #[.pointer (some ⟨x, 0, none⟩)] w fun e w' => e = .returned (.int .i64 (sz - sumA M : Nat)) ∧ w = w' := by
  have c3 := h.c3
  have c4 := h.c4
  have hbig := h.big
  have hlen := sumA_len M
  have HH := hide h
  clear h
  go_enter Tryz.func19, Tryz.ntmps19
  go_wp2
  go_loopw [3, 4] (fun a b wr => ∃ j : Nat, j ≤ M.length ∧ a = .int .i64 (sz - sumA (M.take j) : Nat) ∧ b = .int .i64 j ∧ wr = w) (fun _ b _ => M.length - (intOf b).toNat)
  case atStart => exact ⟨0, Nat.zero_le _, by simp [sumA], rfl, rfl⟩
  case round =>
    obtain ⟨j, hj, rfl, rfl, rfl⟩ := hrel
    by_cases hlt : j < M.length
    · obtain ⟨g, rfl⟩ := HH.out.addr (by omega)
      have hr : M[j]? = some M[j] := List.getElem?_eq_getElem hlt
      obtain ⟨r, hrr⟩ : ∃ r, r = M[j] := ⟨_, rfl⟩
      rw [← hrr] at hr
      have k5 : wr.cell? ⟨g, j, none⟩ = some (.slice r.A r.n r.c) := by
        have := HH.out.out.cells (g := g) rfl j r.sl (by rw [List.getElem?_map, hr]; rfl)
        rw [own_add, Nat.zero_add] at this
        exact this
      have e1 := sumA_take hr
      have e2 := sumA_take_le M (j + 1)
      have e3 : ((sz - sumA (M.take j) : Nat) : Int) - 8 - (r.n : Int) = ((sz - sumA (M.take (j + 1)) : Nat) : Int) := by omega
      have HE := hide e3
      have s1 : ((sz - sumA (M.take j) : Nat) : Int) ≤ 16384 := by omega
      have s2 : (8 : Int) + (r.n : Int) ≤ ((sz - sumA (M.take j) : Nat) : Int) := by omega
      have j0 : (0 : Int) ≤ (j : Int) := by omega
      have j1 : (j : Int) < (M.length : Int) := by omega
      have j2 : M.length ≤ 2048 := by omega
      clear hr hrr e1 e2 e3 hbig hlen
      generalize hq : sz - sumA (M.take j) = q at *
      clear hq
      go_wp2
      go_roundw
      case rel => exact ⟨j + 1, by omega, by rw [← HE.out], by go_num, trivial⟩
      case measure => simp [intOf]; omega
    · obtain rfl : j = M.length := by omega
      have j2 : M.length ≤ 2048 := by omega
      rw [List.take_length]
      clear hlt hbig hlen
      go_wp2
      go_ret
      exact ⟨rfl, rfl⟩
end
section
variable {P : Program}
/-- An append whose run is known, in a statement that does not draw. -/
theorem wpList_append_run {w w2 : World} {ops : Array Oper} {rest : List Oper} {o : Oper} {a : Act} {Q : Exit → Act → World → Prop} (hgd : o.guard = none) (s x : Operand) (t : TypeId)
    (ho : o.op = .call { callee := .builtin .append, args := #[s, x], argTypes := #[t, t] }) (v vx v' : Value) (hs : a.eval s = v) (hx : a.eval x = vx) (hrun : (Builtin.append_ #[t, t] o.type #[v, vx]).run P w = .ok v' w2)
    (h : wpList P ops Q rest (a.put o.dst v') w2) : wpList P ops Q (o :: rest) a w := by
  refine wpList_plain hgd fun _ hK => ?_
  unfold Oper.wp execOp
  simp only [ho, resolve, invoke, builtin, Sem.run_bind, Sem.run_pure, Result.andThen_ok, List.map_toArray, List.map_cons, List.map_nil, hs, hx, hrun]
  exact hK _ _ h
end
theorem rlInfo : (Tryz.prog.info? 27).map (fun i => (i.zero, i.size, i.bytes)) = some (some (.slice none 0 0), 1, 24) := by kernel_rfl
theorem owns_emptyT (w : World) (e : TypeId) : (w.alloc (.cells #[] e)).ownsRow 0 e 1 (.slice (some ⟨w.heap.size, 0, none⟩) 0 0) 0 [] :=
  ⟨rfl, .inr ⟨w.heap.size, 0, #[], rfl, Nat.zero_le _, World.alloc_heap_new _ _, Nat.le_refl _, by simp [maxLen], by simp, by simp⟩⟩
section
variable {w w' w4 : World} {B x sz c : Nat} {A : Option Addr} {M : List ARow}
theorem rtake_none (h : RRng w B x sz A c []) : Calls Tryz.prog 14 #[.pointer (some ⟨x, 0, none⟩)] w fun e w' => e = .returned (.tuple #[.slice none 0 0, .int .i64 6]) ∧ w = w' := by
  have c4 : w.cell? ⟨x, 4, none⟩ = some (.slice A 0 c) := h.c4
  clear h
  go_enter Tryz.func14, Tryz.ntmps14
  go_wp2
  go_ret2
  exact ⟨rfl, rfl⟩
set_option maxRecDepth 100000 in
set_option maxHeartbeats 2000000 in
theorem rtake_some {r : ARow} (h : RRng w B x sz A c (r :: M)) : Calls Tryz.prog 14 #[.pointer (some ⟨x, 0, none⟩)] w fun e w' => e = .returned (.tuple #[r.sl, .int .i64 0]) ∧ RTold B x sz A (r :: M) M w w' ∧ w'.ownsRow 0 5 1 r.sl r.n (u8s r.bs) := by
  obtain ⟨i0, hi0, hz0, hz1, hz2⟩ := info_parts rlInfo
  obtain ⟨g, rfl⟩ := h.addr (by simp)
  have hbig := h.big
  have hlen := sumA_len M
  have hsm : 8 + r.n + sumA M ≤ sz := h.big.1
  have hgl : g < w.heap.size := h.lt g (.inr (.inl rfl))
  have hcap : M.length + 1 ≤ c := by
    rcases h.out.2 with ⟨h0, _⟩ | ⟨g', cap', cur, hv, _, _, hnc, _⟩
    · cases h0
    · cases hv; simpa using hnc
  have hba := below1 w (.cells #[] 27)
  have ha := h.below hba
  have hc0 : w.cell? ⟨g, 0, none⟩ = some r.sl := by
    have := h.out.cells (g := g) rfl 0 r.sl rfl
    rw [own_add] at this
    exact this
  have c4 : w.cell? ⟨x, 4, none⟩ = some (.slice (some ⟨g, 0, none⟩) (M.length + 1) c) := h.c4
  have c4a : (w.alloc (.cells #[] 27)).cell? ⟨x, 4, none⟩ = some (.slice (some ⟨g, 0, none⟩) (M.length + 1) c) := ha.c4
  have h1c : ∀ u ∈ M.map ARow.sl, u.oneCell' = true := fun u hu => by obtain ⟨s, _, rfl⟩ := List.mem_map.1 hu; rfl
  obtain ⟨A1, hA1, hrd⟩ : ∃ A1 : Addr, (if c = 1 then some (⟨g, 0, none⟩ : Addr) else some ⟨g, 1, none⟩) = some A1 ∧ Rd (w.alloc (.cells #[] 27)) (w.alloc (.cells #[] 27)).heap.size 1 (some A1) M.length (M.map ARow.sl) := by
    by_cases hc : c = 1
    · refine ⟨⟨g, 0, none⟩, by simp [hc], by simp, fun h0 => by omega⟩
    · refine ⟨⟨g, 1, none⟩, by simp [hc], by simp, fun _ => ⟨_, rfl, Nat.lt_of_lt_of_le hgl hba.size, fun j u hu => ?_⟩⟩
      have := ha.out.cells (g := g) rfl (1 + j) u (by rw [Nat.add_comm]; simpa using hu)
      rw [own_add] at this ⊢
      rwa [Nat.zero_add] at this
  obtain ⟨v4, w4, hrun, hl⟩ := run_append_rd (P := Tryz.prog) (w.alloc (.cells #[] 27)) 43 43 27 i0 _ 1 24 Tryz.underlying43 hi0 hz0 hz1 hz2 rfl (by decide) (.slice (some ⟨w.heap.size, 0, none⟩) 0 0) 0 [] (owns_emptyT w _)
    _ (some A1) M.length (c - 1) (M.map ARow.sl) hrd (fun e => by cases e) h1c (by unfold maxLen; omega) (by omega)
  rw [Nat.zero_add, List.nil_append] at hl
  obtain ⟨A4, m4, rfl, _⟩ := owns_slice hl.1
  have hv4 : ∀ k, (Value.slice A4 M.length m4).ownBlock = some k → w.heap.size ≤ k := fun k hk => by
    rcases hl.2.2 with h3 | h3
    · rw [hk] at h3
      simp only [Value.ownBlock, Option.some.injEq] at h3
      omega
    · rw [hk] at h3
      injection h3 with h3
      have := hba.size
      omega
  have hb4 : Below w.heap.size w w4 := hba.grown hl.2.1 hba.size (fun k e => by cases e; exact Nat.le_refl _)
  obtain ⟨t1, t2, t3⟩ := h.turn (u := .slice (some ⟨g, 0, none⟩) (M.length + 1) c) (A' := A4) (m' := m4) (M' := M) (Kept.of_below hb4) ((h.below hb4).blk) (by omega) hl.1 (fun k hk => .inr (hv4 k (own_of_slice.trans hk))) (fun s hs => .inl (List.mem_cons_of_mem _ hs))
  have hfin : RTold B x sz (some ⟨g, 0, none⟩) (r :: M) M w (w4.setCell ⟨x, 4, none⟩ (.slice A4 M.length m4)) ∧ (w4.setCell ⟨x, 4, none⟩ (.slice A4 M.length m4)).ownsRow 0 5 1 r.sl r.n (u8s r.bs) := by
    refine ⟨t3, ?_⟩
    obtain ⟨_, _, _, hk, _⟩ := t3
    exact owns_kept (h.row r (by simp)) hk (h.out_r (by simp))
  have HF := hide hfin
  have f5 : M.length ≤ 2048 := by omega
  have f6 : 1 ≤ c := by omega
  have f7 : 1 ≤ M.length + 1 := by omega
  have f8 : M.length + 1 - 1 = M.length := by omega
  clear h ha hrd hl hv4 hb4 t3 hfin hbig hlen hsm hgl hba h1c hi0 hz0 hz1 hz2
  unfold ARow.sl at *
  generalize M.length = q at *
  go_enter Tryz.func14, Tryz.ntmps14
  go_wp2_with (at_builtin; refine stop_here ?_)
  show Hid _
  refine start_here ?_
  refine wpList_append_run rfl (.tmp 18) (.tmp 23) 43 rfl _ _ _ rfl rfl hrun ?_
  go_wp2
  go_ret2
  exact ⟨rfl, HF.out⟩
end
end Go.Proofs.YtdbflopfcnkjbaaGreat
