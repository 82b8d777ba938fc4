/-
  The document's Pop.
-/
import Derived.Test.YtflpifelamkagaaGreatY1
import Derived.IntWalk
namespace Go.Proofs.YtflpifelamkagaaGreat
open Go.RowKit
set_option linter.unusedVariables false

/-- The document's queue has turned. -/
def RTold (B x : Nat) (st : Bool) (sz n : Nat) (A : Option Addr) (M M' : List QR) (w w' : World) : Prop :=
  ∃ A' c', RQue w' B x st sz n A' c' M' ∧ Kept (fun g => g ≠ x) w w' ∧ ∀ g, OfQ x A' M' g → OfQ x A M g ∨ w.heap.size ≤ g
theorem slInfo : (Tryz.prog.info? 36).map (fun i => (i.zero, i.size, i.bytes)) = some (some (.slice none 0 0), 1, 24) := by kernel_rfl
theorem owns_emptyT (w : World) (e : TypeId) : (w.alloc (.cells #[] e)).ownsRow 0 e 1 (.slice (some ⟨w.heap.size, 0, none⟩) 0 0) 0 [] :=
  ⟨rfl, .inr ⟨w.heap.size, 0, #[], rfl, Nat.zero_le _, World.alloc_heap_new _ _, Nat.le_refl _, by simp [maxLen], by simp, by simp⟩⟩
section
variable {w w4 : World} {B x sz n c : Nat} {st : Bool} {A : Option Addr} {M : List QR}
theorem RQue.turn {u : Value} {A' : Option Addr} {m' : Nat} {M' : List QR} (h : RQue w B x st sz n A c M) (hk : Kept (fun g => g ≠ x) w w4) (hx : w4.heap[x]? = some (.cells #[.int .u8 (kindI st), .int .i64 0, .int .i64 sz, .int .i64 n, u] 49 (0, 0))) (hl : M'.length ≤ n)
    (ho : w4.ownsRow 0 36 1 (.slice A' M'.length m') M'.length (M'.map (QR.sl sz))) (hA : ∀ g, (Value.slice A' 0 0).ownBlock = some g → w.heap.size ≤ g)
    (hr : ∀ r ∈ M', r ∈ M ∨ (w.heap.size ≤ r.g ∧ w4.ownsRow 0 5 1 (QR.sl sz r) sz (u8s r.bs))) :
    w4.cell? ⟨x, 4, none⟩ = some u ∧ w4.frozen? ⟨x, 4, none⟩ = false ∧ RTold B x st sz n A M M' w (w4.setCell ⟨x, 4, none⟩ (.slice A' M'.length m')) := by
  have hxl := at_lt h.blk
  have hk5 : Kept (fun k => k ≠ x) w4 (w4.setCell ⟨x, 4, none⟩ (.slice A' M'.length m')) := (Kept.refl _ w4).setCell (p := ⟨x, 4, none⟩) (fun _ h => h rfl) _
  have hsub : ∀ g, OfQ x A' M' g → OfQ x A M g ∨ w.heap.size ≤ g := by
    rintro g (hg | hg | ⟨r, hr', rfl⟩)
    · exact .inl (.inl hg)
    · exact .inr (hA g hg)
    · exact (hr r hr').imp (fun h => .inr (.inr ⟨r, h, rfl⟩)) (fun h => h.1)
  refine ⟨by rw [blk_cell hx]; rfl, Joins.unfrozen_of_block hx 4, A', m', ⟨Joins.block_setCell (i := 4) hx _, ?_, fun r hr' => ?_, fun g hg => ?_, h.big, ⟨hl, h.many.2⟩⟩, keptTrans hk hk5, hsub⟩
  · refine owns_kept ho hk5 (fun g hg e => ?_)
    subst e
    have := hA g (own_of_slice.trans hg)
    omega
  · have h4 : w4.ownsRow 0 5 1 (QR.sl sz r) sz (u8s r.bs) := by
      rcases hr r hr' with h1 | h1
      · exact owns_kept (h.row r h1) hk (fun g hg => by
          have e : r.g = g := by simpa [QR.sl, Value.ownBlock] using hg
          rw [← e]; exact h.x_r h1)
      · exact h1.2
    refine owns_kept h4 hk5 (fun g hg => ?_)
    have e : r.g = g := by simpa [QR.sl, Value.ownBlock] using hg
    rw [← e]
    rcases hr r hr' with h1 | h1
    · exact h.x_r h1
    · exact fun e2 => by omega
  · rcases hsub g hg with h1 | h1
    · exact h.low g h1
    · exact Nat.le_trans h.B_le h1
theorem rpop_none (h : RQue w B x st sz n A c M) (h0 : M.length = 0) : Calls Tryz.prog 12 #[.pointer (some ⟨x, 0, none⟩)] w fun e w' => e = .returned (.tuple #[.slice none 0 0, .int .i64 6]) ∧ w = w' := by
  have H := hide (rpeek_none h h0)
  clear h h0
  go_enter Tryz.func12, Tryz.ntmps12
  go_wp2_with (go_at_call 15; refine H.out.mono ?_; rintro e w' ⟨rfl, rfl⟩)
  go_ret2
  exact ⟨rfl, rfl⟩
/-- The next one was taken out of the document's queue. -/
def RPopTold (B x : Nat) (st : Bool) (sz n : Nat) (A : Option Addr) (M : List QR) (w : World) (e : Ending) (w' : World) : Prop :=
  ∃ r g c, M[atI st M.length]? = some r ∧ e = .returned (.tuple #[.slice (some ⟨g, 0, none⟩) sz c, .int .i64 0]) ∧ w'.ownsRow 0 5 1 (.slice (some ⟨g, 0, none⟩) sz c) sz (u8s r.bs) ∧ w.heap.size ≤ g ∧ RTold B x st sz n A M (M.eraseIdx (atI st M.length)) w w'
set_option maxRecDepth 100000 in
set_option maxHeartbeats 4000000 in
theorem rpop_some (h : RQue w B x st sz n A c M) (h0 : 0 < M.length) : Calls Tryz.prog 12 #[.pointer (some ⟨x, 0, none⟩)] w (RPopTold B x st sz n A M w) := by
  obtain ⟨i0, hi0, hz0, hz1, hz2⟩ := info_parts slInfo
  have hlt : atI st M.length < M.length := by unfold atI; split <;> omega
  obtain ⟨g, rfl⟩ := h.addr h0
  have hmany := h.many
  have HPK := hide (rpeek_some h h0)
  have HNX : Hid (∀ W, Below w.heap.size w W → Calls Tryz.prog 30 #[.pointer (some ⟨x, 0, none⟩)] W fun e w' => e = .returned (.int .i64 (atI st M.length)) ∧ W = w') := hide (fun W hb => next_any (h.below hb) h0)
  have hmlen : (M.eraseIdx (atI st M.length)).length = M.length - 1 := List.length_eraseIdx_of_lt hlt
  have HTN : Hid (∀ w4 A' m', Below w.heap.size w w4 → w4.ownsRow 0 36 1 (.slice A' (M.length - 1) m') (M.length - 1) ((M.map (QR.sl sz)).take (atI st M.length) ++ (M.map (QR.sl sz)).drop (atI st M.length + 1)) → (∀ g, (Value.slice A' 0 0).ownBlock = some g → w.heap.size ≤ g) →
      w4.cell? ⟨x, 4, none⟩ = some (.slice (some ⟨g, 0, none⟩) M.length c) ∧ w4.frozen? ⟨x, 4, none⟩ = false ∧ Hid (RTold B x st sz n (some ⟨g, 0, none⟩) M (M.eraseIdx (atI st M.length)) w (w4.setCell ⟨x, 4, none⟩ (.slice A' (M.length - 1) m')))) := hide (fun w4 A' m' hb ho hA => by
    have := h.turn (A' := A') (m' := m') (M' := M.eraseIdx (atI st M.length)) (Kept.of_below hb) ((h.below hb).blk) (by omega) (by rw [hmlen, map_erase, List.eraseIdx_eq_take_drop_succ]; exact ho) hA (fun r hr => .inl (List.mem_of_mem_eraseIdx hr))
    rw [hmlen] at this
    exact this)
  have HOW : Hid (∀ W, Below w.heap.size w W → W.cell? ⟨x, 4, none⟩ = some (.slice (some ⟨g, 0, none⟩) M.length c) ∧ W.ownsRow 0 36 1 (.slice (some ⟨g, 0, none⟩) M.length c) M.length (M.map (QR.sl sz))) := hide (fun W hb => ⟨(h.below hb).c4, (h.below hb).out⟩)
  have h1c : ∀ u ∈ M.map (QR.sl sz), u.oneCell' = true := fun u hu => by obtain ⟨s, _, rfl⟩ := List.mem_map.1 hu; rfl
  have H1C := hide h1c
  have hcap : M.length ≤ c ∧ c ≤ maxLen := by
    rcases h.out.2 with ⟨h0, _⟩ | ⟨g', cap', cur, hv, _, _, hnc, hcm, _⟩
    · cases h0
    · cases hv; exact ⟨hnc, hcm⟩
  have hxs : (M.map (QR.sl sz)).length = M.length := by simp
  have HFIN : Hid (∀ r g' c' W1 W, M[atI st M.length]? = some r → W1.ownsRow 0 5 1 (.slice (some ⟨g', 0, none⟩) sz c') sz (u8s r.bs) → w.heap.size ≤ g' → Kept (fun k => k ≠ x) W1 W → RTold B x st sz n (some ⟨g, 0, none⟩) M (M.eraseIdx (atI st M.length)) w W → RPopTold B x st sz n (some ⟨g, 0, none⟩) M w (.returned (.tuple #[.slice (some ⟨g', 0, none⟩) sz c', .int .i64 0])) W) := hide (fun r g' c' W1 W e1 e2 e3 e4 e5 => ⟨r, g', c', e1, rfl, owns_kept e2 e4 (fun k hk e => by
    have e6 : g' = k := by simpa [Value.ownBlock] using hk
    have := at_lt h.blk
    omega), e3, e5⟩)
  unfold PeekTold at HPK
  clear h h0 h1c
  generalize M.map (QR.sl sz) = xs at *
  generalize M.eraseIdx (atI st M.length) = M' at *
  generalize hqq : M.length = q at *
  generalize hii : atI st q = i at *
  obtain ⟨m, rfl⟩ : ∃ m, q = m + 1 := ⟨q - 1, by omega⟩
  go_enter Tryz.func12, Tryz.ntmps12
  go_wp2_with (go_at_call 15; refine stop_here ?_)
  show Hid _
  refine start_here ?_
  refine HPK.out.mono ?_
  rintro e w1 ⟨r, g', c', hr, rfl, hro, hrg, hb1⟩
  have HB1 := hide hb1
  have HR := hide hr
  have HRO := hide hro
  have HRG := hide hrg
  clear hr hro hrg
  have hbA : Below w.heap.size w (w1.alloc (.cells #[] 36)).drew := ((hb1.trans ((below1 w1 (.cells #[] 36)).mono hb1.size))).drew
  have hbd : Below w.heap.size w w1.drew := hb1.drew
  obtain ⟨k1, _⟩ := HOW.out w1.drew hbd
  obtain ⟨k2, ko2⟩ := HOW.out _ hbA
  have hemp : (w1.alloc (.cells #[] 36)).drew.ownsRow 0 36 1 (.slice (some ⟨w1.heap.size, 0, none⟩) 0 0) 0 [] := owns_kept_below (owns_emptyT w1 _) ((Below.refl _ _).drew)
  have hpre : Rd (w1.alloc (.cells #[] 36)).drew (w1.alloc (.cells #[] 36)).drew.heap.size 1 (some ⟨g, 0, none⟩) i (xs.take i) := by
    have := Rd.of_own (owns_prefix (n := i) ko2 (by omega))
    rwa [Nat.mul_one] at this
  obtain ⟨v1, w3, hrun1, hl1⟩ := run_append_rd (P := Tryz.prog) (w1.alloc (.cells #[] 36)).drew 35 35 36 i0 _ 1 24 Tryz.underlying35 hi0 hz0 hz1 hz2 rfl (by decide) (.slice (some ⟨w1.heap.size, 0, none⟩) 0 0) 0 [] hemp
    _ (some ⟨g, 0, none⟩) i c (xs.take i) hpre (fun e => by cases e) (fun u hu => H1C.out u (List.mem_of_mem_take hu)) (by unfold maxLen; omega) (by omega)
  rw [Nat.zero_add, List.nil_append] at hl1
  have hb3 : Below w.heap.size w w3 := hbA.grown hl1.2.1 hbA.size (fun k e => by cases e; exact hb1.size)
  obtain ⟨k3, ko3⟩ := HOW.out _ hb3
  obtain ⟨A2, hA2, hrd⟩ : ∃ A2 : Addr, (if c = i + 1 then some (⟨g, 0, none⟩ : Addr) else some ⟨g, i + 1, none⟩) = some A2 ∧ Rd w3 w3.heap.size 1 (some A2) (m - i) (xs.drop (i + 1)) := by
    by_cases hc : c = i + 1
    · refine ⟨⟨g, 0, none⟩, by simp [hc], by simp; omega, fun h0 => by omega⟩
    · refine ⟨⟨g, i + 1, none⟩, by simp [hc], by simp; omega, fun _ => ⟨_, rfl, (ko3.lt g rfl).2, fun j u hu => ?_⟩⟩
      rw [List.getElem?_drop] at hu
      have := ko3.cells (g := g) rfl (i + 1 + j) u hu
      rw [own_add] at this ⊢
      rwa [Nat.zero_add] at this
  obtain ⟨v2, w4, hrun2, hl2⟩ := run_append_rd (P := Tryz.prog) w3 35 35 36 i0 _ 1 24 Tryz.underlying35 hi0 hz0 hz1 hz2 rfl (by decide) v1 i (xs.take i) hl1.1
    _ (some A2) (m - i) (c - (i + 1)) (xs.drop (i + 1)) hrd (fun e => by cases e) (fun u hu => H1C.out u (List.mem_of_mem_drop hu)) (by unfold maxLen; omega) (by omega)
  have hv1 : ∀ k, v1.ownBlock = some k → w.heap.size ≤ k := fun k hk => by
    rcases hl1.2.2 with h3 | h3
    · rw [hk] at h3
      simp only [Value.ownBlock, Option.some.injEq] at h3
      have := hb1.size
      omega
    · rw [hk] at h3
      injection h3 with h3
      have := hbA.size
      omega
  have hb4 : Below w.heap.size w w4 := hb3.grown hl2.2.1 hb3.size hv1
  have hv2 : ∀ k, v2.ownBlock = some k → w.heap.size ≤ k := fun k hk => by
    rcases hl2.2.2 with h3 | h3
    · exact hv1 k (h3.symm.trans hk)
    · rw [hk] at h3
      injection h3 with h3
      have := hb3.size
      omega
  rw [show i + (m - i) = m by omega] at hl2
  obtain ⟨A4, m4, rfl, _⟩ := owns_slice hl2.1
  obtain ⟨k4, f4, k5⟩ := HTN.out w4 A4 m4 hb4 hl2.1 (fun k hk => hv2 k (own_of_slice.trans hk))
  have HW14 : Hid (Kept (fun k => k ≠ x) w1 (w4.setCell ⟨x, 4, none⟩ (.slice A4 (m + 1 - 1) m4))) := by
    have e1 : Below w1.heap.size w1 (w1.alloc (.cells #[] 36)).drew := (below1 w1 (.cells #[] 36)).drew
    have e2 : Below w1.heap.size w1 w3 := e1.grown hl1.2.1 e1.size (fun k e => by cases e; exact Nat.le_refl _)
    have e3 : Below w1.heap.size w1 w4 := e2.grown hl2.2.1 e2.size (fun k hk => by
      rcases hl1.2.2 with h3 | h3
      · rw [hk] at h3
        simp only [Value.ownBlock, Option.some.injEq] at h3
        omega
      · rw [hk] at h3
        injection h3 with h3
        have := e1.size
        omega)
    exact (Kept.of_below e3).setCell (p := ⟨x, 4, none⟩) (fun _ h => h rfl) _
  have HF := hide (HFIN.out r g' c' w1 _ HR.out HRO.out HRG.out HW14.out k5.out)
  have HN := hide (HNX.out w1 hb1)
  obtain ⟨k0, _⟩ := HOW.out w1 hb1
  have f5 : (i : Int) ≤ 1024 := by omega
  have f6 : i ≤ c := by omega
  have f7 : i + 1 ≤ c := by omega
  have f8 : i ≤ m := by omega
  have f10 : (0 : Int) ≤ (i : Int) + 1 := by omega
  have f11 : (0 : Int) ≤ (i : Int) := by omega
  have e9 : m + 1 - (i + 1) = m - i := by omega
  have s1 : IntKind.i64.wrap ((i : Int) + 1) = (i : Int) + 1 := IntWalk.i64_in _ (by omega)
  have s2 : ((i : Int) + 1).toNat = i + 1 := by omega
  clear hb1 hbA hbd hemp hpre hl1 hb3 hrd hl2 hv1 hb4 hv2 ko2 ko3 HPK HNX HTN HOW H1C hcap hxs HFIN hmany hmlen hqq hii k5 HW14 hi0 hz0 hz1 hz2 hlt
  simp only [Nat.add_sub_cancel] at HF
  go_wp2_with (go_at_call 30; refine HN.out.mono ?_; rintro e w' ⟨rfl, rfl⟩)
  go_region_law (first
    | (refine step_append_run _ w3 (by rfl) (.tmp 18) (.tmp 24) 35 (by rfl) _ _ _ (by rfl) (by rfl) hrun1 ?_)
    | (refine step_append_run _ w4 (by rfl) (.tmp 25) (.tmp 32) 35 (by rfl) _ _ _ (by rfl) (by rfl) hrun2 ?_))
  all_goals
    clear s1 s2
    go_wp2_with fail
    go_ret2
    exact HF.out
end
end Go.Proofs.YtflpifelamkagaaGreat
