/-
  The document's memory: New, Read, Write, Free.
-/
import Derived.Test.YtbllnjkagleenaaGreatRF1
namespace Go.Proofs.YtbllnjkagleenaaGreat
open Go.RowKit
set_option linter.unusedVariables false

theorem rnew_any (w : World) : Calls Tryz.prog 11 #[] w fun e w' => ∃ x, e = .returned (.pointer (some ⟨x, 0, none⟩)) ∧ RMem w' w.heap.size x (.slice none 0 0) [] ∧ Below w.heap.size w w' := by
  go_enter Tryz.func11, Tryz.ntmps11
  go_wp2
  go_ret
  refine ⟨w.heap.size, rfl, ⟨World.alloc_heap_new w _, owns_nil _ _ _, fun i r h => by simp at h, ?_, fun i j r s h => by simp at h⟩, below1 w _⟩
  rintro g (rfl | hg | ⟨r, hr, _⟩)
  · exact Nat.le_refl _
  · cases hg
  · cases hr
set_option maxRecDepth 100000 in
theorem rread_err {B x : Nat} {i off size err : Int} {v : Value} {R : List RRow} {w : World} (h : Calls Tryz.prog 35 #[.pointer (some ⟨x, 0, none⟩), .int .i64 i, .int .i64 off, .int .i64 size] w fun e w' => e = .returned (.int .i64 err) ∧ w = w') (he : err ≠ 0) :
    Calls Tryz.prog 16 #[.pointer (some ⟨x, 0, none⟩), .int .i64 i, .int .i64 off, .int .i64 size] w fun e w' => e = .returned (.tuple #[.slice none 0 0, .int .i64 err]) ∧ w = w' := by
  have h0 : (err == 0) = false := by simpa using he
  have h1 : (err != 0) = true := by simpa using he
  have H := hide h
  clear h
  go_enter Tryz.func16, Tryz.ntmps16
  go_wp2_with (go_at_call 35; refine H.out.mono ?_; rintro e w1 ⟨rfl, rfl⟩)
  go_ret2
  exact ⟨rfl, rfl⟩
set_option maxRecDepth 100000 in
theorem rwrite_err {B x : Nat} {i off err : Int} {v : Value} {R : List RRow} {S : Option Addr} {q sc : Nat} {w : World} (h : Calls Tryz.prog 35 #[.pointer (some ⟨x, 0, none⟩), .int .i64 i, .int .i64 off, .int .i64 q] w fun e w' => e = .returned (.int .i64 err) ∧ w = w') (he : err ≠ 0) :
    Calls Tryz.prog 21 #[.pointer (some ⟨x, 0, none⟩), .int .i64 i, .int .i64 off, .slice S q sc] w fun e w' => e = .returned (.int .i64 err) ∧ w = w' := by
  have h0 : (err == 0) = false := by simpa using he
  have h1 : (err != 0) = true := by simpa using he
  have H := hide h
  clear h
  go_enter Tryz.func21, Tryz.ntmps21
  go_wp2_with (go_at_call 35; refine H.out.mono ?_; rintro e w1 ⟨rfl, rfl⟩)
  go_ret
  exact ⟨rfl, rfl⟩
set_option maxRecDepth 100000 in
theorem rfree_none {B x : Nat} {i : Int} {v : Value} {R : List RRow} {w : World} (h : RMem w B x v R) (hr : rowR R i = none) (hl : R.length ≤ 1000000) :
    Calls Tryz.prog 19 #[.pointer (some ⟨x, 0, none⟩), .int .i64 i] w fun e w' => e = .returned (.int .i64 6) ∧ w = w' := by
  have HL := hide (rlive_none h hr hl)
  clear h hr
  go_enter Tryz.func19, Tryz.ntmps19
  go_wp2_with (go_at_call 37; refine HL.out.mono ?_; rintro e w1 ⟨rfl, rfl⟩)
  go_ret
  exact ⟨rfl, rfl⟩
theorem empty_row (w : World) : (w.alloc (.cells #[] 5)).ownsRow 0 5 1 (.slice (some ⟨w.heap.size, 0, none⟩) 0 0) 0 [] :=
  ⟨by simp, .inr ⟨w.heap.size, 0, #[], rfl, Nat.zero_le _, World.alloc_heap_new w _, Nat.le_refl _, by simp [maxLen], by simp, by simp⟩⟩
theorem longer_own {w0 w w' : World} {e : TypeId} {sz n : Nat} {v v' : Value} {xs : List Value} (h : Longer w w' e sz v v' n xs) (hb : Below w0.heap.size w0 w) (hs : w0.heap.size ≤ w.heap.size) (hv : ∀ g, v.ownBlock = some g → w0.heap.size ≤ g) : Below w0.heap.size w0 w' ∧ ∀ g, v'.ownBlock = some g → w0.heap.size ≤ g :=
  ⟨longer_below hb hs hv h, longer_from h hs hv⟩
/-- The cells of a row of rows, one of which is turned in one cell. -/
theorem flat_set {α β : Type} (f : α → List β) (k : Nat) (hk : ∀ a, (f a).length = k) : ∀ (l : List α) (i : Nat) (a a' : α), l[i]? = some a → ∀ (t : Nat) (u : β), f a' = (f a).set t u → t < k → (l.set i a').flatMap f = (l.flatMap f).set (i * k + t) u := by
  intro l
  induction l with
  | nil => intro i a a' h; simp at h
  | cons x l ih =>
    intro i a a' h t u e ht
    cases i with
    | zero =>
      simp at h
      subst h
      rw [List.set_cons_zero, List.flatMap_cons, List.flatMap_cons, e, Nat.zero_mul, Nat.zero_add, List.set_append_left _ _ (by rw [hk]; exact ht)]
    | succ i =>
      simp at h
      rw [List.set_cons_succ, List.flatMap_cons, List.flatMap_cons, ih i a a' h t u e ht, List.set_append_right _ _ (by rw [hk, Nat.succ_mul]; omega), hk]
      congr 2
      rw [Nat.succ_mul]; omega
/-- A region's bytes are turned; its place is not. -/
theorem RMem.turned {w w' : World} {B x : Nat} {v : Value} {R : List RRow} {j : Nat} {r : RRow} (h : RMem w B x v R) (hj : R[j]? = some r) (hk : Kept (fun g => r.sl.ownBlock ≠ some g) w w') (r' : RRow) (hc : r'.cells = r.cells) (hs : r'.sl = r.sl) (ho : w'.ownsRow 0 5 1 r'.sl r'.n (u8s r'.bs)) (hn : r'.n ≤ 4096) : RMem w' B x v (R.set j r') := by
  have hlt := (List.getElem?_eq_some_iff.1 hj).1
  have hr0 := (h.row j r hj).1
  have hx : r.sl.ownBlock ≠ some x := fun e => by
    rcases hr0.2 with ⟨h0, _⟩ | ⟨g, cap, cur, h0, _, h2, _⟩
    · rw [h0] at e; cases e
    · rw [h0] at e
      simp only [Value.ownBlock, Option.some.injEq] at e
      subst e
      have := h.blk
      rw [h2] at this
      injection this with this
      injection this with _ h5
      cases h5
  have hv : ∀ g, v.ownBlock = some g → r.sl.ownBlock ≠ some g := fun g hg e => by
    rcases owns_ne h.lst hr0 (by decide) with h1 | h1
    · rw [h1] at hg; cases hg
    · exact h1 (hg.trans e.symm)
  have hcase : ∀ (i : Nat) (s : RRow), (R.set j r')[i]? = some s → (i = j ∧ s = r') ∨ (i ≠ j ∧ R[i]? = some s) := fun i s hi => by
    by_cases e : j = i
    · subst e
      rw [List.getElem?_set_self hlt] at hi
      simp at hi
      exact .inl ⟨rfl, hi.symm⟩
    · rw [List.getElem?_set_ne e] at hi
      exact .inr ⟨fun e' => e e'.symm, hi⟩
  have hflat : rcells (R.set j r') = rcells R := by
    unfold rcells
    rw [flat_set RRow.cells 3 (fun _ => rfl) R j r r' hj 0 (.int .u8 r.k) (by rw [hc]; rfl) (by decide)]
    have h1 := flat_at RRow.cells 3 (fun _ => rfl) R j 0 (by decide)
    rw [hj] at h1
    have h2 : (R.flatMap RRow.cells)[j * 3 + 0]? = some (.int .u8 r.k) := h1
    obtain ⟨hl, he⟩ := List.getElem?_eq_some_iff.1 h2
    rw [← he, List.set_getElem_self]
  refine ⟨(hk.block x (at_lt h.blk) hx).trans h.blk, ?_, fun i s hi => ?_, ?_, fun i i' s s' hi hi' hne g hg hs' => ?_⟩
  · rw [List.length_set, hflat]
    exact owns_kept h.lst hk (fun g hg => hv g hg)
  · rcases hcase i s hi with ⟨rfl, rfl⟩ | ⟨h1, h2⟩
    · exact ⟨ho, hn⟩
    · obtain ⟨a1, a2⟩ := h.row i s h2
      exact ⟨owns_kept a1 hk (fun g hg hr' => h.sep i j s r h2 hj h1 g hg hr'), a2⟩
  · rintro g (rfl | hg | ⟨s, hs2, hg⟩)
    · exact h.low _ (.inl rfl)
    · exact h.low _ (.inr (.inl hg))
    · obtain ⟨i, hi⟩ := List.mem_iff_getElem?.1 hs2
      rcases hcase i s hi with ⟨rfl, rfl⟩ | ⟨h1, h2⟩
      · exact h.low g (.inr (.inr ⟨r, List.mem_of_getElem? hj, hs ▸ hg⟩))
      · exact h.low g (.inr (.inr ⟨s, List.mem_of_getElem? h2, hg⟩))
  · rcases hcase i s hi with ⟨rfl, rfl⟩ | ⟨h1, h2⟩
    · rcases hcase i' s' hi' with ⟨rfl, rfl⟩ | ⟨h3, h4⟩
      · exact hne rfl
      · exact h.sep _ i' r s' hj h4 hne g (hs ▸ hg) hs'
    · rcases hcase i' s' hi' with ⟨rfl, rfl⟩ | ⟨h3, h4⟩
      · exact h.sep i _ s r h2 hj hne g hg (hs ▸ hs')
      · exact h.sep i i' s s' h2 h4 hne g hg hs'
/-- A region is live no more. -/
theorem RMem.dead {w : World} {B x g c j : Nat} {R : List RRow} {r : RRow} (h : RMem w B x (.slice (some ⟨g, 0, none⟩) R.length c) R) (hj : R[j]? = some r) : RMem (w.setCell ⟨g, j * 3 + 2, none⟩ (.bool false)) B x (.slice (some ⟨g, 0, none⟩) R.length c) (R.set j { r with live := false }) := by
  have hlt := (List.getElem?_eq_some_iff.1 hj).1
  have hk : Kept (fun b => b ≠ g) w (w.setCell ⟨g, j * 3 + 2, none⟩ (.bool false)) := (Kept.refl _ w).setCell (fun _ hn => hn rfl) _
  have hx : x ≠ g := fun e => by
    rcases h.lst.2 with ⟨h0, _⟩ | ⟨g', cap, cur, h0, _, h2, _⟩
    · cases h0
    · cases h0
      have := h.blk
      rw [e, h2] at this
      injection this with this
      injection this with _ h5
      cases h5
  have hcase : ∀ (i : Nat) (s : RRow), (R.set j { r with live := false })[i]? = some s → ∃ s0, R[i]? = some s0 ∧ s0.sl = s.sl ∧ s0.n = s.n ∧ s0.bs = s.bs := fun i s hi => by
    by_cases e : j = i
    · subst e
      rw [List.getElem?_set_self hlt] at hi
      simp at hi
      subst hi
      exact ⟨r, hj, rfl, rfl, rfl⟩
    · rw [List.getElem?_set_ne e] at hi
      exact ⟨s, hi, rfl, rfl, rfl⟩
  have hv : ∀ (i : Nat) (s : RRow), R[i]? = some s → ∀ b, s.sl.ownBlock = some b → b ≠ g := fun i s hi b hb e => by
    rcases owns_ne (h.row i s hi).1 h.lst (by decide) with h1 | h1
    · rw [h1] at hb; cases hb
    · exact h1 (by rw [hb, e]; rfl)
  refine ⟨(hk.block x (at_lt h.blk) hx).trans h.blk, ?_, fun i s hi => ?_, ?_, fun i i' s s' hi hi' hne b hb hs' => ?_⟩
  · have e : rcells (R.set j { r with live := false }) = (rcells R).set (j * 3 + 2) (.bool false) := flat_set RRow.cells 3 (fun _ => rfl) R j r _ hj 2 (.bool false) rfl (by decide)
    rw [List.length_set, e]
    exact owns_set h.lst (by omega) _
  · obtain ⟨s0, h1, h2, h3, h4⟩ := hcase i s hi
    obtain ⟨a1, a2⟩ := h.row i s0 h1
    rw [← h2, ← h3, ← h4]
    exact ⟨owns_kept a1 hk (fun b hb => hv i s0 h1 b hb), a2⟩
  · rintro b (rfl | hb | ⟨s, hs, hb⟩)
    · exact h.low _ (.inl rfl)
    · exact h.low _ (.inr (.inl hb))
    · obtain ⟨i, hi⟩ := List.mem_iff_getElem?.1 hs
      obtain ⟨s0, h1, h2, _⟩ := hcase i s hi
      exact h.low b (.inr (.inr ⟨s0, List.mem_of_getElem? h1, h2 ▸ hb⟩))
  · obtain ⟨s0, h1, h2, _⟩ := hcase i s hi
    obtain ⟨s1, h3, h4, _⟩ := hcase i' s' hi'
    exact h.sep i i' s0 s1 h1 h3 hne b (h2 ▸ hb) (h4 ▸ hs')
set_option maxRecDepth 100000 in
set_option maxHeartbeats 1000000 in
theorem rread_some {B x : Nat} {i : Int} {v : Value} {R : List RRow} {r : RRow} {w : World} (h : RMem w B x v R) (hr : rowR R i = some r) (hl : R.length ≤ 1000000) (o k : Nat) (hfit : o + k ≤ r.n) :
    Calls Tryz.prog 16 #[.pointer (some ⟨x, 0, none⟩), .int .i64 i, .int .i64 o, .int .i64 k] w fun e w' => ∃ u, e = .returned (.tuple #[u, .int .i64 0]) ∧ OwnB w' w.heap.size u k ((r.bs.drop o).take k) ∧ Below w.heap.size w w' := by
  obtain ⟨j, rfl, hj, hv⟩ := rowR_get hr
  obtain ⟨g, c, rfl, hlt, c0, c1, c2⟩ := h.cells hj
  obtain ⟨ho, hn⟩ := h.row j r hj
  have HM := rmay_some (off := o) (size := k) h hr hl hn (by omega) (by omega) (by omega) (by omega)
  rw [show fitsB r.n o k = true by simp [fitsB]; omega] at HM
  have HM := hide HM
  have ho' : w.ownsRow 0 5 1 (.slice r.A r.n r.c) r.n (u8s r.bs) := ho
  obtain ⟨A2, cc, hcut, hA2, hg2⟩ := cut_part (P := Tryz.prog) Tryz.underlying26 u8size ho' o k hfit
  have hrd := cut_rd ho' o k hfit hg2
  have HRD : Hid (Rd w w.heap.size 1 A2 k (u8s ((r.bs.drop o).take k))) := by
    have e : u8s ((r.bs.drop o).take k) = ((u8s r.bs).drop o).take k := by simp [u8s, List.map_take, List.map_drop]
    rw [e]; exact hrd
  have HA2 := hide hA2
  have cx := blk_cell h.blk 0
  simp at cx
  have hle : j + 1 ≤ R.length := hlt
  have hcw := hcut (w.alloc (.cells #[] 5))
  have hgl : g < w.heap.size := (h.lst.lt g rfl).2
  have hxl := at_lt h.blk
  obtain ⟨i0, hi, hz0, hz1, hz2⟩ := info_parts u8info
  clear h hr c0 c2 hj hv hcut hrd hA2 hg2 ho ho'
  go_enter Tryz.func16, Tryz.ntmps16
  go_wp2_with (first | (go_at_call 35; refine HM.out.mono ?_; rintro e w1 ⟨rfl, rfl⟩) | (at_builtin; refine stop_here ?_))
  show Hid _
  refine start_here ?_
  refine wpList_append_rd _ rfl (.tmp 19) (.tmp 33) _ rfl 5 i0 _ 1 1 Tryz.underlying26 hi hz0 hz1 hz2 rfl (by decide) _ 0 [] rfl (empty_row w) w.heap.size A2 k cc (u8s ((r.bs.drop o).take k)) rfl (HRD.out.below (below1 w _)) HA2.out (u8s_one _) (by unfold maxLen; omega) (by omega) ?_
  intro u w1 hlg
  obtain ⟨h1, h2⟩ := longer_own hlg (below1 w _) (by simp) (fun g hg => by cases hg; exact Nat.le_refl _)
  have h3 := hlg.1
  rw [Nat.zero_add, List.nil_append] at h3
  have H1 := hide h1
  have H2 := hide h2
  have H3 := hide h3
  clear h1 h2 h3 hlg hcw
  go_wp2
  go_ret2
  exact ⟨u, rfl, ⟨H3.out, H2.out⟩, H1.out⟩
set_option maxRecDepth 100000 in
set_option maxHeartbeats 1000000 in
theorem rwrite_some {B x : Nat} {i : Int} {v : Value} {R : List RRow} {r : RRow} {w : World} (h : RMem w B x v R) (hr : rowR R i = some r) (hl : R.length ≤ 1000000) (o q : Nat) (S : Option Addr) (sc C : Nat) (d : List Int) (hd : Rd w C 1 S q (u8s d)) (hC : C ≤ w.heap.size) (hfit : o + q ≤ r.n) :
    Calls Tryz.prog 21 #[.pointer (some ⟨x, 0, none⟩), .int .i64 i, .int .i64 o, .slice S q sc] w fun e w' => e = .returned (.int .i64 0) ∧ RMem w' B x v (R.set (i - 1).toNat { r with bs := splice r.bs o d }) ∧ Kept (fun g => ¬ OfR x v R g) w w' := by
  obtain ⟨j, rfl, hj, hv⟩ := rowR_get hr
  have hmem := h
  obtain ⟨g, c, rfl, hlt, c0, c1, c2⟩ := h.cells hj
  obtain ⟨ho, hn⟩ := h.row j r hj
  have HM := rmay_some (off := o) (size := q) h hr hl hn (by omega) (by omega) (by omega) (by omega)
  rw [show fitsB r.n o q = true by simp [fitsB]; omega] at HM
  have HM := hide HM
  have ho' : w.ownsRow 0 5 1 (.slice r.A r.n r.c) r.n (u8s r.bs) := ho
  obtain ⟨A2, cc, hcut, hg2⟩ := cut_rest (P := Tryz.prog) Tryz.underlying26 u8size ho' o (by omega)
  have HG2 := hide hg2
  have HO := hide ho'
  have HD := hide hd
  have HMEM := hide hmem
  have HJ := hide hj
  have HN := hide hn
  have cx := blk_cell h.blk 0
  simp at cx
  have hle : j + 1 ≤ R.length := hlt
  have hcw := hcut w
  have hgl : g < w.heap.size := (h.lst.lt g rfl).2
  clear h hr c0 c2 hj hv hcut hg2 ho ho' hd hmem
  go_enter Tryz.func21, Tryz.ntmps21
  go_wp2_with (first | (go_at_call 35; refine HM.out.mono ?_; rintro e w1 ⟨rfl, rfl⟩) | (with_reducible refine stop_copy ?_))
  show Hid _
  refine start_here ?_
  refine wpList_copy_owns (e := 5) (n := r.n) (xs := u8s r.bs) rfl (.tmp 29) (.tmp 30) 26 26 rfl Tryz.underlying26 u8size r.A r.c HO.out o A2 (r.n - o) cc rfl HG2.out C S q sc rfl (u8s d) HD.out (u8s_one d) (by omega) hfit ?_
  intro w4 ho4 hg4 hz4
  have HO4 := hide ho4
  have HG4 := hide hg4
  clear ho4 hg4 hz4 hcw
  go_wp2
  go_ret
  rw [show ((j : Int) + 1 - 1).toNat = j by omega]
  have e1 : u8s (splice r.bs o d) = splice (u8s r.bs) o (u8s d) := by simp [u8s, splice, List.map_take, List.map_drop]
  have hk : Kept (fun g => r.sl.ownBlock ≠ some g) w w4 := (Kept.refl _ w).grown HG4.out (fun k e _ hh => hh e)
  refine ⟨rfl, HMEM.out.turned HJ.out hk { r with bs := splice r.bs o d } rfl rfl (by show w4.ownsRow 0 5 1 (.slice r.A r.n r.c) r.n (u8s (splice r.bs o d)); rw [e1]; exact HO4.out) HN.out, hk.mono (fun g hg e => hg (.inr (.inr ⟨r, List.mem_of_getElem? HJ.out, e⟩)))⟩
set_option maxRecDepth 100000 in
set_option maxHeartbeats 1000000 in
theorem rfree_some {B x : Nat} {i : Int} {v : Value} {R : List RRow} {r : RRow} {w : World} (h : RMem w B x v R) (hr : rowR R i = some r) (hl : R.length ≤ 1000000) :
    Calls Tryz.prog 19 #[.pointer (some ⟨x, 0, none⟩), .int .i64 i] w fun e w' => e = .returned (.int .i64 0) ∧ RMem w' B x v (R.set (i - 1).toNat { r with live := false }) ∧ Kept (fun g => ¬ OfR x v R g) w w' := by
  have HL := hide (rlive_some h hr hl)
  obtain ⟨j, rfl, hj, hv⟩ := rowR_get hr
  have HMEM := hide h
  have HJ := hide hj
  obtain ⟨g, c, rfl, hlt, c0, c1, c2⟩ := h.cells hj
  have cx := blk_cell h.blk 0
  simp at cx
  have hle : j + 1 ≤ R.length := hlt
  have hgl : g < w.heap.size := (h.lst.lt g rfl).2
  have f2 : w.frozen? ⟨g, j * 3 + 2, none⟩ = false := owns_free h.lst _
  clear h hr c0 c1 hj hv
  go_enter Tryz.func19, Tryz.ntmps19
  go_wp2_with (go_at_call 37; refine HL.out.mono ?_; rintro e w1 ⟨rfl, rfl⟩)
  all_goals first
    | (exfalso; omega)
    | (go_ret
       rw [show ((j : Int) + 1 - 1).toNat = j by omega]
       exact ⟨rfl, HMEM.out.dead HJ.out, (Kept.refl _ w).setCell (fun _ hn => hn (.inr (.inl rfl))) _⟩)
end Go.Proofs.YtbllnjkagleenaaGreat
