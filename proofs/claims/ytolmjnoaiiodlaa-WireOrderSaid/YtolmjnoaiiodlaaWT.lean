/-
  Trees that are made: Of, Text, rows copied.
-/
import Derived.Test.YtolmjnoaiiodlaaWQ
import Derived.Test.YtolmjnoaiiodlaaSB
import Derived.Lib.AppendStr
namespace Go.Proofs.Ytolmjnoaiiodlaa
open Go.RowKit Go.Maps Forest
set_option linter.unusedVariables false

set_option maxRecDepth 100000 in
theorem of_any (n : Int) (w : World) : Calls Try.prog 17 #[.int .i64 n] w fun e w' => e = .returned (.agg #[.int .u8 1, .int .i64 n, .slice none 0 0, .slice none 0 0]) ∧ Below w.heap.size w w' := by
  go_enter Try.func17, Try.ntmps17
  go_wp2_with fail
  refine bodyPost_ret (results_cell_row rfl _ _ w.heap.size 26 _ _ _ rfl (World.alloc_heap_new _ _) Try.underlying26 rfl (by kernel_rfl)) rfl ?_
  exact ⟨rfl, below1 _ _⟩
theorem owns_nil (w : World) (e : TypeId) (sz : Nat) : w.ownsRow 0 e sz (.slice none 0 0) 0 [] := ⟨by simp, .inl ⟨rfl, rfl⟩⟩
theorem longer_new {w w' : World} {e : TypeId} {sz n : Nat} {v' : Value} {xs : List Value} (h : Longer w w' e sz (.slice none 0 0) v' n xs) : w'.ownsRow 0 e sz v' n xs ∧ (∀ g, v'.ownBlock = some g → w.heap.size ≤ g) ∧ Below w.heap.size w w' := by
  obtain ⟨h1, h2, h3⟩ := h
  refine ⟨h1, fun g hg => ?_, ⟨h2.os, h2.tape, h2.output, h2.size, fun k hk => h2.block k hk (fun e => by cases e)⟩⟩
  rcases h3 with e | e
  · rw [e] at hg; cases hg
  · rw [e] at hg; injection hg with hg; omega
theorem treeInfo : (Try.prog.info? 26).map (fun i => (i.zero, i.size, i.bytes)) = some (some (.agg #[.int .u8 0, .int .i64 0, .slice none 0 0, .slice none 0 0]), 4, 64) := by kernel_rfl
set_option maxRecDepth 100000 in
theorem newBytes_any (A : Option Addr) (n c B : Nat) (l : List Int) (w : World) (h : Rd w B 1 A n (u8s l)) (hA : A = none → n = 0) (hB : B ≤ w.heap.size) (hn : n ≤ 1000000000) :
    Calls Try.prog 32 #[.slice A n c] w fun e w' => ∃ v, e = .returned v ∧ w'.ownsRow 0 5 1 v n (u8s l) ∧ (∀ g, v.ownBlock = some g → w.heap.size ≤ g) ∧ Below w.heap.size w w' := by
  obtain ⟨i0, hi, hz0, hz1, hz2⟩ := info_parts u8info
  have HA := hide hA
  have HH := hide h
  clear hA h
  go_enter Try.func32, Try.ntmps32
  go_wp2_with (at_builtin; refine stop_here ?_)
  show Hid _
  refine start_here ?_
  refine wpList_append_rd _ rfl _ _ _ rfl 5 i0 _ 1 1 Try.underlying23 hi hz0 hz1 hz2 rfl (by decide) _ 0 [] rfl (owns_nil _ _ _) B A n c (u8s l) rfl HH.out HA.out (u8s_one l) (by unfold maxLen; omega) (by omega) ?_
  intro v w1 hl
  obtain ⟨h1, h2, h3⟩ := longer_new hl
  rw [Nat.zero_add, List.nil_append] at h1
  have H1 := hide h1
  have H2 := hide h2
  have H3 := hide h3
  clear h1 h2 h3 hl
  go_wp2
  go_ret
  exact ⟨v, rfl, H1.out, H2.out, H3.out⟩
set_option maxRecDepth 100000 in
theorem newTrees_any (A : Option Addr) (n c B : Nat) (xs : List Value) (w : World) (h : Rd w B 4 A n xs) (hA : A = none → n = 0) (h1 : ∀ u ∈ xs, u.oneCell' = true) (hB : B ≤ w.heap.size) (hn : n ≤ 1000000000) :
    Calls Try.prog 40 #[.slice A n c] w fun e w' => ∃ v, e = .returned v ∧ w'.ownsRow 0 26 4 v n xs ∧ (∀ g, v.ownBlock = some g → w.heap.size ≤ g) ∧ Below w.heap.size w w' := by
  obtain ⟨i0, hi, hz0, hz1, hz2⟩ := info_parts treeInfo
  have HA := hide hA
  have HH := hide h
  have HO := hide h1
  clear hA h h1
  go_enter Try.func40, Try.ntmps40
  go_wp2_with (at_builtin; refine stop_here ?_)
  show Hid _
  refine start_here ?_
  refine wpList_append_rd _ rfl _ _ _ rfl 26 i0 _ 4 64 Try.underlying24 hi hz0 hz1 hz2 rfl (by decide) _ 0 [] rfl (owns_nil _ _ _) B A n c xs rfl HH.out HA.out HO.out (by unfold maxLen; omega) (by omega) ?_
  intro v w1 hl
  obtain ⟨h1, h2, h3⟩ := longer_new hl
  rw [Nat.zero_add, List.nil_append] at h1
  have H1 := hide h1
  have H2 := hide h2
  have H3 := hide h3
  clear h1 h2 h3 hl
  go_wp2
  go_ret
  exact ⟨v, rfl, H1.out, H2.out, H3.out⟩
set_option maxRecDepth 100000 in
theorem text_any (s : ByteArray) (l : List Int) (hs : Lib.strCells s = u8s l) (hn : s.size = l.length) (h63 : l.length ≤ 1000000) (w : World) : Calls Try.prog 18 #[.string s] w fun e w' => ∃ A c, e = .returned (.agg #[.int .u8 2, .int .i64 0, .slice A l.length c, .slice none 0 0]) ∧ Rd w' w'.heap.size 1 A l.length (u8s l) ∧ (A = none → l.length = 0) ∧ Below w.heap.size w w' := by
  obtain ⟨i0, hi, hz0, hz1, hz2⟩ := info_parts u8info
  have HS := hide hs
  clear hs
  obtain ⟨w0, hw0⟩ : ∃ w0, w0 = w.alloc (.cells #[.int .u8 0, .int .i64 0, .slice none 0 0, .slice none 0 0] 26) := ⟨_, rfl⟩
  have hb0 : Below w.heap.size w w0 := by rw [hw0]; exact below1 _ _
  have hx0 : w0.heap[w.heap.size]? = some (.cells #[.int .u8 0, .int .i64 0, .slice none 0 0, .slice none 0 0] 26 (0, 0)) := by rw [hw0]; exact World.alloc_heap_new _ _
  have HB0 := hide hb0
  have HX0 := hide hx0
  have HW := hide hw0
  clear hb0 hx0 hw0
  go_enter Try.func18, Try.ntmps18
  go_wp2_with (at_builtin; refine stop_here ?_)
  show Hid _
  refine start_here ?_
  rw [show w.alloc (.cells #[.int .u8 0, .int .i64 0, .slice none 0 0, .slice none 0 0] 26) = w0 from HW.out.symm]
  refine Lib.wpList_append_own_string w0 rfl _ _ 23 9 rfl 0 5 i0 Try.underlying23 Try.underlying9 hi hz0 hz1 hz2 _ 0 [] rfl (owns_nil _ _ _) s rfl (by unfold maxLen; omega) (by omega) (Nat.zero_le _) ?_
  intro v w1 ho hg _
  rw [List.nil_append, HS.out, Nat.zero_add, hn] at ho
  have hx1 : w1.heap[w.heap.size]? = some (.cells #[.int .u8 0, .int .i64 0, .slice none 0 0, .slice none 0 0] 26 (0, 0)) := (hg.block _ (at_lt HX0.out) (fun e => by cases e)).trans HX0.out
  have hb1 : Below w.heap.size w w1 := HB0.out.grown hg HB0.out.size (fun k e => by cases e)
  obtain ⟨A, c, hv, hr⟩ := owns_slice ho
  subst hv
  have hA : A = none → l.length = 0 := fun e => by
    rcases Nat.eq_zero_or_pos l.length with h0 | h0
    · exact h0
    · obtain ⟨ad, e2, _⟩ := hr.2 h0
      rw [e] at e2; cases e2
  have hne : (Value.slice A l.length c).ownBlock ≠ some w.heap.size := own_box ho hx1
  have HX1 := hide hx1
  have HB1 := hide hb1
  have HO := hide ho
  have HA := hide hA
  have HNE := hide hne
  have f0 := blk_free hx1
  have c0 := (blk_cell hx1 0).trans rfl
  have c1 := (blk_cell hx1 1).trans rfl
  have c2 := (blk_cell hx1 2).trans rfl
  have c3 := (blk_cell hx1 3).trans rfl
  clear ho hg hx1 hb1 hr hA hne
  go_wp2_with fail
  clear c0 c1 c2 c3 f0
  obtain ⟨hst, hgr⟩ := store_4 HX1.out (.int .u8 2) (.int .i64 0) (.slice A l.length c) (.slice none 0 0)
  refine bodyPost_ret (results_cell_row rfl _ _ w.heap.size 26 _ _ _ rfl hst Try.underlying26 rfl (by kernel_rfl)) rfl ?_
  refine ⟨A, c, rfl, ?_, HA.out, HB1.out.grown hgr HB1.out.size (fun k e => by cases e; exact Nat.le_refl _)⟩
  obtain ⟨A', c', e, hr⟩ := owns_slice (HO.out.kept hgr (.inr HNE.out))
  cases e
  exact hr
end Go.Proofs.Ytolmjnoaiiodlaa
