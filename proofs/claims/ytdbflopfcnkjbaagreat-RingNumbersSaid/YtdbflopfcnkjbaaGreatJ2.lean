/-
  What all records take.
-/
import Derived.Test.YtdbflopfcnkjbaaGreatJ1
import Derived.IntWalk
namespace Go.Proofs.YtdbflopfcnkjbaaGreat
open Go.RowKit Go.Maps
set_option linter.unusedVariables false
set_option linter.unusedSimpArgs false
attribute [local go_sem] Oper.semAt_some

theorem boxed_other {w : World} {b k : Nat} {t : TypeId} {u v : Value} (h : Boxed w k t u) (hk : k ≠ b) : Boxed (w.setCell ⟨b, 0, none⟩ v) k t u := (Below.heap_setCell w ⟨b, 0, none⟩ v k (fun e => hk e)).trans h
theorem kept_stays {n : Nat} {F : Nat → Prop} {w X Y : World} (h : Kept F w X) (hn : w.heap.size ≤ n) (hst : Stays n X Y) : Kept F w Y :=
  ⟨hst.os.trans h.os, hst.tape.trans h.tape, hst.output.trans h.output, Nat.le_trans h.size hst.size, fun i hi hF => by
    have h1 := h.block i hi hF
    rw [← h1]
    have h3 : i < X.heap.size := Nat.lt_of_lt_of_le hi h.size
    have h2 : X.heap[i]? = some X.heap[i] := Array.getElem?_eq_getElem h3
    rw [h2]
    exact hst.same _ _ h2 (.inl (by omega))⟩
theorem or_same {L : Nat → Bool} {p i : Nat} (h : i ≠ p) : (L p || p == i) = L p := by
  have : (p == i) = false := by simpa using fun e => h e.symm
  simp [this]
theorem nyet {ops : Array Oper} {L : Nat → Bool} (hcl : ∀ j oj, L j = true → ops[j]? = some oj → ∀ k, hangs oj k = true → L k = true) {i j : Nat} {oj : Oper} (hi : L i = false) (hj : ops[j]? = some oj) (hh : hangs oj i = true) : L j = false := by
  cases h : L j with
  | false => rfl
  | true => rw [hcl j oj h hj i hh] at hi; cases hi
/-- The world ahead of the store and behind it. -/
def GT (X0 X1 : World) (D : Nat → Bool) (W : World) : Prop := W = if D 8 = true then X1 else X0
theorem GT.same {X0 X1 W : World} {D : Nat → Bool} {i : Nat} (h : GT X0 X1 D W) (h8 : i ≠ 8) : GT X0 X1 (fun j => D j || j == i) W := by
  unfold GT at h ⊢
  simp only [or_same h8]
  exact h
theorem GT.first {X0 X1 W : World} {D : Nat → Bool} (h : GT X0 X1 D W) (h8 : D 8 = false) : W = X0 := by
  unfold GT at h
  rw [h8] at h
  simpa using h
theorem sumR_take {L : List RK} {j : Nat} {r : RK} (h : L[j]? = some r) : sumR (L.take j ++ [r]) = sumR (L.take j) + (8 + r.bs.length) := by rw [sumR_append]; simp [sumR]
theorem sumR_take_le (L : List RK) (j : Nat) : sumR (L.take j) ≤ sumR L := by
  have := sumR_append (L.take j) (L.drop j)
  rw [List.take_append_drop] at this
  omega
set_option maxRecDepth 100000 in
set_option maxHeartbeats 4000000 in
theorem taken_any {w : World} {B b bx sz : Nat} {L : List RK} (h : Rng w B b bx sz L) :
    Calls Tryz.prog 36 #[.pointer (some ⟨b, 2, none⟩)] w fun e w' => e = .returned (.int .i64 (sumR L : Nat)) ∧ Below w.heap.size w w' := by
  obtain ⟨q0, q1⟩ := two_boxes w (.cells #[.pointer (some ⟨b, 2, none⟩)] 99) (.cells #[.int .i64 0] 3)
  have hb2 := below2 w (.cells #[.pointer (some ⟨b, 2, none⟩)] 99) (.cells #[.int .i64 0] 3)
  have hz2 : ((w.alloc (.cells #[.pointer (some ⟨b, 2, none⟩)] 99)).alloc (.cells #[.int .i64 0] 3)).heap.size = w.heap.size + 2 := by simp
  have HA := hide (all_any (some ⟨b, 2, none⟩) ((w.alloc (.cells #[.pointer (some ⟨b, 2, none⟩)] 99)).alloc (.cells #[.int .i64 0] 3)))
  refine (callsIn_wide (n := 3)).1 ?_
  refine callsIn_of_wp_marks Tryz.func36 rfl trivial ?_ rfl
  simp only [Tryz.ntmps36, List.size_toArray, List.length_cons, List.length_nil, Nat.reduceAdd, Nat.reduceSub, Array.replicate_succ, Array.replicate_zero, List.push_toArray, List.append_toArray, List.nil_append, List.cons_append]
  gi_wp2_with fail
  refine ⟨trivial, (callsIn_wide.2 HA.out).mono ?_⟩
  rintro e w' ⟨rfl, rfl⟩
  gi_wp2_with fail
  generalize hW2 : (w.alloc (.cells #[.pointer (some ⟨b, 2, none⟩)] 99)).alloc (.cells #[.int .i64 0] 3) = W2 at *
  have hb3 := below1 W2 (.cells #[.pointer (some ⟨b, 2, none⟩)] 99)
  have q3 := World.alloc_heap_new W2 (.cells #[.pointer (some ⟨b, 2, none⟩)] 99)
  have hz3 : (W2.alloc (.cells #[.pointer (some ⟨b, 2, none⟩)] 99)).heap.size = w.heap.size + 3 := by rw [World.size_alloc]; omega
  have q0' : Boxed (W2.alloc (.cells #[.pointer (some ⟨b, 2, none⟩)] 99)) w.heap.size 99 (.pointer (some ⟨b, 2, none⟩)) := boxed_below q0 hb3
  have q1' : Boxed (W2.alloc (.cells #[.pointer (some ⟨b, 2, none⟩)] 99)) (w.heap.size + 1) 3 (.int .i64 0) := boxed_below q1 hb3
  have q3' : Boxed (W2.alloc (.cells #[.pointer (some ⟨b, 2, none⟩)] 99)) (w.heap.size + 1 + 1) 99 (.pointer (some ⟨b, 2, none⟩)) := by rw [show w.heap.size + 1 + 1 = W2.heap.size by omega]; exact q3
  have hbw := hb2.trans (hb3.mono hb2.size)
  have hR := h.below hbw
  have hk3 : Kept (fun _ => True) w (W2.alloc (.cells #[.pointer (some ⟨b, 2, none⟩)] 99)) := Kept.of_below hbw
  generalize W2.alloc (.cells #[.pointer (some ⟨b, 2, none⟩)] 99) = W0 at *
  have hgo : ∀ args (W : World), (callFunc 91 args).run Tryz.prog W = .ok (.enter 91 args) W := enters_of Tryz.func91 (by kernel_rfl) rfl
  have hit := all_iter (3 - 1) (w.heap.size + 1 + 1) b L W0 q3' hR.c2 hR.lnk hR.sep
  have hbig := h.big
  have HFI : Hid (∀ k, FI (w.heap.size + 1 + 1) b L k → k < W0.heap.size ∧ k ≠ w.heap.size + 1) := hide (by
    rintro k (rfl | rfl | ⟨r, hr, rfl⟩)
    · omega
    · have := h.lt k (.inl rfl); omega
    · have := h.lt r.g (.inr (.inr ⟨r, hr, .inl rfl⟩)); omega)
  have HRK : Hid (∀ W, Kept (fun _ => True) w W → Rng W B b bx sz L) := hide (fun W hk => h.kept hk (fun _ _ => trivial))
  clear q0 q1 q3 q3' hR h hb2 hb3 hbw HA hW2
  refine range_ends (α := RK) (F := Fence.wide) (n := 3) rfl (by omega) (gf := 91) (lb := #[.pointer (some ⟨w.heap.size + 1 + 1, 0, none⟩)]) rfl trivial hgo hit (Below.refl _ _)
    (fun h k => ⟨Nat.le_trans h.1 k.1, fun j hj => (k.2 j hj).trans (h.2 j hj)⟩) (fun X l o o' hl _ h ho => ⟨by simp, fun k hk => World.putObj_heap_other (by have := (HFI.out k hk).1; omega)⟩) (fun _ => rfl)
    (fun pre W => Boxed W w.heap.size 99 (.pointer (some ⟨b, 2, none⟩)) ∧ Boxed W (w.heap.size + 1) 3 (.int .i64 (sumR pre : Nat)) ∧ Kept (fun _ => True) w W)
    (fun pre W => False)
    ?_ ?_ ⟨q0', q1', hk3⟩ ?round ?done ?stop
  · rintro s X Y ⟨h1, h2, h3⟩ hst
    exact ⟨hst.boxed h1, hst.boxed h2, kept_stays h3 (by omega) hst⟩
  · rintro s X Y h hst
    exact h.elim
  case round =>
    rintro lp pre x W hle hloop hws ⟨h1, h2, h3⟩ ⟨j, rfl, hxj⟩
    have H1 := hide h1
    have H2 := hide h2
    have H3 := hide h3
    have HXJ := hide hxj
    clear h1 h2 h3 hloop hit hgo hxj
    gi_wp2
    refine ⟨KeepsFrom.refl _ _, ⟨Nat.le_refl _, fun _ _ => rfl⟩, ⟨H1.out, H2.out, H3.out⟩, fun W2 hst => ?_⟩
    have b1 := hst.boxed H1.out
    have b2 := hst.boxed H2.out
    have hk2 := kept_stays H3.out (by omega) hst
    have hR2 := HRK.out _ hk2.drew
    have hs1 := sumR_take HXJ.out
    have hs2 := sumR_take_le L j
    have hs3 := hR2.rec_le (List.mem_of_getElem? HXJ.out)
    have HT := hide (takes_any bx x.bs.length x.c x.A W2.drew hR2.cx (by omega))
    have hE : ∀ args (W : World), (callFunc 35 args).run Tryz.prog W = .ok (.enter 35 args) W := enters_of Tryz.func35 (by kernel_rfl) rfl
    have c0 : W2.drew.cell? ⟨w.heap.size, 0, none⟩ = some (.pointer (some ⟨b, 2, none⟩)) := b1.cell
    have c1 : W2.drew.cell? ⟨w.heap.size + 1, 0, none⟩ = some (.int .i64 (sumR (L.take j) : Nat)) := b2.cell
    have f1 : W2.drew.frozen? ⟨w.heap.size + 1, 0, none⟩ = false := b2.frozen
    have c4 := hR2.c4
    have hfin : KeepsFrom W0.heap.size W2 (W2.drew.setCell ⟨w.heap.size + 1, 0, none⟩ (.int .i64 (sumR (L.take j ++ [x]) : Nat))) ∧ KeepP (FI (w.heap.size + 1 + 1) b L) W2 (W2.drew.setCell ⟨w.heap.size + 1, 0, none⟩ (.int .i64 (sumR (L.take j ++ [x]) : Nat))) ∧
        Boxed (W2.drew.setCell ⟨w.heap.size + 1, 0, none⟩ (.int .i64 (sumR (L.take j ++ [x]) : Nat))) w.heap.size 99 (.pointer (some ⟨b, 2, none⟩)) ∧ Boxed (W2.drew.setCell ⟨w.heap.size + 1, 0, none⟩ (.int .i64 (sumR (L.take j ++ [x]) : Nat))) (w.heap.size + 1) 3 (.int .i64 (sumR (L.take j ++ [x]) : Nat)) ∧ Kept (fun _ => True) w (W2.drew.setCell ⟨w.heap.size + 1, 0, none⟩ (.int .i64 (sumR (L.take j ++ [x]) : Nat))) := by
      have hoff : ∀ k, k ≠ w.heap.size + 1 → (W2.drew.setCell ⟨w.heap.size + 1, 0, none⟩ (.int .i64 (sumR (L.take j ++ [x]) : Nat))).heap[k]? = W2.heap[k]? := fun k hk => Below.heap_setCell W2.drew ⟨w.heap.size + 1, 0, none⟩ _ k hk
      have hsz : W2.heap.size ≤ (W2.drew.setCell ⟨w.heap.size + 1, 0, none⟩ (.int .i64 (sumR (L.take j ++ [x]) : Nat))).heap.size := by rw [World.size_setCell]; exact Nat.le_refl _
      refine ⟨⟨hsz, fun k o hB hk hc => (hoff k (by omega)).trans hk⟩, ⟨hsz, fun k hk => hoff k (HFI.out k hk).2⟩, (hoff _ (by omega)).trans b1, (show Boxed W2.drew (w.heap.size + 1) 3 _ from b2).set _, (Kept.setCell (p := ⟨w.heap.size + 1, 0, none⟩) hk2.drew (fun h => absurd h (by show ¬ w.heap.size + 1 < w.heap.size; omega)) _)⟩
    have HFIN := hide hfin
    rw [hs1] at HFIN
    generalize sumR (L.take j) = s at *
    unfold RK.sl
    generalize x.bs.length = n at *
    clear hfin b1 b2 hk2 hR2
    have s7 : IntKind.i64.wrap ((s : Int) + (8 + (n : Int))) = (s : Int) + (8 + (n : Int)) := IntWalk.i64_in _ (by omega)
    gi_wp2
    refine wpIn_static2 (fun _ => trivial) (by kernel_rfl) (fun i => ([.int .i64 (s : Nat), .pointer (some ⟨b, 2, none⟩), .pointer (some ⟨b, 2, none⟩), .pointer (some ⟨b, 4, none⟩), .func (.func 35) #[] #[.pointer (some ⟨bx, 0, none⟩)], .slice x.A n x.c, .int .i64 (8 + n : Nat), .int .i64 (s + (8 + n) : Nat), undef] : List Value).getD i undef) (GT W2.drew (W2.drew.setCell ⟨w.heap.size + 1, 0, none⟩ (.int .i64 (s + (8 + n) : Nat)))) (by decide +kernel) (by decide +kernel) (by decide +kernel) (by kernel_rfl) ?_ rfl ?_ ?_
    · intro i o ho hd
      have hi : i < 9 := (Array.getElem?_eq_some_iff.1 ho).1
      have hi' : i = 0 ∨ i = 1 ∨ i = 2 ∨ i = 3 ∨ i = 4 ∨ i = 5 ∨ i = 6 ∨ i = 7 ∨ i = 8 := by omega
      rcases hi' with rfl | rfl | rfl | rfl | rfl | rfl | rfl | rfl | rfl <;> first | rfl | (cases ho; cases hd)
    · intro i o ho D a W3 hDi hG hold hh hcl hdone
      have hi : i < 9 := (Array.getElem?_eq_some_iff.1 ho).1
      have hi' : i = 0 ∨ i = 1 ∨ i = 2 ∨ i = 3 ∨ i = 4 ∨ i = 5 ∨ i = 6 ∨ i = 7 ∨ i = 8 := by omega
      rcases hi' with rfl | rfl | rfl | rfl | rfl | rfl | rfl | rfl | rfl
      · cases ho
        have n8 : D 8 = false := nyet (j := 8) hcl hDi rfl (by decide)
        have hW := hG.first n8
        subst hW
        have e0 : a.eval (.tmp 3) = .pointer (some ⟨w.heap.size + 1, 0, none⟩) := hold 3 (by kernel_rfl)
        refine static2_told W2.drew ?_ (hG.same (by decide))
        generalize a.eval = ev at e0 ⊢
        simp [Oper.semAt_some, execOp, go_sem, e0, c1]
      · cases ho
        have n8 : D 8 = false := nyet (j := 8) hcl hDi rfl (by decide)
        have hW := hG.first n8
        subst hW
        have e0 : a.eval (.tmp 1) = .pointer (some ⟨w.heap.size, 0, none⟩) := hold 1 (by kernel_rfl)
        refine static2_told W2.drew ?_ (hG.same (by decide))
        generalize a.eval = ev at e0 ⊢
        simp [Oper.semAt_some, execOp, go_sem, e0, c0]
      · cases ho
        have e0 : a.eval (.tmp 9) = .pointer (some ⟨b, 2, none⟩) := hh 1 rfl
        refine static2_told W3 ?_ (hG.same (by decide))
        generalize a.eval = ev at e0 ⊢
        simp [Oper.semAt_some, execOp, go_sem, e0]
      · cases ho
        have e0 : a.eval (.tmp 10) = .pointer (some ⟨b, 2, none⟩) := hh 2 rfl
        refine static2_told W3 ?_ (hG.same (by decide))
        generalize a.eval = ev at e0 ⊢
        simp [Oper.semAt_some, execOp, go_sem, e0]
      · cases ho
        have n8 : D 8 = false := nyet (j := 8) hcl hDi rfl (by decide)
        have hW := hG.first n8
        subst hW
        have e0 : a.eval (.tmp 11) = .pointer (some ⟨b, 4, none⟩) := hh 3 rfl
        refine static2_told W2.drew ?_ (hG.same (by decide))
        generalize a.eval = ev at e0 ⊢
        simp [Oper.semAt_some, execOp, go_sem, e0, c4]
      · cases ho
        have e0 : a.eval (.tmp 4) = .slice x.A n x.c := hold 4 (by kernel_rfl)
        refine static2_told W3 ?_ (hG.same (by decide))
        generalize a.eval = ev at e0 ⊢
        simp [Oper.semAt_some, execOp, go_sem, e0]
      · cases ho
        have n8 : D 8 = false := nyet (j := 8) hcl hDi rfl (by decide)
        have hW := hG.first n8
        subst hW
        have e0 : a.eval (.tmp 12) = .func (.func 35) #[] #[.pointer (some ⟨bx, 0, none⟩)] := hh 4 rfl
        have e1 : a.eval (.tmp 13) = .slice x.A n x.c := hh 5 rfl
        refine static_call (G := GT W2.drew (W2.drew.setCell ⟨w.heap.size + 1, 0, none⟩ (.int .i64 (s + (8 + n) : Nat))) (fun j => D j || j == 6)) (f := 35) (args := #[.slice x.A n x.c, .pointer (some ⟨bx, 0, none⟩)]) ?_ (HT.out.mono ?_)
        · generalize a.eval = ev at e0 e1 ⊢
          simp [Oper.semAt_some, execOp, go_sem, e0, e1, hE]
        · rintro e w' ⟨rfl, rfl⟩
          exact ⟨rfl, hG.same (by decide)⟩
      · cases ho
        have e0 : a.eval (.tmp 8) = .int .i64 (s : Nat) := hh 0 rfl
        have e1 : a.eval (.tmp 14) = .int .i64 (8 + n : Nat) := hh 6 rfl
        refine static2_told W3 ?_ (hG.same (by decide))
        generalize a.eval = ev at e0 e1 ⊢
        simp [Oper.semAt_some, execOp, go_sem, e0, e1, s7]
      · cases ho
        have hW := hG.first hDi
        subst hW
        have e0 : a.eval (.tmp 3) = .pointer (some ⟨w.heap.size + 1, 0, none⟩) := hold 3 (by kernel_rfl)
        have e1 : a.eval (.tmp 15) = .int .i64 (s + (8 + n) : Nat) := hh 7 rfl
        refine static2_stored (W2.drew.setCell ⟨w.heap.size + 1, 0, none⟩ (.int .i64 (s + (8 + n) : Nat))) ?_ (by unfold GT; simp)
        generalize a.eval = ev at e0 e1 ⊢
        simp [Oper.semAt_some, execOp, go_sem, e0, e1, c1, f1]
    · intro a W3 hd hs hold hh hG
      obtain rfl : W3 = W2.drew.setCell ⟨w.heap.size + 1, 0, none⟩ (.int .i64 (s + (8 + n) : Nat)) := hG
      obtain ⟨f, hf, ha⟩ := act_puts [8, 9, 10, 11, 12, 13, 14, 15] (fun t ht => by
        by_cases h : t ∈ [8, 9, 10, 11, 12, 13, 14, 15]
        · exact h
        · exfalso
          simp [unwritten] at ht
          simp only [List.mem_cons, not_or] at h
          obtain ⟨h0, h1, h2, h3, h4, h5, h6, h7, _⟩ := h
          exact absurd (ht (fun e => h0 e.symm) (fun e => h1 e.symm) (fun e => h2 e.symm) (fun e => h3 e.symm) (fun e => h4 e.symm) (fun e => h5 e.symm) (fun e => h6 e.symm)) (fun e => h7 e.symm)) (fun t ht => by
        have hsz : t < 17 := by
          simp only [List.mem_cons, List.mem_nil_iff, or_false] at ht
          omega
        exact hsz) hd hs hold
      subst ha
      show _ ∧ _ ∧ _ ∧ Boxed _ _ _ (Value.int IntKind.i64 ((sumR (L.take j ++ [x]) : Nat) : Int)) ∧ _
      rw [hs1]
      exact HFIN.out
  case done =>
    rintro D xs W hD hxs ⟨h1, h2, h3⟩ hdef
    rw [hxs] at h2
    have c1 := h2.cell
    have hst := Stays.putObj (B := W0.heap.size) (.deferred none) hD hdef rfl
    have HB := hide ((kept_stays h3 (by omega) hst).to_below (B := w.heap.size) (fun _ _ => trivial) (Nat.le_refl _))
    have HD := hide hdef
    clear hit hgo h1 h2 h3 hst hdef
    gi_wp2
    refine ⟨by simp, .inl ⟨_, _, rfl, run_takeDeferred HD.out, ?_⟩⟩
    exact ⟨_, results_tmp rfl _ _ _, rfl, HB.out⟩
  case stop =>
    rintro D pre W hD h
    exact h.elim
end Go.Proofs.YtdbflopfcnkjbaaGreat
