/-
  A free place is taken; one is left; the place at which a key's value is to stand.
-/
import Derived.Test.YtolodcdhpnapmaaGreatHR5
namespace Go.Proofs.YtolodcdhpnapmaaGreat
open Go.RowKit Go.Maps
set_option linter.unusedVariables false
attribute [local go_sem] Oper.semAt_some

theorem keepA_below {K : Nat} {X Y : World} (h : Below X.heap.size X Y) (hK : K ≤ X.heap.size) : KeepA K X Y := ⟨h.size, fun k hk => h.block k (by omega)⟩
/-- A free place was taken. -/
def TakeTold (b cb sz : Nat) (L : List HS) (j : Nat) (w : World) (w' : World) : Prop := w'.heap[cb]? = some (.cells ((cellsH sz L).set (j * 2 + 1) (.bool true)).toArray 84 (0, 0)) ∧ Kept (fun g => g ≠ cb) w w'
theorem kept_stays {n : Nat} {F : Nat → Prop} {w X Y : World} (h : Kept F w X) (hn : w.heap.size ≤ n) (hst : Stays n X Y) : Kept F w Y :=
  ⟨hst.os.trans h.os, hst.tape.trans h.tape, hst.output.trans h.output, Nat.le_trans h.size hst.size, fun i hi hF => by
    have h1 := h.block i hi hF
    rw [← h1]
    have h3 : i < X.heap.size := Nat.lt_of_lt_of_le hi h.size
    have h2 : X.heap[i]? = some X.heap[i] := Array.getElem?_eq_getElem h3
    rw [h2]
    exact hst.same _ _ h2 (.inl (by omega))⟩
set_option maxRecDepth 100000 in
set_option maxHeartbeats 1000000 in
theorem take_yes (B b cb mb ks sz j : Nat) (L : List HS) (w : World) (h : Hsh w B b cb mb ks sz L) (hf : freeK L = some j) :
    Calls Tryz.prog 98 #[.pointer (some ⟨b, 3, none⟩)] w fun e w' => e = .returned (.int .i64 j) ∧ TakeTold b cb sz L j w w' := by
  have hlen := h.many.2
  refine (callsIn_wide (n := 3)).1 ?_
  refine callsIn_of_wp_marks Tryz.func98 rfl trivial ?_ rfl
  simp only [Tryz.ntmps98, List.size_toArray, List.length_cons, List.length_nil, Nat.reduceAdd, Nat.reduceSub, Array.replicate_succ, Array.replicate_zero, List.push_toArray, List.append_toArray, List.nil_append, List.cons_append]
  gi_wp2_with fail
  refine ⟨trivial, (callsIn_wide.2 (free_any _ _)).mono ?_⟩
  rintro e w' ⟨rfl, rfl⟩
  gi_wp2_with fail
  obtain ⟨q0, q1, q2⟩ := three_boxes w (.cells #[.pointer (some ⟨b, 3, none⟩)] 133) (.cells #[.int .i64 0] 3) (.cells #[.pointer (some ⟨b, 3, none⟩)] 133)
  have hb3 := below3 w (.cells #[.pointer (some ⟨b, 3, none⟩)] 133) (.cells #[.int .i64 0] 3) (.cells #[.pointer (some ⟨b, 3, none⟩)] 133)
  have hs3 : (((w.alloc (.cells #[.pointer (some ⟨b, 3, none⟩)] 133)).alloc (.cells #[.int .i64 0] 3)).alloc (.cells #[.pointer (some ⟨b, 3, none⟩)] 133)).heap.size = w.heap.size + 3 := by simp
  generalize hW0 : (((w.alloc (.cells #[.pointer (some ⟨b, 3, none⟩)] 133)).alloc (.cells #[.int .i64 0] 3)).alloc (.cells #[.pointer (some ⟨b, 3, none⟩)] 133)) = W0 at *
  clear hW0
  have h0 := h.below hb3
  have hbl := h.lt b (.inl rfl)
  have hcl := h.lt cb (.inr (.inl rfl))
  have HH := hide h0
  have HF := hide hf
  clear h hf
  refine range_ends (α := Nat) (F := Fence.wide) (n := 3) rfl (by omega) (gf := 153) (lb := #[.pointer (some ⟨w.heap.size + 2, 0, none⟩)]) rfl trivial (enters_of Tryz.func153 (by kernel_rfl) rfl)
    (free_iter (3 - 1) (w.heap.size + 2) b cb sz L W0 q2 h0.c4 h0.cel hlen) (Below.refl _ _)
    (fun h k => ⟨Nat.le_trans h.1 k.1, fun j hj => (k.2 j hj).trans (h.2 j hj)⟩) (fun X l o o' hl _ h ho => ⟨by simp, fun k hk => World.putObj_heap_other (by omega)⟩) (fun _ => rfl)
    (fun pre W => pre = [] ∧ Boxed W w.heap.size 133 (.pointer (some ⟨b, 3, none⟩)) ∧ Boxed W (w.heap.size + 1) 3 (.int .i64 0) ∧ Hsh W B b cb mb ks sz L ∧ Kept (fun _ => True) w W)
    (fun pre W => Boxed W (w.heap.size + 1) 3 (.int .i64 j) ∧ TakeTold b cb sz L j w W)
    ?_ ?_ ⟨rfl, q0, q1, h0, (Kept.of_below hb3 : Kept (fun _ => True) w W0)⟩ ?round ?done ?stop
  · rintro s X Y ⟨h1, h2, h3, h4, h5⟩ hst
    refine ⟨h1, hst.boxed h2, hst.boxed h3, h4.kept (F := fun g => g < W0.heap.size) ⟨hst.os, hst.tape, hst.output, hst.size, fun i hi hF => ?_⟩ (fun g hg => h0.lt g hg), kept_stays h5 (by omega) hst⟩
    have h6 : X.heap[i]? = some X.heap[i] := Array.getElem?_eq_getElem hi
    rw [h6]
    exact hst.same _ _ h6 (.inl hF)
  · rintro s X Y ⟨h1, h2, h3⟩ hst
    refine ⟨hst.boxed h1, ?_, kept_stays h3 (by omega) hst⟩
    exact hst.same _ _ h2 (.inl (by omega))
  case round =>
    rintro lp pre x W hle hloop hws ⟨rfl, h2, h3, h4, h5⟩ ⟨r, hr, hk, hp⟩
    have hxj : x = j := by
      have := freeK_first hp.symm hr hk
      rw [HF.out] at this
      cases this; rfl
    subst hxj
    have hxl := (List.getElem?_eq_some_iff.1 hr).1
    have H2 := hide h2
    have H3 := hide h3
    have H4 := hide h4
    have H5 := hide h5
    have HR := hide hr
    have HL := hide hloop
    clear h2 h3 h4 h5 hr hloop hp
    gi_wp2
    refine ⟨KeepsFrom.refl _ _, ⟨Nat.le_refl _, fun _ _ => rfl⟩, ⟨trivial, H2.out, H3.out, H4.out, H5.out⟩, fun W2 hst => ?_⟩
    have b2 := hst.boxed H2.out
    have b3 := hst.boxed H3.out
    have h4 : Hsh W2 B b cb mb ks sz L := H4.out.kept (F := fun g => g < W0.heap.size) ⟨hst.os, hst.tape, hst.output, hst.size, fun i hi hF => by
      have h6 : W.heap[i]? = some W.heap[i] := Array.getElem?_eq_getElem hi
      rw [h6]
      exact hst.same _ _ h6 (.inl hF)⟩ (fun g hg => HH.out.lt g hg)
    have HK2 := hide (kept_stays H5.out (by omega) hst)
    have HH2 := hide h4
    have HB3 := hide b3
    have c0 := b2.cell
    have c1 := b3.cell
    have f1 := b3.frozen
    have c4 := h4.c4
    have ct := h4.taken HR.out
    have ft := Joins.unfrozen_of_block h4.cel (x * 2 + 1)
    have q0' : (0 : Int) ≤ (x : Int) := by omega
    have q1' : (x : Int) < (L.length : Int) := by omega
    clear h4 b2 b3
    gi_wp2
    refine ⟨((KeepsOthers.setCell _ _ _).trans (KeepsOthers.setCell _ _ _)).from _, (show Boxed (W2.setCell ⟨cb, x * 2 + 1, none⟩ (.bool true)) (w.heap.size + 1) 3 (.int .i64 0) from (Below.heap_setCell _ ⟨cb, x * 2 + 1, none⟩ _ (w.heap.size + 1) (fun e => by have : w.heap.size + 1 = cb := e; omega)).trans HB3.out).set _, ?_, ?_⟩
    · refine (Below.heap_setCell _ ⟨w.heap.size + 1, 0, none⟩ _ cb (fun e => by have : cb = w.heap.size + 1 := e; omega)).trans ?_
      rw [← List.setIfInBounds_toArray]
      exact Joins.block_setCell (i := x * 2 + 1) HH2.out.cel (.bool true)
    · refine ((HK2.out.mono (F' := fun g => g ≠ cb) (fun _ _ => trivial)).setCell (p := ⟨cb, x * 2 + 1, none⟩) (fun _ h => h rfl) _).setCell (p := ⟨w.heap.size + 1, 0, none⟩) (fun h => ?_) _
      have : w.heap.size + 1 < w.heap.size := h
      omega
  case done =>
    rintro D xs W hD hS ⟨rfl, h2, h3, h4, h5⟩ hdef
    have := freeK_not hS.symm
    rw [HF.out] at this
    cases this
  case stop =>
    rintro D pre W hD ⟨h1, h2⟩ hdef
    have c1 := h1.cell
    gi_wp2
    have hst := Stays.putObj (B := W0.heap.size) (.deferred none) hD hdef rfl
    have c2 := (hst.boxed h1).cell
    refine ⟨by simp, .inl ⟨_, _, rfl, run_takeDeferred hdef, ?_⟩⟩
    have hT : TakeTold b cb sz L j w (W.putObj D (.deferred none)) := ⟨(hst.same _ _ h2.1 (.inl (by omega))), kept_stays h2.2 (by omega) hst⟩
    exact ⟨_, by simp [results, Tryz.results98, go_sem, c2], rfl, hT⟩
set_option maxRecDepth 100000 in
set_option maxHeartbeats 1000000 in
theorem take_no (B b cb mb ks sz : Nat) (L : List HS) (w : World) (h : Hsh w B b cb mb ks sz L) (hf : freeK L = none) :
    Calls Tryz.prog 98 #[.pointer (some ⟨b, 3, none⟩)] w fun e w' => e = .panicked (panicOf 8) ∧ Below w.heap.size w w' := by
  have hlen := h.many.2
  refine (callsIn_wide (n := 3)).1 ?_
  refine callsIn_of_wp_marks Tryz.func98 rfl trivial ?_ rfl
  simp only [Tryz.ntmps98, List.size_toArray, List.length_cons, List.length_nil, Nat.reduceAdd, Nat.reduceSub, Array.replicate_succ, Array.replicate_zero, List.push_toArray, List.append_toArray, List.nil_append, List.cons_append]
  gi_wp2_with fail
  refine ⟨trivial, (callsIn_wide.2 (free_any _ _)).mono ?_⟩
  rintro e w' ⟨rfl, rfl⟩
  gi_wp2_with fail
  obtain ⟨q0, q1, q2⟩ := three_boxes w (.cells #[.pointer (some ⟨b, 3, none⟩)] 133) (.cells #[.int .i64 0] 3) (.cells #[.pointer (some ⟨b, 3, none⟩)] 133)
  have hb3 := below3 w (.cells #[.pointer (some ⟨b, 3, none⟩)] 133) (.cells #[.int .i64 0] 3) (.cells #[.pointer (some ⟨b, 3, none⟩)] 133)
  have hs3 : (((w.alloc (.cells #[.pointer (some ⟨b, 3, none⟩)] 133)).alloc (.cells #[.int .i64 0] 3)).alloc (.cells #[.pointer (some ⟨b, 3, none⟩)] 133)).heap.size = w.heap.size + 3 := by simp
  generalize hW0 : (((w.alloc (.cells #[.pointer (some ⟨b, 3, none⟩)] 133)).alloc (.cells #[.int .i64 0] 3)).alloc (.cells #[.pointer (some ⟨b, 3, none⟩)] 133)) = W0 at *
  clear hW0
  have h0 := h.below hb3
  have hbl := h.lt b (.inl rfl)
  have hcl := h.lt cb (.inr (.inl rfl))
  have HH := hide h0
  have HF := hide hf
  clear h hf
  refine range_ends (α := Nat) (F := Fence.wide) (n := 3) rfl (by omega) (gf := 153) (lb := #[.pointer (some ⟨w.heap.size + 2, 0, none⟩)]) rfl trivial (enters_of Tryz.func153 (by kernel_rfl) rfl)
    (free_iter (3 - 1) (w.heap.size + 2) b cb sz L W0 q2 h0.c4 h0.cel hlen) (Below.refl _ _)
    (fun h k => ⟨Nat.le_trans h.1 k.1, fun j hj => (k.2 j hj).trans (h.2 j hj)⟩) (fun X l o o' hl _ h ho => ⟨by simp, fun k hk => World.putObj_heap_other (by omega)⟩) (fun _ => rfl)
    (fun pre W => pre = [] ∧ Boxed W w.heap.size 133 (.pointer (some ⟨b, 3, none⟩)) ∧ Boxed W (w.heap.size + 1) 3 (.int .i64 0) ∧ Hsh W B b cb mb ks sz L ∧ Kept (fun _ => True) w W)
    (fun _ _ => False)
    ?_ (fun _ _ _ h _ => h) ⟨rfl, q0, q1, h0, (Kept.of_below hb3 : Kept (fun _ => True) w W0)⟩ ?round ?done ?stop
  · rintro s X Y ⟨h1, h2, h3, h4, h5⟩ hst
    refine ⟨h1, hst.boxed h2, hst.boxed h3, h4.kept (F := fun g => g < W0.heap.size) ⟨hst.os, hst.tape, hst.output, hst.size, fun i hi hF => ?_⟩ (fun g hg => h0.lt g hg), kept_stays h5 (by omega) hst⟩
    have h6 : X.heap[i]? = some X.heap[i] := Array.getElem?_eq_getElem hi
    rw [h6]
    exact hst.same _ _ h6 (.inl hF)
  case round =>
    rintro lp pre x W hle hloop hws ⟨rfl, h2, h3, h4, h5⟩ ⟨r, hr, hk, hp⟩
    have := freeK_first hp.symm hr hk
    rw [HF.out] at this
    cases this
  case done =>
    rintro D xs W hD hS ⟨rfl, h2, h3, h4, h5⟩ hdef
    gi_wp2
    have hst := Stays.putObj (B := W0.heap.size) (.deferred none) hD hdef rfl
    refine ⟨by simp, .inl ⟨_, _, rfl, run_takeDeferred hdef, ?_⟩⟩
    exact ⟨rfl, (kept_stays h5 (by omega) hst).to_below (fun _ _ => trivial) (Nat.le_refl _)⟩
  case stop =>
    rintro D pre W hD h hdef
    exact h.elim
/-- A place is left free, with its bytes as they stand. -/
def LeaveTold (cb sz : Nat) (L : List HS) (j : Nat) (w : World) (w' : World) : Prop := w'.heap[cb]? = some (.cells ((cellsH sz L).set (j * 2 + 1) (.bool false)).toArray 84 (0, 0)) ∧ Kept (fun g => g ≠ cb) w w'
set_option maxRecDepth 100000 in
theorem leave_any (B b cb mb ks sz j : Nat) (L : List HS) (w : World) (h : Hsh w B b cb mb ks sz L) (hj : j < L.length) :
    Calls Tryz.prog 61 #[.pointer (some ⟨b, 3, none⟩), .int .i64 j] w fun e w' => e = .returned (.tuple #[]) ∧ LeaveTold cb sz L j w w' := by
  have HA := hide (at_yes b L.length cb j w h.c4 hj)
  have ct := h.taken (List.getElem?_eq_getElem hj)
  have ft := Joins.unfrozen_of_block h.cel (j * 2 + 1)
  have HC := hide h.cel
  have hcl := at_lt h.cel
  clear h
  go_enter Tryz.func61, Tryz.ntmps61
  go_wp2_with (go_at_call 46; refine HA.out.mono ?_; rintro e w' ⟨rfl, rfl⟩)
  go_end0
  refine ⟨rfl, ?_, ((Kept.refl _ w : Kept (fun g => g ≠ cb) w w)).setCell (p := ⟨cb, j * 2 + 1, none⟩) (fun _ h => h rfl) _⟩
  rw [← List.setIfInBounds_toArray]
  exact Joins.block_setCell (i := j * 2 + 1) HC.out (.bool false)
end Go.Proofs.YtolodcdhpnapmaaGreat
