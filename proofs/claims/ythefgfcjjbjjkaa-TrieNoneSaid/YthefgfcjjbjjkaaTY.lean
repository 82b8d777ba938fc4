/-
  The document's New.
-/
import Derived.Test.YthefgfcjjbjjkaaTX
import Derived.Test.YthefgfcjjbjjkaaKI5
import Derived.Deep.RegionLaw
namespace Go.Proofs.Ythefgfcjjbjjkaa
open Go.RowKit Go.Maps Go.Sort
set_option linter.unusedVariables false

theorem rnew_no (k key val ent : Int) (w : World) (hk : 0 ≤ k ∧ k < 256) (he : newE k key val ent ≠ 0) :
    Calls Try.prog 10 #[.agg #[.int .u8 k, .int .i64 key, .int .i64 val, .int .i64 ent]] w fun e w' => e = .returned (.tuple #[.pointer none, .int .i64 (newE k key val ent)]) ∧ Below w.heap.size w w' := by
  have hx := World.alloc_heap_new w (.cells #[.int .u8 k, .int .i64 key, .int .i64 val, .int .i64 ent] 24)
  have hb0 := below1 w (.cells #[.int .u8 k, .int .i64 key, .int .i64 val, .int .i64 ent] 24)
  have HS := hide (rspec_any k key val ent (w.alloc (.cells #[.int .u8 k, .int .i64 key, .int .i64 val, .int .i64 ent] 24)) hk)
  have HX := hide hx
  have HB0 := hide hb0
  have HE : Hid (newE k key val ent = if specM k key val ent = 0 then (if k = 4 then 0 else 9) else specM k key val ent) := hide rfl
  generalize newE k key val ent = ne at *
  generalize specM k key val ent = sm at *
  by_cases hs : sm = 0
  · subst hs
    have hk1 : k ≠ 4 := fun h => he (by rw [HE.out, if_pos rfl, if_pos h])
    obtain rfl : ne = 9 := by rw [HE.out, if_pos rfl, if_neg hk1]
    have hkb : (k != 4) = true := by simpa using hk1
    clear he HE hk1 hx hb0
    go_enter Try.func10, Try.ntmps10
    go_wp2_with (go_at_call 35; refine HS.out.mono ?_; rintro e w1 ⟨rfl, hb⟩; have HB := hide hb; have d0 := (blk_cell ((hb.block _ (at_lt HX.out)).trans HX.out) 0).trans rfl; clear hb)
    go_ret2
    exact ⟨rfl, HB0.out.trans (HB.out.mono HB0.out.size)⟩
  · obtain rfl : ne = sm := by rw [HE.out, if_neg hs]
    have hkb : (ne != 0) = true := by simpa using hs
    clear he HE hs hx hb0
    go_enter Try.func10, Try.ntmps10
    go_wp2_with (go_at_call 35; refine HS.out.mono ?_; rintro e w1 ⟨rfl, hb⟩; have HB := hide hb; clear hb)
    go_ret2
    exact ⟨rfl, HB0.out.trans (HB.out.mono HB0.out.size)⟩
structure HS where
  A : Option Addr
  c : Nat
  bs : List Int
  key : Option (List UInt8)
def HS.sl (sz : Nat) (r : HS) : Value := .slice r.A sz r.c
def zHS (sz g : Nat) : HS := ⟨some ⟨g, 0, none⟩, sz, List.replicate sz 0, none⟩
theorem owns_new {W : World} {g sz : Nat} (h : W.heap[g]? = some (.cells (u8s (List.replicate sz 0)).toArray 5 (0, 0))) (hs : sz ≤ 1024) : W.ownsRow 0 5 1 (.slice (some ⟨g, 0, none⟩) sz sz) sz (u8s (List.replicate sz 0)) :=
  ⟨by simp [u8s], .inr ⟨g, sz, (u8s (List.replicate sz 0)).toArray, rfl, Nat.zero_le _, h, Nat.le_refl _, by unfold maxLen; omega, by simp [u8s], by simp [u8s]⟩⟩

theorem owned_cells {w : World} {e : TypeId} {sz n : Nat} {v : Value} {xs : List Value} {g : Nat} (h : w.ownsRow 0 e sz v n xs) (hg : v.ownBlock = some g) : ∃ cur, w.heap[g]? = some (.cells cur e (0, 0)) := by
  rcases h.2 with ⟨h0, _⟩ | ⟨g', cap, cur, h0, _, h2, _⟩
  · rw [h0] at hg; cases hg
  · rw [h0] at hg
    simp only [Value.ownBlock, Option.some.injEq] at hg
    subst hg
    exact ⟨cur, h2⟩
theorem below_then {F : Nat → Prop} {w w1 w2 : World} (hb : Below w.heap.size w w1) (hk : Kept F w1 w2) : Kept F w w2 := keptTrans ((Kept.of_below hb).mono (fun _ _ => trivial)) hk
/-- A document's trie while it is made: of its n places the first stand. -/
structure RNew (w wr : World) (Bp x ks sz n : Nat) (v : Value) (M : List HS) : Prop where
  box : wr.heap[Bp]? = some (.cells #[.int .u8 4, .int .i64 ks, .int .i64 sz, .int .i64 n] 24 (0, 0))
  blk : wr.heap[x]? = some (.cells #[.int .u8 4, .int .i64 ks, .int .i64 sz, .int .i64 n, .slice none 0 0, v] 72 (0, 0))
  row : wr.ownsRow 0 35 1 v M.length (M.map (HS.sl sz))
  each : ∀ (i : Nat) (r : HS), M[i]? = some r → wr.ownsRow 0 5 1 (.slice r.A sz r.c) sz (u8s r.bs)
  vlow : ∀ g, v.ownBlock = some g → x < g
  elow : ∀ r ∈ M, ∀ g, (r.sl sz).ownBlock = some g → x < g
  sep : ∀ (i j : Nat) (r s : HS), M[i]? = some r → M[j]? = some s → i ≠ j → ∀ g, (r.sl sz).ownBlock = some g → (s.sl sz).ownBlock ≠ some g
  zero : ∀ r ∈ M, r.key = none ∧ r.bs = List.replicate sz 0
  low : w.heap.size ≤ Bp ∧ Bp < x
  below : Below w.heap.size w wr
theorem rowInfo : (Try.prog.info? 35).map (fun i => (i.zero, i.size, i.bytes)) = some (some (.slice none 0 0), 1, 24) := by kernel_rfl
theorem row_parts : ∃ i, Try.prog.info? 35 = some i ∧ i.zero = some (.slice none 0 0) ∧ i.size = 1 ∧ i.bytes = 24 := by
  have h := rowInfo
  cases hi : Try.prog.info? 35 with
  | none => rw [hi] at h; cases h
  | some i =>
    rw [hi] at h
    simp only [Option.map_some, Option.some.injEq, Prod.mk.injEq] at h
    exact ⟨i, rfl, h.1, h.2.1, h.2.2⟩
theorem at_snoc {M : List HS} {z r : HS} {i : Nat} (h : (M ++ [z])[i]? = some r) : M[i]? = some r ∨ (i = M.length ∧ r = z) := by
  rw [List.getElem?_append] at h
  split at h
  · exact .inl h
  · rename_i hn
    have : i - M.length = 0 := by
      have := (List.getElem?_eq_some_iff.1 h).1
      simp at this
      omega
    rw [this] at h
    exact .inr ⟨by omega, by simpa using h.symm⟩
theorem RNew.more {w wr W2 w3 : World} {Bp x ks sz n : Nat} {v v' : Value} {M : List HS} (h : RNew w wr Bp x ks sz n v M) (hs : sz ≤ 1024) (hb : RowKit.Below wr.heap.size wr W2) (hz : W2.heap[wr.heap.size]? = some (Obj.cells (u8s (List.replicate sz 0)).toArray 5 (0, 0)))
    (hl : Longer W2 w3 35 1 v v' (M.length + 1) ((M ++ [zHS sz wr.heap.size]).map (HS.sl sz))) :
    RNew w (w3.setCell ⟨x, 5, none⟩ v') Bp x ks sz n v' (M ++ [zHS sz wr.heap.size]) := by
  have hx := at_lt h.blk
  have hB := at_lt h.box
  have hlow := h.low
  have hzl := at_lt hz
  have hvz : ∀ g, v.ownBlock = some g → g < wr.heap.size := fun g hg => (h.row.lt g hg).2
  have hv' : ∀ g, v'.ownBlock = some g → x < g := fun g hg => by
    rcases hl.2.2 with e | e
    · exact h.vlow g (by rw [← e]; exact hg)
    · rw [e] at hg; injection hg with hg; omega
  have hvr : ∀ (i : Nat) (r : HS) (g : Nat), M[i]? = some r → (r.sl sz).ownBlock = some g → v.ownBlock ≠ some g := fun i r g hr hg e => by
    obtain ⟨cur, hc⟩ := owned_cells (h.each i r hr) hg
    obtain ⟨cur2, hc2⟩ := owned_cells h.row e
    rw [hc] at hc2
    injection hc2 with hc2
    injection hc2 with _ hc2
    exact absurd hc2 (by decide)
  have K2 : Kept (fun g => g ≠ x ∧ v.ownBlock ≠ some g) W2 (w3.setCell ⟨x, 5, none⟩ v') := ((Kept.refl _ W2).grown hl.2.1 (fun q e _ hF => hF.2 e)).setCell (fun _ hF => hF.1 rfl) v'
  have K4 := below_then hb K2
  have hblk3 : w3.heap[x]? = some (.cells #[.int .u8 4, .int .i64 ks, .int .i64 sz, .int .i64 n, .slice none 0 0, v] 72 (0, 0)) := (hl.2.1.block x (Nat.lt_of_lt_of_le hx hb.size) (fun e => by have := h.vlow x e.symm; omega)).trans ((hb.block x hx).trans h.blk)
  have hnew : ∀ g, ((zHS sz wr.heap.size).sl sz).ownBlock = some g → g = wr.heap.size := fun g hg => by
    simp [zHS, HS.sl, Value.ownBlock] at hg
    exact hg.symm
  refine ⟨(K4.block Bp hB ⟨by omega, fun e => by have := h.vlow Bp e; omega⟩).trans h.box, (set_blk hblk3 _ v').trans rfl, ?_, fun i r hr => ?_, hv', fun r hr g hg => ?_, fun i j r s hi hj hne g hg hg' => ?_, fun r hr => ?_, hlow, h.below.trans (K4.to_below (fun g hg => ⟨by omega, fun e => by have := h.vlow g e; omega⟩) h.below.size)⟩
  · rw [List.length_append]
    exact owns_kept (F := fun g => g ≠ x) hl.1 ((Kept.refl _ w3).setCell (fun _ e => e rfl) v') (fun g hg e => by have := hv' g hg; omega)
  · rcases at_snoc hr with hr | ⟨rfl, rfl⟩
    · exact owns_kept (h.each i r hr) K4 (fun g hg => ⟨fun e => by have := h.elow r (List.mem_of_getElem? hr) g hg; omega, hvr i r g hr hg⟩)
    · exact owns_kept (owns_new hz hs) K2 (fun g hg => by
        obtain rfl := hnew g hg
        exact ⟨by omega, fun e => by have := hvz _ e; omega⟩)
  · rcases List.mem_append.1 hr with hr | hr
    · exact h.elow r hr g hg
    · rw [List.mem_singleton] at hr
      subst hr
      have := hnew g hg
      omega
  · rcases at_snoc hi with hi | ⟨rfl, rfl⟩
    · rcases at_snoc hj with hj | ⟨rfl, rfl⟩
      · exact h.sep i j r s hi hj hne g hg hg'
      · have := hnew g hg'
        have := ((h.each i r hi).lt g hg).2
        omega
    · rcases at_snoc hj with hj | ⟨rfl, rfl⟩
      · have := hnew g hg
        have := ((h.each j s hj).lt g hg').2
        omega
      · exact hne rfl
  · rcases List.mem_append.1 hr with hr | hr
    · exact h.zero r hr
    · rw [List.mem_singleton] at hr
      subst hr
      exact ⟨rfl, rfl⟩
theorem step_append_run1 {P : Program} (w w2 : World) {ops : Array Oper} {o : Oper} {a : Act} {K : Act → World → Prop} {Q : Exit → Act → World → Prop} {E : Prop} (hgd : o.guard = none) (s x : Operand) (t : TypeId)
    (ho : o.op = .call { callee := .builtin .append, args := #[s, x], argTypes := #[t, t] }) (v vx v' : Value) (hs : a.eval s = v) (hx : a.eval x = vx) (hrun : (Builtin.append_ #[t, t] o.type #[v, vx]).run P w = .ok v' w2)
    (h : K (a.put o.dst v') w2) : if Region.wanted o (yielded ops a.tmps) = true then Oper.wp P o a w K Q else E := by
  have hw : Region.wanted o (yielded ops a.tmps) = true := by simp [Region.wanted, hgd]
  rw [if_pos hw]
  unfold Oper.wp execOp
  simp only [ho, resolve, invoke, builtin, Sem.run_bind, Sem.run_pure, Result.andThen_ok, List.map_toArray, List.map_cons, List.map_nil, hs, hx, hrun]
  exact h
/-- What the document's New tells of a right make. -/
def RNewTold (n ks sz : Nat) (w : World) (e : Ending) (w' : World) : Prop := ∃ Bp x v M, e = .returned (.tuple #[.pointer (some ⟨x, 0, none⟩), .int .i64 0]) ∧ RNew w w' Bp x ks sz n v M ∧ M.length = n
set_option maxRecDepth 100000 in
set_option maxHeartbeats 4000000 in
theorem rnew_yes (n ks sz : Nat) (w : World) (hsp : specM 4 ks sz n = 0) (hk : 5 ≤ ks ∧ ks ≤ 36) (hs : 1 ≤ sz ∧ sz ≤ 1024) (hn : 1 ≤ n ∧ n ≤ 1024) :
    Calls Try.prog 10 #[.agg #[.int .u8 4, .int .i64 ks, .int .i64 sz, .int .i64 n]] w (RNewTold n ks sz w) := by
  have hx := World.alloc_heap_new w (.cells #[.int .u8 4, .int .i64 ks, .int .i64 sz, .int .i64 n] 24)
  have hb0 := below1 w (.cells #[.int .u8 4, .int .i64 ks, .int .i64 sz, .int .i64 n] 24)
  have hz0 : (w.alloc (.cells #[.int .u8 4, .int .i64 ks, .int .i64 sz, .int .i64 n] 24)).heap.size = w.heap.size + 1 := by simp
  have hS := rspec_any 4 ks sz n (w.alloc (.cells #[.int .u8 4, .int .i64 ks, .int .i64 sz, .int .i64 n] 24)) (by decide)
  rw [hsp] at hS
  have HSP := hide hS
  have HX0 := hide hx
  have HB0 := hide hb0
  have HZ0 := hide hz0
  clear hx hb0 hS hsp hz0
  go_enter Try.func10, Try.ntmps10
  go_wp2_with (go_at_call 35; refine HSP.out.mono ?_; rintro e w1 ⟨rfl, hb⟩; have HB := hide hb; have hxx := (hb.block _ (at_lt HX0.out)).trans HX0.out; have d0 := (blk_cell hxx 0).trans rfl; have d1 := (blk_cell hxx 1).trans rfl; have d2 := (blk_cell hxx 2).trans rfl; have d3 := (blk_cell hxx 3).trans rfl; have HX := hide hxx; clear hb hxx)
  clear d0 d1 d2 d3
  have HN0 : Hid (RNew w (w1.alloc (.cells #[.int .u8 4, .int .i64 ks, .int .i64 sz, .int .i64 n, .slice none 0 0, .slice none 0 0] 72)) w.heap.size w1.heap.size ks sz n (.slice none 0 0) []) := hide (by
    have hb := below1 w1 (.cells #[.int .u8 4, .int .i64 ks, .int .i64 sz, .int .i64 n, .slice none 0 0, .slice none 0 0] 72)
    have hw := HB.out.size
    have hz := HZ0.out
    refine ⟨(hb.block _ (at_lt HX.out)).trans HX.out, World.alloc_heap_new w1 _, owns_nil _ _ _, fun i r hr => ?_, (fun g hg => by cases hg), fun r hr => ?_, fun i j r s hi => ?_, fun r hr => ?_, ⟨Nat.le_refl _, by omega⟩, (HB0.out.trans (HB.out.mono HB0.out.size)).trans (hb.mono (by omega))⟩
    · simp at hr
    · simp at hr
    · simp at hi
    · simp at hr)
  go_loopw [6] (fun u wr => ∃ (i : Nat) (v : Value) (M : List HS), i ≤ n ∧ u = .int .i64 i ∧ M.length = i ∧ RNew w wr w.heap.size w1.heap.size ks sz n v M) (fun u _ => n - (intOf u).toNat)
  case atStart => exact ⟨0, _, [], Nat.zero_le _, rfl, rfl, HN0.out⟩
  case round =>
    obtain ⟨i, v, M, hi, rfl, hM, hK⟩ := hrel
    clear HN0
    have b3 : wr.cell? ⟨w.heap.size, 3, none⟩ = some (.int .i64 n) := (blk_cell hK.box 3).trans rfl
    have HK := hide hK
    have jb : (i : Int) ≤ 1024 := by omega
    by_cases hin : i < n
    · obtain ⟨i0, hinf, hz0, hz1, hz2⟩ := row_parts
      have b2 : wr.cell? ⟨w.heap.size, 2, none⟩ = some (.int .i64 sz) := (blk_cell hK.box 2).trans rfl
      have hzz := fun W => zeros_made Try.underlying35 sz (by omega) W
      have hba := below1 wr (.cells (u8s (List.replicate sz 0)).toArray 5)
      have hbb := below2 wr (.cells (u8s (List.replicate sz 0)).toArray 5) (.cells #[.slice (some ⟨wr.heap.size, 0, none⟩) sz sz] 35)
      obtain ⟨q0, q1⟩ := two_boxes wr (.cells (u8s (List.replicate sz 0)).toArray 5) (.cells #[.slice (some ⟨wr.heap.size, 0, none⟩) sz sz] 35)
      have hsize : ((wr.alloc (.cells (u8s (List.replicate sz 0)).toArray 5)).alloc (.cells #[.slice (some ⟨wr.heap.size, 0, none⟩) sz sz] 35)).drew.heap.size = wr.heap.size + 2 := by
        show ((wr.alloc (.cells (u8s (List.replicate sz 0)).toArray 5)).alloc (.cells #[.slice (some ⟨wr.heap.size, 0, none⟩) sz sz] 35)).heap.size = _
        simp
      have c0 : wr.cell? ⟨w1.heap.size, 5, none⟩ = some v := (blk_cell hK.blk 5).trans rfl
      have ca := (hba.cell (World.block_lt_of_cell? wr _ c0)).trans c0
      have cb := (hbb.cell (World.block_lt_of_cell? wr _ c0)).trans c0
      have hown : ((wr.alloc (.cells (u8s (List.replicate sz 0)).toArray 5)).alloc (.cells #[.slice (some ⟨wr.heap.size, 0, none⟩) sz sz] 35)).drew.ownsRow 0 35 1 (.slice (some ⟨wr.heap.size + 1, 0, none⟩) 1 1) 1 [(zHS sz wr.heap.size).sl sz] :=
        ⟨rfl, .inr ⟨wr.heap.size + 1, 1, _, rfl, Nat.zero_le _, q1, Nat.le_refl _, by unfold maxLen; omega, rfl, rfl⟩⟩
      obtain ⟨v', w3, hrun, hl⟩ := run_append_rd (P := Try.prog) ((wr.alloc (.cells (u8s (List.replicate sz 0)).toArray 5)).alloc (.cells #[.slice (some ⟨wr.heap.size, 0, none⟩) sz sz] 35)).drew 49 49 35 i0 _ 1 24 Try.underlying49 hinf hz0 hz1 hz2 rfl (by decide) v M.length (M.map (HS.sl sz)) (owns_kept_below hK.row hbb.drew) _ (some ⟨wr.heap.size + 1, 0, none⟩) 1 1 [(zHS sz wr.heap.size).sl sz] (Rd.of_own hown) nofun (fun u hu => by rw [List.mem_singleton] at hu; subst hu; rfl) (by unfold maxLen; omega) (by omega)
      rw [show M.map (HS.sl sz) ++ [(zHS sz wr.heap.size).sl sz] = (M ++ [zHS sz wr.heap.size]).map (HS.sl sz) by simp] at hl
      obtain ⟨A', c', rfl, _⟩ := owns_slice hl.1
      have hvx : v.ownBlock ≠ some w1.heap.size := fun e => by have := hK.vlow _ e; omega
      have hx3 := (hl.2.1.block w1.heap.size (by rw [hsize]; have := at_lt hK.blk; omega) (fun e => hvx e.symm)).trans ((hbb.drew.block _ (at_lt hK.blk)).trans hK.blk)
      have c3 : w3.cell? ⟨w1.heap.size, 5, none⟩ = some v := (blk_cell hx3 5).trans rfl
      have f3 : w3.frozen? ⟨w1.heap.size, 5, none⟩ = false := by simp [World.frozen?, hx3]
      have HM := hide (hK.more hs.2 hbb.drew q0 hl)
      have HML := hide hM
      have j0 : (0 : Int) ≤ (i : Int) := by omega
      have j1 : (i : Int) < (n : Int) := by omega
      clear hinf hz0 hz1 hz2 hK hba hbb q0 q1 hsize hown hl hvx hx3 hM
      go_wp2_with fail
      clear b3
      go_region_law (refine step_append_run1 _ w3 (by rfl) (.tmp 28) (.tmp 32) 49 (by rfl) _ _ _ (by rfl) (by rfl) hrun ?_)
      all_goals (
        clear b2 hzz c0 ca cb hrun c3 f3
        generalize w3.setCell ⟨w1.heap.size, 5, none⟩ (.slice A' (M.length + 1) c') = w4 at *
        go_wp2_with fail
        go_roundw
        case rel => exact ⟨i + 1, _, _, by omega, by go_num, by rw [List.length_append, HML.out]; rfl, HM.out⟩
        case measure => simp [intOf]; omega)
    · obtain rfl : i = n := by omega
      have HML := hide hM
      clear hK hM
      go_wp2_with fail
      go_ret2
      exact ⟨_, _, _, M, rfl, HK.out, HML.out⟩
end Go.Proofs.Ythefgfcjjbjjkaa
