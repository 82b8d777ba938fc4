/-
  Handles: those of all maps, rising.
-/
import Derived.Test.YtgancfllpmgciaaGreatM5
import Derived.Test.YtgancfllpmgciaaGreatRS
namespace Go.Proofs.YtgancfllpmgciaaGreat
open Go.RowKit
set_option linter.unusedVariables false
attribute [local go_sem] Oper.semAt_some

theorem wpListIn_append_rd {F : Fence} {n : Nat} {P : Program} {w : World} {ops : Array Oper} {rest : List Oper} {o : Oper} {a : Act} {Q : Exit → Act → World → Prop}
    (hg : o.guard = none) (s x : Operand) (t : TypeId) (hop : o.op = Op.call { callee := Callee.builtin Builtin.append, args := #[s, x], argTypes := #[t, t] })
    (v vx : Value) (hs : a.eval s = v) (hx : a.eval x = vx) (R : Value → World → Prop) (hrun : ∃ v' w', (Builtin.append_ #[t, t] o.type #[v, vx]).run P w = .ok v' w' ∧ R v' w')
    (hK : ∀ v' w', R v' w' → wpListIn F n P ops Q rest (a.put o.dst v') w') : wpListIn F n P ops Q (o :: rest) a w := by
  refine wpListIn_plain hg fun K hK' => ?_
  obtain ⟨v', w', hrun, hl⟩ := hrun
  unfold Oper.wpIn
  refine ⟨?_, ?_⟩
  · simp [Oper.about, hop, resolve, Target.leads, Sem.run_pure]
  · rw [Oper.semAt_plain F _ _ (by rw [hop]; intro c hc'; cases hc')]
    simp [execOp, hop, resolve, invoke, builtin, hs, hx, hrun, Result.andThen]
    exact hK' _ _ (hK v' w' hl)
/-- The blocks that are gone through. -/
def OfI (b Bx : Nat) (A : Option Addr) (k : Nat) : Prop := k = b ∨ k = Bx ∨ blkOf A k
/-- They lie as they lay. -/
def KeepS (b Bx : Nat) (A : Option Addr) (W W' : World) : Prop := W.heap.size ≤ W'.heap.size ∧ ∀ k, OfI b Bx A k → W'.heap[k]? = W.heap[k]?
theorem handles_make (p : Addr) (w : World) : Calls Tryz.prog 31 #[.pointer (some p)] w fun e w' => e = .returned (.func (.func 45) #[] #[.pointer (some ⟨w.heap.size, 0, none⟩)]) ∧ w' = w.alloc (.cells #[.pointer (some p)] 96) := by
  have hmf : ∀ (fn : Fn) (first cap : Array Value) (w : World), (Instr.makeFunc fn first cap).run Tryz.prog w = .ok (.func fn first cap) w := fun _ _ _ _ => rfl
  go_enter Tryz.func31, Tryz.ntmps31
  go_wp2
  go_ret
  exact ⟨rfl, rfl⟩
set_option maxRecDepth 100000 in
set_option maxHeartbeats 1000000 in
theorem handles_iter (k0 Bx b c : Nat) (A : Option Addr) (L : List SE) (w0 : World) (hbox : Boxed w0 Bx 96 (.pointer (some ⟨b, 1, none⟩))) (hbl : b < w0.heap.size) (h2 : w0.cell? ⟨b, 2, none⟩ = some (.slice A L.length c))
    (hrd : Rd w0 w0.heap.size 6 A L.length (rowCells L)) (hA : ∀ ad, A = some ad → ad.off = 0 ∧ ad = ⟨ad.block, 0, none⟩) (hn : L.length ≤ 1024) (hAl : ∀ g, blkOf A g → g < w0.heap.size) :
    IterX Fence.wide k0 Tryz.prog 45 #[.pointer (some ⟨Bx, 0, none⟩)] (fun r : SE => #[.int .i64 r.h]) (fun _ => KeepS b Bx A) (fun pre r => pre ++ [r] <+: L) (fun xs => xs = L) w0 := by
  intro lp J Jx W hW hJ hJx hY h0
  have hbxl := hbox.lt
  have HW : Hid (∀ X : World, (∀ k, OfI b Bx A k → X.heap[k]? = w0.heap[k]?) → X.cell? ⟨Bx, 0, none⟩ = some (.pointer (some ⟨b, 1, none⟩)) ∧ X.cell? ⟨b, 2, none⟩ = some (.slice A L.length c) ∧ ∀ i, i < L.length → ∃ r g, L[i]? = some r ∧ A = some ⟨g, 0, none⟩ ∧ X.cell? ⟨g, i * 6, none⟩ = some (.int .i64 r.h) ∧ X.cell? ⟨g, i * 6 + 1, none⟩ = some (.int .u8 r.k) ∧ X.cell? ⟨g, i * 6 + 2, none⟩ = some (.int .i64 r.key) ∧ X.cell? ⟨g, i * 6 + 3, none⟩ = some (.int .i64 r.val) ∧ X.cell? ⟨g, i * 6 + 4, none⟩ = some (.int .i64 r.ent) ∧ X.cell? ⟨g, i * 6 + 5, none⟩ = some (.iface r.t r.v)) := hide (fun X hX => by
    refine ⟨(World.cell?_of_block (hX Bx (.inr (.inl rfl)))).trans hbox.cell, (World.cell?_of_block (w := w0) (a := ⟨b, 2, none⟩) (hX b (.inl rfl))).trans h2, fun i hi => ?_⟩
    obtain ⟨ad, e, hlt, hc⟩ := hrd.2 (by omega)
    obtain ⟨_, e2⟩ := hA ad e
    rw [e2] at hc e
    have hr : L[i]? = some L[i] := List.getElem?_eq_getElem hi
    have hcc : ∀ j u, j < 6 → (L[i]).cells[j]? = some u → X.cell? ⟨ad.block, i * 6 + j, none⟩ = some u := fun j u hj hu => by
      have := hc (i * 6 + j) u (by rw [rowCells_at L i j hj, hr]; exact hu)
      rw [own_add, Nat.zero_add] at this
      rw [← this]
      exact World.cell?_of_block (hX _ (.inr (.inr (by rw [e]; rfl))))
    exact ⟨L[i], ad.block, hr, e, hcc 0 _ (by decide) rfl, hcc 1 _ (by decide) rfl, hcc 2 _ (by decide) rfl, hcc 3 _ (by decide) rfl, hcc 4 _ (by decide) rfl, hcc 5 _ (by decide) rfl⟩)
  have HLT : Hid (∀ k, OfI b Bx A k → k < w0.heap.size) := hide (fun k hk => hk.elim (fun e => by rw [e]; exact hbl) (fun hk => hk.elim (fun e => by rw [e]; exact hbxl) (hAl k)))
  have HWK : Hid (∀ k, OfI b Bx A k → W.heap[k]? = w0.heap[k]?) := hide (fun k hk => hW.block k (HLT.out k hk))
  have HJ := hide hJ
  clear hbox hrd hA h2
  refine callsIn_of_wp Tryz.func45 rfl trivial ?_ rfl
  simp only [Tryz.ntmps45, List.size_toArray, List.length_cons, List.length_nil, Nat.reduceAdd, Nat.reduceSub, Array.replicate_succ, Array.replicate_zero, List.push_toArray, List.append_toArray, List.nil_append, List.cons_append]
  obtain ⟨k1, k2, _⟩ := HW.out W HWK.out
  gi_wp2
  clear k1 k2
  gi_loopw [10] (fun q wr => ∃ (k : Nat) (pre : List SE), k ≤ L.length ∧ pre = L.take k ∧ q = .int .i64 k ∧ J pre wr ∧ (∀ k, OfI b Bx A k → wr.heap[k]? = w0.heap[k]?) ∧ W.heap.size ≤ wr.heap.size) (fun q _ => L.length - (intOf q).toNat)
  case atStart => exact ⟨0, [], Nat.zero_le _, rfl, rfl, h0, HWK.out, Nat.le_refl _⟩
  case round =>
    obtain ⟨k, pre, hk, hp, rfl, hJk, hX, hws⟩ := hrel
    have HX := hide hX
    obtain ⟨_, _, k2⟩ := HW.out wr hX
    clear hX
    by_cases hlt : k < L.length
    · obtain ⟨r, g, hr, rfl, e0, e1, e2, e3, e4, e5⟩ := k2 k hlt
      have q0 : (0 : Int) ≤ (k : Int) := by omega
      have q1 : (k : Int) < (L.length : Int) := by omega
      have q2 : (k : Int) ≤ 1024 := by omega
      have hb := below1 wr (.cells #[.int .i64 r.h, .int .u8 r.k, .int .i64 r.key, .int .i64 r.val, .int .i64 r.ent, .iface r.t r.v] 120)
      have hpre : pre ++ [r] = L.take (k + 1) := by rw [hp, List.take_add_one, hr]; rfl
      obtain ⟨fn, tmps, assign, body, hy, hR⟩ := hY pre r (wr.alloc (.cells #[.int .i64 r.h, .int .u8 r.k, .int .i64 r.key, .int .i64 r.val, .int .i64 r.ent, .iface r.t r.v] 120)) (HJ.out _ _ _ hJk (Stays.of_below hb)) (by rw [hpre]; exact List.take_prefix _ _) (Nat.le_trans hws hb.size)
      have HP := hide hpre
      have HBB := hide hb
      clear k2 hp hpre hr hb
      gi_wp2
      refine ⟨fun h => by simp [Fence.wide] at h, hR.mono ?_⟩
      rintro e W' (⟨rfl, hJ', hs', hk'⟩ | ⟨rfl, hJx'⟩)
      · gi_wp2
        go_roundw
        case rel => exact ⟨k + 1, pre ++ [r], by omega, HP.out, by go_num, hJ', fun g hg => (hk'.2 g hg).trans ((HBB.out.block g (by have := hW.size; have := HLT.out g hg; omega)).trans (HX.out g hg)), Nat.le_trans hws (Nat.le_trans HBB.out.size hs')⟩
        case measure => simp only [intOf, Int.toNat_natCast]; omega
      · gi_wp2
        refine bodyPost_ret (results_none rfl _ _ _) rfl ?_
        exact ⟨_, rfl, .inr ⟨_, hJx'⟩⟩
    · obtain rfl : k = L.length := by omega
      clear k2
      gi_wp2
      go_end0
      exact ⟨_, rfl, .inl ⟨_, by rw [hp, List.take_length], hJk⟩⟩
theorem intInfo : (Tryz.prog.info? 3).map (fun i => (i.zero, i.size, i.bytes)) = some (some (.int .i64 0), 1, 8) := by kernel_rfl
def hands (L : List SE) : List Value := L.map fun r => .int .i64 (r.h : Int)
/-- What Handles tells. -/
def HandsTold (L : List SE) (w : World) (e : Ending) (w' : World) : Prop := ∃ v, e = .returned v ∧ w'.ownsRow 0 3 1 v L.length (hands L) ∧ (∀ g, v.ownBlock = some g → w.heap.size ≤ g) ∧ Below w.heap.size w w'
set_option maxRecDepth 100000 in
set_option maxHeartbeats 2000000 in
theorem handles_any {w : World} {B b last c : Nat} {A : Option Addr} {L : List SE} (h : Sto w B b last A c L) : Calls Tryz.prog 19 #[.pointer (some ⟨b, 0, none⟩)] w (HandsTold L w) := by
  obtain ⟨i0, hi, hz0', hz1, hz2⟩ := info_parts intInfo
  have hm := h.many
  refine (callsIn_wide (n := 3)).1 ?_
  refine callsIn_of_wp_marks Tryz.func19 rfl trivial ?_ rfl
  simp only [Tryz.ntmps19, List.size_toArray, List.length_cons, List.length_nil, Nat.reduceAdd, Nat.reduceSub, Array.replicate_succ, Array.replicate_zero, List.push_toArray, List.append_toArray, List.nil_append, List.cons_append]
  gi_wp2_with fail
  refine ⟨trivial, (callsIn_wide.2 (is_yes b w h.c0)).mono ?_⟩
  rintro en w2 ⟨rfl, rfl⟩
  gi_wp2_with fail
  refine ⟨trivial, (callsIn_wide.2 (handles_make _ _)).mono ?_⟩
  rintro en w2 ⟨rfl, rfl⟩
  gi_wp2_with fail
  have hz0 : ((w.alloc (.cells #[.slice none 0 0] 53)).alloc (.cells #[.pointer (some ⟨b, 1, none⟩)] 96)).heap.size = w.heap.size + 2 := by simp
  have hB0 := below2 w (.cells #[.slice none 0 0] 53) (.cells #[.pointer (some ⟨b, 1, none⟩)] 96)
  obtain ⟨hbt, hbi⟩ := two_boxes w (.cells #[.slice none 0 0] 53) (.cells #[.pointer (some ⟨b, 1, none⟩)] 96)
  generalize (w.alloc (.cells #[.slice none 0 0] 53)).alloc (.cells #[.pointer (some ⟨b, 1, none⟩)] 96) = W0 at *
  have h0 := h.below hB0
  have hbl := at_lt h.blk
  have hlt : ∀ g, blkOf A g → g < w.heap.size := fun g hg => h.lt hg
  have HOF : Hid (∀ k, OfI b (w.heap.size + 1) A k → k ≠ w.heap.size ∧ k < w.heap.size + 2) := hide (by
    rintro k (rfl | rfl | hk)
    · exact ⟨by omega, by omega⟩
    · exact ⟨by omega, by omega⟩
    · have := hlt k hk
      exact ⟨by omega, by omega⟩)
  refine range_ends (α := SE) (F := Fence.wide) (n := 3) rfl (by omega) (gf := 45) (lb := #[.pointer (some ⟨w.heap.size + 1, 0, none⟩)]) rfl trivial (enters_of Tryz.func45 (by kernel_rfl) rfl)
    (handles_iter (3 - 1) (w.heap.size + 1) b c A L W0 hbi (by omega) h0.c2 h0.rd h0.zero (by omega) (fun g hg => by have := hlt g hg; omega)) (Below.refl _ _)
    (fun h k => ⟨Nat.le_trans h.1 k.1, fun g hg => (k.2 g hg).trans (h.2 g hg)⟩) (fun X l o o' hl _ _ _ => ⟨by simp, fun g hg => World.putObj_heap_other (by have := HOF.out g hg; omega)⟩) (fun _ => rfl)
    (fun pre W => ∃ v, Boxed W w.heap.size 53 v ∧ W.ownsRow 0 3 1 v pre.length (hands pre) ∧ (∀ g, v.ownBlock = some g → w.heap.size + 2 ≤ g) ∧ Below w.heap.size w W)
    (fun _ _ => False)
    ?_ (fun _ _ _ h _ => h.elim) ⟨_, hbt, owns_nil _ _ _, (fun g hg => by cases hg), hB0⟩ ?round ?done ?stop
  · rintro s X Y ⟨v, h1, h2, h3, h4⟩ hst
    exact ⟨v, hst.boxed h1, hst.owns h2, h3, hst.below (by omega) (Nat.le_refl _) h4⟩
  case round =>
    rintro lp pre r W hle hloop hws ⟨v, h1, h2, h3, h4⟩ hpre
    have hlen : pre.length + 1 ≤ 32 := by have := hpre.length_le; rw [List.length_append] at this; simp at this; omega
    gi_wp2
    refine ⟨KeepsFrom.refl _ _, ⟨Nat.le_refl _, fun _ _ => rfl⟩, ⟨v, h1, h2, h3, h4⟩, fun W2 hst => ?_⟩
    have b1 := hst.boxed h1
    have o1 := hst.owns h2
    have g4 := hst.below (n0 := w.heap.size) (by omega) (Nat.le_refl _) h4
    have hW2 : w.heap.size + 2 ≤ W2.heap.size := Nat.le_trans (by omega) hst.size
    have c1 := b1.cell
    have hb2 := below1 W2 (.cells #[.int .i64 r.h] 3)
    have hrun := run_append_rd (P := Tryz.prog) (W2.alloc (.cells #[.int .i64 r.h] 3)) 53 53 3 i0 _ 1 8 Tryz.underlying53 hi hz0' hz1 hz2 rfl (by decide)
      v pre.length (hands pre) (owns_kept_below o1 hb2) (W2.heap.size + 1) (some ⟨W2.heap.size, 0, none⟩) 1 1 [.int .i64 r.h] (cells_rd W2 [.int .i64 r.h] 3 1 1 rfl) (fun e => by cases e) (fun u hu => by simp at hu; subst hu; rfl) (by unfold maxLen; omega) (by omega)
    have bb2 := b1.alloc (.cells #[.int .i64 r.h] 3)
    obtain ⟨vA, vc, rfl, _⟩ := owns_slice o1
    gi_wp2_with (gi_at_builtin; (refine wpListIn_append_rd rfl (.tmp 13) (.tmp 15) _ rfl (.slice vA pre.length vc) (.slice (some ⟨W2.heap.size, 0, none⟩) 1 1) rfl rfl (fun v' w' => Longer (W2.alloc (.cells #[.int .i64 r.h] 3)) w' 3 1 (.slice vA pre.length vc) v' (pre.length + 1) (hands pre ++ [Value.int .i64 r.h])) hrun ?_; intro v' w3 hl; obtain ⟨A', m, rfl, _⟩ := owns_slice hl.1; have bb3 := bb2.kept hl.2.1 (fun e => by have := h3 _ e.symm; omega); have cb2 := bb3.cell; have fb2 := bb3.frozen))
    obtain ⟨hl1, hl2, hl3⟩ := hl
    have hsub : ∀ g, (Value.slice A' (pre.length + 1) m).ownBlock = some g → w.heap.size + 2 ≤ g := by
      intro g hg
      rcases hl3 with e | e
      · exact h3 g (e.symm.trans hg)
      · rw [hg] at e
        injection e with e
        simp at e
        omega
    have hK5 : Kept (fun g => g ≠ w.heap.size) w3 (w3.setCell ⟨w.heap.size, 0, none⟩ (.slice A' (pre.length + 1) m)) := (Kept.refl _ w3).setCell (p := ⟨w.heap.size, 0, none⟩) (fun _ h => h rfl) _
    have hsz : (W2.alloc (.cells #[.int .i64 r.h] 3)).heap.size = W2.heap.size + 1 := by simp
    refine ⟨((KeepsOthers.alloc _ _).trans ((KeepsOthers.of_grownBy hl2 (fun j o hj ho => ?_)).trans (KeepsOthers.setCell _ _ _))).from _, ⟨?_, fun k hk => ?_⟩, _, bb3.set _, ?_, ?_, ?_⟩
    · rcases (owns_kept_below o1 hb2).2 with ⟨h0', _⟩ | ⟨g, cap, cur, hv, _, hg, _⟩
      · injection h0' with h0'
        subst h0'
        cases hj
      · rw [hv] at hj
        simp only [Value.ownBlock, Option.some.injEq] at hj
        subst hj
        rw [hg] at ho
        injection ho with ho
        subst ho
        rfl
    · have := hl2.size
      simp only [World.setCell, Array.size_modify]
      omega
    · have h7 := HOF.out k hk
      exact (Below.heap_setCell w3 ⟨w.heap.size, 0, none⟩ _ k h7.1).trans ((hl2.block k (by omega) (fun e => by have := h3 k e.symm; omega)).trans (hb2.block k (by omega)))
    · rw [show (pre ++ [r]).length = pre.length + 1 by simp, show hands (pre ++ [r]) = hands pre ++ [.int .i64 r.h] by simp [hands]]
      exact owns_kept hl1 hK5 (fun g hg e => by have := hsub g hg; omega)
    · exact hsub
    · exact ((g4.alloc (by omega) _).grown hl2 (by omega) (fun k e => by have := h3 k e; omega)).setCell (p := ⟨w.heap.size, 0, none⟩) (Nat.le_refl _) _
  case done =>
    rintro D xs W hD rfl ⟨v, h1, h2, h3, h4⟩ hdef
    have c1 := h1.cell
    gi_wp2
    refine ⟨by simp, .inl ⟨_, _, rfl, run_takeDeferred hdef, ?_⟩⟩
    have hst := Stays.putObj (B := W0.heap.size) (.deferred none) hD hdef rfl
    refine ⟨_, results_tmp rfl _ _ _, v, rfl, hst.owns h2, fun g hg => Nat.le_trans (by omega) (h3 g hg), hst.below (by omega) (Nat.le_refl _) h4⟩
  case stop =>
    rintro D pre W hD h
    exact h.elim
end Go.Proofs.YtgancfllpmgciaaGreat
