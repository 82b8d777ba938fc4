/-
  The place that a key's four bytes say: the walk.
-/
import Derived.Test.YtihhbpadafgkoaaGreatAR4a
namespace Go.Proofs.YtihhbpadafgkoaaGreat
open Go.RowKit
set_option linter.unusedVariables false
attribute [local go_sem] Oper.semAt_some

theorem re_mk {α : Type} {n B : Nat} {K : World → World → Prop} {I : List α → World → Prop} {xs : List α} {W W' : World} {a : Act} (h : KeepsFrom B W W' ∧ K W W' ∧ I xs W') : Exit.inBlock n (RoundEnd B K I xs W) .normal a W' := h
set_option maxRecDepth 100000 in
theorem place_no (A : Option Addr) (n c : Nat) (w : World) (hn : n ≠ 4) : Calls Tryz.prog 82 #[.slice A n c] w fun e w' => e = .panicked (panicOf 2) ∧ w = w' := by
  have h4 : ((n : Int) == 4) = false := by simp; omega
  refine (callsIn_wide (n := 3)).1 ?_
  refine callsIn_of_wp_marks Tryz.func82 rfl trivial ?_ rfl
  simp only [Tryz.ntmps82, List.size_toArray, List.length_cons, List.length_nil, Nat.reduceAdd, Nat.reduceSub, Array.replicate_succ, Array.replicate_zero, List.push_toArray, List.append_toArray, List.nil_append, List.cons_append]
  gi_wp2_with fail
  refine ⟨trivial, (callsIn_wide.2 (demand_no _ _)).mono ?_⟩
  rintro e w' ⟨rfl, rfl⟩
  exact ⟨rfl, rfl⟩
set_option maxRecDepth 100000 in
theorem bytesOf_any (A : Option Addr) (n c : Nat) (w : World) : Calls Tryz.prog 137 #[.slice A n c] w fun e w' => e = .returned (.func (.func 171) #[] #[.pointer (some ⟨w.heap.size, 0, none⟩)]) ∧ w' = w.alloc (.cells #[.slice A n c] 34) := by
  go_enter Tryz.func137, Tryz.ntmps137
  go_wp2
  go_ret
  exact ⟨rfl, rfl⟩
theorem acc_step (x z s : Nat) (hx : x < 2 ^ s) (hz : z < 256) (hs : s ≤ 24) : bits .or .i64 (x : Int) (IntKind.i64.wrap (IntKind.i64.wrap (z : Int) * 2 ^ s)) = ((x + z * 2 ^ s : Nat) : Int) := by
  have h1 : (2 : Nat) ^ s ≤ 2 ^ 24 := Nat.pow_le_pow_right (by omega) hs
  have h2 : z * 2 ^ s ≤ 255 * 2 ^ 24 := Nat.mul_le_mul (by omega) h1
  have e : ((z : Int) * 2 ^ s) = ((z * 2 ^ s : Nat) : Int) := by simp
  rw [IntWalk.i64_in (z : Int) (by omega), e, IntWalk.i64_in _ (by omega)]
  exact or_up x z s hx (by omega)
set_option maxRecDepth 100000 in
set_option maxHeartbeats 1000000 in
theorem place_yes (A : Option Addr) (c B : Nat) (b : Nat → Nat) (w : World) (hb : ∀ i, b i < 256) (hr : Rd w B 1 A 4 (u8s [(b 0 : Int), b 1, b 2, b 3])) (hB : B ≤ w.heap.size) :
    Calls Tryz.prog 82 #[.slice A 4 c] w fun e w' => e = .returned (.int .i64 (keyN b)) ∧ Below w.heap.size w w' := by
  have h4 : ((4 : Int) == 4) = true := rfl
  refine (callsIn_wide (n := 3)).1 ?_
  refine callsIn_of_wp_marks Tryz.func82 rfl trivial ?_ rfl
  simp only [Tryz.ntmps82, List.size_toArray, List.length_cons, List.length_nil, Nat.reduceAdd, Nat.reduceSub, Array.replicate_succ, Array.replicate_zero, List.push_toArray, List.append_toArray, List.nil_append, List.cons_append]
  gi_wp2_with fail
  refine ⟨trivial, (callsIn_wide.2 (demand_yes _ _)).mono ?_⟩
  rintro e w' ⟨rfl, rfl⟩
  gi_wp2_with fail
  refine ⟨trivial, (callsIn_wide.2 (bytesOf_any _ _ _ _)).mono ?_⟩
  rintro e w' ⟨rfl, rfl⟩
  gi_wp2_with fail
  obtain ⟨q0, q1⟩ := two_boxes w (.cells #[.int .i64 0] 3) (.cells #[.slice A 4 c] 34)
  have hb2 := below2 w (.cells #[.int .i64 0] 3) (.cells #[.slice A 4 c] 34)
  have hs2 : ((w.alloc (.cells #[.int .i64 0] 3)).alloc (.cells #[.slice A 4 c] 34)).heap.size = w.heap.size + 2 := by simp
  generalize hW0 : (w.alloc (.cells #[.int .i64 0] 3)).alloc (.cells #[.slice A 4 c] 34) = W0 at q0 q1 hb2 hs2 ⊢
  clear hW0
  have HS2 := hide hs2
  have hle2 : w.heap.size + 2 ≤ W0.heap.size := by omega
  clear hs2
  refine range_goes (α := Nat × Nat) (F := Fence.wide) (n := 3) rfl (by omega) (gf := 171) (lb := #[.pointer (some ⟨w.heap.size + 1, 0, none⟩)]) rfl trivial (enters_of Tryz.func171 (by kernel_rfl) rfl)
    (bytes_iter (3 - 1) (w.heap.size + 1) w.heap.size c B A b W0 q1 ((hr.below (hb2.mono hB))) (by omega) hB (by omega)) (Below.refl _ _)
    (fun h k => ⟨Nat.le_trans h.1 k.1, fun j hj hp => (k.2 j hj hp).trans (h.2 j hj hp)⟩) (fun X l o o' hl _ h ho => ⟨by simp, fun k hk _ => World.putObj_heap_other (by omega)⟩) (fun _ => rfl)
    (fun pre W => Boxed W w.heap.size 3 (.int .i64 (accM pre)) ∧ Below w.heap.size w W)
    ?_ ⟨q0, hb2⟩ ?round ?done ?panic
  · rintro s X Y ⟨h1, h2⟩ hst
    exact ⟨hst.boxed h1, hst.below (by omega) (Nat.le_refl _) h2⟩
  case round =>
    rintro lp pre x W hle hloop hws ⟨h1, h2⟩ hpre
    have hx := els_round hpre
    have hacc : accM pre < 2 ^ x.2 ∧ x.1 < 256 ∧ x.2 ≤ 24 := by
      have := hb 0; have := hb 1; have := hb 2; have := hb 3
      rcases hx with ⟨rfl, rfl⟩ | ⟨rfl, rfl⟩ | ⟨rfl, rfl⟩ | ⟨rfl, rfl⟩ <;> simp [accM] <;> omega
    have hnx : accM (pre ++ [x]) = accM pre + x.1 * 2 ^ x.2 := by simp [accM]
    obtain ⟨xb, xs⟩ := x
    have HA := hide (acc_step (accM pre) xb xs hacc.1 hacc.2.1 hacc.2.2)
    have hx1 : (0 : Int) ≤ (xb : Int) := by omega
    have hx2 : (xb : Int) < 256 := by omega
    have hx3 : (0 : Int) ≤ (xs : Int) := by omega
    have hx4 : (xs : Int) ≤ 24 := by omega
    have HN := hide hnx
    clear hx hpre hacc hnx
    simp only [encE]
    have H1 := hide h1
    have H2 := hide h2
    have HL := hide hloop
    clear h1 h2 hloop
    gi_wp2
    refine ⟨KeepsFrom.refl _ _, ⟨Nat.le_refl _, fun _ _ _ => rfl⟩, ⟨H1.out, H2.out⟩, fun W2 hst => ?_⟩
    have hb1 := hst.boxed H1.out
    have HI := hide (hst.below (n0 := w.heap.size) (by omega) (Nat.le_refl _) H2.out)
    have cb := hb1.cell
    have fb := hb1.frozen
    gi_wp2
    gi_region
    all_goals
      refine re_mk (n := 1) (B := W0.heap.size) (K := KeepX W0.heap.size w.heap.size) (I := fun pre W => Boxed W w.heap.size 3 (.int .i64 (accM pre)) ∧ Below w.heap.size w W) (xs := pre ++ [(xb, xs)]) (W := W2) ?_
      rw [HA.out, ← HN.out]
      exact ⟨((KeepsOthers.setCell _ _ _).trans (KeepsOthers.drew _)).from _, ⟨by simp [World.setCell], fun k hk hne => heap_set_other W2 hne _⟩, hb1.set _, (HI.out.setCell (p := ⟨w.heap.size, 0, none⟩) (Nat.le_refl _) _).drew⟩
  case done =>
    rintro D xs W hD rfl ⟨h1, h2⟩ hdef
    have c1 := h1.cell
    gi_wp2
    refine ⟨by simp, .inl ⟨_, _, rfl, run_takeDeferred hdef, ?_⟩⟩
    have hst := Stays.putObj (B := W0.heap.size) (.deferred none) hD hdef rfl
    exact ⟨_, results_tmp rfl _ _ _, by rw [acc_els]; rfl, hst.below (by omega) (Nat.le_refl _) h2⟩
  case panic =>
    rintro D c xs W hD hF
    exact hF.elim
end Go.Proofs.YtihhbpadafgkoaaGreat
