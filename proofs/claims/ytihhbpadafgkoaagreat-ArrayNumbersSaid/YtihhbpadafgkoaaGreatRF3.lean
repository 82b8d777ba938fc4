/-
  The document's Value and New.
-/
import Derived.Test.YtihhbpadafgkoaaGreatRF2
import Derived.Test.YtihhbpadafgkoaaGreatKI5
import Derived.Test.YtihhbpadafgkoaaGreatRT4
import Derived.Test.YtihhbpadafgkoaaGreatAP4
namespace Go.Proofs.YtihhbpadafgkoaaGreat
open Go.RowKit Go.Maps
set_option linter.unusedVariables false

set_option maxRecDepth 100000 in
set_option maxHeartbeats 1000000 in
theorem rvalue_no (B x sz n rc : Nat) (RA : Option Addr) (bs : List Int) (i : Int) (w : World) (h : RArr w B x sz n RA rc bs) (hi : hasB n i = false) :
    Calls Tryz.prog 34 #[.pointer (some ⟨x, 0, none⟩), .int .i64 i] w fun e w' => e = .returned (.tuple #[.slice none 0 0, .int .i64 6]) ∧ Below w.heap.size w w' := by
  have c3 := h.ent
  have hi1 : ¬ (0 ≤ i ∧ i < n) := by simpa [hasB] using hi
  clear h hi
  by_cases h0 : i < 0
  · have d1 : decide (i < 0) = true := decide_eq_true (by omega)
    go_enter Tryz.func34, Tryz.ntmps34
    go_wp2_with fail
    go_ret2
    exact ⟨rfl, Below.refl _ _⟩
  · have d1 : decide (i < 0) = false := decide_eq_false (by omega)
    have d2 : decide ((n : Int) ≤ i) = true := decide_eq_true (by omega)
    go_enter Tryz.func34, Tryz.ntmps34
    go_wp2_with fail
    go_ret2
    exact ⟨rfl, Below.refl _ _⟩
theorem owns_empty (w : World) : (w.alloc (.cells #[] 5)).ownsRow 0 5 1 (.slice (some ⟨w.heap.size, 0, none⟩) 0 0) 0 (u8s []) :=
  ⟨rfl, .inr ⟨w.heap.size, 0, #[], rfl, Nat.zero_le _, World.alloc_heap_new w _, Nat.le_refl _, by unfold maxLen; omega, rfl, rfl⟩⟩
def TVal (x sz n rc i p S : Nat) (RA A2 : Option Addr) (c2' : Nat) (l : List Int) (j : Nat) (σ : Nat → Value) (W : World) : Prop :=
  match j with
  | 0 => σ 0 = .slice (some ⟨S, 0, none⟩) 0 0
  | 1 => σ 1 = .pointer (some ⟨x, 0, none⟩)
  | 2 => σ 2 = .pointer (some ⟨x, 0, none⟩)
  | 3 => σ 3 = .pointer (some ⟨x, 4, none⟩)
  | 4 => σ 4 = .slice RA (sz * n) rc
  | 5 => σ 5 = .int .i64 (i : Int)
  | 6 => σ 6 = .pointer (some ⟨x, 0, none⟩)
  | 7 => σ 7 = .pointer (some ⟨x, 0, none⟩)
  | 8 => σ 8 = .pointer (some ⟨x, 0, none⟩)
  | 9 => σ 9 = .pointer (some ⟨x, 2, none⟩)
  | 10 => σ 10 = .int .i64 (sz : Int)
  | 11 => σ 11 = .int .i64 (p : Int)
  | 12 => σ 12 = .int .i64 (i : Int)
  | 13 => σ 13 = .int .i64 ((i : Int) + 1)
  | 14 => σ 14 = .pointer (some ⟨x, 0, none⟩)
  | 15 => σ 15 = .pointer (some ⟨x, 0, none⟩)
  | 16 => σ 16 = .pointer (some ⟨x, 0, none⟩)
  | 17 => σ 17 = .pointer (some ⟨x, 2, none⟩)
  | 18 => σ 18 = .int .i64 (sz : Int)
  | 19 => σ 19 = .int .i64 ((p : Int) + (sz : Int))
  | 20 => σ 20 = .slice A2 sz c2'
  | 21 => OwnB W S (σ 21) sz l
  | 22 => OwnB W S (σ 22) sz l
  | 23 => σ 23 = .int .i64 0
  | _ => True
theorem TVal.below {x sz n rc i p S : Nat} {RA A2 : Option Addr} {c2' : Nat} {l : List Int} {j : Nat} {σ : Nat → Value} {W W' : World} (h : TVal x sz n rc i p S RA A2 c2' l j σ W) (hb : Below W.heap.size W W') : TVal x sz n rc i p S RA A2 c2' l j σ W' := by
  unfold TVal at h ⊢
  split at h
  all_goals first
    | exact h
    | exact ⟨owns_kept_below h.1 hb, h.2⟩
/-- What holds of the world by whether the row was appended to. -/
def GVal (w : World) (L : Nat → Bool) (W : World) : Prop :=
  Below w.heap.size w W ∧ (L 21 = false → if L 0 = true then W.ownsRow 0 5 1 (.slice (some ⟨w.heap.size, 0, none⟩) 0 0) 0 (u8s []) else W.heap.size = w.heap.size)
theorem GVal.same {w : World} {i : Nat} {L : Nat → Bool} {W : World} (h : GVal w L W) (h0 : i ≠ 0) (h1 : i ≠ 21) : GVal w (fun j => L j || j == i) W := by
  have e1 : (0 == i) = false := by simpa using fun e => h0 e.symm
  have e2 : (21 == i) = false := by simpa using fun e => h1 e.symm
  refine ⟨h.1, ?_⟩
  simp only [e1, e2, Bool.or_false]
  exact h.2
section
variable {P : Program}
theorem exec_append {W W' : World} {v' : Value} (ev : Operand → Value) (o : Oper) (s x : Operand) (t : TypeId) (ho : o.op = .call { callee := .builtin .append, args := #[s, x], argTypes := #[t, t] }) (v u : Value) (hs : ev s = v) (hx : ev x = u) (hrun : (Builtin.append_ #[t, t] o.type #[v, u]).run P W = .ok v' W') : (execOp ev o).run P W = .ok (.value v') W' := by
  unfold execOp
  simp only [ho, resolve, invoke, builtin, Sem.run_bind, Sem.run_pure, Result.andThen_ok, List.map_toArray, List.map_cons, List.map_nil, hs, hx, hrun]
end
set_option maxRecDepth 100000 in
set_option maxHeartbeats 4000000 in
theorem rvalue_yes (B x sz n rc i : Nat) (RA : Option Addr) (bs : List Int) (w : World) (h : RArr w B x sz n RA rc bs) (hi : i < n) :
    Calls Tryz.prog 34 #[.pointer (some ⟨x, 0, none⟩), .int .i64 i] w (ValTold sz ((bs.drop (i * sz)).take sz) w) := by
  obtain ⟨hs1, hs2⟩ := h.big
  obtain ⟨hn1, hn2⟩ := h.many
  have hprod : i * sz + sz ≤ sz * n := by
    have : (i + 1) * sz ≤ n * sz := Nat.mul_le_mul_right _ (by omega)
    rw [Nat.mul_comm n] at this
    rw [Nat.add_mul] at this
    omega
  have hprod2 : sz * n ≤ 1048576 := by
    have : sz * n ≤ 1024 * 1024 := Nat.mul_le_mul hs2 hn2
    omega
  have hmul : (i : Int) * (sz : Int) = ((i * sz : Nat) : Int) := by simp
  have hmul2 : ((i : Int) + 1) * (sz : Int) = ((i * sz : Nat) : Int) + (sz : Int) := by rw [Int.add_mul]; simp
  obtain ⟨p, hp⟩ : ∃ p, p = i * sz := ⟨_, rfl⟩
  rw [← hp] at hprod hmul hmul2 ⊢
  obtain ⟨A2, c2', hcut, hA2, hg2⟩ := cut_part (P := Tryz.prog) Tryz.underlying34 u8size h.row p sz (by omega)
  have hrd := cut_rd h.row p sz (by omega) hg2
  rw [show ((u8s bs).drop p).take sz = u8s ((bs.drop p).take sz) by simp [u8s, List.map_take, List.map_drop]] at hrd
  have HRD := hide hrd
  have HA2 := hide hA2
  have c2 := h.size
  have c3 := h.ent
  have c4 := h.bytes
  have HR := hide h
  have d1 : decide ((i : Int) < 0) = false := decide_eq_false (by omega)
  have d2 : decide ((n : Int) ≤ (i : Int)) = false := decide_eq_false (by omega)
  have p1 : IntKind.i64.wrap ((i : Int) * (sz : Int)) = (p : Int) := by rw [hmul]; exact IntWalk.i64_in _ (by omega)
  have p2 : IntKind.i64.wrap ((i : Int) + 1) = (i : Int) + 1 := IntWalk.i64_in _ (by omega)
  have p3 : IntKind.i64.wrap (((i : Int) + 1) * (sz : Int)) = (p : Int) + (sz : Int) := by rw [hmul2]; exact IntWalk.i64_in _ (by omega)
  have hx := at_lt h.blk
  have hb1 := below1 w (.cells #[] 5)
  have C2 := hide c2
  have C4 := hide c4
  have HC := hide hcut
  clear h hg2 hrd hA2 hp hmul hmul2 hcut c2 c4
  go_enter Tryz.func34, Tryz.ntmps34
  go_wp2_with fail
  rename_i K hK
  refine wp_tells4 (by kernel_rfl) (TVal x sz n rc i p w.heap.size RA A2 c2' ((bs.drop p).take sz)) (GVal w) (by kernel_rfl) (by kernel_rfl) (by kernel_rfl) (by kernel_rfl) ?_ ?_ ?_ ?_
  · intro q oj σ σ' W hj h hs
    have hi : q < 24 := (Array.getElem?_eq_some_iff.1 hj).1
    have h0 := hs q (.inl rfl)
    have hi' : q = 0 ∨ q = 1 ∨ q = 2 ∨ q = 3 ∨ q = 4 ∨ q = 5 ∨ q = 6 ∨ q = 7 ∨ q = 8 ∨ q = 9 ∨ q = 10 ∨ q = 11 ∨ q = 12 ∨ q = 13 ∨ q = 14 ∨ q = 15 ∨ q = 16 ∨ q = 17 ∨ q = 18 ∨ q = 19 ∨ q = 20 ∨ q = 21 ∨ q = 22 ∨ q = 23 := by omega
    rcases hi' with rfl | rfl | rfl | rfl | rfl | rfl | rfl | rfl | rfl | rfl | rfl | rfl | rfl | rfl | rfl | rfl | rfl | rfl | rfl | rfl | rfl | rfl | rfl | rfl
    all_goals (simp only [TVal] at h ⊢; rw [h0]; exact h)
  · exact ⟨(Below.refl _ _).drew, fun _ => rfl⟩
  · intro q o ho L a W hi hG hold hT hcl hh
    have hi2 : q < 24 := (Array.getElem?_eq_some_iff.1 ho).1
    have hi' : q = 0 ∨ q = 1 ∨ q = 2 ∨ q = 3 ∨ q = 4 ∨ q = 5 ∨ q = 6 ∨ q = 7 ∨ q = 8 ∨ q = 9 ∨ q = 10 ∨ q = 11 ∨ q = 12 ∨ q = 13 ∨ q = 14 ∨ q = 15 ∨ q = 16 ∨ q = 17 ∨ q = 18 ∨ q = 19 ∨ q = 20 ∨ q = 21 ∨ q = 22 ∨ q = 23 := by omega
    rcases hi' with rfl | rfl | rfl | rfl | rfl | rfl | rfl | rfl | rfl | rfl | rfl | rfl | rfl | rfl | rfl | rfl | rfl | rfl | rfl | rfl | rfl | rfl | rfl | rfl
    · cases ho
      obtain ⟨g1, g2⟩ := hG
      have h21 : L 21 = false := by
        cases h : L 21 with
        | false => rfl
        | true =>
          have := hcl 21 _ h rfl 0 (by kernel_rfl)
          rw [hi] at this; cases this
      have hz := g2 h21
      rw [if_neg (by simp [hi])] at hz
      refine step4_turned (.slice (some ⟨w.heap.size, 0, none⟩) 0 0) (W.alloc (.cells #[] 5)) ?_ (by decide) ⟨g1.alloc (by omega) _, fun _ => ?_⟩ (fun j hj => (hT j hj).below (below1 W _)) rfl
      · generalize a.eval = ev
        simp [execOp, go_sem, hz]
      · rw [if_pos (by simp), ← hz]
        exact owns_empty W
    · cases ho
      refine step4_told (.pointer (some ⟨x, 0, none⟩)) ?_ (by decide) (hG.same (by decide) (by decide)) hT rfl
      have e0 : a.eval (.tmp 0) = .pointer (some ⟨x, 0, none⟩) := hold 0 (unyet_of (by kernel_rfl))
      generalize a.eval = ev at e0 ⊢
      simp [execOp, go_sem, e0]
    · cases ho
      refine step4_told (.pointer (some ⟨x, 0, none⟩)) ?_ (by decide) (hG.same (by decide) (by decide)) hT rfl
      have e0 : a.eval (.tmp 18) = .pointer (some ⟨x, 0, none⟩) := hT 1 (hh 1 rfl)
      generalize a.eval = ev at e0 ⊢
      simp [execOp, go_sem, e0]
    · cases ho
      refine step4_told (.pointer (some ⟨x, 4, none⟩)) ?_ (by decide) (hG.same (by decide) (by decide)) hT rfl
      have e0 : a.eval (.tmp 19) = .pointer (some ⟨x, 0, none⟩) := hT 2 (hh 2 rfl)
      generalize a.eval = ev at e0 ⊢
      simp [execOp, go_sem, e0]
    · cases ho
      have k4 : W.cell? ⟨x, 4, none⟩ = some (.slice RA (sz * n) rc) := (hG.1.cell (p := ⟨x, 4, none⟩) hx).trans C4.out
      refine step4_told (.slice RA (sz * n) rc) ?_ (by decide) (hG.same (by decide) (by decide)) hT rfl
      have e0 : a.eval (.tmp 20) = .pointer (some ⟨x, 4, none⟩) := hT 3 (hh 3 rfl)
      generalize a.eval = ev at e0 ⊢
      simp [execOp, go_sem, e0, k4]
    · cases ho
      refine step4_told (.int .i64 (i : Int)) ?_ (by decide) (hG.same (by decide) (by decide)) hT rfl
      have e0 : a.eval (.tmp 1) = .int .i64 (i : Int) := hold 1 (unyet_of (by kernel_rfl))
      generalize a.eval = ev at e0 ⊢
      simp [execOp, go_sem, e0]
    · cases ho
      refine step4_told (.pointer (some ⟨x, 0, none⟩)) ?_ (by decide) (hG.same (by decide) (by decide)) hT rfl
      have e0 : a.eval (.tmp 0) = .pointer (some ⟨x, 0, none⟩) := hold 0 (unyet_of (by kernel_rfl))
      generalize a.eval = ev at e0 ⊢
      simp [execOp, go_sem, e0]
    · cases ho
      refine step4_told (.pointer (some ⟨x, 0, none⟩)) ?_ (by decide) (hG.same (by decide) (by decide)) hT rfl
      have e0 : a.eval (.tmp 23) = .pointer (some ⟨x, 0, none⟩) := hT 6 (hh 6 rfl)
      generalize a.eval = ev at e0 ⊢
      simp [execOp, go_sem, e0]
    · cases ho
      refine step4_told (.pointer (some ⟨x, 0, none⟩)) ?_ (by decide) (hG.same (by decide) (by decide)) hT rfl
      have e0 : a.eval (.tmp 24) = .pointer (some ⟨x, 0, none⟩) := hT 7 (hh 7 rfl)
      generalize a.eval = ev at e0 ⊢
      simp [execOp, go_sem, e0]
    · cases ho
      refine step4_told (.pointer (some ⟨x, 2, none⟩)) ?_ (by decide) (hG.same (by decide) (by decide)) hT rfl
      have e0 : a.eval (.tmp 25) = .pointer (some ⟨x, 0, none⟩) := hT 8 (hh 8 rfl)
      generalize a.eval = ev at e0 ⊢
      simp [execOp, go_sem, e0]
    · cases ho
      have k2 : W.cell? ⟨x, 2, none⟩ = some (.int .i64 (sz : Int)) := (hG.1.cell (p := ⟨x, 2, none⟩) hx).trans C2.out
      refine step4_told (.int .i64 (sz : Int)) ?_ (by decide) (hG.same (by decide) (by decide)) hT rfl
      have e0 : a.eval (.tmp 26) = .pointer (some ⟨x, 2, none⟩) := hT 9 (hh 9 rfl)
      generalize a.eval = ev at e0 ⊢
      simp [execOp, go_sem, e0, k2]
    · cases ho
      refine step4_told (.int .i64 (p : Int)) ?_ (by decide) (hG.same (by decide) (by decide)) hT rfl
      have e0 : a.eval (.tmp 22) = .int .i64 (i : Int) := hT 5 (hh 5 rfl)
      have e1 : a.eval (.tmp 27) = .int .i64 (sz : Int) := hT 10 (hh 10 rfl)
      generalize a.eval = ev at e0 e1 ⊢
      simp [execOp, go_sem, e0, e1, p1]
    · cases ho
      refine step4_told (.int .i64 (i : Int)) ?_ (by decide) (hG.same (by decide) (by decide)) hT rfl
      have e0 : a.eval (.tmp 1) = .int .i64 (i : Int) := hold 1 (unyet_of (by kernel_rfl))
      generalize a.eval = ev at e0 ⊢
      simp [execOp, go_sem, e0]
    · cases ho
      refine step4_told (.int .i64 ((i : Int) + 1)) ?_ (by decide) (hG.same (by decide) (by decide)) hT rfl
      have e0 : a.eval (.tmp 29) = .int .i64 (i : Int) := hT 12 (hh 12 rfl)
      have e1 : a.eval (.const (.int .i64 1)) = .int .i64 1 := rfl
      generalize a.eval = ev at e0 e1 ⊢
      simp [execOp, go_sem, e0, e1, p2]
    · cases ho
      refine step4_told (.pointer (some ⟨x, 0, none⟩)) ?_ (by decide) (hG.same (by decide) (by decide)) hT rfl
      have e0 : a.eval (.tmp 0) = .pointer (some ⟨x, 0, none⟩) := hold 0 (unyet_of (by kernel_rfl))
      generalize a.eval = ev at e0 ⊢
      simp [execOp, go_sem, e0]
    · cases ho
      refine step4_told (.pointer (some ⟨x, 0, none⟩)) ?_ (by decide) (hG.same (by decide) (by decide)) hT rfl
      have e0 : a.eval (.tmp 31) = .pointer (some ⟨x, 0, none⟩) := hT 14 (hh 14 rfl)
      generalize a.eval = ev at e0 ⊢
      simp [execOp, go_sem, e0]
    · cases ho
      refine step4_told (.pointer (some ⟨x, 0, none⟩)) ?_ (by decide) (hG.same (by decide) (by decide)) hT rfl
      have e0 : a.eval (.tmp 32) = .pointer (some ⟨x, 0, none⟩) := hT 15 (hh 15 rfl)
      generalize a.eval = ev at e0 ⊢
      simp [execOp, go_sem, e0]
    · cases ho
      refine step4_told (.pointer (some ⟨x, 2, none⟩)) ?_ (by decide) (hG.same (by decide) (by decide)) hT rfl
      have e0 : a.eval (.tmp 33) = .pointer (some ⟨x, 0, none⟩) := hT 16 (hh 16 rfl)
      generalize a.eval = ev at e0 ⊢
      simp [execOp, go_sem, e0]
    · cases ho
      have k2 : W.cell? ⟨x, 2, none⟩ = some (.int .i64 (sz : Int)) := (hG.1.cell (p := ⟨x, 2, none⟩) hx).trans C2.out
      refine step4_told (.int .i64 (sz : Int)) ?_ (by decide) (hG.same (by decide) (by decide)) hT rfl
      have e0 : a.eval (.tmp 34) = .pointer (some ⟨x, 2, none⟩) := hT 17 (hh 17 rfl)
      generalize a.eval = ev at e0 ⊢
      simp [execOp, go_sem, e0, k2]
    · cases ho
      refine step4_told (.int .i64 ((p : Int) + (sz : Int))) ?_ (by decide) (hG.same (by decide) (by decide)) hT rfl
      have e0 : a.eval (.tmp 30) = .int .i64 ((i : Int) + 1) := hT 13 (hh 13 rfl)
      have e1 : a.eval (.tmp 35) = .int .i64 (sz : Int) := hT 18 (hh 18 rfl)
      generalize a.eval = ev at e0 e1 ⊢
      simp [execOp, go_sem, e0, e1, p3]
    · cases ho
      have hcw := HC.out W
      refine step4_told (.slice A2 sz c2') ?_ (by decide) (hG.same (by decide) (by decide)) hT rfl
      have e0 : a.eval (.tmp 21) = .slice RA (sz * n) rc := hT 4 (hh 4 rfl)
      have e1 : a.eval (.tmp 28) = .int .i64 (p : Int) := hT 11 (hh 11 rfl)
      have e2 : a.eval (.tmp 36) = .int .i64 ((p : Int) + (sz : Int)) := hT 19 (hh 19 rfl)
      generalize a.eval = ev at e0 e1 e2 ⊢
      simp [execOp, go_sem, e0, e1, e2, hcw]
    · cases ho
      obtain ⟨g1, g2⟩ := hG
      have e0 : a.eval (.tmp 17) = .slice (some ⟨w.heap.size, 0, none⟩) 0 0 := hT 0 (hh 0 rfl)
      have e1 : a.eval (.tmp 37) = .slice A2 sz c2' := hT 20 (hh 20 rfl)
      have hown := g2 hi
      rw [if_pos (hh 0 rfl)] at hown
      obtain ⟨i0, hi0, hz0, hz1, hz2⟩ := info_parts u8info
      obtain ⟨v', w', hrun, hl⟩ := run_append_rd (P := Tryz.prog) W 34 34 5 i0 _ 1 1 Tryz.underlying34 hi0 hz0 hz1 hz2 rfl (by decide) _ 0 _ hown w.heap.size A2 sz c2' _ (HRD.out.below g1) HA2.out (u8s_one _) (by unfold maxLen; omega) (by omega)
      have hl2 := hl
      obtain ⟨ho', hg', hv'⟩ := hl
      have hB' : Below w.heap.size w w' := longer_below g1 g1.size (fun g e => by simp [Value.ownBlock] at e; omega) hl2
      refine step4_turned v' w' ?_ (by decide) ⟨hB', fun hx => by simp at hx⟩ (fun j hj => ?_) ⟨by rw [Nat.zero_add, show u8s [] ++ u8s ((bs.drop p).take sz) = u8s ((bs.drop p).take sz) from rfl] at ho'; exact ho', longer_from hl2 g1.size (fun g e => by simp [Value.ownBlock] at e; omega)⟩
      · exact exec_append _ _ (.tmp 17) (.tmp 37) 34 rfl _ _ e0 e1 hrun
      · have hTj := hT j hj
        unfold TVal at hTj ⊢
        split at hTj
        all_goals first
          | exact hTj
          | (rw [hi] at hj; cases hj)
          | (have := hcl _ _ hj rfl 21 (by kernel_rfl); rw [hi] at this; cases this)
    · cases ho
      obtain ⟨h1, h2⟩ : OwnB W w.heap.size (a.eval (.tmp 38)) sz ((bs.drop p).take sz) := hT 21 (hh 21 rfl)
      generalize hv : a.eval (.tmp 38) = vv at h1 h2
      refine step4_told vv ?_ (by decide) (hG.same (by decide) (by decide)) hT ⟨h1, h2⟩
      generalize a.eval = ev at hv ⊢
      simp [execOp, go_sem, hv]
    · cases ho
      refine step4_told (.int .i64 0) ?_ (by decide) (hG.same (by decide) (by decide)) hT rfl
      have ec : a.eval (.const (.int .i64 0)) = .int .i64 0 := rfl
      generalize a.eval = ev at ec ⊢
      simp [execOp, go_sem, ec]
  · intro a W hd hs hold hT hG
    have hown : OwnB W w.heap.size (a.tmps.getD 4 undef) sz ((bs.drop p).take sz) := hT 22 (by decide)
    have h5 : a.tmps.getD 5 undef = .int .i64 0 := hT 23 (by decide)
    obtain ⟨f, hf, ha⟩ := act_puts [17, 18, 19, 20, 21, 22, 23, 24, 25, 26, 27, 28, 29, 30, 31, 32, 33, 34, 35, 36, 37, 38, 4, 5] (fun t ht => by
      by_cases h : t ∈ [17, 18, 19, 20, 21, 22, 23, 24, 25, 26, 27, 28, 29, 30, 31, 32, 33, 34, 35, 36, 37, 38, 4, 5]
      · exact h
      · exfalso
        simp [unwritten] at ht
        simp only [List.mem_cons, not_or] at h
        obtain ⟨h0, h1, h2, h3, h4, h5, h6, h7, h8, h9, h10, h11, h12, h13, h14, h15, h16, h17, h18, h19, h20, h21, h22, h23, _⟩ := h
        exact absurd (ht (fun e => h0 e.symm) (fun e => h1 e.symm) (fun e => h2 e.symm) (fun e => h3 e.symm) (fun e => h4 e.symm) (fun e => h5 e.symm) (fun e => h6 e.symm) (fun e => h7 e.symm) (fun e => h8 e.symm) (fun e => h9 e.symm) (fun e => h10 e.symm) (fun e => h11 e.symm) (fun e => h12 e.symm) (fun e => h13 e.symm) (fun e => h14 e.symm) (fun e => h15 e.symm) (fun e => h16 e.symm) (fun e => h17 e.symm) (fun e => h18 e.symm) (fun e => h19 e.symm) (fun e => h20 e.symm) (fun e => h21 e.symm) (fun e => h22 e.symm)) (fun e => h23 e.symm)) (fun t ht => by
      have hsz : t < 39 := by
        simp only [List.mem_cons, List.mem_nil_iff, or_false] at ht
        omega
      exact hsz) hd hs hold
    rw [← hf 4] at hown
    rw [← hf 5] at h5
    obtain ⟨A4, c4', e4, _⟩ := owns_slice hown.1
    rw [e4] at hown
    have HO := hide hown
    have HB := hide hG.1
    subst ha
    clear hd hs hold hT hf hown hG p1 p2 p3
    show K _ _
    refine hK _ _ ?_
    simp only [List.foldl_cons, List.foldl_nil, e4, h5]
    obtain ⟨u17, hu17⟩ : ∃ u, u = f 17 := ⟨_, rfl⟩
    obtain ⟨u18, hu18⟩ : ∃ u, u = f 18 := ⟨_, rfl⟩
    obtain ⟨u19, hu19⟩ : ∃ u, u = f 19 := ⟨_, rfl⟩
    obtain ⟨u20, hu20⟩ : ∃ u, u = f 20 := ⟨_, rfl⟩
    obtain ⟨u21, hu21⟩ : ∃ u, u = f 21 := ⟨_, rfl⟩
    obtain ⟨u22, hu22⟩ : ∃ u, u = f 22 := ⟨_, rfl⟩
    obtain ⟨u23, hu23⟩ : ∃ u, u = f 23 := ⟨_, rfl⟩
    obtain ⟨u24, hu24⟩ : ∃ u, u = f 24 := ⟨_, rfl⟩
    obtain ⟨u25, hu25⟩ : ∃ u, u = f 25 := ⟨_, rfl⟩
    obtain ⟨u26, hu26⟩ : ∃ u, u = f 26 := ⟨_, rfl⟩
    obtain ⟨u27, hu27⟩ : ∃ u, u = f 27 := ⟨_, rfl⟩
    obtain ⟨u28, hu28⟩ : ∃ u, u = f 28 := ⟨_, rfl⟩
    obtain ⟨u29, hu29⟩ : ∃ u, u = f 29 := ⟨_, rfl⟩
    obtain ⟨u30, hu30⟩ : ∃ u, u = f 30 := ⟨_, rfl⟩
    obtain ⟨u31, hu31⟩ : ∃ u, u = f 31 := ⟨_, rfl⟩
    obtain ⟨u32, hu32⟩ : ∃ u, u = f 32 := ⟨_, rfl⟩
    obtain ⟨u33, hu33⟩ : ∃ u, u = f 33 := ⟨_, rfl⟩
    obtain ⟨u34, hu34⟩ : ∃ u, u = f 34 := ⟨_, rfl⟩
    obtain ⟨u35, hu35⟩ : ∃ u, u = f 35 := ⟨_, rfl⟩
    obtain ⟨u36, hu36⟩ : ∃ u, u = f 36 := ⟨_, rfl⟩
    obtain ⟨u37, hu37⟩ : ∃ u, u = f 37 := ⟨_, rfl⟩
    obtain ⟨u38, hu38⟩ : ∃ u, u = f 38 := ⟨_, rfl⟩
    rw [← hu17, ← hu18, ← hu19, ← hu20, ← hu21, ← hu22, ← hu23, ← hu24, ← hu25, ← hu26, ← hu27, ← hu28, ← hu29, ← hu30, ← hu31, ← hu32, ← hu33, ← hu34, ← hu35, ← hu36, ← hu37, ← hu38]
    clear hu17 hu18 hu19 hu20 hu21 hu22 hu23 hu24 hu25 hu26 hu27 hu28 hu29 hu30 hu31 hu32 hu33 hu34 hu35 hu36 hu37 hu38 e4 h5
    go_simp
    go_wp2
    have hfin : ValTold sz ((bs.drop p).take sz) w (.returned (.tuple #[.slice A4 sz c4', .int .i64 0])) W := ⟨_, rfl, HO.out, HB.out⟩
    go_ret2
    exact hfin
end Go.Proofs.YtihhbpadafgkoaaGreat
