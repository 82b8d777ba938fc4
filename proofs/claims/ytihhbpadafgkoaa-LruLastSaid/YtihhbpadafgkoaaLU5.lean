/-
  An lru's small functions.
-/
import Derived.Test.YtihhbpadafgkoaaLU4
namespace Go.Proofs.Ytihhbpadafgkoaa
open Go.RowKit Go.Maps
set_option linter.unusedVariables false
set_option linter.unusedSimpArgs false

theorem lruInfo : (Try.prog.info? 61).isSome = true := by kernel_rfl
theorem eql_same (a : Addr) (w : World) : (binOp .eql 28 (.pointer (some a)) (.pointer (some a))).run Try.prog w = .ok (.bool true) w := by
  obtain ⟨j, hj⟩ := Option.isSome_iff_exists.1 lruInfo
  exact run_eql_ptr_same w a Try.underlying28 hj
theorem eql_none (a : Addr) (w : World) : (binOp .eql 28 (.pointer none) (.pointer (some a))).run Try.prog w = .ok (.bool false) w := by
  have h : ∀ d : Nat, (Op.equalIn (d + 1) 28 (.pointer none) (.pointer (some a))).run Try.prog w = .ok false w := fun d => by
    simp [Op.equalIn, run_underlying Try.underlying28]
  simp only [binOp]
  simp [Op.equal, Op.maxDepth, h 9999]
set_option maxRecDepth 100000 in
theorem is_yes (b : Nat) (w : World) (h : w.cell? ⟨b, 0, none⟩ = some (.pointer (some ⟨b, 0, none⟩))) :
    Calls Try.prog 43 #[.pointer (some ⟨b, 0, none⟩)] w fun e w' => e = .returned (.bool true) ∧ w = w' := by
  have hq := eql_same ⟨b, 0, none⟩ w
  go_enter Try.func43, Try.ntmps43
  go_wp2
  go_ret
  exact ⟨rfl, rfl⟩
theorem is_nil (w : World) : Calls Try.prog 43 #[.pointer none] w fun e w' => e = .returned (.bool false) ∧ w = w' := by
  go_enter Try.func43, Try.ntmps43
  go_wp2
  go_ret
  exact ⟨rfl, rfl⟩
set_option maxRecDepth 100000 in
theorem is_zero (b : Nat) (w : World) (h : w.cell? ⟨b, 0, none⟩ = some (.pointer none)) :
    Calls Try.prog 43 #[.pointer (some ⟨b, 0, none⟩)] w fun e w' => e = .returned (.bool false) ∧ w = w' := by
  have hq := eql_none ⟨b, 0, none⟩ w
  go_enter Try.func43, Try.ntmps43
  go_wp2
  go_ret
  exact ⟨rfl, rfl⟩
/-- An lru that New did not make. -/
def NoU (p : Option Addr) (w0 : World) : Prop := ∀ W, Below w0.heap.size w0 W → Calls Try.prog 43 #[.pointer p] W fun e w' => e = .returned (.bool false) ∧ W = w'
theorem NoU.later {p : Option Addr} {w W : World} (h : NoU p w) (hb : Below w.heap.size w W) : NoU p W := fun W2 h2 => h W2 (hb.trans (h2.mono hb.size))
theorem noU_nil (w : World) : NoU none w := fun W _ => is_nil W
theorem noU_zero {b : Nat} {w : World} (h : w.cell? ⟨b, 0, none⟩ = some (.pointer none)) : NoU (some ⟨b, 0, none⟩) w := fun W hb => is_zero b W ((hb.cell (p := ⟨b, 0, none⟩) (World.block_lt_of_cell? w _ h)).trans h)
theorem refusal_not (p : Option Addr) (A : Option Addr) (n c : Nat) (w : World) (h : NoU p w) :
    Calls Try.prog 45 #[.pointer p, .slice A n c] w fun e w' => e = .returned (.int .i64 1) ∧ w = w' := by
  have H := hide (h w (Below.refl _ _))
  clear h
  go_enter Try.func45, Try.ntmps45
  go_wp2_with (go_at_call 43; refine H.out.mono ?_; rintro e w' ⟨rfl, rfl⟩)
  go_ret
  exact ⟨rfl, rfl⟩
def refE (ks n : Nat) : Int := if n = ks then 0 else 2
set_option maxRecDepth 100000 in
theorem refusal_any (B b mb cb e ks sz : Nat) (L : List LK) (P : List HS) (A : Option Addr) (n c : Nat) (w : World) (h : Lru w B b mb cb e ks sz L P) :
    Calls Try.prog 45 #[.pointer (some ⟨b, 0, none⟩), .slice A n c] w fun en w' => en = .returned (.int .i64 (refE ks n)) ∧ w = w' := by
  have HM := hide (is_yes b w h.c0)
  have c1 := h.c1
  clear h
  unfold refE
  by_cases hn : n = ks
  · rw [if_pos hn]
    subst hn
    go_enter Try.func45, Try.ntmps45
    go_wp2_with (go_at_call 43; refine HM.out.mono ?_; rintro e w' ⟨rfl, rfl⟩)
    go_ret
    exact ⟨rfl, rfl⟩
  · rw [if_neg hn]
    have hq : ((n : Int) == (ks : Int)) = false := by simpa using (fun e => hn (by omega) : (n : Int) ≠ ks)
    have hq2 : ((n : Int) != (ks : Int)) = true := by simpa using (fun e => hn (by omega) : (n : Int) ≠ ks)
    go_enter Try.func45, Try.ntmps45
    go_wp2_with (go_at_call 43; refine HM.out.mono ?_; rintro e w' ⟨rfl, rfl⟩)
    go_ret
    exact ⟨rfl, rfl⟩
/-- Is there such a place? -/
def hasB (n : Nat) (i : Int) : Bool := decide (0 ≤ i) && decide (i < n)
set_option maxRecDepth 100000 in
theorem has_any (b n : Nat) (A : Option Addr) (i : Int) (w : World) (h : w.cell? ⟨b, 5, none⟩ = some (.slice A n n)) :
    Calls Try.prog 56 #[.pointer (some ⟨b, 4, none⟩), .int .i64 i] w fun e w' => e = .returned (.bool (hasB n i)) ∧ w = w' := by
  by_cases h0 : 0 ≤ i
  · by_cases h1 : i < (n : Int)
    · rw [show hasB n i = true by simp [hasB, h0, h1]]
      go_enter Try.func56, Try.ntmps56
      go_wp2
      go_ret
      exact ⟨rfl, rfl⟩
    · rw [show hasB n i = false by simp [hasB, h1]]
      have h2 : decide (i < (n : Int)) = false := by simpa using h1
      go_enter Try.func56, Try.ntmps56
      go_wp2
      go_ret
      exact ⟨rfl, rfl⟩
  · rw [show hasB n i = false by simp [hasB, h0]]
    have h2 : decide (0 ≤ i) = false := by simpa using h0
    go_enter Try.func56, Try.ntmps56
    go_wp2
    go_ret
    exact ⟨rfl, rfl⟩
set_option maxRecDepth 100000 in
theorem leave_any (b n cb i : Nat) (v : Value) (w : World) (h : w.cell? ⟨b, 5, none⟩ = some (.slice (some ⟨cb, 0, none⟩) n n)) (hi : i < n) (hc : w.cell? ⟨cb, i * 2 + 1, none⟩ = some v) (hf : w.frozen? ⟨cb, i * 2 + 1, none⟩ = false) :
    Calls Try.prog 55 #[.pointer (some ⟨b, 4, none⟩), .int .i64 i] w fun e w' => e = .returned (.tuple #[]) ∧ w' = w.setCell ⟨cb, i * 2 + 1, none⟩ (.bool false) := by
  have h0 : (0 : Int) ≤ (i : Int) := by omega
  have h1 : (i : Int) < (n : Int) := by omega
  go_enter Try.func55, Try.ntmps55
  go_wp2
  go_end0
  exact ⟨rfl, rfl⟩
theorem take1_any (v : Value) (t : Bool) (w : World) : Calls Try.prog 63 #[.agg #[v, .bool t]] w fun e w' => e = .returned (.bool (!t)) ∧ Below w.heap.size w w' := by
  have hb := below1 w (.cells #[v, .bool t] 90)
  have hx := World.alloc_heap_new w (.cells #[v, .bool t] 90)
  have HB := hide hb
  have c1 : (w.alloc (.cells #[v, .bool t] 90)).cell? ⟨w.heap.size, 1, none⟩ = some (.bool t) := (blk_cell hx 1).trans rfl
  clear hb hx
  cases t
  all_goals
    go_enter Try.func63, Try.ntmps63
    go_wp2
    go_ret
    exact ⟨rfl, HB.out⟩
set_option maxRecDepth 100000 in
theorem renew_any (e i : Nat) (L : List LK) (r : LK) (w : World) (h : ∃ nx pv, RingM w e L nx pv) (hr : L[i]? = some r) :
    Calls Try.prog 36 #[.agg #[.pointer (some ⟨e, 0, none⟩)], .pointer (some ⟨r.g, 0, none⟩)] w fun en w' => en = .returned (.tuple #[]) ∧ (∃ nx' pv', RingM w' e (L.eraseIdx i ++ [r]) nx' pv') ∧ Kept (fun g => g ∉ e :: L.map LK.g) w w' := by
  obtain ⟨nx, pv, h⟩ := h
  have hb1 := below1 w (.cells #[.pointer (some ⟨e, 0, none⟩)] 56)
  have hx1 := World.alloc_heap_new w (.cells #[.pointer (some ⟨e, 0, none⟩)] 56)
  have hbx : w.heap.size ∉ e :: L.map LK.g := fun hh => by have := h.lt hh; omega
  have hsub : ∀ u, u ∈ e :: (L.eraseIdx i).map LK.g → u ∈ e :: L.map LK.g := fun u hu => by
    rw [map_erase_g] at hu
    rcases List.mem_cons.1 hu with rfl | hu
    · simp
    · exact List.mem_cons_of_mem _ (List.mem_of_mem_eraseIdx hu)
  have hrg : r.g ∈ e :: L.map LK.g := List.mem_cons_of_mem _ (List.mem_map_of_mem (List.mem_of_getElem? hr))
  have hout : r.g ∉ e :: (L.eraseIdx i).map LK.g := fun hu => by
    have h2 := h.nodup
    have hp := ((erase_perm hr).map LK.g)
    rw [List.nodup_cons] at h2
    have h3 := hp.nodup_iff.2 h2.2
    rw [List.map_append, List.nodup_append] at h3
    rcases List.mem_cons.1 hu with e2 | hu
    · exact h2.1 (by rw [← e2]; exact List.mem_map_of_mem (List.mem_of_getElem? hr))
    · exact h3.2.2 r.g hu r.g (by simp) rfl
  have c0 : (w.alloc (.cells #[.pointer (some ⟨e, 0, none⟩)] 56)).cell? ⟨w.heap.size, 0, none⟩ = some (.pointer (some ⟨e, 0, none⟩)) := (blk_cell hx1 0).trans rfl
  have HR := hide (h.below hb1)
  have HB := hide hb1
  have HX := hide hx1
  have HO := hide hout
  have HS := hide hsub
  have HG := hide hrg
  have HBX := hide hbx
  have HHR := hide hr
  clear h hb1 hx1 hout hsub hrg hbx hr
  go_enter Try.func36, Try.ntmps36
  go_wp2_with fail
  generalize w.alloc (.cells #[.pointer (some ⟨e, 0, none⟩)] 56) = W at *
  refine (remove_any e i L r nx pv W HR.out HHR.out).mono ?_
  rintro en w1 ⟨rfl, ⟨nx1, pv1, h1⟩, ⟨q, hl⟩, hk, _⟩
  have c0 : w1.cell? ⟨w.heap.size, 0, none⟩ = some (.pointer (some ⟨e, 0, none⟩)) := (blk_cell ((hk.block _ (at_lt HX.out) HBX.out).trans HX.out) 0).trans rfl
  have H1 := hide h1
  have HL := hide hl
  have HK := hide (below_then HB.out hk)
  clear h1 hl hk
  go_wp2_with fail
  refine (join_any e (L.eraseIdx i) r _ _ nx1 pv1 w1 H1.out HO.out HL.out).mono ?_
  rintro en w2 ⟨rfl, h2, hk2⟩
  have HK2 := hide (keptTrans HK.out (hk2.mono (fun g hg => ⟨fun hh => hg (HS.out g hh), fun e2 => hg (by rw [e2]; exact HG.out)⟩)))
  have H2 := hide h2
  clear h2 hk2 c0
  go_wp2
  go_end0
  exact ⟨rfl, H2.out, HK2.out⟩
end Go.Proofs.Ytihhbpadafgkoaa
