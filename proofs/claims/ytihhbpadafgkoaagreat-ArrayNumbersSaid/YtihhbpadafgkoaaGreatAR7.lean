/-
  Lookup and Value of an array; what no array tells.
-/
import Derived.Test.YtihhbpadafgkoaaGreatAR4b
import Derived.Test.YtihhbpadafgkoaaGreatAR6
namespace Go.Proofs.YtihhbpadafgkoaaGreat
open Go.RowKit
set_option linter.unusedVariables false

def keyV (l : List Int) : Nat := keyN (fun i => (l.getD i 0).toNat)
theorem key_four {l : List Int} (h : l.length = 4) (hb : ∀ x ∈ l, IsByte x) : l = [(((fun i => (l.getD i 0).toNat) 0 : Nat) : Int), (((fun i => (l.getD i 0).toNat) 1 : Nat) : Int), (((fun i => (l.getD i 0).toNat) 2 : Nat) : Int), (((fun i => (l.getD i 0).toNat) 3 : Nat) : Int)] ∧ ∀ i, (fun i => (l.getD i 0).toNat) i < 256 := by
  match l, h with
  | [a, b, c, d], _ =>
    have h0 := hb a (by simp)
    have h1 := hb b (by simp)
    have h2 := hb c (by simp)
    have h3 := hb d (by simp)
    unfold IsByte at h0 h1 h2 h3
    refine ⟨by simp; omega, fun i => ?_⟩
    match i with
    | 0 => simp; omega
    | 1 => simp; omega
    | 2 => simp; omega
    | 3 => simp; omega
    | i + 4 => simp
theorem place_any (A : Option Addr) (c B : Nat) (l : List Int) (w : World) (hl : l.length = 4) (hb : ∀ x ∈ l, IsByte x) (hr : Rd w B 1 A 4 (u8s l)) (hB : B ≤ w.heap.size) :
    Calls Tryz.prog 82 #[.slice A 4 c] w fun e w' => e = .returned (.int .i64 (keyV l)) ∧ Below w.heap.size w w' := by
  obtain ⟨h1, h2⟩ := key_four hl hb
  rw [h1] at hr
  exact place_yes A c B _ w h2 hr hB
theorem keyV_lt {l : List Int} (hl : l.length = 4) (hb : ∀ x ∈ l, IsByte x) : keyV l < 4294967296 := by
  obtain ⟨_, h2⟩ := key_four hl hb
  unfold keyV keyN
  have h0 := h2 0
  have h1 := h2 1
  have h3 := h2 2
  have h4 := h2 3
  omega
/-- An array that New did not make. -/
def NoA (p : Option Addr) (w0 : World) : Prop := ∀ W, Below w0.heap.size w0 W → Calls Tryz.prog 77 #[.pointer p] W fun e w' => e = .panicked (panicOf 1) ∧ W = w'
/-- What Lookup tells of a key of n bytes. -/
def lookV (n : Nat) (l : List Int) (len : Nat) : Int × Int := if n = 4 then (if keyV l < len then ((keyV l : Int), 0) else (0, 6)) else (0, 2)
set_option maxRecDepth 100000 in
set_option maxHeartbeats 1000000 in
theorem lookIn_not (p : Option Addr) (q : Nat) (W : World) (h0 : W.cell? ⟨q, 0, none⟩ = some (.pointer p)) (h : NoA p W) :
    Calls Tryz.prog 81 #[.pointer (some ⟨q, 0, none⟩), .pointer (some ⟨q + 1, 0, none⟩)] W fun e w' => e = .panicked (panicOf 1) ∧ Below W.heap.size W w' := by
  have H := hide (h W (Below.refl _ _))
  clear h
  go_enter Tryz.func81, Tryz.ntmps81
  go_wp2_with (go_at_call 77; refine H.out.mono ?_; rintro e w' ⟨rfl, rfl⟩)
  exact ⟨rfl, rfl, Below.refl _ _⟩
set_option maxRecDepth 100000 in
set_option maxHeartbeats 1000000 in
theorem lookIn_no (B b cb sz q : Nat) (L : List AR) (A : Option Addr) (n c C : Nat) (l : List Int) (W : World) (h : Arr W B b cb sz L) (h0 : W.cell? ⟨q, 0, none⟩ = some (.pointer (some ⟨b, 0, none⟩))) (h1 : W.cell? ⟨q + 1, 0, none⟩ = some (.slice A n c)) (hql : q + 1 < W.heap.size)
    (hr : Rd W C 1 A n (u8s l)) (hC : C ≤ W.heap.size) (hb : ∀ x ∈ l, IsByte x) (he : (lookV n l L.length).2 ≠ 0) :
    Calls Tryz.prog 81 #[.pointer (some ⟨q, 0, none⟩), .pointer (some ⟨q + 1, 0, none⟩)] W fun e w' => e = .panicked (panicOf (lookV n l L.length).2) ∧ Below W.heap.size W w' := by
  have HM := hide (made_yes b W (by rw [blk_cell h.blk]; rfl))
  by_cases hn : n = 4
  · subst hn
    have hl : l.length = 4 := by have := hr.1; simpa [u8s] using this
    have HP := hide (place_any A c C l W hl hb hr hC)
    unfold lookV at he ⊢
    rw [if_pos rfl] at he ⊢
    by_cases hk : keyV l < L.length
    · rw [if_pos hk] at he; exact absurd rfl he
    · rw [if_neg hk]
      have HH := hide (fun W' (hw : Below W.heap.size W W') => has_any b L.length (some ⟨cb, 0, none⟩) (keyV l) W' ((h.below hw).cells))
      rw [show hasB L.length (keyV l : Int) = false by simp [hasB]; omega] at HH
      clear h hr hb he hl
      generalize keyV l = kv at *
      go_enter Tryz.func81, Tryz.ntmps81
      go_wp2_with (first
        | (go_at_call 77; refine HM.out.mono ?_; rintro e w' ⟨rfl, rfl⟩)
        | (go_at_call 82; refine HP.out.mono ?_; rintro e w1 ⟨rfl, hbb⟩; have HB := hide hbb; have d0 := (hbb.cell (p := ⟨q, 0, none⟩) (by show q < _; omega)).trans h0; clear hbb)
        | (go_at_call 83; refine (HH.out _ HB.out).mono ?_; rintro e w' ⟨rfl, rfl⟩)
        | (go_at_call 28; ((with_reducible refine (demand_no _ _).mono ?_)); rintro e w' ⟨rfl, rfl⟩))
      exact ⟨rfl, rfl, HB.out⟩
  · have HP := hide (place_no A n c W hn)
    unfold lookV
    rw [if_neg hn]
    clear h hr hb he
    go_enter Tryz.func81, Tryz.ntmps81
    go_wp2_with (first
      | (go_at_call 77; refine HM.out.mono ?_; rintro e w' ⟨rfl, rfl⟩)
      | (go_at_call 82; refine HP.out.mono ?_; rintro e w1 ⟨rfl, rfl⟩))
    exact ⟨rfl, rfl, Below.refl _ _⟩
set_option maxRecDepth 100000 in
set_option maxHeartbeats 1000000 in
theorem lookIn_yes (B b cb sz q : Nat) (L : List AR) (A : Option Addr) (c C : Nat) (l : List Int) (W : World) (h : Arr W B b cb sz L) (h0 : W.cell? ⟨q, 0, none⟩ = some (.pointer (some ⟨b, 0, none⟩))) (h1 : W.cell? ⟨q + 1, 0, none⟩ = some (.slice A 4 c)) (hql : q + 1 < W.heap.size)
    (hr : Rd W C 1 A 4 (u8s l)) (hC : C ≤ W.heap.size) (hb : ∀ x ∈ l, IsByte x) (hk : keyV l < L.length) :
    Calls Tryz.prog 81 #[.pointer (some ⟨q, 0, none⟩), .pointer (some ⟨q + 1, 0, none⟩)] W fun e w' => e = .returned (.int .i64 (keyV l)) ∧ Below W.heap.size W w' := by
  have HM := hide (made_yes b W (by rw [blk_cell h.blk]; rfl))
  have hl : l.length = 4 := by have := hr.1; simpa [u8s] using this
  have HP := hide (place_any A c C l W hl hb hr hC)
  have HH := hide (fun W' (hw : Below W.heap.size W W') => has_any b L.length (some ⟨cb, 0, none⟩) (keyV l) W' ((h.below hw).cells))
  rw [show hasB L.length (keyV l : Int) = true by simp [hasB]; omega] at HH
  clear h hr hb hl hk
  generalize keyV l = kv at *
  go_enter Tryz.func81, Tryz.ntmps81
  go_wp2_with (first
    | (go_at_call 77; refine HM.out.mono ?_; rintro e w' ⟨rfl, rfl⟩)
    | (go_at_call 82; refine HP.out.mono ?_; rintro e w1 ⟨rfl, hbb⟩; have HB := hide hbb; have d0 := (hbb.cell (p := ⟨q, 0, none⟩) (by show q < _; omega)).trans h0; clear hbb)
    | (go_at_call 83; refine (HH.out _ HB.out).mono ?_; rintro e w' ⟨rfl, rfl⟩)
    | (go_at_call 28; ((with_reducible refine (demand_yes _ _).mono ?_)); rintro e w' ⟨rfl, rfl⟩))
  go_ret
  exact ⟨rfl, HB.out⟩
end Go.Proofs.YtihhbpadafgkoaaGreat
