/-
  Update and Set, whatever is asked: the rows behind them.
-/
import Derived.Test.YtjkoaphomimebaaAL
namespace Go.Proofs.Ytjkoaphomimebaa
open Go.RowKit
set_option linter.unusedVariables false

def updL (L : List AR) (sz n : Nat) (l : List Int) (q : Nat) (fl : Int) (d : List Int) : List AR := if updE L.length sz n l q fl = 0 then putL L (keyV l) 0 d else L
def setL (L : List AR) (sz : Nat) (i off : Int) (k : Nat) (d : List Int) : List AR := if setE L.length sz i off k = 0 then putL L i.toNat off.toNat d else L
theorem updE_yes {len sz n : Nat} {l : List Int} {k : Nat} {fl : Int} (he : updE len sz n l k fl = 0) : n = 4 ∧ k = sz ∧ fl ≤ 2 ∧ keyV l < len ∧ fl ≠ 1 := by
  unfold updE at he
  by_cases hn : n = 4
  · rw [if_pos hn] at he
    by_cases hk : k = sz ∧ fl ≤ 2
    · rw [if_pos hk] at he
      by_cases hv : keyV l < len
      · rw [if_pos hv] at he
        by_cases h1 : fl = 1
        · rw [if_pos h1] at he; cases he
        · exact ⟨hn, hk.1, hk.2, hv, h1⟩
      · rw [if_neg hv] at he; cases he
    · rw [if_neg hk] at he; cases he
  · rw [if_neg hn] at he; cases he
theorem setE_yes {len sz k : Nat} {i off : Int} (he : setE len sz i off k = 0) : ∃ a o : Nat, i = a ∧ off = o ∧ a < len ∧ o + k ≤ sz := by
  unfold setE at he
  by_cases hi : hasB len i = true
  · rw [if_pos hi] at he
    by_cases hf : fitsB sz off k = true
    · simp only [hasB, fitsB, Bool.and_eq_true, decide_eq_true_eq] at hi hf
      exact ⟨i.toNat, off.toNat, by omega, by omega, by omega, by omega⟩
    · rw [if_neg hf] at he; cases he
  · rw [if_neg hi] at he; cases he
theorem updL_len (L : List AR) (sz n : Nat) (l : List Int) (q : Nat) (fl : Int) (d : List Int) : (updL L sz n l q fl d).length = L.length := by unfold updL; split <;> simp [putL_len]
theorem setL_len (L : List AR) (sz : Nat) (i off : Int) (k : Nat) (d : List Int) : (setL L sz i off k d).length = L.length := by unfold setL; split <;> simp [putL_len]
theorem OfA.upd {b cb sz sz' n q : Nat} {L : List AR} {l d : List Int} {fl : Int} {g : Nat} (h : OfA b cb sz (updL L sz' n l q fl d) g) : OfA b cb sz L g := by
  unfold updL at h
  split at h
  · exact h.put
  · exact h
theorem OfA.set {b cb sz sz' k : Nat} {L : List AR} {d : List Int} {i off : Int} {g : Nat} (h : OfA b cb sz (setL L sz' i off k d) g) : OfA b cb sz L g := by
  unfold setL at h
  split at h
  · exact h.put
  · exact h
theorem upd_both {B b cb sz : Nat} {L : List AR} {A S : Option Addr} {n c C k sc D : Nat} {fl : Int} {l d : List Int} {w : World} (h : Arr w B b cb sz L) (hr : Rd w C 1 A n (u8s l)) (hC : C ≤ w.heap.size) (hb : ∀ x ∈ l, IsByte x) (hd : Rd w D 1 S k (u8s d)) (hD : D ≤ w.heap.size) :
    Calls Try.prog 8 #[.pointer (some ⟨b, 0, none⟩), .slice A n c, .slice S k sc, .int .u64 fl] w fun e w' => e = .returned (.int .i64 (updE L.length sz n l k fl)) ∧ Arr w' B b cb sz (updL L sz n l k fl d) ∧ Kept (fun g => ¬ OfA b cb sz L g) w w' := by
  unfold updL
  by_cases he : updE L.length sz n l k fl = 0
  · rw [if_pos he, he]
    exact upd_yes B b cb sz L A S n c C k sc D fl l d w h hr hC hb hd hD he
  · rw [if_neg he]
    exact (upd_no B b cb sz L A S n c C k sc fl l w h hr hC hb he).mono (fun e w' ⟨h1, h2⟩ => ⟨h1, h.below h2, Kept.of_below h2⟩)
theorem set_both {B b cb sz : Nat} {L : List AR} {i off : Int} {S : Option Addr} {k sc D : Nat} {d : List Int} {w : World} (h : Arr w B b cb sz L) (ho : off ≤ 9223372036854775807) (hd : Rd w D 1 S k (u8s d)) (hD : D ≤ w.heap.size) :
    Calls Try.prog 10 #[.pointer (some ⟨b, 0, none⟩), .int .i64 i, .int .i64 off, .slice S k sc] w fun e w' => e = .returned (.int .i64 (setE L.length sz i off k)) ∧ Arr w' B b cb sz (setL L sz i off k d) ∧ Kept (fun g => ¬ OfA b cb sz L g) w w' := by
  unfold setL
  by_cases he : setE L.length sz i off k = 0
  · rw [if_pos he, he]
    obtain ⟨a, o, rfl, rfl, ha, hf⟩ := setE_yes he
    exact set_yes B b cb sz a o D L L[a] S k sc d w h (List.getElem?_eq_getElem ha) hd hD hf
  · rw [if_neg he]
    exact (set_no B b cb sz L i off S k sc w h ho he).mono (fun e w' ⟨h1, h2⟩ => ⟨h1, h.below h2, Kept.of_below h2⟩)
end Go.Proofs.Ytjkoaphomimebaa
