/-
  Each call that changes, of the program's array and of the document's; what stands beside them.
-/
import Derived.Test.YtihhbpadafgkoaaGreatSI
import Derived.Test.YtihhbpadafgkoaaGreatRT8
namespace Go.Proofs.YtihhbpadafgkoaaGreat
open Go.RowKit
set_option linter.unusedVariables false

def updL (L : List AR) (sz n : Nat) (l : List Int) (q : Nat) (fl : Int) (d : List Int) : List AR := if updE L.length sz n l q fl = 0 then putL L (keyV l) 0 d else L
def setL (L : List AR) (sz : Nat) (i off : Int) (k : Nat) (d : List Int) : List AR := if setE L.length sz i off k = 0 then putL L i.toNat off.toNat d else L
theorem updE_yes {len sz n : Nat} {l : List Int} {k : Nat} {fl : Int} (he : updE len sz n l k fl = 0) : n = 4 ∧ k = sz ∧ fl ≤ 2 ∧ keyV l < len ∧ fl ≠ 1 := by
  unfold updE at he
  by_cases hn : n = 4
  · rw [if_pos hn] at he
    by_cases hk : k = sz ∧ fl ≤ 2
    · rw [if_pos hk] at he
      by_cases hv : keyV l < len
      · rw [if_pos hv] at he
        by_cases h1 : fl = 1
        · rw [if_pos h1] at he; cases he
        · exact ⟨hn, hk.1, hk.2, hv, h1⟩
      · rw [if_neg hv] at he; cases he
    · rw [if_neg hk] at he; cases he
  · rw [if_neg hn] at he; cases he
theorem setE_yes {len sz k : Nat} {i off : Int} (he : setE len sz i off k = 0) : ∃ a o : Nat, i = a ∧ off = o ∧ a < len ∧ o + k ≤ sz := by
  unfold setE at he
  by_cases hi : hasB len i = true
  · rw [if_pos hi] at he
    by_cases hf : fitsB sz off k = true
    · simp only [hasB, fitsB, Bool.and_eq_true, decide_eq_true_eq] at hi hf
      exact ⟨i.toNat, off.toNat, by omega, by omega, by omega, by omega⟩
    · rw [if_neg hf] at he; cases he
  · rw [if_neg hi] at he; cases he
theorem updL_len (L : List AR) (sz n : Nat) (l : List Int) (q : Nat) (fl : Int) (d : List Int) : (updL L sz n l q fl d).length = L.length := by unfold updL; split <;> simp [putL_len]
theorem setL_len (L : List AR) (sz : Nat) (i off : Int) (k : Nat) (d : List Int) : (setL L sz i off k d).length = L.length := by unfold setL; split <;> simp [putL_len]
theorem OfA.upd {b cb sz sz' n q : Nat} {L : List AR} {l d : List Int} {fl : Int} {g : Nat} (h : OfA b cb sz (updL L sz' n l q fl d) g) : OfA b cb sz L g := by
  unfold updL at h
  split at h
  · exact h.put
  · exact h
theorem OfA.set {b cb sz sz' k : Nat} {L : List AR} {d : List Int} {i off : Int} {g : Nat} (h : OfA b cb sz (setL L sz' i off k d) g) : OfA b cb sz L g := by
  unfold setL at h
  split at h
  · exact h.put
  · exact h
theorem upd_both {B b cb sz : Nat} {L : List AR} {A S : Option Addr} {n c C k sc D : Nat} {fl : Int} {l d : List Int} {w : World} (h : Arr w B b cb sz L) (hr : Rd w C 1 A n (u8s l)) (hC : C ≤ w.heap.size) (hb : ∀ x ∈ l, IsByte x) (hd : Rd w D 1 S k (u8s d)) (hD : D ≤ w.heap.size) :
    Calls Tryz.prog 36 #[.pointer (some ⟨b, 0, none⟩), .slice A n c, .slice S k sc, .int .u64 fl] w fun e w' => e = .returned (.int .i64 (updE L.length sz n l k fl)) ∧ Arr w' B b cb sz (updL L sz n l k fl d) ∧ Kept (fun g => ¬ OfA b cb sz L g) w w' := by
  unfold updL
  by_cases he : updE L.length sz n l k fl = 0
  · rw [if_pos he, he]
    exact upd_yes B b cb sz L A S n c C k sc D fl l d w h hr hC hb hd hD he
  · rw [if_neg he]
    exact (upd_no B b cb sz L A S n c C k sc fl l w h hr hC hb he).mono (fun e w' ⟨h1, h2⟩ => ⟨h1, h.below h2, Kept.of_below h2⟩)
theorem set_both {B b cb sz : Nat} {L : List AR} {i off : Int} {S : Option Addr} {k sc D : Nat} {d : List Int} {w : World} (h : Arr w B b cb sz L) (ho : off ≤ 9223372036854775807) (hd : Rd w D 1 S k (u8s d)) (hD : D ≤ w.heap.size) :
    Calls Tryz.prog 38 #[.pointer (some ⟨b, 0, none⟩), .int .i64 i, .int .i64 off, .slice S k sc] w fun e w' => e = .returned (.int .i64 (setE L.length sz i off k)) ∧ Arr w' B b cb sz (setL L sz i off k d) ∧ Kept (fun g => ¬ OfA b cb sz L g) w w' := by
  unfold setL
  by_cases he : setE L.length sz i off k = 0
  · rw [if_pos he, he]
    obtain ⟨a, o, rfl, rfl, ha, hf⟩ := setE_yes he
    exact set_yes B b cb sz a o D L L[a] S k sc d w h (List.getElem?_eq_getElem ha) hd hD hf
  · rw [if_neg he]
    exact (set_no B b cb sz L i off S k sc w h ho he).mono (fun e w' ⟨h1, h2⟩ => ⟨h1, h.below h2, Kept.of_below h2⟩)
theorem rupd_both {B x sz rc : Nat} {RA : Option Addr} {L : List AR} {A S : Option Addr} {n c C k sc D : Nat} {fl : Int} {l d : List Int} {w : World} (h : RArr w B x sz L.length RA rc (flat L)) (hl : ∀ r ∈ L, r.bs.length = sz) (hr : Rd w C 1 A n (u8s l)) (hb : ∀ x ∈ l, IsByte x) (hd : Rd w D 1 S k (u8s d)) (hD : D ≤ w.heap.size) :
    Calls Tryz.prog 72 #[.pointer (some ⟨x, 0, none⟩), .slice A n c, .slice S k sc, .int .u64 fl] w fun e w' => e = .returned (.int .i64 (updE L.length sz n l k fl)) ∧ RArr w' B x sz L.length RA rc (flat (updL L sz n l k fl d)) ∧ Kept (fun g => ¬ OfR x (.slice RA (sz * L.length) rc) g) w w' := by
  unfold updL
  by_cases he : updE L.length sz n l k fl = 0
  · rw [if_pos he, he]
    obtain ⟨rfl, rfl, hf, hv, h1⟩ := updE_yes he
    have hdl : d.length = k := by have := hd.1; simpa [u8s] using this
    rw [← flat_put hl (List.getElem?_eq_getElem hv) (by omega)]
    exact rupd_yes B x k L.length rc RA (flat L) A S c C D sc l d fl w h hr hb hf h1 hv hd hD
  · rw [if_neg he]
    exact (rupd_no B x sz L.length rc RA (flat L) A S n c C k sc l fl w h hr hb he).mono (fun e w' ⟨h1, h2⟩ => ⟨h1, h.below h2, Kept.of_below h2⟩)
theorem rset_both {B x sz rc : Nat} {RA : Option Addr} {L : List AR} {i off : Int} {S : Option Addr} {k sc D : Nat} {d : List Int} {w : World} (h : RArr w B x sz L.length RA rc (flat L)) (hl : ∀ r ∈ L, r.bs.length = sz) (ho : off ≤ 9223372036854775807) (hk : (k : Int) ≤ 140737488351232) (hd : Rd w D 1 S k (u8s d)) (hD : D ≤ w.heap.size) :
    Calls Tryz.prog 74 #[.pointer (some ⟨x, 0, none⟩), .int .i64 i, .int .i64 off, .slice S k sc] w fun e w' => e = .returned (.int .i64 (setE L.length sz i off k)) ∧ RArr w' B x sz L.length RA rc (flat (setL L sz i off k d)) ∧ Kept (fun g => ¬ OfR x (.slice RA (sz * L.length) rc) g) w w' := by
  unfold setL
  by_cases he : setE L.length sz i off k = 0
  · rw [if_pos he, he]
    obtain ⟨a, o, rfl, rfl, ha, hf⟩ := setE_yes he
    have hdl : d.length = k := by have := hd.1; simpa [u8s] using this
    have hp := flat_put (off := o) (d := d) hl (List.getElem?_eq_getElem ha) (by omega)
    simp only [Int.toNat_natCast]
    rw [← hp]
    exact rset_yes B x sz L.length rc a o D RA (flat L) S k sc d w h ha hd hD hf
  · rw [if_neg he]
    exact (rset_no B x sz L.length rc RA (flat L) i off S k sc w h ho hk he).mono (fun e w' ⟨h1, h2⟩ => ⟨h1, h.below h2, Kept.of_below h2⟩)
/-- What a step has beside the arrays: its deed's box, and the rows that it lent. -/
structure Fr (W : World) (bx : Nat) (cs : Array Value) (g1 n1 : Nat) (x1 : List Value) (g2 n2 : Nat) (x2 : List Value) : Prop where
  box : W.heap[bx]? = some (.cells cs 37 (0, 0))
  r1 : Row W g1 (n1 + 12) 5 1 (n1 + 12) x1
  r2 : Row W g2 (n2 + 12) 5 1 (n2 + 12) x2
theorem Fr.kept {W W' : World} {bx g1 n1 g2 n2 : Nat} {cs : Array Value} {x1 x2 : List Value} {F : Nat → Prop} (h : Fr W bx cs g1 n1 x1 g2 n2 x2) (hk : Kept F W W') (hb : F bx) (h1 : F g1) (h2 : F g2) : Fr W' bx cs g1 n1 x1 g2 n2 x2 :=
  ⟨(hk.block _ (at_lt h.box) hb).trans h.box, owns_kept h.r1 hk (fun g hg => by simp [Value.ownBlock] at hg; rw [← hg]; exact h1), owns_kept h.r2 hk (fun g hg => by simp [Value.ownBlock] at hg; rw [← hg]; exact h2)⟩
theorem Fr.below {W W' : World} {bx g1 n1 g2 n2 : Nat} {cs : Array Value} {x1 x2 : List Value} (h : Fr W bx cs g1 n1 x1 g2 n2 x2) (hb : Below W.heap.size W W') : Fr W' bx cs g1 n1 x1 g2 n2 x2 := h.kept (F := fun _ => True) (Kept.of_below hb) trivial trivial trivial
theorem row_head {W : World} {g n : Nat} {l : List Int} {ms : List Value} (h : Row W g (n + 12) 5 1 (n + 12) (u8s l ++ ms)) (hl : l.length = n) : Rd W (g + 1) 1 (some ⟨g, 0, none⟩) n (u8s l) := by
  have h1 := Rd.of_owns h
  refine ⟨by simp [u8s, hl], fun hn => ?_⟩
  obtain ⟨ad, e, hlt, hc⟩ := h1.2 (by omega)
  cases e
  refine ⟨_, rfl, hlt, fun j u hu => hc j u ?_⟩
  rw [List.getElem?_append_left (by have := (List.getElem?_eq_some_iff.1 hu).1; exact this)]
  exact hu
end Go.Proofs.YtihhbpadafgkoaaGreat
