/-
  What each call of a hash tells, and what stands behind it. No program is named here.
-/
import Derived.Test.YtolodcdhpnapmaaGreatHM
import Derived.Test.YtolodcdhpnapmaaGreatWB
import Derived.Test.YtolodcdhpnapmaaGreatCP
namespace Go.Proofs.YtolodcdhpnapmaaGreat
open Go.RowKit Go.Maps
set_option linter.unusedVariables false

/-- The bytes of a key. -/
def kb (l : List Int) : List UInt8 := l.map fun x => UInt8.ofNat x.toNat
theorem kb_len (l : List Int) : (kb l).length = l.length := by simp [kb]
theorem kb_inj {l m : List Int} (hl : ∀ x ∈ l, IsByte x) (hm : ∀ x ∈ m, IsByte x) (h : kb l = kb m) : l = m := by
  induction l generalizing m with
  | nil => cases m with
    | nil => rfl
    | cons b m => simp [kb] at h
  | cons a l ih => cases m with
    | nil => simp [kb] at h
    | cons b m =>
      simp only [kb, List.map_cons, List.cons.injEq] at h
      have ha := hl a (by simp)
      have hb := hm b (by simp)
      have e := congrArg UInt8.toNat h.1
      rw [UInt8.toNat_ofNat', UInt8.toNat_ofNat'] at e
      unfold IsByte at ha hb
      have e2 : a = b := by omega
      rw [e2, ih (fun x hx => hl x (by simp [hx])) (fun x hx => hm x (by simp [hx])) h.2]
def lookE (ks n : Nat) (L : List HS) (k : List UInt8) : Int × Int := if n = ks then (match findK L k with | some i => ((i : Int), 0) | none => (0, 6)) else (0, 2)
def pickE (L : List HS) (k : List UInt8) (fl : Int) : Int := match findK L k with
  | some _ => if fl = 1 then 7 else 0
  | none => if fl = 2 then 6 else (match freeK L with | some _ => 0 | none => 8)
def updE (ks sz n q : Nat) (L : List HS) (k : List UInt8) (fl : Int) : Int := if n = ks then (if q = sz ∧ fl ≤ 2 then pickE L k fl else 2) else 2
def putB (L : List HS) (i off : Nat) (d : List Int) : List HS := match L[i]? with
  | some r => L.set i { r with bs := splice r.bs off d }
  | none => L
def putK (L : List HS) (k : List UInt8) : List HS := match findK L k with
  | some _ => L
  | none => match freeK L with
    | some j => match L[j]? with
      | some r => L.set j { r with key := some k }
      | none => L
    | none => L
/-- The place that a key has behind its update. -/
def putAt (L : List HS) (k : List UInt8) : Nat := match findK L k with
  | some i => i
  | none => (freeK L).getD 0
def updL (ks sz n q : Nat) (L : List HS) (k : List UInt8) (fl : Int) (d : List Int) : List HS := if updE ks sz n q L k fl = 0 then putB (putK L k) (putAt L k) 0 d else L
def dropK (L : List HS) (i : Nat) : List HS := match L[i]? with
  | some r => L.set i { r with key := none }
  | none => L
def delE (ks n : Nat) (L : List HS) (k : List UInt8) : Int := if n = ks then (match findK L k with | some _ => 0 | none => 6) else 2
def delL (ks n : Nat) (L : List HS) (k : List UInt8) : List HS := if n = ks then (match findK L k with | some i => dropK L i | none => L) else L
def setE (len sz : Nat) (i off : Int) (k : Nat) : Int := if (decide (0 ≤ i) && decide (i < len)) = true then (if (decide (0 ≤ off) && decide ((k : Int) ≤ sz - off)) = true then 0 else 32) else 6
def setL (L : List HS) (sz : Nat) (i off : Int) (k : Nat) (d : List Int) : List HS := if setE L.length sz i off k = 0 then putB L i.toNat off.toNat d else L
theorem putB_len (L : List HS) (i off : Nat) (d : List Int) : (putB L i off d).length = L.length := by unfold putB; split <;> simp
theorem putB_some {L : List HS} {i : Nat} {r : HS} (h : L[i]? = some r) (off : Nat) (d : List Int) : putB L i off d = L.set i { r with bs := splice r.bs off d } := by unfold putB; rw [h]
theorem putK_len (L : List HS) (k : List UInt8) : (putK L k).length = L.length := by
  unfold putK
  split
  · rfl
  · split
    · split <;> simp
    · rfl
theorem dropK_len (L : List HS) (i : Nat) : (dropK L i).length = L.length := by unfold dropK; split <;> simp
theorem dropK_some {L : List HS} {i : Nat} {r : HS} (h : L[i]? = some r) : dropK L i = L.set i { r with key := none } := by unfold dropK; rw [h]
theorem updL_len (ks sz n q : Nat) (L : List HS) (k : List UInt8) (fl : Int) (d : List Int) : (updL ks sz n q L k fl d).length = L.length := by
  unfold updL
  split
  · rw [putB_len, putK_len]
  · rfl
theorem delL_len (ks n : Nat) (L : List HS) (k : List UInt8) : (delL ks n L k).length = L.length := by
  unfold delL
  split
  · split
    · exact dropK_len _ _
    · rfl
  · rfl
theorem setL_len (L : List HS) (sz : Nat) (i off : Int) (k : Nat) (d : List Int) : (setL L sz i off k d).length = L.length := by unfold setL; split <;> simp [putB_len]
/-- The rows of a hash stay where they are. -/
def SameA (L M : List HS) : Prop := L.length = M.length ∧ ∀ (i : Nat) (r s : HS), L[i]? = some r → M[i]? = some s → r.A = s.A ∧ r.c = s.c
theorem SameA.refl (L : List HS) : SameA L L := ⟨rfl, fun i r s h h2 => by rw [h] at h2; cases h2; exact ⟨rfl, rfl⟩⟩
theorem SameA.trans {L M N : List HS} (h : SameA L M) (h2 : SameA M N) : SameA L N := ⟨h.1.trans h2.1, fun i r s hr hs => by
  have hi : i < M.length := h.1 ▸ (List.getElem?_eq_some_iff.1 hr).1
  have hm : M[i]? = some M[i] := List.getElem?_eq_getElem hi
  obtain ⟨a1, a2⟩ := h.2 i r _ hr hm
  obtain ⟨b1, b2⟩ := h2.2 i _ s hm hs
  exact ⟨a1.trans b1, a2.trans b2⟩⟩
theorem SameA.set {L : List HS} {i : Nat} {r t : HS} (hr : L[i]? = some r) (h1 : t.A = r.A) (h2 : t.c = r.c) : SameA (L.set i t) L := ⟨by simp, fun j s u hs hu => by
  rcases set_at hs with ⟨rfl, rfl, _⟩ | ⟨_, hs⟩
  · rw [hr] at hu; cases hu; exact ⟨h1, h2⟩
  · rw [hs] at hu; cases hu; exact ⟨rfl, rfl⟩⟩
theorem sameA_putB (L : List HS) (i off : Nat) (d : List Int) : SameA (putB L i off d) L := by
  cases h : L[i]? with
  | none => unfold putB; rw [h]; exact SameA.refl L
  | some r => rw [putB_some h]; exact SameA.set h rfl rfl
theorem sameA_putK (L : List HS) (k : List UInt8) : SameA (putK L k) L := by
  unfold putK
  split
  · exact SameA.refl L
  · split
    · rename_i j _
      split
      · rename_i r hr
        exact SameA.set hr rfl rfl
      · exact SameA.refl L
    · exact SameA.refl L
theorem sameA_dropK (L : List HS) (i : Nat) : SameA (dropK L i) L := by
  cases h : L[i]? with
  | none => unfold dropK; rw [h]; exact SameA.refl L
  | some r => rw [dropK_some h]; exact SameA.set h rfl rfl
theorem sameA_updL (ks sz n q : Nat) (L : List HS) (k : List UInt8) (fl : Int) (d : List Int) : SameA (updL ks sz n q L k fl d) L := by
  unfold updL
  split
  · exact (sameA_putB _ _ _ _).trans (sameA_putK L k)
  · exact SameA.refl L
theorem sameA_delL (ks n : Nat) (L : List HS) (k : List UInt8) : SameA (delL ks n L k) L := by
  unfold delL
  split
  · split
    · exact sameA_dropK L _
    · exact SameA.refl L
  · exact SameA.refl L
theorem sameA_setL (L : List HS) (sz : Nat) (i off : Int) (k : Nat) (d : List Int) : SameA (setL L sz i off k d) L := by
  unfold setL
  split
  · exact sameA_putB _ _ _ _
  · exact SameA.refl L
theorem updE_yes {ks sz n q : Nat} {L : List HS} {k : List UInt8} {fl : Int} (he : updE ks sz n q L k fl = 0) : n = ks ∧ q = sz ∧ fl ≤ 2 ∧ pickE L k fl = 0 := by
  unfold updE at he
  by_cases hn : n = ks
  · rw [if_pos hn] at he
    by_cases hk : q = sz ∧ fl ≤ 2
    · rw [if_pos hk] at he
      exact ⟨hn, hk.1, hk.2, he⟩
    · rw [if_neg hk] at he; cases he
  · rw [if_neg hn] at he; cases he
theorem setE_yes {len sz k : Nat} {i off : Int} (he : setE len sz i off k = 0) : ∃ a o : Nat, i = a ∧ off = o ∧ a < len ∧ o + k ≤ sz := by
  unfold setE at he
  by_cases hi : (decide (0 ≤ i) && decide (i < len)) = true
  · rw [if_pos hi] at he
    by_cases hf : (decide (0 ≤ off) && decide ((k : Int) ≤ sz - off)) = true
    · simp only [Bool.and_eq_true, decide_eq_true_eq] at hi hf
      exact ⟨i.toNat, off.toNat, by omega, by omega, by omega, by omega⟩
    · rw [if_neg hf] at he; cases he
  · rw [if_neg hi] at he; cases he
end Go.Proofs.YtolodcdhpnapmaaGreat
