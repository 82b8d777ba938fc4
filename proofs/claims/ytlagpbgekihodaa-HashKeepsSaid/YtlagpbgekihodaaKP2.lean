/-
  What HashKeeps remembers, in memory: a hash, two maps.
-/
import Derived.Test.YtlagpbgekihodaaKP1
namespace Go.Proofs.Ytlagpbgekihodaa
open Go.RowKit Go.Maps Go.Sort
set_option linter.unusedVariables false

structure KS (w wr : World) (S n ks sz b cb mb ma mt B1 i : Nat) (L : List HS) (fT : Lit → Option Value) : Prop where
  box : wr.heap[S]? = some (.cells #[.int .u8 2, .int .i64 ks, .int .i64 sz, .int .i64 n] 50 (0, 0))
  h : Hsh wr B1 b cb mb ks sz L
  len : L.length = n
  all : KMap Try.prog 9 9 wr ma (takenK L) (allF L)
  at_ : ∃ N, N ≤ i ∧ KMap Try.prog 9 3 wr mt N fT
  pl : ∀ (k : List UInt8) (j : Nat), findK L k = some j → fT (.string k) = some (.int .i64 (j : Int))
  sep : ¬ OfH b cb mb sz L ma ∧ ¬ OfH b cb mb sz L mt ∧ ma ≠ mt
  low : S < B1 ∧ w.heap.size ≤ S ∧ w.heap.size ≤ B1 ∧ w.heap.size ≤ ma ∧ w.heap.size ≤ mt
  below : Below w.heap.size w wr
theorem zstr : plainElem (H := Unit) Try.prog 9 (.string ByteArray.empty) = some (.lit (.string []), []) := plainElem_string Try.underlying9 (by decide)
theorem encStr_elem {k : List UInt8} (hk : k.length ≤ maxLen) : plainElem (H := Unit) Try.prog 9 (encStr k) = some (.lit (.string k), []) := plainElem_string Try.underlying9 (by simpa [ByteArray.size] using hk)
section
variable {w wr w1 : World} {S n ks sz b cb mb ma mt B1 i : Nat} {L : List HS} {fT : Lit → Option Value} {k : List UInt8}
theorem KS.apart (h : KS w wr S n ks sz b cb mb ma mt B1 i L fT) : S ≠ ma ∧ S ≠ mt ∧ ¬ OfH b cb mb sz L S := by
  obtain ⟨es, c, ha⟩ := h.all.obj
  obtain ⟨N, _, hm⟩ := h.at_
  obtain ⟨es2, c2, ht⟩ := hm.obj
  have hlow := h.low
  refine ⟨fun e => ?_, fun e => ?_, fun e => by have := h.h.low _ e; omega⟩
  · have := h.box; rw [e, ha] at this; cases this
  · have := h.box; rw [e, ht] at this; cases this
theorem KS.mono {i' : Nat} (h : KS w wr S n ks sz b cb mb ma mt B1 i L fT) (hi : i ≤ i') : KS w wr S n ks sz b cb mb ma mt B1 i' L fT := by
  obtain ⟨N, h1, h2⟩ := h.at_
  exact ⟨h.box, h.h, h.len, h.all, ⟨N, Nat.le_trans h1 hi, h2⟩, h.pl, h.sep, h.low, h.below⟩
theorem KS.later {w' : World} (h : KS w wr S n ks sz b cb mb ma mt B1 i L fT) (hb : Below wr.heap.size wr w') : KS w w' S n ks sz b cb mb ma mt B1 i L fT := by
  obtain ⟨N, h1, h2⟩ := h.at_
  exact ⟨(hb.block _ (at_lt h.box)).trans h.box, h.h.below hb, h.len, h.all.same (hb.block _ h.all.lt), ⟨N, h1, h2.same (hb.block _ h2.lt)⟩, h.pl, h.sep, h.low, h.below.trans (hb.mono h.below.size)⟩
/-- The hash has turned; what is remembered has not yet. -/
theorem KS.turned {L' : List HS} (h : KS w wr S n ks sz b cb mb ma mt B1 i L fT) (hk : Kept (fun g => ¬ OfH b cb mb sz L g) wr w1) :
    w1.heap[S]? = some (.cells #[.int .u8 2, .int .i64 ks, .int .i64 sz, .int .i64 n] 50 (0, 0)) ∧ KMap Try.prog 9 9 w1 ma (takenK L) (allF L) ∧ (∃ N, N ≤ i ∧ KMap Try.prog 9 3 w1 mt N fT) ∧ Below w.heap.size w w1 := by
  obtain ⟨a1, a2, a3⟩ := h.apart
  obtain ⟨N, h1, h2⟩ := h.at_
  have hlow := h.low
  exact ⟨(hk.block _ (at_lt h.box) a3).trans h.box, h.all.same (hk.block _ h.all.lt h.sep.1), ⟨N, h1, h2.same (hk.block _ h2.lt h.sep.2.1)⟩, h.below.trans (hk.to_below (fun g hg ho => by have := h.h.low g ho; omega) h.below.size)⟩
theorem KS.deleted {j : Nat} (h : KS w wr S n ks sz b cb mb ma mt B1 i L fT) (hf : findK L k = some j) (hw1 : Hsh w1 B1 b cb mb ks sz (dropK L j)) (hk : Kept (fun g => ¬ OfH b cb mb sz L g) wr w1) (hkl : k.length ≤ maxLen) :
    ∃ w2, (Builtin.delete_ #[54, 9] 0 #[.map (some ma), encStr k]).run Try.prog w1 = .ok (.tuple #[]) w2 ∧ KS w w2 S n ks sz b cb mb ma mt B1 i (dropK L j) fT := by
  obtain ⟨a1, a2, a3⟩ := h.apart
  obtain ⟨g1, g2, ⟨N, g3, g4⟩, g5⟩ := h.turned (L' := L) hk
  obtain ⟨w2, q1, q2, q3⟩ := g2.drop strK Try.underlying54 (keyOf_str_mk Try.underlying9 hkl) trivial 0
  have hA := sameA_dropK L j
  have hnk : Kept (fun g => g ≠ ma) w1 w2 := (Kept.refl _ w1).grown q3 (fun g e _ hh => hh (by cases e; rfl))
  have hlow := h.low
  have hOf : ∀ g, OfH b cb mb sz (dropK L j) g → g ≠ ma := fun g hg e => h.sep.1 (by subst e; exact hg.same hA)
  refine ⟨w2, q1, (hnk.block S (at_lt g1) a1).trans g1, hw1.kept hnk hOf, by rw [dropK_len]; exact h.len, ?_, ⟨N, g3, g4.same (hnk.block _ g4.lt (fun e => h.sep.2.2 e.symm))⟩, fun k' j' hf' => ?_, ⟨fun hg => h.sep.1 (hg.same hA), fun hg => h.sep.2.1 (hg.same hA), h.sep.2.2⟩, hlow, g5.trans (hnk.to_below (fun g hg => by omega) g5.size)⟩
  · have e0 : (allF L (.string k)).isSome = true := by
      rw [allF_str, Option.isSome_map, valAt_some, hf]; rfl
    rw [e0] at q2
    rw [drop_taken hf]
    refine q2.congr (fun x hx => ?_)
    obtain ⟨key, hkey⟩ := hx
    obtain ⟨y, _, rfl, _⟩ := Maps.keyOf_str Try.underlying9 hkey
    rw [setK_str, allF_str, allF_str, drop_val h.h.once hf y]
    by_cases e : y = k
    · rw [if_pos e, if_pos e]; rfl
    · rw [if_neg e, if_neg e]
  · rw [drop_find h.h.once hf k'] at hf'
    split at hf'
    · cases hf'
    · exact h.pl k' j' hf'
theorem KS.undeleted (h : KS w wr S n ks sz b cb mb ma mt B1 i L fT) (hf : findK L k = none) (hb : Below wr.heap.size wr w1) (hkl : k.length ≤ maxLen) :
    ∃ w2, (Builtin.delete_ #[54, 9] 0 #[.map (some ma), encStr k]).run Try.prog w1 = .ok (.tuple #[]) w2 ∧ KS w w2 S n ks sz b cb mb ma mt B1 i L fT := by
  have h' := h.later hb
  obtain ⟨a1, a2, a3⟩ := h'.apart
  obtain ⟨w2, q1, q2, q3⟩ := h'.all.drop strK Try.underlying54 (keyOf_str_mk Try.underlying9 hkl) trivial 0
  have hnk : Kept (fun g => g ≠ ma) w1 w2 := (Kept.refl _ w1).grown q3 (fun g e _ hh => hh (by cases e; rfl))
  have hlow := h.low
  obtain ⟨N, g3, g4⟩ := h'.at_
  refine ⟨w2, q1, (hnk.block S (at_lt h'.box) a1).trans h'.box, h'.h.kept hnk (fun g hg e => h.sep.1 (e ▸ hg)), h.len, ?_, ⟨N, g3, g4.same (hnk.block _ g4.lt (fun e => h.sep.2.2 e.symm))⟩, h.pl, h.sep, hlow, h'.below.trans (hnk.to_below (fun g hg => by omega) h'.below.size)⟩
  have e0 : (allF L (.string k)).isSome = false := by
    rw [allF_str, Option.isSome_map, valAt_some, hf]; rfl
  rw [e0] at q2
  refine q2.congr (fun x hx => ?_)
  obtain ⟨key, hkey⟩ := hx
  obtain ⟨y, _, rfl, _⟩ := Maps.keyOf_str Try.underlying9 hkey
  rw [setK_str]
  by_cases e : y = k
  · rw [if_pos e, e]
    cases hv : allF L (.string k) with
    | none => rfl
    | some v => rw [hv] at e0; cases e0
  · rw [if_neg e]
theorem KS.stored {d : List Int} (h : KS w wr S n ks sz b cb mb ma mt B1 i L fT) (he : pickE L k 0 = 0) (hw1 : Hsh w1 B1 b cb mb ks sz (putB (putK L k) (putAt L k) 0 d)) (hk : Kept (fun g => ¬ OfH b cb mb sz L g) wr w1) (hkl : k.length ≤ maxLen) (hd : d.length = sz) (hi : i < 1000000) :
    ∃ w2, (Instr.mapUpdate 54 (.map (some ma)) (encStr k) (encStr (kb d))).run Try.prog w1 = .ok () w2 ∧ Kept (fun g => g ≠ ma) w1 w2 ∧ ∃ w3, (Instr.mapUpdate 28 (.map (some mt)) (encStr k) (.int .i64 (putAt L k : Nat))).run Try.prog w2 = .ok () w3 ∧
      KS w w3 S n ks sz b cb mb ma mt B1 (i + 1) (putB (putK L k) (putAt L k) 0 d) (setK fT (.string k) (some (.int .i64 (putAt L k : Nat)))) := by
  obtain ⟨a1, a2, a3⟩ := h.apart
  obtain ⟨g1, g2, ⟨N, g3, g4⟩, g5⟩ := h.turned (L' := L) hk
  have hbig := h.h.big
  have hmany := h.h.many
  have hlt : putAt L k < L.length := by
    obtain ⟨r, hr⟩ := putAt_row he
    have := (List.getElem?_eq_some_iff.1 hr).1
    rwa [putK_len] at this
  obtain ⟨w2, q1, q2, q3⟩ := g2.put strK Try.underlying54 h.h.fewer (keyOf_str_mk Try.underlying9 hkl) trivial (encStr_elem (k := kb d) (by rw [kb_len, hd]; unfold maxLen; omega))
  have hA : SameA (putB (putK L k) (putAt L k) 0 d) L := (sameA_putB _ _ _ _).trans (sameA_putK L k)
  have hnk : Kept (fun g => g ≠ ma) w1 w2 := (Kept.refl _ w1).grown q3 (fun g e _ hh => hh (by cases e; rfl))
  have g4' := g4.same (hnk.block _ g4.lt (fun e => h.sep.2.2 e.symm))
  obtain ⟨w3, p1, p2, p3⟩ := g4'.put strK Try.underlying28 (by unfold maxLen; omega) (keyOf_str_mk Try.underlying9 hkl) trivial (plainElem_int (H := Unit) Try.underlying3 (a := (putAt L k : Nat)) (by
    simp [Lit.wf, IntKind.min, IntKind.max, IntKind.bits, IntKind.signed]
    omega))
  have hnk2 : Kept (fun g => g ≠ mt) w2 w3 := (Kept.refl _ w2).grown p3 (fun g e _ hh => hh (by cases e; rfl))
  have hlow := h.low
  have hb2 := g5.trans (hnk.to_below (fun g hg => by omega) g5.size)
  have hdl : ∀ r ∈ L, r.bs.length = d.length := fun r hr => by
    obtain ⟨j, hj⟩ := List.mem_iff_getElem?.1 hr
    rw [h.h.len hj, hd]
  refine ⟨w2, q1, hnk, w3, p1, (hnk2.block S (by have := at_lt g1; have := hnk.size; omega) a2).trans ((hnk.block S (at_lt g1) a1).trans g1), ?_, ?_, ?_, ⟨_, ?_, p2⟩, fun k' j' hf' => ?_, ⟨fun hg => h.sep.1 (hg.same hA), fun hg => h.sep.2.1 (hg.same hA), h.sep.2.2⟩, hlow, hb2.trans (hnk2.to_below (fun g hg => by omega) hb2.size)⟩
  · exact (hw1.kept hnk (fun g hg e => h.sep.1 (by subst e; exact hg.same hA))).kept hnk2 (fun g hg e => h.sep.2.1 (by subst e; exact hg.same hA))
  · rw [putB_len, putK_len]; exact h.len
  · have e1 : (allF L (.string k)).isSome = (findK L k).isSome := by rw [allF_str, Option.isSome_map, valAt_some]
    rw [e1] at q2
    rw [upd_taken he]
    refine (q2.same (hnk2.block _ q2.lt h.sep.2.2)).congr (fun x hx => ?_)
    obtain ⟨key, hkey⟩ := hx
    obtain ⟨y, _, rfl, _⟩ := Maps.keyOf_str Try.underlying9 hkey
    rw [setK_str, allF_str, allF_str, upd_val h.h.once he hdl y]
    by_cases e : y = k
    · rw [if_pos e, if_pos e]; rfl
    · rw [if_neg e, if_neg e]
  · split <;> omega
  · rw [upd_find h.h.once he k'] at hf'
    rw [setK_str]
    by_cases e : k' = k
    · rw [if_pos e] at hf' ⊢
      cases hf'
      rfl
    · rw [if_neg e] at hf' ⊢
      exact h.pl k' j' hf'
theorem KS.is (h : KS w wr S n ks sz b cb mb ma mt B1 i L fT) (hkl : k.length ≤ maxLen) (W : World) (hW : W.heap = wr.heap) : ∃ v, (Instr.lookup 54 (.map (some ma)) (encStr k) true).run Try.prog W = .ok (.tuple #[v, .bool (findK L k).isSome]) W := by
  have ha := h.all.same (w' := W) (by rw [hW])
  cases hf : findK L k with
  | none => exact ⟨_, ha.look_none strK Try.underlying54 (Try.zeroValue9 W) zstr (keyOf_str_mk Try.underlying9 hkl) (by rw [allF_str]; unfold valAt; rw [hf]; rfl)⟩
  | some j =>
    obtain ⟨r, h1, _⟩ := findK_some hf
    exact ⟨encStr (kb r.bs), ha.look strK Try.underlying54 (Try.zeroValue9 W) zstr (keyOf_str_mk Try.underlying9 hkl) (by rw [allF_str]; unfold valAt; rw [hf]; simp [h1])⟩
end
end Go.Proofs.Ytlagpbgekihodaa
