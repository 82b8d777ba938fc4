/-
  A key is deleted.
-/
import Derived.Test.YthefgfcjjbjjkaaTP
namespace Go.Proofs.Ythefgfcjjbjjkaa
open Go.RowKit
set_option linter.unusedVariables false
set_option linter.unusedSimpArgs false

theorem cnt_mono {P : List PL} {p q : List Bool} (h : p <+: q) : cntP P q ≤ cntP P p := List.countP_mono_left fun r _ hr => by
  obtain ⟨b, h1, h2⟩ := begR_iff.1 hr
  exact begR_iff.2 ⟨b, h1, h.trans h2⟩
section
variable {P : List PL} {i g : Nat} {r : PL} {l : List Int}
theorem way_in (hr : P[i]? = some r) (hk : r.k = some (g, l)) : ∀ q, q <+: kb l → prP P q = true ∧ 1 ≤ cntP P q := fun q hq => by
  have h1 : prP P q = true := cntP_pos.2 ⟨i, r, kb l, hr, by simp [keyOf, hk], hq⟩
  exact ⟨h1, by unfold prP at h1; have := of_decide_eq_true h1; omega⟩
theorem way_one (hr : P[i]? = some r) (hk : r.k = some (g, l)) : ∀ p, p <+: kb l → cntP P p = 1 → ∀ q, p <+: q → prP P q = true → q <+: kb l ∧ cntP P q = 1 := fun p hp h1 q hpq hq => by
  obtain ⟨j, s, b, hs, hks, hqb⟩ := cntP_pos.1 hq
  have hij : i = j := by
    by_cases e : i = j
    · exact e
    · have := cnt_two (q := p) e hr hs (begR_iff.2 ⟨kb l, by simp [keyOf, hk], hp⟩) (begR_iff.2 ⟨b, hks, hpq.trans hqb⟩)
      omega
  subst hij
  rw [hr] at hs
  injection hs with hs
  subst hs
  simp [keyOf, hk] at hks
  subst hks
  refine ⟨hqb, ?_⟩
  have := cnt_mono (P := P) hpq
  have h3 : 0 < cntP P q := by unfold prP at hq; simpa using hq
  omega
theorem Tri.removed {w W4 w5 : World} {B : Nat} {t : TP} {N : List Bool → Nat} (h : Tri w B t P N) (hr : P[i]? = some r) (hk : r.k = some (g, l)) (hb4 : Below w.heap.size w W4) (hkp : Kept (fun g => ¬ OfX t (prP P) N g) W4 w5)
    (ht : TreeX w5 t (fun q => prP P q && !(q.isPrefixOf (kb l) && cntP P q == 1)) (fun q => cntP P q - (if q.isPrefixOf (kb l) = true then 1 else 0)) (fun q => if q = kb l then none else thP t.cb P q) N) :
    TGo B t P N (P.set i { r with k := none }) N w (w5.setCell ⟨t.cb, i * 3 + 2, none⟩ (.slice none 0 0)) := by
  have hlt := h.lt
  have hs4 := hb4.size
  have hcnt : ∀ q, cntP (P.set i { r with k := none }) q = cntP P q - (if q.isPrefixOf (kb l) = true then 1 else 0) := fun q => cnt_rem hr hk
  have hpr : ∀ q, prP (P.set i { r with k := none }) q = (prP P q && !(q.isPrefixOf (kb l) && cntP P q == 1)) := fun q => by
    rw [Bool.eq_iff_iff]
    unfold prP
    rw [hcnt]
    cases e : q.isPrefixOf (kb l) with
    | false => simp
    | true =>
      have := (way_in hr hk q (List.isPrefixOf_iff_prefix.1 e)).2
      simp
      omega
  have hw5 : ∀ g, g < w.heap.size → ¬ OfX t (prP P) N g → w5.heap[g]? = w.heap[g]? := fun g h1 h2 => (hkp.block g (Nat.lt_of_lt_of_le h1 hs4) h2).trans (hb4.block g h1)
  have hcb5 : w5.heap[t.cb]? = some (.cells (cellsP t.sz P).toArray 77 (0, 0)) := (hw5 t.cb (at_lt h.cel) (notX h h.cel (by decide))).trans h.cel
  have hcb : (w5.setCell ⟨t.cb, i * 3 + 2, none⟩ (.slice none 0 0)).heap[t.cb]? = some (.cells (cellsP t.sz (P.set i { r with k := none })).toArray 77 (0, 0)) := by
    rw [set_blk hcb5]
    have := cellsF_set t.sz 0 P i r none hr
    unfold cellsP
    rw [← this]
    simp [kslV, Nat.mul_comm]
  have hw' : ∀ g, g < w.heap.size → g ≠ t.cb → ¬ OfX t (prP P) N g → (w5.setCell ⟨t.cb, i * 3 + 2, none⟩ (.slice none 0 0)).heap[g]? = w.heap[g]? := fun g h1 h2 h3 => (set_other h2).trans (hw5 g h1 h3)
  have hsub : ∀ s ∈ P.set i { r with k := none }, ∃ s' ∈ P, s'.g = s.g ∧ s'.v = s.v ∧ (∀ x, s.k = some x → s'.k = some x) := fun s hs => by
    rcases mem_set hs with hs | rfl
    · exact ⟨s, hs, rfl, rfl, fun _ h => h⟩
    · exact ⟨r, List.mem_of_getElem? hr, rfl, rfl, fun x h => by cases h⟩
  have hof : ∀ g, OfT t (P.set i { r with k := none }) N g → OfT t P N g := by
    rintro g ((rfl | ⟨p, hp, rfl⟩) | rfl | ⟨s, hs, rfl⟩ | ⟨s, hs, l2, hk2⟩)
    · exact .inl (.inl rfl)
    · rw [hpr] at hp
      simp only [Bool.and_eq_true] at hp
      exact .inl (.inr ⟨p, hp.1, rfl⟩)
    · exact .inr (.inl rfl)
    · obtain ⟨s', h1, h2, _⟩ := hsub s hs
      exact .inr (.inr (.inl ⟨s', h1, h2.symm⟩))
    · obtain ⟨s', h1, _, _, h3⟩ := hsub s hs
      exact .inr (.inr (.inr ⟨s', h1, l2, h3 _ hk2⟩))
  refine ⟨⟨?_, hcb, by rw [List.length_set]; exact h.len, ?_, ?_, fun g hg => h.low g (hof g hg), ?_, ?_, one_set h.one (.inl rfl) hr, h.big, h.many, h.kbig⟩, ?_, fun g hg => .inl (hof g hg)⟩
  · refine (ht.setBox (g := t.cb) (i := i * 3 + 2) (u := .slice none 0 0) hcb5 ⟨by decide, by decide⟩).congr hpr (fun q hq => ⟨hcnt q, ?_, rfl⟩)
    unfold thP
    rw [find_rem h.one hr hk]
    split <;> rfl
  · intro s hs
    obtain ⟨s', h1, h2, h3, _⟩ := hsub s hs
    obtain ⟨h4, h5⟩ := h.row s' h1
    rw [← h2, ← h3]
    exact ⟨(hw' s'.g (at_lt h4) (blk_ne h4 h.cel (by decide)) (notX h h4 (by decide))).trans h4, h5⟩
  · intro s hs g l2 hk2
    obtain ⟨s', h1, _, _, h3⟩ := hsub s hs
    obtain ⟨h4, h5⟩ := h.key s' h1 g l2 (h3 _ hk2)
    exact ⟨(hw' g (at_lt h4) (blk_ne h4 h.cel (by decide)) (notX h h4 (by decide))).trans h4, h5⟩
  · intro a b x y ha hb hab
    obtain ⟨x', h1, e1⟩ : ∃ x', P[a]? = some x' ∧ x'.g = x.g := by
      by_cases e : i = a
      · subst e; rw [set_at hr] at ha; injection ha with ha; subst ha; exact ⟨r, hr, rfl⟩
      · rw [List.getElem?_set_ne e] at ha; exact ⟨x, ha, rfl⟩
    obtain ⟨y', h2, e2⟩ : ∃ y', P[b]? = some y' ∧ y'.g = y.g := by
      by_cases e : i = b
      · subst e; rw [set_at hr] at hb; injection hb with hb; subst hb; exact ⟨r, hr, rfl⟩
      · rw [List.getElem?_set_ne e] at hb; exact ⟨y, hb, rfl⟩
    rw [← e1, ← e2]
    exact h.sep a b x' y' h1 h2 hab
  · intro x hx s hs g l2 hk2
    obtain ⟨x', h1, e1, _⟩ := hsub x hx
    obtain ⟨s', h2, _, _, h3⟩ := hsub s hs
    rw [← e1]
    exact h.apart x' h1 s' h2 g l2 (h3 _ hk2)
  · refine ⟨hkp.os.trans hb4.os, hkp.tape.trans hb4.tape, hkp.output.trans hb4.output, by rw [World.size_setCell]; exact Nat.le_trans hs4 hkp.size, fun g h1 h2 => ?_⟩
    exact hw' g h1 (fun e => h2 (.inr (.inl e))) (fun h3 => h2 (.inl h3))
end
/-- What Delete tells, and what it makes of the places. -/
def delE (ks : Nat) (P : List PL) (k : List Int) : Int := if refE ks k = 0 then (match findP P (kb k) with | some _ => 0 | none => 6) else 2
def delP (ks : Nat) (P : List PL) (k : List Int) : List PL := if refE ks k = 0 then (match findP P (kb k) with | some i => (match P[i]? with | some r => P.set i { r with k := none } | none => P) | none => P) else P
set_option maxRecDepth 100000 in
set_option maxHeartbeats 2000000 in
theorem del_any (B : Nat) (t : TP) (P : List PL) (N : List Bool → Nat) (A : Option Addr) (n c : Nat) (k : List Int) (w : World) (h : Tri w B t P N) (hk : KR w A n c k) (hA : ∀ ad, A = some ad → ¬ OfT t P N ad.block) :
    Calls Try.prog 15 #[.pointer (some ⟨t.tb, 0, none⟩), .slice A n c] w fun e w' => e = .returned (.int .i64 (delE t.ks P k)) ∧ TGo B t P N (delP t.ks P k) N w w' := by
  have HR := hide (refusal_any B t P N A n c k w h hk)
  rcases refE_cases t.ks k with ⟨he, hn, hr⟩ | ⟨he, _⟩
  · rw [hk.len] at hn
    subst hn
    have HF := hide (find_any B t P N A t.ks c k w h hk rfl hr)
    rw [he] at HR
    cases hl : findP P (kb k) with
    | none =>
      have h2 : delE t.ks P k = 6 ∧ delP t.ks P k = P := by unfold delE delP; rw [if_pos he, if_pos he, hl]; exact ⟨rfl, rfl⟩
      rw [hl] at HF
      rw [h2.1, h2.2]
      have H := hide h
      clear h hk hl he h2 hA
      go_enter Try.func15, Try.ntmps15
      go_wp2_with (first
        | (go_at_call 37; refine HR.out.mono ?_; rintro e w' ⟨rfl, hW⟩; replace hW := hW.symm; subst hW)
        | (go_at_call 42; refine HF.out.mono ?_; rintro e w' ⟨rfl, hb⟩; have HB := hide hb; clear hb))
      go_ret
      exact ⟨rfl, TGo.no H.out HB.out⟩
    | some i =>
      obtain ⟨r, hri, hkr⟩ := findP_some hl
      obtain ⟨g, l, hrk, hkl⟩ : ∃ g l, r.k = some (g, l) ∧ kb l = kb k := by
        unfold keyOf at hkr
        cases hk2 : r.k with
        | none => rw [hk2] at hkr; cases hkr
        | some x => rw [hk2] at hkr; simp at hkr; exact ⟨x.1, x.2, rfl, hkr⟩
      have h2 : delE t.ks P k = 0 ∧ delP t.ks P k = P.set i { r with k := none } := by unfold delE delP; rw [if_pos he, if_pos he, hl]; refine ⟨rfl, ?_⟩; simp only [hri]
      rw [hl] at HF
      simp only [Option.map_some, plA] at HF
      rw [h2.1, h2.2]
      have hkb := h.kbig
      have hmany := h.many
      have hlen := h.len
      have HREM : Hid (∀ w2, Below w.heap.size w w2 → Calls Try.prog 43 #[.pointer (some ⟨t.tb, 2, none⟩), .func (.func 58) #[] #[.pointer (some ⟨w2.heap.size, 0, none⟩)]] ((w2.alloc (.cells #[.slice A t.ks c] 35)).drew) fun e w' => e = .returned (.tuple #[]) ∧
          TGo B t P N (P.set i { r with k := none }) N w (w'.setCell ⟨t.cb, i * 3 + 2, none⟩ (.slice none 0 0)) ∧ (∃ v, w'.cell? ⟨t.cb, i * 3 + 2, none⟩ = some v) ∧ w'.frozen? ⟨t.cb, i * 3 + 2, none⟩ = false) := hide (fun w2 hb2 => by
        have hb4 : Below w.heap.size w ((w2.alloc (.cells #[.slice A t.ks c] 35)).drew) := hb2.trans ((below1 w2 _).drew.mono hb2.size)
        have hbx : Boxed ((w2.alloc (.cells #[.slice A t.ks c] 35)).drew) w2.heap.size 35 (.slice A t.ks c) := Boxed.new w2 _ _
        have hw := way_in hri hrk
        have hw1 := way_one hri hrk
        rw [hkl] at hw hw1
        have hs2 := hb2.size
        refine (rem_any w2.heap.size w.heap.size t.ks c A k t (prP P) (cntP P) (thP t.cb P) N _ hk.byte (by omega) hk.le (by omega) hr (at_lt hbx) (Nat.le_trans hs2 (Nat.le_of_lt (at_lt hbx))) ⟨hbx, hk.rd.below hb4⟩ (h.tree.below (Nat.le_refl _) hb4) (fun q => Nat.le_trans (cntP_le P q) (by omega)) (fun ad e h2 => hA ad e (.inl h2)) hw hw1).mono ?_
        rintro e w' ⟨rfl, hkp, ht⟩
        have hcb5 : w'.heap[t.cb]? = some (.cells (cellsP t.sz P).toArray 77 (0, 0)) := (hkp.block t.cb (Nat.lt_of_lt_of_le (at_lt h.cel) hb4.size) (notX h h.cel (by decide))).trans ((hb4.block _ (at_lt h.cel)).trans h.cel)
        rw [← hkl] at ht
        refine ⟨rfl, h.removed hri hrk hb4 hkp ht, ⟨_, by rw [blk_cell hcb5, Nat.mul_comm i 3]; simpa using (cellsP_at (sz := t.sz) hri).2.2⟩, Joins.unfrozen_of_block hcb5 _⟩)
      clear h hk hl he h2 hA hri hkr hrk hkl hlen hmany
      go_enter Try.func15, Try.ntmps15
      go_wp2_with (first
        | (go_at_call 37; refine HR.out.mono ?_; rintro e w' ⟨rfl, hW⟩; replace hW := hW.symm; subst hW)
        | (go_at_call 42; refine HF.out.mono ?_; rintro e w2 ⟨rfl, hb⟩; have HB := hide hb; clear hb))
      go_region_with (first
        | (go_at_call 39; refine (bits_any _ _ _ _).mono ?_; rintro e w' ⟨rfl, rfl⟩)
        | (go_at_call 43; refine (HREM.out _ HB.out).mono ?_; rintro e w' ⟨rfl, hfin, ⟨v, hv⟩, hfz⟩; have HFN := hide hfin; clear hfin))
      go_wp2_with fail
      go_ret
      exact ⟨rfl, HFN.out⟩
  · have h2 : delE t.ks P k = 2 ∧ delP t.ks P k = P := by unfold delE delP; rw [if_neg (by rw [he]; decide), if_neg (by rw [he]; decide)]; exact ⟨rfl, rfl⟩
    rw [he] at HR
    rw [h2.1, h2.2]
    have H := hide h
    clear h hk he h2 hA
    go_enter Try.func15, Try.ntmps15
    go_wp2_with (go_at_call 37; refine HR.out.mono ?_; rintro e w' ⟨rfl, hW⟩; replace hW := hW.symm; subst hW)
    go_ret
    exact ⟨rfl, TGo.no H.out (Below.refl _ _)⟩
end Go.Proofs.Ythefgfcjjbjjkaa
