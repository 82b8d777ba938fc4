/-
  What stands between QueueOrder's rounds: the queue, and the law's own rows.
-/
import Derived.Test.YtflpifelamkagaaV10
import Derived.Test.YtflpifelamkagaaV0
namespace Go.Proofs.Ytflpifelamkagaa
open Go.RowKit
set_option linter.unusedVariables false

/-- A queue, and rows beside it, whose bytes those of the queue's values are, all or a part. -/
structure AQ (w : World) (B b : Nat) (st : Bool) (sz n : Nat) (A : Option Addr) (c : Nat) (L : List QR) (v : Value) (gs : List QR) (R : List (List Int)) : Prop where
  que : Que w B b st sz n A c L
  cut : CutRow w 22 v gs.length (gs.map (QR.sl sz))
  same : L.map QR.bs = R
  row : ∀ r ∈ gs, w.ownsRow 0 5 1 (QR.sl sz r) sz (u8s r.bs)
  d1 : ∀ r ∈ gs, ¬ OfQ b A L r.g
  d2 : ∀ g, v.ownBlock = some g → ¬ OfQ b A L g
  low1 : ∀ r ∈ gs, B ≤ r.g
  low2 : ∀ g, v.ownBlock = some g → B ≤ g
section
variable {w w' : World} {B b sz n c : Nat} {st : Bool} {A : Option Addr} {L : List QR} {v : Value} {gs : List QR} {R : List (List Int)}
theorem AQ.later (h : AQ w B b st sz n A c L v gs R) (hb : Below w.heap.size w w') : AQ w' B b st sz n A c L v gs R :=
  ⟨h.que.below hb, h.cut.kept (F := fun _ => True) (Kept.of_below hb) (fun _ _ => trivial), h.same, fun r hr => owns_kept_below (h.row r hr) hb, h.d1, h.d2, h.low1, h.low2⟩
/-- A row of slices and a row of bytes share no block. -/
theorem cut_row {v : Value} {m : Nat} {xs : List Value} {r : QR} {d : List Int} (h : CutRow w 22 v m xs) (hr : w.ownsRow 0 5 1 (QR.sl sz r) sz (u8s d)) : v.ownBlock ≠ some r.g := fun e => by
  rcases h.2 with ⟨rfl, _⟩ | ⟨g, off, cap, cur, rfl, h1, _⟩
  · cases e
  · simp only [Value.ownBlock, Option.some.injEq] at e
    subst e
    rcases hr.2 with ⟨h0, _⟩ | ⟨g', cap', cur', hv, _, hg, _⟩
    · cases h0
    · injection hv with hv
      injection hv with hv
      injection hv with hv
      rw [← hv, h1] at hg
      injection hg with hg
      injection hg with _ ht
      exact absurd ht (by decide)
theorem own_g {r : QR} {k : Nat} (hk : (QR.sl sz r).ownBlock = some k) : r.g = k := by simpa [QR.sl, Value.ownBlock] using hk
/-- A value was pushed, and a row put beside. -/
theorem AQ.pushed {w3 w4 w6 : World} {k : Nat} {A' : Option Addr} {c' : Nat} {r rv : QR} {v1 v2 : Value} {o : Obj} (h : AQ w3 B b st sz n A c L v gs (gs.map QR.bs))
    (hrv : w3.ownsRow 0 5 1 (QR.sl sz rv) sz (u8s rv.bs)) (hrvB : B ≤ rv.g) (hrvQ : ¬ OfQ b A L rv.g) (hbs : r.bs = rv.bs)
    (hq : Que w4 B b st sz n A' c' (L.drop k ++ [r])) (hk : Kept (fun g => g ≠ b ∧ (Value.slice A 0 0).ownBlock ≠ some g) w3 w4) (hsub : ∀ g, OfQ b A' (L.drop k ++ [r]) g → OfQ b A L g ∨ w3.heap.size ≤ g)
    (hv1 : CutRow w3 22 v1 (gs.drop k).length ((gs.drop k).map (QR.sl sz))) (hvb : v1.ownBlock = v.ownBlock)
    (hg : CutGrown (w4.alloc o) w6 22 v1 v2 ((gs.drop k).length + 1) ((gs.drop k).map (QR.sl sz) ++ [QR.sl sz rv])) :
    AQ w6 B b st sz n A' c' (L.drop k ++ [r]) v2 (gs.drop k ++ [rv]) ((gs.drop k ++ [rv]).map QR.bs) := by
  obtain ⟨g1, g2, g3⟩ := hg
  have hb5 := below1 w4 o
  have hv1b : ∀ g, v1.ownBlock = some g → g < w3.heap.size := hv1.lt
  have hk45 : Kept (fun g => v1.ownBlock ≠ some g) w4 w6 := keptTrans (Kept.of_below hb5) g2
  have hnq : ∀ g, ¬ OfQ b A L g → g < w3.heap.size → ¬ OfQ b A' (L.drop k ++ [r]) g := fun g h1 h2 h3 => (hsub g h3).elim h1 (fun h4 => by omega)
  have hv1q : ∀ g, v1.ownBlock = some g → ¬ OfQ b A' (L.drop k ++ [r]) g := fun g hg => hnq g (h.d2 g (by rw [← hvb]; exact hg)) (hv1b g hg)
  have hkeep : ∀ s : QR, w3.ownsRow 0 5 1 (QR.sl sz s) sz (u8s s.bs) → ¬ OfQ b A L s.g → w6.ownsRow 0 5 1 (QR.sl sz s) sz (u8s s.bs) := fun s hs hn => by
    have h4 := owns_kept hs hk (fun g hg => by rw [← own_g hg]; exact ⟨fun e => hn (.inl e), fun e => hn (.inr (.inl e))⟩)
    refine owns_kept h4 hk45 (fun g hg e => ?_)
    rw [← own_g hg] at e
    exact cut_row hv1 hs e
  refine ⟨hq.kept hk45 (fun g hg e => hv1q g e hg), ?_, ?_, fun s hs => ?_, fun s hs => ?_, fun g hg => ?_, fun s hs => ?_, fun g hg => ?_⟩
  · rw [List.length_append, List.map_append]
    exact g1
  · have h1 := h.same
    rw [List.map_append, List.map_append, List.map_drop, List.map_drop, h1, List.map_singleton, List.map_singleton, hbs]
  · rcases List.mem_append.1 hs with hs | hs
    · exact hkeep s (h.row s (List.mem_of_mem_drop hs)) (h.d1 s (List.mem_of_mem_drop hs))
    · simp at hs; subst hs
      exact hkeep s hrv hrvQ
  · rcases List.mem_append.1 hs with hs | hs
    · exact hnq _ (h.d1 s (List.mem_of_mem_drop hs)) ((h.row s (List.mem_of_mem_drop hs)).lt s.g rfl).2
    · simp at hs; subst hs
      exact hnq _ hrvQ (hrv.lt s.g rfl).2
  · rcases g3 with g3 | g3
    · exact hv1q g (g3.symm.trans hg)
    · rw [hg] at g3
      injection g3 with g3
      intro hq2
      have := hq.lt g hq2
      rw [World.size_alloc] at g3
      omega
  · rcases List.mem_append.1 hs with hs | hs
    · exact h.low1 s (List.mem_of_mem_drop hs)
    · simp at hs; subst hs
      exact hrvB
  · rcases g3 with g3 | g3
    · exact h.low2 g (by rw [← hvb, ← g3]; exact hg)
    · rw [hg] at g3
      injection g3 with g3
      have := hq.B_le
      rw [World.size_alloc] at g3
      omega
/-- The same, ready for the append. -/
theorem AQ.ready {w3 w4 : World} {k : Nat} {A' : Option Addr} {c' : Nat} {r rv : QR} {v1 : Value} {o : Obj} (h : AQ w3 B b st sz n A c L v gs (gs.map QR.bs))
    (hrv : w3.ownsRow 0 5 1 (QR.sl sz rv) sz (u8s rv.bs)) (hrvB : B ≤ rv.g) (hrvQ : ¬ OfQ b A L rv.g) (hbs : r.bs = rv.bs)
    (hq : Que w4 B b st sz n A' c' (L.drop k ++ [r])) (hk : Kept (fun g => g ≠ b ∧ (Value.slice A 0 0).ownBlock ≠ some g) w3 w4) (hsub : ∀ g, OfQ b A' (L.drop k ++ [r]) g → OfQ b A L g ∨ w3.heap.size ≤ g)
    (hv1 : CutRow w3 22 v1 (gs.drop k).length ((gs.drop k).map (QR.sl sz))) (hvb : v1.ownBlock = v.ownBlock) :
    CutRow (w4.alloc o) 22 v1 (gs.drop k).length ((gs.drop k).map (QR.sl sz)) ∧ ∀ v2 w6, CutGrown (w4.alloc o) w6 22 v1 v2 ((gs.drop k).length + 1) ((gs.drop k).map (QR.sl sz) ++ [QR.sl sz rv]) →
      AQ w6 B b st sz n A' c' (L.drop k ++ [r]) v2 (gs.drop k ++ [rv]) ((gs.drop k ++ [rv]).map QR.bs) ∧ Below B w3 w6 := by
  refine ⟨(hv1.kept hk (fun g hg => ?_)).kept (F := fun _ => True) (Kept.of_below (below1 w4 o)) (fun _ _ => trivial), fun v2 w6 hg => ⟨h.pushed hrv hrvB hrvQ hbs hq hk hsub hv1 hvb hg, ?_⟩⟩
  · rw [hvb] at hg
    exact ⟨fun e => h.d2 g hg (.inl e), fun e => h.d2 g hg (.inr (.inl e))⟩
  · have h1 : Below B w3 w4 := h.que.low_ hk
    have h2 : Below B w4 (w4.alloc o) := (below1 w4 o).mono hq.B_le
    have h3 : Below B (w4.alloc o) w6 := hg.2.1.to_below (fun g hg2 e => by rw [hvb] at e; have := h.low2 g e; omega) (Nat.le_trans hq.B_le h2.size)
    exact (h1.trans h2).trans h3
theorem CutRow.drop1 {t e : TypeId} {f : QR → Value} (ht : Try.prog.underlying t = some (.slice e)) (hs : (Try.prog.info? e).map (·.size) = some 1) (h : CutRow w e v gs.length (gs.map f)) (h0 : 0 < gs.length) :
    ∃ v', (∀ W, (Instr.slice t v (some (.int .i64 1)) none none).run Try.prog W = .ok v' W) ∧ CutRow w e v' (gs.drop 1).length ((gs.drop 1).map f) ∧ v'.ownBlock = v.ownBlock := by
  cases gs with
  | nil => simp at h0
  | cons s gs => exact CutRow.tail ht hs h
/-- What of the rows is left behind i rounds. -/
def restI (st : Bool) (gs : List QR) (i : Nat) : List (List Int) := if st then (gs.take (gs.length - i)).map QR.bs else (gs.drop i).map QR.bs
def wantI (st : Bool) (m i : Nat) : Nat := if st then m - 1 - i else i
theorem restI_zero (st : Bool) (gs : List QR) : restI st gs 0 = gs.map QR.bs := by cases st <;> simp [restI]
theorem restI_len (st : Bool) (gs : List QR) (i : Nat) : (restI st gs i).length = gs.length - i := by cases st <;> simp [restI] <;> omega
theorem rest_at {i : Nat} (hi : i < gs.length) (hL : L.map QR.bs = restI st gs i) : L.length = gs.length - i ∧ ∃ r s, L[atI st L.length]? = some r ∧ gs[wantI st gs.length i]? = some s ∧ r.bs = s.bs ∧ (L.eraseIdx (atI st L.length)).map QR.bs = restI st gs (i + 1) := by
  have hlen : L.length = gs.length - i := by
    have := congrArg List.length hL
    rw [List.length_map, restI_len] at this
    exact this
  refine ⟨hlen, ?_⟩
  have hat : atI st L.length < L.length := by unfold atI; split <;> omega
  have hw : wantI st gs.length i < gs.length := by unfold wantI; split <;> omega
  refine ⟨L[atI st L.length], gs[wantI st gs.length i], List.getElem?_eq_getElem hat, List.getElem?_eq_getElem hw, ?_, ?_⟩
  · have h1 : (L.map QR.bs)[atI st L.length]? = some (L[atI st L.length]).bs := by rw [List.getElem?_map, List.getElem?_eq_getElem hat]; rfl
    have h2 : (restI st gs i)[atI st L.length]? = some (gs[wantI st gs.length i]).bs := by
      cases st
      · simp only [restI, atI, wantI, Bool.false_eq_true, if_false]
        rw [List.getElem?_map, List.getElem?_drop, Nat.add_zero, List.getElem?_eq_getElem hi]
        rfl
      · simp only [restI, atI, wantI, if_true]
        rw [List.getElem?_map, List.getElem?_take_of_lt (by omega)]
        have e : L.length - 1 = gs.length - 1 - i := by omega
        rw [e, List.getElem?_eq_getElem (by omega)]
        rfl
    rw [hL, h2] at h1
    injection h1 with h1
    exact h1.symm
  · rw [map_erase, hL, List.eraseIdx_eq_take_drop_succ]
    cases st
    · simp only [restI, atI, Bool.false_eq_true, if_false]
      rw [List.take_zero, List.nil_append, ← List.map_drop, List.drop_drop]
    · simp only [restI, atI, if_true]
      have e : L.length - 1 + 1 = gs.length - i := by omega
      rw [e, ← List.map_take, List.take_take, List.drop_eq_nil_of_le (by simp), List.append_nil]
      congr 2
      omega
/-- The next one was told, then taken. -/
theorem AQ.popped {i : Nat} (h : AQ w B b st sz n A c L v gs R) (hr : RemTold B b st sz n A c L i w w') : AQ w' B b st sz n A c (L.eraseIdx i) v gs ((L.eraseIdx i).map QR.bs) ∧ ∀ r ∈ L, w'.ownsRow 0 5 1 (QR.sl sz r) sz (u8s r.bs) := by
  obtain ⟨hq, hk⟩ := hr
  have hsub : ∀ g, OfQ b A (L.eraseIdx i) g → OfQ b A L g := by
    rintro g (hg | hg | ⟨r, hr, hg⟩)
    · exact .inl hg
    · exact .inr (.inl hg)
    · exact .inr (.inr ⟨r, List.mem_of_mem_eraseIdx hr, hg⟩)
  refine ⟨⟨hq, h.cut.kept hk (fun g hg => ⟨fun e => h.d2 g hg (.inl e), fun e => h.d2 g hg (.inr (.inl e))⟩), rfl, fun r hr => owns_kept (h.row r hr) hk (fun g hg => by rw [← own_g hg]; exact ⟨fun e => h.d1 r hr (.inl e), fun e => h.d1 r hr (.inr (.inl e))⟩),
    fun r hr hg => h.d1 r hr (hsub _ hg), fun g hg hq => h.d2 g hg (hsub _ hq), h.low1, h.low2⟩, fun r hr => owns_kept (h.que.row r hr) hk (fun g hg => ?_)⟩
  rw [← own_g hg]
  exact ⟨h.que.b_r hr, h.que.out_r hr⟩
theorem AQ.low (h : AQ w B b st sz n A c L v gs R) (hk : Kept (fun g => g ≠ b ∧ (Value.slice A 0 0).ownBlock ≠ some g) w w') : Below B w w' := h.que.low_ hk
end
end Go.Proofs.Ytflpifelamkagaa
