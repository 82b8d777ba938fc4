/-
  A link is dropped; keys are deleted, looked up.
-/
import Derived.Test.YtihhbpadafgkoaaLU7
import Derived.StillTailTactics
namespace Go.Proofs.Ytihhbpadafgkoaa
open Go.RowKit Go.Maps
set_option linter.unusedVariables false
set_option linter.unusedSimpArgs false

/-- What a call makes of an lru. -/
def LGo (B b mb cb e ks sz : Nat) (L : List LK) (P : List HS) (L' : List LK) (P' : List HS) (w w' : World) : Prop :=
  Lru w' B b mb cb e ks sz L' P' ∧ Kept (fun g => ¬ OfU b mb cb e sz L P g) w w' ∧ ∀ g, OfU b mb cb e sz L' P' g → OfU b mb cb e sz L P g ∨ w.heap.size ≤ g
section
variable {w w1 w2 : World} {B b mb cb e ks sz : Nat} {L L' L2 : List LK} {P P' P2 : List HS}
theorem LGo.no (h : Lru w B b mb cb e ks sz L P) (hb : Below w.heap.size w w1) : LGo B b mb cb e ks sz L P L P w w1 := ⟨h.below hb, Kept.of_below hb, fun g hg => .inl hg⟩
theorem LGo.trans (h : LGo B b mb cb e ks sz L P L' P' w w1) (h2 : LGo B b mb cb e ks sz L' P' L2 P2 w1 w2) : LGo B b mb cb e ks sz L P L2 P2 w w2 := by
  obtain ⟨a1, a2, a3⟩ := h
  obtain ⟨b1, b2, b3⟩ := h2
  refine ⟨b1, ⟨b2.os.trans a2.os, b2.tape.trans a2.tape, b2.output.trans a2.output, Nat.le_trans a2.size b2.size, fun k hk hF => ?_⟩, fun g hg => ?_⟩
  · rw [← a2.block k hk hF]
    refine b2.block k (Nat.lt_of_lt_of_le hk a2.size) (fun hc => ?_)
    rcases a3 k hc with h1 | h1
    · exact hF h1
    · omega
  · rcases b3 g hg with h1 | h1
    · exact a3 g h1
    · exact .inr (Nat.le_trans a2.size h1)
theorem LGo.after (hb : Below w.heap.size w w1) (h : LGo B b mb cb e ks sz L P L' P' w1 w2) : LGo B b mb cb e ks sz L P L' P' w w2 :=
  ⟨h.1, below_then hb h.2.1, fun g hg => (h.2.2 g hg).imp id (fun h1 => Nat.le_trans hb.size h1)⟩
theorem LGo.below (h : LGo B b mb cb e ks sz L P L' P' w w1) (hb : Below w1.heap.size w1 w2) : LGo B b mb cb e ks sz L P L' P' w w2 := h.trans (LGo.no h.1 hb)
/-- Its places' blocks are the same if their rows are. -/
theorem OfU.rows {g : Nat} (hA : SameA P' P) (h : OfU b mb cb e sz L P' g) : OfU b mb cb e sz L P g := by
  rcases h with h | h | h | h | ⟨r, hr, hg⟩
  · exact .inl h
  · exact .inr (.inl h)
  · exact .inr (.inr (.inl h))
  · exact .inr (.inr (.inr (.inl h)))
  · obtain ⟨i, hi⟩ := List.mem_iff_getElem?.1 hr
    have hl : i < P.length := hA.1 ▸ (List.getElem?_eq_some_iff.1 hi).1
    obtain ⟨h1, h2⟩ := hA.2 i r _ hi (List.getElem?_eq_getElem hl)
    exact .inr (.inr (.inr (.inr ⟨P[i], List.getElem_mem hl, by unfold HS.sl at hg ⊢; rw [← h1, ← h2]; exact hg⟩)))
theorem OfU.links {g : Nat} (hL : ∀ r ∈ L', r ∈ L) (h : OfU b mb cb e sz L' P g) : OfU b mb cb e sz L P g := by
  rcases h with h | h | h | h | h
  · exact .inl h
  · exact .inr (.inl h)
  · exact .inr (.inr (.inl h))
  · refine .inr (.inr (.inr (.inl ?_)))
    rcases List.mem_cons.1 h with h | h
    · simp [h]
    · obtain ⟨r, hr, rfl⟩ := List.mem_map.1 h
      exact List.mem_cons_of_mem _ (List.mem_map_of_mem (hL r hr))
  · exact .inr (.inr (.inr (.inr h)))
/-- A link is out of the ring: its key goes from the map, and leaves its place. -/
theorem Lru.dropped {i : Nat} {r : LK} (h : Lru w B b mb cb e ks sz L P) (hr : L[i]? = some r) (hring : ∃ nx pv, RingM w1 e (L.eraseIdx i) nx pv) (hk : Kept (fun g => g ∉ e :: L.map LK.g) w w1) :
    ∃ w2, (Builtin.delete_ #[53, 9] 0 #[.map (some mb), encStr r.k]).run Try.prog w1 = .ok (.tuple #[]) w2 ∧ w2.cell? ⟨b, 5, none⟩ = some (.slice (some ⟨cb, 0, none⟩) P.length P.length) ∧ r.p < P.length ∧ (∃ v, w2.cell? ⟨cb, r.p * 2 + 1, none⟩ = some v) ∧ w2.frozen? ⟨cb, r.p * 2 + 1, none⟩ = false ∧
      LGo B b mb cb e ks sz L P (L.eraseIdx i) (dropK P r.p) w (w2.setCell ⟨cb, r.p * 2 + 1, none⟩ (.bool false)) ∧ (∀ g ∈ e :: L.map LK.g, w2.heap[g]? = w1.heap[g]? ∧ (w2.setCell ⟨cb, r.p * 2 + 1, none⟩ (.bool false)).heap[g]? = w1.heap[g]?) := by
  obtain ⟨a1, a2, a3, a4, a5⟩ := h.apart
  have hnb : b ∉ e :: L.map LK.g := fun hh => (a4 b hh).1 rfl
  have hnc : cb ∉ e :: L.map LK.g := fun hh => (a4 cb hh).2.1 rfl
  have hnm : mb ∉ e :: L.map LK.g := fun hh => (a4 mb hh).2.2 rfl
  obtain ⟨s, hs, hsk⟩ := h.fit.at_ r (List.mem_of_getElem? hr)
  have hp := (List.getElem?_eq_some_iff.1 hs).1
  have hi := (List.getElem?_eq_some_iff.1 hr).1
  have hkl := h.fit.keyl r.p s r.k hs hsk
  have hkb := h.kbig
  have hfind := findL_is h.fit.keys hr rfl
  obtain ⟨w2, g1, g2, g3⟩ := (h.map.same (hk.block mb h.map.lt hnm)).drop strK Try.underlying53 (keyOf_str_mk Try.underlying9 (show r.k.length ≤ maxLen by unfold maxLen; omega)) trivial 0
  have hb1 := (hk.block b (at_lt h.blk) hnb).trans h.blk
  have hc1 := (hk.block cb (at_lt h.cel) hnc).trans h.cel
  have hb2 := (g3.block b (at_lt hb1) (fun e => a2 (by injection e))).trans hb1
  have hc2 := (g3.block cb (at_lt hc1) (fun e => a3 (by injection e))).trans hc1
  have hring2 : ∀ g ∈ e :: L.map LK.g, w2.heap[g]? = w1.heap[g]? := fun g hg => by
    by_cases hlt : g < w1.heap.size
    · exact g3.block g hlt (fun e => (a4 g hg).2.2 (by injection e))
    · exact absurd (Nat.lt_of_lt_of_le ((by obtain ⟨nx, pv, hri⟩ := h.ring; exact hri.lt hg : g < w.heap.size)) hk.size) hlt
  have hv := (cellsH_at sz P r.p s hs).2
  have c5 : w2.cell? ⟨b, 5, none⟩ = some (.slice (some ⟨cb, 0, none⟩) P.length P.length) := by rw [blk_cell hb2]; rfl
  have cc : w2.cell? ⟨cb, r.p * 2 + 1, none⟩ = some (.bool s.key.isSome) := by rw [blk_cell hc2]; simpa using hv
  have hset := kept_set w2 cb (r.p * 2 + 1) (.bool false)
  have hK2 : Kept (fun g => g ∉ e :: L.map LK.g ∧ g ≠ mb) w w2 := (hk.mono (fun g hg => hg.1)).grown g3 (fun g e hlt hh => hh.2 (by cases e; rfl))
  have hK3 : Kept (fun g => g ∉ e :: L.map LK.g ∧ g ≠ mb ∧ g ≠ cb) w (w2.setCell ⟨cb, r.p * 2 + 1, none⟩ (.bool false)) := keptTrans (hK2.mono (fun g hg => ⟨hg.1, hg.2.1⟩)) (hset.mono (fun g hg => hg.2.2))
  have hsub : ∀ t, t ∈ L.eraseIdx i → t ∈ L := fun t ht => List.mem_of_mem_eraseIdx ht
  have hoff : ∀ g ∈ e :: L.map LK.g, (w2.setCell ⟨cb, r.p * 2 + 1, none⟩ (.bool false)).heap[g]? = w1.heap[g]? := fun g hg => (set_off (fun (e2 : g = cb) => hnc (e2 ▸ hg))).trans (hring2 g hg)
  have hA : SameA (dropK P r.p) P := sameA_dropK P r.p
  refine ⟨w2, g1, c5, hp, ⟨_, cc⟩, Joins.unfrozen_of_block hc2 _, ⟨⟨?_, ?_, ?_, ?_, fun j t ht => ?_, fun g hg => h.low g (OfU.rows hA (OfU.links hsub hg)), ?_, h.fit.dropped hr, h.big, by rw [dropK_len]; exact h.many, h.kbig⟩, hK3.mono (fun g hg => ⟨fun hh => hg (.inr (.inr (.inr (.inl hh)))), fun e2 => hg (.inr (.inl e2)), fun e2 => hg (.inr (.inr (.inl e2)))⟩), fun g hg => .inl (OfU.rows hA (OfU.links hsub hg))⟩, fun g hg => ⟨hring2 g hg, hoff g hg⟩⟩
  · rw [dropK_len, set_off a1]
    exact hb2
  · rw [List.length_eraseIdx_of_lt hi]
    have e0 : (linkF L (.string r.k)).isSome = true := by rw [linkF_some hfind hr]; rfl
    rw [e0] at g2
    refine GMap.same (GMap.congr g2 (fun x hx => ?_)) (set_off (fun e2 => a3 e2.symm))
    obtain ⟨key, hkey⟩ := hx
    obtain ⟨y, _, rfl, _⟩ := Maps.keyOf_str Try.underlying9 hkey
    rw [setK_str, linkF_out h.fit.keys hr y]
  · obtain ⟨nx, pv, hri⟩ := hring
    exact ⟨nx, pv, hri.lnk, hri.nodup, hri.ends.same (hoff e (by simp)), fun t ht => (hri.each t ht).same (hoff t.g (List.mem_cons_of_mem _ (List.mem_map_of_mem (hsub t ht))))⟩
  · rw [dropK_some hs, show (P.set r.p { s with key := none }) = P.set r.p { s with key := none, bs := s.bs } from rfl, cellsH_set_key sz P r.p s none s.bs hs, ← List.setIfInBounds_toArray]
    exact Joins.block_setCell (i := r.p * 2 + 1) hc2 (.bool false)
  · rw [dropK_some hs] at ht
    have : ∃ t0, P[j]? = some t0 ∧ t.A = t0.A ∧ t.c = t0.c ∧ t.bs = t0.bs := by
      rcases set_at ht with ⟨rfl, rfl, _⟩ | ⟨_, ht⟩
      · exact ⟨s, hs, rfl, rfl, rfl⟩
      · exact ⟨t, ht, rfl, rfl, rfl⟩
    obtain ⟨t0, h1, h2, h3, h4⟩ := this
    rw [h2, h3, h4]
    exact owns_kept (h.row j t0 h1) hK3 (fun g hg => by
      have := a5 j t0 h1 g hg
      exact ⟨this.2.2.2, this.2.2.1, this.2.1⟩)
  · intro j k t u ht hu hjk g hg
    have hlt : ∀ (j : Nat) (t : HS), (dropK P r.p)[j]? = some t → ∃ t0, P[j]? = some t0 ∧ t.sl sz = t0.sl sz := fun j t ht => by
      have hl : j < P.length := hA.1 ▸ (List.getElem?_eq_some_iff.1 ht).1
      obtain ⟨h1, h2⟩ := hA.2 j t _ ht (List.getElem?_eq_getElem hl)
      exact ⟨P[j], List.getElem?_eq_getElem hl, by unfold HS.sl; rw [h1, h2]⟩
    obtain ⟨t0, h1, h2⟩ := hlt j t ht
    obtain ⟨u0, h3, h4⟩ := hlt k u hu
    rw [h2] at hg
    rw [h4]
    exact h.sep j k t0 u0 h1 h3 hjk g hg
end
set_option maxRecDepth 100000 in
set_option maxHeartbeats 1000000 in
theorem drop_any (B b mb cb e ks sz i : Nat) (L : List LK) (P : List HS) (r : LK) (w : World) (h : Lru w B b mb cb e ks sz L P) (hr : L[i]? = some r) :
    Calls Try.prog 39 #[.pointer (some ⟨b, 0, none⟩), .pointer (some ⟨r.g, 0, none⟩)] w fun en w' => en = .returned (.tuple #[]) ∧ LGo B b mb cb e ks sz L P (L.eraseIdx i) (dropK P r.p) w w' ∧ ∃ a, (e :: L.map LK.g)[i]? = some a ∧ ∀ u ∈ e :: L.map LK.g, ∀ (k : List UInt8) (p q n : Nat), LinkAt w u k p q n → ∃ q' n', LinkAt w' u k p q' n' ∧ (u ≠ a → n' = n) := by
  obtain ⟨nx, pv, hring⟩ := h.ring
  have hx : (L.map LK.g)[i]? = some r.g := by rw [List.getElem?_map, hr]; rfl
  have HN := hide (hring.lnk.prev hx)
  have HRM := hide (remove_any e i L r nx pv w hring hr)
  have HH := hide h
  have HR := hide hr
  have c3 := h.c3
  have HIN : Hid (r.g ∈ e :: L.map LK.g) := hide (List.mem_cons_of_mem _ (List.mem_of_getElem? hx))
  obtain ⟨_, _, _, a4, _⟩ := h.apart
  have hnb : b ∉ e :: L.map LK.g := fun hh => (a4 b hh).1 rfl
  have HNB := hide hnb
  clear h hr hring hx a4 hnb
  go_enter Try.func39, Try.ntmps39
  go_wp2_with (go_at_call 53; refine stop_here ?_)
  show Hid _
  refine start_here ?_
  refine HRM.out.mono ?_
  rintro en w1 ⟨rfl, h1, ⟨q, hl⟩, hk, hnx⟩
  obtain ⟨w2, g1, g2, g3, ⟨v, g4⟩, g5, g6, g7⟩ := HH.out.dropped HR.out (w1 := w1.drew) (by obtain ⟨n2, p2, h2⟩ := h1; exact ⟨n2, p2, h2.below (Below.refl _ _).drew⟩) hk.drew_
  have c2 : w1.cell? ⟨b, 2, none⟩ = some (.map (some mb)) := by rw [blk_cell ((hk.block b (at_lt HH.out.blk) HNB.out).trans HH.out.blk)]; rfl
  have k0 := hl.c0
  have hl2 : LinkAt w2 r.g r.k r.p q (nx r.g) := hl.same (g7 r.g HIN.out).1
  have k1 := hl2.c1
  have HL3 : Hid (∀ u ∈ e :: L.map LK.g, ∀ (k : List UInt8) (p q n : Nat), LinkAt w u k p q n → ∃ q' n', LinkAt (w2.setCell ⟨cb, r.p * 2 + 1, none⟩ (.bool false)) u k p q' n' ∧ (u ≠ pv r.g → n' = n)) := hide (fun u hu k p q n hl => by
    obtain ⟨q', n', h1, h2⟩ := hnx u k p q n hl
    exact ⟨q', n', h1.same (g7 u hu).2, h2⟩)
  clear hnx
  have HG := hide g6
  have HLV := hide (leave_any b P.length cb r.p v w2.drew g2 g3 g4 g5)
  obtain ⟨kv, hkv⟩ : ∃ kv, kv = encStr r.k := ⟨_, rfl⟩
  rw [← hkv] at g1 k0
  clear hk hl hl2 h1 g2 g3 g4 g5 g6 g7 hkv c3
  go_wp2_with fail
  go_still_tail 9, (by kernel_rfl)
  go_wp2_with fail
  go_still_tail 8, (by kernel_rfl)
  go_wp2_with fail
  refine HLV.out.mono ?_
  rintro en w3 ⟨rfl, rfl⟩
  have HF := hide (show LGo B b mb cb e ks sz L P (L.eraseIdx i) (dropK P r.p) w (w2.drew.setCell ⟨cb, r.p * 2 + 1, none⟩ (.bool false)) from HG.out.below (Below.refl _ _).drew)
  have HFL : Hid (∀ u ∈ e :: L.map LK.g, ∀ (k : List UInt8) (p q n : Nat), LinkAt w u k p q n → ∃ q' n', LinkAt (w2.drew.setCell ⟨cb, r.p * 2 + 1, none⟩ (.bool false)) u k p q' n' ∧ (u ≠ pv r.g → n' = n)) := HL3
  clear k1 g1 k0 c2
  go_wp2
  go_end0
  exact ⟨rfl, HF.out, _, HN.out, HFL.out⟩
def delE2 (ks n : Nat) (P : List HS) (k : List UInt8) : Int := (lookE ks n P k).2
def delLL (ks n : Nat) (L : List LK) (k : List UInt8) : List LK := if n = ks then (match findL L k with | some i => L.eraseIdx i | none => L) else L
def renL (ks n : Nat) (L : List LK) (k : List UInt8) : List LK := if n = ks then (match findL L k with | some i => L.eraseIdx i ++ L[i]?.toList | none => L) else L
theorem delE_is {ks n : Nat} {L : List LK} {P : List HS} {k : List UInt8} : delE ks n P k = (lookE ks n P k).2 := by
  unfold delE lookE
  split
  · cases findK P k <;> rfl
  · rfl
set_option maxRecDepth 100000 in
theorem del_any (B b mb cb e ks sz : Nat) (L : List LK) (P : List HS) (A : Option Addr) (n c C : Nat) (l : List Int) (w : World) (h : Lru w B b mb cb e ks sz L P) (hr : KRow w C A n l) :
    Calls Try.prog 15 #[.pointer (some ⟨b, 0, none⟩), .slice A n c] w fun en w' => en = .returned (.int .i64 (delE ks n P (kb l))) ∧ LGo B b mb cb e ks sz L P (delLL ks n L (kb l)) (delL ks n P (kb l)) w w' := by
  have hfit := h.fit
  by_cases he : (lookE ks n P (kb l)).2 = 0
  · rcases lookE_cases (n := n) (k := kb l) hfit with ⟨_, h2⟩ | ⟨_, _, h2⟩ | ⟨rfl, i, r, hf, hi, h2⟩
    · rw [h2] at he; cases he
    · rw [h2] at he; cases he
    have HF := hide (find_yes B b mb cb e n sz i L P A c C l r w h hr hf hi)
    have HH := hide h
    have HI := hide hi
    have e1 : delE n n P (kb l) = 0 := by rw [delE_is (L := L), h2]
    have e2 : delLL n n L (kb l) = L.eraseIdx i := by unfold delLL; rw [if_pos rfl, hf]
    have e3 : delL n n P (kb l) = dropK P r.p := by unfold delL; rw [if_pos rfl, hfit.find_some hf hi]
    rw [e1, e2, e3]
    clear h hr hf hi h2 he hfit e1 e2 e3
    go_enter Try.func15, Try.ntmps15
    go_wp2_with fail
    refine HF.out.mono ?_
    rintro en w1 ⟨rfl, hb⟩
    have HD := hide (drop_any B b mb cb e n sz i L P r w1 (HH.out.below hb) HI.out)
    have HB := hide hb
    clear hb
    go_wp2_with fail
    refine HD.out.mono ?_
    rintro en w2 ⟨rfl, hg, _⟩
    have HG := hide (LGo.after HB.out hg)
    clear hg
    go_wp2
    go_ret
    exact ⟨rfl, HG.out⟩
  · have HF := hide (find_no B b mb cb e ks sz L P A n c C l w h hr he)
    have e1 : delE ks n P (kb l) = (lookE ks n P (kb l)).2 := delE_is (L := L)
    have e2 : delLL ks n L (kb l) = L ∧ delL ks n P (kb l) = P := by
      unfold delLL delL
      rcases lookE_cases (n := n) (k := kb l) hfit with ⟨h1, _⟩ | ⟨h1, h2, _⟩ | ⟨_, _, _, _, _, h2⟩
      · rw [if_neg h1, if_neg h1]; exact ⟨rfl, rfl⟩
      · rw [if_pos h1, if_pos h1, h2, hfit.find_none.2 h2]; exact ⟨rfl, rfl⟩
      · rw [h2] at he; exact absurd rfl he
    rw [e1, e2.1, e2.2]
    have HH := hide h
    obtain ⟨er, her⟩ : ∃ er, er = (lookE ks n P (kb l)).2 := ⟨_, rfl⟩
    rw [← her] at HF he ⊢
    have hne : bne er 0 = true := by simpa using he
    clear h hr e1 e2 hfit her he
    go_enter Try.func15, Try.ntmps15
    go_wp2_with fail
    refine HF.out.mono ?_
    rintro en w1 ⟨rfl, hb⟩
    have HB := hide hb
    clear hb
    go_wp2
    go_ret
    exact ⟨rfl, LGo.no HH.out HB.out⟩
set_option maxRecDepth 100000 in
theorem lookup_any (B b mb cb e ks sz : Nat) (L : List LK) (P : List HS) (A : Option Addr) (n c C : Nat) (l : List Int) (w : World) (h : Lru w B b mb cb e ks sz L P) (hr : KRow w C A n l) :
    Calls Try.prog 13 #[.pointer (some ⟨b, 0, none⟩), .slice A n c] w fun en w' => en = .returned (.tuple #[.int .i64 (lookE ks n P (kb l)).1, .int .i64 (lookE ks n P (kb l)).2]) ∧ LGo B b mb cb e ks sz L P (renL ks n L (kb l)) P w w' := by
  have hfit := h.fit
  by_cases he : (lookE ks n P (kb l)).2 = 0
  · rcases lookE_cases (n := n) (k := kb l) hfit with ⟨_, h2⟩ | ⟨_, _, h2⟩ | ⟨rfl, i, r, hf, hi, h2⟩
    · rw [h2] at he; cases he
    · rw [h2] at he; cases he
    have HF := hide (find_yes B b mb cb e n sz i L P A c C l r w h hr hf hi)
    have HH := hide h
    have HI := hide hi
    have e2 : renL n n L (kb l) = L.eraseIdx i ++ [r] := by unfold renL; rw [if_pos rfl, hf]; simp [hi]
    rw [h2, e2]
    have c3 := h.c3
    clear h hr hf h2 he hfit e2 hi
    go_enter Try.func13, Try.ntmps13
    go_wp2_with fail
    refine HF.out.mono ?_
    rintro en w1 ⟨rfl, hb⟩
    have h1 := HH.out.below hb
    have c3 := h1.c3
    have HR := hide (renew_any e i L r w1 h1.ring HI.out)
    have H1 := hide h1
    have HB := hide hb
    clear hb h1
    go_wp2_with (go_at_call 36; refine stop_here ?_)
    show Hid _
    refine start_here ?_
    refine HR.out.mono ?_
    rintro en w2 ⟨rfl, hri, hk⟩
    obtain ⟨g1, g2, g3⟩ := H1.out.order (erase_perm HI.out) hri hk
    have k1 : w2.cell? ⟨r.g, 1, none⟩ = some (.int .i64 r.p) := by
      obtain ⟨nx, pv, hring⟩ := hri
      exact (hring.each r (by simp)).c1
    have HG := hide (LGo.after HB.out (show LGo B b mb cb e n sz L P (L.eraseIdx i ++ [r]) P w1 w2 from ⟨g1, g3, fun g hg => .inl ((g2 g).1 hg)⟩))
    clear g1 g2 g3 hri hk c3
    go_wp2
    go_ret2
    exact ⟨rfl, HG.out⟩
  · have HF := hide (find_no B b mb cb e ks sz L P A n c C l w h hr he)
    have e2 : renL ks n L (kb l) = L := by
      unfold renL
      rcases lookE_cases (n := n) (k := kb l) hfit with ⟨h1, _⟩ | ⟨h1, h2, _⟩ | ⟨_, _, _, _, _, h2⟩
      · rw [if_neg h1]
      · rw [if_pos h1, h2]
      · rw [h2] at he; exact absurd rfl he
    have e3 : (lookE ks n P (kb l)).1 = 0 := by
      rcases lookE_cases (n := n) (k := kb l) hfit with ⟨h1, h2⟩ | ⟨h1, _, h2⟩ | ⟨_, _, _, _, _, h2⟩
      · rw [h2]
      · rw [h2]
      · rw [h2] at he; exact absurd rfl he
    rw [e2, e3]
    have HH := hide h
    obtain ⟨er, her⟩ : ∃ er, er = (lookE ks n P (kb l)).2 := ⟨_, rfl⟩
    rw [← her] at HF he ⊢
    have hne : bne er 0 = true := by simpa using he
    clear h hr e2 e3 hfit her he
    go_enter Try.func13, Try.ntmps13
    go_wp2_with fail
    refine HF.out.mono ?_
    rintro en w1 ⟨rfl, hb⟩
    have HB := hide hb
    clear hb
    go_wp2
    go_ret2
    exact ⟨rfl, LGo.no HH.out HB.out⟩
end Go.Proofs.Ytihhbpadafgkoaa
