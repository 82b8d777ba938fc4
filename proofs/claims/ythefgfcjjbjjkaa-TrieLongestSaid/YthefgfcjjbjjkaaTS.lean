/-
  A value is updated.
-/
import Derived.Test.YthefgfcjjbjjkaaTR
namespace Go.Proofs.Ythefgfcjjbjjkaa
open Go.RowKit
set_option linter.unusedVariables false
set_option linter.unusedSimpArgs false

theorem splice_all {l d : List Int} {n : Nat} (hl : l.length = n) (hd : d.length = n) : splice l 0 d = d := by
  unfold splice
  rw [List.take_zero, List.nil_append, List.drop_eq_nil_of_le (by omega), List.append_nil]
theorem own_cells {w : World} {g sz : Nat} {l : List Int} (h : w.ownsRow 0 5 1 (.slice (some ⟨g, 0, none⟩) sz sz) sz (u8s l)) : w.heap[g]? = some (.cells (u8s l).toArray 5 (0, 0)) := by
  rcases h.2 with ⟨e, _⟩ | ⟨g', cap, cur, e, _, h2, h3, h4, h5, h6⟩
  · cases e
  · injection e with e1 e2 e3
    injection e1 with e1
    injection e1 with e1 _
    subst e1 e3
    rw [h2]
    have : cur.toList = u8s l := by
      rw [← h6, List.take_of_length_le (by simp; omega)]
    rw [← this]
/-- Bytes are put into a value. -/
theorem Tri.valued {w w' : World} {B i : Nat} {t : TP} {P : List PL} {N : List Bool → Nat} {r : PL} {v : List Int} (h : Tri w B t P N) (hr : P[i]? = some r) (ho : w'.heap[r.g]? = some (.cells (u8s v).toArray 5 (0, 0))) (hv : v.length = t.sz) (hg : w.grownBy w' (some r.g)) :
    TGo B t P N (P.set i { r with v := v }) N w w' := by
  have hx : keyOf { r with v := v } = keyOf r := rfl
  have hrg := (h.row r (List.mem_of_getElem? hr)).1
  have hw : ∀ g, g < w.heap.size → g ≠ r.g → w'.heap[g]? = w.heap[g]? := fun g h1 h2 => hg.block g h1 (fun e => h2 (by injection e))
  have hsub : ∀ s ∈ P.set i { r with v := v }, ∃ s' ∈ P, s'.g = s.g ∧ s'.k = s.k := fun s hs => by
    rcases mem_set hs with hs | rfl
    · exact ⟨s, hs, rfl, rfl⟩
    · exact ⟨r, List.mem_of_getElem? hr, rfl, rfl⟩
  have hpr : ∀ q, prP (P.set i { r with v := v }) q = prP P q := fun q => by unfold prP; rw [cnt_same hx hr]
  have hof : ∀ g, OfT t (P.set i { r with v := v }) N g → OfT t P N g := by
    rintro g ((rfl | ⟨p, hp, rfl⟩) | rfl | ⟨s, hs, rfl⟩ | ⟨s, hs, l2, hk2⟩)
    · exact .inl (.inl rfl)
    · rw [hpr] at hp
      exact .inl (.inr ⟨p, hp, rfl⟩)
    · exact .inr (.inl rfl)
    · obtain ⟨s', h1, h2, _⟩ := hsub s hs
      exact .inr (.inr (.inl ⟨s', h1, h2.symm⟩))
    · obtain ⟨s', h1, _, h3⟩ := hsub s hs
      exact .inr (.inr (.inr ⟨s', h1, l2, by rw [h3]; exact hk2⟩))
  refine ⟨⟨?_, ?_, by rw [List.length_set]; exact h.len, ?_, ?_, fun g hg => h.low g (hof g hg), ?_, ?_, one_set h.one (.inr hx) hr, h.big, h.many, h.kbig⟩, ?_, fun g hg => .inl (hof g hg)⟩
  · refine (h.tree.same (W' := w') (hw _ (at_lt h.tree.blk) (blk_ne h.tree.blk hrg (by decide))) (fun p hp => hw _ (at_lt (h.tree.node p hp)) (blk_ne (h.tree.node p hp) hrg (by decide)))).congr hpr (fun q hq => ⟨cnt_same hx hr, ?_, rfl⟩)
    unfold thP
    rw [find_same h.one hx hr]
  · have h1 := cellsF_val t.sz 0 P i r v hr
    unfold cellsP
    rw [h1]
    exact (hw _ (at_lt h.cel) (blk_ne h.cel hrg (by decide))).trans h.cel
  · intro s hs
    obtain ⟨j, hj⟩ := List.mem_iff_getElem?.1 hs
    by_cases e : i = j
    · subst e
      rw [set_at hr] at hj
      injection hj with hj
      subst hj
      exact ⟨ho, hv⟩
    · rw [List.getElem?_set_ne e] at hj
      obtain ⟨h4, h5⟩ := h.row s (List.mem_of_getElem? hj)
      exact ⟨(hw s.g (at_lt h4) (fun e2 => h.sep i j r s hr hj e e2.symm)).trans h4, h5⟩
  · intro s hs g l2 hk2
    obtain ⟨s', h1, _, h3⟩ := hsub s hs
    rw [← h3] at hk2
    obtain ⟨h4, h5⟩ := h.key s' h1 g l2 hk2
    exact ⟨(hw g (at_lt h4) (h.apart r (List.mem_of_getElem? hr) s' h1 g l2 hk2)).trans h4, h5⟩
  · intro a b x y ha hb hab
    obtain ⟨x', h1, e1⟩ : ∃ x', P[a]? = some x' ∧ x'.g = x.g := by
      by_cases e : i = a
      · subst e; rw [set_at hr] at ha; injection ha with ha; subst ha; exact ⟨r, hr, rfl⟩
      · rw [List.getElem?_set_ne e] at ha; exact ⟨x, ha, rfl⟩
    obtain ⟨y', h2, e2⟩ : ∃ y', P[b]? = some y' ∧ y'.g = y.g := by
      by_cases e : i = b
      · subst e; rw [set_at hr] at hb; injection hb with hb; subst hb; exact ⟨r, hr, rfl⟩
      · rw [List.getElem?_set_ne e] at hb; exact ⟨y, hb, rfl⟩
    rw [← e1, ← e2]
    exact h.sep a b x' y' h1 h2 hab
  · intro x hx s hs g l2 hk2
    obtain ⟨x', h1, e1, _⟩ := hsub x hx
    obtain ⟨s', h2, _, h3⟩ := hsub s hs
    rw [← h3] at hk2
    rw [← e1]
    exact h.apart x' h1 s' h2 g l2 hk2
  · exact ⟨hg.os, hg.tape, hg.output, hg.size, fun g h1 h2 => hw g h1 (fun e => h2 (.inr (.inr (.inl ⟨r, List.mem_of_getElem? hr, e⟩))))⟩
/-- What Update tells. -/
def updE (ks sz : Nat) (P : List PL) (k : List Int) (q : Nat) (fl : Int) : Int :=
  if refE ks k = 0 ∧ q = sz ∧ fl ≤ 2 then (match findP P (kb k) with | some _ => if fl = 1 then 7 else 0 | none => if fl = 2 then 6 else match freeP P with | some _ => 0 | none => 8) else 2
/-- What Update makes of the places, the new key's block being g. -/
def updP (ks : Nat) (P : List PL) (k d : List Int) (g : Nat) : List PL :=
  match findP P (kb k) with
  | some i => (match P[i]? with | some r => P.set i { r with v := d } | none => P)
  | none => (match freeP P with | some i => (match P[i]? with | some r => P.set i { r with k := some (g, plL k ks (bcN k)), v := d } | none => P) | none => P)
set_option maxRecDepth 100000 in
set_option maxHeartbeats 2000000 in
theorem upd_7 (B : Nat) (t : TP) (P : List PL) (N : List Bool → Nat) (A S : Option Addr) (c q sc D : Nat) (fl : Int) (k d : List Int) (w : World) (h : Tri w B t P N) (hk : KR w A t.ks c k) (hr : bcN k ≤ 8 * (t.ks - 4)) (hA : ∀ ad, A = some ad → ¬ OfT t P N ad.block) (hd : Rd w D 1 S t.sz (u8s d)) (hD : D ≤ w.heap.size) (hV : ∀ ad, S = some ad → ¬ OfT t P N ad.block) (i : Nat) (hf : findP P (kb k) = some i) (h1 : fl = 1) (hfl : fl ≤ 2) :
    Calls Try.prog 26 #[.pointer (some ⟨t.tb, 0, none⟩), .slice A t.ks c, .slice S t.sz sc, .int .u64 fl] w fun e w' => e = .returned (.int .i64 7) ∧ Below w.heap.size w w' := by
  have he : refE t.ks k = 0 := by unfold refE; rw [if_pos ⟨hk.len, hr⟩]
  have HR := hide (refusal_any B t P N A t.ks c k w h hk)
  rw [he] at HR
  have HF := hide (find_any B t P N A t.ks c k w h hk rfl hr)
  have c3 : w.cell? ⟨t.tb, 3, none⟩ = some (.int .i64 t.sz) := (h.c 3).trans rfl
  have d3 : decide (2 < fl) = false := decide_eq_false (by omega)
  have d3' : decide (fl ≤ 2) = true := decide_eq_true hfl
  have hmany := h.many
  have hlen := h.len
  have hbig := h.big
  subst h1
  rw [hf] at HF
  simp only [Option.map_some, plA] at HF
  clear hf d3 d3'
  clear h hk hr hA hd hD hV he hfl hmany hlen hbig
  go_enter Try.func26, Try.ntmps26
  go_wp2_with (first
    | (go_at_call 37; refine HR.out.mono ?_; rintro e w' ⟨rfl, hW⟩; subst hW)
    | (go_at_call 42; refine HF.out.mono ?_; rintro e w1 ⟨rfl, hb⟩; have HB := hide hb; clear hb))
  go_ret
  exact ⟨rfl, HB.out⟩
set_option maxRecDepth 100000 in
set_option maxHeartbeats 2000000 in
theorem upd_6 (B : Nat) (t : TP) (P : List PL) (N : List Bool → Nat) (A S : Option Addr) (c q sc D : Nat) (fl : Int) (k d : List Int) (w : World) (h : Tri w B t P N) (hk : KR w A t.ks c k) (hr : bcN k ≤ 8 * (t.ks - 4)) (hA : ∀ ad, A = some ad → ¬ OfT t P N ad.block) (hd : Rd w D 1 S t.sz (u8s d)) (hD : D ≤ w.heap.size) (hV : ∀ ad, S = some ad → ¬ OfT t P N ad.block) (hf : findP P (kb k) = none) (h1 : fl = 2) (hfl : fl ≤ 2) :
    Calls Try.prog 26 #[.pointer (some ⟨t.tb, 0, none⟩), .slice A t.ks c, .slice S t.sz sc, .int .u64 fl] w fun e w' => e = .returned (.int .i64 6) ∧ Below w.heap.size w w' := by
  have he : refE t.ks k = 0 := by unfold refE; rw [if_pos ⟨hk.len, hr⟩]
  have HR := hide (refusal_any B t P N A t.ks c k w h hk)
  rw [he] at HR
  have HF := hide (find_any B t P N A t.ks c k w h hk rfl hr)
  have c3 : w.cell? ⟨t.tb, 3, none⟩ = some (.int .i64 t.sz) := (h.c 3).trans rfl
  have d3 : decide (2 < fl) = false := decide_eq_false (by omega)
  have d3' : decide (fl ≤ 2) = true := decide_eq_true hfl
  have hmany := h.many
  have hlen := h.len
  have hbig := h.big
  subst h1
  rw [hf] at HF
  clear hf d3 d3'
  clear h hk hr hA hd hD hV he hfl hmany hlen hbig
  go_enter Try.func26, Try.ntmps26
  go_wp2_with (first
    | (go_at_call 37; refine HR.out.mono ?_; rintro e w' ⟨rfl, hW⟩; subst hW)
    | (go_at_call 42; refine HF.out.mono ?_; rintro e w1 ⟨rfl, hb⟩; have HB := hide hb; clear hb))
  go_ret
  exact ⟨rfl, HB.out⟩
set_option maxRecDepth 100000 in
set_option maxHeartbeats 2000000 in
theorem upd_full (B : Nat) (t : TP) (P : List PL) (N : List Bool → Nat) (A S : Option Addr) (c q sc D : Nat) (fl : Int) (k d : List Int) (w : World) (h : Tri w B t P N) (hk : KR w A t.ks c k) (hr : bcN k ≤ 8 * (t.ks - 4)) (hA : ∀ ad, A = some ad → ¬ OfT t P N ad.block) (hd : Rd w D 1 S t.sz (u8s d)) (hD : D ≤ w.heap.size) (hV : ∀ ad, S = some ad → ¬ OfT t P N ad.block) (hf : findP P (kb k) = none) (h1 : fl ≠ 2) (hfr : freeP P = none) (hfl : fl ≤ 2) :
    Calls Try.prog 26 #[.pointer (some ⟨t.tb, 0, none⟩), .slice A t.ks c, .slice S t.sz sc, .int .u64 fl] w fun e w' => e = .returned (.int .i64 8) ∧ Below w.heap.size w w' := by
  have he : refE t.ks k = 0 := by unfold refE; rw [if_pos ⟨hk.len, hr⟩]
  have HR := hide (refusal_any B t P N A t.ks c k w h hk)
  rw [he] at HR
  have HF := hide (find_any B t P N A t.ks c k w h hk rfl hr)
  have c3 : w.cell? ⟨t.tb, 3, none⟩ = some (.int .i64 t.sz) := (h.c 3).trans rfl
  have d3 : decide (2 < fl) = false := decide_eq_false (by omega)
  have d3' : decide (fl ≤ 2) = true := decide_eq_true hfl
  have hmany := h.many
  have hlen := h.len
  have hbig := h.big
  have hne : bne fl 2 = true := by simpa using h1
  have hne2 : (fl == 2) = false := by simpa using h1
  rw [hf] at HF
  have HAD : Hid (∀ W, Below w.heap.size w W → Calls Try.prog 50 #[.pointer (some ⟨t.tb, 0, none⟩), .slice A t.ks c] W fun e w' => e = .returned (.pointer none) ∧ Below W.heap.size W w') := hide (fun W hb => add_none B t P N A t.ks c W (h.below (Nat.le_refl _) hb) hfr)
  clear hf h1 hfr
  clear h hk hr hA hd hD hV he hfl hmany hlen hbig
  go_enter Try.func26, Try.ntmps26
  go_wp2_with (first
    | (go_at_call 37; refine HR.out.mono ?_; rintro e w' ⟨rfl, hW⟩; subst hW)
    | (go_at_call 42; refine HF.out.mono ?_; rintro e w1 ⟨rfl, hb⟩; have HB := hide hb; clear hb)
    | (go_at_call 50; refine (HAD.out _ HB.out).mono ?_; rintro e w2 ⟨rfl, hb⟩; have HB2 := hide (HB.out.trans (hb.mono HB.out.size)); clear hb))
  go_ret
  exact ⟨rfl, HB2.out⟩
set_option maxRecDepth 100000 in
set_option maxHeartbeats 2000000 in
theorem upd_there (B : Nat) (t : TP) (P : List PL) (N : List Bool → Nat) (A S : Option Addr) (c q sc D : Nat) (fl : Int) (k d : List Int) (w : World) (h : Tri w B t P N) (hk : KR w A t.ks c k) (hr : bcN k ≤ 8 * (t.ks - 4)) (hA : ∀ ad, A = some ad → ¬ OfT t P N ad.block) (hd : Rd w D 1 S t.sz (u8s d)) (hD : D ≤ w.heap.size) (hV : ∀ ad, S = some ad → ¬ OfT t P N ad.block) (i : Nat) (r : PL) (hf : findP P (kb k) = some i) (hri : P[i]? = some r) (hfl : fl ≤ 2) (h1 : fl ≠ 1) :
    Calls Try.prog 26 #[.pointer (some ⟨t.tb, 0, none⟩), .slice A t.ks c, .slice S t.sz sc, .int .u64 fl] w fun e w' => e = .returned (.int .i64 0) ∧ TGo B t P N (P.set i { r with v := d }) N w w' := by
  have he : refE t.ks k = 0 := by unfold refE; rw [if_pos ⟨hk.len, hr⟩]
  have HR := hide (refusal_any B t P N A t.ks c k w h hk)
  rw [he] at HR
  have HF := hide (find_any B t P N A t.ks c k w h hk rfl hr)
  have c3 : w.cell? ⟨t.tb, 3, none⟩ = some (.int .i64 t.sz) := (h.c 3).trans rfl
  have d3 : decide (2 < fl) = false := decide_eq_false (by omega)
  have d3' : decide (fl ≤ 2) = true := decide_eq_true hfl
  have hmany := h.many
  have hlen := h.len
  have hbig := h.big
  have hne : bne fl 1 = true := by simpa using h1
  have hne2 : (fl == 1) = false := by simpa using h1
  rw [hf] at HF
  simp only [Option.map_some, plA] at HF
  have H := hide h
  have HC : Hid (∀ W, Below w.heap.size w W → W.cell? ⟨t.cb, i * 3 + 1, none⟩ = some (.slice (some ⟨r.g, 0, none⟩) t.sz t.sz)) := hide (fun W hb => ((h.below (Nat.le_refl _) hb).at_ hri).2.1)
  have HD := hide hd
  have HDD := hide hD
  have HRI := hide hri
  have hdl : d.length = t.sz := by have := hd.1; simpa [u8s] using this
  have hvl := (h.row r (List.mem_of_getElem? hri)).2
  clear h hk hr hA hd hD hV he hfl hmany hlen hf h1
  go_enter Try.func26, Try.ntmps26
  go_wp2_with (first
    | (go_at_call 37; refine HR.out.mono ?_; rintro e w' ⟨rfl, hW⟩; subst hW)
    | (go_at_call 42; refine HF.out.mono ?_; rintro e w1 ⟨rfl, hb⟩; have HB := hide hb; have hc := HC.out _ HB.out; clear hb)
    | (with_reducible refine stop_copy ?_))
  have HOW := hide ((H.out.below (Nat.le_refl _) HB.out).own HRI.out)
  have HDW : Hid (Rd w1 D 1 S t.sz (u8s d)) := hide (HD.out.below (HB.out.mono HDD.out))
  clear hc
  show Hid _
  refine start_here ?_
  refine wpList_copy_owns (e := 5) (n := t.sz) (xs := u8s r.v) rfl (.tmp 57) (.tmp 58) 35 35 rfl Try.underlying35 u8size (some ⟨r.g, 0, none⟩) t.sz HOW.out 0 (some ⟨r.g, 0, none⟩) t.sz t.sz rfl (fun _ => ⟨r.g, rfl, rfl⟩) D S t.sz sc rfl (u8s d) HDW.out (fun v hv => by simp [u8s] at hv; obtain ⟨b, _, rfl⟩ := hv; rfl) (Nat.le_refl _) (by omega) ?_
  intro w4 ho4 hg4 hz4
  have HF2 : Hid (TGo B t P N (P.set i { r with v := d }) N w w4) := hide (TGo.after HB.out ((H.out.below (Nat.le_refl _) HB.out).valued HRI.out (own_cells (by rw [← splice_all hvl hdl, u8s_splice]; exact ho4)) hdl hg4) H.out.lt)
  clear ho4 hg4 hz4
  go_wp2
  go_ret
  exact ⟨rfl, HF2.out⟩
set_option maxRecDepth 100000 in
set_option maxHeartbeats 2000000 in
theorem upd_new (B : Nat) (t : TP) (P : List PL) (N : List Bool → Nat) (A S : Option Addr) (c q sc D : Nat) (fl : Int) (k d : List Int) (w : World) (h : Tri w B t P N) (hk : KR w A t.ks c k) (hr : bcN k ≤ 8 * (t.ks - 4)) (hA : ∀ ad, A = some ad → ¬ OfT t P N ad.block) (hd : Rd w D 1 S t.sz (u8s d)) (hD : D ≤ w.heap.size) (hV : ∀ ad, S = some ad → ¬ OfT t P N ad.block) (i : Nat) (hf : findP P (kb k) = none) (hfr : freeP P = some i) (hfl : fl ≤ 2) (h1 : fl ≠ 2) :
    Calls Try.prog 26 #[.pointer (some ⟨t.tb, 0, none⟩), .slice A t.ks c, .slice S t.sz sc, .int .u64 fl] w fun e w' => e = .returned (.int .i64 0) ∧ ∃ r g' N', P[i]? = some r ∧ r.k = none ∧ TGo B t P N (P.set i { r with k := some (g', plL k t.ks (bcN k)), v := d }) N' w w' := by
  have he : refE t.ks k = 0 := by unfold refE; rw [if_pos ⟨hk.len, hr⟩]
  have HR := hide (refusal_any B t P N A t.ks c k w h hk)
  rw [he] at HR
  have HF := hide (find_any B t P N A t.ks c k w h hk rfl hr)
  have c3 : w.cell? ⟨t.tb, 3, none⟩ = some (.int .i64 t.sz) := (h.c 3).trans rfl
  have d3 : decide (2 < fl) = false := decide_eq_false (by omega)
  have d3' : decide (fl ≤ 2) = true := decide_eq_true hfl
  have hmany := h.many
  have hlen := h.len
  have hbig := h.big
  have hne : bne fl 2 = true := by simpa using h1
  have hne2 : (fl == 2) = false := by simpa using h1
  rw [hf] at HF
  have H := hide h
  have HAD : Hid (∀ W, Below w.heap.size w W → Calls Try.prog 50 #[.pointer (some ⟨t.tb, 0, none⟩), .slice A t.ks c] W (AddTold B t P N k i W)) := hide (fun W hb => add_any B i t P N A c k W (h.below (Nat.le_refl _) hb) (hk.below hb) hr hf hfr hA)
  have HD := hide hd
  have HDD := hide hD
  have HV := hide hV
  have hdl : d.length = t.sz := by have := hd.1; simpa [u8s] using this
  have HLE := hide hlen
  clear h hk hr hA hd hD hV he hfl hmany hlen hf h1 hfr
  go_enter Try.func26, Try.ntmps26
  go_wp2_with (first
    | (go_at_call 37; refine HR.out.mono ?_; rintro e w' ⟨rfl, hW⟩; subst hW)
    | (go_at_call 42; refine HF.out.mono ?_; rintro e w1 ⟨rfl, hb⟩; have HB := hide hb; clear hb)
    | (go_at_call 50; refine (HAD.out _ HB.out).mono ?_; refine stop_here ?_))
  show Hid _
  refine start_here ?_
  rintro e w2 ⟨r, g', N', hri, hrk, rfl, hgo⟩
  have hgo2 := TGo.after HB.out hgo H.out.lt
  have HGO := hide hgo2
  have hset : (P.set i { r with k := some (g', plL k t.ks (bcN k)) })[i]? = some { r with k := some (g', plL k t.ks (bcN k)) } := set_at hri
  have hc : w2.cell? ⟨t.cb, i * 3 + 1, none⟩ = some (.slice (some ⟨r.g, 0, none⟩) t.sz t.sz) := (hgo2.1.at_ hset).2.1
  have HOW := hide (hgo2.1.own hset)
  have hvl := (hgo2.1.row _ (List.mem_of_getElem? hset)).2
  have HDW : Hid (Rd w2 D 1 S t.sz (u8s d)) := hide ⟨HD.out.1, fun hn => by
    obtain ⟨ad, ea, hlt, hcc⟩ := HD.out.2 hn
    refine ⟨ad, ea, hlt, fun j u hu => (World.cell?_of_block ?_).trans (hcc j u hu)⟩
    rw [block_add]
    exact hgo2.2.1.block ad.block (Nat.lt_of_lt_of_le hlt HDD.out) (HV.out ad ea)⟩
  have HSET := hide hset
  have HRI := hide (And.intro hri hrk)
  clear hgo hgo2 hset hri hrk
  simp only [plA]
  go_wp2_with (with_reducible refine stop_copy ?_)
  clear hc
  show Hid _
  refine start_here ?_
  refine wpList_copy_owns (e := 5) (n := t.sz) (xs := u8s r.v) rfl (.tmp 57) (.tmp 58) 35 35 rfl Try.underlying35 u8size (some ⟨r.g, 0, none⟩) t.sz HOW.out 0 (some ⟨r.g, 0, none⟩) t.sz t.sz rfl (fun _ => ⟨r.g, rfl, rfl⟩) D S t.sz sc rfl (u8s d) HDW.out (fun v hv => by simp [u8s] at hv; obtain ⟨b, _, rfl⟩ := hv; rfl) (Nat.le_refl _) (by omega) ?_
  intro w4 ho4 hg4 hz4
  have HF2 : Hid (TGo B t P N ((P.set i { r with k := some (g', plL k t.ks (bcN k)) }).set i { r with k := some (g', plL k t.ks (bcN k)), v := d }) N' w w4) := hide (TGo.trans HGO.out (HGO.out.1.valued HSET.out (own_cells (by rw [← splice_all hvl hdl, u8s_splice]; exact ho4)) hdl hg4) H.out.lt)
  clear ho4 hg4 hz4
  go_wp2
  go_ret
  have HF3 := HF2.out
  rw [List.set_set] at HF3
  exact ⟨rfl, r, g', N', HRI.out.1, HRI.out.2, HF3⟩
end Go.Proofs.Ythefgfcjjbjjkaa
