/-
  A region that lays a map's literal, its parts in any order, whose operations read what was there and call what makes new memory alone: what it leaves. No program is named here.
-/
import Derived.Test.YtolodcdhpnapmaaGreatKB
namespace Go.Proofs.YtolodcdhpnapmaaGreat
open Go.RowKit Go.Maps
set_option linter.unusedVariables false

/-- No two operations write one slot. -/
def dstApart (ops : Array Oper) : Bool := ops.toList.zipIdx.all fun x => ops.toList.zipIdx.all fun y => x.2 == y.2 || x.1.dst.isNone || x.1.dst != y.1.dst
def dstBelow (ops : Array Oper) (n : Nat) : Bool := ops.toList.all fun o => match o.dst with | some d => decide (d < n) | none => true
/-- Does no operation write slot t? -/
def unwritten (ops : Array Oper) (t : Tmp) : Bool := ops.toList.all fun o => o.dst != some t
/-- Does operation o wait for operation j? -/
def hangs (o : Oper) (j : Nat) : Bool := o.after.toList.any fun ed => Region.binds .any ed && ed.on == j
def noGuards (ops : Array Oper) : Bool := ops.toList.all fun o => o.guard.isNone

section
variable {P : Program} {ops : Array Oper} {Q : Exit → Act → World → Prop}

theorem dstApart_spec (h : dstApart ops = true) {i j d : Nat} {oi oj : Oper} (hi : ops[i]? = some oi) (hj : ops[j]? = some oj) (di : oi.dst = some d) (dj : oj.dst = some d) : i = j := by
  unfold dstApart at h
  rw [List.all_eq_true] at h
  have h1 := h (oi, i) (by rw [List.mem_zipIdx_iff_getElem?]; simpa using hi)
  rw [List.all_eq_true] at h1
  have h2 := h1 (oj, j) (by rw [List.mem_zipIdx_iff_getElem?]; simpa using hj)
  simpa [di, dj] using h2

theorem dstBelow_spec {n : Nat} (h : dstBelow ops n = true) {i d : Nat} {o : Oper} (hi : ops[i]? = some o) (hd : o.dst = some d) : d < n := by
  unfold dstBelow at h
  rw [List.all_eq_true] at h
  have := h o (List.mem_of_getElem? (by simpa using hi))
  rw [hd] at this
  simpa using this

theorem noGuards_spec (h : noGuards ops = true) {i : Nat} {o : Oper} (hi : ops[i]? = some o) : o.guard = none := by
  unfold noGuards at h
  rw [List.all_eq_true] at h
  have := h o (List.mem_of_getElem? (by simpa using hi))
  simpa using this

theorem unwritten_spec {t : Tmp} (h : unwritten ops t = true) {i : Nat} {o : Oper} (hi : ops[i]? = some o) : o.dst ≠ some t := by
  unfold unwritten at h
  rw [List.all_eq_true] at h
  have := h o (List.mem_of_getElem? (by simpa using hi))
  simpa using this

theorem hangs_spec {o : Oper} {j : Nat} (h : hangs o j = true) : ∃ ed ∈ o.after, Region.binds .any ed = true ∧ ed.on = j := by
  unfold hangs at h
  rw [List.any_eq_true] at h
  obtain ⟨ed, hed, hb⟩ := h
  simp only [Bool.and_eq_true, beq_iff_eq] at hb
  exact ⟨ed, by simpa using hed, hb.1, hb.2⟩


/-- What the frame holds once the operations of 'listed' are done: 'isMap j': the operation tells the map that is made. -/
structure Slots2 (ops : Array Oper) (val : Nat → Value) (isMap : Nat → Bool) (a0 : Act) (listed : Array Bool) (a : Act) : Prop where
  defers : a.defers = a0.defers
  size : a.tmps.size = a0.tmps.size
  old : ∀ t, unwritten ops t = true → a.tmps.getD t undef = a0.tmps.getD t undef
  new : ∀ (j : Nat) oj d, ops[j]? = some oj → oj.dst = some d → listed.getD j false = true → isMap j = false → a.tmps.getD d undef = val j

/-- The slots that tell the map: block b. -/
def MapSlots (ops : Array Oper) (isMap : Nat → Bool) (b : Nat) (listed : Array Bool) (a : Act) : Prop :=
  ∀ (j : Nat) oj d, ops[j]? = some oj → oj.dst = some d → listed.getD j false = true → isMap j = true → a.tmps.getD d undef = .map (some b)

/-- What the map's block holds once they are done. -/
def Laid2 (ops : Array Oper) (isMap : Nat → Bool) (ins : Nat → Option (Value × Value)) (w0 : World) (listed : Array Bool) (a : Act) (w : World) : Prop :=
  (listed.getD 0 false = false → ∀ i, listed.getD i false = true → ins i = none ∧ isMap i = false) ∧
  (listed.getD 0 false = true → ∃ b es clock, w0.heap.size ≤ b ∧ w.heap[b]? = some (.map es clock) ∧ MapSlots ops isMap b listed a ∧ (∀ e ∈ es.toList, ∃ i, listed.getD i false = true ∧ ins i = some (e.key, e.val)) ∧
    ∀ i p, listed.getD i false = true → ins i = some p → ∃ e ∈ es.toList, e.key = p.1 ∧ e.val = p.2)

/-- What one operation does. -/
inductive Does2 (P : Program) (T : TypeId) (w0 : World) (ops : Array Oper) (isMap : Nat → Bool) (ins : Nat → Option (Value × Value)) (val : Nat → Value) (i : Nat) (o : Oper) (a : Act) : Prop
  | made (h0 : i = 0) (hop : o.op = .makeMap T none) (hm : isMap 0 = true) (hi : ins 0 = none)
  | told (h0 : i ≠ 0) (hi : ins i = none) (hm : isMap i = false) (hrun : ∀ W, Below w0.heap.size w0 W → (execOp a.eval o).run P W = .ok (.value (val i)) W)
  | moved (h0 : i ≠ 0) (hi : ins i = none) (hm : isMap i = true) (j : Nat) (oj : Oper) (d : Tmp) (hj : ops[j]? = some oj) (hd : oj.dst = some d) (hjm : isMap j = true) (hh : hangs o j = true)
      (hrun : ∀ W, (execOp a.eval o).run P W = .ok (.value (a.tmps.getD d undef)) W)
  | called (h0 : i ≠ 0) (hi : ins i = none) (hm : isMap i = false) (f : FuncId) (args : Array Value) (hrun : ∀ W, (execOp a.eval o).run P W = .ok (.enter f args) W)
      (hc : ∀ W, Calls P f args W fun e w' => e = .returned (val i) ∧ Below W.heap.size W w')
  | laid (kv vv : Value) (m x y : Operand) (hi : ins i = some (kv, vv)) (hop : o.op = .insert T m x y) (j : Nat) (oj : Oper) (d : Tmp) (hj : ops[j]? = some oj) (hdj : oj.dst = some d) (hjm : isMap j = true) (hh : hangs o j = true)
      (hm : a.eval m = a.tmps.getD d undef) (hx : a.eval x = kv) (hy : a.eval y = vv) (hd : o.dst = none) (h0 : i ≠ 0)

theorem getD_set_true {listed : Array Bool} {i j : Nat} (h : (listed.setIfInBounds i true).getD j false = true) : j = i ∨ listed.getD j false = true := by
  rw [Array.getD_eq_getD_getElem?, Array.getElem?_setIfInBounds] at h
  split at h
  · left; omega
  · right; rwa [Array.getD_eq_getD_getElem?]

theorem getD_set_keep {listed : Array Bool} {i j : Nat} (h : listed.getD j false = true) : (listed.setIfInBounds i true).getD j false = true := by
  rw [Array.getD_eq_getD_getElem?] at h ⊢
  rw [Array.getElem?_setIfInBounds]
  split
  · split
    · rfl
    · rename_i h1 h2; subst h1; rw [Array.getElem?_eq_none (by omega)] at h; simp at h
  · exact h

theorem getD_set_same {listed : Array Bool} {i : Nat} (h : i < listed.size) : (listed.setIfInBounds i true).getD i false = true := by
  rw [Array.getD_eq_getD_getElem?, Array.getElem?_setIfInBounds, if_pos rfl, if_pos h]; rfl

theorem getD_set_ne {listed : Array Bool} {i j : Nat} (h : i ≠ j) : (listed.setIfInBounds i true).getD j false = listed.getD j false := by
  rw [Array.getD_eq_getD_getElem?, Array.getElem?_setIfInBounds, if_neg h, Array.getD_eq_getD_getElem?]


theorem slots2_put {val : Nat → Value} {isMap : Nat → Bool} {a0 a : Act} {listed : Array Bool} {i : Nat} {o : Oper} (hA : dstApart ops = true) (hb : dstBelow ops a0.tmps.size = true)
    (hi : ops[i]? = some o) (h : Slots2 ops val isMap a0 listed a) (v : Value) (hv : o.dst ≠ none → isMap i = false → v = val i) : Slots2 ops val isMap a0 (listed.setIfInBounds i true) (a.put o.dst v) := by
  cases hd : o.dst with
  | none =>
    refine ⟨h.defers, h.size, h.old, fun j oj d hj hdj hl => ?_⟩
    rcases getD_set_true hl with rfl | hl
    · rw [hi] at hj; cases hj; rw [hd] at hdj; cases hdj
    · exact h.new j oj d hj hdj hl
  | some d =>
    have hlt := dstBelow_spec hb hi hd
    refine ⟨h.defers, by simpa [Act.put] using h.size, fun t ht => ?_, fun j oj dj hj hdj hl hmj => ?_⟩
    · rw [← h.old t ht]
      have : d ≠ t := fun e => unwritten_spec ht hi (e ▸ hd)
      simp [Act.put, Array.getD_eq_getD_getElem?, Array.getElem?_setIfInBounds_ne this]
    · by_cases hij : j = i
      · subst hij
        rw [hi] at hj; cases hj
        rw [hd] at hdj; cases hdj
        have hv' := hv (by rw [hd]; simp) hmj
        subst hv'
        simp [Act.put, Array.getD_eq_getD_getElem?, h.size, hlt]
      · have hl' : listed.getD j false = true := (getD_set_true hl).resolve_left hij
        rw [← h.new j oj dj hj hdj hl' hmj]
        have : d ≠ dj := fun e => hij (dstApart_spec hA hj hi hdj (e ▸ hd))
        simp [Act.put, Array.getD_eq_getD_getElem?, Array.getElem?_setIfInBounds_ne this]
theorem mapSlots_put {isMap : Nat → Bool} {a : Act} {listed : Array Bool} {i b n : Nat} {o : Oper} (hA : dstApart ops = true) (hb : dstBelow ops n = true) (hn : a.tmps.size = n)
    (hi : ops[i]? = some o) (h : MapSlots ops isMap b listed a) (v : Value) (hv : o.dst ≠ none → isMap i = true → v = .map (some b)) : MapSlots ops isMap b (listed.setIfInBounds i true) (a.put o.dst v) := by
  intro j oj dj hj hdj hl hmj
  cases hd : o.dst with
  | none =>
    rcases getD_set_true hl with rfl | hl
    · rw [hi] at hj; cases hj; rw [hd] at hdj; cases hdj
    · exact h j oj dj hj hdj hl hmj
  | some d =>
    have hlt := dstBelow_spec hb hi hd
    by_cases hij : j = i
    · subst hij
      rw [hi] at hj; cases hj
      rw [hd] at hdj; cases hdj
      have hv' := hv (by rw [hd]; simp) hmj
      subst hv'
      simp [Act.put, Array.getD_eq_getD_getElem?, hn, hlt]
    · have hl' : listed.getD j false = true := (getD_set_true hl).resolve_left hij
      rw [← h j oj dj hj hdj hl' hmj]
      have : d ≠ dj := fun e => hij (dstApart_spec hA hj hi hdj (e ▸ hd))
      simp [Act.put, Array.getD_eq_getD_getElem?, Array.getElem?_setIfInBounds_ne this]

theorem wpAny_mapLit2 {a0 : Act} {w : World} {T k e : TypeId} (K : Keyed P k) (ht : P.underlying T = some (.map k e))
    (val : Nat → Value) (isMap : Nat → Bool) (ins : Nat → Option (Value × Value)) (hpos : 0 < ops.size)
    (hB : backward .any ops = true) (hA : dstApart ops = true) (hG : noGuards ops = true) (hb : dstBelow ops a0.tmps.size = true)
    (hkeys : ∀ i p, ins i = some p → ∃ l, keyOf P k p.1 = some l) (hinj : ∀ i j p q, ins i = some p → ins j = some q → p.1 = q.1 → i = j)
    (hop : ∀ (i : Nat) o (a : Act), ops[i]? = some o → (∀ t, unwritten ops t = true → a.tmps.getD t undef = a0.tmps.getD t undef) →
      (∀ (j : Nat) oj d, ops[j]? = some oj → oj.dst = some d → hangs o j = true → isMap j = false → a.tmps.getD d undef = val j) → Does2 P T w ops isMap ins val i o a)
    (h : ∀ (a : Act) b es clock W, a.defers = a0.defers → a.tmps.size = a0.tmps.size → (∀ t, unwritten ops t = true → a.tmps.getD t undef = a0.tmps.getD t undef) →
      (∀ (j : Nat) oj d, ops[j]? = some oj → oj.dst = some d → isMap j = false → a.tmps.getD d undef = val j) →
      (∀ (j : Nat) oj d, ops[j]? = some oj → oj.dst = some d → isMap j = true → a.tmps.getD d undef = .map (some b)) →
      w.heap.size ≤ b → W.heap[b]? = some (.map es clock) → Below w.heap.size w W → HasJust es ((List.range ops.size).filterMap ins) → Q .normal a W) :
    wpAny P .any ops Q ops.size (Array.replicate ops.size false) a0 w := by
  refine wpAny_keeps (fun listed a W => Slots2 ops val isMap a0 listed a ∧ Laid2 ops isMap ins w listed a W ∧ Below w.heap.size w W ∧ listed.size = ops.size) hB ?_ ?_ _ _ _ _ (by simp) ?_ ?_
  · intro listed a W i hs ⟨hS, hL, hW, _⟩ hi
    obtain ⟨hlt, hnot, haft⟩ := mem_ready hi
    have ho : ops[i]? = some ops[i] := Array.getElem?_eq_getElem hlt
    generalize ops[i] = o at ho
    have hil : listed.getD i false = false := by
      rw [Array.getD_eq_getD_getElem?, Array.getElem?_eq_getElem (by omega)] at hnot ⊢
      simpa using hnot
    have hdone : ∀ j, hangs o j = true → listed.getD j false = true := fun j hh => by
      obtain ⟨ed, hed, hbd, hon⟩ := hangs_spec hh
      exact hon ▸ haft o ho ed hed hbd
    have hD := hop i o a ho hS.old (fun j oj d hj hd hh hm => hS.new j oj d hj hd (hdone j hh) hm)
    refine wpOp_step ho (fun K' hK' => ?_)
    rw [if_pos (by simp [Region.wanted, noGuards_spec hG ho])]
    have hsz : (listed.setIfInBounds i true).size = ops.size := by simpa using hs
    have hquiet : ∀ (v : Value) (W' : World), i ≠ 0 → ins i = none → isMap i = false → Below W.heap.size W W' → Laid2 ops isMap ins w (listed.setIfInBounds i true) (a.put o.dst v) W' := by
      intro v W' h0 hin him hbW
      refine ⟨fun hc j hj => ?_, fun hc => ?_⟩
      · rw [getD_set_ne h0] at hc
        rcases getD_set_true hj with rfl | hj
        · exact ⟨hin, him⟩
        · exact hL.1 hc j hj
      · rw [getD_set_ne h0] at hc
        obtain ⟨b, es, clock, h1, h2, h3, h4, h5⟩ := hL.2 hc
        refine ⟨b, es, clock, h1, (hbW.block b (at_lt h2)).trans h2, mapSlots_put hA hb hS.size ho h3 v (fun _ hm => by rw [him] at hm; cases hm), fun x hx => ?_, fun j p hj hp => ?_⟩
        · obtain ⟨j, hj, hjx⟩ := h4 x hx
          exact ⟨j, getD_set_keep hj, hjx⟩
        · rcases getD_set_true hj with rfl | hj
          · rw [hin] at hp; cases hp
          · exact h5 j p hj hp
    unfold Oper.wp
    cases hD with
    | made h0 hop hm hi0 =>
      subst h0
      have hnone := hL.1 hil
      have hrun : (execOp a.eval o).run P W = .ok (.value (.map (some W.heap.size))) (W.alloc (.map #[] 0)) := by
        unfold execOp; rw [hop]; rfl
      rw [hrun]
      refine hK' _ _ ⟨slots2_put hA hb ho hS _ (fun _ h => by rw [hm] at h; cases h), ⟨fun hc => ?_, fun _ => ⟨W.heap.size, #[], 0, hW.size, World.alloc_heap_new W _, ?_, by simp, fun i p hl hip => ?_⟩⟩, hW.alloc hW.size _, hsz⟩
      · rw [getD_set_same (by omega)] at hc; cases hc
      · refine mapSlots_put hA hb hS.size ho (fun j oj d hj hd hl hmj => ?_) _ (fun _ _ => rfl)
        have := (hnone j hl).2
        rw [hmj] at this; cases this
      · rcases getD_set_true hl with rfl | hl
        · rw [hi0] at hip; cases hip
        · rw [(hnone i hl).1] at hip; cases hip
    | told h0 hin him hrun =>
      rw [hrun W hW]
      exact hK' _ _ ⟨slots2_put hA hb ho hS _ (fun _ _ => rfl), hquiet _ _ h0 hin him (Below.refl _ _), hW, hsz⟩
    | moved h0 hin him j oj d hj hd hjm hh hrun =>
      have hlj := hdone j hh
      rw [hrun W]
      have hl0 : listed.getD 0 false = true := by
        cases h00 : listed.getD 0 false with
        | true => rfl
        | false => have := (hL.1 h00 j hlj).2; rw [hjm] at this; cases this
      obtain ⟨b, es, clock, h1, h2, h3, h4, h5⟩ := hL.2 hl0
      refine hK' _ _ ⟨slots2_put hA hb ho hS _ (fun _ h => by rw [him] at h; cases h), ⟨fun hc => ?_, fun _ => ⟨b, es, clock, h1, h2, mapSlots_put hA hb hS.size ho h3 _ (fun _ _ => h3 j oj d hj hd hlj hjm), fun x hx => ?_, fun j' p hj' hp => ?_⟩⟩, hW, hsz⟩
      · rw [getD_set_keep hl0] at hc; cases hc
      · obtain ⟨j', hj', hjx⟩ := h4 x hx
        exact ⟨j', getD_set_keep hj', hjx⟩
      · rcases getD_set_true hj' with rfl | hj'
        · rw [hin] at hp; cases hp
        · exact h5 j' p hj' hp
    | called h0 hin him f args hrun hc =>
      rw [hrun W, Oper.upon_enter]
      refine (hc W).mono ?_
      rintro e w' ⟨rfl, hbw⟩
      exact hK' _ _ ⟨slots2_put hA hb ho hS _ (fun _ _ => rfl), hquiet _ _ h0 hin him hbw, hW.trans (hbw.mono hW.size), hsz⟩
    | laid kv vv m x y hin hop j oj d hj hdj hjm hh hm hx hy hd h0 =>
      have hlj := hdone j hh
      have hl0 : listed.getD 0 false = true := by
        cases h00 : listed.getD 0 false with
        | true => rfl
        | false => have := (hL.1 h00 j hlj).2; rw [hjm] at this; cases this
      obtain ⟨b, es, clock, h1, h2, h3, h4, h5⟩ := hL.2 hl0
      obtain ⟨kl, hkl⟩ := hkeys i _ hin
      have hmb : a.eval m = .map (some b) := hm.trans (h3 j oj d hj hdj hlj hjm)
      have hrun0 := run_put_new (P := P) (w := W) (t := T) (b := b) (val := vv) K ht h2 (fun e he => by
          obtain ⟨j', _, hj'⟩ := h4 e he
          exact hkeys j' _ hj') hkl (fun e he hek => by
          obtain ⟨j', hj', hjx⟩ := h4 e he
          have := hinj i j' _ _ hin hjx hek.symm
          subst this
          rw [hil] at hj'; cases hj')
      have hrun : (execOp a.eval o).run P W = .ok .skip (ChangeMaps.setBlock W b (.map (es.push ⟨kv, vv, clock⟩) (clock + 1))) := by
        unfold execOp; rw [hop]
        simp only [hmb, hx, hy]
        simp [hrun0, Result.andThen]
      rw [hrun]
      have hset : (ChangeMaps.setBlock W b (.map (es.push ⟨kv, vv, clock⟩) (clock + 1))).heap[b]? = some (.map (es.push ⟨kv, vv, clock⟩) (clock + 1)) := by simp [ChangeMaps.setBlock, at_lt h2]
      have hgr : W.grownBy (ChangeMaps.setBlock W b (.map (es.push ⟨kv, vv, clock⟩) (clock + 1))) (some b) :=
        ⟨rfl, rfl, rfl, by simp [ChangeMaps.setBlock], fun k hk hn => by
          have : b ≠ k := fun e => hn (by rw [e])
          simp [ChangeMaps.setBlock, Array.getElem?_setIfInBounds_ne this]⟩
      refine hK' _ _ ⟨slots2_put hA hb ho hS _ (fun hne => absurd hd hne), ⟨fun hc => ?_, fun _ => ⟨b, _, _, h1, hset, mapSlots_put hA hb hS.size ho h3 _ (fun hne => absurd hd hne), fun x hx => ?_, fun j' p hj' hp => ?_⟩⟩, hW.grown hgr hW.size (fun k e => by cases e; exact h1), hsz⟩
      · rw [getD_set_keep hl0] at hc; cases hc
      · simp only [Array.toList_push, List.mem_append, List.mem_singleton] at hx
        rcases hx with hx | rfl
        · obtain ⟨j', hj', hjx⟩ := h4 x hx
          exact ⟨j', getD_set_keep hj', hjx⟩
        · exact ⟨i, getD_set_same (by omega), hin⟩
      · rcases getD_set_true hj' with rfl | hj'
        · rw [hin] at hp; cases hp
          exact ⟨⟨kv, vv, clock⟩, by simp, rfl, rfl⟩
        · obtain ⟨x, hx, h6⟩ := h5 j' p hj' hp
          exact ⟨x, by simp [hx], h6⟩
  · intro listed a W hs hall ⟨hS, hL, hW, _⟩
    obtain ⟨b, es, clock, h1, h2, h3, h4, h5⟩ := hL.2 (hall 0 hpos)
    refine h a b es clock W hS.defers hS.size hS.old (fun j oj d hj hd hm => hS.new j oj d hj hd (hall j (Array.getElem?_eq_some_iff.1 hj).1) hm) (fun j oj d hj hd hm => h3 j oj d hj hd (hall j (Array.getElem?_eq_some_iff.1 hj).1) hm) h1 h2 hW ⟨fun x hx => ?_, fun p hp => ?_⟩
    · obtain ⟨i, hi, hix⟩ := h4 x hx
      rw [List.mem_filterMap]
      refine ⟨i, ?_, hix⟩
      rw [List.mem_range]
      rw [Array.getD_eq_getD_getElem?] at hi
      by_cases hlt : i < ops.size
      · exact hlt
      · rw [Array.getElem?_eq_none (by omega)] at hi; simp at hi
    · rw [List.mem_filterMap] at hp
      obtain ⟨i, hi, hip⟩ := hp
      exact h5 i p (hall i (List.mem_range.1 hi)) hip
  · simp
  · have hz : ∀ j, (Array.replicate ops.size false).getD j false = false := fun j => by
      rw [Array.getD_eq_getD_getElem?, Array.getElem?_replicate]
      split <;> rfl
    refine ⟨⟨rfl, rfl, fun _ _ => rfl, fun j oj d _ _ hl => ?_⟩, ⟨fun _ i hi => ?_, fun hc => ?_⟩, Below.refl _ _, by simp⟩
    · rw [hz] at hl; cases hl
    · rw [hz] at hi; cases hi
    · rw [hz] at hc; cases hc

theorem wp_mapLit2 {id : Nat} {a0 : Act} {w : World} {T k e : TypeId} (K : Keyed P k) (ht : P.underlying T = some (.map k e)) (hmo : P.follows .mixedOrders = true)
    (val : Nat → Value) (isMap : Nat → Bool) (ins : Nat → Option (Value × Value)) (hpos : 0 < ops.size)
    (hB : backward .any ops = true) (hA : dstApart ops = true) (hG : noGuards ops = true) (hb : dstBelow ops a0.tmps.size = true)
    (hkeys : ∀ i p, ins i = some p → ∃ l, keyOf P k p.1 = some l) (hinj : ∀ i j p q, ins i = some p → ins j = some q → p.1 = q.1 → i = j)
    (hop : ∀ (i : Nat) o (a : Act), ops[i]? = some o → (∀ t, unwritten ops t = true → a.tmps.getD t undef = a0.tmps.getD t undef) →
      (∀ (j : Nat) oj d, ops[j]? = some oj → oj.dst = some d → hangs o j = true → isMap j = false → a.tmps.getD d undef = val j) → Does2 P T w.drew ops isMap ins val i o a)
    (h : ∀ (a : Act) b es clock W, a.defers = a0.defers → a.tmps.size = a0.tmps.size → (∀ t, unwritten ops t = true → a.tmps.getD t undef = a0.tmps.getD t undef) →
      (∀ (j : Nat) oj d, ops[j]? = some oj → oj.dst = some d → isMap j = false → a.tmps.getD d undef = val j) →
      (∀ (j : Nat) oj d, ops[j]? = some oj → oj.dst = some d → isMap j = true → a.tmps.getD d undef = .map (some b)) →
      w.heap.size ≤ b → W.heap[b]? = some (.map es clock) → Below w.heap.size w W → HasJust es ((List.range ops.size).filterMap ins) → Q .normal a W) :
    (Code.region id ops true).wp P Q a0 w := by
  refine wp_region_any hmo ?_
  exact wpAny_mapLit2 (w := w.drew) K ht val isMap ins hpos hB hA hG hb hkeys hinj hop (fun a b es clock W h1 h2 h3 h4 h5 h6 h7 h8 h9 => h a b es clock W h1 h2 h3 h4 h5 h6 h7 ((Below.refl _ w).drew.trans h8) h9)
end

end Go.Proofs.YtolodcdhpnapmaaGreat
