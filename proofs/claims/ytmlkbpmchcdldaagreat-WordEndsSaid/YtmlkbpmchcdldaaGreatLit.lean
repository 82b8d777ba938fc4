/-
  A region that lays a map's literal, its parts in any order: what it leaves. No program is named here.
-/
import Derived.Test.YtmlkbpmchcdldaaGreatGen
namespace Go.Proofs.YtmlkbpmchcdldaaGreat
open Go.RowKit Go.Maps

/-- No two operations write one slot. -/
def dstApart (ops : Array Oper) : Bool := ops.toList.zipIdx.all fun x => ops.toList.zipIdx.all fun y => x.2 == y.2 || x.1.dst.isNone || x.1.dst != y.1.dst
def dstBelow (ops : Array Oper) (n : Nat) : Bool := ops.toList.all fun o => match o.dst with | some d => decide (d < n) | none => true
/-- Does no operation write slot t? -/
def unwritten (ops : Array Oper) (t : Tmp) : Bool := ops.toList.all fun o => o.dst != some t
/-- Does operation o wait for operation j? -/
def hangs (o : Oper) (j : Nat) : Bool := o.after.toList.any fun ed => Region.binds .any ed && ed.on == j
def noGuards (ops : Array Oper) : Bool := ops.toList.all fun o => o.guard.isNone

section
variable {P : Program} {ops : Array Oper} {Q : Exit → Act → World → Prop}

theorem dstApart_spec (h : dstApart ops = true) {i j d : Nat} {oi oj : Oper} (hi : ops[i]? = some oi) (hj : ops[j]? = some oj) (di : oi.dst = some d) (dj : oj.dst = some d) : i = j := by
  unfold dstApart at h
  rw [List.all_eq_true] at h
  have h1 := h (oi, i) (by rw [List.mem_zipIdx_iff_getElem?]; simpa using hi)
  rw [List.all_eq_true] at h1
  have h2 := h1 (oj, j) (by rw [List.mem_zipIdx_iff_getElem?]; simpa using hj)
  simpa [di, dj] using h2

theorem dstBelow_spec {n : Nat} (h : dstBelow ops n = true) {i d : Nat} {o : Oper} (hi : ops[i]? = some o) (hd : o.dst = some d) : d < n := by
  unfold dstBelow at h
  rw [List.all_eq_true] at h
  have := h o (List.mem_of_getElem? (by simpa using hi))
  rw [hd] at this
  simpa using this

theorem noGuards_spec (h : noGuards ops = true) {i : Nat} {o : Oper} (hi : ops[i]? = some o) : o.guard = none := by
  unfold noGuards at h
  rw [List.all_eq_true] at h
  have := h o (List.mem_of_getElem? (by simpa using hi))
  simpa using this

theorem unwritten_spec {t : Tmp} (h : unwritten ops t = true) {i : Nat} {o : Oper} (hi : ops[i]? = some o) : o.dst ≠ some t := by
  unfold unwritten at h
  rw [List.all_eq_true] at h
  have := h o (List.mem_of_getElem? (by simpa using hi))
  simpa using this

theorem hangs_spec {o : Oper} {j : Nat} (h : hangs o j = true) : ∃ ed ∈ o.after, Region.binds .any ed = true ∧ ed.on = j := by
  unfold hangs at h
  rw [List.any_eq_true] at h
  obtain ⟨ed, hed, hb⟩ := h
  simp only [Bool.and_eq_true, beq_iff_eq] at hb
  exact ⟨ed, by simpa using hed, hb.1, hb.2⟩

/-- What the frame holds once the operations of 'listed' are done. -/
structure Slots (ops : Array Oper) (val : Nat → Value) (a0 : Act) (listed : Array Bool) (a : Act) : Prop where
  defers : a.defers = a0.defers
  size : a.tmps.size = a0.tmps.size
  old : ∀ t, unwritten ops t = true → a.tmps.getD t undef = a0.tmps.getD t undef
  new : ∀ (j : Nat) oj d, ops[j]? = some oj → oj.dst = some d → listed.getD j false = true → a.tmps.getD d undef = val j

/-- What the map's block holds once they are done: block number 'b' is the one that is made. -/
def Laid (ins : Nat → Option (Value × Value)) (w0 : World) (listed : Array Bool) (w : World) : Prop :=
  (listed.getD 0 false = false → w = w0 ∧ ∀ i, listed.getD i false = true → ins i = none) ∧
  (listed.getD 0 false = true → ∃ es clock, w = w0.alloc (.map es clock) ∧ (∀ e ∈ es.toList, ∃ i, listed.getD i false = true ∧ ins i = some (e.key, e.val)) ∧
    ∀ i p, listed.getD i false = true → ins i = some p → ∃ e ∈ es.toList, e.key = p.1 ∧ e.val = p.2)

/-- What one operation does. -/
inductive Does (P : Program) (T : TypeId) (b : Nat) (ins : Nat → Option (Value × Value)) (val : Nat → Value) (i : Nat) (o : Oper) (a : Act) : Prop
  | made (h0 : i = 0) (hop : o.op = .makeMap T none) (hv : val 0 = .map (some b)) (hi : ins 0 = none)
  | told (h0 : i ≠ 0) (hi : ins i = none) (hrun : ∀ W, (execOp a.eval o).run P W = .ok (.value (val i)) W)
  | laid (kv vv : Value) (m x y : Operand) (hi : ins i = some (kv, vv)) (hop : o.op = .insert T m x y) (hm : a.eval m = .map (some b)) (hx : a.eval x = kv) (hy : a.eval y = vv) (hd : o.dst = none)
      (h0 : hangs o 0 = true)

theorem getD_set_true {listed : Array Bool} {i j : Nat} (h : (listed.setIfInBounds i true).getD j false = true) : j = i ∨ listed.getD j false = true := by
  rw [Array.getD_eq_getD_getElem?, Array.getElem?_setIfInBounds] at h
  split at h
  · left; omega
  · right; rwa [Array.getD_eq_getD_getElem?]

theorem getD_set_keep {listed : Array Bool} {i j : Nat} (h : listed.getD j false = true) : (listed.setIfInBounds i true).getD j false = true := by
  rw [Array.getD_eq_getD_getElem?] at h ⊢
  rw [Array.getElem?_setIfInBounds]
  split
  · split
    · rfl
    · rename_i h1 h2; subst h1; rw [Array.getElem?_eq_none (by omega)] at h; simp at h
  · exact h

theorem getD_set_same {listed : Array Bool} {i : Nat} (h : i < listed.size) : (listed.setIfInBounds i true).getD i false = true := by
  rw [Array.getD_eq_getD_getElem?, Array.getElem?_setIfInBounds, if_pos rfl, if_pos h]; rfl

theorem getD_set_ne {listed : Array Bool} {i j : Nat} (h : i ≠ j) : (listed.setIfInBounds i true).getD j false = listed.getD j false := by
  rw [Array.getD_eq_getD_getElem?, Array.getElem?_setIfInBounds, if_neg h, Array.getD_eq_getD_getElem?]

theorem slots_put {val : Nat → Value} {a0 a : Act} {listed : Array Bool} {i : Nat} {o : Oper} (hA : dstApart ops = true) (hb : dstBelow ops a0.tmps.size = true)
    (hi : ops[i]? = some o) (h : Slots ops val a0 listed a) (v : Value) (hv : o.dst ≠ none → v = val i) : Slots ops val a0 (listed.setIfInBounds i true) (a.put o.dst v) := by
  cases hd : o.dst with
  | none =>
    refine ⟨h.defers, h.size, h.old, fun j oj d hj hdj hl => ?_⟩
    rcases getD_set_true hl with rfl | hl
    · rw [hi] at hj; cases hj; rw [hd] at hdj; cases hdj
    · exact h.new j oj d hj hdj hl
  | some d =>
    have hlt := dstBelow_spec hb hi hd
    have hv' := hv (by rw [hd]; simp)
    subst hv'
    refine ⟨h.defers, by simpa [Act.put] using h.size, fun t ht => ?_, fun j oj dj hj hdj hl => ?_⟩
    · rw [← h.old t ht]
      have : d ≠ t := fun e => unwritten_spec ht hi (e ▸ hd)
      simp [Act.put, Array.getD_eq_getD_getElem?, Array.getElem?_setIfInBounds_ne this]
    · by_cases hij : j = i
      · subst hij
        rw [hi] at hj; cases hj
        rw [hd] at hdj; cases hdj
        simp [Act.put, Array.getD_eq_getD_getElem?, h.size, hlt]
      · have hl' : listed.getD j false = true := (getD_set_true hl).resolve_left hij
        rw [← h.new j oj dj hj hdj hl']
        have : d ≠ dj := fun e => hij (dstApart_spec hA hj hi hdj (e ▸ hd))
        simp [Act.put, Array.getD_eq_getD_getElem?, Array.getElem?_setIfInBounds_ne this]

theorem wpAny_mapLit {a0 : Act} {w : World} {T k e : TypeId} (K : Keyed P k) (ht : P.underlying T = some (.map k e)) 
    (b : Nat) (hwb : w.heap.size = b) (val : Nat → Value) (ins : Nat → Option (Value × Value)) (hpos : 0 < ops.size)
    (hB : backward .any ops = true) (hA : dstApart ops = true) (hG : noGuards ops = true) (hb : dstBelow ops a0.tmps.size = true)
    (hkeys : ∀ i p, ins i = some p → ∃ l, keyOf P k p.1 = some l) (hinj : ∀ i j p q, ins i = some p → ins j = some q → p.1 = q.1 → i = j)
    (hop : ∀ (i : Nat) o (a : Act), ops[i]? = some o → (∀ t, unwritten ops t = true → a.tmps.getD t undef = a0.tmps.getD t undef) →
      (∀ (j : Nat) oj d, ops[j]? = some oj → oj.dst = some d → hangs o j = true → a.tmps.getD d undef = val j) → Does P T b ins val i o a)
    (h : ∀ (a : Act) es clock, a.defers = a0.defers → a.tmps.size = a0.tmps.size → (∀ t, unwritten ops t = true → a.tmps.getD t undef = a0.tmps.getD t undef) →
      (∀ (j : Nat) oj d, ops[j]? = some oj → oj.dst = some d → a.tmps.getD d undef = val j) → HasJust es ((List.range ops.size).filterMap ins) → Q .normal a (w.alloc (.map es clock))) :
    wpAny P .any ops Q ops.size (Array.replicate ops.size false) a0 w := by
  subst hwb
  refine wpAny_keeps (fun listed a W => Slots ops val a0 listed a ∧ Laid ins w listed W ∧ listed.size = ops.size) hB ?_ ?_ _ _ _ _ (by simp) ?_ ?_
  · intro listed a W i hs ⟨hS, hL, _⟩ hi
    obtain ⟨hlt, hnot, haft⟩ := mem_ready hi
    have ho : ops[i]? = some ops[i] := Array.getElem?_eq_getElem hlt
    generalize ops[i] = o at ho
    have hil : listed.getD i false = false := by
      rw [Array.getD_eq_getD_getElem?, Array.getElem?_eq_getElem (by omega)] at hnot ⊢
      simpa using hnot
    have hD := hop i o a ho hS.old (fun j oj d hj hd hh => by
      obtain ⟨ed, hed, hbd, hon⟩ := hangs_spec hh
      exact hS.new j oj d hj hd (hon ▸ haft o ho ed hed hbd))
    refine wpOp_step ho (fun K' hK' => ?_)
    rw [if_pos (by simp [Region.wanted, noGuards_spec hG ho])]
    have hsz : (listed.setIfInBounds i true).size = ops.size := by simpa using hs
    unfold Oper.wp
    cases hD with
    | made h0 hop hv hi0 =>
      subst h0
      obtain ⟨hw0, hnone⟩ := hL.1 hil
      subst W
      have hrun : (execOp a.eval o).run P w = .ok (.value (.map (some w.heap.size))) (w.alloc (.map #[] 0)) := by
        unfold execOp; rw [hop]; rfl
      rw [hrun]
      refine hK' _ _ ⟨slots_put hA hb ho hS _ (fun _ => hv.symm), ⟨fun hc => ?_, fun _ => ⟨#[], 0, rfl, by simp, fun i p hl hip => ?_⟩⟩, hsz⟩
      · rw [getD_set_same (by omega)] at hc; cases hc
      · rcases getD_set_true hl with rfl | hl
        · rw [hi0] at hip; cases hip
        · rw [hnone i hl] at hip; cases hip
    | told h0 hin hrun =>
      rw [hrun W]
      refine hK' _ _ ⟨slots_put hA hb ho hS _ (fun _ => rfl), ⟨fun hc => ?_, fun hc => ?_⟩, hsz⟩
      · rw [getD_set_ne h0] at hc
        refine ⟨(hL.1 hc).1, fun j hj => ?_⟩
        rcases getD_set_true hj with rfl | hj
        · exact hin
        · exact (hL.1 hc).2 j hj
      · rw [getD_set_ne h0] at hc
        obtain ⟨es, clock, hW, h1, h2⟩ := hL.2 hc
        refine ⟨es, clock, hW, fun x hx => ?_, fun j p hj hp => ?_⟩
        · obtain ⟨j, hj, hjx⟩ := h1 x hx
          exact ⟨j, getD_set_keep hj, hjx⟩
        · rcases getD_set_true hj with rfl | hj
          · rw [hin] at hp; cases hp
          · exact h2 j p hj hp
    | laid kv vv m x y hin hop hm hx hy hd h0 =>
      obtain ⟨ed, hed, hbd, hon⟩ := hangs_spec h0
      have hl0 : listed.getD 0 false = true := hon ▸ haft o ho ed hed hbd
      obtain ⟨es, clock, rfl, h1, h2⟩ := hL.2 hl0
      obtain ⟨kl, hkl⟩ := hkeys i _ hin
      have hrun0 := run_put_new (P := P) (w := w.alloc (.map es clock)) (t := T) (b := w.heap.size) (val := vv) K ht (MapKept.heap_alloc _ _).1 (fun e he => by
          obtain ⟨j, _, hj⟩ := h1 e he
          exact hkeys j _ hj) hkl (fun e he hek => by
          obtain ⟨j, hj, hjx⟩ := h1 e he
          have := hinj i j _ _ hin hjx hek.symm
          subst this
          rw [hil] at hj; cases hj)
      rw [setBlock_alloc] at hrun0
      have hrun : (execOp a.eval o).run P (w.alloc (.map es clock)) = .ok .skip (w.alloc (.map (es.push ⟨kv, vv, clock⟩) (clock + 1))) := by
        unfold execOp; rw [hop]
        simp only [hm, hx, hy]
        have hrun1 : (Instr.mapUpdate T (.map (some w.heap.size)) kv vv).run P (w.alloc (.map es clock)) = _ := hrun0
        simp [hrun1, Result.andThen]
      rw [hrun]
      refine hK' _ _ ⟨slots_put hA hb ho hS _ (fun hne => absurd hd hne), ⟨fun hc => ?_, fun _ => ⟨_, _, rfl, fun x hx => ?_, fun j p hj hp => ?_⟩⟩, hsz⟩
      · rw [getD_set_keep hl0] at hc; cases hc
      · simp only [Array.toList_push, List.mem_append, List.mem_singleton] at hx
        rcases hx with hx | rfl
        · obtain ⟨j, hj, hjx⟩ := h1 x hx
          exact ⟨j, getD_set_keep hj, hjx⟩
        · exact ⟨i, getD_set_same (by omega), hin⟩
      · rcases getD_set_true hj with rfl | hj
        · rw [hin] at hp; cases hp
          exact ⟨⟨kv, vv, clock⟩, by simp, rfl, rfl⟩
        · obtain ⟨x, hx, h3⟩ := h2 j p hj hp
          exact ⟨x, by simp [hx], h3⟩
  · intro listed a W hs hall ⟨hS, hL, _⟩
    obtain ⟨es, clock, rfl, h1, h2⟩ := hL.2 (hall 0 hpos)
    refine h a es clock hS.defers hS.size hS.old (fun j oj d hj hd => hS.new j oj d hj hd (hall j (Array.getElem?_eq_some_iff.1 hj).1)) ⟨fun x hx => ?_, fun p hp => ?_⟩
    · obtain ⟨i, hi, hix⟩ := h1 x hx
      rw [List.mem_filterMap]
      refine ⟨i, ?_, hix⟩
      rw [List.mem_range]
      rw [Array.getD_eq_getD_getElem?] at hi
      by_cases hlt : i < ops.size
      · exact hlt
      · rw [Array.getElem?_eq_none (by omega)] at hi; simp at hi
    · rw [List.mem_filterMap] at hp
      obtain ⟨i, hi, hip⟩ := hp
      exact h2 i p (hall i (List.mem_range.1 hi)) hip
  · simp
  · have hz : ∀ j, (Array.replicate ops.size false).getD j false = false := fun j => by
      rw [Array.getD_eq_getD_getElem?, Array.getElem?_replicate]
      split <;> rfl
    refine ⟨⟨rfl, rfl, fun _ _ => rfl, fun j oj d _ _ hl => ?_⟩, ⟨fun _ => ⟨rfl, fun i hi => ?_⟩, fun hc => ?_⟩, by simp⟩
    · rw [hz] at hl; cases hl
    · rw [hz] at hi; cases hi
    · rw [hz] at hc; cases hc

theorem wp_mapLit {id : Nat} {a0 : Act} {w : World} {T k e : TypeId} (K : Keyed P k) (ht : P.underlying T = some (.map k e)) (hm : P.follows .mixedOrders = true)
    (b : Nat) (hwb : w.heap.size = b) (val : Nat → Value) (ins : Nat → Option (Value × Value)) (hpos : 0 < ops.size)
    (hB : backward .any ops = true) (hA : dstApart ops = true) (hG : noGuards ops = true) (hb : dstBelow ops a0.tmps.size = true)
    (hkeys : ∀ i p, ins i = some p → ∃ l, keyOf P k p.1 = some l) (hinj : ∀ i j p q, ins i = some p → ins j = some q → p.1 = q.1 → i = j)
    (hop : ∀ (i : Nat) o (a : Act), ops[i]? = some o → (∀ t, unwritten ops t = true → a.tmps.getD t undef = a0.tmps.getD t undef) →
      (∀ (j : Nat) oj d, ops[j]? = some oj → oj.dst = some d → hangs o j = true → a.tmps.getD d undef = val j) → Does P T b ins val i o a)
    (h : ∀ (a : Act) es clock, a.defers = a0.defers → a.tmps.size = a0.tmps.size → (∀ t, unwritten ops t = true → a.tmps.getD t undef = a0.tmps.getD t undef) →
      (∀ (j : Nat) oj d, ops[j]? = some oj → oj.dst = some d → a.tmps.getD d undef = val j) → HasJust es ((List.range ops.size).filterMap ins) → Q .normal a (w.drew.alloc (.map es clock))) :
    (Code.region id ops true).wp P Q a0 w := by
  refine wp_region_any hm ?_
  exact wpAny_mapLit (w := w.drew) K ht b hwb val ins hpos hB hA hG hb hkeys hinj hop h

theorem wp_mapText {id : Nat} {a0 : Act} {w : World} {T k e : TypeId} (K : Keyed P k) (ht : P.underlying T = some (.map k e)) (hl : Region.linearise.go .any ops ops.size 0 (Array.replicate ops.size false) [] = List.range ops.size)
    (b : Nat) (hwb : w.heap.size = b) (val : Nat → Value) (ins : Nat → Option (Value × Value)) (hpos : 0 < ops.size)
    (hB : backward .any ops = true) (hA : dstApart ops = true) (hG : noGuards ops = true) (hb : dstBelow ops a0.tmps.size = true)
    (hkeys : ∀ i p, ins i = some p → ∃ l, keyOf P k p.1 = some l) (hinj : ∀ i j p q, ins i = some p → ins j = some q → p.1 = q.1 → i = j)
    (hop : ∀ (i : Nat) o (a : Act), ops[i]? = some o → (∀ t, unwritten ops t = true → a.tmps.getD t undef = a0.tmps.getD t undef) →
      (∀ (j : Nat) oj d, ops[j]? = some oj → oj.dst = some d → hangs o j = true → a.tmps.getD d undef = val j) → Does P T b ins val i o a)
    (h : ∀ (a : Act) es clock, a.defers = a0.defers → a.tmps.size = a0.tmps.size → (∀ t, unwritten ops t = true → a.tmps.getD t undef = a0.tmps.getD t undef) →
      (∀ (j : Nat) oj d, ops[j]? = some oj → oj.dst = some d → a.tmps.getD d undef = val j) → HasJust es ((List.range ops.size).filterMap ins) → Q .normal a (w.alloc (.map es clock))) :
    (Code.region id ops false).wp P Q a0 w := by
  refine wp_region ?_
  rw [← hl]
  exact wpAny_sound _ 0 _ _ _ (wpAny_mapLit K ht b hwb val ins hpos hB hA hG hb hkeys hinj hop h)

end
#print axioms wp_mapLit
end Go.Proofs.YtmlkbpmchcdldaaGreat
