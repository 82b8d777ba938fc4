/-
  A region of a round that draws its order, each of whose operations tells one known value in whatever world: what it leaves. No program is named here.
-/
import Derived.Test.YtdbflopfcnkjbaaGreatRT
namespace Go.Proofs.YtdbflopfcnkjbaaGreat
open Go.RowKit Go.Maps
set_option linter.unusedVariables false

section
variable {F : Fence} {n : Nat} {P : Program} {ops : Array Oper} {Q : Exit → Act → World → Prop}

/-- What every step keeps, holds at the end. -/
theorem wpAnyIn_keeps {md : Region.Mode} (I : Array Bool → Act → World → Prop) (hB : backward md ops = true)
    (hstep : ∀ (listed : Array Bool) a w i, listed.size = ops.size → I listed a w → i ∈ Region.ready md ops listed → wpOpIn F n P ops Q i (I (listed.setIfInBounds i true)) a w)
    (hend : ∀ (listed : Array Bool) a w, listed.size = ops.size → (∀ i, i < ops.size → listed.getD i false = true) → I listed a w → Q .normal a w) :
    ∀ fuel (listed : Array Bool) a w, listed.size = ops.size → listed.toList.count false ≤ fuel → I listed a w → wpAnyIn F n P md ops Q fuel listed a w := by
  intro fuel
  induction fuel with
  | zero =>
    intro listed a w hs hc hI
    have hr : Region.ready md ops listed = [] := by
      rw [List.eq_nil_iff_forall_not_mem]
      intro i hi
      obtain ⟨h0, h1, _⟩ := mem_ready hi
      have : false ∈ listed.toList := by
        rw [Array.getD_eq_getD_getElem?, Array.getElem?_eq_getElem (by omega)] at h1
        simp at h1
        rw [← h1]
        exact Array.mem_toList_iff.2 (Array.getElem_mem _)
      have := List.count_pos_iff.2 this
      omega
    exact ⟨hr, hend listed a w hs (ready_nil_all hB hs hr) hI⟩
  | succ fuel ih =>
    intro listed a w hs hc hI
    refine ⟨fun hr => hend listed a w hs (ready_nil_all hB hs hr) hI, fun i hi => ?_⟩
    obtain ⟨h0, h1, _⟩ := mem_ready hi
    refine wpOpIn_mono (fun a' w' h' => ih _ a' w' (by simpa using hs) ?_ h') (hstep listed a w i hs hI hi)
    have hil : i < listed.toList.length := by simp; omega
    have hf : listed.toList[i] = false := by
      rw [Array.getD_eq_getD_getElem?, Array.getElem?_eq_getElem (by omega)] at h1
      simpa using h1
    have hin : false ∈ listed.toList := hf ▸ List.getElem_mem hil
    have hpos := List.count_pos_iff.2 hin
    have hcs : (listed.toList.set i true).count false = listed.toList.count false - 1 := by
      rw [List.count_set hil, hf]
      rfl
    rw [Array.toList_setIfInBounds, hcs]
    omega

/-- Is an operation wanted, by the values that are told? -/
def wantS (vals : Nat → Value) (o : Oper) : Bool := match o.guard with
  | none => true
  | some (j, b) => match vals j with
    | .bool c => c == b
    | _ => false
def allTell (ops : Array Oper) : Bool := ops.toList.all fun o => o.dst.isSome
theorem allTell_spec (h : allTell ops = true) {i : Nat} {o : Oper} (hi : ops[i]? = some o) : o.dst ≠ none := by
  unfold allTell at h
  rw [List.all_eq_true] at h
  have := h o (List.mem_of_getElem? (by simpa using hi))
  intro hn
  rw [hn] at this
  cases this
/-- Each guard hangs on its operation. -/
def guardsHang (ops : Array Oper) : Bool := ops.toList.all fun o => match o.guard with | none => true | some (j, _) => hangs o j
theorem guardsHang_spec (h : guardsHang ops = true) {i j : Nat} {b : Bool} {o : Oper} (hi : ops[i]? = some o) (hg : o.guard = some (j, b)) : hangs o j = true := by
  unfold guardsHang at h
  rw [List.all_eq_true] at h
  have := h o (List.mem_of_getElem? (by simpa using hi))
  rw [hg] at this
  exact this
theorem yielded_of {a : Act} {j : Nat} {c : Bool} (h : sl ops a j = .bool c) : yielded ops a.tmps j = some c := by
  unfold sl at h
  unfold yielded
  cases hd : (ops[j]?).bind (·.dst) with
  | none => rw [hd] at h; simp [undef] at h
  | some d =>
    rw [hd] at h
    simp only [Option.bind_some] at h ⊢
    rw [Array.getD_eq_getD_getElem?] at h
    cases ht : a.tmps[d]? with
    | none => rw [ht] at h; simp [undef] at h
    | some v => rw [ht] at h; simp only [Option.getD_some] at h; rw [h]
theorem wanted_of {vals : Nat → Value} {o : Oper} {a : Act} (hv : ∀ j b, o.guard = some (j, b) → sl ops a j = vals j ∧ ∃ c, vals j = .bool c) : Region.wanted o (yielded ops a.tmps) = wantS vals o := by
  unfold Region.wanted wantS
  cases hg : o.guard with
  | none => rfl
  | some jb =>
    obtain ⟨j, b⟩ := jb
    obtain ⟨h1, c, h2⟩ := hv j b hg
    rw [h2] at h1
    simp only [yielded_of h1, h2]
    cases c <;> cases b <;> rfl

theorem wpIn_static {id : Nat} {a0 : Act} {w : World} (hF : ∀ f, F.fn f) (hmo : P.follows .mixedOrders = true) (vals : Nat → Value) (G : World → Prop)
    (hB : backward .any ops = true) (hA : dstApart ops = true) (hD : allTell ops = true) (hg : guardsHang ops = true) (hb : dstBelow ops a0.tmps.size = true)
    (hbool : ∀ (i : Nat) (o : Oper) (j : Nat) (b : Bool), ops[i]? = some o → o.guard = some (j, b) → ∃ c, vals j = .bool c) (hun : ∀ (i : Nat) (o : Oper), ops[i]? = some o → wantS vals o = false → vals i = undef)
    (h0 : G w.drew)
    (hstep : ∀ (i : Nat) (o : Oper), ops[i]? = some o → wantS vals o = true → ∀ (a : Act) (W : World), G W → (∀ t, unwritten ops t = true → a.tmps.getD t undef = a0.tmps.getD t undef) → (∀ k, hangs o k = true → sl ops a k = vals k) →
      o.uponIn F n P a (fun a' W' => a' = a.put o.dst (vals i) ∧ G W') Q ((o.semAt F.round a.eval).run P W))
    (h : ∀ (a : Act) W, a.defers = a0.defers → a.tmps.size = a0.tmps.size → (∀ t, unwritten ops t = true → a.tmps.getD t undef = a0.tmps.getD t undef) → (∀ j, j < ops.size → sl ops a j = vals j) → G W → Q .normal a W) :
    (Code.region id ops true).wpIn F n P Q a0 w := by
  refine wpIn_region_any hmo ?_
  refine wpAnyIn_keeps (fun listed a W => (a.defers = a0.defers ∧ a.tmps.size = a0.tmps.size ∧ (∀ t, unwritten ops t = true → a.tmps.getD t undef = a0.tmps.getD t undef)) ∧ G W ∧
    (∀ j, listed.getD j false = true → sl ops a j = vals j)) hB ?_ ?_ _ _ _ _ (by simp) (by simp) ?_
  · intro listed a W i hs ⟨⟨hd, hsz, hold⟩, hGW, hT⟩ hi
    obtain ⟨hlt, hnot, haft⟩ := mem_ready hi
    have ho : ops[i]? = some ops[i] := Array.getElem?_eq_getElem hlt
    generalize ops[i] = o at ho
    have hdone : ∀ j, hangs o j = true → listed.getD j false = true := fun j hh => by
      obtain ⟨ed, hed, hbd, hon⟩ := hangs_spec hh
      exact hon ▸ haft o ho ed hed hbd
    have hdst := allTell_spec hD ho
    have hput : ∀ v W', v = vals i → G W' → (((a.put o.dst v).defers = a0.defers ∧ (a.put o.dst v).tmps.size = a0.tmps.size ∧ (∀ t, unwritten ops t = true → (a.put o.dst v).tmps.getD t undef = a0.tmps.getD t undef)) ∧ G W' ∧
        (∀ j, (listed.setIfInBounds i true).getD j false = true → sl ops (a.put o.dst v) j = vals j)) := by
      rintro v W' rfl hG'
      have hsl := sl_put (a := a) hA (by rw [hsz]; exact hb) ho (vals i) (fun e => absurd e hdst)
      refine ⟨⟨?_, ?_, fun t ht => ?_⟩, hG', fun j hj => ?_⟩
      · unfold Act.put; split <;> exact hd
      · unfold Act.put; split <;> simp [hsz]
      · rw [← hold t ht]
        cases hd' : o.dst with
        | none => rfl
        | some d =>
          have : d ≠ t := fun e => unwritten_spec ht ho (e ▸ hd')
          simp [Act.put, Array.getD_eq_getD_getElem?, Array.getElem?_setIfInBounds_ne this]
      · rw [hsl]
        unfold upd
        split
        · subst j; rfl
        · rename_i hne
          exact hT j ((getD_set_true hj).resolve_left hne)
    have hw := wanted_of (a := a) (vals := vals) (o := o) (fun j b hgd => ⟨hT j (hdone j (guardsHang_spec hg ho hgd)), hbool i o j b ho hgd⟩)
    refine wpOpIn_step ho (fun K' hK' => ?_)
    rw [hw]
    cases hwt : wantS vals o
    · rw [if_neg (by simp)]
      exact ⟨fun f _ => hF f, hK' _ _ (hput _ _ (hun i o ho hwt).symm hGW)⟩
    · rw [if_pos rfl]
      refine Oper.wpIn_mono (K := fun a' W' => a' = a.put o.dst (vals i) ∧ G W') ?_ ⟨fun f _ => hF f, hstep i o ho hwt a W hGW hold (fun k hk => hT k (hdone k hk))⟩
      rintro a' W' ⟨rfl, hG'⟩
      exact hK' _ _ (hput _ _ rfl hG')
  · intro listed a W hs hall ⟨⟨hd, hsz, hold⟩, hGW, hT⟩
    exact h a W hd hsz hold (fun j hj => hT j (hall j hj)) hGW
  · have hz : ∀ j, (Array.replicate ops.size false).getD j false = false := fun j => by
      rw [Array.getD_eq_getD_getElem?, Array.getElem?_replicate]
      split <;> rfl
    exact ⟨⟨rfl, rfl, fun _ _ => rfl⟩, h0, fun j hj => by rw [hz] at hj; cases hj⟩
theorem static_call {lp n : Nat} {o : Oper} {a : Act} {W : World} {f : FuncId} {args : Array Value} {v : Value} {G : World → Prop} (hrun : (o.semAt (Fence.wide.inRound lp).round a.eval).run P W = .ok (.enter f args) W)
    (hc : Calls P f args W fun e w' => e = .returned v ∧ G w') : o.uponIn (Fence.wide.inRound lp) n P a (fun a' W' => a' = a.put o.dst v ∧ G W') Q ((o.semAt (Fence.wide.inRound lp).round a.eval).run P W) := by
  rw [hrun, Oper.uponIn_enter]
  refine ⟨(fun h => by cases h), (CallsIn.inRound lp (callsIn_wide.2 hc)).mono ?_⟩
  rintro e w' ⟨rfl, hG⟩
  exact ⟨rfl, hG⟩
theorem static_told {lp n : Nat} {o : Oper} {a : Act} {W : World} {v : Value} {G : World → Prop} (hrun : (o.semAt (Fence.wide.inRound lp).round a.eval).run P W = .ok (.value v) W)
    (hG : G W) : o.uponIn (Fence.wide.inRound lp) n P a (fun a' W' => a' = a.put o.dst v ∧ G W') Q ((o.semAt (Fence.wide.inRound lp).round a.eval).run P W) := by
  rw [hrun]
  exact ⟨rfl, hG⟩
end
end Go.Proofs.YtdbflopfcnkjbaaGreat
