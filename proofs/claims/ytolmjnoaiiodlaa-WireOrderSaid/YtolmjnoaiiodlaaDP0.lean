/-
  How deep a row of trees is: depth's walk.
-/
import Derived.Test.YtolmjnoaiiodlaaDE
import Derived.Deep.LoopGhost
import Derived.Deep.RegionHeld3
namespace Go.Proofs.Ytolmjnoaiiodlaa
open Go.RowKit Go.Maps Forest
set_option linter.unusedVariables false

def pcells (L : List Lev) : List Value := L.reverse.flatMap Lev.cells
theorem pcells_cons (l : Lev) (r : List Lev) : pcells (l :: r) = pcells r ++ l.cells := by simp [pcells]
theorem pcells_length (L : List Lev) : (pcells L).length = L.length * 4 := by
  unfold pcells
  rw [flat_length Lev.cells 4 (fun _ => rfl), List.length_reverse]
theorem pcells_set (l l' : Lev) (r : List Lev) (t : Nat) (u : Value) (h : l'.cells = l.cells.set t u) : (pcells (l :: r)).set (r.length * 4 + t) u = pcells (l' :: r) := by
  rw [pcells_cons, pcells_cons, h, List.set_append_right _ _ (by rw [pcells_length]; omega), pcells_length]
  congr 2
  omega
theorem top_cell {w : World} {g cap : Nat} {l : Lev} {r : List Lev} (h : w.ownsRow 0 75 4 (.slice (some ⟨g, 0, none⟩) (r.length + 1) cap) (r.length + 1) (pcells (l :: r))) (t : Nat) (ht : t < 4) : w.cell? ⟨g, r.length * 4 + t, none⟩ = l.cells[t]? := by
  obtain ⟨u, h1, h2⟩ := owns_at h (j := r.length * 4 + t) (by omega)
  rw [h2, ← h1, pcells_cons, List.getElem?_append_right (by rw [pcells_length]; omega), pcells_length]
  congr 1
  omega
/-- What a round of depth stands on. -/
structure Deep (fit : Int → Int → Nat → Nat → Bool) (w : World) (A : Option Addr) (B km : Nat) (F : Forest) (g : Nat) (v : Value) (wr : World) (L : List Lev) (f : Pl → Option Value) (flag : Bool) : Prop where
  num : g = more flag L
  own : wr.ownsRow 0 75 4 v L.length (pcells L)
  map : PMap wr B km f
  chain : Chain fit wr B L
  known : Known fit wr B f L
  flags : flag = true → ∃ l r k n bs kids rest pa kA kc, L = l :: r ∧ l.left = .cons k n bs kids rest ∧ listy k kids = true ∧ l.lA = some pa ∧ wr.cell? (pa.add 3) = some (.slice kA kids.len kc) ∧ f (placeR kA kids) = some (.int .i64 (1 + kids.Dm : Nat))
  last : ∀ l, L.getLast? = some l → l.row = F ∧ l.at_ = placeR A F
  done : L = [] → f (placeR A F) = some (.int .i64 (1 + F.Dm : Nat)) ∧ okF fit F = true
  below : Below w.heap.size w wr
  low : ∀ b, v.ownBlock = some b → w.heap.size ≤ b
  apart : v.ownBlock ≠ some km
  lens : ∀ l ∈ L, l.row.Dm ≤ F.Dm

section
variable {fit : Int → Int → Nat → Nat → Bool} {w wr wr' : World} {A : Option Addr} {B km g : Nat} {F : Forest} {v v' : Value} {L r : List Lev} {l : Lev} {f : Pl → Option Value} {flag : Bool}
theorem Deep.same (h : Deep fit w A B km F g v wr L f flag) (hB : B ≤ w.heap.size) (hb : Below w.heap.size w wr') : ∀ j, j < B → wr'.heap[j]? = wr.heap[j]? := fun j hj =>
  (hb.block j (by omega)).trans (h.below.block j (by omega)).symm
theorem Deep.bound (h : Deep fit w A B km F g v wr (l :: r) f flag) : l.deep ≤ F.Dm ∧ l.left.Dm ≤ F.Dm := by
  have h1 := h.chain.head.deep
  have h2 := h.lens l (by simp)
  omega
/-- A level is left. -/
theorem Deep.pop (h : Deep fit w A B km F g v wr (l :: r) f flag) (hl : l.left = .nil) (hB : B ≤ w.heap.size) (hown : wr'.ownsRow 0 75 4 v' r.length (pcells r)) (hmap : PMap wr' B km (setP f l.at_ (some (.int .i64 (1 + l.deep : Nat))))) (hb : Below w.heap.size w wr') (hv : ∀ b, v'.ownBlock = some b → v.ownBlock = some b) :
    ∃ g' flag', g' < g ∧ Deep fit w A B km F g' v' wr' r (setP f l.at_ (some (.int .i64 (1 + l.deep : Nat)))) flag' := by
  have hk := h.same hB hb
  have hhead := h.chain.head
  have hdm : l.row.Dm = l.deep := by rw [hhead.deep, hl]; simp [Dm]
  have hok : okF fit l.row = true := by rw [hhead.ok, hl]; rfl
  have hne : ∀ p ∈ r, p.at_ ≠ l.at_ := fun p hp e => by
    have h1 := h.chain.sizes p hp
    have hpr : RowAt wr B p.A p.row := by
      have : ∀ {M : List Lev}, Chain fit wr B M → ∀ q ∈ M, RowAt wr B q.A q.row := by
        intro M
        induction M with
        | nil => intro _ q hq; cases hq
        | cons m M ih =>
          intro hc q hq
          rcases List.mem_cons.1 hq with rfl | hq
          · exact hc.head.row
          · exact ih hc.tail q hq
      exact this h.chain.tail p hp
    have := row_same hpr hhead.row e
    rw [this] at h1
    omega
  have hat : ∀ q ∈ r, setP f l.at_ (some (.int .i64 (1 + l.deep : Nat))) q.at_ = some (.int .i64 0) := fun q hq => by
    unfold setP
    rw [if_neg (hne q hq)]
    exact h.known.on q (by simp [hq])
  have hself : setP f l.at_ (some (.int .i64 (1 + l.deep : Nat))) l.at_ = some (.int .i64 (1 + l.row.Dm : Nat)) := by unfold setP; rw [if_pos rfl, hdm]
  have hkn : Known fit wr' B (setP f l.at_ (some (.int .i64 (1 + l.deep : Nat)))) r := by
    refine ⟨hat, fun p u hu => ?_⟩
    unfold setP at hu
    by_cases e : p = l.at_
    · rw [if_pos e] at hu
      cases hu
      exact .inr ⟨l.A, l.row, hhead.row.kept hk, e, hok, by rw [hdm]⟩
    · rw [if_neg e] at hu
      rcases h.known.off p u hu with ⟨q, hq, e1, e2⟩ | ⟨A', G, h1, h2⟩
      · rcases List.mem_cons.1 hq with rfl | hq
        · exact absurd e1 e
        · exact .inl ⟨q, hq, e1, e2⟩
      · exact .inr ⟨A', G, h1.kept hk, h2⟩
  have hnum := h.num
  have hsum : g = 1 + (r.map fun p => waitR p.left).sum := by
    rw [hnum, more_cons, hl]
    rfl
  refine ⟨more (decide (r ≠ [])) r, decide (r ≠ []), ?_, ?_⟩
  · rw [hsum]
    cases r with
    | nil => simp [more]
    | cons p r' =>
      obtain ⟨k, n, bs, rest, pa, kc, e, _⟩ := h.chain.2.1.ex
      rw [more_cons, e, List.map_cons, List.sum_cons, e]
      simp [topR, waitR]
  · refine ⟨rfl, hown, hmap, (h.chain.tail).below hk, hkn, fun hf => ?_, fun q hq => ?_, fun hr => ?_, hb, fun b hb' => h.low b (hv b hb'), fun e => h.apart (hv _ e), fun q hq => h.lens q (by simp [hq])⟩
    · cases r with
      | nil => simp at hf
      | cons p r' =>
        obtain ⟨k, n, bs, rest, pa, kc, e, e1, _, e2, e3⟩ := h.chain.2.1.ex
        have hpa : pa.block < B := by
          rcases (h.chain.2.2.head).left with h0 | ⟨a, ea, ha⟩
          · rw [e] at h0; simp [Forest.len] at h0
          · rw [e2] at ea; cases ea; rw [e] at ha; exact ha.block
        exact ⟨p, r', k, n, bs, l.row, rest, pa, l.A, kc, rfl, e, e1, e2, (World.cell?_of_block (hk _ (by rw [block_add]; exact hpa))).trans e3, hself⟩
    · cases r with
      | nil => simp at hq
      | cons p r' => exact h.last q (by rw [List.getLast?_cons_cons]; exact hq)
    · subst hr
      obtain ⟨e1, e2⟩ := h.last l rfl
      rw [← e2, ← e1]
      exact ⟨hself, hok⟩
/-- The first kid that was left is done with. -/
theorem Deep.next {l' : Lev} {k n : Int} {bs : List Int} {kids rest : Forest} (h : Deep fit w A B km F g v wr (l :: r) f flag) (hl : l.left = .cons k n bs kids rest) (hB : B ≤ w.heap.size) (hrow : l'.row = l.row) (hA : l'.A = l.A) (hleft : l'.left = rest) (hcap : rest.len ≤ l'.lc) (hlA : RowAt wr B l'.lA rest) (hdeep : l'.deep = max l.deep (if listy k kids = true then 1 + kids.Dm else 0)) (hfit : fit k n bs.length kids.len = true) (hokk : okF fit kids = true) (hfl : listy k kids = false → flag = false)
    (hown : wr'.ownsRow 0 75 4 v (r.length + 1) (pcells (l' :: r))) (hmap : PMap wr' B km f) (hb : Below w.heap.size w wr') : ∃ g', g' < g ∧ Deep fit w A B km F g' v wr' (l' :: r) f false := by
  have hk := h.same hB hb
  have hhead := h.chain.head
  have hat : l'.at_ = l.at_ := by unfold Lev.at_; rw [hrow, hA]
  have hlev : LevOk fit wr B l' := by
    refine ⟨by rw [hrow, hA]; exact hhead.row, by rw [hleft]; exact hlA, ?_, ?_, ?_, by rw [hleft]; exact hcap⟩
    · rw [hrow, hleft, hhead.ok, hl]; simp [okF, hfit, hokk]
    · rw [hrow, hleft, hhead.deep, hl, hdeep]; simp only [Dm]; omega
    · have := hhead.size
      rw [hl] at this
      rw [hrow, hleft]
      simp only [Forest.size] at this
      omega
  have hch : Chain fit wr B (l' :: r) := by
    cases r with
    | nil => exact hlev
    | cons p r' =>
      obtain ⟨_, ⟨k2, n2, bs2, rest2, pa, kc, e, h1, h2, h3, h4⟩, hc⟩ := h.chain
      exact ⟨hlev, ⟨k2, n2, bs2, rest2, pa, kc, by rw [hrow]; exact e, by rw [hrow]; exact h1, by rw [hrow]; exact h2, h3, by rw [hA, hrow]; exact h4⟩, hc⟩
  have hkn : Known fit wr B f (l' :: r) := by
    refine ⟨fun q hq => ?_, fun p u hu => ?_⟩
    · rcases List.mem_cons.1 hq with rfl | hq
      · rw [hat]; exact h.known.on l (by simp)
      · exact h.known.on q (by simp [hq])
    · rcases h.known.off p u hu with ⟨q, hq, e1, e2⟩ | hx
      · rcases List.mem_cons.1 hq with rfl | hq
        · exact .inl ⟨l', by simp, by rw [hat]; exact e1, e2⟩
        · exact .inl ⟨q, by simp [hq], e1, e2⟩
      · exact .inr hx
  have hnum := h.num
  refine ⟨more false (l' :: r), ?_, rfl, by simpa using hown, hmap, hch.below hk, hkn.below hk, nofun, fun q hq => ?_, nofun, hb, h.low, h.apart, fun q hq => ?_⟩
  · rw [hnum]
    rw [more_cons, more_cons, hl, hleft, topR_false]
    by_cases hlk : listy k kids = true
    · cases flag <;> simp [topR, Forest.rounds, hlk] <;> omega
    · have := hfl (by simpa using hlk)
      subst this
      simp [topR, Forest.rounds, hlk]
  · cases r with
    | nil =>
      simp at hq
      subst hq
      obtain ⟨e1, e2⟩ := h.last l rfl
      exact ⟨hrow.trans e1, hat.trans e2⟩
    | cons p r' => exact h.last q (by rw [List.getLast?_cons_cons] at hq ⊢; exact hq)
  · rcases List.mem_cons.1 hq with rfl | hq
    · rw [hrow]; exact h.lens l (by simp)
    · exact h.lens q (by simp [hq])
/-- A row is gone into. -/
theorem Deep.push {k n : Int} {bs : List Int} {kids rest : Forest} {pa : Addr} {kA : Option Addr} {kc : Nat} (h : Deep fit w A B km F g v wr (l :: r) f flag) (hl : l.left = .cons k n bs kids rest) (hB : B ≤ w.heap.size) (hlk : listy k kids = true) (hfit : fit k n bs.length kids.len = true) (hpa : l.lA = some pa) (hcell : wr.cell? (pa.add 3) = some (.slice kA kids.len kc)) (hrow : RowAt wr B kA kids) (hcap : kids.len ≤ kc)
    (hnew : f (placeR kA kids) = none) (hown : wr'.ownsRow 0 75 4 v' (r.length + 2) (pcells (⟨kA, kids, kA, kids, kc, 0⟩ :: l :: r))) (hmap : PMap wr' B km (setP f (placeR kA kids) (some (.int .i64 0)))) (hb : Below w.heap.size w wr') (hlow : ∀ b, v'.ownBlock = some b → w.heap.size ≤ b) (hap : v'.ownBlock ≠ some km) :
    ∃ g', g' < g ∧ Deep fit w A B km F g' v' wr' (⟨kA, kids, kA, kids, kc, 0⟩ :: l :: r) (setP f (placeR kA kids) (some (.int .i64 0))) false := by
  have hk := h.same hB hb
  have hflag : flag = false := by
    cases hf : flag with
    | false => rfl
    | true =>
      obtain ⟨l2, r2, k2, n2, bs2, kids2, rest2, pa2, kA2, kc2, e, e1, _, e2, e3, e4⟩ := h.flags hf
      cases e
      rw [hl] at e1
      cases e1
      rw [hpa] at e2
      cases e2
      rw [hcell] at e3
      injection e3 with e3
      injection e3 with e3 _ _
      rw [← e3, hnew] at e4
      cases e4
  subst hflag
  have hat : Lev.at_ ⟨kA, kids, kA, kids, kc, 0⟩ = placeR kA kids := rfl
  have hch : Chain fit wr B (⟨kA, kids, kA, kids, kc, 0⟩ :: l :: r) :=
    ⟨⟨hrow, hrow, rfl, by simp, Nat.le_refl _, hcap⟩, ⟨k, n, bs, rest, pa, kc, hl, hlk, hfit, hpa, hcell⟩, h.chain⟩
  have hkn : Known fit wr B (setP f (placeR kA kids) (some (.int .i64 0))) (⟨kA, kids, kA, kids, kc, 0⟩ :: l :: r) := by
    refine ⟨fun q hq => ?_, fun p u hu => ?_⟩
    · unfold setP
      by_cases e : q.at_ = placeR kA kids
      · rw [if_pos e]
      · rw [if_neg e]
        rcases List.mem_cons.1 hq with rfl | hq
        · exact absurd rfl e
        · exact h.known.on q hq
    · unfold setP at hu
      by_cases e : p = placeR kA kids
      · rw [if_pos e] at hu
        cases hu
        exact .inl ⟨_, List.mem_cons_self, e, rfl⟩
      · rw [if_neg e] at hu
        rcases h.known.off p u hu with ⟨q, hq, e1, e2⟩ | hx
        · exact .inl ⟨q, List.mem_cons_of_mem _ hq, e1, e2⟩
        · exact .inr hx
  have hdm : kids.Dm ≤ F.Dm := by
    have h1 := h.bound.2
    rw [hl] at h1
    simp only [Dm, hlk, if_true] at h1
    omega
  have hnum := h.num
  refine ⟨more false (⟨kA, kids, kA, kids, kc, 0⟩ :: l :: r), ?_, rfl, by simpa using hown, hmap, hch.below hk, hkn.below hk, nofun, fun q hq => ?_, nofun, hb, hlow, hap, fun q hq => ?_⟩
  · rw [hnum]
    rw [more_cons, more_cons, List.map_cons, List.sum_cons, hl, topR_false, topR_false]
    simp [waitR, Forest.rounds, hlk]
    omega
  · rw [List.getLast?_cons_cons] at hq
    exact h.last q hq
  · rcases List.mem_cons.1 hq with rfl | hq
    · exact hdm
    · exact h.lens q hq
end
end Go.Proofs.Ytolmjnoaiiodlaa
