/-
  The longest beginning at which there is a thing.
-/
import Derived.Test.YthefgfcjjbjjkaaTE
namespace Go.Proofs.Ythefgfcjjbjjkaa
open Go.RowKit
set_option linter.unusedVariables false
set_option linter.unusedSimpArgs false
attribute [local go_sem] Oper.semAt_some

/-- The last thing at the first j prefixes. -/
def lonJ (pr : List Bool → Bool) (th : List Bool → Option Addr) (b : List Bool) : Nat → Option Addr
  | 0 => none
  | j + 1 => if pr (b.take j) = true then (th (b.take j)).or (lonJ pr th b j) else lonJ pr th b j
section
variable {W W' : World} {t : TP} {pr : List Bool → Bool} {c : List Bool → Nat} {th : List Bool → Option Addr} {N : List Bool → Nat} {b : List Bool} {k : List Int}
theorem take_snoc {b : List Bool} {j : Nat} (h : j < b.length) : b.take (j + 1) = b.take j ++ [b[j]] := by rw [List.take_add_one, List.getElem?_eq_getElem h]; rfl
theorem TreeX.up (h : TreeX W t pr c th N) (b : List Bool) : ∀ i j, i ≤ j → pr (b.take j) = true → pr (b.take i) = true := by
  intro i j hij
  induction j with
  | zero => intro e; obtain rfl : i = 0 := by omega
            exact e
  | succ j ih =>
    intro e
    by_cases h1 : i = j + 1
    · rw [h1]; exact e
    · refine ih (by omega) ?_
      by_cases hl : j < b.length
      · rw [take_snoc hl] at e; exact h.clo _ _ e
      · rw [List.take_of_length_le (by omega)] at e ⊢; exact e
theorem lonJ_stop (h : TreeX W t pr c th N) {i : Nat} (hi : pr (b.take i) = false) : ∀ j, i ≤ j → lonJ pr th b j = lonJ pr th b i := by
  intro j hij
  induction j with
  | zero => obtain rfl : i = 0 := by omega
            rfl
  | succ j ih =>
    by_cases h1 : i = j + 1
    · rw [h1]
    · have : pr (b.take j) = false := by
        cases e : pr (b.take j) with
        | false => rfl
        | true => rw [h.up b i j (by omega) e] at hi; cases hi
      show (if pr (b.take j) = true then _ else _) = _
      rw [if_neg (by rw [this]; simp)]
      exact ih (by omega)
theorem kb_bit {j : Nat} (h : j < (kb k).length) : (kb k)[j] = btN k j := by simp [kb]
/-- The next peg's address. -/
theorem next_peg (h : TreeX W t pr c th N) {pre : List Addr} {x : Addr} (hp : ∀ p y, pre = p ++ [y] → y = pegA t N ((kb k).take p.length) ∧ ((kb k).take p.length = [] ∨ ∃ q z, (kb k).take p.length = q ++ [z] ∧ pr q = true)) (hn : NxP ⟨t.tb, 2, none⟩ k pre x W) :
    x = pegA t N ((kb k).take pre.length) ∧ pre.length ≤ (kb k).length ∧ ((kb k).take pre.length = [] ∨ ∃ q z, (kb k).take pre.length = q ++ [z] ∧ pr q = true) := by
  rcases hn with ⟨rfl, rfl⟩ | ⟨p, y, g, rfl, hl, hc, rfl⟩
  · exact ⟨rfl, Nat.zero_le _, .inl rfl⟩
  · obtain ⟨h1, h2⟩ := hp p y rfl
    have hlen : p.length < (kb k).length := by rw [kb_len]; exact hl
    have h3 := (h.peg h2).1
    rw [← h1, hc] at h3
    have hpr : pr ((kb k).take p.length) = true := by
      cases e : pr ((kb k).take p.length) with
      | true => rfl
      | false => simp [ptN, e] at h3
    simp only [ptN, hpr, if_true, Option.some.injEq, Value.pointer.injEq, Addr.mk.injEq, and_true] at h3
    rw [List.length_append, List.length_singleton, take_snoc hlen, pegA_snoc, h3, kb_bit hlen]
    exact ⟨rfl, hlen, .inr ⟨_, _, rfl, hpr⟩⟩
end
theorem below3 (w : World) (o o' o2 : Obj) : Below w.heap.size w (((w.alloc o).alloc o').alloc o2) := (below2 w o o').alloc (by simp; omega) _
theorem three_boxes (w : World) (o o' o2 : Obj) : (((w.alloc o).alloc o').alloc o2).heap[w.heap.size]? = some o ∧ (((w.alloc o).alloc o').alloc o2).heap[w.heap.size + 1]? = some o' ∧ (((w.alloc o).alloc o').alloc o2).heap[w.heap.size + 2]? = some o2 := by
  obtain ⟨h1, h2⟩ := two_boxes w o o'
  refine ⟨(Below.heap_alloc _ _ _ (at_lt h1)).trans h1, (Below.heap_alloc _ _ _ (at_lt h2)).trans h2, ?_⟩
  have := World.alloc_heap_new ((w.alloc o).alloc o') o2
  rwa [World.size_alloc, World.size_alloc] at this
theorem StayN.below {t : Option TypeId} {B n0 : Nat} {w X Y : World} (h : StayN t B X Y) (hn : n0 ≤ B) (hw : n0 ≤ w.heap.size) (hb : Below n0 w X) : Below n0 w Y :=
  ⟨h.os.trans hb.os, h.tape.trans hb.tape, h.output.trans hb.output, Nat.le_trans hb.size h.size, fun k hk => by
    have hlt : k < X.heap.size := Nat.lt_of_lt_of_le hk (Nat.le_trans hw hb.size)
    rw [h.same k _ (Array.getElem?_eq_getElem hlt) (.inl (Nat.lt_of_lt_of_le hk hn)), ← hb.block k hk, Array.getElem?_eq_getElem hlt]⟩
theorem KpT.put {B : Nat} (X : World) (l : Nat) (o o' : Obj) (hl : l < B) (h : X.heap[l]? = some o) (ho : o.isCells = false) : KpT B X (X.putObj l o') :=
  ⟨by simp, fun k u hk _ hc => (World.putObj_heap_other (fun e => by
    subst e
    rw [h] at hk
    injection hk with hk
    subst hk
    have := hc ho
    omega)).trans hk⟩
theorem KpT.setBox {B g i : Nat} {T : TypeId} {cs : Array Value} {f : Nat × Nat} {X : World} (h : X.heap[g]? = some (.cells cs T f)) (hT : Turns (.cells cs T f)) (u : Value) : KpT B X (X.setCell ⟨g, i, none⟩ u) :=
  ⟨(KeepsWalks.setCell X _ u).size, fun k o hk ht _ => (set_other (fun e => by
    subst e
    rw [h] at hk
    injection hk with hk
    exact ht (hk ▸ hT))).trans hk⟩
theorem SP.stays {k : List Int} {m : Nat} {s : List Addr} {X Y : World} (h : SP k s X) (hs : Stays m X Y) : SP k s Y := by
  obtain ⟨p, y, h1, h2⟩ := h
  exact ⟨p, y, h1, h2.imp id (fun h3 => hs.cell h3)⟩
/-- The last peg that came is that of a beginning of the key. -/
def LastP (t : TP) (pr : List Bool → Bool) (N : List Bool → Nat) (b : List Bool) (pre : List Addr) : Prop := ∀ p y, pre = p ++ [y] → y = pegA t N (b.take p.length) ∧ (b.take p.length = [] ∨ ∃ q z, b.take p.length = q ++ [z] ∧ pr q = true)
theorem lastP_nil (t : TP) (pr : List Bool → Bool) (N : List Bool → Nat) (b : List Bool) : LastP t pr N b [] := fun p y e => by simp at e
theorem lastP_snoc {t : TP} {pr : List Bool → Bool} {N : List Bool → Nat} {b : List Bool} {pre : List Addr} {x : Addr} (h : x = pegA t N (b.take pre.length)) (h2 : b.take pre.length = [] ∨ ∃ q z, b.take pre.length = q ++ [z] ∧ pr q = true) : LastP t pr N b (pre ++ [x]) := fun p y e => by
  obtain ⟨rfl, e2⟩ := List.append_inj' e rfl
  simp at e2
  subst e2
  exact ⟨h, h2⟩
set_option maxRecDepth 100000 in
set_option maxHeartbeats 2000000 in
theorem longest_any (Bx B n c : Nat) (A : Option Addr) (k : List Int) (t : TP) (pr : List Bool → Bool) (m : List Bool → Nat) (th : List Bool → Option Addr) (N : List Bool → Nat) (w : World) (hk : ∀ b ∈ k, IsByte b) (hn : 4 ≤ n) (hc : n ≤ c) (hb : n ≤ 1000000) (hright : bcN k ≤ 8 * (n - 4)) (hx : Bx < w.heap.size) (hB : B ≤ w.heap.size) (hkb : KeyBox Bx B n c A k w)
    (h : TreeX w t pr m th N) :
    Calls Try.prog 38 #[.pointer (some ⟨t.tb, 2, none⟩), .func (.func 58) #[] #[.pointer (some ⟨Bx, 0, none⟩)]] w fun e w' => e = .returned (.pointer (lonJ pr th (kb k) ((kb k).length + 1))) ∧ Below w.heap.size w w' := by
  refine (callsIn_wide (n := 3)).1 ?_
  refine callsIn_of_wp_marks Try.func38 rfl trivial ?_ rfl
  simp only [Try.ntmps38, List.size_toArray, List.length_cons, List.length_nil, Nat.reduceAdd, Nat.reduceSub, Array.replicate_succ, Array.replicate_zero, List.push_toArray, List.append_toArray, List.nil_append, List.cons_append]
  have hb1 := below1 w (.cells #[.pointer none] 74)
  have hx1 := World.alloc_heap_new w (.cells #[.pointer none] 74)
  gi_wp2_with fail
  refine ⟨trivial, (callsIn_wide.2 (pegs_any _ _ _ (.inr trivial))).mono ?_⟩
  rintro e w' ⟨rfl, rfl⟩
  gi_wp2_with fail
  obtain ⟨q0, q1, q2⟩ := three_boxes w (.cells #[.pointer none] 74) (.cells #[.pointer (some ⟨t.tb, 2, none⟩)] 103) (.cells #[.func (.func 58) #[] #[.pointer (some ⟨Bx, 0, none⟩)]] 79)
  have hb3 := below3 w (.cells #[.pointer none] 74) (.cells #[.pointer (some ⟨t.tb, 2, none⟩)] 103) (.cells #[.func (.func 58) #[] #[.pointer (some ⟨Bx, 0, none⟩)]] 79)
  have hs3 : (((w.alloc (.cells #[.pointer none] 74)).alloc (.cells #[.pointer (some ⟨t.tb, 2, none⟩)] 103)).alloc (.cells #[.func (.func 58) #[] #[.pointer (some ⟨Bx, 0, none⟩)]] 79)).heap.size = w.heap.size + 3 := by simp
  generalize hW0 : ((w.alloc (.cells #[.pointer none] 74)).alloc (.cells #[.pointer (some ⟨t.tb, 2, none⟩)] 103)).alloc (.cells #[.func (.func 58) #[] #[.pointer (some ⟨Bx, 0, none⟩)]] 79) = W0 at q0 q1 q2 hb3 hs3 ⊢
  clear hW0 hb1 hx1
  have hle3 : w.heap.size ≤ W0.heap.size := by omega
  have HH := hide h
  have htb := at_lt h.blk
  have HK0 := hide hkb
  clear h hkb
  refine range_w (α := Addr) (t := some 107) (F := Fence.wide) (n := 3) rfl (by omega) (gf := 70) (lb := #[.pointer (some ⟨w.heap.size + 1, 0, none⟩), .pointer (some ⟨w.heap.size + 2, 0, none⟩)]) rfl trivial (enters_of Try.func70 (by kernel_rfl) rfl)
    (pegs_iter (3 - 1) (w.heap.size + 1) (w.heap.size + 2) Bx B n c A k ⟨t.tb, 2, none⟩ W0 (by omega) hk hn hc hb hright (by omega) (by omega) (HK0.out.below hb3 hB hx) (by show t.tb < W0.heap.size; omega) q1 q2) (Below.refl _ _)
    (fun h1 h2 => h1.trans h2) (fun X l o o' _ hl h ho => KpT.put X l o o' hl h ho) (fun _ => rfl)
    (fun pre V => Below w.heap.size w V ∧ Boxed V w.heap.size 74 (.pointer (lonJ pr th (kb k) pre.length)) ∧ LastP t pr N (kb k) pre)
    (fun _ _ => False)
    ?_ (fun _ _ _ h _ => h) (fun s V hs h => ⟨fun p y e => ?_, HK0.out.rd.below (h.1.mono hB)⟩) (fun s X Y h hst => h.stays hst) ⟨hb3, q0, lastP_nil _ _ _ _⟩ ?round ?done (fun _ _ _ _ h => h.elim)
  · rintro s X Y ⟨h1, h2, h3⟩ hst
    exact ⟨hst.below hle3 (Nat.le_refl _) h1, hst.blk (by decide) h2, h3⟩
  · obtain ⟨h1, h2⟩ := h.2.2 p y e
    rw [h1, ((HH.out.below (Nat.le_refl _) h.1).peg h2).1]
    unfold ptN
    split
    · exact .inr ⟨_, rfl⟩
    · exact .inl rfl
  case round =>
    rintro lq pre x V hle hloop hws ⟨h1, h2, h3⟩ hnx
    obtain ⟨hx1, hx2, hx3⟩ := next_peg (HH.out.below (Nat.le_refl _) h1) h3 hnx
    have H1 := hide h1
    have H2 := hide h2
    have H3 := hide h3
    have HL := hide hloop
    have HX := hide hx3
    have HX1 := hide hx1
    clear h1 h2 h3 hloop hnx hx1 hx3
    simp only [encA]
    gi_wp2
    refine ⟨KeepsFrom.refl _ _, KpT.refl _ _, ⟨H1.out, H2.out, H3.out⟩, fun W2 hst => ?_⟩
    have hbl : Below w.heap.size w W2 := hst.below hle3 (Nat.le_refl _) H1.out
    have hT := HH.out.below (Nat.le_refl _) hbl
    have b2 := hst.boxed H2.out
    have c2 := b2.cell
    have f2 := b2.frozen
    have cx := (hT.peg HX.out).1
    rw [← HX1.out] at cx
    have HBL := hide hbl
    have HBX := hide b2
    have HLN : Hid (LastP t pr N (kb k) (pre ++ [x])) := hide (lastP_snoc HX1.out HX.out)
    have hlen : (pre ++ [x]).length = pre.length + 1 := by simp
    cases e : pr ((kb k).take pre.length) with
    | false =>
      have hl : lonJ pr th (kb k) (pre ++ [x]).length = lonJ pr th (kb k) pre.length := by
        rw [hlen]; show (if pr ((kb k).take pre.length) = true then _ else _) = _; rw [if_neg (by rw [e]; simp)]
      rw [show ptN pr N ((kb k).take pre.length) = none by simp [ptN, e]] at cx
      have HLO := hide hl
      clear hl hT b2 hbl hst e
      gi_wp2
      exact ⟨KeepsFrom.refl _ _, KpT.refl _ _, HBL.out, by rw [HLO.out]; exact HBX.out, HLN.out⟩
    | true =>
      rw [show ptN pr N ((kb k).take pre.length) = some ⟨N ((kb k).take pre.length), 0, none⟩ by simp [ptN, e]] at cx
      have n0 : W2.cell? ⟨N ((kb k).take pre.length), 0, none⟩ = some (.pointer (th ((kb k).take pre.length))) := by rw [blk_cell (hT.node _ e)]; rfl
      have hl : lonJ pr th (kb k) (pre ++ [x]).length = (th ((kb k).take pre.length)).or (lonJ pr th (kb k) pre.length) := by
        rw [hlen]; show (if pr ((kb k).take pre.length) = true then _ else _) = _; rw [if_pos e]
      generalize N ((kb k).take pre.length) = g at cx n0
      cases e2 : th ((kb k).take pre.length) with
      | none =>
        rw [e2] at n0 hl
        have HLO := hide hl
        clear hl hT b2 hbl hst e e2
        gi_wp2
        exact ⟨KeepsFrom.refl _ _, KpT.refl _ _, HBL.out, by rw [HLO.out]; exact HBX.out, HLN.out⟩
      | some a =>
        rw [e2] at n0 hl
        have HLO := hide hl
        clear hl hT b2 hbl hst e e2
        gi_wp2
        refine ⟨(KeepsOthers.setCell _ _ _).from _, KpT.setBox HBX.out (.inr (.inr (.inl rfl))) _, HBL.out.setCell (p := ⟨w.heap.size, 0, none⟩) (Nat.le_refl _) _, ?_, HLN.out⟩
        rw [HLO.out]
        exact HBX.out.set _
  case done =>
    rintro D xs V hD hS ⟨h1, h2, h3⟩ hdef
    have hT := HH.out.below (Nat.le_refl _) h1
    have hl : lonJ pr th (kb k) xs.length = lonJ pr th (kb k) ((kb k).length + 1) := by
      obtain ⟨p, y, rfl, hp | hp⟩ := hS
      · rw [List.length_append, hp, kb_len]; rfl
      · obtain ⟨h4, h5⟩ := h3 p y rfl
        have h6 := (hT.peg h5).1
        rw [← h4, hp] at h6
        have hpr : pr ((kb k).take p.length) = false := by
          cases e : pr ((kb k).take p.length) with
          | false => rfl
          | true => simp [ptN, e] at h6
        have hle : p.length ≤ (kb k).length ∨ (kb k).length < p.length := by omega
        have h7 : lonJ pr th (kb k) (p.length + 1) = lonJ pr th (kb k) p.length := lonJ_stop hT hpr _ (by omega)
        rw [List.length_append, List.length_singleton, h7]
        rcases hle with hle | hle
        · exact (lonJ_stop hT hpr _ (by omega)).symm
        · have h8 : pr ((kb k).take ((kb k).length + 1)) = false := by
            rw [List.take_of_length_le (by omega)] at hpr ⊢; exact hpr
          exact lonJ_stop hT h8 _ (by omega)
    rw [hl] at h2
    have c2 := h2.cell
    have HB := hide h1
    have hb2 : Below w.heap.size w (V.putObj D (.deferred none)) := h1.trans ((below_put V (.deferred none) (Nat.le_refl D)).mono (by omega))
    clear hT h3 hS h2
    gi_wp2
    refine ⟨by simp, .inl ⟨_, _, rfl, run_takeDeferred hdef, ?_⟩⟩
    exact ⟨_, results_tmp rfl _ _ _, rfl, hb2⟩
end Go.Proofs.Ythefgfcjjbjjkaa
