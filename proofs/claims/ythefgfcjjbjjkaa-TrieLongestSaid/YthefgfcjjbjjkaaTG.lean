/-
  A thing is put where bits lead to.
-/
import Derived.Test.YthefgfcjjbjjkaaTF
namespace Go.Proofs.Ythefgfcjjbjjkaa
open Go.RowKit
set_option linter.unusedVariables false
set_option linter.unusedSimpArgs false
attribute [local go_sem] Oper.semAt_some

/-- q is one of the first j beginnings of b. -/
def inB (b : List Bool) (j : Nat) (q : List Bool) : Bool := q.isPrefixOf b && decide (q.length < j)
theorem inB_iff {b : List Bool} {j : Nat} {q : List Bool} : inB b j q = true ↔ q <+: b ∧ q.length < j := by simp [inB, List.isPrefixOf_iff_prefix]
theorem inB_succ {b : List Bool} {j : Nat} (hj : j ≤ b.length) (q : List Bool) : inB b (j + 1) q = (inB b j q || q == b.take j) := by
  rw [Bool.eq_iff_iff, Bool.or_eq_true, inB_iff, inB_iff, beq_iff_eq]
  constructor
  · rintro ⟨h1, h2⟩
    by_cases h3 : q.length < j
    · exact .inl ⟨h1, h3⟩
    · obtain rfl : j = q.length := by omega
      exact .inr (List.prefix_iff_eq_take.1 h1)
  · rintro (⟨h1, h2⟩ | rfl)
    · exact ⟨h1, by omega⟩
    · exact ⟨List.take_prefix _ _, by simp; omega⟩
theorem inB_not {b : List Bool} {j : Nat} (hj : j ≤ b.length) : inB b j (b.take j) = false := by
  cases e : inB b j (b.take j) with
  | false => rfl
  | true => have := (inB_iff.1 e).2; simp at this; omega
theorem inB_all (b : List Bool) (q : List Bool) : inB b (b.length + 1) q = q.isPrefixOf b := by
  rw [Bool.eq_iff_iff, inB_iff, List.isPrefixOf_iff_prefix]
  exact ⟨fun h => h.1, fun h => ⟨h, by have := h.length_le; omega⟩⟩
def prJ (pr : List Bool → Bool) (b : List Bool) (j : Nat) (q : List Bool) : Bool := pr q || inB b j q
def cnJ (pr : List Bool → Bool) (c : List Bool → Nat) (b : List Bool) (j : Nat) (q : List Bool) : Nat := (if pr q = true then c q else 0) + (if inB b j q = true then 1 else 0)
def thJ (pr : List Bool → Bool) (th : List Bool → Option Addr) (q : List Bool) : Option Addr := if pr q = true then th q else none
theorem Kept.stayN {t : Option TypeId} {B : Nat} {F : Nat → Prop} {w X Y : World} (h : Kept F w X) (hs : StayN t B X Y) (hB : w.heap.size ≤ B) : Kept F w Y :=
  ⟨hs.os.trans h.os, hs.tape.trans h.tape, hs.output.trans h.output, Nat.le_trans h.size hs.size, fun k hk hF => by
    have h1 := h.block k hk hF
    rw [Array.getElem?_eq_getElem hk] at h1
    exact (hs.same _ _ h1 (.inl (Nat.lt_of_lt_of_le hk hB))).trans (Array.getElem?_eq_getElem hk).symm⟩
theorem KpT.alloc (B : Nat) (X : World) (o : Obj) : KpT B X (X.alloc o) := ⟨by simp, fun k u hk _ _ => (Below.heap_alloc X o k (at_lt hk)).trans hk⟩
section
variable {W : World} {t : TP} {pr : List Bool → Bool} {c : List Bool → Nat} {th : List Bool → Option Addr} {N : List Bool → Nat}
theorem TreeX.kpeg (h : TreeX W t pr c th N) {p : List Bool} (hp : p = [] ∨ ∃ q x, p = q ++ [x] ∧ pr q = true) (B : Nat) (u : Value) : KpT B W (W.setCell (pegA t N p) u) := by
  rcases hp with rfl | ⟨q, x, rfl, hq⟩
  · rw [pegA_nil]; exact KpT.setBox h.blk (.inr (.inl rfl)) u
  · rw [pegA_snoc]; exact KpT.setBox (h.node q hq) (.inr (.inr (.inr rfl))) u
theorem TreeX.knode (h : TreeX W t pr c th N) {p : List Bool} (hp : pr p = true) (B i : Nat) (u : Value) : KpT B W (W.setCell ⟨N p, i, none⟩ u) := KpT.setBox (h.node p hp) (.inr (.inr (.inr rfl))) u
/-- The blocks of a tree. -/
def OfX (t : TP) (pr : List Bool → Bool) (N : List Bool → Nat) (g : Nat) : Prop := g = t.tb ∨ ∃ p, pr p = true ∧ g = N p
theorem pegA_block {p : List Bool} (hp : p = [] ∨ ∃ q x, p = q ++ [x] ∧ pr q = true) : OfX t pr N (pegA t N p).block := by
  rcases hp with rfl | ⟨q, x, rfl, hq⟩
  · exact .inl rfl
  · rw [pegA_snoc]; exact .inr ⟨q, hq, rfl⟩
end
/-- What a thing's way through the tree has made of it behind j steps. -/
structure PutJ (w : World) (t : TP) (pr : List Bool → Bool) (c : List Bool → Nat) (th : List Bool → Option Addr) (N : List Bool → Nat) (b : List Bool) (pre : List Addr) (V : World) : Prop where
  kept : Kept (fun g => ¬ OfX t pr N g) w V
  tree : ∃ N', TreeX V t (prJ pr b pre.length) (cnJ pr c b pre.length) (thJ pr th) N' ∧ (∀ q, pr q = true → N' q = N q) ∧ (∀ q, prJ pr b pre.length q = true → pr q = false → w.heap.size ≤ N' q) ∧ LastP t (prJ pr b pre.length) N' b pre ∧
    ∃ la, Boxed V w.heap.size 53 (.pointer la) ∧ ∀ p y, pre = p ++ [y] → la = some ⟨N' (b.take p.length), 0, none⟩
theorem PutJ.stayN {m : Nat} {w X Y : World} {t : TP} {pr : List Bool → Bool} {c : List Bool → Nat} {th : List Bool → Option Addr} {N : List Bool → Nat} {b : List Bool} {pre : List Addr} (h : PutJ w t pr c th N b pre X) (hs : StayN (some 107) m X Y) (hm : w.heap.size ≤ m) : PutJ w t pr c th N b pre Y := by
  obtain ⟨h1, N', h2, h3, h4, h5, la, h6, h7⟩ := h
  exact ⟨h1.stayN hs hm, N', h2.stayN hs, h3, h4, h5, la, hs.blk (by decide) h6, h7⟩
set_option maxRecDepth 100000 in
set_option maxHeartbeats 2000000 in
theorem put_any (Bx B n c : Nat) (A : Option Addr) (k : List Int) (t : TP) (pr : List Bool → Bool) (m : List Bool → Nat) (th : List Bool → Option Addr) (N : List Bool → Nat) (a : Option Addr) (w : World) (hk : ∀ b ∈ k, IsByte b) (hn : 4 ≤ n) (hc : n ≤ c) (hb : n ≤ 1000000) (hright : bcN k ≤ 8 * (n - 4)) (hx : Bx < w.heap.size) (hB : B ≤ w.heap.size) (hkb : KeyBox Bx B n c A k w)
    (h : TreeX w t pr m th N) (hm : ∀ q, m q ≤ 1000000) (hA : ∀ ad, A = some ad → ¬ OfX t pr N ad.block) (hBx : ¬ OfX t pr N Bx) :
    Calls Try.prog 68 #[.pointer (some ⟨t.tb, 2, none⟩), .func (.func 58) #[] #[.pointer (some ⟨Bx, 0, none⟩)], .pointer a] w fun e w' => e = .returned (.tuple #[]) ∧ Kept (fun g => ¬ OfX t pr N g) w w' ∧
      ∃ N', TreeX w' t (fun q => pr q || q.isPrefixOf (kb k)) (fun q => (if pr q = true then m q else 0) + (if q.isPrefixOf (kb k) = true then 1 else 0)) (fun q => if q = kb k then a else if pr q = true then th q else none) N' ∧ (∀ q, pr q = true → N' q = N q) ∧ (∀ q, q.isPrefixOf (kb k) = true → pr q = false → w.heap.size ≤ N' q) := by
  refine (callsIn_wide (n := 3)).1 ?_
  refine callsIn_of_wp_marks Try.func68 rfl trivial ?_ rfl
  simp only [Try.ntmps68, List.size_toArray, List.length_cons, List.length_nil, Nat.reduceAdd, Nat.reduceSub, Array.replicate_succ, Array.replicate_zero, List.push_toArray, List.append_toArray, List.nil_append, List.cons_append]
  gi_wp2_with fail
  refine ⟨trivial, (callsIn_wide.2 (pegs_any _ _ _ (.inr trivial))).mono ?_⟩
  rintro e w' ⟨rfl, rfl⟩
  gi_wp2_with fail
  obtain ⟨q0, q1, q2⟩ := three_boxes w (.cells #[.pointer none] 53) (.cells #[.pointer (some ⟨t.tb, 2, none⟩)] 103) (.cells #[.func (.func 58) #[] #[.pointer (some ⟨Bx, 0, none⟩)]] 79)
  have hb3 := below3 w (.cells #[.pointer none] 53) (.cells #[.pointer (some ⟨t.tb, 2, none⟩)] 103) (.cells #[.func (.func 58) #[] #[.pointer (some ⟨Bx, 0, none⟩)]] 79)
  have hs3 : (((w.alloc (.cells #[.pointer none] 53)).alloc (.cells #[.pointer (some ⟨t.tb, 2, none⟩)] 103)).alloc (.cells #[.func (.func 58) #[] #[.pointer (some ⟨Bx, 0, none⟩)]] 79)).heap.size = w.heap.size + 3 := by simp
  generalize hW0 : ((w.alloc (.cells #[.pointer none] 53)).alloc (.cells #[.pointer (some ⟨t.tb, 2, none⟩)] 103)).alloc (.cells #[.func (.func 58) #[] #[.pointer (some ⟨Bx, 0, none⟩)]] 79) = W0 at q0 q1 q2 hb3 hs3 ⊢
  clear hW0
  have hle3 : w.heap.size ≤ W0.heap.size := by omega
  have HT0 := hide (h.below (Nat.le_refl _) hb3)
  have HH := hide h
  have htb := at_lt h.blk
  have HK0 := hide hkb
  have HA := hide hA
  have HM := hide hm
  have hj0 : PutJ w t pr m th N (kb k) [] W0 := ⟨Kept.of_below hb3, N, HT0.out.congr (fun p => by simp [prJ, inB]) (fun p e => by simp [cnJ, thJ, e, inB]), fun _ _ => rfl, fun q h1 h2 => by simp [prJ, inB, h2] at h1, lastP_nil _ _ _ _, none, q0, fun p y e => by simp at e⟩
  have HN : Hid (∀ q, pr q = true → N q < w.heap.size) := hide (fun q hq => at_lt (h.node q hq))
  have HKR : Hid (∀ V, Kept (fun g => ¬ OfX t pr N g) w V → Rd V B 1 A n (u8s k)) := hide (fun V hV => ⟨HK0.out.rd.1, fun h0 => by
    obtain ⟨ad, e, hbl, hcl⟩ := HK0.out.rd.2 h0
    refine ⟨ad, e, hbl, fun j u hu => (World.cell?_of_block ?_).trans (hcl j u hu)⟩
    rw [block_add]
    exact hV.block _ (Nat.lt_of_lt_of_le hbl hB) (HA.out ad e)⟩)
  clear h hkb hA hm
  refine range_w (α := Addr) (t := some 107) (F := Fence.wide) (n := 3) rfl (by omega) (gf := 70) (lb := #[.pointer (some ⟨w.heap.size + 1, 0, none⟩), .pointer (some ⟨w.heap.size + 2, 0, none⟩)]) rfl trivial (enters_of Try.func70 (by kernel_rfl) rfl)
    (pegs_iter (3 - 1) (w.heap.size + 1) (w.heap.size + 2) Bx B n c A k ⟨t.tb, 2, none⟩ W0 (by omega) hk hn hc hb hright (by omega) (by omega) (HK0.out.below hb3 hB hx) (by show t.tb < W0.heap.size; omega) q1 q2) (Below.refl _ _)
    (fun h1 h2 => h1.trans h2) (fun X l o o' _ hl h ho => KpT.put X l o o' hl h ho) (fun _ => rfl)
    (fun pre V => PutJ w t pr m th N (kb k) pre V)
    (fun _ _ => False)
    (fun s X Y h hst => h.stayN hst hle3) (fun _ _ _ h _ => h) (fun s V hs h => ⟨fun p y e => ?_, HKR.out V h.kept⟩) (fun s X Y h hst => h.stays hst) hj0 ?round ?done (fun _ _ _ _ h => h.elim)
  · obtain ⟨N', h2, h3, h4, h5, la, h6, h7⟩ := h.tree
    obtain ⟨h8, h9⟩ := h5 p y e
    rw [h8, (h2.peg h9).1]
    unfold ptN
    split
    · exact .inr ⟨_, rfl⟩
    · exact .inl rfl
  case round =>
    rintro lq pre x V hle hloop hws hj hnx
    obtain ⟨hkp, N', h2, h3, h4, h5, la, h6, h7⟩ := hj
    obtain ⟨hx1, hx2, hx3⟩ := next_peg h2 h5 hnx
    have HJ : Hid (PutJ w t pr m th N (kb k) pre V) := hide ⟨hkp, N', h2, h3, h4, h5, la, h6, h7⟩
    have H2 := hide h2
    have H3 := hide h3
    have H4 := hide h4
    have H6 := hide h6
    have HKP := hide hkp
    have HX3 := hide hx3
    have HX1 := hide hx1
    clear h2 h3 h4 h5 h6 h7 hkp hloop hnx hx3 hx1
    simp only [encA]
    gi_wp2
    refine ⟨KeepsFrom.refl _ _, KpT.refl _ _, HJ.out, fun W2 hst => ?_⟩
    have hT := H2.out.stayN (m := W0.heap.size) hst.toN
    have b6 := hst.boxed H6.out
    have f6 := b6.frozen
    have c6 := b6.cell
    obtain ⟨cx, fx⟩ := hT.peg HX3.out
    rw [← HX1.out] at cx fx
    have HT := hide hT
    have HB6 := hide b6
    have HWS : Hid (w.heap.size ≤ W2.heap.size) := hide (Nat.le_of_lt (at_lt b6))
    have hprj : prJ pr (kb k) pre.length ((kb k).take pre.length) = pr ((kb k).take pre.length) := by simp [prJ, inB_not hx2]
    cases e : pr ((kb k).take pre.length) with
    | false =>
      rw [show ptN (prJ pr (kb k) pre.length) N' ((kb k).take pre.length) = none by simp [ptN, hprj, e]] at cx
      have hx4 : x.block < W2.heap.size := World.block_lt_of_cell? W2 x cx
      have hbl := below1 W2 (.cells #[.pointer none, .int .i64 0, .pointer none, .pointer none] 110)
      have hg := World.alloc_heap_new W2 (.cells #[.pointer none, .int .i64 0, .pointer none, .pointer none] 110)
      have hT1 := hT.below (Nat.le_refl _) hbl
      have hT2 := hT1.hang HX3.out (by rw [hprj]; exact e) hg (fun q hq e2 => by have := at_lt (hT.node q hq); omega)
      rw [← HX1.out] at hT2
      have cx1 : (W2.alloc (.cells #[.pointer none, .int .i64 0, .pointer none, .pointer none] 110)).cell? x = some (.pointer none) := (hbl.cell hx4).trans cx
      have fx1 : (W2.alloc (.cells #[.pointer none, .int .i64 0, .pointer none, .pointer none] 110)).frozen? x = false := (hbl.frozen hx4).trans fx
      have b61 : Boxed (W2.alloc (.cells #[.pointer none, .int .i64 0, .pointer none, .pointer none] 110)) w.heap.size 53 (.pointer la) := b6.alloc _
      have hpin : (fun q => prJ pr (kb k) pre.length q || q == (kb k).take pre.length) ((kb k).take pre.length) = true := by simp
      have hxp := (hT2.peg (p := (kb k).take pre.length) (HX3.out.imp id (fun ⟨q, z, h1, h2⟩ => ⟨q, z, h1, by simp [h2]⟩))).1
      have hxa : pegA t (fun q => if q = (kb k).take pre.length then W2.heap.size else N' q) ((kb k).take pre.length) = x := by
        rw [HX1.out]
        rcases HX3.out with h1 | ⟨q, z, h1, h2⟩
        · rw [h1]; rfl
        · rw [h1, pegA_snoc, pegA_snoc, if_neg (fun e2 => by have := congrArg List.length e2; simp at this)]
      rw [hxa] at hxp
      have hne2 : x.block ≠ w.heap.size := fun e2 => by
        obtain ⟨cs, T, hcs, hTT⟩ : ∃ cs T, W2.heap[x.block]? = some (.cells cs T (0, 0)) ∧ (T = 60 ∨ T = 110) := by
          rw [HX1.out]
          rcases HX3.out with h1 | ⟨q, z, h1, h2⟩
          · rw [h1, pegA_nil]; exact ⟨_, _, hT.blk, .inl rfl⟩
          · rw [h1, pegA_snoc]; exact ⟨_, _, hT.node q h2, .inr rfl⟩
        have h9 : W2.heap[w.heap.size]? = _ := b6
        rw [e2, h9] at hcs
        injection hcs with hcs
        injection hcs with _ hcs _
        rcases hTT with h1 | h1 <;> rw [h1] at hcs <;> cases hcs
      have b62 : Boxed ((W2.alloc (.cells #[.pointer none, .int .i64 0, .pointer none, .pointer none] 110)).setCell x (.pointer (some ⟨W2.heap.size, 0, none⟩))) w.heap.size 53 (.pointer la) := (Below.heap_setCell _ x _ _ (fun e2 => hne2 e2.symm)).trans b61
      have c62 := b62.cell
      have f62 := b62.frozen
      have hT3 := hT2.setBox (i := 0) (u := .pointer (some ⟨W2.heap.size, 0, none⟩)) (show _ = some _ from b62) ⟨by decide, by decide⟩
      have n3 := hT3.node _ hpin
      simp only [if_true] at n3
      have c3 := blk_cell n3 1
      have f3 := Joins.unfrozen_of_block n3 1
      have b63 := b62.set (.pointer (some ⟨W2.heap.size, 0, none⟩))
      have c63 := b63.cell
      have c30 : _ = some (Value.int .i64 0) := c3
      have hT4 := hT3.many hpin 1
      simp only [if_true] at hT4
      have HT4 := hide hT4
      have hxp2 : ((W2.alloc (.cells #[.pointer none, .int .i64 0, .pointer none, .pointer none] 110)).setCell x (.pointer (some ⟨W2.heap.size, 0, none⟩))).cell? x = some (.pointer (some ⟨W2.heap.size, 0, none⟩)) := by rw [hxp]; simp [ptN]
      have HB63 := hide (((b63.kept (grown_set _ W2.heap.size 1 (.int .i64 1))) (fun e2 => by injection e2 with e2; have := at_lt b6; omega)))
      have HKPT : Hid (∀ B2, KpT B2 W2 (((((W2.alloc (.cells #[.pointer none, .int .i64 0, .pointer none, .pointer none] 110)).setCell x (.pointer (some ⟨W2.heap.size, 0, none⟩))).setCell ⟨w.heap.size, 0, none⟩ (.pointer (some ⟨W2.heap.size, 0, none⟩))).setCell ⟨W2.heap.size, 1, none⟩ (.int .i64 1)))) := hide (fun B2 => by
        have k1 : KpT B2 W2 (W2.alloc (.cells #[.pointer none, .int .i64 0, .pointer none, .pointer none] 110)) := KpT.alloc _ _ _
        have k2 := hT1.kpeg HX3.out B2 (.pointer (some ⟨W2.heap.size, 0, none⟩))
        rw [← HX1.out] at k2
        have k3 := hT3.knode hpin B2 1 (.int .i64 1)
        simp only [if_true] at k3
        exact ((k1.trans k2).trans (KpT.setBox (show _ = some _ from b62) (.inl rfl) _)).trans k3)
      have HKEP : Hid (Kept (fun g => ¬ OfX t pr N g) w (((((W2.alloc (.cells #[.pointer none, .int .i64 0, .pointer none, .pointer none] 110)).setCell x (.pointer (some ⟨W2.heap.size, 0, none⟩))).setCell ⟨w.heap.size, 0, none⟩ (.pointer (some ⟨W2.heap.size, 0, none⟩))).setCell ⟨W2.heap.size, 1, none⟩ (.int .i64 1)))) := hide (by
        refine (((((HKP.out.stayN (t := none) hst.toN hle3).later hbl).setCell (p := x) (fun h1 h2 => h2 ?_) _).setCell (p := ⟨w.heap.size, 0, none⟩) (fun h1 => absurd h1 (Nat.lt_irrefl _)) _).setCell (p := ⟨W2.heap.size, 1, none⟩) (fun h1 => absurd h1 (by have := at_lt b6; show ¬ W2.heap.size < w.heap.size; omega)) _)
        rw [HX1.out] at h1 ⊢
        rcases HX3.out with h3 | ⟨q, z, h3, h4⟩
        · rw [h3]; exact .inl rfl
        · rw [h3, pegA_snoc] at h1 ⊢
          cases e5 : pr q with
          | true => exact .inr ⟨q, e5, H3.out q e5⟩
          | false => exact absurd h1 (Nat.not_lt.2 (H4.out q h4 e5)))
      have HXA := hide hxa
      clear hT hst b6 hbl hg hT1 hT2 hT3 hT4 b61 b62 b63 c3 n3 hxp hxa
      gi_wp2
      have hlen : (pre ++ [x]).length = pre.length + 1 := by simp
      refine ⟨(HKPT.out _).from (Nat.le_refl _), HKPT.out _, HKEP.out, (fun q => if q = (kb k).take pre.length then W2.heap.size else N' q), ?_, fun q hq => ?_, fun q hq hq2 => ?_, ?_, _, HB63.out, fun p y e2 => ?_⟩
      · rw [hlen]
        refine HT4.out.congr (fun q => ?_) (fun q hq => ?_)
        · simp only [prJ, inB_succ hx2, Bool.or_assoc]
        · by_cases e3 : q = (kb k).take pre.length
          · subst e3
            simp [cnJ, thJ, e, inB_succ hx2]
          · simp [cnJ, thJ, inB_succ hx2, e3]
      · by_cases e3 : q = (kb k).take pre.length
        · subst e3; rw [e] at hq; cases hq
        · simp only [if_neg e3]; exact H3.out q hq
      · rw [hlen] at hq
        by_cases e3 : q = (kb k).take pre.length
        · simp only [if_pos e3]; exact HWS.out
        · simp only [if_neg e3]
          refine H4.out q ?_ hq2
          simpa [prJ, inB_succ hx2, e3] using hq
      · rw [hlen]
        exact lastP_snoc HXA.out.symm (HX3.out.imp id (fun ⟨q, z, h1, h2⟩ => ⟨q, z, h1, by simp [prJ, inB_succ hx2] at h2 ⊢; rcases h2 with h2 | h2 <;> simp [h2]⟩))
      · obtain ⟨rfl, _⟩ := List.append_inj' e2 rfl
        simp
    | true =>
      have hin : prJ pr (kb k) pre.length ((kb k).take pre.length) = true := by rw [hprj]; exact e
      rw [show ptN (prJ pr (kb k) pre.length) N' ((kb k).take pre.length) = some ⟨N' ((kb k).take pre.length), 0, none⟩ by simp [ptN, hin]] at cx
      have hT3 := hT.setBox (i := 0) (u := .pointer (some ⟨N' ((kb k).take pre.length), 0, none⟩)) (show _ = some _ from b6) ⟨by decide, by decide⟩
      have n3 := hT3.node _ hin
      have c3 : _ = some (Value.int .i64 (cnJ pr m (kb k) pre.length ((kb k).take pre.length))) := blk_cell n3 1
      have f3 := Joins.unfrozen_of_block n3 1
      have b63 := b6.set (.pointer (some ⟨N' ((kb k).take pre.length), 0, none⟩))
      have c63 := b63.cell
      have hT4 := hT3.many hin (cnJ pr m (kb k) pre.length ((kb k).take pre.length) + 1)
      have hml : cnJ pr m (kb k) pre.length ((kb k).take pre.length) ≤ 1000001 := by
        unfold cnJ
        have := HM.out ((kb k).take pre.length)
        split <;> split <;> omega
      have hne : N' ((kb k).take pre.length) ≠ w.heap.size := fun e2 => by
        have h8 := hT.node _ hin
        have h9 : W2.heap[w.heap.size]? = _ := b6
        rw [e2, h9] at h8
        injection h8 with h8
        injection h8 with _ h8 _
        cases h8
      have HB63 := hide (((b63.kept (grown_set _ (N' ((kb k).take pre.length)) 1 (.int .i64 (cnJ pr m (kb k) pre.length ((kb k).take pre.length) + 1 : Nat)))) (fun e2 => by injection e2 with e2; exact hne e2.symm)))
      have HKPT : Hid (∀ B2, KpT B2 W2 ((W2.setCell ⟨w.heap.size, 0, none⟩ (.pointer (some ⟨N' ((kb k).take pre.length), 0, none⟩))).setCell ⟨N' ((kb k).take pre.length), 1, none⟩ (.int .i64 (cnJ pr m (kb k) pre.length ((kb k).take pre.length) + 1 : Nat)))) := hide (fun B2 =>
        (KpT.setBox (show _ = some _ from b6) (.inl rfl) _).trans (hT3.knode hin B2 1 _))
      have HKEP : Hid (Kept (fun g => ¬ OfX t pr N g) w ((W2.setCell ⟨w.heap.size, 0, none⟩ (.pointer (some ⟨N' ((kb k).take pre.length), 0, none⟩))).setCell ⟨N' ((kb k).take pre.length), 1, none⟩ (.int .i64 (cnJ pr m (kb k) pre.length ((kb k).take pre.length) + 1 : Nat)))) := hide (
        ((HKP.out.stayN (t := none) hst.toN hle3).setCell (p := ⟨w.heap.size, 0, none⟩) (fun h1 => absurd h1 (Nat.lt_irrefl _)) _).setCell (p := ⟨N' ((kb k).take pre.length), 1, none⟩) (fun h1 h2 => h2 (.inr ⟨_, e, H3.out _ e⟩)) _)
      have HT4 := hide hT4
      generalize hgn : N' ((kb k).take pre.length) = g at *
      generalize hmn : cnJ pr m (kb k) pre.length ((kb k).take pre.length) = mm at *
      have HGN := hide hgn
      have HMN := hide hmn
      clear hT hst b6 hT3 hT4 b63 n3 hgn hmn hin hne
      gi_wp2
      have hlen : (pre ++ [x]).length = pre.length + 1 := by simp
      have hin : prJ pr (kb k) pre.length ((kb k).take pre.length) = true := by rw [hprj]; exact e
      have hpq : ∀ q, prJ pr (kb k) (pre.length + 1) q = prJ pr (kb k) pre.length q := fun q => by
        simp only [prJ, inB_succ hx2]
        by_cases e3 : q = (kb k).take pre.length
        · subst e3; simp [e]
        · have e4 : (q == (kb k).take pre.length) = false := by
            rw [Bool.eq_false_iff]; intro e5; exact e3 (by simpa using e5)
          rw [e4, Bool.or_false]
      refine ⟨(HKPT.out _).from (Nat.le_refl _), HKPT.out _, HKEP.out, N', ?_, H3.out, fun q hq hq2 => ?_, ?_, _, HB63.out, fun p y e2 => ?_⟩
      · rw [hlen]
        refine HT4.out.congr (fun q => hpq q) (fun q hq => ?_)
        by_cases e3 : q = (kb k).take pre.length
        · subst e3
          refine ⟨?_, rfl, rfl⟩
          rw [if_pos rfl, ← HMN.out]
          simp [cnJ, e, inB_succ hx2, inB_not hx2]
        · rw [if_neg e3]
          refine ⟨?_, rfl, rfl⟩
          simp [cnJ, inB_succ hx2, e3]
      · rw [hlen, hpq] at hq
        exact H4.out q hq hq2
      · rw [hlen]
        exact lastP_snoc HX1.out (HX3.out.imp id (fun ⟨q, z, h1, h2⟩ => ⟨q, z, h1, by rw [hpq]; exact h2⟩))
      · obtain ⟨rfl, _⟩ := List.append_inj' e2 rfl
        rw [HGN.out]
  case done =>
    rintro D xs V hD hS hj hdef
    obtain ⟨hkp, N', h2, h3, h4, h5, la, h6, h7⟩ := hj
    obtain ⟨p, y, rfl, hp⟩ := hS
    obtain ⟨h8, h9⟩ := h5 p y rfl
    have hlen : (p ++ [y]).length = p.length + 1 := by simp
    rw [hlen] at h2 h4 h5 h9
    have hpl : p.length = bcN k := by
      rcases hp with hp | hp
      · exact hp
      · have h10 := (h2.peg h9).1
        rw [← h8, hp] at h10
        by_cases hle : p.length ≤ (kb k).length
        · have : prJ pr (kb k) (p.length + 1) ((kb k).take p.length) = true := by simp [prJ, inB_succ hle]
          simp [ptN, this] at h10
        · have : prJ pr (kb k) (p.length + 1) ((kb k).take p.length) = true := by
            simp only [prJ, Bool.or_eq_true, inB_iff]
            exact .inr ⟨List.take_prefix _ _, by simp; omega⟩
          simp [ptN, this] at h10
    have hla := h7 p y rfl
    have hbl : (kb k).take p.length = kb k := List.take_of_length_le (by rw [kb_len]; omega)
    rw [hbl] at hla
    rw [hpl] at h2 h4
    rw [hla] at h6
    have hin : prJ pr (kb k) (bcN k + 1) (kb k) = true := by
      simp only [prJ, Bool.or_eq_true, inB_iff]
      exact .inr ⟨List.prefix_refl _, by rw [kb_len]; omega⟩
    have c6 := h6.cell
    have n3 := h2.node _ hin
    have c3 : _ = some (Value.pointer (thJ pr th (kb k))) := blk_cell n3 0
    have f3 := Joins.unfrozen_of_block n3 0
    have hT4 := h2.thing hin a
    have HT4 := hide hT4
    have HKEP : Hid (Kept (fun g => ¬ OfX t pr N g) w (V.setCell ⟨N' (kb k), 0, none⟩ (.pointer a))) := hide (hkp.setCell (p := ⟨N' (kb k), 0, none⟩) (fun h1 h2 => by
      cases e5 : pr (kb k) with
      | true => exact h2 (.inr ⟨_, e5, h3 _ e5⟩)
      | false => exact absurd h1 (Nat.not_lt.2 (h4 _ hin e5))) _)
    have hkd := (KeepsOthers.setCell V ⟨N' (kb k), 0, none⟩ (.pointer a)).same _ _ hdef rfl
    have H3 := hide h3
    have H4 := hide h4
    clear h2 h4 h5 h6 h7 h8 h9 hp hpl hla hbl n3 hT4 hkp hdef h3
    gi_wp2
    have hst := Stays.putObj (B := W0.heap.size) (.deferred none) hD hkd rfl
    refine ⟨by simp, .inl ⟨_, _, rfl, run_takeDeferred hkd, ?_⟩⟩
    refine ⟨_, results_none rfl _ _ _, rfl, HKEP.out.stayN (t := none) hst.toN hle3, N', (HT4.out.stayN hst.toN).congr (fun q => ?_) (fun q hq => ?_), H3.out, fun q hq hq2 => H4.out q ?_ hq2⟩
    · simp [prJ, ← kb_len, inB_all]
    · refine ⟨by simp [cnJ, ← kb_len, inB_all], ?_, rfl⟩
      simp only [thJ]
    · simp only [prJ, ← kb_len, inB_all, hq, Bool.or_true]
end Go.Proofs.Ythefgfcjjbjjkaa
