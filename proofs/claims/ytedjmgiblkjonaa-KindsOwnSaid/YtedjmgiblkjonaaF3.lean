/-
  Kinds, arguments, helpers that are copied.
-/
import Derived.Test.YtedjmgiblkjonaaF1
namespace Go.Proofs.Ytedjmgiblkjonaa
open Go.RowKit Go.Maps
set_option linter.unusedVariables false

theorem mkInfo : (Try.prog.info? 22).map (fun i => (i.zero, i.size, i.bytes)) = some (some (.int .u8 0), 1, 1) := by kernel_rfl
theorem argInfo : (Try.prog.info? 46).map (fun i => (i.zero, i.size, i.bytes)) = some (some (.agg #[.int .u8 0, .int .i64 0, .int .i64 0, .slice none 0 0]), 4, 48) := by kernel_rfl
theorem infoParts {t : TypeId} {z : Value} {s b : Nat} (h : (Try.prog.info? t).map (fun i => (i.zero, i.size, i.bytes)) = some (some z, s, b)) : ∃ i, Try.prog.info? t = some i ∧ i.zero = some z ∧ i.size = s ∧ i.bytes = b := by
  cases hi : Try.prog.info? t with
  | none => rw [hi] at h; cases h
  | some i =>
    rw [hi] at h
    simp only [Option.map_some, Option.some.injEq, Prod.mk.injEq] at h
    exact ⟨i, rfl, h.1, h.2.1, h.2.2⟩
theorem owns_room {w : World} {e : TypeId} {sz n c : Nat} {A : Option Addr} {xs : List Value} (h : w.ownsRow 0 e sz (.slice A n c) n xs) : n ≤ c ∧ c ≤ maxLen ∧ Rd w w.heap.size sz A n xs := by
  obtain ⟨A', c', e', hr⟩ := owns_slice h
  injection e' with e1 e2 e3
  subst e1 e3
  refine ⟨?_, ?_, hr⟩
  · rcases h.2 with ⟨e1, e2⟩ | ⟨g, cap, cur, e1, _, _, h1, h2, _⟩
    · omega
    · injection e1 with _ _ e3; omega
  · rcases h.2 with ⟨e1, e2⟩ | ⟨g, cap, cur, e1, _, _, h1, h2, _⟩
    · injection e1 with _ _ e3; unfold maxLen; omega
    · injection e1 with _ _ e3; omega
theorem Rd.none_zero {w : World} {B sz n : Nat} {A : Option Addr} {xs : List Value} (h : Rd w B sz A n xs) : A = none → n = 0 := by
  intro e
  rcases Nat.eq_zero_or_pos n with h0 | h0
  · exact h0
  · obtain ⟨ad, e', _⟩ := h.2 h0
    rw [e] at e'; cases e'
theorem mks_one (l : List Int) : ∀ u ∈ mks l, u.oneCell' = true := by
  intro u hu
  obtain ⟨x, _, rfl⟩ := List.mem_map.1 hu
  rfl
theorem xcells_one (l : List ArgX) : ∀ u ∈ xcells l, u.oneCell' = true := by
  intro u hu
  obtain ⟨x, _, hx⟩ := List.mem_flatMap.1 hu
  simp only [ArgX.cells, List.mem_cons, List.not_mem_nil, or_false] at hx
  rcases hx with rfl | rfl | rfl | rfl <;> rfl
theorem own_keep {w w' : World} {e : TypeId} {sz n b : Nat} {v : Value} {xs : List Value} (h : w.ownsRow 0 e sz v n xs) (hg : w.grownBy w' (some b)) (hne : ∀ g, v.ownBlock = some g → g ≠ b) : w'.ownsRow 0 e sz v n xs := by
  refine h.kept hg ?_
  cases hq : v.ownBlock with
  | none => exact .inl rfl
  | some g => exact .inr (by intro e; injection e with e; exact hne g hq e)
/-- Maps that were copied: a row of the call's own. -/
def OwnMks (w w' : World) (l : List Int) (A : Option Addr) (c : Nat) : Prop := w'.ownsRow 0 22 1 (.slice A l.length c) l.length (mks l) ∧ (∀ g, (Value.slice A l.length c).ownBlock = some g → w.heap.size ≤ g) ∧ Below w.heap.size w w'
def CopiedMks (w : World) (l : List Int) (e : Ending) (w' : World) : Prop := ∃ A c, e = .returned (.slice A l.length c) ∧ OwnMks w w' l A c
set_option maxRecDepth 100000 in
set_option maxHeartbeats 1000000 in
theorem copyMks_any (A : Option Addr) (c B : Nat) (l : List Int) (w : World) (h : Rd w B 1 A l.length (mks l)) (hB : B ≤ w.heap.size) (hn : l.length ≤ 1000000) :
    Calls Try.prog 100 #[.slice A l.length c] w (CopiedMks w l) := by
  obtain ⟨i0, hi, hz0, hz1, hz2⟩ := infoParts mkInfo
  have HH := hide h
  generalize hln : l.length = n at *
  have HLN := hide hln
  clear h hln
  go_enter Try.func100, Try.ntmps100
  go_wp2_with (at_builtin; refine stop_here ?_)
  show Hid _
  refine start_here ?_
  refine wpList_append_rd _ ?cg (.tmp 4) (.tmp 5) _ ?c0 22 i0 _ 1 1 Try.underlying41 hi hz0 hz1 hz2 rfl (by decide) (.slice none 0 0) 0 [] rfl (World.ownsRow_nil w 0 22 1) B A n c (mks l) rfl HH.out HH.out.none_zero (mks_one l) (by unfold maxLen; omega) (by omega) ?_
  case cg => rfl
  case c0 => rfl
  intro v' w' hl
  have hb := longer_below (B := w.heap.size) (Below.refl _ _) (Nat.le_refl _) (fun g e => by cases e) hl
  have hf := longer_from (B := w.heap.size) hl (Nat.le_refl _) (fun g e => by cases e)
  obtain ⟨hown, _, _⟩ := hl
  rw [Nat.zero_add, List.nil_append] at hown
  obtain ⟨A', c', rfl, _⟩ := owns_slice hown
  have HR := hide (show OwnMks w w' l A' c' from ⟨by rw [HLN.out]; exact hown, by rw [HLN.out]; exact hf, hb⟩)
  clear hown hf hb
  go_wp2
  go_ret
  exact ⟨A', c', by rw [HLN.out]; rfl, HR.out⟩
/-- An argument whose maps are a row of the call's own, in another block than the row v. -/
def OwnX (w : World) (v : Value) (x : ArgX) : Prop := w.ownsRow 0 22 1 (.slice x.A x.a.maps.length x.c) x.a.maps.length (mks x.a.maps) ∧ ((Value.slice x.A x.a.maps.length x.c).ownBlock = none ∨ (Value.slice x.A x.a.maps.length x.c).ownBlock ≠ v.ownBlock)
theorem OwnX.below {w w' : World} {v : Value} {x : ArgX} (h : OwnX w v x) (hb : w.grownBy w' none) : OwnX w' v x := by
  refine ⟨h.1.kept hb ?_, h.2⟩
  cases hq : (Value.slice x.A x.a.maps.length x.c).ownBlock with
  | none => exact .inl rfl
  | some g => exact .inr (by simp)
theorem OwnX.longer {w w' : World} {v v' : Value} {e : TypeId} {sz n : Nat} {xs : List Value} {x : ArgX} (h : OwnX w v x) (hl : Longer w w' e sz v v' n xs) : OwnX w' v' x := by
  obtain ⟨h1, h2, h3⟩ := hl
  refine ⟨h.1.kept h2 h.2, ?_⟩
  rcases h3 with h3 | h3
  · rw [h3]; exact h.2
  · cases hq : (Value.slice x.A x.a.maps.length x.c).ownBlock with
    | none => exact .inl rfl
    | some g =>
      have := h.1.lt g hq
      rw [h3]
      exact .inr (by intro e; injection e with e; omega)
theorem below_owns {w w' : World} {e : TypeId} {sz n : Nat} {v : Value} {xs : List Value} (h : w.ownsRow 0 e sz v n xs) (hb : Below w.heap.size w w') : w'.ownsRow 0 e sz v n xs := by
  refine ⟨h.1, ?_⟩
  rcases h.2 with h2 | ⟨g, cap, cur, e1, e2, e3, rest⟩
  · exact .inl h2
  · exact .inr ⟨g, cap, cur, e1, e2, (hb.block g (at_lt e3)).trans e3, rest⟩
theorem OwnX.from_below {w w' : World} {v : Value} {x : ArgX} (h : OwnX w v x) (hb : Below w.heap.size w w') : OwnX w' v x := ⟨below_owns h.1 hb, h.2⟩
theorem new_arg (w : World) (x : ArgX) {b : Nat} (hb : w.heap.size = b) : Rd (w.alloc (.cells x.cells.toArray 46)) (b + 1) 4 (some ⟨b, 0, none⟩) 1 x.cells := by
  subst hb
  exact cells_rd w x.cells 46 4 1 rfl
/-- Rows of arguments that were copied. -/
def OwnArgs (w w' : World) (l : List ArgM) (v : Value) (lx : List ArgX) : Prop :=
  lx.map ArgX.a = l ∧ w'.ownsRow 0 46 4 v l.length (xcells lx) ∧ (∀ x ∈ lx, OwnX w' v x ∧ ∀ g, (Value.slice x.A x.a.maps.length x.c).ownBlock = some g → w.heap.size ≤ g) ∧ (∀ g, v.ownBlock = some g → w.heap.size ≤ g) ∧ Below w.heap.size w w'
def CopiedArg (w : World) (a : ArgM) (e : Ending) (w' : World) : Prop := ∃ A c, e = .returned (a.v A c) ∧ OwnMks w w' a.maps A c
set_option maxRecDepth 100000 in
set_option maxHeartbeats 1000000 in
theorem copyArg_any (a : ArgM) (A : Option Addr) (c B : Nat) (w : World) (h : Rd w B 1 A a.maps.length (mks a.maps)) (hB : B ≤ w.heap.size) (hn : a.maps.length ≤ 1000000) :
    Calls Try.prog 73 #[a.v A c] w (CopiedArg w a) := by
  obtain ⟨kd, lo, hi, mp⟩ := a
  simp only [ArgM.v] at h hn ⊢
  have HC : Hid (∀ X : World, Below w.heap.size w X → Calls Try.prog 100 #[.slice A mp.length c] X (CopiedMks X mp)) := hide (fun X hX => copyMks_any A c B mp X (h.below (hX.mono hB)) (Nat.le_trans hB hX.size) hn)
  clear h
  generalize hln : mp.length = n at *
  have HLN := hide hln
  clear hln
  go_enter Try.func73, Try.ntmps73
  go_wp2_with fail
  refine name_call (fun W1 hW1 => ?_)
  obtain ⟨b1, b2⟩ := two_boxes w (.cells #[.int .u8 kd, .int .i64 lo, .int .i64 hi, .slice A n c] 46) (.cells #[.int .u8 0, .int .i64 0, .int .i64 0, .slice none 0 0] 46)
  have l1 := below2 w (.cells #[.int .u8 kd, .int .i64 lo, .int .i64 hi, .slice A n c] 46) (.cells #[.int .u8 0, .int .i64 0, .int .i64 0, .slice none 0 0] 46)
  rw [← hW1] at b1 b2 l1
  clear hW1
  ((with_reducible refine (HC.out _ l1).mono ?_))
  rintro e w1 ⟨A', c', rfl, ho, hf, hb⟩
  rw [HLN.out] at ho hf ⊢
  have z1 : w.heap.size + 1 < W1.heap.size := at_lt b2
  replace b1 := (hb.block _ (at_lt b1)).trans b1
  replace b2 := (hb.block _ (at_lt b2)).trans b2
  have c0 := blk_cell b1 0
  have c1 := blk_cell b1 1
  have c2 := blk_cell b1 2
  have c3 := blk_cell b1 3
  have d0 := blk_cell b2 0
  have d1 := blk_cell b2 1
  have d2 := blk_cell b2 2
  have d3 := blk_cell b2 3
  have f0 := Joins.unfrozen_of_block b1 3
  have g0 := Joins.unfrozen_of_block b2 0
  have g1 := Joins.unfrozen_of_block b2 1
  have g2 := Joins.unfrozen_of_block b2 2
  have g3 := Joins.unfrozen_of_block b2 3
  simp at c0 c1 c2 c3 d0 d1 d2 d3
  have t1 : (w1.setCell ⟨w.heap.size, 3, none⟩ (.slice A' n c')).heap[w.heap.size]? = some (.cells #[.int .u8 kd, .int .i64 lo, .int .i64 hi, .slice A' n c'] 46 (0, 0)) := Joins.block_setCell (i := 3) b1 (.slice A' n c')
  have t2 := blk_kept b2 (grown_set w1 w.heap.size 3 (.slice A' n c')) (by omega)
  have HB := hide hb
  have HL := hide l1
  have HO := hide ho
  have HF := hide hf
  have T1 := hide t1
  have T2 := hide t2
  clear b1 b2 t1 t2 hb l1 ho hf HC
  go_wp2
  obtain ⟨hs, hgr⟩ := store_4 T2.out (.int .u8 kd) (.int .i64 lo) (.int .i64 hi) (.slice A' n c')
  have hgr0 := grown_set w1 w.heap.size 3 (.slice A' n c')
  have k1 := own_keep (own_keep HO.out hgr0 (fun g hg e => by have := HF.out g hg; omega)) hgr (fun g hg e => by have := HF.out g hg; omega)
  have hbel := ((HL.out.trans (HB.out.mono HL.out.size)).grown hgr0 (Nat.le_trans HL.out.size HB.out.size) (fun k e => by cases e; exact Nat.le_refl _)).grown hgr (Nat.le_trans (Nat.le_trans HL.out.size HB.out.size) hgr0.size) (fun k e => by cases e; exact Nat.le_succ _)
  refine bodyPost_ret (v := .agg #[.int .u8 kd, .int .i64 lo, .int .i64 hi, .slice A' n c']) ?_ rfl ⟨A', c', by simp only [ArgM.v, HLN.out], ?_, ?_, hbel⟩
  · have e0 := blk_cell hs 0
    have e1 := blk_cell hs 1
    have e2 := blk_cell hs 2
    have e3 := blk_cell hs 3
    simp only [List.getElem?_toArray, List.getElem?_cons_zero, List.getElem?_cons_succ] at e0 e1 e2 e3
    simp [results, Try.results73, go_sem, e0, e1, e2, e3]
  · simp only [HLN.out]; exact k1
  · simp only [HLN.out]
    intro g hg
    have := HF.out g hg
    have := HL.out.size
    omega
theorem map_snoc_take {l : List ArgM} {lx : List ArgX} {k : Nat} {a : ArgM} {A : Option Addr} {c : Nat} (h : lx.map ArgX.a = l.take k) (ha : l[k]? = some a) : (lx ++ [(⟨a, A, c⟩ : ArgX)]).map ArgX.a = l.take (k + 1) := by
  obtain ⟨h1, h2⟩ := List.getElem?_eq_some_iff.1 ha
  rw [List.map_append, h, List.take_succ_eq_append_getElem h1, h2]
  rfl
theorem xcells_snoc (lx : List ArgX) (x : ArgX) : xcells (lx ++ [x]) = xcells lx ++ x.cells := by simp [xcells]
def CopiedArgs (w : World) (l : List ArgM) (e : Ending) (w' : World) : Prop := ∃ v lx, e = .returned v ∧ OwnArgs w w' l v lx
set_option maxRecDepth 100000 in
set_option maxHeartbeats 2000000 in
theorem copyArgs_any (A : Option Addr) (n c B : Nat) (l : List ArgM) (w : World) (h : Args w B A n l) (hB : B ≤ w.heap.size) (hn : n ≤ 1000000) :
    Calls Try.prog 43 #[.slice A n c] w (CopiedArgs w l) := by
  obtain ⟨i0, hi, hz0, hz1, hz2⟩ := infoParts argInfo
  have HL := hide h.1
  have HH := hide h
  clear h
  go_enter Try.func43, Try.ntmps43
  go_wp2
  go_loopw [3, 4] (fun v p wr => ∃ (k : Nat) (lx : List ArgX), k ≤ n ∧ p = .int .i64 k ∧ OwnArgs w wr (l.take k) v lx) (fun _ p _ => n - (intOf p).toNat)
  case atStart => exact ⟨0, [], Nat.zero_le _, rfl, by simp, World.ownsRow_nil w 0 46 4, fun x hx => absurd hx (by simp), fun g hg => absurd hg (by simp [Value.ownBlock]), Below.refl _ _⟩
  case round =>
    obtain ⟨k, lx, hk, rfl, ho⟩ := hrel
    by_cases hlt : k < n
    · obtain ⟨hm, hrow, hx, hf, hb⟩ := ho
      have hkl : (l.take k).length = k := by rw [List.length_take, HL.out]; omega
      rw [hkl] at hrow
      obtain ⟨ad, a, rfl, hab, hl, hc⟩ := (HH.out.below (hb.mono hB)).at_ hlt
      obtain ⟨Am, cm, q0, q1, q2, q3, q4, q5⟩ := hc
      have hBr : B ≤ wr.heap.size := Nat.le_trans hB hb.size
      have hC : Hid (Calls Try.prog 73 #[a.v Am cm] wr (CopiedArg wr a)) := hide (copyArg_any a Am cm B wr q4 hBr q5.1)
      have HB := hide hb
      have HF := hide hf
      have HR := hide hrow
      have HX := hide hx
      have HM := hide hm
      have HLK := hide hl
      clear hb hf hrow hx hm hl hkl q4 q5
      simp only [ArgM.v] at hC
      go_wp2_with fail
      ((with_reducible refine hC.out.mono ?_))
      rintro e w1 ⟨A', c', rfl, ho1, hf1, hb1⟩
      have z0 := HB.out.size
      have z1 := hb1.size
      have HO1 := hide ho1
      have HF1 := hide hf1
      have HB1 := hide hb1
      clear hC ho1 hf1 hb1 q0 q1 q2 q3
      simp only [ArgM.v]
      go_wp2_with (at_builtin; refine stop_here ?_)
      show Hid _
      refine start_here ?_
      have hg0 : w1.grownBy ((w1.alloc (.cells #[.int .u8 a.kind, .int .i64 a.lo, .int .i64 a.hi, .slice A' a.maps.length c'] 46)).alloc (.cells #[.int .u8 a.kind, .int .i64 a.lo, .int .i64 a.hi, .slice A' a.maps.length c'] 46)) none :=
        ⟨rfl, rfl, rfl, by simp; omega, fun q hq _ => (Below.heap_alloc _ _ q (by simp; omega)).trans (Below.heap_alloc _ _ q hq)⟩
      have hlu3 := fun g (hg : u3.ownBlock = some g) => HR.out.lt g hg
      have hrow1 : w1.ownsRow 0 46 4 u3 k (xcells lx) := below_owns HR.out HB1.out
      have hx1 : ∀ x ∈ lx, OwnX w1 u3 x := fun x hx => (HX.out x hx).1.from_below HB1.out
      have hnew : OwnX w1 u3 ⟨a, A', c'⟩ := ⟨HO1.out, by
        cases hq : (Value.slice A' a.maps.length c').ownBlock with
        | none => exact .inl rfl
        | some g =>
          have h1 := HF1.out g hq
          exact .inr (by intro e; have := hlu3 g e.symm; omega)⟩
      refine wpList_append_rd _ ?cg (.tmp 17) (.tmp 19) _ ?c0 46 i0 _ 4 48 Try.underlying27 hi hz0 hz1 hz2 rfl (by decide) u3 k (xcells lx) rfl (World.ownsRow.alloc (World.ownsRow.alloc hrow1 _) _) _ (some ⟨w1.heap.size + 1, 0, none⟩) 1 1 (ArgX.cells ⟨a, A', c'⟩) rfl
        (new_arg _ ⟨a, A', c'⟩ (by simp)) (fun h => nomatch h) ?c1 (by unfold maxLen; omega) (by omega) ?_
      case cg => rfl
      case c0 => rfl
      case c1 => intro u hu; exact xcells_one [⟨a, A', c'⟩] u (by simpa [xcells] using hu)
      intro v' w2 hlg
      have hwb : Below w.heap.size w _ := (HB.out.trans (HB1.out.mono z0)).grown hg0 (Nat.le_trans z0 z1) (fun k e => by cases e)
      have hN : OwnArgs w w2 (l.take (k + 1)) v' (lx ++ [⟨a, A', c'⟩]) := by
        have hB1 : w.heap.size ≤ ((w1.alloc (.cells #[.int .u8 a.kind, .int .i64 a.lo, .int .i64 a.hi, .slice A' a.maps.length c'] 46)).alloc (.cells #[.int .u8 a.kind, .int .i64 a.lo, .int .i64 a.hi, .slice A' a.maps.length c'] 46)).heap.size := Nat.le_trans (Nat.le_trans z0 z1) hg0.size
        refine ⟨map_snoc_take HM.out HLK.out, ?_, ?_, longer_from hlg hB1 HF.out, longer_below hwb hB1 HF.out hlg⟩
        · rw [xcells_snoc, List.length_take, HL.out, Nat.min_eq_left (by omega)]
          exact hlg.1
        · intro x hx
          rcases List.mem_append.1 hx with hx | hx
          · exact ⟨((hx1 x hx).below hg0).longer hlg, (HX.out x hx).2⟩
          · simp at hx; subst hx; exact ⟨(hnew.below hg0).longer hlg, fun g hg => Nat.le_trans z0 (HF1.out g hg)⟩
      have HN := hide hN
      clear hN hwb hlg hnew hx1 hrow1 hlu3 hg0
      go_wp2
      go_roundw
      case rel => exact ⟨k + 1, _, by omega, by go_num, HN.out⟩
      case measure => simp [intOf]; omega
    · have hkn : k = n := by omega
      subst hkn
      have HO : Hid (OwnArgs w wr l u3 lx) := hide (by rwa [List.take_of_length_le (by rw [HL.out]; exact Nat.le_refl _)] at ho)
      clear ho
      go_wp2
      go_ret
      exact ⟨_, lx, rfl, HO.out⟩
end Go.Proofs.Ytedjmgiblkjonaa
