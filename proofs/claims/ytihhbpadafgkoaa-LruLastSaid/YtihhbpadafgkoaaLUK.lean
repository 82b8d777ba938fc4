/-
  Keys: the keys, the eldest first.
-/
import Derived.Test.YtihhbpadafgkoaaLU9
import Derived.Test.YtihhbpadafgkoaaLKR
import Derived.Test.YtihhbpadafgkoaaRTW
import Derived.Test.YtihhbpadafgkoaaAP4
import Derived.RangeFuncNested
import Derived.RangeFuncBox
namespace Go.Proofs.Ytihhbpadafgkoaa
open Go.RowKit Go.Maps
set_option linter.unusedVariables false
set_option linter.unusedSimpArgs false

def GK (X0 X1 X2 X3 X4 : World) (L : Nat → Bool) (W : World) : Prop := W = if L 9 = true then X4 else if L 8 = true then X3 else if L 7 = true then X2 else if L 6 = true then X1 else X0
theorem GK.same {X0 X1 X2 X3 X4 W : World} {L : Nat → Bool} {i : Nat} (h : GK X0 X1 X2 X3 X4 L W) (h6 : i ≠ 6) (h7 : i ≠ 7) (h8 : i ≠ 8) (h9 : i ≠ 9) : GK X0 X1 X2 X3 X4 (fun j => L j || j == i) W := by
  unfold GK at h ⊢
  simp only [or_same h6, or_same h7, or_same h8, or_same h9]
  exact h
theorem run_append_op {P : Program} {W W' : World} {o : Oper} {ev : Operand → Value} {lp : Nat} (s x : Operand) (t : TypeId) (ho : o.op = .call { callee := .builtin .append, args := #[s, x], argTypes := #[t, t] }) (v vx v' : Value) (hs : ev s = v) (hx : ev x = vx)
    (hrun : (Builtin.append_ #[t, t] o.type #[v, vx]).run P W = .ok v' W') : (o.semAt (Fence.wide.inRound lp).round ev).run P W = .ok (.value v') W' := by
  rw [show (Fence.wide.inRound lp).round = some lp from rfl, Oper.semAt_some lp _ _ (fun c => by rw [ho]; nofun)]
  unfold execOp
  simp only [ho, resolve, invoke, builtin, Sem.run_bind, Sem.run_pure, Result.andThen_ok, List.map_toArray, List.map_cons, List.map_nil, hs, hx, hrun]
attribute [local go_sem] Oper.semAt_some
set_option maxRecDepth 100000 in
set_option maxHeartbeats 4000000 in
theorem keys_any (B b mb cb e ks sz : Nat) (L : List LK) (P : List HS) (w : World) (h : Lru w B b mb cb e ks sz L P) :
    Calls Try.prog 23 #[.pointer (some ⟨b, 0, none⟩)] w fun en w' => ∃ v rs, en = .returned v ∧ KeysTold w' w.heap.size v rs ∧ rs.map KR.k = L.map LK.k ∧ Below w.heap.size w w' := by
  have hle := full_lt h.fit
  have hlen : L.length ≤ 1024 := by have := h.many.2; omega
  obtain ⟨i0, hi0, hz0, hz1, hz2⟩ := info_parts rows22
  refine (callsIn_wide (n := 3)).1 ?_
  refine callsIn_of_wp_marks Try.func23 rfl trivial ?_ rfl
  simp only [Try.ntmps23, List.size_toArray, List.length_cons, List.length_nil, Nat.reduceAdd, Nat.reduceSub, Array.replicate_succ, Array.replicate_zero, List.push_toArray, List.append_toArray, List.nil_append, List.cons_append]
  have hb1 := below1 w (.cells #[.slice none 0 0] 49)
  have hx1 := World.alloc_heap_new w (.cells #[.slice none 0 0] 49)
  have hz1w : (w.alloc (.cells #[.slice none 0 0] 49)).heap.size = w.heap.size + 1 := by simp
  have c3 := (h.below hb1).c3
  have HX1 := hide hx1
  have HB1 := hide hb1
  have HH := hide h
  clear h hx1 hb1
  gi_wp2_with fail
  refine ⟨trivial, (callsIn_wide.2 (is_yes b w HH.out.c0)).mono ?_⟩
  rintro en w' ⟨rfl, rfl⟩
  gi_wp2_with fail
  refine ⟨trivial, (callsIn_wide.2 (links_any _ _)).mono ?_⟩
  rintro en w2 ⟨rfl, rfl⟩
  have hb2 := below1 (w.alloc (.cells #[.slice none 0 0] 49)) (.cells #[.pointer (some ⟨e, 0, none⟩)] 56)
  have hx2 := World.alloc_heap_new (w.alloc (.cells #[.slice none 0 0] 49)) (.cells #[.pointer (some ⟨e, 0, none⟩)] 56)
  rw [hz1w] at hx2 hb2
  clear c3
  gi_wp2_with fail
  generalize (w.alloc (.cells #[.slice none 0 0] 49)).alloc (.cells #[.pointer (some ⟨e, 0, none⟩)] 56) = W0 at *
  have hbw : Below w.heap.size w W0 := HB1.out.trans (hb2.mono (by omega))
  have hbx : W0.heap[w.heap.size]? = some (.cells #[.slice none 0 0] 49 (0, 0)) := (hb2.block _ (by omega)).trans HX1.out
  have hz0w : w.heap.size + 1 < W0.heap.size := at_lt hx2
  obtain ⟨nx, pv, hring⟩ := (HH.out.below hbw).ring
  have HRI := hide hring
  have HBX := hide hbx
  have HBW := hide hbw
  clear hz1w HX1 HB1 hb2
  refine range_ends (α := LK) (F := Fence.wide) (n := 3) rfl (by omega) (gf := 57) (lb := #[.pointer (some ⟨w.heap.size + 1, 0, none⟩)]) rfl trivial (enters_of Try.func57 (by kernel_rfl) rfl)
    (links_iter (3 - 1) (w.heap.size + 1) e L nx pv W0 hx2 hring (by omega)) (Below.refl _ _)
    (fun h k => h.trans k) (fun X l o o' hl _ h ho => KpL.same (by simp) (fun g c t hg => (World.putObj_heap_other (fun e2 => by rw [e2, h] at hg; injection hg with hg; subst hg; cases ho)).trans hg)) (fun _ => rfl)
    (fun pre W => ∃ v rs, Boxed W w.heap.size 49 v ∧ KeysTold W (w.heap.size + 2) v rs ∧ rs.map KR.k = pre.map LK.k ∧ Below w.heap.size w W)
    (fun _ _ => False)
    ?_ (fun _ _ _ h _ => h) ⟨_, [], hbx, keysTold_nil _ _, rfl, hbw⟩ ?round ?done ?stop
  · rintro s X Y ⟨v, rs, h1, h2, h3, h4⟩ hst
    exact ⟨v, rs, hst.boxed h1, h2.stays hst, h3, hst.below (by omega) (Nat.le_refl _) h4⟩
  case round =>
    rintro lp pre x W hle2 hloop hws hI ⟨j, hpre, hx⟩
    have HI := hide hI
    have HP := hide hpre
    have HX := hide hx
    clear hI hpre hx hloop hx2 hbx hbw hring
    gi_wp2
    refine ⟨KeepsFrom.refl _ _, KpL.same (Nat.le_refl _) (fun _ _ _ h => h), HI.out, fun W2 hst => ?_⟩
    obtain ⟨v, rs, h1, h2, h3, h4⟩ := HI.out
    have g1 := hst.boxed h1
    have g2 := h2.stays hst
    have g4 := hst.below (n0 := w.heap.size) (by omega) (Nat.le_refl _) h4
    have hws2 : W0.heap.size + 2 ≤ W2.heap.size := Nat.le_trans hws hst.size
    clear h1 h2 h4 hst
    obtain ⟨nx2, pv2, hr2⟩ := (HH.out.below g4).ring
    have hlk := hr2.each x (List.mem_of_getElem? HX.out)
    have hrl : rs.length ≤ 1024 := by
      have h5 := congrArg List.length h3
      rw [List.length_map, List.length_map, HP.out, List.length_take] at h5
      omega
    -- the worlds of the round
    have hbd0 : Below W2.heap.size W2 W2.drew := (Below.refl _ _).drew
    obtain ⟨cap, hcv⟩ := conv_text W2.drew x.k
    have hat := text_at W2.drew x.k cap
    have hb01 : Below W2.drew.heap.size W2.drew (W2.drew.drew.alloc (.cells (bytesRow ⟨x.k.toArray⟩ cap) 5 ((bytesRow ⟨x.k.toArray⟩ cap).size, (bytesRow ⟨x.k.toArray⟩ cap).size + 1))) := (Below.refl _ W2.drew).drew.alloc (Nat.le_refl _) _
    have hs1 : (W2.drew.drew.alloc (.cells (bytesRow ⟨x.k.toArray⟩ cap) 5 ((bytesRow ⟨x.k.toArray⟩ cap).size, (bytesRow ⟨x.k.toArray⟩ cap).size + 1))).heap.size = W2.heap.size + 1 := by
      show (W2.drew.drew.alloc _).heap.size = W2.drew.drew.heap.size + 1
      simp
    generalize W2.drew.drew.alloc (.cells (bytesRow ⟨x.k.toArray⟩ cap) 5 ((bytesRow ⟨x.k.toArray⟩ cap).size, (bytesRow ⟨x.k.toArray⟩ cap).size + 1)) = X1 at *
    have hs0 : W2.drew.heap.size = W2.heap.size := rfl
    obtain ⟨X0, hX0⟩ : ∃ X0, X0 = W2.drew := ⟨_, rfl⟩
    rw [← hX0] at hcv hat hb01 hbd0 hs0
    rw [hs0] at hcv hat
    have hb12 := below1 X1 (.cells #[.slice (some ⟨W2.heap.size, 0, none⟩) x.k.length cap] 35)
    have hx12 := World.alloc_heap_new X1 (.cells #[.slice (some ⟨W2.heap.size, 0, none⟩) x.k.length cap] 35)
    have hr12 := cells_rd X1 [.slice (some ⟨W2.heap.size, 0, none⟩) x.k.length cap] 35 1 1 rfl
    have hs2 : (X1.alloc (.cells #[.slice (some ⟨W2.heap.size, 0, none⟩) x.k.length cap] 35)).heap.size = W2.heap.size + 2 := by simp; omega
    have hmk : ∀ kk : Value, kk = .slice (some ⟨W2.heap.size, 0, none⟩) x.k.length cap → X1.alloc (.cells #[kk] 35) = X1.alloc (.cells #[.slice (some ⟨W2.heap.size, 0, none⟩) x.k.length cap] 35) := fun kk e2 => by rw [e2]
    rw [hs1] at hr12 hx12
    obtain ⟨X2, hX2⟩ : ∃ X2, X2 = X1.alloc (.cells #[.slice (some ⟨W2.heap.size, 0, none⟩) x.k.length cap] 35) := ⟨_, rfl⟩
    rw [show [Value.slice (some ⟨W2.heap.size, 0, none⟩) x.k.length cap].toArray = #[Value.slice (some ⟨W2.heap.size, 0, none⟩) x.k.length cap] from rfl] at hr12
    rw [← hX2] at hb12 hx12 hr12 hs2
    have b02 : Below W2.heap.size W2 X2 := hbd0.trans ((hb01.mono (by omega)).trans (hb12.mono (by omega)))
    have hown2 := owns_kept_below g2.row b02
    obtain ⟨v', X3, hrun, hl⟩ := run_append_rd (P := Try.prog) X2 49 49 35 i0 _ 1 24 Try.underlying49 hi0 hz0 hz1 hz2 rfl (by decide) v rs.length (rs.map KR.sl) hown2 (W2.heap.size + 1 + 1) (some ⟨W2.heap.size + 1, 0, none⟩) 1 1 [.slice (some ⟨W2.heap.size, 0, none⟩) x.k.length cap] hr12 (fun h => by cases h) (fun u hu => by rw [List.mem_singleton] at hu; subst hu; rfl) (by unfold maxLen; omega) (by omega)
    have hNl : w.heap.size < W2.heap.size := at_lt g1
    have hvN : v.ownBlock ≠ some w.heap.size := fun e2 => by have := g2.low _ e2; omega
    have hbox3 : X3.heap[w.heap.size]? = some (.cells #[v] 49 (0, 0)) := (hl.2.1.block _ (by omega) (fun e2 => hvN e2.symm)).trans ((b02.block _ hNl).trans g1)
    have hc3 : X3.cell? ⟨w.heap.size, 0, none⟩ = some v := (blk_cell hbox3 0).trans rfl
    have hf3 : X3.frozen? ⟨w.heap.size, 0, none⟩ = false := by simp [World.frozen?, hbox3]
    have hK3 : KeysTold X3 (w.heap.size + 2) v' (rs ++ [⟨W2.heap.size, x.k, cap⟩]) := KeysTold.more (r := ⟨W2.heap.size, x.k, cap⟩) g2 (by omega) b02 (hat.kept (F := fun _ => True) (Kept.of_below hb12) trivial) rfl hl (by omega)
    have hx4 : (X3.setCell ⟨w.heap.size, 0, none⟩ v').heap[w.heap.size]? = some (.cells #[v'] 49 (0, 0)) := (set_at_heap hbox3 0 v').trans rfl
    have hK4 : KeysTold (X3.setCell ⟨w.heap.size, 0, none⟩ v') (w.heap.size + 2) v' (rs ++ [⟨W2.heap.size, x.k, cap⟩]) := hK3.kept (kept_set _ _ _ _) (fun g hg e2 => by have := hK3.low g hg; omega) (fun r hr e2 => by have := (hK3.each r hr).2; omega)
    have hlow3 : Kept (fun g => v.ownBlock ≠ some g) X2 X3 := (Kept.refl _ X2).grown hl.2.1 (fun g e _ hh => hh e)
    have hfin : KeepsFrom W0.heap.size W2 (X3.setCell ⟨w.heap.size, 0, none⟩ v') ∧ KpL (w.heap.size + 1) e L W2 (X3.setCell ⟨w.heap.size, 0, none⟩ v') ∧ ∃ v rs, Boxed (X3.setCell ⟨w.heap.size, 0, none⟩ v') w.heap.size 49 v ∧ KeysTold (X3.setCell ⟨w.heap.size, 0, none⟩ v') (w.heap.size + 2) v rs ∧ rs.map KR.k = (pre ++ [x]).map LK.k ∧ Below w.heap.size w (X3.setCell ⟨w.heap.size, 0, none⟩ v') := by
      have hsz : W2.heap.size ≤ (X3.setCell ⟨w.heap.size, 0, none⟩ v').heap.size := by
        have h6 := hl.2.1.size
        simp [World.setCell]
        omega
      have hkeep : ∀ (g : Nat) (o : Obj), W2.heap[g]? = some o → g ≠ w.heap.size → v.ownBlock ≠ some g → (X3.setCell ⟨w.heap.size, 0, none⟩ v').heap[g]? = some o := fun g o hg h5 h6 => (set_off h5).trans ((hlow3.block g (by have := at_lt hg; omega) h6).trans ((b02.block g (at_lt hg)).trans hg))
      have hnotv : ∀ (g : Nat) (o : Obj), W2.heap[g]? = some o → (∀ cur : Array Value, o ≠ Obj.cells cur 35 (0, 0)) → v.ownBlock ≠ some g := fun g o hg hne e2 => by
        obtain ⟨cur, hc⟩ := owned_cells g2.row e2
        rw [hg] at hc
        injection hc with hc
        exact hne _ hc
      have hnl : ∀ (g : Nat) (k : List UInt8) (p q m : Nat), LinkAt W2 g k p q m → LinkAt (X3.setCell ⟨w.heap.size, 0, none⟩ v') g k p q m := fun g k p q m hl2 => hkeep g _ hl2 (fun e2 => by
          have h7 : W2.heap[g]? = _ := hl2
          rw [e2, show W2.heap[w.heap.size]? = _ from g1] at h7
          injection h7 with h7
          injection h7 with _ h7
          exact absurd h7 (by decide)) (hnotv g _ hl2 (fun cur e2 => by injection e2 with _ e2; exact absurd e2 (by decide)))
      refine ⟨⟨hsz, fun k o hB hk hc => hkeep k o hk (by omega) (hnotv k o hk (fun cur e2 => by rw [e2] at hc; cases hc))⟩, ⟨hsz, fun c t hc => ?_, fun k p q n hl2 => ⟨q, n, hnl _ _ _ _ _ hl2⟩, fun r hr q n hl2 => ⟨q, hnl _ _ _ _ _ hl2⟩⟩, v', _, hx4, hK4, ?_, ?_⟩
      · exact hkeep _ _ hc (by omega) (fun e2 => by have := g2.low _ e2; omega)
      · rw [List.map_append, List.map_append, h3]
        rfl
      · exact (((g4.trans (b02.mono (by omega))).trans (hlow3.to_below (fun g hg e2 => by have := g2.low g e2; omega) (by omega)))).trans ((kept_set _ _ _ _ : Kept (fun g => g ≠ w.heap.size) X3 _).to_below (fun g hg e2 => by omega) (by have := hl.2.1.size; omega))
    have HFIN := hide hfin
    -- what is loaded, in each of the worlds
    have c0 : W2.cell? ⟨w.heap.size, 0, none⟩ = some v := (blk_cell g1 0).trans rfl
    have k0 : W2.cell? ⟨x.g, 0, none⟩ = some (encStr x.k) := LinkV.c0 hlk
    have hb02 : Below W2.heap.size W2 X1 := hbd0.trans (hb01.mono (by omega))
    have HC : Hid (∀ W, W = X0 ∨ W = X1 ∨ W = X2 → W.cell? ⟨w.heap.size, 0, none⟩ = some v) := hide (fun W hW => by
      rcases hW with rfl | rfl | rfl
      · exact (hbd0.cell (World.block_lt_of_cell? W2 _ c0)).trans c0
      · exact (hb02.cell (World.block_lt_of_cell? W2 _ c0)).trans c0
      · exact (b02.cell (World.block_lt_of_cell? W2 _ c0)).trans c0)
    have HKC : Hid (∀ W, W = X0 ∨ W = X1 ∨ W = X2 → W.cell? ⟨x.g, 0, none⟩ = some (encStr x.k)) := hide (fun W hW => by
      rcases hW with rfl | rfl | rfl
      · exact (hbd0.cell (World.block_lt_of_cell? W2 _ k0)).trans k0
      · exact (hb02.cell (World.block_lt_of_cell? W2 _ k0)).trans k0
      · exact (b02.cell (World.block_lt_of_cell? W2 _ k0)).trans k0)
    have HCV := hide hcv
    have HRUN := hide hrun
    have HC3 := hide hc3
    have HF3 := hide hf3
    have HX2 := hide hX2
    have HS1 := hide hs1
    have HX0 := hide hX0
    obtain ⟨Av, nv, cv, rfl⟩ : ∃ Av nv cv, v = .slice Av nv cv := by
      obtain ⟨A, c, e2, _⟩ := owns_slice g2.row
      exact ⟨_, _, _, e2⟩
    obtain ⟨Av', nv', cv', rfl⟩ : ∃ Av nv cv, v' = .slice Av nv cv := by
      obtain ⟨A, c, e2, _⟩ := owns_slice hl.1
      exact ⟨_, _, _, e2⟩
    clear g1 g2 g4 h3 hr2 hlk hcv hat hb01 hbd0 hs0 hb12 hx12 hr12 hs2 hmk b02 hown2 hrun hl hNl hvN hbox3 hc3 hf3 hK3 hx4 hK4 hlow3 hfin c0 k0 hb02 hX2 hs1 hX0 hrl hws2
    gi_wp2
    refine wpIn_static2 (fun _ => trivial) (by kernel_rfl) (fun i => ([.slice Av nv cv, .pointer (some ⟨x.g, 0, none⟩), .pointer (some ⟨x.g, 0, none⟩), .pointer (some ⟨x.g, 0, none⟩), .pointer (some ⟨x.g, 0, none⟩), encStr x.k, .slice (some ⟨W2.heap.size, 0, none⟩) x.k.length cap, .slice (some ⟨W2.heap.size + 1, 0, none⟩) 1 1, (.slice Av' nv' cv'), undef] : List Value).getD i undef) (GK X0 X1 X2 X3 (X3.setCell ⟨w.heap.size, 0, none⟩ (.slice Av' nv' cv'))) (by decide +kernel) (by decide +kernel) (by decide +kernel) (by kernel_rfl) ?_ (by rw [HX0.out]; rfl) ?_ ?_
    · intro i o ho hd
      have hi : i < 10 := (Array.getElem?_eq_some_iff.1 ho).1
      have hi' : i = 0 ∨ i = 1 ∨ i = 2 ∨ i = 3 ∨ i = 4 ∨ i = 5 ∨ i = 6 ∨ i = 7 ∨ i = 8 ∨ i = 9 := by omega
      rcases hi' with rfl | rfl | rfl | rfl | rfl | rfl | rfl | rfl | rfl | rfl <;> first | rfl | (cases ho; cases hd)
    · intro i o ho LL a W3 hLi hG hold hh hcl hdone
      have hi : i < 10 := (Array.getElem?_eq_some_iff.1 ho).1
      have hi' : i = 0 ∨ i = 1 ∨ i = 2 ∨ i = 3 ∨ i = 4 ∨ i = 5 ∨ i = 6 ∨ i = 7 ∨ i = 8 ∨ i = 9 := by omega
      rcases hi' with rfl | rfl | rfl | rfl | rfl | rfl | rfl | rfl | rfl | rfl
      · cases ho
        have n8 : LL 8 = false := nyet (j := 8) hcl hLi rfl (by decide)
        have n9 : LL 9 = false := nyet (j := 9) hcl n8 rfl (by decide)
        have e0 : a.eval (.tmp 3) = .pointer (some ⟨w.heap.size, 0, none⟩) := hold 3 (by kernel_rfl)
        have hW : W3 = X0 ∨ W3 = X1 ∨ W3 = X2 := by
          have hG2 := hG
          unfold GK at hG2
          rw [n9, n8] at hG2
          cases h7 : LL 7 <;> cases h6 : LL 6 <;> simp [h7, h6] at hG2 <;> simp [hG2]
        have xc := HC.out W3 hW
        refine static2_told W3 ?_ (hG.same (by decide) (by decide) (by decide) (by decide))
        generalize a.eval = ev at e0 ⊢
        simp [Oper.semAt_some, execOp, go_sem, e0, xc]
      · cases ho
        have e0 : a.eval (.tmp 4) = .pointer (some ⟨x.g, 0, none⟩) := hold 4 (by kernel_rfl)
        refine static2_told W3 ?_ (hG.same (by decide) (by decide) (by decide) (by decide))
        generalize a.eval = ev at e0 ⊢
        simp [Oper.semAt_some, execOp, go_sem, e0]
      · cases ho
        have e0 : a.eval (.tmp 15) = .pointer (some ⟨x.g, 0, none⟩) := hh 1 rfl
        refine static2_told W3 ?_ (hG.same (by decide) (by decide) (by decide) (by decide))
        generalize a.eval = ev at e0 ⊢
        simp [Oper.semAt_some, execOp, go_sem, e0]
      · cases ho
        have e0 : a.eval (.tmp 16) = .pointer (some ⟨x.g, 0, none⟩) := hh 2 rfl
        refine static2_told W3 ?_ (hG.same (by decide) (by decide) (by decide) (by decide))
        generalize a.eval = ev at e0 ⊢
        simp [Oper.semAt_some, execOp, go_sem, e0]
      · cases ho
        have e0 : a.eval (.tmp 17) = .pointer (some ⟨x.g, 0, none⟩) := hh 3 rfl
        refine static2_told W3 ?_ (hG.same (by decide) (by decide) (by decide) (by decide))
        generalize a.eval = ev at e0 ⊢
        simp [Oper.semAt_some, execOp, go_sem, e0]
      · cases ho
        have n6 : LL 6 = false := nyet (j := 6) hcl hLi rfl (by decide)
        have n7 : LL 7 = false := nyet (j := 7) hcl n6 rfl (by decide)
        have n8 : LL 8 = false := nyet (j := 8) hcl n7 rfl (by decide)
        have n9 : LL 9 = false := nyet (j := 9) hcl n8 rfl (by decide)
        have e0 : a.eval (.tmp 18) = .pointer (some ⟨x.g, 0, none⟩) := hh 4 rfl
        have hW : W3 = X0 := by
          have hG2 := hG
          unfold GK at hG2
          rw [n9, n8, n7, n6] at hG2
          simpa using hG2
        have xc := HKC.out W3 (.inl hW)
        refine static2_told W3 ?_ (hG.same (by decide) (by decide) (by decide) (by decide))
        generalize a.eval = ev at e0 ⊢
        simp [Oper.semAt_some, execOp, go_sem, e0, xc]
      · cases ho
        have n7 : LL 7 = false := nyet (j := 7) hcl hLi rfl (by decide)
        have n8 : LL 8 = false := nyet (j := 8) hcl n7 rfl (by decide)
        have n9 : LL 9 = false := nyet (j := 9) hcl n8 rfl (by decide)
        have e0 : a.eval (.tmp 19) = encStr x.k := hh 5 rfl
        have hW : W3 = X0 := by
          unfold GK at hG
          rw [n9, n8, n7, hLi] at hG
          simpa using hG
        subst hW
        have xc := HCV.out
        refine static2_told X1 ?_ (by unfold GK; simp [or_same, n7, n8, n9])
        generalize encStr x.k = kv at e0 xc ⊢
        generalize a.eval = ev at e0 ⊢
        simp [Oper.semAt_some, execOp, go_sem, e0, xc]
      · cases ho
        have n8 : LL 8 = false := nyet (j := 8) hcl hLi rfl (by decide)
        have n9 : LL 9 = false := nyet (j := 9) hcl n8 rfl (by decide)
        have n6 : LL 6 = true := hdone 6 (by decide)
        have e0 : a.eval (.tmp 20) = .slice (some ⟨W2.heap.size, 0, none⟩) x.k.length cap := hh 6 rfl
        have hW : W3 = X1 := by
          unfold GK at hG
          rw [n9, n8, hLi, n6] at hG
          simpa using hG
        subst hW
        have xs := HS1.out
        refine static2_told X2 ?_ (by unfold GK; simp [n6, n8, n9])
        rw [HX2.out]
        generalize a.eval = ev at e0 ⊢
        simp [Oper.semAt_some, execOp, go_sem, e0, xs]
      · cases ho
        have n9 : LL 9 = false := nyet (j := 9) hcl hLi rfl (by decide)
        have n7 : LL 7 = true := hdone 7 (by decide)
        have e0 : a.eval (.tmp 14) = .slice Av nv cv := hh 0 rfl
        have e1 : a.eval (.tmp 21) = .slice (some ⟨W2.heap.size + 1, 0, none⟩) 1 1 := hh 7 rfl
        have hW : W3 = X2 := by
          unfold GK at hG
          rw [n9, hLi, n7] at hG
          simpa using hG
        subst hW
        exact static2_told X3 (run_append_op (.tmp 14) (.tmp 21) 49 (by rfl) _ _ _ e0 e1 HRUN.out) (by unfold GK; simp [n7, n9])
      · cases ho
        have n8 : LL 8 = true := hdone 8 (by decide)
        have e0 : a.eval (.tmp 3) = .pointer (some ⟨w.heap.size, 0, none⟩) := hold 3 (by kernel_rfl)
        have e1 : a.eval (.tmp 22) = .slice Av' nv' cv' := hh 8 rfl
        have hW : W3 = X3 := by
          unfold GK at hG
          rw [hLi, n8] at hG
          simpa using hG
        subst hW
        have x1 := HC3.out
        have x2 := HF3.out
        refine static2_stored (W3.setCell ⟨w.heap.size, 0, none⟩ (.slice Av' nv' cv')) ?_ (by unfold GK; simp)
        generalize a.eval = ev at e0 e1 ⊢
        simp [Oper.semAt_some, execOp, go_sem, e0, e1, x1, x2]
    · intro a W3 hd hs hold hh hG
      obtain rfl : W3 = X3.setCell ⟨w.heap.size, 0, none⟩ (.slice Av' nv' cv') := hG
      obtain ⟨f, hf, ha⟩ := act_puts [14, 15, 16, 17, 18, 19, 20, 21, 22] (fun t ht => by
        by_cases h : t ∈ [14, 15, 16, 17, 18, 19, 20, 21, 22]
        · exact h
        · exfalso
          simp [unwritten] at ht
          simp only [List.mem_cons, not_or] at h
          obtain ⟨h0, h1, h2, h3, h4, h5, h6, h7, h8, _⟩ := h
          exact absurd (ht (fun e => h0 e.symm) (fun e => h1 e.symm) (fun e => h2 e.symm) (fun e => h3 e.symm) (fun e => h4 e.symm) (fun e => h5 e.symm) (fun e => h6 e.symm) (fun e => h7 e.symm)) (fun e => h8 e.symm)) (fun t ht => by
        have hsz : t < 24 := by
          simp only [List.mem_cons, List.mem_nil_iff, or_false] at ht
          omega
        exact hsz) hd hs hold
      subst ha
      exact HFIN.out
  case done =>
    rintro D xs W hD hxs ⟨v, rs, h1, h2, h3, h4⟩ hdef
    have HXS := hide hxs
    have c1 := h1.cell
    gi_wp2
    refine ⟨by simp, .inl ⟨_, _, rfl, run_takeDeferred hdef, ?_⟩⟩
    have hst := Stays.putObj (B := W0.heap.size) (.deferred none) hD hdef rfl
    exact ⟨_, results_tmp rfl _ _ _, _, rs, rfl, (h2.stays hst).less (by omega), by rw [h3, HXS.out], hst.below (by omega) (Nat.le_refl _) h4⟩
  case stop =>
    rintro D pre W hD h
    exact h.elim
end Go.Proofs.Ytihhbpadafgkoaa
