/-
  How deep a row of trees is, and whether each fits: depth's walk.
-/
import Derived.Test.YtolmjnoaiiodlaaDP0
import Derived.Deep.CutBlock
import Derived.Deep.CutRange
namespace Go.Proofs.Ytolmjnoaiiodlaa
open Go.RowKit Go.Maps Forest
set_option linter.unusedVariables false

theorem levelInfo : (Try.prog.info? 75).map (fun i => (i.zero, i.size, i.bytes)) = some (some (.agg #[.pointer none, .int .i64 0, .slice none 0 0, .int .i64 0]), 4, 48) := by kernel_rfl
theorem setBlock_grown (w : World) (b : Nat) (o : Obj) : w.grownBy (ChangeMaps.setBlock w b o) (some b) :=
  ⟨rfl, rfl, rfl, by simp [ChangeMaps.setBlock], fun k _ hk => by
    simp only [ChangeMaps.setBlock]
    rw [Array.getElem?_setIfInBounds_ne]
    exact fun e => hk (by rw [e])⟩
theorem zero3 (w : World) : (zeroValue 3).run Try.prog w = .ok (.int .i64 0) w := by kernel_rfl
theorem grown2_kept {w w' : World} {e : TypeId} {sz n m : Nat} {v v' : Value} {xs : List Value} (h : Grown2 w w' e sz v v' n m xs) : Kept (fun g => v.ownBlock ≠ some g) w w' ∧ (v'.ownBlock = v.ownBlock ∨ v'.ownBlock = some w.heap.size) := by
  rcases h.2 with ⟨g, cap, rfl, rfl, hg⟩ | ⟨h1, hb⟩
  · exact ⟨⟨hg.os, hg.tape, hg.output, hg.size, fun k hk hF => hg.block k hk (fun e => hF e.symm)⟩, .inl rfl⟩
  · exact ⟨⟨hb.os, hb.tape, hb.output, hb.size, fun k hk _ => hb.block k hk⟩, .inr h1⟩
theorem wp_ran {P : Program} {o : Oper} {a : Act} {w w' : World} {K : Act → World → Prop} {Q : Exit → Act → World → Prop} (hd : o.dst = none) (h : (execOp a.eval o).run P w = .ok .skip w') (hK : K a w') : o.wp P a w K Q := by
  unfold Oper.wp
  rw [h]
  show K (a.put o.dst undef) w'
  rw [hd]
  exact hK
theorem Chain.depths {fit : Int → Int → Nat → Nat → Bool} {W : World} {B : Nat} : ∀ {r : List Lev} {l : Lev}, Chain fit W B (l :: r) → ∀ z, (l :: r).getLast? = some z → l.row.Dm + r.length ≤ z.row.Dm := by
  intro r
  induction r with
  | nil => intro l _ z hz; simp at hz; subst hz; simp
  | cons p r ih =>
    intro l h z hz
    have h1 := ih h.2.2 z (by rw [List.getLast?_cons_cons] at hz; exact hz)
    obtain ⟨k, n, bs, rest, pa, kc, e, e1, _⟩ := h.2.1.ex
    have h2 := (Chain.head h.2.2).deep
    rw [e] at h2
    simp only [Dm, e1, if_true] at h2
    simp only [List.length_cons]
    omega
theorem levelSize : (Try.prog.info? 75).map (·.size) = some 4 := by kernel_rfl
theorem cut_levels (S : Option Addr) (q sc h : Nat) (hh : h ≤ sc) (W : World) : (Instr.slice 77 (.slice S q sc) none (some (.int .i64 (h : Int))) none).run Try.prog W = .ok (.slice S h sc) W := by
  obtain ⟨i, hi, hsi⟩ := Option.map_eq_some_iff.1 levelSize
  have hht : Try.prog.underlying 77 = some (.slice (Try.prog.elem 77)) := by simp [Program.elem, Try.underlying77]
  rw [run_slice_h (P := Try.prog) W 77 S q sc hht .i64 h (by omega) (by omega)]
  have : Try.prog.elem 77 = 75 := by simp [Program.elem, Try.underlying77]
  rw [this]
  simp only [sizeOf, typeInfo]
  have ha : S.map (·.add 0) = S := by cases S <;> rfl
  simp [hi, hsi, Result.andThen, sliced, ha]
theorem treeSize : (Try.prog.info? 26).map (·.size) = some 4 := by kernel_rfl
def behind (pa : Addr) (lc : Nat) : Addr := if lc = 1 then pa else pa.add 4
theorem cut_trees (pa : Addr) (m lc : Nat) (W : World) : (Instr.slice 24 (.slice (some pa) (m + 1) lc) (some (.int .i64 1)) none none).run Try.prog W = .ok (.slice (some (behind pa lc)) m (lc - 1)) W := by
  obtain ⟨i, hi, hsi⟩ := Option.map_eq_some_iff.1 treeSize
  have hht : Try.prog.underlying 24 = some (.slice (Try.prog.elem 24)) := by simp [Program.elem, Try.underlying24]
  rw [run_slice_l (P := Try.prog) W 24 (some pa) (m + 1) lc hht .i64 1 (by omega) (by omega)]
  have : Try.prog.elem 24 = 26 := by simp [Program.elem, Try.underlying24]
  rw [this]
  simp only [sizeOf, typeInfo]
  by_cases h : lc = 1
  · simp [hi, hsi, Result.andThen, sliced, behind, h]
  · simp [hi, hsi, Result.andThen, sliced, behind, h]
theorem behind_row {W : World} {B : Nat} {pa : Addr} {rest : Forest} {lc : Nat} (h : FAt W B rest (pa.add 4)) (hc : rest.len + 1 ≤ lc) : RowAt W B (some (behind pa lc)) rest := by
  unfold behind
  by_cases e : lc = 1
  · exact .inl (by omega)
  · rw [if_neg e]
    exact .inr ⟨_, rfl, h⟩
theorem cap_le {w : World} {g n cap : Nat} {xs : List Value} {e : TypeId} {sz : Nat} (h : w.ownsRow 0 e sz (.slice (some ⟨g, 0, none⟩) (n + 1) cap) (n + 1) xs) : n ≤ cap := by
  rcases h.2 with ⟨h0, _⟩ | ⟨g', cap', cur, hv, _, _, hn, _⟩
  · cases h0
  · cases hv
    omega
theorem top_block {w : World} {v : Value} {l : Lev} {r : List Lev} (h : w.ownsRow 0 75 4 v (l :: r).length (pcells (l :: r))) : ∃ g cap, v = .slice (some ⟨g, 0, none⟩) (r.length + 1) cap := by
  rcases h.2 with ⟨_, h0⟩ | ⟨g, cap, cur, hv, _⟩
  · simp at h0
  · exact ⟨g, cap, hv⟩
/-- What depth tells. -/
def deepV (fit : Int → Int → Nat → Nat → Bool) (F : Forest) : Int := if okF fit F = true then ((1 + F.Dm : Nat) : Int) else 0
set_option maxRecDepth 100000 in
set_option maxHeartbeats 4000000 in
theorem depth_any (fit : Int → Int → Nat → Nat → Bool) (Fv : FuncId) (hE : ∀ args (W : World), (callFunc Fv args).run Try.prog W = .ok (.enter Fv args) W) (hfit : ∀ (W : World) (k n : Int) (bA : Option Addr) (bn bc : Nat) (kA : Option Addr) (kn kc : Nat), Calls Try.prog Fv #[.agg #[.int .u8 k, .int .i64 n, .slice bA bn bc, .slice kA kn kc]] W fun e w' => e = .returned (.bool (fit k n bn kn)) ∧ Below W.heap.size W w')
    (A : Option Addr) (c B : Nat) (F : Forest) (w : World) (h : RowAt w B A F) (hB : B ≤ w.heap.size) (hD : F.Dm ≤ 1000000) (hc : F.len ≤ c) :
    Calls Try.prog 26 #[.slice A F.len c, .func (.func Fv) #[] #[]] w fun e w' => e = .returned (.tuple #[.int .i64 (deepV fit F), .bool (okF fit F)]) ∧ Below w.heap.size w w' := by
  have HFIT := hide hfit
  have HR := hide h
  clear hfit h
  have hmk : ∀ W : World, (Instr.makeMap 73 none).run Try.prog W = .ok (.map (some W.heap.size)) (W.alloc (.map #[] 0)) := fun W => rfl
  go_enter Try.func26, Try.ntmps26
  go_wp2_with fail
  clear hmk
  have hb0 : Below w.heap.size w (w.alloc (.map #[] 0)) := below1 w _
  refine (placeOf_any A c B F (w.alloc (.map #[] 0)) (HR.out.below (hb0.mono hB))).mono ?_
  rintro e w1 ⟨rfl, hb1⟩
  obtain ⟨km, hkm⟩ : ∃ km, km = w.heap.size := ⟨_, rfl⟩
  have hm1 : PMap w1 B km (fun _ => none) := PMap.made (clock := 0) (by rw [hkm]; exact (hb1.block _ (by simp)).trans (World.alloc_heap_new w _))
  have hbw1 : Below w.heap.size w w1 := hb0.trans (hb1.mono hb0.size)
  have hg1 : Good w1 B (placeR A F) := row_good (HR.out.below (hbw1.mono hB))
  obtain ⟨o1, hput, hm2⟩ := hm1.put plKey Try.underlying73 (placeR A F) hg1 (by omega) (.int .i64 0)
  have HKM := hide hkm
  have hbw2 : Below w.heap.size w (ChangeMaps.setBlock w1 km o1) := hbw1.grown (setBlock_grown w1 km o1) hbw1.size (fun k e => by cases e; omega)
  obtain ⟨w2, hw2⟩ : ∃ w2, w2 = ChangeMaps.setBlock w1 km o1 := ⟨_, rfl⟩
  rw [← hw2] at hput hm2 hbw2
  rw [← hkm]
  clear hm1 hg1 hb0 hb1 hw2 hkm hbw1
  have HM2 := hide hm2
  have HB2 := hide hbw2
  clear hm2 hbw2
  generalize hp : placeR A F = p at hput
  have HP := hide hp
  clear hp
  unfold Pl.val at hput ⊢
  go_wp2_with fail
  refine (levelOf_any A c B F w2 (HR.out.below (HB2.out.mono hB)) (Nat.le_trans hB HB2.out.size)).mono ?_
  rintro e w3 ⟨rfl, hb⟩
  rw [HP.out]
  clear hput
  have HB3 := hide (HB2.out.trans (hb.mono HB2.out.size))
  have hkm3 : w3.heap[km]? = w2.heap[km]? := hb.block km HM2.out.lt
  have HM3 := hide (HM2.out.same hkm3 (fun j hj => hb.block j (Nat.lt_of_lt_of_le hj (Nat.le_trans hB HB2.out.size))))
  clear hb hkm3
  go_wp2_with fail
  obtain ⟨w4, hw4⟩ : ∃ w4, w4 = w3.alloc (.cells #[.pointer p.a, .int .i64 p.n, .slice A F.len c, .int .i64 0] 75) := ⟨_, rfl⟩
  have hstart : Deep fit w A B km F (more false [⟨A, F, A, F, c, 0⟩]) (.slice (some ⟨w3.heap.size, 0, none⟩) 1 1) w4 [⟨A, F, A, F, c, 0⟩] (setP (fun _ => none) (placeR A F) (some (.int .i64 0))) false := by
    have hb4 : Below w3.heap.size w3 w4 := by rw [hw4]; exact below1 _ _
    have hrow : RowAt w4 B A F := HR.out.below ((HB3.out.trans (hb4.mono HB3.out.size)).mono hB)
    refine ⟨rfl, ?_, HM3.out.same (hb4.block km HM3.out.lt) (fun j hj => hb4.block j (Nat.lt_of_lt_of_le hj (Nat.le_trans hB HB3.out.size))), ⟨hrow, hrow, rfl, by simp, Nat.le_refl _, hc⟩, ⟨fun l hl => ?_, fun q u hu => ?_⟩, nofun, fun l hl => ?_, nofun, HB3.out.trans (hb4.mono HB3.out.size), fun b hb => ?_, fun e => ?_, fun l hl => ?_⟩
    · rw [hw4]
      refine ⟨by simp [pcells, Lev.cells], .inr ⟨w3.heap.size, 1, #[.pointer p.a, .int .i64 p.n, .slice A F.len c, .int .i64 0], rfl, Nat.zero_le _, World.alloc_heap_new w3 _, Nat.le_refl _, by simp [maxLen], by simp, ?_⟩⟩
      rw [← HP.out]
      rfl
    · simp at hl
      subst hl
      unfold setP
      rw [if_pos (by rfl)]
    · unfold setP at hu
      by_cases e : q = placeR A F
      · rw [if_pos e] at hu
        cases hu
        exact .inl ⟨_, List.mem_singleton.2 rfl, e, rfl⟩
      · rw [if_neg e] at hu
        cases hu
    · simp at hl
      subst hl
      exact ⟨rfl, rfl⟩
    · cases hb
      exact HB3.out.size
    · have := HM3.out.lt
      simp only [Value.ownBlock, Option.some.injEq] at e
      omega
    · simp at hl
      subst hl
      exact Nat.le_refl _
  have HSTART := hide hstart
  rw [← hw4]
  clear hstart hw4 HM2 HB2 HM3
  go_loopg [7] (more false [⟨A, F, A, F, c, 0⟩]) (fun g v wr => ∃ (L : List Lev) (f : Pl → Option Value) (flag : Bool), Deep fit w A B km F g v wr L f flag)
  case atStart => exact ⟨_, _, _, HSTART.out⟩
  case round =>
    obtain ⟨L, f, flag, hd⟩ := hrel
    have HDP := hide hd
    clear hd
    cases L with
    | nil =>
      obtain ⟨Av, cv, hv, _⟩ := owns_slice HDP.out.own
      subst hv
      go_wp2_with fail
      refine (placeOf_any A c B F wr (HR.out.below (HDP.out.below.mono hB))).mono ?_
      rintro e w5 ⟨rfl, hb⟩
      obtain ⟨hdf, hdo⟩ := HDP.out.done rfl
      have hm5 : PMap w5 B km f := HDP.out.map.same (hb.block km HDP.out.map.lt) (fun j hj => hb.block j (Nat.lt_of_lt_of_le hj (Nat.le_trans hB HDP.out.below.size)))
      have hb5 := HDP.out.below.trans (hb.mono HDP.out.below.size)
      have hlook := hm5.look plKey (p := placeR A F) (row_good (HR.out.below (hb5.mono hB))) Try.underlying73 hdf false
      have HB5 := hide hb5
      have HDO := hide hdo
      clear hb hdf hdo hm5 hb5
      generalize placeR A F = pp at hlook
      unfold Pl.val at hlook ⊢
      simp only [Bool.false_eq_true, if_false] at hlook
      go_wp2_with fail
      go_ret2
      exact ⟨by simp [deepV, HDO.out], HB5.out⟩
    | cons l r =>
      obtain ⟨gp, cp, hv⟩ := top_block HDP.out.own
      subst hv
      have hq : ((r.length + 1 : Nat) : Int) - 1 = r.length := by omega
      have t0 := top_cell HDP.out.own 0 (by decide)
      have t1 := top_cell HDP.out.own 1 (by decide)
      have t2 := top_cell HDP.out.own 2 (by decide)
      have t3 := top_cell HDP.out.own 3 (by decide)
      simp only [Lev.cells, List.getElem?_cons_zero, List.getElem?_cons_succ, Nat.add_zero] at t0 t1 t2 t3
      have hdp : l.deep ≤ 1000000 := by have := HDP.out.bound.1; omega
      have hlens : r.length ≤ 1000000 := by
        obtain ⟨z, hz⟩ : ∃ z, (l :: r).getLast? = some z := ⟨_, List.getLast?_eq_some_getLast (by simp)⟩
        have h1 := HDP.out.chain.depths z hz
        rw [(HDP.out.last z hz).1] at h1
        omega
      obtain ⟨q, hqq⟩ : ∃ q, q = r.length := ⟨_, rfl⟩
      rw [← hqq] at hq t0 t1 t2 t3 hlens ⊢
      have HQ := hide hqq
      clear hqq
      cases hl : l.left with
      | nil =>
        have HL := hide hl
        rw [hl] at t2
        simp only [Forest.len] at t2
        clear hl
        go_wp2_with fail
        go_still_tail 10, (by kernel_rfl)
        change wpList _ _ _ _ _ wr.drew
        have hbd : Below w.heap.size w wr.drew := HDP.out.below.drew
        have hmd : PMap wr.drew B km f := HDP.out.map.same rfl (fun _ _ => rfl)
        have hgd : Good wr.drew B l.at_ := (row_good HDP.out.chain.head.row).kept (fun _ _ => rfl)
        obtain ⟨o2, hput2, hm6⟩ := hmd.put plKey Try.underlying73 l.at_ hgd (by have := HKM.out; omega) (.int .i64 ((1 + l.deep : Nat) : Int))
        obtain ⟨wd, hwd⟩ : ∃ wd, wd = wr.drew := ⟨_, rfl⟩
        have howd : wd.ownsRow 0 75 4 (.slice (some ⟨gp, 0, none⟩) (r.length + 1) cp) (r.length + 1) (pcells (l :: r)) := by rw [hwd]; exact HDP.out.own
        rw [← hwd] at hbd hput2 hm6 ⊢
        obtain ⟨w6, hw6⟩ : ∃ w6, w6 = ChangeMaps.setBlock wd km o2 := ⟨_, rfl⟩
        have hgr6 : wd.grownBy w6 (some km) := by rw [hw6]; exact setBlock_grown wd km o2
        rw [← hw6] at hput2 hm6
        have hapk : (Value.slice (some ⟨gp, 0, none⟩) (r.length + 1) cp).ownBlock ≠ some km := HDP.out.apart
        have HB6 := hide (hbd.grown hgr6 hbd.size (fun j e => by cases e; have := HKM.out; omega))
        have how6 : w6.ownsRow 0 75 4 (.slice (some ⟨gp, 0, none⟩) (r.length + 1) cp) (r.length + 1) (pcells (l :: r)) := howd.kept hgr6 (.inr hapk)
        have hpre := owns_prefix (n := r.length) how6 (by omega)
        rw [pcells_cons, List.take_append_of_le_length (by rw [pcells_length]; omega), ← pcells_length, List.take_length] at hpre
        have HPOP := hide (HDP.out.pop HL.out hB hpre hm6 HB6.out (fun b hb => hb))
        have e1 : (1 : Int) + l.deep = ((1 + l.deep : Nat) : Int) := by omega
        have hcut := cut_levels (some ⟨gp, 0, none⟩) (q + 1) cp q (by rw [HQ.out]; exact cap_le HDP.out.own) w6
        rw [← e1] at hput2
        clear hmd hgd hm6 howd hwd hw6 hgr6 hapk how6 hpre hbd
        unfold Pl.val at hput2
        have hwr : IntKind.i64.wrap (1 + (l.deep : Int)) = 1 + (l.deep : Int) := by rw [IntWalk.i64_in _ (by omega)]
        rw [hwr]
        clear hwr
        go_wp2_with fail
        refine wp_ran (w' := w6) rfl ?_ ?_
        · simp [execOp, go_sem, Act.eval, hput2, Result.andThen]
        clear hput2
        go_wp2_with fail
        obtain ⟨g', flag', hlt, hdd⟩ := HPOP.out
        have HLT := hide hlt
        have HDD := hide hdd
        clear hlt hdd
        go_roundg g'
        case measure => exact HLT.out
        case rel => exact ⟨r, _, flag', by rw [HQ.out]; exact HDD.out⟩
      | cons k n bs kids rest =>
        have HL := hide hl
        rw [hl] at t2
        simp only [Forest.len] at t2
        have hhl := HDP.out.chain.head.left
        rw [hl] at hhl
        clear hl
        obtain ⟨pa, epa, hfa⟩ : ∃ pa, l.lA = some pa ∧ FAt wr B (.cons k n bs kids rest) pa := by
          rcases hhl with h0 | h0
          · simp [Forest.len] at h0
          · exact h0
        clear hhl
        rw [epa] at t2
        have HPA := hide epa
        obtain ⟨⟨hpb, hpc⟩, ⟨bA, bc, kA, kc, c0, c1, c2, c3, hrb, hnb, hkr, hkc⟩, hrest⟩ := hfa
        have HC3 := hide c3
        have HKC := hide hkc
        have HPB := hide hpb
        have HKR : Hid (RowAt wr B kA kids) := hkr
        have HRE : Hid (FAt wr B rest (pa.add 4)) := hrest
        have ea : ∀ t, t ≠ 0 → pa.add t = ⟨pa.block, pa.off + t, none⟩ := fun t ht => by unfold Addr.add; rw [if_neg ht]
        rw [ea 1 (by decide)] at c1
        rw [ea 2 (by decide)] at c2
        rw [ea 3 (by decide)] at c3
        clear epa hpc hrb hnb hkr hrest ea hkc
        go_wp2_with fail
        clear c0 c1 c2 c3
        have hgp : gp < wr.heap.size := by
          have := HDP.out.own.lt gp rfl
          exact this.2
        have hkmp : km ≠ gp := fun e => HDP.out.apart (by rw [e]; rfl)
        refine (HFIT.out _ k n bA bs.length bc kA kids.len kc).mono ?_
        rintro e W2 ⟨rfl, hb2⟩
        have hbx : W2.heap[wr.heap.size]? = some (.cells #[.int .u8 k, .int .i64 n, .slice bA bs.length bc, .slice kA kids.len kc] 26 (0, 0)) := (hb2.block _ (by simp)).trans (World.alloc_heap_new _ _)
        have hbw2 : Below wr.heap.size wr W2 := below1c hb2
        have hBr : B ≤ wr.heap.size := Nat.le_trans hB HDP.out.below.size
        have HB2 := hide (HDP.out.below.trans (hbw2.mono HDP.out.below.size))
        have HOWN2 := hide (owns_kept_below HDP.out.own hbw2)
        have HMAP2 := hide (HDP.out.map.same (hbw2.block km HDP.out.map.lt) (fun j hj => hbw2.block j (Nat.lt_of_lt_of_le hj hBr)))
        have HK2 : Hid (∀ j, j < B → W2.heap[j]? = wr.heap[j]?) := fun j hj => hbw2.block j (Nat.lt_of_lt_of_le hj hBr)
        obtain ⟨D, hD'⟩ : ∃ D, D = wr.heap.size := ⟨_, rfl⟩
        have hkD : km < D := by rw [hD']; exact HDP.out.map.lt
        rw [← hD'] at hbx ⊢
        have HBX := hide hbx
        have HSZ : Hid (wr.heap.size ≤ W2.heap.size) := hbw2.size
        replace t0 := (hbw2.cell (p := ⟨gp, q * 4, none⟩) hgp).trans t0
        replace t1 := (hbw2.cell (p := ⟨gp, q * 4 + 1, none⟩) hgp).trans t1
        replace t2 := (hbw2.cell (p := ⟨gp, q * 4 + 2, none⟩) hgp).trans t2
        replace t3 := (hbw2.cell (p := ⟨gp, q * 4 + 3, none⟩) hgp).trans t3
        have d0 : W2.cell? ⟨D, 0, none⟩ = some (.int .u8 k) := (blk_cell hbx 0).trans rfl
        have d3 : W2.cell? ⟨D, 3, none⟩ = some (.slice kA kids.len kc) := (blk_cell hbx 3).trans rfl
        clear hb2 hbx hbw2 hBr hD' hgp
        cases hf : fit k n bs.length kids.len with
        | false =>
          have hno : okF fit F = false := by
            have h1 : okF fit l.row = false := by rw [HDP.out.chain.head.ok, HL.out]; simp [okF, hf]
            obtain ⟨z, hz⟩ : ∃ z, (l :: r).getLast? = some z := ⟨_, List.getLast?_eq_some_getLast (by simp)⟩
            have h2 := HDP.out.chain.ok_all h1 z (List.mem_of_getLast? hz)
            rw [(HDP.out.last z hz).1] at h2
            exact h2
          have HNO := hide hno
          clear hno hf
          go_wp2_with fail
          go_ret2
          exact ⟨by simp [deepV, HNO.out], HB2.out⟩
        | true =>
          have HF := hide hf
          clear hf
          go_upto_region 11 with fail
          go_cut [67] from 20 to 105 (fun s wx => s = .bool (listy k kids) ∧ wx = W2)
          case first =>
            by_cases hk3 : k = 3
            · have hk3b : (k == 3) = true := by simpa using hk3
              have hls : listy k kids = true := by simp [listy, hk3b]
              have HLS := hide hls
              clear hk3 hls
              go_wp2_with fail
              go_meet
              case rel => exact ⟨by rw [HLS.out], rfl⟩
            · have hk3b : (k == 3) = false := by simpa using hk3
              have hls : listy k kids = decide (0 < kids.len) := by simp [listy, hk3b]
              have HLS := hide hls
              clear hk3 hls
              by_cases hkl : 0 < kids.len
              · go_wp2_with fail
                go_meet
                case rel => exact ⟨by rw [HLS.out]; simp [hkl], rfl⟩
              · have hkl0 : kids.len = 0 := by omega
                have HK0 := hide hkl0
                rw [hkl0] at d3
                clear hkl hkl0
                go_wp2_with fail
                go_meet
                case rel => exact ⟨by rw [HLS.out, HK0.out]; simp, rfl⟩
          case rest =>
            obtain ⟨hs67, hwc⟩ := hcut
            subst hwc
            subst hs67
            cases hlk : listy k kids with
            | false =>
              have hkn : kids.len = 0 := by simp [listy] at hlk; omega
              have HKN := hide hkn
              have HLK := hide hlk
              have hcut := cut_trees pa rest.len l.lc wc
              have f2 := owns_free HOWN2.out (q * 4 + 2)
              clear hkn hlk
              go_wp2_with fail
              have hset := owns_set HOWN2.out (j := r.length * 4 + 2) (by omega) (.slice (some (behind pa l.lc)) rest.len (l.lc - 1))
              rw [pcells_set l ⟨l.A, l.row, some (behind pa l.lc), rest, l.lc - 1, l.deep⟩ r 2 _ rfl] at hset
              have hgw : w.heap.size ≤ gp := HDP.out.low gp rfl
              have hbn : Below w.heap.size w (wc.setCell ⟨gp, r.length * 4 + 2, none⟩ (.slice (some (behind pa l.lc)) rest.len (l.lc - 1))) := HB2.out.grown (grown_set wc gp _ _) HB2.out.size (fun j e => by cases e; exact hgw)
              have hmn : PMap (wc.setCell ⟨gp, r.length * 4 + 2, none⟩ (.slice (some (behind pa l.lc)) rest.len (l.lc - 1))) B km f := HMAP2.out.same ((grown_set wc gp _ _).block km HMAP2.out.lt (fun e => hkmp (by injection e))) (fun j hj => (grown_set wc gp _ _).block j (Nat.lt_of_lt_of_le hj (Nat.le_trans hB HB2.out.size)) (fun e => by injection e with e; omega))
              have hcapl := HDP.out.chain.head.cap
              rw [HL.out] at hcapl
              simp only [Forest.len] at hcapl
              obtain ⟨g', hlt, hdd⟩ := HDP.out.next (l' := ⟨l.A, l.row, some (behind pa l.lc), rest, l.lc - 1, l.deep⟩) HL.out hB rfl rfl rfl (by show rest.len ≤ l.lc - 1; omega) (behind_row HRE.out hcapl) (by rw [HLK.out]; simp) HF.out (by rw [nil_of HKN.out]; rfl) (fun _ => by
                cases hfl : flag with
                | false => rfl
                | true =>
                  obtain ⟨l2, r2, k2, n2, bs2, kids2, rest2, pa2, kA2, kc2, e, e1, e2, _⟩ := HDP.out.flags hfl
                  cases e
                  rw [HL.out] at e1
                  cases e1
                  rw [HLK.out] at e2
                  cases e2) hset hmn hbn
              have HLT := hide hlt
              have HDD := hide hdd
              clear hset hgw hbn hmn hcapl hlt hdd
              go_roundg g'
              case measure => exact HLT.out
              case rel => exact ⟨_, f, false, by rw [HQ.out]; exact HDD.out⟩
            | true =>
              have HLK := hide hlk
              clear hlk
              go_wp2_with fail
              refine (placeOf_any kA kc B kids wc (HKR.out.kept HK2.out)).mono ?_
              rintro e W3 ⟨rfl, hb3⟩
              obtain ⟨pk, hpk⟩ : ∃ pk, pk = placeR kA kids := ⟨_, rfl⟩
              rw [← hpk]
              obtain ⟨W4, hW4⟩ : ∃ W4, W4 = W3.alloc (.cells #[.pointer pk.a, .int .i64 pk.n] 71) := ⟨_, rfl⟩
              have hb4 : Below wc.heap.size wc W4 := by rw [hW4]; exact hb3.trans ((below1 W3 _).mono hb3.size)
              have hx4 : W4.heap[W3.heap.size]? = some (.cells #[.pointer pk.a, .int .i64 pk.n] 71 (0, 0)) := by rw [hW4]; exact World.alloc_heap_new _ _
              have HW4 := hide hW4
              have hgw : gp < wc.heap.size := (HOWN2.out.lt gp rfl).2
              have hBw : B ≤ wc.heap.size := Nat.le_trans hB HB2.out.size
              have HB4 := hide (HB2.out.trans (hb4.mono HB2.out.size))
              have HOWN4 := hide (owns_kept_below HOWN2.out hb4)
              have HMAP4 := hide (HMAP2.out.same (hb4.block km HMAP2.out.lt) (fun j hj => hb4.block j (Nat.lt_of_lt_of_le hj hBw)))
              have HK4 : Hid (∀ j, j < B → W4.heap[j]? = wr.heap[j]?) := fun j hj => (hb4.block j (Nat.lt_of_lt_of_le hj hBw)).trans (HK2.out j hj)
              have HX4 := hide hx4
              have HBX4 := hide ((hb4.block D (at_lt HBX.out)).trans HBX.out)
              have HGOOD : Hid (Good W4 B pk) := by rw [hpk]; exact row_good (HKR.out.kept HK4.out)
              replace t0 := (hb4.cell (p := ⟨gp, q * 4, none⟩) hgw).trans t0
              replace t1 := (hb4.cell (p := ⟨gp, q * 4 + 1, none⟩) hgw).trans t1
              replace t2 := (hb4.cell (p := ⟨gp, q * 4 + 2, none⟩) hgw).trans t2
              replace t3 := (hb4.cell (p := ⟨gp, q * 4 + 3, none⟩) hgw).trans t3
              replace d0 := (hb4.cell (p := ⟨D, 0, none⟩) (at_lt HBX.out)).trans d0
              replace d3 := (hb4.cell (p := ⟨D, 3, none⟩) (at_lt HBX.out)).trans d3
              have x0 := (blk_cell HX4.out 0).trans rfl
              have x1 := (blk_cell HX4.out 1).trans rfl
              have HPK := hide hpk
              clear hb3 hb4 hx4 hgw hBw hW4 hpk
              unfold Pl.val
              have d3w : wc.cell? ⟨D, 3, none⟩ = some (.slice kA kids.len kc) := (blk_cell HBX.out 3).trans rfl
              go_upto_region 13 with fail
              rw [show W3.alloc (.cells #[.pointer pk.a, .int .i64 pk.n] 71) = W4 from HW4.out.symm]
              clear d3w
              cases hlook : f pk with
              | none =>
                have hlk := HMAP4.out.look_none plKey HGOOD.out Try.underlying73 hlook (zero3 W4)
                have HNONE := hide hlook
                clear hlook
                obtain ⟨o5, hput, hm5⟩ := HMAP4.out.put plKey Try.underlying73 pk HGOOD.out (by have := HKM.out; omega) (.int .i64 0)
                unfold Pl.val at hlk hput
                obtain ⟨W5, hW5⟩ : ∃ W5, W5 = ChangeMaps.setBlock W4 km o5 := ⟨_, rfl⟩
                have hgr5 : W4.grownBy W5 (some km) := by rw [hW5]; exact setBlock_grown W4 km o5
                rw [← hW5] at hput hm5
                have hkw : w.heap.size ≤ km := by rw [HKM.out]; exact Nat.le_refl _
                have hb5 : Below w.heap.size w W5 := HB4.out.grown hgr5 HB4.out.size (fun j e => by cases e; exact hkw)
                have hk5 : ∀ j, j < B → W5.heap[j]? = wr.heap[j]? := HDP.out.same hB hb5
                have ho5 : W5.ownsRow 0 75 4 (.slice (some ⟨gp, 0, none⟩) (r.length + 1) cp) (r.length + 1) (pcells (l :: r)) := HOWN4.out.kept hgr5 (.inr HDP.out.apart)
                have d3v : W5.cell? ⟨D, 3, none⟩ = some (.slice kA kids.len kc) := (blk_cell ((hgr5.block D (at_lt HBX4.out) (fun e => by cases e; omega)).trans HBX4.out) 3).trans rfl
                have HB5 := hide hb5
                have HM5 := hide hm5
                have HO5 := hide ho5
                have HK5 := hide hk5
                clear hW5 hgr5 hb5 hm5 ho5 hk5 d3 d0
                go_wp2_with fail
                refine (levelOf_any kA kc B kids W5 (HKR.out.kept HK5.out) (Nat.le_trans hB HB5.out.size)).mono ?_
                rintro e W6 ⟨rfl, hb6⟩
                rw [← HPK.out]
                have HB6 := hide (HB5.out.trans (hb6.mono HB5.out.size))
                have HM6 := hide (HM5.out.same (hb6.block km HM5.out.lt) (fun j hj => hb6.block j (Nat.lt_of_lt_of_le hj (Nat.le_trans hB HB5.out.size))))
                have ho6 : W6.ownsRow 0 75 4 (.slice (some ⟨gp, 0, none⟩) (q + 1) cp) (q + 1) (pcells (l :: r)) := by rw [HQ.out]; exact owns_kept_below HO5.out hb6
                have HO6 := hide ho6
                clear hb6 ho6 hput hlk d3v
                obtain ⟨i75, hi75, hz0, hz1, hz2⟩ := info_parts levelInfo
                have HI := hide hi75
                have HZ := hide (And.intro hz0 (And.intro hz1 hz2))
                clear hi75 hz0 hz1 hz2
                go_wp2_with (at_builtin; refine stop_here ?_)
                show Hid _
                refine start_here ?_
                refine wpList_append_two _ rfl (.tmp 81) (.tmp 85) 77 rfl 75 i75 _ 4 48 Try.underlying77 HI.out HZ.out.1 HZ.out.2.1 HZ.out.2.2 rfl (by decide) _ (q + 1) (pcells (l :: r)) rfl (HO6.out.alloc _) ⟨W6.heap.size, 0, none⟩ 1 1 [.pointer pk.a, .int .i64 pk.n, .slice kA kids.len kc, .int .i64 0] rfl rfl (cells_new W6 _ 75) (by intro u hu; simp at hu; rcases hu with rfl | rfl | rfl | rfl <;> rfl) (by decide) (by simp only [maxLen]; omega) (by omega) ?_
                intro v' W7 hgw7
                obtain ⟨hkept, hown7⟩ := grown2_kept hgw7
                obtain ⟨A7, c7, hv7, _⟩ := owns_slice hgw7.1
                subst hv7
                have hgp6 : gp < W6.heap.size := (HO6.out.lt gp rfl).2
                have hb7 : Below w.heap.size w W7 := (HB6.out.alloc HB6.out.size _).trans (hkept.to_below (fun j hj e => by cases e; exact Nat.lt_irrefl _ (Nat.lt_of_lt_of_le hj (HDP.out.low gp rfl))) (HB6.out.alloc HB6.out.size _).size)
                have hm7 : PMap W7 B km (setP f pk (some (.int .i64 0))) := HM6.out.same ((hkept.block km (by have := HM6.out.lt; simp; omega) (fun e => HDP.out.apart e)).trans ((below1 W6 _).block km HM6.out.lt)) (fun j hj => (hb7.block j (by omega)).trans (HB6.out.block j (by omega)).symm)
                have ho7 : W7.ownsRow 0 75 4 (.slice A7 (q + 1 + 1) c7) (r.length + 2) (pcells (⟨kA, kids, kA, kids, kc, 0⟩ :: l :: r)) := by
                  have := hgw7.1
                  rw [show r.length + 2 = q + 1 + 1 by have := HQ.out; omega, pcells_cons]
                  rw [show Lev.cells ⟨kA, kids, kA, kids, kc, 0⟩ = [.pointer pk.a, .int .i64 pk.n, .slice kA kids.len kc, .int .i64 0] by rw [HPK.out]; rfl]
                  exact this
                rw [HPK.out] at hm7
                obtain ⟨g', hlt, hdd⟩ := HDP.out.push HL.out hB HLK.out HF.out HPA.out HC3.out HKR.out HKC.out (by rw [← HPK.out]; exact HNONE.out) ho7 hm7 hb7 (fun b hb => by
                  rcases hown7 with e | e
                  · exact HDP.out.low b (e ▸ hb)
                  · rw [e] at hb; injection hb with hb; have := HB6.out.size; simp at hb; omega) (fun e' => by
                  rcases hown7 with e | e
                  · exact HDP.out.apart (e ▸ e')
                  · rw [e] at e'; injection e' with e'; have := HM6.out.lt; simp at e'; omega)
                have HLT := hide hlt
                have HDD := hide hdd
                clear hgw7 hkept hown7 hgp6 hb7 hm7 ho7 hlt hdd
                go_wp2_with fail
                go_roundg g'
                case measure => exact HLT.out
                case rel => exact ⟨_, _, false, HDD.out⟩
              | some v =>
                have hv : v = .int .i64 ((1 + kids.Dm : Nat) : Int) ∧ okF fit kids = true := by
                  rcases HDP.out.known.off pk v hlook with ⟨l2, hl2, e1, e2⟩ | ⟨A2, G, h1, h2, h3, h4⟩
                  · exfalso
                    have hrow2 : RowAt wr B l2.A l2.row := by
                      have : ∀ {M : List Lev}, Chain fit wr B M → ∀ z ∈ M, RowAt wr B z.A z.row := by
                        intro M
                        induction M with
                        | nil => intro _ z hz; cases hz
                        | cons m M ih =>
                          intro hc z hz
                          rcases List.mem_cons.1 hz with rfl | hz
                          · exact hc.head.row
                          · exact ih hc.tail z hz
                      exact this HDP.out.chain l2 hl2
                    have e3 : kids = l2.row := row_same HKR.out hrow2 (by rw [← HPK.out]; exact e1)
                    have h5 : kids.size < l.left.size := by rw [HL.out]; simp [Forest.size]; omega
                    have h6 := HDP.out.chain.head.size
                    rcases List.mem_cons.1 hl2 with rfl | hl2
                    · rw [← e3] at h6; omega
                    · have h7 := HDP.out.chain.sizes l2 hl2
                      rw [← e3] at h7; omega
                  · have e3 : kids = G := row_same HKR.out h1 (by rw [← HPK.out]; exact h2)
                    rw [e3]
                    exact ⟨h4, h3⟩
                have hlk := HMAP4.out.look plKey HGOOD.out Try.underlying73 (by rw [hlook, hv.1]) true
                have HOKK := hide hv.2
                have hdk : kids.Dm ≤ 1000000 := by
                  have h1 := HDP.out.bound.2
                  rw [HL.out] at h1
                  simp only [Dm, HLK.out, if_true] at h1
                  omega
                clear hv hlook
                obtain ⟨dk, hdk'⟩ : ∃ dk, dk = 1 + kids.Dm := ⟨_, rfl⟩
                rw [← hdk'] at hlk
                have HDK := hide hdk'
                have hdk0 : ((dk : Int) == 0) = false := by simp; omega
                have hdkb : dk ≤ 1000001 := by omega
                clear hdk hdk'
                unfold Pl.val at hlk
                simp only [if_true] at hlk
                have hcut := fun W => cut_trees pa rest.len l.lc W
                have f3 := owns_free HOWN4.out (q * 4 + 3)
                have f2 := owns_free HOWN4.out (q * 4 + 2)
                by_cases hmx : l.deep < dk
                · have hmi : (l.deep : Int) < dk := by omega
                  go_wp2_with fail
                  have hgw : w.heap.size ≤ gp := HDP.out.low gp rfl
                  have hset1 := owns_set HOWN4.out (j := r.length * 4 + 3) (by omega) (.int .i64 (dk : Nat))
                  rw [pcells_set l ⟨l.A, l.row, l.lA, l.left, l.lc, dk⟩ r 3 _ rfl] at hset1
                  have hset2 := owns_set hset1 (j := r.length * 4 + 2) (by omega) (.slice (some (behind pa l.lc)) rest.len (l.lc - 1))
                  rw [pcells_set ⟨l.A, l.row, l.lA, l.left, l.lc, dk⟩ ⟨l.A, l.row, some (behind pa l.lc), rest, l.lc - 1, dk⟩ r 2 _ rfl] at hset2
                  have hbn := (HB4.out.grown (grown_set W4 gp (r.length * 4 + 3) (.int .i64 (dk : Nat))) HB4.out.size (fun j e => by cases e; exact hgw))
                  have hbn2 := hbn.grown (grown_set _ gp (r.length * 4 + 2) (.slice (some (behind pa l.lc)) rest.len (l.lc - 1))) hbn.size (fun j e => by cases e; exact hgw)
                  have hmn := HMAP4.out.same ((grown_set W4 gp (r.length * 4 + 3) (.int .i64 (dk : Nat))).block km HMAP4.out.lt (fun e => hkmp (by injection e))) (fun j hj => (hbn.block j (Nat.lt_of_lt_of_le hj hB)).trans (HB4.out.block j (Nat.lt_of_lt_of_le hj hB)).symm)
                  have hmn2 := hmn.same ((grown_set _ gp (r.length * 4 + 2) (.slice (some (behind pa l.lc)) rest.len (l.lc - 1))).block km hmn.lt (fun e => hkmp (by injection e))) (fun j hj => (hbn2.block j (Nat.lt_of_lt_of_le hj hB)).trans (hbn.block j (Nat.lt_of_lt_of_le hj hB)).symm)
                  have hcapl := HDP.out.chain.head.cap
                  rw [HL.out] at hcapl
                  simp only [Forest.len] at hcapl
                  obtain ⟨g', hlt, hdd⟩ := HDP.out.next (l' := ⟨l.A, l.row, some (behind pa l.lc), rest, l.lc - 1, dk⟩) HL.out hB rfl rfl rfl (by show rest.len ≤ l.lc - 1; omega) (behind_row HRE.out hcapl) (by rw [HLK.out, if_pos rfl, ← HDK.out]; show dk = max l.deep dk; omega) HF.out HOKK.out (fun e => by rw [HLK.out] at e; cases e) hset2 hmn2 hbn2
                  have HLT := hide hlt
                  have HDD := hide hdd
                  clear hset1 hset2 hgw hbn hbn2 hmn hmn2 hcapl hlt hdd
                  go_roundg g'
                  case measure => exact HLT.out
                  case rel => exact ⟨_, f, false, by rw [HQ.out]; exact HDD.out⟩
                · have hmi : ¬ (l.deep : Int) < dk := by omega
                  go_wp2_with fail
                  have hgw : w.heap.size ≤ gp := HDP.out.low gp rfl
                  have hset1 := owns_set HOWN4.out (j := r.length * 4 + 3) (by omega) (.int .i64 (l.deep : Nat))
                  rw [pcells_set l ⟨l.A, l.row, l.lA, l.left, l.lc, l.deep⟩ r 3 _ rfl] at hset1
                  have hset2 := owns_set hset1 (j := r.length * 4 + 2) (by omega) (.slice (some (behind pa l.lc)) rest.len (l.lc - 1))
                  rw [pcells_set ⟨l.A, l.row, l.lA, l.left, l.lc, l.deep⟩ ⟨l.A, l.row, some (behind pa l.lc), rest, l.lc - 1, l.deep⟩ r 2 _ rfl] at hset2
                  have hbn := (HB4.out.grown (grown_set W4 gp (r.length * 4 + 3) (.int .i64 (l.deep : Nat))) HB4.out.size (fun j e => by cases e; exact hgw))
                  have hbn2 := hbn.grown (grown_set _ gp (r.length * 4 + 2) (.slice (some (behind pa l.lc)) rest.len (l.lc - 1))) hbn.size (fun j e => by cases e; exact hgw)
                  have hmn := HMAP4.out.same ((grown_set W4 gp (r.length * 4 + 3) (.int .i64 (l.deep : Nat))).block km HMAP4.out.lt (fun e => hkmp (by injection e))) (fun j hj => (hbn.block j (Nat.lt_of_lt_of_le hj hB)).trans (HB4.out.block j (Nat.lt_of_lt_of_le hj hB)).symm)
                  have hmn2 := hmn.same ((grown_set _ gp (r.length * 4 + 2) (.slice (some (behind pa l.lc)) rest.len (l.lc - 1))).block km hmn.lt (fun e => hkmp (by injection e))) (fun j hj => (hbn2.block j (Nat.lt_of_lt_of_le hj hB)).trans (hbn.block j (Nat.lt_of_lt_of_le hj hB)).symm)
                  have hcapl := HDP.out.chain.head.cap
                  rw [HL.out] at hcapl
                  simp only [Forest.len] at hcapl
                  obtain ⟨g', hlt, hdd⟩ := HDP.out.next (l' := ⟨l.A, l.row, some (behind pa l.lc), rest, l.lc - 1, l.deep⟩) HL.out hB rfl rfl rfl (by show rest.len ≤ l.lc - 1; omega) (behind_row HRE.out hcapl) (by rw [HLK.out, if_pos rfl, ← HDK.out]; show l.deep = max l.deep dk; omega) HF.out HOKK.out (fun e => by rw [HLK.out] at e; cases e) hset2 hmn2 hbn2
                  have HLT := hide hlt
                  have HDD := hide hdd
                  clear hset1 hset2 hgw hbn hbn2 hmn hmn2 hcapl hlt hdd
                  go_roundg g'
                  case measure => exact HLT.out
                  case rel => exact ⟨_, f, false, by rw [HQ.out]; exact HDD.out⟩
end Go.Proofs.Ytolmjnoaiiodlaa
