/-
  New maps, of an array, a queue, a ring: mapOf.
-/
import Derived.Test.YtgancfllpmgciaaGreatM7c
import Derived.Test.YtgancfllpmgciaaGreatM6
import Derived.Test.YtgancfllpmgciaaGreatKI4
import Derived.Laws.EntriesVeiled
namespace Go.Proofs.YtgancfllpmgciaaGreat
open Go.RowKit Go.Maps
set_option linter.unusedVariables false
set_option linter.unusedSimpArgs false

/-- A new map: somewhere. -/
def SomeP (w : World) (e : Ending) (w' : World) : Prop := ∃ p : Addr, e = .returned (.tuple #[.pointer (some p), .int .i64 0]) ∧ Below w.heap.size w w'
set_option maxRecDepth 100000 in
set_option maxHeartbeats 1000000 in
theorem arrIn_yes (n sz : Nat) (Bp : Nat) (w : World) (hbox : w.heap[Bp]? = some (.cells #[.int .u8 1, .int .i64 4, .int .i64 sz, .int .i64 n] 24 (0, 0))) (hsp : specM 1 4 sz n = 0) (hs : 1 ≤ sz ∧ sz ≤ 1024) (hn : 1 ≤ n ∧ n ≤ 1024) :
    Calls Tryz.prog 48 #[.pointer (some ⟨Bp, 0, none⟩)] w fun e w' => ∃ b : Nat, e = .returned (.pointer (some ⟨b, 0, none⟩)) ∧ Below w.heap.size w w' := by
  have HS0 := spec_any 1 4 sz n w (by decide)
  rw [hsp] at HS0
  have HS := hide HS0
  have HX := hide hbox
  have c0 := blk_cell hbox 0
  have c1 := blk_cell hbox 1
  have c2 := blk_cell hbox 2
  have c3 := blk_cell hbox 3
  simp at c0 c1 c2 c3
  clear hbox hsp HS0
  go_enter Tryz.func48, Tryz.ntmps48
  go_wp2_with (first
    | (go_at_call 22; refine HS.out.mono ?_; rintro e w1 ⟨rfl, hb⟩; have HB := hide hb; have d0 := (hb.cell (p := ⟨Bp, 0, none⟩) (at_lt HX.out)).trans c0; have d2 := (hb.cell (p := ⟨Bp, 2, none⟩) (at_lt HX.out)).trans c2; have d3 := (hb.cell (p := ⟨Bp, 3, none⟩) (at_lt HX.out)).trans c3; clear hb)
    | (go_at_call 49; ((with_reducible refine (demand_yes _ _).mono ?_)); rintro e w' ⟨rfl, rfl⟩)
    | (go_at_call 50; refine (rowsOf_any n sz hn hs _).mono ?_; rintro e w2 ⟨c, s, rfl, h1, h2, h3, h4, h5, h6⟩; have H6 := hide h6; clear h1 h2 h3 h4 h5 h6))
  have g4 := HB.out.size
  have g6 := H6.out.size
  have hfin := (HB.out.trans (H6.out.mono g4)).alloc (by omega) (.cells #[.pointer (some ⟨w2.heap.size, 0, none⟩), .int .i64 sz, .slice (some ⟨c, 0, none⟩) n n] 137)
  go_ret
  exact ⟨_, rfl, hfin⟩
theorem arr_yes (n sz : Nat) (w : World) (hsp : specM 1 4 sz n = 0) (hs : 1 ≤ sz ∧ sz ≤ 1024) (hn : 1 ≤ n ∧ n ≤ 1024) :
    Calls Tryz.prog 35 #[.agg #[.int .u8 1, .int .i64 4, .int .i64 sz, .int .i64 n]] w (SomeP w) := by
  have hmf : ∀ (fn : Fn) (first cap : Array Value) (w : World), (Instr.makeFunc fn first cap).run Tryz.prog w = .ok (.func fn first cap) w := fun _ _ _ _ => rfl
  have hF : ∀ (args : Array Value) (W : World), (callFunc 48 args).run Tryz.prog W = .ok (.enter 48 args) W := enters_of Tryz.func48 (by kernel_rfl) rfl
  have hx := World.alloc_heap_new w (.cells #[.int .u8 1, .int .i64 4, .int .i64 sz, .int .i64 n] 24)
  have HC := hide (caughtPtr_ok 48 #[.pointer (some ⟨w.heap.size, 0, none⟩)] (w.alloc (.cells #[.int .u8 1, .int .i64 4, .int .i64 sz, .int .i64 n] 24))
    (fun x w' => ∃ b : Nat, x = some ⟨b, 0, none⟩) hF (fun W hb hz => (arrIn_yes n sz _ W ((hb.block _ (at_lt hx)).trans hx) hsp hs hn).mono (by
      rintro e w' ⟨b, rfl, hb2⟩
      exact ⟨_, rfl, hb2, b, rfl⟩)))
  clear hx hsp hF
  go_enter Tryz.func35, Tryz.ntmps35
  go_wp2_with (go_at_call 47; refine HC.out.mono ?_; rintro e w1 ⟨x, rfl, hb, w0, ⟨b, rfl⟩, hnr⟩; have HB := hide hb; clear hb hnr)
  go_ret2
  exact ⟨_, rfl, (below1 w _).trans (HB.out.mono (by simp))⟩
theorem specM_que {sz n : Nat} (hs : 1 ≤ sz ∧ sz ≤ 1024) (hn : 1 ≤ n ∧ n ≤ 1024) : specM 5 0 sz n = 0 := by
  have h : (inI 0 0 0 && inI 1 1024 (sz : Int) && inI 1 1024 (n : Int)) = true := by simp [inI]; omega
  unfold specM
  rw [show ptM 5 = some ⟨0, 0, 1, 1024, 1, 1024⟩ from rfl]
  show (if (inI 0 0 0 && inI 1 1024 (sz : Int) && inI 1 1024 (n : Int)) = true then (0 : Int) else 2) = 0
  rw [if_pos h]
set_option maxRecDepth 100000 in
set_option maxHeartbeats 1000000 in
theorem que_yes (sz n : Nat) (w : World) (hs : 1 ≤ sz ∧ sz ≤ 1024) (hn : 1 ≤ n ∧ n ≤ 1024) :
    Calls Tryz.prog 39 #[.agg #[.int .u8 5, .int .i64 0, .int .i64 sz, .int .i64 n]] w (SomeP w) := by
  have hb1 := below1 w (.cells #[.int .u8 5, .int .i64 0, .int .i64 sz, .int .i64 n] 24)
  have hx := World.alloc_heap_new w (.cells #[.int .u8 5, .int .i64 0, .int .i64 sz, .int .i64 n] 24)
  have HS0 := spec_any 5 0 sz n (w.alloc (.cells #[.int .u8 5, .int .i64 0, .int .i64 sz, .int .i64 n] 24)) (by decide)
  rw [specM_que hs hn] at HS0
  have HS := hide HS0
  have HX := hide hx
  have HB1 := hide hb1
  clear hx hb1 HS0
  go_enter Tryz.func39, Tryz.ntmps39
  go_wp2_with (go_at_call 22; refine HS.out.mono ?_; rintro e w1 ⟨rfl, hb⟩; have HB := hide (HB1.out.trans (hb.mono HB1.out.size)); have hxx := (hb.block _ (at_lt HX.out)).trans HX.out; have d0 := (blk_cell hxx 0); have d2 : w1.cell? ⟨w.heap.size, 2, none⟩ = some (.int .i64 sz) := (blk_cell hxx 2).trans rfl; have d3 : w1.cell? ⟨w.heap.size, 3, none⟩ = some (.int .i64 n) := (blk_cell hxx 3).trans rfl; simp at d0; have hlt : w.heap.size < w1.heap.size := at_lt hxx; clear hb hxx)
  go_ret2
  exact ⟨_, rfl, HB.out.alloc HB.out.size _⟩
theorem specM_ring {n : Nat} (hn : 16 ≤ n ∧ n ≤ 16384) : specM 7 0 0 n = 0 := by
  have h : (inI 0 0 0 && inI 0 0 (0 : Int) && inI 16 16384 (n : Int)) = true := by simp [inI]; omega
  unfold specM
  rw [show ptM 7 = some ⟨0, 0, 0, 0, 16, 16384⟩ from rfl]
  show (if (inI 0 0 0 && inI 0 0 (0 : Int) && inI 16 16384 (n : Int)) = true then (0 : Int) else 2) = 0
  rw [if_pos h]
theorem beside_any (w : World) : Calls Tryz.prog 61 #[.int .i64 8] w fun e w' => e = .returned (.func (.func 71) #[] #[.pointer (some ⟨w.heap.size, 0, none⟩)]) ∧ w' = w.alloc (.cells #[.int .i64 8] 3) := by
  have hmf : ∀ (fn : Fn) (first cap : Array Value) (w : World), (Instr.makeFunc fn first cap).run Tryz.prog w = .ok (.func fn first cap) w := fun _ _ _ _ => rfl
  go_enter Tryz.func61, Tryz.ntmps61
  go_wp2
  go_ret
  exact ⟨rfl, rfl⟩
set_option maxRecDepth 100000 in
theorem linksOf_any (k : Nat) (w : World) : Calls Tryz.prog 60 #[.func (.func 71) #[] #[.pointer (some ⟨k, 0, none⟩)]] w fun e w' => e = .returned (.agg #[.pointer none, .pointer none, .func (.func 71) #[] #[.pointer (some ⟨k, 0, none⟩)]]) ∧ Below w.heap.size w w' := by
  have hb := below1 w (.cells #[.pointer none, .pointer none, .func (.func 71) #[] #[.pointer (some ⟨k, 0, none⟩)]] 180)
  go_enter Tryz.func60, Tryz.ntmps60
  go_wp2
  refine bodyPost_ret (v := .agg #[.pointer none, .pointer none, .func (.func 71) #[] #[.pointer (some ⟨k, 0, none⟩)]]) ?_ rfl ⟨rfl, hb⟩
  simp [results, Tryz.results60, go_sem]
section
variable {P : Program} {ops : Array Oper} {o : Oper} {a : Act} {K : Act → World → Prop} {Q : Exit → Act → World → Prop} {E : Prop}
/-- A call, as a step of a region that draws. -/
theorem step_enter {w : World} (hgd : o.guard = none) {f : FuncId} {args : Array Value} {R : Value → World → Prop} (hrun : (execOp a.eval o).run P w = .ok (.enter f args) w) (hc : Calls P f args w fun e w' => ∃ v, e = .returned v ∧ R v w')
    (h : ∀ v w', R v w' → K (a.put o.dst v) w') : if Region.wanted o (yielded ops a.tmps) = true then Oper.wp P o a w K Q else E := by
  have hw : Region.wanted o (yielded ops a.tmps) = true := by simp [Region.wanted, hgd]
  rw [if_pos hw]
  unfold Oper.wp
  rw [hrun, Oper.upon_enter]
  refine hc.mono ?_
  rintro e w' ⟨v, rfl, hR⟩
  exact h v w' hR
end
set_option maxRecDepth 100000 in
set_option maxHeartbeats 1000000 in
theorem rng_yes (sz : Nat) (w : World) (hs : 16 ≤ sz ∧ sz ≤ 16384) :
    Calls Tryz.prog 40 #[.agg #[.int .u8 7, .int .i64 0, .int .i64 0, .int .i64 sz]] w (SomeP w) := by
  have hb1 := below1 w (.cells #[.int .u8 7, .int .i64 0, .int .i64 0, .int .i64 sz] 24)
  have hx := World.alloc_heap_new w (.cells #[.int .u8 7, .int .i64 0, .int .i64 0, .int .i64 sz] 24)
  have HS0 := spec_any 7 0 0 sz (w.alloc (.cells #[.int .u8 7, .int .i64 0, .int .i64 0, .int .i64 sz] 24)) (by decide)
  rw [specM_ring hs] at HS0
  have HS := hide HS0
  have HX := hide hx
  have HB1 := hide hb1
  have hE1 : ∀ args (W : World), (callFunc 61 args).run Tryz.prog W = .ok (.enter 61 args) W := enters_of Tryz.func61 (by kernel_rfl) rfl
  have hE2 : ∀ args (W : World), (callFunc 60 args).run Tryz.prog W = .ok (.enter 60 args) W := enters_of Tryz.func60 (by kernel_rfl) rfl
  clear hx hb1 HS0
  go_enter Tryz.func40, Tryz.ntmps40
  go_wp2_with (go_at_call 22; refine HS.out.mono ?_; rintro e w1 ⟨rfl, hb⟩; have HB := hide (HB1.out.trans (hb.mono HB1.out.size)); have hxx := (hb.block _ (at_lt HX.out)).trans HX.out; have d0 : w1.cell? ⟨w.heap.size, 0, none⟩ = some (.int .u8 7) := (blk_cell hxx 0).trans rfl; have HXX := hide hxx; clear hb hxx)
  have hd := HB.out.drew
  have HC : Hid (∀ W, Below w1.heap.size w1 W → W.cell? ⟨w.heap.size, 3, none⟩ = some (.int .i64 sz)) := hide (fun W hb => by
    have := (hb.block _ (at_lt HXX.out)).trans HXX.out
    rw [blk_cell this]
    rfl)
  have b0 : Below w1.heap.size w1 w1.drew := (Below.refl _ _).drew
  have b1 : Below w1.heap.size w1 (w1.drew.alloc (.cells #[.int .i64 8] 3)) := b0.trans (below1 w1.drew _)
  have x0 := HC.out _ b0
  have x1 := HC.out _ b1
  have x2 := HC.out _ (below1 w1 (.cells #[.int .i64 8] 3))
  have hbx : (w1.drew.alloc (.cells #[.int .i64 8] 3)).heap[w1.heap.size]? = some (.cells #[.int .i64 8] 3 (0, 0)) := World.alloc_heap_new w1.drew _
  have HL := hide (linksOf_any w1.heap.size (w1.drew.alloc (.cells #[.int .i64 8] 3)))
  have HN : Hid (∀ W, Below (w1.drew.alloc (.cells #[.int .i64 8] 3)).heap.size (w1.drew.alloc (.cells #[.int .i64 8] 3)) W → W.cell? ⟨w.heap.size, 3, none⟩ = some (.int .i64 sz) ∧ Hid (Below w.heap.size w W)) := hide (fun W hW => ⟨HC.out W (b1.trans (hW.mono b1.size)), hide ((HB.out.trans (b1.mono HB.out.size)).trans (hW.mono (Nat.le_trans HB.out.size b1.size)))⟩)
  have HBT := hide (beside_any w1.drew)
  clear b0 b1 hbx hd
  go_region_law (first
    | (refine step_enter (f := 61) (args := #[.int .i64 8]) (R := fun v w2 => v = .func (.func 71) #[] #[.pointer (some ⟨w1.heap.size, 0, none⟩)] ∧ w2 = w1.drew.alloc (.cells #[.int .i64 8] 3)) (by rfl) (by simp [go_sem, hE1]) (HBT.out.mono (fun e w' hh => ⟨_, hh.1, rfl, hh.2⟩)) ?_; rintro v w2 ⟨rfl, rfl⟩)
    | (refine step_enter (f := 60) (args := #[.func (.func 71) #[] #[.pointer (some ⟨w1.heap.size, 0, none⟩)]]) (R := fun v w2 => v = .agg #[.pointer none, .pointer none, .func (.func 71) #[] #[.pointer (some ⟨w1.heap.size, 0, none⟩)]] ∧ Below (w1.drew.alloc (.cells #[.int .i64 8] 3)).heap.size (w1.drew.alloc (.cells #[.int .i64 8] 3)) w2) (by rfl) (by simp [go_sem, hE2]) (HL.out.mono (fun e w' hh => ⟨_, hh.1, rfl, hh.2⟩)) ?_; rintro v w2 ⟨rfl, h2⟩; obtain ⟨k1, k4⟩ := HN.out w2 h2; clear h2))
  all_goals
    go_wp2_with fail
    go_ret2
    exact ⟨_, rfl, k4.out.alloc k4.out.size _⟩
set_option maxRecDepth 100000 in
set_option maxHeartbeats 1000000 in
theorem map_arr (n sz : Nat) (w : World) (hsp : specM 1 4 sz n = 0) (hs : 1 ≤ sz ∧ sz ≤ 1024) (hn : 1 ≤ n ∧ n ≤ 1024) :
    Calls Tryz.prog 24 #[.agg #[.int .u8 1, .int .i64 4, .int .i64 sz, .int .i64 n]] w fun e w' => ∃ p : Addr, e = .returned (.tuple #[.iface 97 (.pointer (some p)), .int .i64 0]) ∧ Below w.heap.size w w' := by
  have hb1 := below1 w (.cells #[.int .u8 1, .int .i64 4, .int .i64 sz, .int .i64 n] 24)
  have HB1 := hide hb1
  have HN := hide (arr_yes n sz (w.alloc (.cells #[.int .u8 1, .int .i64 4, .int .i64 sz, .int .i64 n] 24)) hsp hs hn)
  clear hb1
  go_enter Tryz.func24, Tryz.ntmps24
  go_wp2_with (go_at_call 35; refine HN.out.mono ?_; rintro e w1 ⟨p, rfl, hb⟩; have HB := hide hb; clear hb)
  go_ret2
  exact ⟨p, rfl, HB1.out.trans (HB.out.mono HB1.out.size)⟩
set_option maxRecDepth 100000 in
set_option maxHeartbeats 1000000 in
theorem map_que (sz n : Nat) (w : World) (hs : 1 ≤ sz ∧ sz ≤ 1024) (hn : 1 ≤ n ∧ n ≤ 1024) :
    Calls Tryz.prog 24 #[.agg #[.int .u8 5, .int .i64 0, .int .i64 sz, .int .i64 n]] w fun e w' => ∃ p : Addr, e = .returned (.tuple #[.iface 109 (.pointer (some p)), .int .i64 0]) ∧ Below w.heap.size w w' := by
  have hb1 := below1 w (.cells #[.int .u8 5, .int .i64 0, .int .i64 sz, .int .i64 n] 24)
  have HB1 := hide hb1
  have HN := hide (que_yes sz n (w.alloc (.cells #[.int .u8 5, .int .i64 0, .int .i64 sz, .int .i64 n] 24)) hs hn)
  clear hb1
  go_enter Tryz.func24, Tryz.ntmps24
  go_wp2_with (go_at_call 39; refine HN.out.mono ?_; rintro e w1 ⟨p, rfl, hb⟩; have HB := hide hb; clear hb)
  go_ret2
  exact ⟨p, rfl, HB1.out.trans (HB.out.mono HB1.out.size)⟩
set_option maxRecDepth 100000 in
set_option maxHeartbeats 1000000 in
theorem map_rng (sz : Nat) (w : World) (hs : 16 ≤ sz ∧ sz ≤ 16384) :
    Calls Tryz.prog 24 #[.agg #[.int .u8 7, .int .i64 0, .int .i64 0, .int .i64 sz]] w fun e w' => ∃ p : Addr, e = .returned (.tuple #[.iface 112 (.pointer (some p)), .int .i64 0]) ∧ Below w.heap.size w w' := by
  have hb1 := below1 w (.cells #[.int .u8 7, .int .i64 0, .int .i64 0, .int .i64 sz] 24)
  have HB1 := hide hb1
  have HN := hide (rng_yes sz (w.alloc (.cells #[.int .u8 7, .int .i64 0, .int .i64 0, .int .i64 sz] 24)) hs)
  clear hb1
  go_enter Tryz.func24, Tryz.ntmps24
  go_wp2_with (go_at_call 40; refine HN.out.mono ?_; rintro e w1 ⟨p, rfl, hb⟩; have HB := hide hb; clear hb)
  go_ret2
  exact ⟨p, rfl, HB1.out.trans (HB.out.mono HB1.out.size)⟩
/-- A new map, by mapOf. -/
def NewMap (k key val ent : Int) (t : TypeId) : Prop := ∀ w, Calls Tryz.prog 24 #[.agg #[.int .u8 k, .int .i64 key, .int .i64 val, .int .i64 ent]] w fun e w' => ∃ p : Addr, e = .returned (.tuple #[.iface t (.pointer (some p)), .int .i64 0]) ∧ Below w.heap.size w w'
/-- A map was made. -/
def MadeTold (B b last : Nat) (A : Option Addr) (L : List SE) (k key val ent : Int) (t : TypeId) (w w' : World) : Prop := ∃ v, AddTold B b last A L k key val ent t v w w'
section
variable {w : World} {B b last c : Nat} {A : Option Addr} {L : List SE}
set_option maxRecDepth 100000 in
set_option maxHeartbeats 2000000 in
theorem make_yes {k key val ent : Int} {t : TypeId} (h : Sto w B b last A c L) (hk : 0 ≤ k ∧ k < 256) (hsp : specM k key val ent = 0) (hn : L.length < 32) (hm : last < 1000000) (hN : NewMap k key val ent t) :
    Calls Tryz.prog 6 #[.pointer (some ⟨b, 0, none⟩), .agg #[.int .u8 k, .int .i64 key, .int .i64 val, .int .i64 ent]] w fun e w' => e = .returned (.tuple #[.int .i64 ((last : Int) + 1), .int .i64 0]) ∧ MadeTold B b last A L k key val ent t w w' := by
  have hb0 := below1 w (.cells #[.int .u8 k, .int .i64 key, .int .i64 val, .int .i64 ent] 24)
  have hx0 := World.alloc_heap_new w (.cells #[.int .u8 k, .int .i64 key, .int .i64 val, .int .i64 ent] 24)
  have HM := hide (is_yes b _ (h.below hb0).c0)
  have HS : Hid (Calls Tryz.prog 22 #[.agg #[.int .u8 k, .int .i64 key, .int .i64 val, .int .i64 ent]] (w.alloc (.cells #[.int .u8 k, .int .i64 key, .int .i64 val, .int .i64 ent] 24)) fun e w' => e = .returned (.int .i64 0) ∧ Below (w.alloc (.cells #[.int .u8 k, .int .i64 key, .int .i64 val, .int .i64 ent] 24)).heap.size (w.alloc (.cells #[.int .u8 k, .int .i64 key, .int .i64 val, .int .i64 ent] 24)) w') := hide (by
    have := spec_any k key val ent (w.alloc (.cells #[.int .u8 k, .int .i64 key, .int .i64 val, .int .i64 ent] 24)) hk
    rwa [hsp] at this)
  have HY : Hid (∀ W, Below w.heap.size w W → Calls Tryz.prog 23 #[.pointer (some ⟨b, 1, none⟩)] W fun e w' => e = .returned (.int .i64 L.length) ∧ W = w') := hide (fun W hb => many_any b _ _ _ W (h.below hb).c2)
  have HX : Hid (∀ W, Below (w.alloc (.cells #[.int .u8 k, .int .i64 key, .int .i64 val, .int .i64 ent] 24)).heap.size (w.alloc (.cells #[.int .u8 k, .int .i64 key, .int .i64 val, .int .i64 ent] 24)) W → W.cell? ⟨w.heap.size, 0, none⟩ = some (.int .u8 k) ∧ W.cell? ⟨w.heap.size, 1, none⟩ = some (.int .i64 key) ∧ W.cell? ⟨w.heap.size, 2, none⟩ = some (.int .i64 val) ∧ W.cell? ⟨w.heap.size, 3, none⟩ = some (.int .i64 ent)) := hide (fun W hb => by
    have hw := (hb.block _ (at_lt hx0)).trans hx0
    exact ⟨(blk_cell hw 0).trans rfl, (blk_cell hw 1).trans rfl, (blk_cell hw 2).trans rfl, (blk_cell hw 3).trans rfl⟩)
  have HA : Hid (∀ W v, Below w.heap.size w W → Calls Tryz.prog 25 #[.pointer (some ⟨b, 1, none⟩), .agg #[.int .u8 k, .int .i64 key, .int .i64 val, .int .i64 ent, .iface t v]] W fun e w' => e = .returned (.int .i64 ((last : Int) + 1)) ∧ Hid (AddTold B b last A L k key val ent t v w w')) := hide (fun W v hb => by
    refine (add_any (h.below hb) hn hm).mono ?_
    rintro e w' ⟨rfl, A', c', h1, h2, h3⟩
    exact ⟨rfl, A', c', h1, keptTrans (Kept.of_below hb) h2, fun g hg => (h3 g hg).imp id (Nat.le_trans hb.size)⟩)
  have HB0 := hide hb0
  have HN := hide hN
  have hq : ((L.length : Int) == 32) = false := by simp; omega
  have hE : ∀ args (W : World), (callFunc 25 args).run Tryz.prog W = .ok (.enter 25 args) W := enters_of Tryz.func25 (by kernel_rfl) rfl
  clear h hb0 hx0 hN hsp hk
  go_enter Tryz.func6, Tryz.ntmps6
  go_wp2_with (first
    | (go_at_call 21; refine HM.out.mono ?_; rintro e w' ⟨rfl, rfl⟩)
    | (go_at_call 22; refine HS.out.mono ?_; rintro e w1 ⟨rfl, hb⟩; have HB1 := hide hb; obtain ⟨e0, e1, e2, e3⟩ := HX.out w1 hb; have HMM := hide (HY.out w1 (HB0.out.trans (hb.mono HB0.out.size))); clear hb)
    | (go_at_call 23; refine HMM.out.mono ?_; rintro e w' ⟨rfl, rfl⟩)
    | (go_at_call 24; refine (HN.out _).mono ?_; rintro e w2 ⟨p, rfl, hb⟩; have HB2 := hide (HB1.out.trans (hb.mono HB1.out.size)); clear hb))
  obtain ⟨g0, g1, g2, g3⟩ := HX.out w2 HB2.out
  have HAD := hide (HA.out w2.drew (.pointer (some p)) (HB0.out.trans ((HB2.out.mono HB0.out.size).drew)))
  go_region_law (refine step_enter (f := 25) (args := #[.pointer (some ⟨b, 1, none⟩), .agg #[.int .u8 k, .int .i64 key, .int .i64 val, .int .i64 ent, .iface t (.pointer (some p))]]) (R := fun v w3 => v = .int .i64 ((last : Int) + 1) ∧ Hid (AddTold B b last A L k key val ent t (.pointer (some p)) w w3)) (by rfl) (by simp [go_sem, hE]) (HAD.out.mono (fun e w' hh => ⟨_, hh.1, rfl, hh.2⟩)) ?_; rintro v w3 ⟨rfl, h3⟩)
  all_goals
    go_wp2_with fail
    go_ret2
    exact ⟨rfl, _, h3.out⟩
set_option maxRecDepth 100000 in
set_option maxHeartbeats 2000000 in
theorem make_full {k key val ent : Int} (h : Sto w B b last A c L) (hk : 0 ≤ k ∧ k < 256) (hsp : specM k key val ent = 0) (hn : L.length = 32) :
    Calls Tryz.prog 6 #[.pointer (some ⟨b, 0, none⟩), .agg #[.int .u8 k, .int .i64 key, .int .i64 val, .int .i64 ent]] w fun e w' => e = .returned (.tuple #[.int .i64 0, .int .i64 8]) ∧ Below w.heap.size w w' := by
  have hb0 := below1 w (.cells #[.int .u8 k, .int .i64 key, .int .i64 val, .int .i64 ent] 24)
  have HM := hide (is_yes b _ (h.below hb0).c0)
  have HS : Hid (Calls Tryz.prog 22 #[.agg #[.int .u8 k, .int .i64 key, .int .i64 val, .int .i64 ent]] (w.alloc (.cells #[.int .u8 k, .int .i64 key, .int .i64 val, .int .i64 ent] 24)) fun e w' => e = .returned (.int .i64 0) ∧ Below (w.alloc (.cells #[.int .u8 k, .int .i64 key, .int .i64 val, .int .i64 ent] 24)).heap.size (w.alloc (.cells #[.int .u8 k, .int .i64 key, .int .i64 val, .int .i64 ent] 24)) w') := hide (by
    have := spec_any k key val ent (w.alloc (.cells #[.int .u8 k, .int .i64 key, .int .i64 val, .int .i64 ent] 24)) hk
    rwa [hsp] at this)
  have HY : Hid (∀ W, Below w.heap.size w W → Calls Tryz.prog 23 #[.pointer (some ⟨b, 1, none⟩)] W fun e w' => e = .returned (.int .i64 32) ∧ W = w') := hide (fun W hb => by
    have := many_any b _ _ _ W (h.below hb).c2
    rw [hn] at this
    exact this)
  have HB0 := hide hb0
  clear h hb0 hsp hk
  go_enter Tryz.func6, Tryz.ntmps6
  go_wp2_with (first
    | (go_at_call 21; refine HM.out.mono ?_; rintro e w' ⟨rfl, rfl⟩)
    | (go_at_call 22; refine HS.out.mono ?_; rintro e w1 ⟨rfl, hb⟩; have HB1 := hide hb; have HMM := hide (HY.out w1 (HB0.out.trans (hb.mono HB0.out.size))); clear hb)
    | (go_at_call 23; refine HMM.out.mono ?_; rintro e w' ⟨rfl, rfl⟩))
  go_ret2
  exact ⟨rfl, HB0.out.trans (HB1.out.mono HB0.out.size)⟩
end
/-- A new store. -/
theorem new_any (w : World) : Calls Tryz.prog 20 #[] w fun e w' => ∃ b, e = .returned (.pointer (some ⟨b, 0, none⟩)) ∧ Sto w' w.heap.size b 0 none 0 [] ∧ Below w.heap.size w w' := by
  have hx := World.alloc_heap_new w (.cells #[.pointer none, .int .i64 0, .slice none 0 0] 37)
  have hb := below1 w (.cells #[.pointer none, .int .i64 0, .slice none 0 0] 37)
  have hs := Joins.block_setCell (i := 0) hx (.pointer (some ⟨w.heap.size, 0, none⟩))
  have hb2 : Below w.heap.size w ((w.alloc (.cells #[.pointer none, .int .i64 0, .slice none 0 0] 37)).setCell ⟨w.heap.size, 0, none⟩ (.pointer (some ⟨w.heap.size, 0, none⟩))) := hb.setCell (p := ⟨w.heap.size, 0, none⟩) (Nat.le_refl _) _
  have hx3 := World.alloc_heap_new w (.cells #[.pointer (some ⟨w.heap.size, 0, none⟩), .int .i64 0, .slice none 0 0] 37)
  have hb3 := below1 w (.cells #[.pointer (some ⟨w.heap.size, 0, none⟩), .int .i64 0, .slice none 0 0] 37)
  have HFIN : Hid (Sto (w.alloc (.cells #[.pointer (some ⟨w.heap.size, 0, none⟩), .int .i64 0, .slice none 0 0] 37)) w.heap.size w.heap.size 0 none 0 []) :=
    ⟨hx3, owns_nil _ _ _, ⟨Nat.le_refl _, fun g hg => by cases hg⟩, List.Pairwise.nil, nofun, by simp⟩
  have HB3 := hide hb3
  clear hx hb hs hb2 hx3 hb3
  go_enter Tryz.func20, Tryz.ntmps20
  go_wp2
  go_ret
  exact ⟨_, rfl, HFIN.out, HB3.out⟩
end Go.Proofs.YtgancfllpmgciaaGreat
