/-
  Put; New.
-/
import Derived.Test.YtdbflopfcnkjbaaGreatJ4
import Derived.Test.YtdbflopfcnkjbaaGreatKI4
import Derived.Laws.EntriesVeiled
namespace Go.Proofs.YtdbflopfcnkjbaaGreat
open Go.RowKit Go.Maps
set_option linter.unusedVariables false
set_option linter.unusedSimpArgs false

section
variable {w : World} {B b bx sz : Nat} {L : List RK}
set_option maxRecDepth 100000 in
theorem put_long (S : Option Addr) (n sc : Nat) (h : Rng w B b bx sz L) (hn : 65536 < n) : Calls Tryz.prog 6 #[.pointer (some ⟨b, 0, none⟩), .slice S n sc] w fun e w' => e = .returned (.int .i64 3) ∧ w = w' := by
  have H := hide (is_yes b w h.c0)
  have d1 : decide ((65536 : Int) < (n : Int)) = true := decide_eq_true (by omega)
  clear h
  go_enter Tryz.func6, Tryz.ntmps6
  go_wp2_with (go_at_call 24; refine H.out.mono ?_; rintro e w' ⟨rfl, rfl⟩)
  go_ret
  exact ⟨rfl, rfl⟩
set_option maxRecDepth 100000 in
set_option maxHeartbeats 1000000 in
theorem put_full (S : Option Addr) (n sc : Nat) (h : Rng w B b bx sz L) (hn : n ≤ 65536) (hf : sz < 8 + n + sumR L) : Calls Tryz.prog 6 #[.pointer (some ⟨b, 0, none⟩), .slice S n sc] w fun e w' => e = .returned (.int .i64 8) ∧ Below w.heap.size w w' := by
  have H := hide (is_yes b w h.c0)
  have c4 := h.c4
  have HT := hide (takes_any bx n sc S w h.cx (by omega))
  have HL := hide (left_any h)
  have hbig := h.big
  have d1 : decide ((65536 : Int) < (n : Int)) = false := decide_eq_false (by omega)
  have d2 : decide (((sz - sumR L : Nat) : Int) < ((8 + n : Nat) : Int)) = true := decide_eq_true (by omega)
  have d3 : decide (((sz - sumR L : Nat) : Int) < (8 + (n : Int))) = true := decide_eq_true (by omega)
  have d4 : decide (sz - sumR L < 8 + n) = true := decide_eq_true (by omega)
  clear h
  generalize sz - sumR L = s at *
  go_enter Tryz.func6, Tryz.ntmps6
  go_wp2_with (first
    | (go_at_call 24; refine H.out.mono ?_; rintro e w' ⟨rfl, rfl⟩)
    | (go_at_call 35; refine HT.out.mono ?_; rintro e w' ⟨rfl, rfl⟩)
    | (go_at_call 25; refine HL.out.mono ?_; rintro e w1 ⟨rfl, hb⟩; have HB := hide hb; clear hb))
  go_ret
  exact ⟨rfl, HB.out⟩
set_option maxRecDepth 100000 in
set_option maxHeartbeats 1000000 in
theorem put_room (S : Option Addr) (n sc C : Nat) (l : List Int) (h : Rng w B b bx sz L) (hr : Rd w C 1 S n (u8s l)) (hC : C ≤ w.heap.size) (hS : S = none → n = 0) (hroom : 8 + n + sumR L ≤ sz) : Calls Tryz.prog 6 #[.pointer (some ⟨b, 0, none⟩), .slice S n sc] w fun e w' => e = .returned (.int .i64 0) ∧ PutTold B b bx sz L l w w' := by
  have H := hide (is_yes b w h.c0)
  have c4 := h.c4
  have hbig := h.big
  have HT := hide (takes_any bx n sc S w h.cx (by omega))
  have HL := hide (left_any h)
  have HA : Hid (∀ w1, Below w.heap.size w w1 → Calls Tryz.prog 26 #[.pointer (some ⟨b, 2, none⟩), .slice S n sc] w1 fun e w' => e = .returned (.tuple #[]) ∧ Hid (PutTold B b bx sz L l w w')) := hide (fun w1 hb => by
    refine (add_any S n sc C l (h.below hb) (hr.below (hb.mono hC)) hS hroom).mono ?_
    rintro e w' ⟨rfl, r, h1, h2, h3, h4⟩
    exact ⟨rfl, r, h1, h2, keptTrans (Kept.of_below hb) h3, fun g hg => (h4 g hg).imp id (Nat.le_trans hb.size)⟩)
  have d1 : decide ((65536 : Int) < (n : Int)) = false := decide_eq_false (by omega)
  have d2 : decide (((sz - sumR L : Nat) : Int) < ((8 + n : Nat) : Int)) = false := decide_eq_false (by omega)
  have d3 : decide (((sz - sumR L : Nat) : Int) < (8 + (n : Int))) = false := decide_eq_false (by omega)
  have d4 : decide (sz - sumR L < 8 + n) = false := decide_eq_false (by omega)
  clear h hr
  generalize sz - sumR L = s at *
  go_enter Tryz.func6, Tryz.ntmps6
  go_wp2_with (first
    | (go_at_call 24; refine H.out.mono ?_; rintro e w' ⟨rfl, rfl⟩)
    | (go_at_call 35; refine HT.out.mono ?_; rintro e w' ⟨rfl, rfl⟩)
    | (go_at_call 25; refine HL.out.mono ?_; rintro e w1 ⟨rfl, hb⟩; have HA2 := hide (HA.out w1 hb); clear hb)
    | (go_at_call 26; refine HA2.out.mono ?_; rintro e w2 ⟨rfl, hp⟩))
  go_ret
  exact ⟨rfl, hp.out⟩
end
/-- What New tells of a make. -/
def newE (k key val ent : Int) : Int := if specM k key val ent = 0 then (if k = 7 then 0 else 9) else specM k key val ent
theorem newE_yes {k key val ent : Int} (h : newE k key val ent = 0) : k = 7 ∧ key = 0 ∧ val = 0 ∧ specM k key val ent = 0 ∧ 16 ≤ ent ∧ ent ≤ 16384 := by
  unfold newE at h
  by_cases hs : specM k key val ent = 0
  · rw [if_pos hs] at h
    by_cases hk : k = 7
    · have hp : ptM k = some ⟨0, 0, 0, 0, 16, 16384⟩ := by rw [hk]; rfl
      have hs2 := hs
      unfold specM at hs2
      rw [hp] at hs2
      simp only at hs2
      split at hs2
      · rename_i hh
        simp only [inI, Bool.and_eq_true, decide_eq_true_eq] at hh
        exact ⟨hk, by omega, by omega, hs, by omega, by omega⟩
      · cases hs2
    · rw [if_neg hk] at h; cases h
  · rw [if_neg hs] at h; exact absurd h hs
theorem specM_ring {n : Nat} (hn : 16 ≤ n ∧ n ≤ 16384) : specM 7 0 0 n = 0 := by
  have h : (inI 0 0 0 && inI 0 0 (0 : Int) && inI 16 16384 (n : Int)) = true := by simp [inI]; omega
  unfold specM
  rw [show ptM 7 = some ⟨0, 0, 0, 0, 16, 16384⟩ from rfl]
  show (if (inI 0 0 0 && inI 0 0 (0 : Int) && inI 16 16384 (n : Int)) = true then (0 : Int) else 2) = 0
  rw [if_pos h]
set_option maxRecDepth 100000 in
set_option maxHeartbeats 1000000 in
theorem new_no (k key val ent : Int) (w : World) (hk : 0 ≤ k ∧ k < 256) (he : newE k key val ent ≠ 0) :
    Calls Tryz.prog 5 #[.agg #[.int .u8 k, .int .i64 key, .int .i64 val, .int .i64 ent]] w fun e w' => e = .returned (.tuple #[.pointer none, .int .i64 (newE k key val ent)]) ∧ Below w.heap.size w w' := by
  have hb1 := below1 w (.cells #[.int .u8 k, .int .i64 key, .int .i64 val, .int .i64 ent] 25)
  have hx := World.alloc_heap_new w (.cells #[.int .u8 k, .int .i64 key, .int .i64 val, .int .i64 ent] 25)
  have HS := hide (spec_any k key val ent (w.alloc (.cells #[.int .u8 k, .int .i64 key, .int .i64 val, .int .i64 ent] 25)) hk)
  have HX := hide hx
  have HB1 := hide hb1
  have HE : Hid (newE k key val ent = if specM k key val ent = 0 then (if k = 7 then 0 else 9) else specM k key val ent) := hide rfl
  clear hx hb1
  generalize newE k key val ent = ne at *
  generalize specM k key val ent = sm at *
  by_cases hs : sm = 0
  · subst hs
    have hk1 : ¬ (k = 7) := fun h => he (by rw [HE.out, if_pos rfl, if_pos h])
    obtain rfl : ne = 9 := by rw [HE.out, if_pos rfl, if_neg hk1]
    have hkb : (k != 7) = true := by simpa using hk1
    clear he HE hk1
    go_enter Tryz.func5, Tryz.ntmps5
    go_wp2_with (go_at_call 21; refine HS.out.mono ?_; rintro e w1 ⟨rfl, hb⟩; have HB := hide (HB1.out.trans (hb.mono HB1.out.size)); have hxx := (hb.block _ (at_lt HX.out)).trans HX.out; have d0 : w1.cell? ⟨w.heap.size, 0, none⟩ = some (.int .u8 k) := (blk_cell hxx 0).trans rfl; clear hb hxx)
    go_ret2
    exact ⟨rfl, HB.out⟩
  · obtain rfl : ne = sm := by rw [HE.out, if_neg hs]
    have hkb : (ne == 0) = false := by simpa using hs
    have hkb2 : (ne != 0) = true := by simpa using hs
    clear he HE hs
    go_enter Tryz.func5, Tryz.ntmps5
    go_wp2_with (go_at_call 21; refine HS.out.mono ?_; rintro e w1 ⟨rfl, hb⟩; have HB := hide (HB1.out.trans (hb.mono HB1.out.size)); clear hb)
    go_ret2
    exact ⟨rfl, HB.out⟩
theorem beside_any (w : World) : Calls Tryz.prog 23 #[.int .i64 8] w fun e w' => e = .returned (.func (.func 35) #[] #[.pointer (some ⟨w.heap.size, 0, none⟩)]) ∧ w' = w.alloc (.cells #[.int .i64 8] 3) := by
  have hmf : ∀ (fn : Fn) (first cap : Array Value) (w : World), (Instr.makeFunc fn first cap).run Tryz.prog w = .ok (.func fn first cap) w := fun _ _ _ _ => rfl
  go_enter Tryz.func23, Tryz.ntmps23
  go_wp2
  go_ret
  exact ⟨rfl, rfl⟩
set_option maxRecDepth 100000 in
theorem linksOf_any (k : Nat) (w : World) : Calls Tryz.prog 22 #[.func (.func 35) #[] #[.pointer (some ⟨k, 0, none⟩)]] w fun e w' => e = .returned (.agg #[.pointer none, .pointer none, .func (.func 35) #[] #[.pointer (some ⟨k, 0, none⟩)]]) ∧ Below w.heap.size w w' := by
  have hb := below1 w (.cells #[.pointer none, .pointer none, .func (.func 35) #[] #[.pointer (some ⟨k, 0, none⟩)]] 54)
  go_enter Tryz.func22, Tryz.ntmps22
  go_wp2
  refine bodyPost_ret (v := .agg #[.pointer none, .pointer none, .func (.func 35) #[] #[.pointer (some ⟨k, 0, none⟩)]]) ?_ rfl ⟨rfl, hb⟩
  simp [results, Tryz.results22, go_sem]
/-- What New tells of a right make. -/
def NewTold (sz : Nat) (w : World) (e : Ending) (w' : World) : Prop := ∃ b bx, e = .returned (.tuple #[.pointer (some ⟨b, 0, none⟩), .int .i64 0]) ∧ Rng w' w.heap.size b bx sz [] ∧ Below w.heap.size w w'
def newCells (p : Value) (bx sz : Nat) : Array Value := #[p, .int .i64 sz, .pointer none, .pointer none, .func (.func 35) #[] #[.pointer (some ⟨bx, 0, none⟩)]]
theorem Rng.made {w w1 W : World} {sz bx : Nat} (hb : Below w.heap.size w w1) (hW : Below w1.heap.size w1 W) (hbx : w1.heap[bx]? = some (.cells #[.int .i64 8] 3 (0, 0))) (hx : w.heap.size ≤ bx) (hs : 16 ≤ sz ∧ sz ≤ 16384) :
    NewTold sz w (.returned (.tuple #[.pointer (some ⟨W.heap.size, 0, none⟩), .int .i64 0])) (W.alloc (.cells (newCells (.pointer (some ⟨W.heap.size, 0, none⟩)) bx sz) 58)) := by
  have h1 := World.alloc_heap_new W (.cells (newCells (.pointer (some ⟨W.heap.size, 0, none⟩)) bx sz) 58)
  have hbW := hb.trans (hW.mono hb.size)
  have hWs := hbW.size
  have hlt := at_lt hbx
  have hws := hW.size
  have hba := below1 W (.cells (newCells (.pointer (some ⟨W.heap.size, 0, none⟩)) bx sz) 58)
  refine ⟨W.heap.size, bx, rfl, ⟨h1, ?_, fun i r hi => by simp at hi, nofun, ?_, by simp, fun i j r s hi => by simp at hi, by simp [sumR]; omega⟩, ?_⟩
  · exact (hba.block bx (by omega)).trans ((hW.block bx hlt).trans hbx)
  · rintro g (rfl | rfl | ⟨r, hr, _⟩)
    · exact hWs
    · exact hx
    · cases hr
  · exact hbW.trans (hba.mono hWs)
set_option maxRecDepth 100000 in
set_option maxHeartbeats 1000000 in
theorem new_yes (sz : Nat) (w : World) (hs : 16 ≤ sz ∧ sz ≤ 16384) :
    Calls Tryz.prog 5 #[.agg #[.int .u8 7, .int .i64 0, .int .i64 0, .int .i64 sz]] w (NewTold sz w) := by
  have hb1 := below1 w (.cells #[.int .u8 7, .int .i64 0, .int .i64 0, .int .i64 sz] 25)
  have hx := World.alloc_heap_new w (.cells #[.int .u8 7, .int .i64 0, .int .i64 0, .int .i64 sz] 25)
  have HS0 := spec_any 7 0 0 sz (w.alloc (.cells #[.int .u8 7, .int .i64 0, .int .i64 0, .int .i64 sz] 25)) (by decide)
  rw [specM_ring hs] at HS0
  have HS := hide HS0
  have HX := hide hx
  have HB1 := hide hb1
  have hE1 : ∀ args (W : World), (callFunc 23 args).run Tryz.prog W = .ok (.enter 23 args) W := enters_of Tryz.func23 (by kernel_rfl) rfl
  have hE2 : ∀ args (W : World), (callFunc 22 args).run Tryz.prog W = .ok (.enter 22 args) W := enters_of Tryz.func22 (by kernel_rfl) rfl
  clear hx hb1 HS0
  go_enter Tryz.func5, Tryz.ntmps5
  go_wp2_with (go_at_call 21; refine HS.out.mono ?_; rintro e w1 ⟨rfl, hb⟩; have HB := hide (HB1.out.trans (hb.mono HB1.out.size)); have hxx := (hb.block _ (at_lt HX.out)).trans HX.out; have d0 : w1.cell? ⟨w.heap.size, 0, none⟩ = some (.int .u8 7) := (blk_cell hxx 0).trans rfl; have HXX := hide hxx; clear hb hxx)
  have hd := HB.out.drew
  have HC : Hid (∀ W, Below w1.heap.size w1 W → W.cell? ⟨w.heap.size, 3, none⟩ = some (.int .i64 sz)) := hide (fun W hb => by
    have := (hb.block _ (at_lt HXX.out)).trans HXX.out
    rw [blk_cell this]
    rfl)
  have b0 : Below w1.heap.size w1 w1.drew := (Below.refl _ _).drew
  have b1 : Below w1.heap.size w1 (w1.drew.alloc (.cells #[.int .i64 8] 3)) := b0.trans (below1 w1.drew _)
  have x0 := HC.out _ b0
  have x1 := HC.out _ b1
  have x2 := HC.out _ (below1 w1 (.cells #[.int .i64 8] 3))
  have hbx : (w1.drew.alloc (.cells #[.int .i64 8] 3)).heap[w1.heap.size]? = some (.cells #[.int .i64 8] 3 (0, 0)) := World.alloc_heap_new w1.drew _
  have HL := hide (linksOf_any w1.heap.size (w1.drew.alloc (.cells #[.int .i64 8] 3)))
  have HN : Hid (∀ W, Below (w1.drew.alloc (.cells #[.int .i64 8] 3)).heap.size (w1.drew.alloc (.cells #[.int .i64 8] 3)) W → W.cell? ⟨w.heap.size, 3, none⟩ = some (.int .i64 sz) ∧ Hid (NewTold sz w _ _)) := hide (fun W hW => ⟨HC.out W (b1.trans (hW.mono b1.size)), Rng.made (W := W) (HB.out.trans (b1.mono HB.out.size)) hW hbx HB.out.size hs⟩)
  unfold newCells at HN
  have HBT := hide (beside_any w1.drew)
  clear b0 b1 hbx hd
  go_region_law (first
    | (refine step_enter (f := 23) (args := #[.int .i64 8]) (R := fun v w2 => v = .func (.func 35) #[] #[.pointer (some ⟨w1.heap.size, 0, none⟩)] ∧ w2 = w1.drew.alloc (.cells #[.int .i64 8] 3)) (by rfl) (by simp [go_sem, hE1]) (HBT.out.mono (fun e w' hh => ⟨_, hh.1, rfl, hh.2⟩)) ?_; rintro v w2 ⟨rfl, rfl⟩)
    | (refine step_enter (f := 22) (args := #[.func (.func 35) #[] #[.pointer (some ⟨w1.heap.size, 0, none⟩)]]) (R := fun v w2 => v = .agg #[.pointer none, .pointer none, .func (.func 35) #[] #[.pointer (some ⟨w1.heap.size, 0, none⟩)]] ∧ Below (w1.drew.alloc (.cells #[.int .i64 8] 3)).heap.size (w1.drew.alloc (.cells #[.int .i64 8] 3)) w2) (by rfl) (by simp [go_sem, hE2]) (HL.out.mono (fun e w' hh => ⟨_, hh.1, rfl, hh.2⟩)) ?_; rintro v w2 ⟨rfl, h2⟩; obtain ⟨k1, k4⟩ := HN.out w2 h2; clear h2))
  all_goals
    go_wp2_with fail
    go_ret2
    exact k4.out
end Go.Proofs.YtdbflopfcnkjbaaGreat
