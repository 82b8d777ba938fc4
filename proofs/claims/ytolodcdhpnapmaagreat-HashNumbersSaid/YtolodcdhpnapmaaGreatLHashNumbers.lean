/-
  Proved: the closed law HashNumbers answers true (makes at their ends and past them; keys and values of each length about theirs, each flag, with room and without; places taken anew in each order); without conditions.
-/
import Derived.Test.YtolodcdhpnapmaaGreatMJ
import Derived.Test.YtolodcdhpnapmaaGreatRT4
import Derived.Test.YtolodcdhpnapmaaGreatAP4
import Derived.Lib.SmallJoins
import Derived.Test.YtolodcdhpnapmaaGreatRows
import Derived.Test.YtolodcdhpnapmaaGreatMD
import Derived.WalkKit
import Derived.ProofKit
import Derived.OpenShut
import Derived.ChangeMaps5

/-
  HashNumbers' walk.
-/
namespace Go.Proofs.YtolodcdhpnapmaaGreat
open Go.RowKit
set_option linter.unusedVariables false
set_option linter.unusedSimpArgs false

theorem third (k : Nat) (h : k < 27) : ∃ kk : Nat, kk < 9 ∧ (k : Int).tdiv 3 = (kk : Int) ∧ IntKind.i64.wrap (kk : Int) = (kk : Int) ∧ IntKind.u8.wrap (kk : Int) = (kk : Int) := by
  refine ⟨k / 3, by omega, ?_, ?_, ?_⟩
  · rw [Int.tdiv_eq_ediv_of_nonneg (by omega)]; omega
  · simp [IntKind.wrap, IntKind.bits, IntKind.signed]; omega
  · simp [IntKind.wrap, IntKind.bits, IntKind.signed]; omega
/-- What each operation of the deeds leaves. -/
def TH (KB i k : Nat) (ti tk tr : List UInt8) (ri rk r3 i1 k2 : Int) (X : Nat) (q : Nat) (σ : Nat → Value) (W : World) : Prop :=
  match q with
  | 0 => σ 0 = .slice (some ⟨KB, 0, none⟩) 8 8
  | 1 => σ 1 = .int .i64 (i : Nat)
  | 2 => σ 2 = .pointer (some ⟨KB, i, none⟩)
  | 3 => σ 3 = encStr ti
  | 4 => LitT (σ 4) W
  | 5 => Lit1 X (σ 5) [120, 121, 122] W
  | 6 => LitT (σ 6) W
  | 7 => DoT (σ 7) W
  | 8 => σ 8 = .slice (some ⟨KB, 0, none⟩) 8 8
  | 9 => σ 9 = .int .i64 (k : Nat)
  | 10 => σ 10 = .pointer (some ⟨KB, k, none⟩)
  | 11 => σ 11 = encStr tk
  | 12 => LitT (σ 12) W
  | 13 => Lit1 X (σ 13) [117, 118, 119] W
  | 14 => LitT (σ 14) W
  | 15 => σ 15 = .int .i64 (i : Nat)
  | 16 => σ 16 = .int .i64 ri
  | 17 => σ 17 = .int .u64 ri
  | 18 => DoT (σ 18) W
  | 19 => Lit1 X (σ 19) [99, 99] W
  | 20 => LitT (σ 20) W
  | 21 => Lit1 X (σ 21) [114, 115, 116] W
  | 22 => LitT (σ 22) W
  | 23 => σ 23 = .int .i64 (k : Nat)
  | 24 => σ 24 = .int .i64 rk
  | 25 => σ 25 = .int .u64 rk
  | 26 => DoT (σ 26) W
  | 27 => σ 27 = .slice (some ⟨KB, 0, none⟩) 8 8
  | 28 => σ 28 = .int .i64 (i : Nat)
  | 29 => σ 29 = .pointer (some ⟨KB, i, none⟩)
  | 30 => σ 30 = encStr ti
  | 31 => LitT (σ 31) W
  | 32 => DoT (σ 32) W
  | 33 => σ 33 = .slice (some ⟨KB, 0, none⟩) 8 8
  | 34 => σ 34 = .int .i64 (k : Nat)
  | 35 => σ 35 = .pointer (some ⟨KB, k, none⟩)
  | 36 => σ 36 = encStr tk
  | 37 => LitT (σ 37) W
  | 38 => σ 38 = .int .i64 (k : Nat)
  | 39 => σ 39 = .int .i64 r3
  | 40 => σ 40 = encStr tr
  | 41 => LitT (σ 41) W
  | 42 => DoT (σ 42) W
  | 43 => σ 43 = .int .i64 (i : Nat)
  | 44 => σ 44 = .int .i64 i1
  | 45 => σ 45 = .int .i64 (k : Nat)
  | 46 => σ 46 = .int .i64 k2
  | 47 => Lit1 X (σ 47) [33, 33] W
  | 48 => LitT (σ 48) W
  | 49 => DoT (σ 49) W
  | 50 => Lit1 X (σ 50) [100, 100] W
  | 51 => LitT (σ 51) W
  | 52 => Lit1 X (σ 52) [108, 109, 110] W
  | 53 => LitT (σ 53) W
  | 54 => DoT (σ 54) W
  | 55 => σ 55 = .slice (some ⟨KB, 0, none⟩) 8 8
  | 56 => σ 56 = .int .i64 (k : Nat)
  | 57 => σ 57 = .pointer (some ⟨KB, k, none⟩)
  | 58 => σ 58 = encStr tk
  | 59 => LitT (σ 59) W
  | 60 => DoT (σ 60) W
  | 61 => Lit1 X (σ 61) [100, 100] W
  | 62 => LitT (σ 62) W
  | 63 => DoT (σ 63) W
  | 64 => EsT (σ 64) W
  | 65 => EsT (σ 65) W
  | _ => True
theorem TH.mv {KB i k : Nat} {ti tk tr : List UInt8} {ri rk r3 i1 k2 : Int} {X q : Nat} {σ : Nat → Value} {W W' : World} (h : TH KB i k ti tk tr ri rk r3 i1 k2 X q σ W) (hm : Mv W W') : TH KB i k ti tk tr ri rk r3 i1 k2 X q σ W' := by
  unfold TH at h ⊢
  split at h
  all_goals first
    | exact h
    | exact LitT.mv h hm
    | exact DoT.mv h hm
    | exact EsT.mv h hm
    | exact Lit1.mv h hm
/-- What was there before the deeds were written stays. -/
def GH (w : World) (_ : Nat → Bool) (W : World) : Prop := Below w.heap.size w W
theorem rem4 (i : Nat) (h : i < 8) : ∃ ri : Int, (i : Int).tmod 4 = ri ∧ IntKind.u64.wrap ri = ri ∧ 0 ≤ ri ∧ ri < 4 := by
  refine ⟨((i % 4 : Nat) : Int), ?_, ?_, by omega, by omega⟩
  · rw [Int.tmod_eq_emod_of_nonneg (by omega)]; omega
  · simp [IntKind.wrap, IntKind.bits, IntKind.signed]; omega
theorem rem3 (k : Nat) (h : k < 8) : ∃ (r : Int) (tr : List UInt8), (k : Int).tmod 3 = r ∧ ((r = 0 ∧ tr = []) ∨ (r = 1 ∧ tr = [97]) ∨ (r = 2 ∧ tr = [97, 98])) ∧ tr.length ≤ 3 := by
  have e : (k : Int).tmod 3 = ((k % 3 : Nat) : Int) := by rw [Int.tmod_eq_emod_of_nonneg (by omega)]; omega
  have h3 : k % 3 = 0 ∨ k % 3 = 1 ∨ k % 3 = 2 := by omega
  rcases h3 with h3 | h3 | h3
  · exact ⟨0, [], by rw [e, h3]; rfl, .inl ⟨rfl, rfl⟩, by decide⟩
  · exact ⟨1, [97], by rw [e, h3]; rfl, .inr (.inl ⟨rfl, rfl⟩), by decide⟩
  · exact ⟨2, [97, 98], by rw [e, h3]; rfl, .inr (.inr ⟨rfl, rfl⟩), by decide⟩
theorem written_in {ops : Array Oper} {t : Tmp} (h : unwritten ops t = false) (ts : List Nat) (hts : (ops.toList.all fun o => match o.dst with | some d => ts.contains d | none => true) = true) : t ∈ ts := by
  unfold unwritten at h
  rw [List.all_eq_false] at h
  obtain ⟨o, ho, hd⟩ := h
  have h2 := List.all_eq_true.1 hts o ho
  cases hdo : o.dst with
  | none => simp [hdo] at hd
  | some d =>
    rw [hdo] at h2 hd
    simp at hd h2
    subst hd
    exact h2
theorem eql_not (a : Addr) (w : World) : (binOp .eql 26 (.pointer (some a)) (.pointer none)).run Tryz.prog w = .ok (.bool false) w := by
  have h : ∀ d : Nat, (Op.equalIn (d + 1) 26 (.pointer (some a)) (.pointer none)).run Tryz.prog w = .ok false w := fun d => by
    simp [Op.equalIn, run_underlying Tryz.underlying26]
  simp only [binOp]
  simp [Op.equal, Op.maxDepth, h 9999]
theorem eql_not2 (a : Addr) (w : World) : (binOp .eql 30 (.pointer (some a)) (.pointer none)).run Tryz.prog w = .ok (.bool false) w := by
  have h : ∀ d : Nat, (Op.equalIn (d + 1) 30 (.pointer (some a)) (.pointer none)).run Tryz.prog w = .ok false w := fun d => by
    simp [Op.equalIn, run_underlying Tryz.underlying30]
  simp only [binOp]
  simp [Op.equal, Op.maxDepth, h 9999]
set_option maxRecDepth 100000 in
set_option maxHeartbeats 20000000 in
theorem law_hashNumbers (w : World) : Calls Tryz.prog 3 #[] w fun e w' => e = .returned (.bool true) ∧ Below w.heap.size w w' := by
  have hx := World.alloc_heap_new w (.cells numCells 3)
  have hb := below1 w (.cells numCells 3)
  generalize hW1 : w.alloc (.cells numCells 3) = W1 at hx hb
  have HW1 := hide hW1
  have HX := hide hx
  have HB := hide hb
  have HN : Hid (∀ W, Below W1.heap.size W1 W → ∀ (i : Nat) (x : Int), numL[i]? = some x → W.cell? ⟨w.heap.size, i, none⟩ = some (.int .i64 x)) := hide (fun W hbW i x hxx => num_cell ((hbW.block _ (at_lt hx)).trans hx) hxx)
  have HZ := hide (Below.refl W1.heap.size W1)
  clear hx hb hW1
  go_enter Tryz.func3, Tryz.ntmps3
  go_upto_region 2 with fail
  refine Eq.mp (congrArg (Code.wp Tryz.prog _ _ _) HW1.out.symm) ?_
  go_wp2_with fail
  go_loopw [2] (fun u wq => ∃ i : Nat, i ≤ 11 ∧ u = .int .i64 i ∧ Below W1.heap.size W1 wq) (fun u _ => 11 - (intOf u).toNat)
  case atStart => exact ⟨0, by omega, rfl, HZ.out⟩
  case round =>
    obtain ⟨i, hi, rfl, hb⟩ := hrel
    have HBI := hide hb
    clear hb
    by_cases hi11 : i < 11
    · have di : decide ((i : Int) < 11) = true := decide_eq_true (by omega)
      obtain ⟨x, hx, hx64⟩ := num_at hi11
      have HXI := hide hx
      clear hx
      go_wp2_with fail
      go_loopw [3] (fun u wq => ∃ k : Nat, k ≤ 27 ∧ u = .int .i64 k ∧ Below W1.heap.size W1 wq) (fun u _ => 27 - (intOf u).toNat)
      case atStart => exact ⟨0, by omega, rfl, HBI.out⟩
      case round =>
        obtain ⟨k, hk, rfl, hb⟩ := hrel
        have HBK := hide hb
        clear hb
        by_cases hk27 : k < 27
        · have dk : decide ((k : Int) < 27) = true := decide_eq_true (by omega)
          obtain ⟨kk, hkk9, hkd, hk64, hk8⟩ := third k hk27
          have hkk : (0 : Int) ≤ (kk : Int) ∧ (kk : Int) < 256 := by omega
          have hbx := below1 wr (.cells #[.int .u8 kk, .int .i64 2, .int .i64 3, .int .i64 2] 25)
          have hxx := World.alloc_heap_new wr (.cells #[.int .u8 kk, .int .i64 2, .int .i64 3, .int .i64 2] 25)
          have cN := HN.out _ (HBK.out.trans (hbx.mono HBK.out.size)) i x HXI.out
          have hf0 : ∀ j, (wr.alloc (.cells #[.int .u8 kk, .int .i64 2, .int .i64 3, .int .i64 2] 25)).frozen? ⟨wr.heap.size, j, none⟩ = false := fun j => by unfold World.frozen?; simp only [hxx]; simp
          have j0 : (0 : Int) ≤ (i : Int) := by omega
          have j1 : (i : Int) < 11 := by omega
          by_cases h0 : (k : Int).tmod 3 = 0
          · skip
            have t0 : ((k : Int).tmod 3 == 0) = true := by simpa using h0
            have hb5 := below1 wr (.cells #[.int .u8 kk, .int .i64 x, .int .i64 3, .int .i64 2] 25)
            have hx5 := World.alloc_heap_new wr (.cells #[.int .u8 kk, .int .i64 x, .int .i64 3, .int .i64 2] 25)
            have cu : (wr.alloc (.cells #[.int .u8 kk, .int .i64 2, .int .i64 3, .int .i64 2] 25)).cell? ⟨wr.heap.size, 1, none⟩ = some (.int .i64 2) := (blk_cell hxx 1).trans rfl
            have hfz := hf0 1
            have HB5 := hide (HBK.out.trans (hb5.mono HBK.out.size))
            have HXX := hide hx5
            clear hb5 hx5 hbx hxx hf0
            go_upto_region 15 with fail
            generalize hSb : wr.heap.size = Sb at *
            generalize wr.alloc (.cells #[.int .u8 kk, .int .i64 x, .int .i64 3, .int .i64 2] 25) = w5 at HB5 HXX ⊢
            have c0 : w5.cell? ⟨Sb, 0, none⟩ = some (.int .u8 kk) := (blk_cell HXX.out 0).trans rfl
            have c1 : w5.cell? ⟨Sb, 1, none⟩ = some (.int .i64 x) := (blk_cell HXX.out 1).trans rfl
            have c2 : w5.cell? ⟨Sb, 2, none⟩ = some (.int .i64 3) := (blk_cell HXX.out 2).trans rfl
            have c3 : w5.cell? ⟨Sb, 3, none⟩ = some (.int .i64 2) := (blk_cell HXX.out 3).trans rfl
            have HNW := hide (new_all kk x 3 2 w5 hkk)
            have HRN := hide (fun W => rnew_all kk x 3 2 W hkk)
            clear cN cu hfz
            go_wp2_with fail
            refine HNW.out.mono ?_
            rintro e w6 hT
            rcases hT with ⟨he, g, rfl, hb⟩ | ⟨he, rfl, hb⟩
            · have hxb := (hb.block _ (at_lt HXX.out)).trans HXX.out
              have y0 : w6.cell? ⟨Sb, 0, none⟩ = some (.int .u8 kk) := (blk_cell hxb 0).trans rfl
              have y1 : w6.cell? ⟨Sb, 1, none⟩ = some (.int .i64 x) := (blk_cell hxb 1).trans rfl
              have y2 : w6.cell? ⟨Sb, 2, none⟩ = some (.int .i64 3) := (blk_cell hxb 2).trans rfl
              have y3 : w6.cell? ⟨Sb, 3, none⟩ = some (.int .i64 2) := (blk_cell hxb 3).trans rfl
              have HB6 := hide (HB5.out.trans (hb.mono HB5.out.size))
              clear hb hxb c0 c1 c2 c3 HNW
              go_wp2_with fail
              refine (HRN.out w6).mono ?_
              rintro e w7 hT
              rcases hT with ⟨he2, g2, rfl, hb⟩ | ⟨he2, rfl, hb⟩
              · have HB7 := hide (HB6.out.trans (hb.mono HB6.out.size))
                clear hb y0 y1 y2 y3 HRN
                have ep := eql_not ⟨g, 0, none⟩ w7
                have ep2 := eql_not2 ⟨g2, 0, none⟩ w7
                go_wp2_with fail
                go_roundw
                case rel => exact ⟨k + 1, by omega, by go_num, HB7.out⟩
                case measure => simp [intOf]; omega
              · exact absurd he he2
            · have hxb := (hb.block _ (at_lt HXX.out)).trans HXX.out
              have y0 : w6.cell? ⟨Sb, 0, none⟩ = some (.int .u8 kk) := (blk_cell hxb 0).trans rfl
              have y1 : w6.cell? ⟨Sb, 1, none⟩ = some (.int .i64 x) := (blk_cell hxb 1).trans rfl
              have y2 : w6.cell? ⟨Sb, 2, none⟩ = some (.int .i64 3) := (blk_cell hxb 2).trans rfl
              have y3 : w6.cell? ⟨Sb, 3, none⟩ = some (.int .i64 2) := (blk_cell hxb 3).trans rfl
              have HB6 := hide (HB5.out.trans (hb.mono HB5.out.size))
              clear hb hxb c0 c1 c2 c3 HNW
              go_wp2_with fail
              refine (HRN.out w6).mono ?_
              rintro e w7 hT
              rcases hT with ⟨he2, g2, rfl, hb⟩ | ⟨he2, rfl, hb⟩
              · exact absurd he2 he
              · have HB7 := hide (HB6.out.trans (hb.mono HB6.out.size))
                clear hb y0 y1 y2 y3 HRN
                generalize newE kk x 3 2 = ne at *
                go_wp2_with fail
                go_roundw
                case rel => exact ⟨k + 1, by omega, by go_num, HB7.out⟩
                case measure => simp [intOf]; omega
          by_cases h1 : (k : Int).tmod 3 = 1
          · skip
            have t0 : ((k : Int).tmod 3 == 0) = false := by simpa using h0
            have t1 : ((k : Int).tmod 3 == 1) = true := by simpa using h1
            have hb5 := below1 wr (.cells #[.int .u8 kk, .int .i64 2, .int .i64 x, .int .i64 2] 25)
            have hx5 := World.alloc_heap_new wr (.cells #[.int .u8 kk, .int .i64 2, .int .i64 x, .int .i64 2] 25)
            have cu : (wr.alloc (.cells #[.int .u8 kk, .int .i64 2, .int .i64 3, .int .i64 2] 25)).cell? ⟨wr.heap.size, 2, none⟩ = some (.int .i64 3) := (blk_cell hxx 2).trans rfl
            have hfz := hf0 2
            have HB5 := hide (HBK.out.trans (hb5.mono HBK.out.size))
            have HXX := hide hx5
            clear hb5 hx5 hbx hxx hf0
            go_upto_region 15 with fail
            generalize hSb : wr.heap.size = Sb at *
            generalize wr.alloc (.cells #[.int .u8 kk, .int .i64 2, .int .i64 x, .int .i64 2] 25) = w5 at HB5 HXX ⊢
            have c0 : w5.cell? ⟨Sb, 0, none⟩ = some (.int .u8 kk) := (blk_cell HXX.out 0).trans rfl
            have c1 : w5.cell? ⟨Sb, 1, none⟩ = some (.int .i64 2) := (blk_cell HXX.out 1).trans rfl
            have c2 : w5.cell? ⟨Sb, 2, none⟩ = some (.int .i64 x) := (blk_cell HXX.out 2).trans rfl
            have c3 : w5.cell? ⟨Sb, 3, none⟩ = some (.int .i64 2) := (blk_cell HXX.out 3).trans rfl
            have HNW := hide (new_all kk 2 x 2 w5 hkk)
            have HRN := hide (fun W => rnew_all kk 2 x 2 W hkk)
            clear cN cu hfz
            go_wp2_with fail
            refine HNW.out.mono ?_
            rintro e w6 hT
            rcases hT with ⟨he, g, rfl, hb⟩ | ⟨he, rfl, hb⟩
            · have hxb := (hb.block _ (at_lt HXX.out)).trans HXX.out
              have y0 : w6.cell? ⟨Sb, 0, none⟩ = some (.int .u8 kk) := (blk_cell hxb 0).trans rfl
              have y1 : w6.cell? ⟨Sb, 1, none⟩ = some (.int .i64 2) := (blk_cell hxb 1).trans rfl
              have y2 : w6.cell? ⟨Sb, 2, none⟩ = some (.int .i64 x) := (blk_cell hxb 2).trans rfl
              have y3 : w6.cell? ⟨Sb, 3, none⟩ = some (.int .i64 2) := (blk_cell hxb 3).trans rfl
              have HB6 := hide (HB5.out.trans (hb.mono HB5.out.size))
              clear hb hxb c0 c1 c2 c3 HNW
              go_wp2_with fail
              refine (HRN.out w6).mono ?_
              rintro e w7 hT
              rcases hT with ⟨he2, g2, rfl, hb⟩ | ⟨he2, rfl, hb⟩
              · have HB7 := hide (HB6.out.trans (hb.mono HB6.out.size))
                clear hb y0 y1 y2 y3 HRN
                have ep := eql_not ⟨g, 0, none⟩ w7
                have ep2 := eql_not2 ⟨g2, 0, none⟩ w7
                go_wp2_with fail
                go_roundw
                case rel => exact ⟨k + 1, by omega, by go_num, HB7.out⟩
                case measure => simp [intOf]; omega
              · exact absurd he he2
            · have hxb := (hb.block _ (at_lt HXX.out)).trans HXX.out
              have y0 : w6.cell? ⟨Sb, 0, none⟩ = some (.int .u8 kk) := (blk_cell hxb 0).trans rfl
              have y1 : w6.cell? ⟨Sb, 1, none⟩ = some (.int .i64 2) := (blk_cell hxb 1).trans rfl
              have y2 : w6.cell? ⟨Sb, 2, none⟩ = some (.int .i64 x) := (blk_cell hxb 2).trans rfl
              have y3 : w6.cell? ⟨Sb, 3, none⟩ = some (.int .i64 2) := (blk_cell hxb 3).trans rfl
              have HB6 := hide (HB5.out.trans (hb.mono HB5.out.size))
              clear hb hxb c0 c1 c2 c3 HNW
              go_wp2_with fail
              refine (HRN.out w6).mono ?_
              rintro e w7 hT
              rcases hT with ⟨he2, g2, rfl, hb⟩ | ⟨he2, rfl, hb⟩
              · exact absurd he2 he
              · have HB7 := hide (HB6.out.trans (hb.mono HB6.out.size))
                clear hb y0 y1 y2 y3 HRN
                generalize newE kk 2 x 2 = ne at *
                go_wp2_with fail
                go_roundw
                case rel => exact ⟨k + 1, by omega, by go_num, HB7.out⟩
                case measure => simp [intOf]; omega
          · skip
            have e3 : (k : Int).tmod 3 = (k : Int) % 3 := Int.tmod_eq_emod_of_nonneg (by omega)
            have h2 : (k : Int).tmod 3 = 2 := by omega
            clear e3
            have hb5 := below1 wr (.cells #[.int .u8 kk, .int .i64 2, .int .i64 3, .int .i64 x] 25)
            have hx5 := World.alloc_heap_new wr (.cells #[.int .u8 kk, .int .i64 2, .int .i64 3, .int .i64 x] 25)
            have cu : (wr.alloc (.cells #[.int .u8 kk, .int .i64 2, .int .i64 3, .int .i64 2] 25)).cell? ⟨wr.heap.size, 3, none⟩ = some (.int .i64 2) := (blk_cell hxx 3).trans rfl
            have hfz := hf0 3
            have HB5 := hide (HBK.out.trans (hb5.mono HBK.out.size))
            have HXX := hide hx5
            clear hb5 hx5 hbx hxx hf0
            go_upto_region 15 with fail
            generalize hSb : wr.heap.size = Sb at *
            generalize wr.alloc (.cells #[.int .u8 kk, .int .i64 2, .int .i64 3, .int .i64 x] 25) = w5 at HB5 HXX ⊢
            have c0 : w5.cell? ⟨Sb, 0, none⟩ = some (.int .u8 kk) := (blk_cell HXX.out 0).trans rfl
            have c1 : w5.cell? ⟨Sb, 1, none⟩ = some (.int .i64 2) := (blk_cell HXX.out 1).trans rfl
            have c2 : w5.cell? ⟨Sb, 2, none⟩ = some (.int .i64 3) := (blk_cell HXX.out 2).trans rfl
            have c3 : w5.cell? ⟨Sb, 3, none⟩ = some (.int .i64 x) := (blk_cell HXX.out 3).trans rfl
            have HNW := hide (new_all kk 2 3 x w5 hkk)
            have HRN := hide (fun W => rnew_all kk 2 3 x W hkk)
            clear cN cu hfz
            go_wp2_with fail
            refine HNW.out.mono ?_
            rintro e w6 hT
            rcases hT with ⟨he, g, rfl, hb⟩ | ⟨he, rfl, hb⟩
            · have hxb := (hb.block _ (at_lt HXX.out)).trans HXX.out
              have y0 : w6.cell? ⟨Sb, 0, none⟩ = some (.int .u8 kk) := (blk_cell hxb 0).trans rfl
              have y1 : w6.cell? ⟨Sb, 1, none⟩ = some (.int .i64 2) := (blk_cell hxb 1).trans rfl
              have y2 : w6.cell? ⟨Sb, 2, none⟩ = some (.int .i64 3) := (blk_cell hxb 2).trans rfl
              have y3 : w6.cell? ⟨Sb, 3, none⟩ = some (.int .i64 x) := (blk_cell hxb 3).trans rfl
              have HB6 := hide (HB5.out.trans (hb.mono HB5.out.size))
              clear hb hxb c0 c1 c2 c3 HNW
              go_wp2_with fail
              refine (HRN.out w6).mono ?_
              rintro e w7 hT
              rcases hT with ⟨he2, g2, rfl, hb⟩ | ⟨he2, rfl, hb⟩
              · have HB7 := hide (HB6.out.trans (hb.mono HB6.out.size))
                clear hb y0 y1 y2 y3 HRN
                have ep := eql_not ⟨g, 0, none⟩ w7
                have ep2 := eql_not2 ⟨g2, 0, none⟩ w7
                go_wp2_with fail
                go_roundw
                case rel => exact ⟨k + 1, by omega, by go_num, HB7.out⟩
                case measure => simp [intOf]; omega
              · exact absurd he he2
            · have hxb := (hb.block _ (at_lt HXX.out)).trans HXX.out
              have y0 : w6.cell? ⟨Sb, 0, none⟩ = some (.int .u8 kk) := (blk_cell hxb 0).trans rfl
              have y1 : w6.cell? ⟨Sb, 1, none⟩ = some (.int .i64 2) := (blk_cell hxb 1).trans rfl
              have y2 : w6.cell? ⟨Sb, 2, none⟩ = some (.int .i64 3) := (blk_cell hxb 2).trans rfl
              have y3 : w6.cell? ⟨Sb, 3, none⟩ = some (.int .i64 x) := (blk_cell hxb 3).trans rfl
              have HB6 := hide (HB5.out.trans (hb.mono HB5.out.size))
              clear hb hxb c0 c1 c2 c3 HNW
              go_wp2_with fail
              refine (HRN.out w6).mono ?_
              rintro e w7 hT
              rcases hT with ⟨he2, g2, rfl, hb⟩ | ⟨he2, rfl, hb⟩
              · exact absurd he2 he
              · have HB7 := hide (HB6.out.trans (hb.mono HB6.out.size))
                clear hb y0 y1 y2 y3 HRN
                generalize newE kk 2 3 x = ne at *
                go_wp2_with fail
                go_roundw
                case rel => exact ⟨k + 1, by omega, by go_num, HB7.out⟩
                case measure => simp [intOf]; omega
        · obtain rfl : k = 27 := by omega
          go_wp2_with fail
          go_roundw
          case rel => exact ⟨i + 1, by omega, by go_num, HBK.out⟩
          case measure => simp [intOf]; omega
    · obtain rfl : i = 11 := by omega
      go_wp2_with fail
      generalize hSB : wr.heap.size = SB
      generalize hKB : SB + 1 = KB
      go_loopw [11, 12, 13] (fun u _ _ wq => ∃ i : Nat, i ≤ 8 ∧ u = .int .i64 i ∧ Below W1.heap.size W1 wq ∧ wq.heap[SB]? = some (.cells #[.int .u8 2, .int .i64 2, .int .i64 3, .int .i64 2] 25 (0, 0)) ∧ wq.heap[KB]? = some (.cells keyCells 9 (0, 0))) (fun u _ _ _ => 8 - (intOf u).toNat)
      case atStart =>
        subst hKB
        subst hSB
        obtain ⟨x1, x2⟩ := two_boxes wr (.cells #[.int .u8 2, .int .i64 2, .int .i64 3, .int .i64 2] 25) (.cells keyCells 9)
        exact ⟨0, by omega, rfl, HBI.out.trans ((below2 wr _ _).mono HBI.out.size), x1, x2⟩
      case round =>
        obtain ⟨i, hi, rfl, hb, hs, hkc⟩ := hrel
        have HBI := hide hb
        have HSI := hide hs
        have HKI := hide hkc
        clear hb hs hkc
        by_cases hi8 : i < 8
        · obtain ⟨ti, hti, hti3⟩ := key_at hi8
          have HTI := hide hti
          have i0 : (0 : Int) ≤ (i : Int) := by omega
          have i8 : (i : Int) < 8 := by omega
          clear hti
          go_wp2_with fail
          go_loopw [12, 13] (fun u _ wq => ∃ k : Nat, k ≤ 8 ∧ u = .int .i64 k ∧ Below W1.heap.size W1 wq ∧ wq.heap[SB]? = some (.cells #[.int .u8 2, .int .i64 2, .int .i64 3, .int .i64 2] 25 (0, 0)) ∧ wq.heap[KB]? = some (.cells keyCells 9 (0, 0))) (fun u _ _ => 8 - (intOf u).toNat)
          case atStart => exact ⟨0, by omega, rfl, HBI.out, HSI.out, HKI.out⟩
          case round =>
            obtain ⟨k, hk, rfl, hb, hs, hkc⟩ := hrel
            have HBK := hide hb
            have HSK := hide hs
            have HKK := hide hkc
            clear hb hs hkc
            by_cases hk8 : k < 8
            · obtain ⟨tk, htk, htk3⟩ := key_at hk8
              have HTK := hide htk
              have HKC : Hid (∀ W, Below wr.heap.size wr W → W.cell? ⟨KB, i, none⟩ = some (encStr ti) ∧ W.cell? ⟨KB, k, none⟩ = some (encStr tk)) := hide (fun W hW => by
                have h := (hW.block _ (at_lt HKK.out)).trans HKK.out
                exact ⟨key_cell h HTI.out, key_cell h HTK.out⟩)
              clear htk
              obtain ⟨ri, hri, hru, hr4⟩ := rem4 i hi8
              obtain ⟨rk, hrk, hrku, hrk4⟩ := rem4 k hk8
              obtain ⟨r3, tr, hr3, htr, htr3⟩ := rem3 k hk8
              obtain ⟨i1, hi1, hi64⟩ : ∃ i1 : Int, IntKind.i64.wrap ((i : Int) - 1) = i1 ∧ I64 i1 := ⟨(i : Int) - 1, IntWalk.i64_in _ (by omega), by unfold I64; omega⟩
              obtain ⟨k2, hk2, hk64⟩ : ∃ k2 : Int, IntKind.i64.wrap ((k : Int) - 2) = k2 ∧ I64 k2 := ⟨(k : Int) - 2, IntWalk.i64_in _ (by omega), by unfold I64; omega⟩
              unfold I64 at hi64 hk64
              have k0 : (0 : Int) ≤ (k : Int) := by omega
              have k8 : (k : Int) < 8 := by omega
              go_wp2_with fail
              rename_i K hK
              refine wp_tells4 (by kernel_rfl) (TH KB i k ti tk tr ri rk r3 i1 k2 wr.heap.size) (GH wr) (by kernel_rfl) (by kernel_rfl) (by kernel_rfl) (by kernel_rfl) ?_ (Below.refl _ _).drew ?_ ?_
              · intro q oj σ σ' W hj h hs
                have hi : q < 66 := (Array.getElem?_eq_some_iff.1 hj).1
                have h0 := hs q (.inl rfl)
                have hi' : q = 0 ∨ q = 1 ∨ q = 2 ∨ q = 3 ∨ q = 4 ∨ q = 5 ∨ q = 6 ∨ q = 7 ∨ q = 8 ∨ q = 9 ∨ q = 10 ∨ q = 11 ∨ q = 12 ∨ q = 13 ∨ q = 14 ∨ q = 15 ∨ q = 16 ∨ q = 17 ∨ q = 18 ∨ q = 19 ∨ q = 20 ∨ q = 21 ∨ q = 22 ∨ q = 23 ∨ q = 24 ∨ q = 25 ∨ q = 26 ∨ q = 27 ∨ q = 28 ∨ q = 29 ∨ q = 30 ∨ q = 31 ∨ q = 32 ∨ q = 33 ∨ q = 34 ∨ q = 35 ∨ q = 36 ∨ q = 37 ∨ q = 38 ∨ q = 39 ∨ q = 40 ∨ q = 41 ∨ q = 42 ∨ q = 43 ∨ q = 44 ∨ q = 45 ∨ q = 46 ∨ q = 47 ∨ q = 48 ∨ q = 49 ∨ q = 50 ∨ q = 51 ∨ q = 52 ∨ q = 53 ∨ q = 54 ∨ q = 55 ∨ q = 56 ∨ q = 57 ∨ q = 58 ∨ q = 59 ∨ q = 60 ∨ q = 61 ∨ q = 62 ∨ q = 63 ∨ q = 64 ∨ q = 65 := by omega
                rcases hi' with rfl | rfl | rfl | rfl | rfl | rfl | rfl | rfl | rfl | rfl | rfl | rfl | rfl | rfl | rfl | rfl | rfl | rfl | rfl | rfl | rfl | rfl | rfl | rfl | rfl | rfl | rfl | rfl | rfl | rfl | rfl | rfl | rfl | rfl | rfl | rfl | rfl | rfl | rfl | rfl | rfl | rfl | rfl | rfl | rfl | rfl | rfl | rfl | rfl | rfl | rfl | rfl | rfl | rfl | rfl | rfl | rfl | rfl | rfl | rfl | rfl | rfl | rfl | rfl | rfl | rfl
                all_goals (simp only [TH] at h ⊢; rw [h0]; exact h)
              · intro q o ho Dn a W hi hG hold hT hcl hh
                have hi2 : q < 66 := (Array.getElem?_eq_some_iff.1 ho).1
                have hi' : q = 0 ∨ q = 1 ∨ q = 2 ∨ q = 3 ∨ q = 4 ∨ q = 5 ∨ q = 6 ∨ q = 7 ∨ q = 8 ∨ q = 9 ∨ q = 10 ∨ q = 11 ∨ q = 12 ∨ q = 13 ∨ q = 14 ∨ q = 15 ∨ q = 16 ∨ q = 17 ∨ q = 18 ∨ q = 19 ∨ q = 20 ∨ q = 21 ∨ q = 22 ∨ q = 23 ∨ q = 24 ∨ q = 25 ∨ q = 26 ∨ q = 27 ∨ q = 28 ∨ q = 29 ∨ q = 30 ∨ q = 31 ∨ q = 32 ∨ q = 33 ∨ q = 34 ∨ q = 35 ∨ q = 36 ∨ q = 37 ∨ q = 38 ∨ q = 39 ∨ q = 40 ∨ q = 41 ∨ q = 42 ∨ q = 43 ∨ q = 44 ∨ q = 45 ∨ q = 46 ∨ q = 47 ∨ q = 48 ∨ q = 49 ∨ q = 50 ∨ q = 51 ∨ q = 52 ∨ q = 53 ∨ q = 54 ∨ q = 55 ∨ q = 56 ∨ q = 57 ∨ q = 58 ∨ q = 59 ∨ q = 60 ∨ q = 61 ∨ q = 62 ∨ q = 63 ∨ q = 64 ∨ q = 65 := by omega
                rcases hi' with rfl | rfl | rfl | rfl | rfl | rfl | rfl | rfl | rfl | rfl | rfl | rfl | rfl | rfl | rfl | rfl | rfl | rfl | rfl | rfl | rfl | rfl | rfl | rfl | rfl | rfl | rfl | rfl | rfl | rfl | rfl | rfl | rfl | rfl | rfl | rfl | rfl | rfl | rfl | rfl | rfl | rfl | rfl | rfl | rfl | rfl | rfl | rfl | rfl | rfl | rfl | rfl | rfl | rfl | rfl | rfl | rfl | rfl | rfl | rfl | rfl | rfl | rfl | rfl | rfl | rfl
                · cases ho
                  refine step4_told (.slice (some ⟨KB, 0, none⟩) 8 8) ?_ (by decide) hG hT rfl
                  have e0 : a.eval (.tmp 10) = .slice (some ⟨KB, 0, none⟩) 8 8 := hold 10 (unyet_of (by kernel_rfl))
                  generalize a.eval = ev at e0 ⊢
                  simp [execOp, go_sem, e0]
                · cases ho
                  refine step4_told (.int .i64 i) ?_ (by decide) hG hT rfl
                  have e0 : a.eval (.tmp 11) = .int .i64 i := hold 11 (unyet_of (by kernel_rfl))
                  generalize a.eval = ev at e0 ⊢
                  simp [execOp, go_sem, e0]
                · cases ho
                  refine step4_told (.pointer (some ⟨KB, i, none⟩)) ?_ (by decide) hG hT rfl
                  have e0 : a.eval (.tmp 84) = .slice (some ⟨KB, 0, none⟩) 8 8 := hT 0 (hh 0 rfl)
                  have e1 : a.eval (.tmp 85) = .int .i64 i := hT 1 (hh 1 rfl)
                  generalize a.eval = ev at e0 e1 ⊢
                  simp [execOp, go_sem, e0, e1, i0, i8]
                · cases ho
                  have x0 := (HKC.out W hG).1
                  refine step4_told (encStr ti) ?_ (by decide) hG hT rfl
                  have e0 : a.eval (.tmp 86) = .pointer (some ⟨KB, i, none⟩) := hT 2 (hh 2 rfl)
                  generalize a.eval = ev at e0 ⊢
                  simp [execOp, go_sem, e0, x0]
                · cases ho
                  have e0 : a.eval (.tmp 87) = encStr ti := hT 3 (hh 3 rfl)
                  obtain ⟨v, W', hrun, hl, hb⟩ := text_row W ti (by omega)
                  refine step4_turned v W' ?_ (by decide) (hG.trans (hb.mono hG.size)) (fun j hj => (hT j hj).mv (Mv.below hb)) hl
                  generalize a.eval = ev at e0 ⊢
                  simp [execOp, go_sem, e0, hrun]
                · cases ho
                  have hbw := below1 W (.cells #[.int .u8 120, .int .u8 121, .int .u8 122] 5)
                  refine step4_turned (.slice (some ⟨W.heap.size, 0, none⟩) 3 3) (W.alloc (.cells #[.int .u8 120, .int .u8 121, .int .u8 122] 5)) ?_ (by decide) (hG.trans (hbw.mono hG.size)) (fun j hj => (hT j hj).mv (Mv.below hbw)) ⟨W.heap.size, (0, 0), rfl, hG.size, World.alloc_heap_new W _⟩
                  have cc0 : a.eval (.const (.int .u8 120)) = .int .u8 120 := rfl
                  have cc1 : a.eval (.const (.int .u8 121)) = .int .u8 121 := rfl
                  have cc2 : a.eval (.const (.int .u8 122)) = .int .u8 122 := rfl
                  generalize a.eval = ev at cc0 cc1 cc2 ⊢
                  simp [execOp, go_sem, cc0, cc1, cc2]
                · cases ho
                  have h1 : Lit1 wr.heap.size (a.eval (.tmp 89)) [120, 121, 122] W := hT 5 (hh 5 rfl)
                  obtain ⟨vv, hvv⟩ : ∃ vv, a.eval (.tmp 89) = vv := ⟨_, rfl⟩
                  rw [hvv] at h1
                  obtain ⟨W', hrun, hl, hm, hb⟩ := conv_lit h1 (by decide) (by intro x hx; simp only [List.mem_cons, List.not_mem_nil, or_false] at hx; unfold IsByte; omega)
                  refine step4_turned vv W' ?_ (by decide) (hG.trans hb) (fun j hj => (hT j hj).mv hm) hl
                  generalize a.eval = ev at hvv ⊢
                  simp [execOp, go_sem, hvv, hrun]
                · cases ho
                  obtain ⟨r0, e0, hr0⟩ : LitT (a.eval (.tmp 88)) W := hT 4 (hh 4 rfl)
                  obtain ⟨r1, e1, hr1⟩ : LitT (a.eval (.tmp 90)) W := hT 6 (hh 6 rfl)
                  refine step4_told (.agg #[.int .i64 0, .slice r0.A r0.n r0.c, .slice r1.A r1.n r1.c, .int .u64 0, .int .i64 0, .int .i64 0]) ?_ (by decide) hG hT ⟨⟨0, r0, r1, 0, 0, 0⟩, rfl, hr0, hr1, by show I64 0; unfold I64; omega, by show 0 ≤ (0 : Int) ∧ (0 : Int) < _; omega, by show I64 0; unfold I64; omega, by show I64 0; unfold I64; omega⟩
                  generalize a.eval = ev at e0 e1 ⊢
                  simp [execOp, go_sem, e0, e1]
                · cases ho
                  refine step4_told (.slice (some ⟨KB, 0, none⟩) 8 8) ?_ (by decide) hG hT rfl
                  have e0 : a.eval (.tmp 10) = .slice (some ⟨KB, 0, none⟩) 8 8 := hold 10 (unyet_of (by kernel_rfl))
                  generalize a.eval = ev at e0 ⊢
                  simp [execOp, go_sem, e0]
                · cases ho
                  refine step4_told (.int .i64 k) ?_ (by decide) hG hT rfl
                  have e0 : a.eval (.tmp 12) = .int .i64 k := hold 12 (unyet_of (by kernel_rfl))
                  generalize a.eval = ev at e0 ⊢
                  simp [execOp, go_sem, e0]
                · cases ho
                  refine step4_told (.pointer (some ⟨KB, k, none⟩)) ?_ (by decide) hG hT rfl
                  have e0 : a.eval (.tmp 92) = .slice (some ⟨KB, 0, none⟩) 8 8 := hT 8 (hh 8 rfl)
                  have e1 : a.eval (.tmp 93) = .int .i64 k := hT 9 (hh 9 rfl)
                  generalize a.eval = ev at e0 e1 ⊢
                  simp [execOp, go_sem, e0, e1, k0, k8]
                · cases ho
                  have x0 := (HKC.out W hG).2
                  refine step4_told (encStr tk) ?_ (by decide) hG hT rfl
                  have e0 : a.eval (.tmp 94) = .pointer (some ⟨KB, k, none⟩) := hT 10 (hh 10 rfl)
                  generalize a.eval = ev at e0 ⊢
                  simp [execOp, go_sem, e0, x0]
                · cases ho
                  have e0 : a.eval (.tmp 95) = encStr tk := hT 11 (hh 11 rfl)
                  obtain ⟨v, W', hrun, hl, hb⟩ := text_row W tk (by omega)
                  refine step4_turned v W' ?_ (by decide) (hG.trans (hb.mono hG.size)) (fun j hj => (hT j hj).mv (Mv.below hb)) hl
                  generalize a.eval = ev at e0 ⊢
                  simp [execOp, go_sem, e0, hrun]
                · cases ho
                  have hbw := below1 W (.cells #[.int .u8 117, .int .u8 118, .int .u8 119] 5)
                  refine step4_turned (.slice (some ⟨W.heap.size, 0, none⟩) 3 3) (W.alloc (.cells #[.int .u8 117, .int .u8 118, .int .u8 119] 5)) ?_ (by decide) (hG.trans (hbw.mono hG.size)) (fun j hj => (hT j hj).mv (Mv.below hbw)) ⟨W.heap.size, (0, 0), rfl, hG.size, World.alloc_heap_new W _⟩
                  have cc0 : a.eval (.const (.int .u8 117)) = .int .u8 117 := rfl
                  have cc1 : a.eval (.const (.int .u8 118)) = .int .u8 118 := rfl
                  have cc2 : a.eval (.const (.int .u8 119)) = .int .u8 119 := rfl
                  generalize a.eval = ev at cc0 cc1 cc2 ⊢
                  simp [execOp, go_sem, cc0, cc1, cc2]
                · cases ho
                  have h1 : Lit1 wr.heap.size (a.eval (.tmp 97)) [117, 118, 119] W := hT 13 (hh 13 rfl)
                  obtain ⟨vv, hvv⟩ : ∃ vv, a.eval (.tmp 97) = vv := ⟨_, rfl⟩
                  rw [hvv] at h1
                  obtain ⟨W', hrun, hl, hm, hb⟩ := conv_lit h1 (by decide) (by intro x hx; simp only [List.mem_cons, List.not_mem_nil, or_false] at hx; unfold IsByte; omega)
                  refine step4_turned vv W' ?_ (by decide) (hG.trans hb) (fun j hj => (hT j hj).mv hm) hl
                  generalize a.eval = ev at hvv ⊢
                  simp [execOp, go_sem, hvv, hrun]
                · cases ho
                  refine step4_told (.int .i64 i) ?_ (by decide) hG hT rfl
                  have e0 : a.eval (.tmp 11) = .int .i64 i := hold 11 (unyet_of (by kernel_rfl))
                  generalize a.eval = ev at e0 ⊢
                  simp [execOp, go_sem, e0]
                · cases ho
                  refine step4_told (.int .i64 ri) ?_ (by decide) hG hT rfl
                  have e0 : a.eval (.tmp 99) = .int .i64 i := hT 15 (hh 15 rfl)
                  have cc0 : a.eval (.const (.int .i64 4)) = .int .i64 4 := rfl
                  generalize a.eval = ev at e0 cc0 ⊢
                  simp [execOp, go_sem, e0, cc0, hri]
                · cases ho
                  refine step4_told (.int .u64 ri) ?_ (by decide) hG hT rfl
                  have e0 : a.eval (.tmp 100) = .int .i64 ri := hT 16 (hh 16 rfl)
                  generalize a.eval = ev at e0 ⊢
                  simp [execOp, go_sem, e0, hru]
                · cases ho
                  obtain ⟨r0, e0, hr0⟩ : LitT (a.eval (.tmp 96)) W := hT 12 (hh 12 rfl)
                  obtain ⟨r1, e1, hr1⟩ : LitT (a.eval (.tmp 98)) W := hT 14 (hh 14 rfl)
                  have e2 : a.eval (.tmp 101) = .int .u64 ri := hT 17 (hh 17 rfl)
                  refine step4_told (.agg #[.int .i64 0, .slice r0.A r0.n r0.c, .slice r1.A r1.n r1.c, .int .u64 ri, .int .i64 0, .int .i64 0]) ?_ (by decide) hG hT ⟨⟨0, r0, r1, ri, 0, 0⟩, rfl, hr0, hr1, by show I64 0; unfold I64; omega, by show 0 ≤ (ri : Int) ∧ (ri : Int) < _; omega, by show I64 0; unfold I64; omega, by show I64 0; unfold I64; omega⟩
                  generalize a.eval = ev at e0 e1 e2 ⊢
                  simp [execOp, go_sem, e0, e1, e2]
                · cases ho
                  have hbw := below1 W (.cells #[.int .u8 99, .int .u8 99] 5)
                  refine step4_turned (.slice (some ⟨W.heap.size, 0, none⟩) 2 2) (W.alloc (.cells #[.int .u8 99, .int .u8 99] 5)) ?_ (by decide) (hG.trans (hbw.mono hG.size)) (fun j hj => (hT j hj).mv (Mv.below hbw)) ⟨W.heap.size, (0, 0), rfl, hG.size, World.alloc_heap_new W _⟩
                  have cc0 : a.eval (.const (.int .u8 99)) = .int .u8 99 := rfl
                  generalize a.eval = ev at cc0 ⊢
                  simp [execOp, go_sem, cc0]
                · cases ho
                  have h1 : Lit1 wr.heap.size (a.eval (.tmp 103)) [99, 99] W := hT 19 (hh 19 rfl)
                  obtain ⟨vv, hvv⟩ : ∃ vv, a.eval (.tmp 103) = vv := ⟨_, rfl⟩
                  rw [hvv] at h1
                  obtain ⟨W', hrun, hl, hm, hb⟩ := conv_lit h1 (by decide) (by intro x hx; simp only [List.mem_cons, List.not_mem_nil, or_false] at hx; unfold IsByte; omega)
                  refine step4_turned vv W' ?_ (by decide) (hG.trans hb) (fun j hj => (hT j hj).mv hm) hl
                  generalize a.eval = ev at hvv ⊢
                  simp [execOp, go_sem, hvv, hrun]
                · cases ho
                  have hbw := below1 W (.cells #[.int .u8 114, .int .u8 115, .int .u8 116] 5)
                  refine step4_turned (.slice (some ⟨W.heap.size, 0, none⟩) 3 3) (W.alloc (.cells #[.int .u8 114, .int .u8 115, .int .u8 116] 5)) ?_ (by decide) (hG.trans (hbw.mono hG.size)) (fun j hj => (hT j hj).mv (Mv.below hbw)) ⟨W.heap.size, (0, 0), rfl, hG.size, World.alloc_heap_new W _⟩
                  have cc0 : a.eval (.const (.int .u8 114)) = .int .u8 114 := rfl
                  have cc1 : a.eval (.const (.int .u8 115)) = .int .u8 115 := rfl
                  have cc2 : a.eval (.const (.int .u8 116)) = .int .u8 116 := rfl
                  generalize a.eval = ev at cc0 cc1 cc2 ⊢
                  simp [execOp, go_sem, cc0, cc1, cc2]
                · cases ho
                  have h1 : Lit1 wr.heap.size (a.eval (.tmp 105)) [114, 115, 116] W := hT 21 (hh 21 rfl)
                  obtain ⟨vv, hvv⟩ : ∃ vv, a.eval (.tmp 105) = vv := ⟨_, rfl⟩
                  rw [hvv] at h1
                  obtain ⟨W', hrun, hl, hm, hb⟩ := conv_lit h1 (by decide) (by intro x hx; simp only [List.mem_cons, List.not_mem_nil, or_false] at hx; unfold IsByte; omega)
                  refine step4_turned vv W' ?_ (by decide) (hG.trans hb) (fun j hj => (hT j hj).mv hm) hl
                  generalize a.eval = ev at hvv ⊢
                  simp [execOp, go_sem, hvv, hrun]
                · cases ho
                  refine step4_told (.int .i64 k) ?_ (by decide) hG hT rfl
                  have e0 : a.eval (.tmp 12) = .int .i64 k := hold 12 (unyet_of (by kernel_rfl))
                  generalize a.eval = ev at e0 ⊢
                  simp [execOp, go_sem, e0]
                · cases ho
                  refine step4_told (.int .i64 rk) ?_ (by decide) hG hT rfl
                  have e0 : a.eval (.tmp 107) = .int .i64 k := hT 23 (hh 23 rfl)
                  have cc0 : a.eval (.const (.int .i64 4)) = .int .i64 4 := rfl
                  generalize a.eval = ev at e0 cc0 ⊢
                  simp [execOp, go_sem, e0, cc0, hrk]
                · cases ho
                  refine step4_told (.int .u64 rk) ?_ (by decide) hG hT rfl
                  have e0 : a.eval (.tmp 108) = .int .i64 rk := hT 24 (hh 24 rfl)
                  generalize a.eval = ev at e0 ⊢
                  simp [execOp, go_sem, e0, hrku]
                · cases ho
                  obtain ⟨r0, e0, hr0⟩ : LitT (a.eval (.tmp 104)) W := hT 20 (hh 20 rfl)
                  obtain ⟨r1, e1, hr1⟩ : LitT (a.eval (.tmp 106)) W := hT 22 (hh 22 rfl)
                  have e2 : a.eval (.tmp 109) = .int .u64 rk := hT 25 (hh 25 rfl)
                  refine step4_told (.agg #[.int .i64 0, .slice r0.A r0.n r0.c, .slice r1.A r1.n r1.c, .int .u64 rk, .int .i64 0, .int .i64 0]) ?_ (by decide) hG hT ⟨⟨0, r0, r1, rk, 0, 0⟩, rfl, hr0, hr1, by show I64 0; unfold I64; omega, by show 0 ≤ (rk : Int) ∧ (rk : Int) < _; omega, by show I64 0; unfold I64; omega, by show I64 0; unfold I64; omega⟩
                  generalize a.eval = ev at e0 e1 e2 ⊢
                  simp [execOp, go_sem, e0, e1, e2]
                · cases ho
                  refine step4_told (.slice (some ⟨KB, 0, none⟩) 8 8) ?_ (by decide) hG hT rfl
                  have e0 : a.eval (.tmp 10) = .slice (some ⟨KB, 0, none⟩) 8 8 := hold 10 (unyet_of (by kernel_rfl))
                  generalize a.eval = ev at e0 ⊢
                  simp [execOp, go_sem, e0]
                · cases ho
                  refine step4_told (.int .i64 i) ?_ (by decide) hG hT rfl
                  have e0 : a.eval (.tmp 11) = .int .i64 i := hold 11 (unyet_of (by kernel_rfl))
                  generalize a.eval = ev at e0 ⊢
                  simp [execOp, go_sem, e0]
                · cases ho
                  refine step4_told (.pointer (some ⟨KB, i, none⟩)) ?_ (by decide) hG hT rfl
                  have e0 : a.eval (.tmp 111) = .slice (some ⟨KB, 0, none⟩) 8 8 := hT 27 (hh 27 rfl)
                  have e1 : a.eval (.tmp 112) = .int .i64 i := hT 28 (hh 28 rfl)
                  generalize a.eval = ev at e0 e1 ⊢
                  simp [execOp, go_sem, e0, e1, i0, i8]
                · cases ho
                  have x0 := (HKC.out W hG).1
                  refine step4_told (encStr ti) ?_ (by decide) hG hT rfl
                  have e0 : a.eval (.tmp 113) = .pointer (some ⟨KB, i, none⟩) := hT 29 (hh 29 rfl)
                  generalize a.eval = ev at e0 ⊢
                  simp [execOp, go_sem, e0, x0]
                · cases ho
                  have e0 : a.eval (.tmp 114) = encStr ti := hT 30 (hh 30 rfl)
                  obtain ⟨v, W', hrun, hl, hb⟩ := text_row W ti (by omega)
                  refine step4_turned v W' ?_ (by decide) (hG.trans (hb.mono hG.size)) (fun j hj => (hT j hj).mv (Mv.below hb)) hl
                  generalize a.eval = ev at e0 ⊢
                  simp [execOp, go_sem, e0, hrun]
                · cases ho
                  obtain ⟨r0, e0, hr0⟩ : LitT (a.eval (.tmp 115)) W := hT 31 (hh 31 rfl)
                  have cc0 : a.eval (.const (.int .i64 4)) = .int .i64 4 := rfl
                  refine step4_told (.agg #[.int .i64 4, .slice r0.A r0.n r0.c, .slice none 0 0, .int .u64 0, .int .i64 0, .int .i64 0]) ?_ (by decide) hG hT ⟨⟨4, r0, ⟨none, 0, 0, []⟩, 0, 0, 0⟩, rfl, hr0, noRow_in W, by show I64 4; unfold I64; omega, by show 0 ≤ (0 : Int) ∧ (0 : Int) < _; omega, by show I64 0; unfold I64; omega, by show I64 0; unfold I64; omega⟩
                  generalize a.eval = ev at e0 cc0 ⊢
                  simp [execOp, go_sem, e0, cc0]
                · cases ho
                  refine step4_told (.slice (some ⟨KB, 0, none⟩) 8 8) ?_ (by decide) hG hT rfl
                  have e0 : a.eval (.tmp 10) = .slice (some ⟨KB, 0, none⟩) 8 8 := hold 10 (unyet_of (by kernel_rfl))
                  generalize a.eval = ev at e0 ⊢
                  simp [execOp, go_sem, e0]
                · cases ho
                  refine step4_told (.int .i64 k) ?_ (by decide) hG hT rfl
                  have e0 : a.eval (.tmp 12) = .int .i64 k := hold 12 (unyet_of (by kernel_rfl))
                  generalize a.eval = ev at e0 ⊢
                  simp [execOp, go_sem, e0]
                · cases ho
                  refine step4_told (.pointer (some ⟨KB, k, none⟩)) ?_ (by decide) hG hT rfl
                  have e0 : a.eval (.tmp 117) = .slice (some ⟨KB, 0, none⟩) 8 8 := hT 33 (hh 33 rfl)
                  have e1 : a.eval (.tmp 118) = .int .i64 k := hT 34 (hh 34 rfl)
                  generalize a.eval = ev at e0 e1 ⊢
                  simp [execOp, go_sem, e0, e1, k0, k8]
                · cases ho
                  have x0 := (HKC.out W hG).2
                  refine step4_told (encStr tk) ?_ (by decide) hG hT rfl
                  have e0 : a.eval (.tmp 119) = .pointer (some ⟨KB, k, none⟩) := hT 35 (hh 35 rfl)
                  generalize a.eval = ev at e0 ⊢
                  simp [execOp, go_sem, e0, x0]
                · cases ho
                  have e0 : a.eval (.tmp 120) = encStr tk := hT 36 (hh 36 rfl)
                  obtain ⟨v, W', hrun, hl, hb⟩ := text_row W tk (by omega)
                  refine step4_turned v W' ?_ (by decide) (hG.trans (hb.mono hG.size)) (fun j hj => (hT j hj).mv (Mv.below hb)) hl
                  generalize a.eval = ev at e0 ⊢
                  simp [execOp, go_sem, e0, hrun]
                · cases ho
                  refine step4_told (.int .i64 k) ?_ (by decide) hG hT rfl
                  have e0 : a.eval (.tmp 12) = .int .i64 k := hold 12 (unyet_of (by kernel_rfl))
                  generalize a.eval = ev at e0 ⊢
                  simp [execOp, go_sem, e0]
                · cases ho
                  refine step4_told (.int .i64 r3) ?_ (by decide) hG hT rfl
                  have e0 : a.eval (.tmp 122) = .int .i64 k := hT 38 (hh 38 rfl)
                  have cc0 : a.eval (.const (.int .i64 3)) = .int .i64 3 := rfl
                  generalize a.eval = ev at e0 cc0 ⊢
                  simp [execOp, go_sem, e0, cc0, hr3]
                · cases ho
                  refine step4_told (encStr tr) ?_ (by decide) hG hT rfl
                  have e0 : a.eval (.tmp 123) = .int .i64 r3 := hT 39 (hh 39 rfl)
                  have cc0 : a.eval (.const (.string ⟨#[97, 98]⟩)) = .string ⟨#[97, 98]⟩ := rfl
                  generalize a.eval = ev at e0 cc0 ⊢
                  rcases htr with ⟨hq, rfl⟩ | ⟨hq, rfl⟩ | ⟨hq, rfl⟩
                  all_goals
                    rw [hq] at e0
                    simp [execOp, go_sem, e0, cc0, encStr]
                    first
                      | rfl
                      | decide +kernel
                · cases ho
                  have e0 : a.eval (.tmp 124) = encStr tr := hT 40 (hh 40 rfl)
                  obtain ⟨v, W', hrun, hl, hb⟩ := text_row W tr (by omega)
                  refine step4_turned v W' ?_ (by decide) (hG.trans (hb.mono hG.size)) (fun j hj => (hT j hj).mv (Mv.below hb)) hl
                  generalize a.eval = ev at e0 ⊢
                  simp [execOp, go_sem, e0, hrun]
                · cases ho
                  obtain ⟨r0, e0, hr0⟩ : LitT (a.eval (.tmp 121)) W := hT 37 (hh 37 rfl)
                  obtain ⟨r1, e1, hr1⟩ : LitT (a.eval (.tmp 125)) W := hT 41 (hh 41 rfl)
                  refine step4_told (.agg #[.int .i64 0, .slice r0.A r0.n r0.c, .slice r1.A r1.n r1.c, .int .u64 0, .int .i64 0, .int .i64 0]) ?_ (by decide) hG hT ⟨⟨0, r0, r1, 0, 0, 0⟩, rfl, hr0, hr1, by show I64 0; unfold I64; omega, by show 0 ≤ (0 : Int) ∧ (0 : Int) < _; omega, by show I64 0; unfold I64; omega, by show I64 0; unfold I64; omega⟩
                  generalize a.eval = ev at e0 e1 ⊢
                  simp [execOp, go_sem, e0, e1]
                · cases ho
                  refine step4_told (.int .i64 i) ?_ (by decide) hG hT rfl
                  have e0 : a.eval (.tmp 11) = .int .i64 i := hold 11 (unyet_of (by kernel_rfl))
                  generalize a.eval = ev at e0 ⊢
                  simp [execOp, go_sem, e0]
                · cases ho
                  refine step4_told (.int .i64 i1) ?_ (by decide) hG hT rfl
                  have e0 : a.eval (.tmp 127) = .int .i64 i := hT 43 (hh 43 rfl)
                  have cc0 : a.eval (.const (.int .i64 1)) = .int .i64 1 := rfl
                  generalize a.eval = ev at e0 cc0 ⊢
                  simp [execOp, go_sem, e0, cc0, hi1]
                · cases ho
                  refine step4_told (.int .i64 k) ?_ (by decide) hG hT rfl
                  have e0 : a.eval (.tmp 12) = .int .i64 k := hold 12 (unyet_of (by kernel_rfl))
                  generalize a.eval = ev at e0 ⊢
                  simp [execOp, go_sem, e0]
                · cases ho
                  refine step4_told (.int .i64 k2) ?_ (by decide) hG hT rfl
                  have e0 : a.eval (.tmp 129) = .int .i64 k := hT 45 (hh 45 rfl)
                  have cc0 : a.eval (.const (.int .i64 2)) = .int .i64 2 := rfl
                  generalize a.eval = ev at e0 cc0 ⊢
                  simp [execOp, go_sem, e0, cc0, hk2]
                · cases ho
                  have hbw := below1 W (.cells #[.int .u8 33, .int .u8 33] 5)
                  refine step4_turned (.slice (some ⟨W.heap.size, 0, none⟩) 2 2) (W.alloc (.cells #[.int .u8 33, .int .u8 33] 5)) ?_ (by decide) (hG.trans (hbw.mono hG.size)) (fun j hj => (hT j hj).mv (Mv.below hbw)) ⟨W.heap.size, (0, 0), rfl, hG.size, World.alloc_heap_new W _⟩
                  have cc0 : a.eval (.const (.int .u8 33)) = .int .u8 33 := rfl
                  generalize a.eval = ev at cc0 ⊢
                  simp [execOp, go_sem, cc0]
                · cases ho
                  have h1 : Lit1 wr.heap.size (a.eval (.tmp 131)) [33, 33] W := hT 47 (hh 47 rfl)
                  obtain ⟨vv, hvv⟩ : ∃ vv, a.eval (.tmp 131) = vv := ⟨_, rfl⟩
                  rw [hvv] at h1
                  obtain ⟨W', hrun, hl, hm, hb⟩ := conv_lit h1 (by decide) (by intro x hx; simp only [List.mem_cons, List.not_mem_nil, or_false] at hx; unfold IsByte; omega)
                  refine step4_turned vv W' ?_ (by decide) (hG.trans hb) (fun j hj => (hT j hj).mv hm) hl
                  generalize a.eval = ev at hvv ⊢
                  simp [execOp, go_sem, hvv, hrun]
                · cases ho
                  obtain ⟨r0, e0, hr0⟩ : LitT (a.eval (.tmp 132)) W := hT 48 (hh 48 rfl)
                  have e1 : a.eval (.tmp 128) = .int .i64 i1 := hT 44 (hh 44 rfl)
                  have e2 : a.eval (.tmp 130) = .int .i64 k2 := hT 46 (hh 46 rfl)
                  have cc0 : a.eval (.const (.int .i64 3)) = .int .i64 3 := rfl
                  refine step4_told (.agg #[.int .i64 3, .slice none 0 0, .slice r0.A r0.n r0.c, .int .u64 0, .int .i64 i1, .int .i64 k2]) ?_ (by decide) hG hT ⟨⟨3, ⟨none, 0, 0, []⟩, r0, 0, i1, k2⟩, rfl, noRow_in W, hr0, by show I64 3; unfold I64; omega, by show 0 ≤ (0 : Int) ∧ (0 : Int) < _; omega, by show I64 i1; unfold I64; omega, by show I64 k2; unfold I64; omega⟩
                  generalize a.eval = ev at e0 e1 e2 cc0 ⊢
                  simp [execOp, go_sem, e0, e1, e2, cc0]
                · cases ho
                  have hbw := below1 W (.cells #[.int .u8 100, .int .u8 100] 5)
                  refine step4_turned (.slice (some ⟨W.heap.size, 0, none⟩) 2 2) (W.alloc (.cells #[.int .u8 100, .int .u8 100] 5)) ?_ (by decide) (hG.trans (hbw.mono hG.size)) (fun j hj => (hT j hj).mv (Mv.below hbw)) ⟨W.heap.size, (0, 0), rfl, hG.size, World.alloc_heap_new W _⟩
                  have cc0 : a.eval (.const (.int .u8 100)) = .int .u8 100 := rfl
                  generalize a.eval = ev at cc0 ⊢
                  simp [execOp, go_sem, cc0]
                · cases ho
                  have h1 : Lit1 wr.heap.size (a.eval (.tmp 134)) [100, 100] W := hT 50 (hh 50 rfl)
                  obtain ⟨vv, hvv⟩ : ∃ vv, a.eval (.tmp 134) = vv := ⟨_, rfl⟩
                  rw [hvv] at h1
                  obtain ⟨W', hrun, hl, hm, hb⟩ := conv_lit h1 (by decide) (by intro x hx; simp only [List.mem_cons, List.not_mem_nil, or_false] at hx; unfold IsByte; omega)
                  refine step4_turned vv W' ?_ (by decide) (hG.trans hb) (fun j hj => (hT j hj).mv hm) hl
                  generalize a.eval = ev at hvv ⊢
                  simp [execOp, go_sem, hvv, hrun]
                · cases ho
                  have hbw := below1 W (.cells #[.int .u8 108, .int .u8 109, .int .u8 110] 5)
                  refine step4_turned (.slice (some ⟨W.heap.size, 0, none⟩) 3 3) (W.alloc (.cells #[.int .u8 108, .int .u8 109, .int .u8 110] 5)) ?_ (by decide) (hG.trans (hbw.mono hG.size)) (fun j hj => (hT j hj).mv (Mv.below hbw)) ⟨W.heap.size, (0, 0), rfl, hG.size, World.alloc_heap_new W _⟩
                  have cc0 : a.eval (.const (.int .u8 108)) = .int .u8 108 := rfl
                  have cc1 : a.eval (.const (.int .u8 109)) = .int .u8 109 := rfl
                  have cc2 : a.eval (.const (.int .u8 110)) = .int .u8 110 := rfl
                  generalize a.eval = ev at cc0 cc1 cc2 ⊢
                  simp [execOp, go_sem, cc0, cc1, cc2]
                · cases ho
                  have h1 : Lit1 wr.heap.size (a.eval (.tmp 136)) [108, 109, 110] W := hT 52 (hh 52 rfl)
                  obtain ⟨vv, hvv⟩ : ∃ vv, a.eval (.tmp 136) = vv := ⟨_, rfl⟩
                  rw [hvv] at h1
                  obtain ⟨W', hrun, hl, hm, hb⟩ := conv_lit h1 (by decide) (by intro x hx; simp only [List.mem_cons, List.not_mem_nil, or_false] at hx; unfold IsByte; omega)
                  refine step4_turned vv W' ?_ (by decide) (hG.trans hb) (fun j hj => (hT j hj).mv hm) hl
                  generalize a.eval = ev at hvv ⊢
                  simp [execOp, go_sem, hvv, hrun]
                · cases ho
                  obtain ⟨r0, e0, hr0⟩ : LitT (a.eval (.tmp 135)) W := hT 51 (hh 51 rfl)
                  obtain ⟨r1, e1, hr1⟩ : LitT (a.eval (.tmp 137)) W := hT 53 (hh 53 rfl)
                  have cc0 : a.eval (.const (.int .u64 1)) = .int .u64 1 := rfl
                  refine step4_told (.agg #[.int .i64 0, .slice r0.A r0.n r0.c, .slice r1.A r1.n r1.c, .int .u64 1, .int .i64 0, .int .i64 0]) ?_ (by decide) hG hT ⟨⟨0, r0, r1, 1, 0, 0⟩, rfl, hr0, hr1, by show I64 0; unfold I64; omega, by show 0 ≤ (1 : Int) ∧ (1 : Int) < _; omega, by show I64 0; unfold I64; omega, by show I64 0; unfold I64; omega⟩
                  generalize a.eval = ev at e0 e1 cc0 ⊢
                  simp [execOp, go_sem, e0, e1, cc0]
                · cases ho
                  refine step4_told (.slice (some ⟨KB, 0, none⟩) 8 8) ?_ (by decide) hG hT rfl
                  have e0 : a.eval (.tmp 10) = .slice (some ⟨KB, 0, none⟩) 8 8 := hold 10 (unyet_of (by kernel_rfl))
                  generalize a.eval = ev at e0 ⊢
                  simp [execOp, go_sem, e0]
                · cases ho
                  refine step4_told (.int .i64 k) ?_ (by decide) hG hT rfl
                  have e0 : a.eval (.tmp 12) = .int .i64 k := hold 12 (unyet_of (by kernel_rfl))
                  generalize a.eval = ev at e0 ⊢
                  simp [execOp, go_sem, e0]
                · cases ho
                  refine step4_told (.pointer (some ⟨KB, k, none⟩)) ?_ (by decide) hG hT rfl
                  have e0 : a.eval (.tmp 139) = .slice (some ⟨KB, 0, none⟩) 8 8 := hT 55 (hh 55 rfl)
                  have e1 : a.eval (.tmp 140) = .int .i64 k := hT 56 (hh 56 rfl)
                  generalize a.eval = ev at e0 e1 ⊢
                  simp [execOp, go_sem, e0, e1, k0, k8]
                · cases ho
                  have x0 := (HKC.out W hG).2
                  refine step4_told (encStr tk) ?_ (by decide) hG hT rfl
                  have e0 : a.eval (.tmp 141) = .pointer (some ⟨KB, k, none⟩) := hT 57 (hh 57 rfl)
                  generalize a.eval = ev at e0 ⊢
                  simp [execOp, go_sem, e0, x0]
                · cases ho
                  have e0 : a.eval (.tmp 142) = encStr tk := hT 58 (hh 58 rfl)
                  obtain ⟨v, W', hrun, hl, hb⟩ := text_row W tk (by omega)
                  refine step4_turned v W' ?_ (by decide) (hG.trans (hb.mono hG.size)) (fun j hj => (hT j hj).mv (Mv.below hb)) hl
                  generalize a.eval = ev at e0 ⊢
                  simp [execOp, go_sem, e0, hrun]
                · cases ho
                  obtain ⟨r0, e0, hr0⟩ : LitT (a.eval (.tmp 143)) W := hT 59 (hh 59 rfl)
                  have cc0 : a.eval (.const (.int .i64 4)) = .int .i64 4 := rfl
                  refine step4_told (.agg #[.int .i64 4, .slice r0.A r0.n r0.c, .slice none 0 0, .int .u64 0, .int .i64 0, .int .i64 0]) ?_ (by decide) hG hT ⟨⟨4, r0, ⟨none, 0, 0, []⟩, 0, 0, 0⟩, rfl, hr0, noRow_in W, by show I64 4; unfold I64; omega, by show 0 ≤ (0 : Int) ∧ (0 : Int) < _; omega, by show I64 0; unfold I64; omega, by show I64 0; unfold I64; omega⟩
                  generalize a.eval = ev at e0 cc0 ⊢
                  simp [execOp, go_sem, e0, cc0]
                · cases ho
                  have hbw := below1 W (.cells #[.int .u8 100, .int .u8 100] 5)
                  refine step4_turned (.slice (some ⟨W.heap.size, 0, none⟩) 2 2) (W.alloc (.cells #[.int .u8 100, .int .u8 100] 5)) ?_ (by decide) (hG.trans (hbw.mono hG.size)) (fun j hj => (hT j hj).mv (Mv.below hbw)) ⟨W.heap.size, (0, 0), rfl, hG.size, World.alloc_heap_new W _⟩
                  have cc0 : a.eval (.const (.int .u8 100)) = .int .u8 100 := rfl
                  generalize a.eval = ev at cc0 ⊢
                  simp [execOp, go_sem, cc0]
                · cases ho
                  have h1 : Lit1 wr.heap.size (a.eval (.tmp 145)) [100, 100] W := hT 61 (hh 61 rfl)
                  obtain ⟨vv, hvv⟩ : ∃ vv, a.eval (.tmp 145) = vv := ⟨_, rfl⟩
                  rw [hvv] at h1
                  obtain ⟨W', hrun, hl, hm, hb⟩ := conv_lit h1 (by decide) (by intro x hx; simp only [List.mem_cons, List.not_mem_nil, or_false] at hx; unfold IsByte; omega)
                  refine step4_turned vv W' ?_ (by decide) (hG.trans hb) (fun j hj => (hT j hj).mv hm) hl
                  generalize a.eval = ev at hvv ⊢
                  simp [execOp, go_sem, hvv, hrun]
                · cases ho
                  obtain ⟨r0, e0, hr0⟩ : LitT (a.eval (.tmp 146)) W := hT 62 (hh 62 rfl)
                  have cc0 : a.eval (.const (.int .i64 2)) = .int .i64 2 := rfl
                  refine step4_told (.agg #[.int .i64 2, .slice r0.A r0.n r0.c, .slice none 0 0, .int .u64 0, .int .i64 0, .int .i64 0]) ?_ (by decide) hG hT ⟨⟨2, r0, ⟨none, 0, 0, []⟩, 0, 0, 0⟩, rfl, hr0, noRow_in W, by show I64 2; unfold I64; omega, by show 0 ≤ (0 : Int) ∧ (0 : Int) < _; omega, by show I64 0; unfold I64; omega, by show I64 0; unfold I64; omega⟩
                  generalize a.eval = ev at e0 cc0 ⊢
                  simp [execOp, go_sem, e0, cc0]
                · cases ho
                  obtain ⟨d0, e0, hd0⟩ : DoT (a.eval (.tmp 91)) W := hT 7 (hh 7 rfl)
                  obtain ⟨d1, e1, hd1⟩ : DoT (a.eval (.tmp 102)) W := hT 18 (hh 18 rfl)
                  obtain ⟨d2, e2, hd2⟩ : DoT (a.eval (.tmp 110)) W := hT 26 (hh 26 rfl)
                  obtain ⟨d3, e3, hd3⟩ : DoT (a.eval (.tmp 116)) W := hT 32 (hh 32 rfl)
                  obtain ⟨d4, e4, hd4⟩ : DoT (a.eval (.tmp 126)) W := hT 42 (hh 42 rfl)
                  obtain ⟨d5, e5, hd5⟩ : DoT (a.eval (.tmp 133)) W := hT 49 (hh 49 rfl)
                  obtain ⟨d6, e6, hd6⟩ : DoT (a.eval (.tmp 138)) W := hT 54 (hh 54 rfl)
                  obtain ⟨d7, e7, hd7⟩ : DoT (a.eval (.tmp 144)) W := hT 60 (hh 60 rfl)
                  obtain ⟨d8, e8, hd8⟩ : DoT (a.eval (.tmp 147)) W := hT 63 (hh 63 rfl)
                  have hbw := below1 W (.cells ([d0, d1, d2, d3, d4, d5, d6, d7, d8].flatMap ADo.cells).toArray 37)
                  have hrd := cells_rd W ([d0, d1, d2, d3, d4, d5, d6, d7, d8].flatMap ADo.cells) 37 6 9 rfl
                  refine step4_turned (.slice (some ⟨W.heap.size, 0, none⟩) 9 9) (W.alloc (.cells ([d0, d1, d2, d3, d4, d5, d6, d7, d8].flatMap ADo.cells).toArray 37)) ?_ (by decide) (hG.trans (hbw.mono hG.size)) (fun j hj => (hT j hj).mv (Mv.below hbw)) ⟨W.heap.size, [d0, d1, d2, d3, d4, d5, d6, d7, d8], rfl, hrd.mono (by simp), fun d hd => by
                    simp only [List.mem_cons, List.not_mem_nil, or_false] at hd
                    rcases hd with rfl | rfl | rfl | rfl | rfl | rfl | rfl | rfl | rfl
                    · exact hd0.mv (Mv.below hbw)
                    · exact hd1.mv (Mv.below hbw)
                    · exact hd2.mv (Mv.below hbw)
                    · exact hd3.mv (Mv.below hbw)
                    · exact hd4.mv (Mv.below hbw)
                    · exact hd5.mv (Mv.below hbw)
                    · exact hd6.mv (Mv.below hbw)
                    · exact hd7.mv (Mv.below hbw)
                    · exact hd8.mv (Mv.below hbw)⟩
                  generalize a.eval = ev at e0 e1 e2 e3 e4 e5 e6 e7 e8 ⊢
                  simp [execOp, go_sem, e0, e1, e2, e3, e4, e5, e6, e7, e8, ADo.cells]
                · cases ho
                  have ht : EsT (a.eval (.tmp 148)) W := hT 64 (hh 64 rfl)
                  obtain ⟨vv, hvv⟩ : ∃ vv, a.eval (.tmp 148) = vv := ⟨_, rfl⟩
                  rw [hvv] at ht
                  refine step4_told vv ?_ (by decide) hG hT ht
                  generalize a.eval = ev at hvv ⊢
                  simp [execOp, go_sem, hvv]
              · intro a W hd hs hold hT hG
                obtain ⟨gD, es, hev, hAD⟩ : EsT (a.tmps.getD 13 undef) W := hT 65 (by decide)
                obtain ⟨f, hf, ha⟩ := act_puts [13, 84, 85, 86, 87, 88, 89, 90, 91, 92, 93, 94, 95, 96, 97, 98, 99, 100, 101, 102, 103, 104, 105, 106, 107, 108, 109, 110, 111, 112, 113, 114, 115, 116, 117, 118, 119, 120, 121, 122, 123, 124, 125, 126, 127, 128, 129, 130, 131, 132, 133, 134, 135, 136, 137, 138, 139, 140, 141, 142, 143, 144, 145, 146, 147, 148] (fun t ht => written_in ht [13, 84, 85, 86, 87, 88, 89, 90, 91, 92, 93, 94, 95, 96, 97, 98, 99, 100, 101, 102, 103, 104, 105, 106, 107, 108, 109, 110, 111, 112, 113, 114, 115, 116, 117, 118, 119, 120, 121, 122, 123, 124, 125, 126, 127, 128, 129, 130, 131, 132, 133, 134, 135, 136, 137, 138, 139, 140, 141, 142, 143, 144, 145, 146, 147, 148] (by kernel_rfl)) (fun t ht => by
                  have hsz : t < 162 := by
                    simp only [List.mem_cons, List.mem_nil_iff, or_false] at ht
                    omega
                  exact hsz) hd hs hold
                rw [← hf 13] at hev
                have HAD := hide hAD
                have HG : Hid (Below wr.heap.size wr W) := hide hG
                have HBW := hide (HBK.out.trans (HG.out.mono HBK.out.size))
                have hsp := (HG.out.block _ (at_lt HSK.out)).trans HSK.out
                have HSW := hide hsp
                have HKW := hide ((HG.out.block _ (at_lt HKK.out)).trans HKK.out)
                have y0 : W.cell? ⟨SB, 0, none⟩ = some (.int .u8 2) := (blk_cell hsp 0).trans rfl
                have y1 : W.cell? ⟨SB, 1, none⟩ = some (.int .i64 2) := (blk_cell hsp 1).trans rfl
                have y2 : W.cell? ⟨SB, 2, none⟩ = some (.int .i64 3) := (blk_cell hsp 2).trans rfl
                have y3 : W.cell? ⟨SB, 3, none⟩ = some (.int .i64 2) := (blk_cell hsp 3).trans rfl
                subst ha
                clear hd hs hold hT hf hG hAD hsp
                simp only [List.foldl_cons, List.foldl_nil, hev]
                generalize f 84 = z84
                generalize f 85 = z85
                generalize f 86 = z86
                generalize f 87 = z87
                generalize f 88 = z88
                generalize f 89 = z89
                generalize f 90 = z90
                generalize f 91 = z91
                generalize f 92 = z92
                generalize f 93 = z93
                generalize f 94 = z94
                generalize f 95 = z95
                generalize f 96 = z96
                generalize f 97 = z97
                generalize f 98 = z98
                generalize f 99 = z99
                generalize f 100 = z100
                generalize f 101 = z101
                generalize f 102 = z102
                generalize f 103 = z103
                generalize f 104 = z104
                generalize f 105 = z105
                generalize f 106 = z106
                generalize f 107 = z107
                generalize f 108 = z108
                generalize f 109 = z109
                generalize f 110 = z110
                generalize f 111 = z111
                generalize f 112 = z112
                generalize f 113 = z113
                generalize f 114 = z114
                generalize f 115 = z115
                generalize f 116 = z116
                generalize f 117 = z117
                generalize f 118 = z118
                generalize f 119 = z119
                generalize f 120 = z120
                generalize f 121 = z121
                generalize f 122 = z122
                generalize f 123 = z123
                generalize f 124 = z124
                generalize f 125 = z125
                generalize f 126 = z126
                generalize f 127 = z127
                generalize f 128 = z128
                generalize f 129 = z129
                generalize f 130 = z130
                generalize f 131 = z131
                generalize f 132 = z132
                generalize f 133 = z133
                generalize f 134 = z134
                generalize f 135 = z135
                generalize f 136 = z136
                generalize f 137 = z137
                generalize f 138 = z138
                generalize f 139 = z139
                generalize f 140 = z140
                generalize f 141 = z141
                generalize f 142 = z142
                generalize f 143 = z143
                generalize f 144 = z144
                generalize f 145 = z145
                generalize f 146 = z146
                generalize f 147 = z147
                generalize f 148 = z148
                clear hev
                go_simp
                go_simp
                have HQL := hide (law_hashLives 2 2 3 2 (some ⟨gD, 0, none⟩) 9 9 es W (by decide) HAD.out (by decide) (by decide))
                go_wp2_with fail
                refine HQL.out.mono ?_
                rintro e w8 ⟨rfl, hb⟩
                have HB8 := hide (HBW.out.trans (hb.mono HBW.out.size))
                have HS8 := hide ((hb.block _ (at_lt HSW.out)).trans HSW.out)
                have HK8 := hide ((hb.block _ (at_lt HKW.out)).trans HKW.out)
                clear hb y0 y1 y2 y3
                go_wp2_with fail
                refine ⟨?_, ?measure⟩
                · refine ⟨_, _, _, _, _, _, _, _, _, _, _, _, _, _, _, _, _, _, _, _, _, _, _, _, _, _, _, _, _, _, _, _, _, _, _, _, _, _, _, _, _, _, _, _, _, _, _, _, _, _, _, _, _, _, _, _, _, _, _, _, _, _, _, _, _, _, _, _, _, _, _, _, _, _, _, _, _, _, ?rel, rfl⟩
                  exact ⟨k + 1, by omega, by go_num, HB8.out, HS8.out, HK8.out⟩
                case measure => simp [intOf]; omega
            · obtain rfl : k = 8 := by omega
              go_wp2_with fail
              go_roundw
              case rel => exact ⟨i + 1, by omega, by go_num, HBK.out, HSK.out, HKK.out⟩
              case measure => simp [intOf]; omega
        · obtain rfl : i = 8 := by omega
          have HBE := hide (HB.out.trans (HBI.out.mono HB.out.size))
          clear HBI HSI HKI
          go_wp2_with fail
          refine (law_hashLives 0 0 0 0 none 0 0 [] wr (by decide) ⟨Rd.nil, fun d hd => by cases hd⟩ (by decide) (by decide)).mono ?_
          rintro e w7 ⟨rfl, hb⟩
          have HB7 := hide (HBE.out.trans (hb.mono HBE.out.size))
          clear hb HBE
          go_wp2_with fail
          refine (law_hashNil 0 0 0 0 none none 0 0 0 0 w7).mono ?_
          rintro e w8 ⟨rfl, hb⟩
          have HB8 := hide (HB7.out.trans (hb.mono HB7.out.size))
          clear hb HB7
          go_wp2_with fail
          refine (awake_any w8).mono ?_
          rintro e w9 ⟨rfl, hb⟩
          have HB9 := hide (HB8.out.trans (hb.mono HB8.out.size))
          clear hb HB8
          go_wp2
          go_ret
          exact ⟨rfl, HB9.out⟩
end Go.Proofs.YtolodcdhpnapmaaGreat

namespace Go.Proofs.YtolodcdhpnapmaaGreat.hashNumbers
open Go.ChangeShapes Go.WideShapes Go.ChangeAt Go.RowKit Go.Joins
set_option linter.unusedVariables false

theorem own : ownKnob Tryz.prog.godebug = none := by kernel_rfl

set_option maxRecDepth 100000 in
theorem lifted (os : Os) (started : os.Started) (H : Type) (enc : TypeId × Value → H) :
    ReturnsInHanded {} Tryz.checked os 3 .any (Rows.hashNumbersSpec.pre6 enc Tryz.prog Tryz.f3 Rows.hashNumbersRow.domain false) (Rows.hashNumbersSpec.post enc Tryz.prog Tryz.f3 false true false false) := by
  refine returnsInHanded_of_change (C := Tryz.checked) own started (by kernel_rfl) Tryz.func3
    (ChangeSpec.witness6 (enc := enc) (C := Tryz.checked) false ⟨#[], #[], []⟩ 8 (by kernel_rfl) (by kernel_rfl) (by kernel_rfl) (by kernel_rfl)) ?_
  intro W base args ds gs before hval0 hW hcnd _
  have hval : ∀ (j : Nat) t v, Tryz.f3.params[j]? = some t → args[j]? = some v → Value.okWide Tryz.prog W .any base t v := hval0
  have hW' := hW
  obtain ⟨p, q, hA0, hV, rfl, hfz, hnd⟩ := hW
  have hA : DataW.TrodAll enc Tryz.prog W 0 (fun _ => true) true Tryz.f3.params.toList args.toList ds p := hA0
  rw [Tryz.params3] at hA hval
  obtain ⟨rfl, rfl, rfl⟩ := trodAll_none hA
  obtain ⟨rfl, rfl⟩ := trodVars_none hV
  clear hA0 hval0
  simp only [List.append_nil] at hW'
  refine (law_hashNumbers W).mono fun e W' ⟨he, hb⟩ => ?_
  subst he
  exact ⟨_, rfl, post_new hW' (fun _ _ _ => (trodAll_cons_mk (shut_bool Tryz.underlying4 _) trodAll_mk0)) (fun sp hsp => trodAll_mk0) (fun _ _ => rfl) (by simp) hb (ok_one (by kernel_rfl) rfl (okWide_bool_mk Tryz.underlying4 _))⟩

theorem over : Rows.hashNumbersRow.holds Tryz.pinned (OpenSpec.ofChange Rows.hashNumbersSpec) :=
  OpenClaim.holds_of_wide 3 Tryz.f3 rfl rfl rfl rfl rfl rfl rfl ⟨rfl, rfl, rfl, rfl, rfl⟩ rfl rfl rfl rfl rfl (by kernel_rfl) Tryz.func3 (by kernel_rfl)
    (of_decide_eq_true (by kernel_rfl)) (by unfold Func.isWrapper; first | (rw [if_pos (by decide +kernel)]; kernel_rfl) | (rw [if_neg (by decide +kernel)]; exact ⟨rfl, rfl⟩))
    (fun os started H enc _ => lifted os started H enc)

/-- The given statement. -/
theorem proved : Rows.HashNumbersSaid :=
  over
#print axioms proved
end Go.Proofs.YtolodcdhpnapmaaGreat.hashNumbers
