/-
  The slot behind a place; whether a slot's target lies within.
-/
import Derived.Test.YtjnmfgkjeofneaaFn8
namespace Go.Proofs.Ytjnmfgkjeofneaa
open Go.RowKit Go.Maps
set_option linter.unusedVariables false

def zeroIns : Ins := ⟨0, 0, 0, 0, 0⟩
/-- The slot behind place k, or one of noughts. -/
def behindM (l : List Ins) (k : Nat) : Ins := l.getD (k + 1) zeroIns
def staysB (n : Nat) (secs : List Int) (k : Nat) (s : Ins) : Bool :=
  decide (k + slotsN s.op ≤ n) && (!targetB s || decide (0 ≤ targetI k s) && decide (targetI k s < n) && !decide (targetI k s ∈ secs))

set_option maxRecDepth 100000 in
set_option maxHeartbeats 1000000 in
theorem behind_any (A : Option Addr) (n c B k : Nat) (sv mv : Option Nat) (l : List Ins) (w : World) (h : Rd w B 5 A n (pcells l)) (hB : B ≤ w.heap.size) (hn : n ≤ 4096) (hk : k ≤ 4097) :
    Calls Try.prog 49 #[.agg #[.slice A n c, .map sv, .map mv], .int .i64 k] w fun e w' => e = .returned (.agg (behindM l k).cells.toArray) ∧ Below w.heap.size w w' := by
  have hll : l.length = n := h.prg.1
  by_cases hlt : k + 1 < n
  · obtain ⟨ad, ⟨op, dst, src, off, imm⟩, rfl, hl, c0, c1, c2, c3, c4⟩ := (h.below ((below2 w (.cells #[.slice A n c, .map sv, .map mv] 53) (.cells #[.int .u8 0, .int .u8 0, .int .u8 0, .int .i16 0, .int .i32 0] 42)).mono hB)).slot hlt
    have hbm : behindM l k = ⟨op, dst, src, off, imm⟩ := by unfold behindM; rw [List.getD_eq_getElem?_getD, hl]; rfl
    simp only at c0 c1 c2 c3 c4
    have HBM := hide hbm
    clear hbm hl h hll
    go_enter Try.func49, Try.ntmps49
    go_wp2
    refine bodyPost_ret (v := .agg #[.int .u8 op, .int .u8 dst, .int .u8 src, .int .i16 off, .int .i32 imm]) (by simp [results, Try.results49, go_sem]) rfl ⟨by rw [HBM.out]; rfl, below2 _ _ _⟩
  · have hbm : behindM l k = zeroIns := by unfold behindM; rw [List.getD_eq_getElem?_getD, List.getElem?_eq_none (by omega)]; rfl
    have hd : decide ((k : Int) + 1 < (n : Int)) = false := by simp; omega
    have HBM := hide hbm
    clear hbm h hll
    go_enter Try.func49, Try.ntmps49
    go_wp2
    refine bodyPost_ret (v := .agg #[.int .u8 0, .int .u8 0, .int .u8 0, .int .i16 0, .int .i32 0]) (by simp [results, Try.results49, go_sem]) rfl ⟨by rw [HBM.out]; rfl, below2 _ _ _⟩
theorem slotsN_le (op : Int) : slotsN op ≤ 2 := by unfold slotsN; split <;> omega
theorem target_i64 (k : Nat) (s : Ins) (hk : k ≤ 4097) (hf : s.Fits) : I64 (targetI k s) ∧ -9223372036854775808 ≤ targetI k s ∧ targetI k s ≤ 9223372036854775807 := by
  obtain ⟨_, _, _, ⟨h1, h2⟩, h3, h4⟩ := hf
  unfold I64 targetI
  split
  · omega
  · split <;> omega
set_option maxRecDepth 100000 in
set_option maxHeartbeats 2000000 in
theorem stays_any (A : Option Addr) (n c k b : Nat) (mv : Option Nat) (secs : List Int) (s : Ins) (w : World) (hS : SetIs w b secs) (hn : n ≤ 4096) (hk : k ≤ 4097) (hf : s.Fits) :
    Calls Try.prog 51 #[.agg #[.slice A n c, .map (some b), .map mv], .int .i64 k, .agg s.cells.toArray] w fun e w' => e = .returned (.bool (staysB n secs k s)) ∧ Below w.heap.size w w' := by
  have hT := hide (target_i64 k s hk hf)
  have hL := slotsN_le s.op
  have ht := hide (fun w => target_any s.op s.dst s.src s.off s.imm w k hk hf.off hf.imm)
  have hl := hide (fun w => slots_any s.op s.dst s.src s.off s.imm w)
  obtain ⟨op, dst, src, off, imm⟩ := s
  simp only [Ins.cells] at ht hl hL ⊢
  unfold staysB
  generalize targetI k ⟨op, dst, src, off, imm⟩ = t at ht hT ⊢
  generalize targetB ⟨op, dst, src, off, imm⟩ = tb at ht ⊢
  generalize slotsN op = sl at hl hL ⊢
  obtain ⟨hT0, hT1, hT2⟩ := hT.out
  have HS := hide (fun (W : World) (hW : Below w.heap.size w W) => has_any W b secs (hS.below hW) t hT0)
  generalize decide (t ∈ secs) = z at HS ⊢
  have hbl := hS.lt
  clear hS hT hf
  cases tb
  all_goals
    go_enter Try.func51, Try.ntmps51
    go_wp2_with (first
      | (go_at_call 34; refine (ht.out _).mono ?_; rintro e w1 ⟨rfl, hb1⟩; obtain ⟨hc1, hf1⟩ := bcell hb1)
      | (go_at_call 33; refine (hl.out _).mono ?_; rintro e w2 ⟨rfl, hb2⟩; have hb12 := hb1.trans (hb2.mono hb1.size); obtain ⟨hc2, hf2⟩ := bcell hb12; have HB2 := hide hb12; clear hc1 hf1 hb1 hb2 hb12)
      | (go_at_call 67; refine (HS.out _ (below2c HB2.out)).mono ?_; rintro e w3 ⟨rfl, hb3⟩; have HB3 := hide ((below2c HB2.out).trans (hb3.mono (below2c HB2.out).size)); clear hb3))
    all_goals
      go_ret
      exact ⟨by (simp [*] <;> omega), by first | exact HB3.out | exact below2c HB2.out⟩
end Go.Proofs.Ytjnmfgkjeofneaa
