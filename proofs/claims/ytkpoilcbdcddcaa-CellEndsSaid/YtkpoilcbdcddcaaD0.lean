/-
  The document's stack by definition, in memory: nothing is set.
-/
import Derived.Test.YtkpoilcbdcddcaaME
import Derived.Test.YtkpoilcbdcddcaaOP2
import Derived.Test.YtkpoilcbdcddcaaK2
namespace Go.Proofs.Ytkpoilcbdcddcaa
open Go.RowKit
set_option linter.unusedVariables false
set_option linter.unusedSimpArgs false

def zcs : List Value := List.replicate 512 (.int .u8 0) ++ (List.replicate 512 (.bool false) ++ (List.range 64).flatMap (fun _ => c0.cs))
theorem zstack36 : (((Try.prog.info? 36).bind (·.zero)).bind aggOf).map (fun p => (Value.agg p).cells) = some zcs.toArray := by kernel_rfl
theorem zero36 : ∃ p : Array Value, (Value.agg p).cells = zcs.toArray ∧ ∀ w, (zeroValue 36).run Try.prog w = .ok (.agg p) w := by
  have h := zstack36
  rw [Option.map_eq_some_iff] at h
  obtain ⟨p, h1, h2⟩ := h
  rw [Option.bind_eq_some_iff] at h1
  obtain ⟨z, h1, h3⟩ := h1
  rw [Option.bind_eq_some_iff] at h1
  obtain ⟨i, h1, h4⟩ := h1
  refine ⟨p, h2, fun w => ?_⟩
  have hz : z = .agg p := by
    cases z <;> simp [aggOf] at h3
    rw [h3]
  subst hz
  simp [zeroValue, typeInfo, h1, h4]
theorem zrsl : RSL zcs AS.none := by
  have hfl : ((List.range 64).flatMap (fun _ => c0.cs)).length = 256 := by rw [flat_length (fun _ => c0.cs) 4 (fun _ => rfl), List.length_range]
  have hk : ∀ g j, g < 64 → j < 4 → zcs[1024 + 4 * g + j]? = c0.cs[j]? := fun g j hg hj => by
    unfold zcs
    rw [List.getElem?_append_right (by simp only [List.length_replicate]; omega), List.getElem?_append_right (by simp only [List.length_replicate]; omega), List.length_replicate, List.length_replicate, show 1024 + 4 * g + j - 512 - 512 = g * 4 + j by omega, flat_at (fun _ => c0.cs) 4 (fun _ => rfl) (List.range 64) g j hj, List.getElem?_range hg]
    rfl
  refine ⟨?_, fun m hm => ⟨0, ?_, fun y hy => by cases hy⟩, fun m hm => ?_, fun g hg => hk g 0 hg (by omega), fun g hg => hk g 1 hg (by omega), fun g hg => hk g 2 hg (by omega), fun g hg => hk g 3 hg (by omega)⟩
  · unfold zcs
    rw [List.length_append, List.length_append, hfl, List.length_replicate, List.length_replicate]
  · unfold zcs
    rw [List.getElem?_append_left (by rw [List.length_replicate]; omega), List.getElem?_replicate, if_pos hm]
  · unfold zcs
    rw [List.getElem?_append_right (by rw [List.length_replicate]; omega), List.length_replicate, Nat.add_sub_cancel_left, List.getElem?_append_left (by rw [List.length_replicate]; omega), List.getElem?_replicate, if_pos hm]
    rfl
end Go.Proofs.Ytkpoilcbdcddcaa
