/-
  What the document's own Put tells.
-/
import Derived.Test.YtjndmpockfmenaaGreatK4
import Derived.RangeFuncRecord
namespace Go.Proofs.YtjndmpockfmenaaGreat
open Go.RowKit
set_option linter.unusedVariables false

theorem wrong_at {l : List Ins} {k : Nat} {s : Ins} (hl : l[k]? = some s) (hs : ¬ Right s) : allRight l = false := by
  cases h : allRight l with
  | false => rfl
  | true => exact absurd ((allRight_iff l).1 h s (List.mem_of_getElem? hl)) hs
theorem ref_bytes (op dst src off imm : Int) : u8s [op, dst + 16 * src, off % 256, IntKind.u16.wrap off / 256 % 256] ++ u8s [imm % 256, imm % 4294967296 / 256 % 256, imm % 4294967296 / 65536 % 256, imm % 4294967296 / 16777216] = u8s (Ins.bytes ⟨op, dst, src, off, imm⟩) := by
  have h : IntKind.u16.wrap off = off % 65536 := by simp [IntKind.wrap, IntKind.bits, IntKind.signed]
  have e1 : off % 256 = off % 65536 % 256 := by omega
  have e2 : off % 65536 / 256 % 256 = off % 65536 / 256 := by omega
  have e3 : imm % 256 = imm % 4294967296 % 256 := by omega
  rw [h, e2, e1, e3]
  rfl
theorem new_bytes (w : World) (l : List Int) {b : Nat} (hb : w.heap.size = b) : Rd (w.alloc (.cells (u8s l).toArray 5)) (b + 1) 1 (some ⟨b, 0, none⟩) l.length (u8s l) := by
  subst hb
  exact cells_rd w (u8s l) 5 1 l.length (by simp [u8s])
set_option maxRecDepth 100000 in
theorem refPut_long (A : Option Addr) (n c : Nat) (w : World) (hn : 4096 < n) (r : n ≤ 140737488351232) : Calls Tryz.prog 13 #[.slice A n c] w fun e w' => e = .returned (.tuple #[.slice none 0 0, .int .i64 3]) ∧ Below w.heap.size w w' := by
  have hd : decide (4096 < (n : Int)) = true := by simp; omega
  go_enter Tryz.func13, Tryz.ntmps13
  go_wp2
  go_ret2
  exact ⟨rfl, Below.refl _ _⟩
set_option maxRecDepth 100000 in
set_option maxHeartbeats 2000000 in
theorem refPut_any (A : Option Addr) (n c B : Nat) (l : List Ins) (w : World) (h : Rd w B 5 A n (pcells l)) (hB : B ≤ w.heap.size) (hn : n ≤ 4096) (hf : ∀ s ∈ l, s.Fits) :
    Calls Tryz.prog 13 #[.slice A n c] w fun e w' => (allRight l = true → ∃ v, e = .returned (.tuple #[v, .int .i64 0]) ∧ w'.ownsRow 0 5 1 v (8 * n) (u8s (l.flatMap Ins.bytes))) ∧
      (allRight l = false → e = .returned (.tuple #[.slice none 0 0, .int .i64 21])) ∧ Below w.heap.size w w' := by
  have hd : decide (4096 < (n : Int)) = false := by simp; omega
  have hll : l.length = n := h.prg.1
  have HH := hide h
  clear h
  obtain ⟨i1, hi1, hy0, hy1, hy2⟩ := info_parts u8info
  go_enter Tryz.func13, Tryz.ntmps13
  go_wp2
  go_loopw [4, 5] (fun v p wr => ∃ k : Nat, k ≤ n ∧ p = .int .i64 k ∧ wr.ownsRow 0 5 1 v (8 * k) (u8s ((l.take k).flatMap Ins.bytes)) ∧ (∀ g, v.ownBlock = some g → w.heap.size ≤ g) ∧ Below w.heap.size w wr ∧ ∀ s ∈ l.take k, Right s) (fun _ p _ => n - (intOf p).toNat)
  case atStart => exact ⟨0, Nat.zero_le _, rfl, World.ownsRow_nil _ _ _ _, by simp [Value.ownBlock], Below.refl _ _, by simp⟩
  case round =>
    obtain ⟨k, hk, rfl, hown, hblk, hb, hr⟩ := hrel
    have HO := hide hown
    have HB := hide hb
    have HR := hide hr
    have HBL := hide hblk
    clear hown hb hr hblk
    by_cases hlt : k < n
    · obtain ⟨ad, s, rfl, hl, c0, c1, c2, c3, c4⟩ := (HH.out.below (HB.out.mono hB)).slot hlt
      have HF := hide (hf s (List.mem_of_getElem? hl))
      have HL := hide hl
      clear hl
      obtain ⟨op, dst, src, off, imm⟩ := s
      simp only at c0 c1 c2 c3 c4
      obtain ⟨f0, f1, f2, f3, f4⟩ := HF.out
      simp only at f0 f1 f2 f3 f4
      by_cases hdst : 15 < dst
      · go_wp2
        go_ret2
        have HW : Hid (allRight l = false) := wrong_at HL.out (fun h => by have h2 : dst < 16 := h.1; omega)
        refine ⟨fun h => absurd (h.symm.trans HW.out) (by simp), fun _ => rfl, HB.out.alloc HB.out.size _⟩
      · by_cases hsrc : 15 < src
        · have hd1 : decide (15 < dst) = false := by simpa using hdst
          go_wp2
          go_ret2
          have HW : Hid (allRight l = false) := wrong_at HL.out (fun h => by have h2 : src < 16 := h.2; omega)
          refine ⟨fun h => absurd (h.symm.trans HW.out) (by simp), fun _ => rfl, HB.out.alloc HB.out.size _⟩
        · have hd1 : decide (15 < dst) = false := by simpa using hdst
          have hd2 : decide (15 < src) = false := by simpa using hsrc
          go_wp2_with (at_builtin; refine stop_here ?_)
          show Hid _
          refine start_here ?_
          refine wpList_append_rd_w _ ?c0 (.tmp 28) (.tmp 45) _ rfl 5 i1 _ 1 1 Tryz.underlying22 hi1 hy0 hy1 hy2 rfl Nat.one_pos _ (8 * k) _ rfl (World.ownsRow.alloc (World.ownsRow.alloc HO.out _) _) _ (some ⟨wr.heap.size + 1, 0, none⟩) 4 4 (u8s [op, dst + 16 * src, off % 256, IntKind.u16.wrap off / 256 % 256]) rfl (new_bytes _ [op, dst + 16 * src, off % 256, IntKind.u16.wrap off / 256 % 256] (by simp)) (fun h => nomatch h) (u8s_one _) (by unfold maxLen; omega) (by omega) ?_
          case c0 => rfl
          intro v1 w1 hl1
          have HL1 := hide hl1
          have HS1 : wr.heap.size + 2 ≤ w1.heap.size := by have := hl1.2.1.size; simpa using this
          have hbx : w1.heap[wr.heap.size]? = some (.cells #[.int .u8 op, .int .u8 dst, .int .u8 src, .int .i16 off, .int .i32 imm] 27 (0, 0)) := by
            have e0 := World.alloc_heap_new wr (.cells #[.int .u8 op, .int .u8 dst, .int .u8 src, .int .i16 off, .int .i32 imm] 27)
            have e1 := (Below.heap_alloc (wr.alloc (.cells #[.int .u8 op, .int .u8 dst, .int .u8 src, .int .i16 off, .int .i32 imm] 27)) (.cells (u8s [op, dst + 16 * src, off % 256, IntKind.u16.wrap off / 256 % 256]).toArray 5) wr.heap.size (by simp)).trans e0
            refine (hl1.2.1.block wr.heap.size (by simp; omega) (fun e => ?_)).trans e1
            have := (World.ownsRow.lt HO.out _ e.symm).2
            omega
          have e4 := blk_cell hbx 4
          simp at e4
          have HB1 := hide (longer_below ((HB.out.alloc HB.out.size (.cells #[.int .u8 op, .int .u8 dst, .int .u8 src, .int .i16 off, .int .i32 imm] 27)).alloc (by simp; have := HB.out.size; omega) (.cells (u8s [op, dst + 16 * src, off % 256, IntKind.u16.wrap off / 256 % 256]).toArray 5)) (by simp; have := HB.out.size; omega) HBL.out hl1)
          have HBL1 := hide (longer_from hl1 (by simp; have := HB.out.size; omega) HBL.out)
          clear hl1 hbx
          go_wp2_with (at_builtin; refine stop_here ?_)
          show Hid _
          refine start_here ?_
          refine wpList_append_rd_w _ ?c1 (.tmp 47) (.tmp 66) _ rfl 5 i1 _ 1 1 Tryz.underlying22 hi1 hy0 hy1 hy2 rfl Nat.one_pos v1 (8 * k + 4) _ rfl (World.ownsRow.alloc HL1.out.1 _) _ (some ⟨w1.heap.size, 0, none⟩) 4 4 (u8s [imm % 256, imm % 4294967296 / 256 % 256, imm % 4294967296 / 65536 % 256, imm % 4294967296 / 16777216]) rfl (new_bytes _ [imm % 256, imm % 4294967296 / 256 % 256, imm % 4294967296 / 65536 % 256, imm % 4294967296 / 16777216] rfl) (fun h => nomatch h) (u8s_one _) (by unfold maxLen; omega) (by omega) ?_
          case c1 => rfl
          intro v2 w2 hl2
          have HB2 := hide (longer_below (HB1.out.alloc HB1.out.size (.cells (u8s [imm % 256, imm % 4294967296 / 256 % 256, imm % 4294967296 / 65536 % 256, imm % 4294967296 / 16777216]).toArray 5)) (by simp; have := HB1.out.size; omega) HBL1.out hl2)
          have HBL2 := hide (longer_from hl2 (by simp; have := HB1.out.size; omega) HBL1.out)
          have HO2 : Hid (w2.ownsRow 0 5 1 v2 (8 * (k + 1)) (u8s ((l.take (k + 1)).flatMap Ins.bytes))) := by
            have e : u8s ((l.take (k + 1)).flatMap Ins.bytes) = u8s ((l.take k).flatMap Ins.bytes) ++ u8s [op, dst + 16 * src, off % 256, IntKind.u16.wrap off / 256 % 256] ++ u8s [imm % 256, imm % 4294967296 / 256 % 256, imm % 4294967296 / 65536 % 256, imm % 4294967296 / 16777216] := by
              rw [List.take_add_one, HL.out, List.flatMap_append, List.append_assoc, ref_bytes]
              simp [u8s]
            rw [e]
            exact hl2.1
          have HR2 : Hid (∀ s ∈ l.take (k + 1), Right s) := by
            intro s hs
            rw [List.take_add_one, HL.out, List.mem_append] at hs
            rcases hs with hs | hs
            · exact HR.out s hs
            · simp only [Option.toList_some, List.mem_singleton] at hs
              subst hs
              exact ⟨by show dst < 16; omega, by show src < 16; omega⟩
          clear hl2
          go_wp2
          go_roundw
          case rel => exact ⟨k + 1, by omega, by go_num, HO2.out, HBL2.out, HB2.out, HR2.out⟩
          case measure => simp [intOf]; omega
    · have hkn : k = n := by omega
      subst hkn
      have hall : l.take k = l := List.take_of_length_le (by omega)
      have HA : Hid (allRight l = true) := (allRight_iff l).2 (hall ▸ HR.out)
      have HO' := HO.out
      rw [hall] at HO'
      have HO2 := hide HO'
      clear HO'
      go_wp2
      go_ret2
      exact ⟨fun _ => ⟨_, rfl, HO2.out⟩, fun h => absurd (h.symm.trans HA.out) (by simp), HB.out⟩
end Go.Proofs.YtjndmpockfmenaaGreat
