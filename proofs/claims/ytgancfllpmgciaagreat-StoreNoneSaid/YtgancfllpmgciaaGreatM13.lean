/-
  StoreNone: stores that aren't there.
-/
import Derived.Test.YtgancfllpmgciaaGreatM12
import Derived.Test.YtgancfllpmgciaaGreatMOPD
namespace Go.Proofs.YtgancfllpmgciaaGreat
open Go.RowKit Go.Maps
set_option linter.unusedVariables false

/-- A deed's cells in a block. -/
def DeedAt (W : World) (b : Nat) (d : ADeed) : Prop := W.heap[b]? = some (.cells d.cells.toArray 28 (0, 0))
theorem DeedAt.below {W W' : World} {b : Nat} {d : ADeed} (h : DeedAt W b d) (hb : Below W.heap.size W W') : DeedAt W' b d := (hb.block b (at_lt h)).trans h
theorem DeedAt.cells {W : World} {b : Nat} {d : ADeed} (h : DeedAt W b d) : W.cell? ⟨b, 1, none⟩ = some (.int .i64 d.hd) ∧ W.cell? ⟨b, 2, none⟩ = some (.int .u8 d.k) ∧ W.cell? ⟨b, 3, none⟩ = some (.int .i64 d.key) ∧ W.cell? ⟨b, 4, none⟩ = some (.int .i64 d.val) ∧ W.cell? ⟨b, 5, none⟩ = some (.int .i64 d.ent) ∧
    W.cell? ⟨b, 6, none⟩ = some (.slice d.ka.A d.ka.n d.ka.c) ∧ W.cell? ⟨b, 7, none⟩ = some (.slice d.va.A d.va.n d.va.c) ∧ W.cell? ⟨b, 8, none⟩ = some (.int .u64 d.fl) ∧ W.cell? ⟨b, 9, none⟩ = some (.int .i64 d.pl) ∧ W.cell? ⟨b, 10, none⟩ = some (.int .i64 d.of) :=
  ⟨(blk_cell h 1).trans rfl, (blk_cell h 2).trans rfl, (blk_cell h 3).trans rfl, (blk_cell h 4).trans rfl, (blk_cell h 5).trans rfl, (blk_cell h 6).trans rfl, (blk_cell h 7).trans rfl, (blk_cell h 8).trans rfl, (blk_cell h 9).trans rfl, (blk_cell h 10).trans rfl⟩
set_option maxRecDepth 100000 in
set_option maxHeartbeats 2000000 in
theorem light_any (d : ADeed) (b : Nat) (w : World) (h : DeedAt w b d) : Calls Tryz.prog 5 #[.slice (some ⟨b, 0, none⟩) 1 1] w fun e w' => ∃ β : Bool, e = .returned (.bool β) ∧ w = w' := by
  obtain ⟨c1, c2, c3, c4, c5, c6, c7, c8, c9, c10⟩ := h.cells
  clear h c1 c2 c3 c8 c9 c10
  go_enter Tryz.func5, Tryz.ntmps5
  go_wp2
  go_loopw [3] (fun q wr => ∃ k : Nat, k ≤ 1 ∧ q = .int .i64 k ∧ wr = w) (fun q _ => 2 - (intOf q).toNat)
  case atStart => exact ⟨0, by omega, rfl, rfl⟩
  case round =>
    obtain ⟨k, hk, rfl, rfl⟩ := hrel
    by_cases h0 : k = 0
    · subst h0
      by_cases q1 : (80 : Int) < (d.ka.n : Int)
      · go_wp2
        go_ret
        first | exact ⟨_, rfl, rfl⟩ | exact ⟨_, rfl⟩ | (simp; done)
      by_cases q2 : (80 : Int) < (d.va.n : Int)
      · go_wp2
        go_ret
        first | exact ⟨_, rfl, rfl⟩ | exact ⟨_, rfl⟩ | (simp; done)
      by_cases q3 : (64 : Int) < d.ent
      · go_wp2
        go_ret
        first | exact ⟨_, rfl, rfl⟩ | exact ⟨_, rfl⟩ | (simp; done)
      by_cases q4 : (80 : Int) < d.val
      · go_wp2
        go_ret
        first | exact ⟨_, rfl, rfl⟩ | exact ⟨_, rfl⟩ | (simp; done)
      go_wp2
      go_roundw
      case rel => exact ⟨1, by omega, by go_num, by first | rfl | trivial⟩
      case measure => simp [intOf]
    · obtain rfl : k = 1 := by omega
      go_wp2
      go_ret
      first | exact ⟨_, rfl, rfl⟩ | exact ⟨_, rfl⟩ | (simp; done)
/-- What lasts through a round: the deed, and that it is no store. -/
def RoundI (Wb : World) (db : Nat) (d : ADeed) (p : Option Addr) (W : World) : Prop := Below Wb.heap.size Wb W ∧ DeedAt W db d ∧ NoS p W
theorem RoundI.later {Wb W W' : World} {db : Nat} {d : ADeed} {p : Option Addr} (h : RoundI Wb db d p W) (hb : Below W.heap.size W W') : RoundI Wb db d p W' :=
  ⟨h.1.trans (hb.mono h.1.size), h.2.1.below hb, h.2.2.later hb⟩
set_option maxRecDepth 100000 in
set_option maxHeartbeats 16000000 in
theorem law_storeNone (d : ADeed) (w : World) : Calls Tryz.prog 3 #[.agg d.cells.toArray] w fun e w' => e = .returned (.bool true) ∧ Below w.heap.size w w' := by
  have hx0 : DeedAt (w.alloc (.cells d.cells.toArray 28)) w.heap.size d := World.alloc_heap_new w _
  have hb0 := below1 w (.cells d.cells.toArray 28)
  have HX0 := hide hx0
  have HB0 := hide hb0
  clear hx0 hb0
  obtain ⟨e0, e1, e2, e3, e4, e5, ⟨kA, kn, kc, kb⟩, ⟨vA, vn, vc, vb⟩, e8, e9, e10⟩ := d
  simp only [ADeed.cells] at *
  go_enter Tryz.func3, Tryz.ntmps3
  go_wp2_with fail
  refine (awake_any _).mono ?_
  rintro e w1 ⟨rfl, hb⟩
  have HX1 := hide (DeedAt.below HX0.out hb)
  have HB1 := hide (HB0.out.trans (hb.mono HB0.out.size))
  obtain ⟨c1, c2, c3, c4, c5, c6, c7, c8, c9, c10⟩ := HX1.out.cells
  have c0 : w1.cell? ⟨w.heap.size, 0, none⟩ = some (.int .i64 e0) := (blk_cell HX1.out 0).trans rfl
  clear hb HX0 HB0
  go_wp2_with fail
  have hbl := below1 w1 (.cells #[.int .i64 e0, .int .i64 e1, .int .u8 e2, .int .i64 e3, .int .i64 e4, .int .i64 e5, .slice kA kn kc, .slice vA vn vc, .int .u64 e8, .int .i64 e9, .int .i64 e10] 28)
  have hxl : DeedAt (w1.alloc (.cells #[.int .i64 e0, .int .i64 e1, .int .u8 e2, .int .i64 e3, .int .i64 e4, .int .i64 e5, .slice kA kn kc, .slice vA vn vc, .int .u64 e8, .int .i64 e9, .int .i64 e10] 28)) w1.heap.size ⟨e0, e1, e2, e3, e4, e5, ⟨kA, kn, kc, kb⟩, ⟨vA, vn, vc, vb⟩, e8, e9, e10⟩ := World.alloc_heap_new w1 _
  generalize w1.alloc (.cells #[.int .i64 e0, .int .i64 e1, .int .u8 e2, .int .i64 e3, .int .i64 e4, .int .i64 e5, .slice kA kn kc, .slice vA vn vc, .int .u64 e8, .int .i64 e9, .int .i64 e10] 28) = w2 at hbl hxl ⊢
  refine (light_any _ w1.heap.size w2 hxl).mono ?_
  rintro e w2' ⟨β, rfl, rfl⟩
  have HX2 := hide (DeedAt.below HX1.out hbl)
  have HB2 := hide (HB1.out.trans (hbl.mono HB1.out.size))
  clear hbl hxl HX1 HB1 c0 c1 c2 c3 c4 c5 c6 c7 c8 c9 c10
  cases β with
  | false =>
    go_wp2
    go_ret
    exact ⟨rfl, HB2.out⟩
  | true =>
    have hz0 := below1 w2 (.cells #[.pointer none, .int .i64 0, .slice none 0 0] 37)
    have hzz : (w2.alloc (.cells #[.pointer none, .int .i64 0, .slice none 0 0] 37)).heap.size = w2.heap.size + 1 := by simp
    have hzx := World.alloc_heap_new w2 (.cells #[.pointer none, .int .i64 0, .slice none 0 0] 37)
    have hl0 := below1 (w2.alloc (.cells #[.pointer none, .int .i64 0, .slice none 0 0] 37)) (.cells #[.pointer none, .pointer (some ⟨w2.heap.size, 0, none⟩)] 32)
    have hlx := World.alloc_heap_new (w2.alloc (.cells #[.pointer none, .int .i64 0, .slice none 0 0] 37)) (.cells #[.pointer none, .pointer (some ⟨w2.heap.size, 0, none⟩)] 32)
    rw [hzz] at hlx
    go_wp2_with fail
    generalize World.alloc (World.alloc w2 _) _ = W0 at hl0 hlx ⊢
    have hb0 : Below w2.heap.size w2 W0 := hz0.trans (hl0.mono hz0.size)
    have HD0 := hide (DeedAt.below HX2.out hb0)
    have HBW := hide (HB2.out.trans (hb0.mono HB2.out.size))
    have HZ : Hid (NoS (some ⟨w2.heap.size, 0, none⟩) W0) := hide (noS_zero ((blk_cell ((hl0.block _ (at_lt hzx)).trans hzx) 0).trans rfl))
    have HN0 : Hid (NoS none W0) := hide (noS_nil W0)
    have HLX := hide hlx
    clear hz0 hzz hzx hl0 hlx hb0 HX2 HB2
    generalize w2.heap.size = zb at *
    go_loopw [4] (fun q wr => ∃ k : Nat, k ≤ 2 ∧ q = .int .i64 k ∧ Below W0.heap.size W0 wr) (fun q _ => 3 - (intOf q).toNat)
    case atStart => exact ⟨0, by omega, rfl, Below.refl _ _⟩
    case round =>
      obtain ⟨k, hk, rfl, hbr⟩ := hrel
      have HBR := hide hbr
      by_cases hlt : k < 2
      · obtain ⟨p, hcp, hns⟩ : ∃ p, wr.cell? ⟨zb + 1, k, none⟩ = some (.pointer p) ∧ NoS p wr := by
          have hl := (hbr.block _ (at_lt HLX.out)).trans HLX.out
          by_cases h0 : k = 0
          · subst h0
            exact ⟨none, (blk_cell hl 0).trans rfl, HN0.out.later hbr⟩
          · obtain rfl : k = 1 := by omega
            exact ⟨_, (blk_cell hl 1).trans rfl, HZ.out.later hbr⟩
        have HR : Hid (RoundI wr w.heap.size _ p wr) := hide ⟨Below.refl _ _, HD0.out.below hbr, hns⟩
        obtain ⟨c1, c2, c3, c4, c5, c6, c7, c8, c9, c10⟩ := HR.out.2.1.cells
        have q0 : (k : Int) < 2 := by omega
        have q1 : (0 : Int) ≤ (k : Int) := by omega
        clear hbr hns
        go_wp2_with (first
          | (go_at_call 6; refine (make_none _ _ _ _ HR.out.2.2).mono ?_; rintro e w3 ⟨rfl, hb⟩; replace HR := hide (HR.out.later hb); clear hb c1 c2 c3 c4 c5 c6 c7 c8 c9 c10; obtain ⟨c1, c2, c3, c4, c5, c6, c7, c8, c9, c10⟩ := HR.out.2.1.cells)
          | (go_at_call 7; refine (spec_none _ HR.out.2.2).mono ?_; rintro e w3 ⟨rfl, hb⟩; replace HR := hide ((HR.out.later hb).later (below1 w3 (.cells #[.int .u8 0, .int .i64 0, .int .i64 0, .int .i64 0] 24))); clear hb c1 c2 c3 c4 c5 c6 c7 c8 c9 c10; obtain ⟨c1, c2, c3, c4, c5, c6, c7, c8, c9, c10⟩ := HR.out.2.1.cells)
          | (go_at_call 8; refine (lookup_none _ _ HR.out.2.2).mono ?_; rintro e w3 ⟨rfl, hb⟩; replace HR := hide (HR.out.later hb); clear hb c1 c2 c3 c4 c5 c6 c7 c8 c9 c10; obtain ⟨c1, c2, c3, c4, c5, c6, c7, c8, c9, c10⟩ := HR.out.2.1.cells)
          | (go_at_call 9; refine (value_none _ _ HR.out.2.2).mono ?_; rintro e w3 ⟨rfl, hb⟩; replace HR := hide (HR.out.later hb); clear hb c1 c2 c3 c4 c5 c6 c7 c8 c9 c10; obtain ⟨c1, c2, c3, c4, c5, c6, c7, c8, c9, c10⟩ := HR.out.2.1.cells)
          | (go_at_call 10; refine (pop_none _ HR.out.2.2).mono ?_; rintro e w3 ⟨rfl, hb⟩; replace HR := hide (HR.out.later hb); clear hb c1 c2 c3 c4 c5 c6 c7 c8 c9 c10; obtain ⟨c1, c2, c3, c4, c5, c6, c7, c8, c9, c10⟩ := HR.out.2.1.cells)
          | (go_at_call 11; refine (peek_none _ HR.out.2.2).mono ?_; rintro e w3 ⟨rfl, hb⟩; replace HR := hide (HR.out.later hb); clear hb c1 c2 c3 c4 c5 c6 c7 c8 c9 c10; obtain ⟨c1, c2, c3, c4, c5, c6, c7, c8, c9, c10⟩ := HR.out.2.1.cells)
          | (go_at_call 12; refine (take_none _ HR.out.2.2).mono ?_; rintro e w3 ⟨rfl, hb⟩; replace HR := hide (HR.out.later hb); clear hb c1 c2 c3 c4 c5 c6 c7 c8 c9 c10; obtain ⟨c1, c2, c3, c4, c5, c6, c7, c8, c9, c10⟩ := HR.out.2.1.cells)
          | (go_at_call 13; refine (free_none _ HR.out.2.2).mono ?_; rintro e w3 ⟨rfl, hb⟩; replace HR := hide (HR.out.later hb); clear hb c1 c2 c3 c4 c5 c6 c7 c8 c9 c10; obtain ⟨c1, c2, c3, c4, c5, c6, c7, c8, c9, c10⟩ := HR.out.2.1.cells)
          | (go_at_call 14; refine (update_none _ _ _ _ HR.out.2.2).mono ?_; rintro e w3 ⟨rfl, hb⟩; replace HR := hide (HR.out.later hb); clear hb c1 c2 c3 c4 c5 c6 c7 c8 c9 c10; obtain ⟨c1, c2, c3, c4, c5, c6, c7, c8, c9, c10⟩ := HR.out.2.1.cells)
          | (go_at_call 15; refine (delete_none _ _ HR.out.2.2).mono ?_; rintro e w3 ⟨rfl, hb⟩; replace HR := hide (HR.out.later hb); clear hb c1 c2 c3 c4 c5 c6 c7 c8 c9 c10; obtain ⟨c1, c2, c3, c4, c5, c6, c7, c8, c9, c10⟩ := HR.out.2.1.cells)
          | (go_at_call 16; refine (set_none _ _ _ _ HR.out.2.2).mono ?_; rintro e w3 ⟨rfl, hb⟩; replace HR := hide (HR.out.later hb); clear hb c1 c2 c3 c4 c5 c6 c7 c8 c9 c10; obtain ⟨c1, c2, c3, c4, c5, c6, c7, c8, c9, c10⟩ := HR.out.2.1.cells)
          | (go_at_call 17; refine (push_none _ _ _ HR.out.2.2).mono ?_; rintro e w3 ⟨rfl, hb⟩; replace HR := hide (HR.out.later hb); clear hb c1 c2 c3 c4 c5 c6 c7 c8 c9 c10; obtain ⟨c1, c2, c3, c4, c5, c6, c7, c8, c9, c10⟩ := HR.out.2.1.cells)
          | (go_at_call 18; refine (put_none _ _ HR.out.2.2).mono ?_; rintro e w3 ⟨rfl, hb⟩; replace HR := hide (HR.out.later hb); clear hb c1 c2 c3 c4 c5 c6 c7 c8 c9 c10; obtain ⟨c1, c2, c3, c4, c5, c6, c7, c8, c9, c10⟩ := HR.out.2.1.cells)
          | (go_at_call 19; refine (handles_none HR.out.2.2).mono ?_; rintro e w3 ⟨rfl, hb⟩; replace HR := hide (HR.out.later hb); clear hb c1 c2 c3 c4 c5 c6 c7 c8 c9 c10; obtain ⟨c1, c2, c3, c4, c5, c6, c7, c8, c9, c10⟩ := HR.out.2.1.cells))
        go_roundw
        case rel => exact ⟨k + 1, by omega, by go_num, HBR.out.trans (HR.out.1.mono HBR.out.size)⟩
        case measure => simp [intOf]; omega
      · obtain rfl : k = 2 := by omega
        have HBF := hide (HBW.out.trans (hbr.mono HBW.out.size))
        clear hbr
        go_wp2
        go_ret
        exact ⟨rfl, HBF.out⟩
end Go.Proofs.YtgancfllpmgciaaGreat
