/-
  A row of two leaves is a tree.
-/
import Derived.Test.YtolmjnoaiiodlaaWX
namespace Go.Proofs.Ytolmjnoaiiodlaa
open Go.RowKit Go.Maps Forest
set_option linter.unusedVariables false

def twoF (k1 n1 : Int) (b1 : List Int) (k2 n2 : Int) (b2 : List Int) : Forest := .cons k1 n1 b1 .nil (.cons k2 n2 b2 .nil .nil)
theorem two_at (k1 n1 k2 n2 : Int) (b1 b2 : List Int) (A1 A2 : Option Addr) (c1 c2 : Nat) (g B : Nat) (w : World) (hg : w.heap[g]? = some (.cells #[.int .u8 k1, .int .i64 n1, .slice A1 b1.length c1, .slice none 0 0, .int .u8 k2, .int .i64 n2, .slice A2 b2.length c2, .slice none 0 0] 26 (0, 0)))
    (h1 : Rd w B 1 A1 b1.length (u8s b1)) (h2 : Rd w B 1 A2 b2.length (u8s b2)) (hA1 : A1 = none → b1.length = 0) (hA2 : A2 = none → b2.length = 0) (hB : B ≤ w.heap.size) : FAt w w.heap.size (twoF k1 n1 b1 k2 n2 b2) ⟨g, 0, none⟩ := by
  have hlt := at_lt hg
  have h1 := h1.mono hB
  have h2 := h2.mono hB
  have hc := blk_cell hg
  have e4 : (⟨g, 0, none⟩ : Addr).add 4 = ⟨g, 4, none⟩ := rfl
  refine ⟨⟨hlt, _, _, hg⟩, ⟨A1, c1, none, 0, (hc 0).trans rfl, ?_, ?_, ?_, h1, hA1, .inl rfl, Nat.le_refl _⟩, ?_⟩
  · exact (hc 1).trans rfl
  · exact (hc 2).trans rfl
  · exact (hc 3).trans rfl
  rw [e4]
  refine ⟨⟨hlt, _, _, hg⟩, ⟨A2, c2, none, 0, (hc 4).trans rfl, ?_, ?_, ?_, h2, hA2, .inl rfl, Nat.le_refl _⟩, trivial⟩
  · exact (hc 5).trans rfl
  · exact (hc 6).trans rfl
  · exact (hc 7).trans rfl
set_option maxRecDepth 100000 in
set_option maxHeartbeats 4000000 in
theorem row_two (k1 n1 k2 n2 : Int) (b1 b2 : List Int) (A1 A2 : Option Addr) (c1 c2 : Nat) (g B : Nat) (w : World) (hg : w.heap[g]? = some (.cells #[.int .u8 k1, .int .i64 n1, .slice A1 b1.length c1, .slice none 0 0, .int .u8 k2, .int .i64 n2, .slice A2 b2.length c2, .slice none 0 0] 26 (0, 0)))
    (h1 : Rd w B 1 A1 b1.length (u8s b1)) (h2 : Rd w B 1 A2 b2.length (u8s b2)) (hA1 : A1 = none → b1.length = 0) (hA2 : A2 = none → b2.length = 0) (hB : B ≤ w.heap.size) (hl1 : b1.length ≤ 1000000) (hl2 : b2.length ≤ 1000000) (hd : (twoF k1 n1 b1 k2 n2 b2).Dm ≤ 1000000) :
    Calls Try.prog 16 #[.slice (some ⟨g, 0, none⟩) 2 2] w fun e w' => ∃ a c, e = .returned (.agg #[.int .u8 3, .int .i64 0, .slice none 0 0, .slice (some a) 2 c]) ∧ FAt w' w'.heap.size (twoF k1 n1 b1 k2 n2 b2) a ∧ 2 ≤ c ∧ Below w.heap.size w w' := by
  have hf := two_at k1 n1 k2 n2 b1 b2 A1 A2 c1 c2 g B w hg h1 h2 hA1 hA2 hB
  obtain ⟨w0, hw0⟩ : ∃ w0, w0 = w.alloc (.cells #[.int .u8 0, .int .i64 0, .slice none 0 0, .slice none 0 0] 26) := ⟨_, rfl⟩
  have hb0 : Below w.heap.size w w0 := by rw [hw0]; exact below1 _ _
  have hx0 : w0.heap[w.heap.size]? = some (.cells #[.int .u8 0, .int .i64 0, .slice none 0 0, .slice none 0 0] 26 (0, 0)) := by rw [hw0]; exact World.alloc_heap_new _ _
  have hlt := at_lt hg
  have hr0 : RowAt w0 w.heap.size (some ⟨g, 0, none⟩) (twoF k1 n1 b1 k2 n2 b2) := RowAt.below (.inr ⟨_, rfl, hf⟩) hb0
  have HDP := hide (depth_any (fun _ _ _ _ => true) 28 (fun args W => by kernel_rfl) (fun W k n bA bn bc kA kn kc => anyTree_any W k n bA bn bc kA kn kc) (some ⟨g, 0, none⟩) 2 w.heap.size (twoF k1 n1 b1 k2 n2 b2) w0 hr0 hb0.size hd (Nat.le_refl 2))
  have hok : okF (fun _ _ _ _ => true) (twoF k1 n1 b1 k2 n2 b2) = true := rfl
  have hlen : (twoF k1 n1 b1 k2 n2 b2).len = 2 := rfl
  rw [hok, hlen] at HDP
  have H1 := hide h1
  have H2 := hide h2
  have HA1 := hide hA1
  have HA2 := hide hA2
  have HG := hide hg
  have HB0 := hide hb0
  have HX0 := hide hx0
  have HW := hide hw0
  clear hf hb0 hx0 hw0 hr0 hok hlen h1 h2 hA1 hA2 hg hd
  go_enter Try.func16, Try.ntmps16
  go_wp2_with fail
  rw [show w.alloc (.cells #[.int .u8 0, .int .i64 0, .slice none 0 0, .slice none 0 0] 26) = w0 from HW.out.symm]
  refine HDP.out.mono ?_
  rintro e w1 ⟨rfl, hb⟩
  have HB1 := hide (HB0.out.trans (hb.mono HB0.out.size))
  have HX1 : Hid (w1.heap[w.heap.size]? = some (.cells #[.int .u8 0, .int .i64 0, .slice none 0 0, .slice none 0 0] 26 (0, 0))) := (hb.block _ (at_lt HX0.out)).trans HX0.out
  have HG1 : Hid (w1.heap[g]? = some (.cells #[.int .u8 k1, .int .i64 n1, .slice A1 b1.length c1, .slice none 0 0, .int .u8 k2, .int .i64 n2, .slice A2 b2.length c2, .slice none 0 0] 26 (0, 0))) := (HB1.out.block _ hlt).trans HG.out
  clear hb
  go_wp2_with fail
  refine (copied_two k1 n1 k2 n2 b1 b2 A1 A2 c1 c2 g B w1 HG1.out (H1.out.below (HB1.out.mono hB)) (H2.out.below (HB1.out.mono hB)) HA1.out HA2.out (Nat.le_trans hB HB1.out.size) hl1 hl2).mono ?_
  rintro e w2 ⟨a, c, rfl, hfa, hc, hb, hfx⟩
  have HB2 := hide (HB1.out.trans (hb.mono HB1.out.size))
  have HX2 : Hid (w2.heap[w.heap.size]? = some (.cells #[.int .u8 0, .int .i64 0, .slice none 0 0, .slice none 0 0] 26 (0, 0))) := (hb.block _ (at_lt HX1.out)).trans HX1.out
  have HF := hide hfx
  have HC := hide hc
  clear hfa hfx hc hb
  have f0 := blk_free HX2.out
  have c0 := (blk_cell HX2.out 0).trans rfl
  have c1' := (blk_cell HX2.out 1).trans rfl
  have c2' := (blk_cell HX2.out 2).trans rfl
  have c3 := (blk_cell HX2.out 3).trans rfl
  go_wp2_with fail
  clear c0 c1' c2' c3 f0
  obtain ⟨hst, hgr⟩ := store_4 HX2.out (.int .u8 3) (.int .i64 0) (.slice none 0 0) (.slice (some a) 2 c)
  refine bodyPost_ret (results_cell_row rfl _ _ w.heap.size 26 _ _ _ rfl hst Try.underlying26 rfl (by kernel_rfl)) rfl ?_
  refine ⟨a, c, rfl, ?_, HC.out, HB2.out.grown hgr HB2.out.size (fun k e => by cases e; exact Nat.le_refl _)⟩
  exact HF.out w.heap.size _ (at_lt HX1.out) hgr
end Go.Proofs.Ytolmjnoaiiodlaa
