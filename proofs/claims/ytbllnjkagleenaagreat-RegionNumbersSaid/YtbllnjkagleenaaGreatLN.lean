/-
  A memory that nobody made tells nothing: RegionNil's walk.
-/
import Derived.Test.YtbllnjkagleenaaGreatAW
namespace Go.Proofs.YtbllnjkagleenaaGreat
open Go.RowKit
set_option linter.unusedVariables false

/-- A memory that New did not make. -/
def NoM (p : Option Addr) (w0 : World) : Prop := ∀ W, Below w0.heap.size w0 W → Calls Tryz.prog 29 #[.pointer p] W fun e w' => e = .returned (.bool false) ∧ W = w'
theorem NoM.tells {p : Option Addr} {w0 W : World} (h : NoM p w0) (hb : Below w0.heap.size w0 W) (n : Int) (M : Value) : Tells W p n M 0 none 0 0 1 := live_not p n M W (fun W2 hb2 => h W2 (hb.trans (hb2.mono hb.size)))
theorem NoM.tellsM {p : Option Addr} {w0 W : World} (h : NoM p w0) (hb : Below w0.heap.size w0 W) (n off size : Int) : TellsM W p n off size 0 none 0 0 1 := fun W2 x hb2 _ _ _ => h.tells (hb.trans (hb2.mono hb.size)) n _
theorem NoM.make {p : Option Addr} {w0 W : World} (h : NoM p w0) (hb : Below w0.heap.size w0 W) (k : Int) (A : Option Addr) (n c : Nat) : Calls Tryz.prog 6 #[.pointer p, .int .u8 k, .slice A n c] W fun e w' => e = .returned (.tuple #[.int .i64 0, .int .i64 1]) ∧ Below w0.heap.size w0 w' :=
  (make_not p k A n c W (h W hb)).mono fun e w' ⟨h1, h2⟩ => ⟨h1, h2 ▸ hb⟩
theorem NoM.read {p : Option Addr} {w0 W : World} (h : NoM p w0) (hb : Below w0.heap.size w0 W) (n off size : Int) : Calls Tryz.prog 15 #[.pointer p, .int .i64 n, .int .i64 off, .int .i64 size] W fun e w' => e = .returned (.tuple #[.slice none 0 0, .int .i64 1]) ∧ Below w0.heap.size w0 w' :=
  (read_not p n off size 0 none 0 0 1 W (h.tellsM hb n off size) (by decide)).mono fun e w' ⟨h1, h2⟩ => ⟨h1, hb.trans (h2.mono hb.size)⟩
theorem NoM.write {p : Option Addr} {w0 W : World} (h : NoM p w0) (hb : Below w0.heap.size w0 W) (n off : Int) : Calls Tryz.prog 20 #[.pointer p, .int .i64 n, .int .i64 off, .slice none 0 0] W fun e w' => e = .returned (.int .i64 1) ∧ Below w0.heap.size w0 w' :=
  (write_not p n off 0 none 0 0 1 none 0 0 W (h.tellsM hb n off _) (by decide)).mono fun e w' ⟨h1, h2⟩ => ⟨h1, hb.trans (h2.mono hb.size)⟩
theorem NoM.free {p : Option Addr} {w0 W : World} (h : NoM p w0) (hb : Below w0.heap.size w0 W) (n : Int) : Calls Tryz.prog 18 #[.pointer p, .int .i64 n] W fun e w' => e = .returned (.int .i64 1) ∧ Below w0.heap.size w0 w' :=
  (free_not p n 0 none 0 0 1 W (h.tells hb n _) (by decide)).mono fun e w' ⟨h1, h2⟩ => ⟨h1, hb.trans (h2.mono hb.size)⟩
theorem NoM.kind {p : Option Addr} {w0 W : World} (h : NoM p w0) (hb : Below w0.heap.size w0 W) (n : Int) : Calls Tryz.prog 23 #[.pointer p, .int .i64 n] W fun e w' => e = .returned (.int .u8 0) ∧ Below w0.heap.size w0 w' :=
  (kind_any p n 0 none 0 0 1 W (h.tells hb n _)).mono fun e w' ⟨h1, h2⟩ => ⟨h1, hb.trans (h2.mono hb.size)⟩
theorem NoM.size {p : Option Addr} {w0 W : World} (h : NoM p w0) (hb : Below w0.heap.size w0 W) (n : Int) : Calls Tryz.prog 7 #[.pointer p, .int .i64 n] W fun e w' => e = .returned (.int .i64 0) ∧ Below w0.heap.size w0 w' :=
  (size_any p n 0 none 0 0 1 W (h.tells hb n _)).mono fun e w' ⟨h1, h2⟩ => ⟨h1, hb.trans (h2.mono hb.size)⟩
set_option maxRecDepth 100000 in
set_option maxHeartbeats 1000000 in
theorem law_regionNil (n off size : Int) (w : World) : Calls Tryz.prog 8 #[.int .i64 n, .int .i64 off, .int .i64 size] w fun e w' => e = .returned (.bool true) ∧ Below w.heap.size w w' := by
  go_enter Tryz.func8, Tryz.ntmps8
  go_wp2
  generalize hW0 : (w.alloc (.cells #[.pointer none, .int .i64 0, .map none] 58)).alloc (.cells #[.pointer none, .pointer (some ⟨w.heap.size, 0, none⟩)] 30) = W0
  have hx : W0.heap[w.heap.size]? = some (.cells #[.pointer none, .int .i64 0, .map none] 58 (0, 0)) ∧ W0.heap[w.heap.size + 1]? = some (.cells #[.pointer none, .pointer (some ⟨w.heap.size, 0, none⟩)] 30 (0, 0)) := by
    rw [← hW0]; exact two_boxes w _ _
  have HB0 : Hid (Below w.heap.size w W0) := by rw [← hW0]; exact below2 w _ _
  clear hW0
  obtain ⟨hx0, hx1⟩ := hx
  have HX1 := hide hx1
  have HN1 : Hid (NoM none W0) := fun W _ => made_nil W
  have HN2 : Hid (NoM (some ⟨w.heap.size, 0, none⟩) W0) := fun W hb => made_zero _ W ((hb.cell (p := ⟨w.heap.size, 0, none⟩) (at_lt hx0)).trans (by rw [blk_cell hx0]; rfl))
  have HZ := hide (Below.refl W0.heap.size W0)
  have c0 := blk_cell hx1 0
  have c1 := blk_cell hx1 1
  simp at c0 c1
  have hlt := at_lt hx1
  clear hx0 hx1
  refine wp_loop_rounds 3 ?_
  rw [rounds_succ]
  go_wp2_with (first
    | (go_at_call 6; refine (NoM.make HN1.out HZ.out 2 none 0 0).mono ?_; rintro e haw1 ⟨rfl, hb⟩; have HA1 := hide hb; clear hb)
    | (go_at_call 15; refine (NoM.read HN1.out HA1.out n off size).mono ?_; rintro e haw2 ⟨rfl, hb⟩; have HA2 := hide hb; clear hb)
    | (go_at_call 20; refine (NoM.write HN1.out HA2.out n off).mono ?_; rintro e haw3 ⟨rfl, hb⟩; have HA3 := hide hb; clear hb)
    | (go_at_call 18; refine (NoM.free HN1.out HA3.out n).mono ?_; rintro e haw4 ⟨rfl, hb⟩; have HA4 := hide hb; clear hb)
    | (go_at_call 23; refine (NoM.kind HN1.out HA4.out n).mono ?_; rintro e haw5 ⟨rfl, hb⟩; have HA5 := hide hb; clear hb)
    | (go_at_call 7; refine (NoM.size HN1.out HA5.out n).mono ?_; rintro e haw6 ⟨rfl, hb⟩; have HA6 := hide hb; clear hb))
  rw [rounds_succ]
  have d1 : haw6.cell? ⟨w.heap.size + 1, 1, none⟩ = some (.pointer (some ⟨w.heap.size, 0, none⟩)) := (HA6.out.cell (p := ⟨w.heap.size + 1, 1, none⟩) hlt).trans c1
  go_wp2_with (first
    | (go_at_call 6; refine (NoM.make HN2.out HA6.out 2 none 0 0).mono ?_; rintro e hcw1 ⟨rfl, hb⟩; have HC1 := hide hb; clear hb)
    | (go_at_call 15; refine (NoM.read HN2.out HC1.out n off size).mono ?_; rintro e hcw2 ⟨rfl, hb⟩; have HC2 := hide hb; clear hb)
    | (go_at_call 20; refine (NoM.write HN2.out HC2.out n off).mono ?_; rintro e hcw3 ⟨rfl, hb⟩; have HC3 := hide hb; clear hb)
    | (go_at_call 18; refine (NoM.free HN2.out HC3.out n).mono ?_; rintro e hcw4 ⟨rfl, hb⟩; have HC4 := hide hb; clear hb)
    | (go_at_call 23; refine (NoM.kind HN2.out HC4.out n).mono ?_; rintro e hcw5 ⟨rfl, hb⟩; have HC5 := hide hb; clear hb)
    | (go_at_call 7; refine (NoM.size HN2.out HC5.out n).mono ?_; rintro e hcw6 ⟨rfl, hb⟩; have HC6 := hide hb; clear hb))
  rw [rounds_succ]
  have HBx := hide (HB0.out.trans (HC6.out.mono HB0.out.size))
  go_wp2_with (go_at_call 9; refine (awake_any _).mono ?_; rintro e w9 ⟨rfl, hb⟩; have HB10 := hide (HBx.out.trans (hb.mono HBx.out.size)); clear hb)
  go_ret
  exact ⟨rfl, HB10.out⟩
end Go.Proofs.YtbllnjkagleenaaGreat
