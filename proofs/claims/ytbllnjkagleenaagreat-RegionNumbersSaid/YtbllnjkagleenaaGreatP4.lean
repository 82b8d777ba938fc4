/-
  The calls of a memory: New, Kind, Size, Read, Write, Free, Make.
-/
import Derived.Test.YtbllnjkagleenaaGreatP3
import Derived.Test.YtbllnjkagleenaaGreatCP
namespace Go.Proofs.YtbllnjkagleenaaGreat
open Go.RowKit
set_option linter.unusedVariables false

set_option maxRecDepth 100000 in
theorem new_any (w : World) : Calls Tryz.prog 5 #[] w fun e w' => ∃ b mm, e = .returned (.pointer (some ⟨b, 0, none⟩)) ∧ PM w' b mm 0 (fun _ => none) ∧ w.heap.size ≤ b ∧ w.heap.size ≤ mm ∧ Below w.heap.size w w' := by
  have HT := hide (tableOf_any w)
  go_enter Tryz.func5, Tryz.ntmps5
  go_wp2_with fail
  refine HT.out.mono ?_
  rintro e w1 ⟨rfl, hb, hm⟩
  have HB := hide hb
  have HM := hide hm
  clear hb hm
  go_wp2
  go_ret
  refine ⟨w1.heap.size, w.heap.size + 1, rfl, ⟨World.alloc_heap_new w1 _, HM.out.same ((below1 w1 _).block _ HM.out.lt)⟩, HB.out.size, Nat.le_succ _, HB.out.alloc HB.out.size _⟩
theorem name_call {P : Program} {f : FuncId} {args : Array Value} {w : World} {R : Ending → World → Prop} (h : ∀ W, W = w → Calls P f args W R) : Calls P f args w R := h w rfl
/-- What live tells of a region where nothing more is asked. -/
def Tells (w : World) (p : Option Addr) (n : Int) (M : Value) (k : Int) (A : Option Addr) (m c : Nat) (err : Int) : Prop :=
  Calls Tryz.prog 32 #[.pointer p, .int .i64 n, M] w fun e w' => e = .returned (.tuple #[.agg #[.int .u8 k, .slice A m c], .int .i64 err]) ∧ Below w.heap.size w w'
set_option maxRecDepth 100000 in
theorem kind_any (p : Option Addr) (n k : Int) (A : Option Addr) (m c : Nat) (err : Int) (w : World) (h : Tells w p n (.slice none 0 0) k A m c err) :
    Calls Tryz.prog 23 #[.pointer p, .int .i64 n] w fun e w' => e = .returned (.int .u8 k) ∧ Below w.heap.size w w' := by
  unfold Tells at h
  have H := hide h
  clear h
  go_enter Tryz.func23, Tryz.ntmps23
  go_wp2_with fail
  refine H.out.mono ?_
  rintro e w1 ⟨rfl, hb⟩
  have HB := hide hb
  clear hb
  go_wp2
  go_ret
  exact ⟨rfl, HB.out.alloc HB.out.size _⟩
set_option maxRecDepth 100000 in
theorem size_any (p : Option Addr) (n k : Int) (A : Option Addr) (m c : Nat) (err : Int) (w : World) (h : Tells w p n (.slice none 0 0) k A m c err) :
    Calls Tryz.prog 7 #[.pointer p, .int .i64 n] w fun e w' => e = .returned (.int .i64 m) ∧ Below w.heap.size w w' := by
  unfold Tells at h
  have H := hide h
  clear h
  go_enter Tryz.func7, Tryz.ntmps7
  go_wp2_with fail
  refine H.out.mono ?_
  rintro e w1 ⟨rfl, hb⟩
  have HB := hide hb
  clear hb
  go_wp2
  go_ret
  exact ⟨rfl, HB.out.alloc HB.out.size _⟩
set_option maxRecDepth 100000 in
theorem free_not (p : Option Addr) (n k : Int) (A : Option Addr) (m c : Nat) (err : Int) (w : World) (h : Tells w p n (.slice none 0 0) k A m c err) (he : err ≠ 0) :
    Calls Tryz.prog 18 #[.pointer p, .int .i64 n] w fun e w' => e = .returned (.int .i64 err) ∧ Below w.heap.size w w' := by
  unfold Tells at h
  have H := hide h
  clear h
  have h0 : (err == 0) = false := by simpa using he
  have h1 : (err != 0) = true := by simpa using he
  go_enter Tryz.func18, Tryz.ntmps18
  go_wp2_with fail
  refine H.out.mono ?_
  rintro e w1 ⟨rfl, hb⟩
  have HB := hide hb
  clear hb
  go_wp2
  go_ret
  exact ⟨rfl, HB.out.alloc HB.out.size _⟩
set_option maxRecDepth 100000 in
theorem free_yes (b mm : Nat) (last : Int) (f : Int → Option Value) (n k : Int) (A : Option Addr) (m c : Nat) (w : World) (h : Tells w (some ⟨b, 0, none⟩) n (.slice none 0 0) k A m c 0) (hp : PM w b mm last f) (hw : wfI n) :
    Calls Tryz.prog 18 #[.pointer (some ⟨b, 0, none⟩), .int .i64 n] w fun e w' => e = .returned (.int .i64 0) ∧ PM w' b mm last (setAt f n none) ∧ Kept (fun j => j ≠ mm) w w' := by
  unfold Tells at h
  have H := hide h
  have HP := hide hp
  clear h hp
  go_enter Tryz.func18, Tryz.ntmps18
  go_wp2_with fail
  refine H.out.mono ?_
  rintro e w1 ⟨rfl, hb⟩
  have hb2 := hb.alloc hb.size (.cells #[.int .u8 k, .slice A m c] 56)
  have HB := hide hb2
  have HD := hide (drop_any b mm last n f _ (HP.out.below hb2) hw)
  clear hb hb2
  go_wp2_with (go_at_call 36; refine (HD.out).mono ?_; rintro e w2 ⟨rfl, hm, hk⟩; have HM := hide hm; have HK := hide hk; clear hm hk)
  go_ret
  exact ⟨rfl, HM.out, keptTrans ((Kept.refl _ _).later HB.out) HK.out⟩
/-- What live tells of a region of which k bytes from off on are asked. -/
def TellsM (w : World) (p : Option Addr) (n off size : Int) (k : Int) (A : Option Addr) (m c : Nat) (err : Int) : Prop :=
  ∀ W x, Below w.heap.size w W → W.heap[x]? = some (.cells #[.int .i64 off] 2 (0, 0)) → W.heap[x + 1]? = some (.cells #[.int .i64 size] 3 (0, 0)) → W.heap[x + 2]? = some (.cells #[.func (.func 42) #[] #[.pointer (some ⟨x, 0, none⟩), .pointer (some ⟨x + 1, 0, none⟩)]] 69 (0, 0)) →
    Tells W p n (.slice (some ⟨x + 2, 0, none⟩) 1 1) k A m c err
theorem u8size : (Tryz.prog.info? 5).map (·.size) = some 1 := by kernel_rfl
theorem asked {w : World} {p : Option Addr} {n off size k : Int} {A : Option Addr} {m c : Nat} {err : Int} (h : TellsM w p n off size k A m c err) :
    Calls Tryz.prog 32 #[.pointer p, .int .i64 n, .slice (some ⟨w.heap.size + 1 + 1, 0, none⟩) 1 1] (((w.alloc (.cells #[.int .i64 off] 2)).alloc (.cells #[.int .i64 size] 3)).alloc (.cells #[.func (.func 42) #[] #[.pointer (some ⟨w.heap.size, 0, none⟩), .pointer (some ⟨w.heap.size + 1, 0, none⟩)]] 69))
      fun e w' => e = .returned (.tuple #[.agg #[.int .u8 k, .slice A m c], .int .i64 err]) ∧ Below w.heap.size w w' := by
  obtain ⟨h0, h1, h2⟩ := three_boxes w (.cells #[.int .i64 off] 2) (.cells #[.int .i64 size] 3) (.cells #[.func (.func 42) #[] #[.pointer (some ⟨w.heap.size, 0, none⟩), .pointer (some ⟨w.heap.size + 1, 0, none⟩)]] 69)
  have hb := below3 w (.cells #[.int .i64 off] 2) (.cells #[.int .i64 size] 3) (.cells #[.func (.func 42) #[] #[.pointer (some ⟨w.heap.size, 0, none⟩), .pointer (some ⟨w.heap.size + 1, 0, none⟩)]] 69)
  refine Calls.mono (h _ w.heap.size hb h0 h1 h2) ?_
  rintro e w' ⟨he, hb2⟩
  exact ⟨he, hb.trans (hb2.mono hb.size)⟩
set_option maxRecDepth 100000 in
theorem read_not (p : Option Addr) (n off size k : Int) (A : Option Addr) (m c : Nat) (err : Int) (w : World) (h : TellsM w p n off size k A m c err) (he : err ≠ 0) :
    Calls Tryz.prog 15 #[.pointer p, .int .i64 n, .int .i64 off, .int .i64 size] w fun e w' => e = .returned (.tuple #[.slice none 0 0, .int .i64 err]) ∧ Below w.heap.size w w' := by
  have h0 : (err == 0) = false := by simpa using he
  have h1 : (err != 0) = true := by simpa using he
  have H := hide (asked h)
  clear h
  go_enter Tryz.func15, Tryz.ntmps15
  go_wp2_with (first | (go_at_call 34; refine (within_any off size _).mono ?_; rintro e w2 ⟨rfl, rfl⟩) | (go_at_call 32; refine (H.out).mono ?_; rintro e w3 ⟨rfl, hb⟩; have HB := hide hb; clear hb))
  go_ret2
  exact ⟨rfl, HB.out.alloc HB.out.size _⟩
set_option maxRecDepth 100000 in
theorem read_yes (p : Option Addr) (n k : Int) (off size : Nat) (A : Option Addr) (m c : Nat) (l : List Int) (w : World) (h : TellsM w p n off size k A m c 0) (ho : w.ownsRow 0 5 1 (.slice A m c) m (u8s l)) (hfit : off + size ≤ m) (hm : m ≤ 1000000) :
    Calls Tryz.prog 15 #[.pointer p, .int .i64 n, .int .i64 off, .int .i64 size] w fun e w' => ∃ v, e = .returned (.tuple #[v, .int .i64 0]) ∧ OwnB w' w.heap.size v size ((l.drop off).take size) ∧ Below w.heap.size w w' := by
  obtain ⟨A2, c2, hcut, hA2, hg2⟩ := cut_part (P := Tryz.prog) Tryz.underlying26 u8size ho off size hfit
  have hrd := cut_rd ho off size hfit hg2
  have HC := hide hcut
  have HRD : Hid (Rd w w.heap.size 1 A2 size (u8s ((l.drop off).take size))) := by
    have e : u8s ((l.drop off).take size) = ((u8s l).drop off).take size := by simp [u8s, List.map_take, List.map_drop]
    rw [e]; exact hrd
  have HA2 := hide hA2
  have H := hide (asked h)
  clear h hcut hrd hA2 hg2 ho
  go_enter Tryz.func15, Tryz.ntmps15
  go_wp2_with (first | (go_at_call 34; refine (within_any off size _).mono ?_; rintro e w2 ⟨rfl, rfl⟩) | (go_at_call 32; refine (H.out).mono ?_; rintro e w3 ⟨rfl, hb⟩; have HB := hide hb; have hcw := HC.out (w3.alloc (.cells #[.int .u8 k, .slice A m c] 56)); clear hb))
  have hbw := HB.out.alloc HB.out.size (.cells #[.int .u8 k, .slice A m c] 56)
  clear hcw
  refine (copied_any A2 size c2 w.heap.size _ _ (HRD.out.below hbw) HA2.out hbw.size (by omega)).mono ?_
  rintro e w4 ⟨v, rfl, ho, hb4⟩
  have HO := hide ho
  have HB4 := hide (hbw.trans (hb4.mono hbw.size))
  have hle := hbw.size
  clear ho hb4 hbw
  go_wp2
  go_ret2
  exact ⟨v, rfl, ⟨HO.out.1, fun g hg => Nat.le_trans hle (HO.out.2 g hg)⟩, HB4.out⟩
set_option maxRecDepth 100000 in
theorem write_not (p : Option Addr) (n off k : Int) (A : Option Addr) (m c : Nat) (err : Int) (S : Option Addr) (q sc : Nat) (w : World) (h : TellsM w p n off q k A m c err) (he : err ≠ 0) :
    Calls Tryz.prog 20 #[.pointer p, .int .i64 n, .int .i64 off, .slice S q sc] w fun e w' => e = .returned (.int .i64 err) ∧ Below w.heap.size w w' := by
  have h0 : (err == 0) = false := by simpa using he
  have h1 : (err != 0) = true := by simpa using he
  have H := hide (asked h)
  clear h
  go_enter Tryz.func20, Tryz.ntmps20
  go_wp2_with (first | (go_at_call 34; refine (within_any off q _).mono ?_; rintro e w2 ⟨rfl, rfl⟩) | (go_at_call 32; refine (H.out).mono ?_; rintro e w3 ⟨rfl, hb⟩; have HB := hide hb; clear hb))
  go_ret
  exact ⟨rfl, HB.out.alloc HB.out.size _⟩
set_option maxRecDepth 100000 in
theorem write_yes (p : Option Addr) (n k : Int) (off q : Nat) (A S : Option Addr) (m c sc B : Nat) (l d : List Int) (w : World) (h : TellsM w p n off q k A m c 0) (ho : w.ownsRow 0 5 1 (.slice A m c) m (u8s l)) (hd : Rd w B 1 S q (u8s d)) (hB : B ≤ w.heap.size) (hfit : off + q ≤ m) (hm : m ≤ 1000000) :
    Calls Tryz.prog 20 #[.pointer p, .int .i64 n, .int .i64 off, .slice S q sc] w fun e w' => e = .returned (.int .i64 0) ∧ w'.ownsRow 0 5 1 (.slice A m c) m (u8s (splice l off d)) ∧ Kept (fun j => (Value.slice A m c).ownBlock ≠ some j) w w' := by
  obtain ⟨A2, c2, hcut, hg2⟩ := cut_rest (P := Tryz.prog) Tryz.underlying26 u8size ho off (by omega)
  have HC := hide hcut
  have HG2 := hide hg2
  have HO := hide ho
  have HD := hide hd
  have H := hide (asked h)
  clear h hcut hg2 ho hd
  go_enter Tryz.func20, Tryz.ntmps20
  go_wp2_with (first | (go_at_call 34; refine (within_any off q _).mono ?_; rintro e w2 ⟨rfl, rfl⟩) | (go_at_call 32; refine (H.out).mono ?_; rintro e w3 ⟨rfl, hb⟩; have HB := hide hb; have hcw := HC.out (w3.alloc (.cells #[.int .u8 k, .slice A m c] 56)); clear hb) | (with_reducible refine stop_copy ?_))
  show Hid _
  refine start_here ?_
  have hbw := HB.out.alloc HB.out.size (.cells #[.int .u8 k, .slice A m c] 56)
  refine wpList_copy_owns (e := 5) (n := m) (xs := u8s l) rfl (.tmp 28) (.tmp 29) 26 26 rfl Tryz.underlying26 u8size A c (owns_kept_below HO.out hbw) off A2 (m - off) c2 rfl HG2.out B S q sc rfl (u8s d) (HD.out.below (hbw.mono hB)) (u8s_one d) (by omega) hfit ?_
  intro w4 ho4 hg4 hz4
  have HB2 := hide hbw
  have HO4 := hide ho4
  have HG4 := hide hg4
  clear hbw ho4 hg4 hz4
  go_wp2
  go_ret
  refine ⟨rfl, ?_, ((Kept.refl _ w).later HB2.out).grown HG4.out (fun j e _ h => h e)⟩
  have e : u8s (splice l off d) = splice (u8s l) off (u8s d) := by simp [u8s, splice, List.map_take, List.map_drop]
  rw [e]
  exact HO4.out
end Go.Proofs.YtbllnjkagleenaaGreat
