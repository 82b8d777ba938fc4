/-
  Where the next value stands, or that there is none.
-/
import Derived.Test.YtflpifelamkagaaGreatV4
namespace Go.Proofs.YtflpifelamkagaaGreat
open Go.RowKit
set_option linter.unusedVariables false
attribute [local go_sem] Oper.semAt_some

def atI (st : Bool) (n : Nat) : Nat := if st then n - 1 else 0
theorem kept_stays {n : Nat} {F : Nat → Prop} {w X Y : World} (h : Kept F w X) (hn : w.heap.size ≤ n) (hst : Stays n X Y) : Kept F w Y :=
  ⟨hst.os.trans h.os, hst.tape.trans h.tape, hst.output.trans h.output, Nat.le_trans h.size hst.size, fun i hi hF => by
    have h1 := h.block i hi hF
    rw [← h1]
    have h3 : i < X.heap.size := Nat.lt_of_lt_of_le hi h.size
    have h2 : X.heap[i]? = some X.heap[i] := Array.getElem?_eq_getElem h3
    rw [h2]
    exact hst.same _ _ h2 (.inl (by omega))⟩
def errI (n : Nat) : Int := if n = 0 then 6 else 0
set_option maxRecDepth 100000 in
set_option maxHeartbeats 1000000 in
theorem find_any {w : World} {B b sz n c : Nat} {st : Bool} {A : Option Addr} {L : List QR} (h : Que w B b st sz n A c L) :
    Calls Tryz.prog 28 #[.pointer (some ⟨b, 0, none⟩)] w fun e w' => e = .returned (.tuple #[.int .i64 (atI st L.length), .int .i64 (errI L.length)]) ∧ Below w.heap.size w w' := by
  have hb2 := below2 w (.cells #[.int .i64 0] 3) (.cells #[.int .i64 0] 29)
  have h2 := h.below hb2
  have hlen : L.length ≤ 1024 := by have := h.many; omega
  have HM := hide (is_yes b _ h2.c0)
  have HLF := hide (left_any b L.length c st A _ h2.c3 h2.c4)
  refine (callsIn_wide (n := 3)).1 ?_
  refine callsIn_of_wp_marks Tryz.func28 rfl trivial ?_ rfl
  simp only [Tryz.ntmps28, List.size_toArray, List.length_cons, List.length_nil, Nat.reduceAdd, Nat.reduceSub, Array.replicate_succ, Array.replicate_zero, List.push_toArray, List.append_toArray, List.nil_append, List.cons_append]
  gi_wp2_with fail
  refine ⟨trivial, (callsIn_wide.2 HM.out).mono ?_⟩
  rintro e w' ⟨rfl, rfl⟩
  gi_wp2_with fail
  refine ⟨trivial, (callsIn_wide.2 HLF.out).mono ?_⟩
  rintro e w' ⟨rfl, rfl⟩
  gi_wp2_with fail
  obtain ⟨q0, q1⟩ := two_boxes w (.cells #[.int .i64 0] 3) (.cells #[.int .i64 0] 29)
  have hz2 : ((w.alloc (.cells #[.int .i64 0] 3)).alloc (.cells #[.int .i64 0] 29)).heap.size = w.heap.size + 2 := by simp
  generalize hW2 : (w.alloc (.cells #[.int .i64 0] 3)).alloc (.cells #[.int .i64 0] 29) = W2 at *
  have hb3 : Below W2.heap.size W2 ((W2.alloc (.cells #[.slice A L.length c] 57)).drew) := ((Below.refl _ W2).alloc (Nat.le_refl _) _).drew
  have q3 := World.alloc_heap_new W2 (.cells #[.slice A L.length c] 57)
  have hz3 : ((W2.alloc (.cells #[.slice A L.length c] 57)).drew).heap.size = w.heap.size + 3 := by show (W2.alloc _).heap.size = _; rw [World.size_alloc]; omega
  have hQ := h2.below hb3
  have q0' : Boxed ((W2.alloc (.cells #[.slice A L.length c] 57)).drew) w.heap.size 3 (.int .i64 0) := boxed_below q0 hb3
  have q1' : Boxed ((W2.alloc (.cells #[.slice A L.length c] 57)).drew) (w.heap.size + 1) 29 (.int .i64 0) := boxed_below q1 hb3
  have q3' : Boxed ((W2.alloc (.cells #[.slice A L.length c] 57)).drew) (w.heap.size + 1 + 1) 57 (.slice A L.length c) := by rw [show w.heap.size + 1 + 1 = W2.heap.size by omega]; exact q3
  have hk3 : Kept (fun _ => True) w ((W2.alloc (.cells #[.slice A L.length c] 57)).drew) := Kept.of_below (hb2.trans (hb3.mono hb2.size))
  generalize (W2.alloc (.cells #[.slice A L.length c] 57)).drew = W0 at *
  have hgo : ∀ args (W : World), (callFunc (nx1 st) args).run Tryz.prog W = .ok (.enter (nx1 st) args) W := by
    cases st
    · exact enters_of Tryz.func40 (by kernel_rfl) rfl
    · exact enters_of Tryz.func41 (by kernel_rfl) rfl
  have hit := seq_iter (3 - 1) (w.heap.size + 1 + 1) sz c st A L W0 q3' hQ.rd hlen
  clear q0 q1 q3 q3' hQ h2 h hb2 hb3 HM HLF
  refine range_ends (α := Nat) (F := Fence.wide) (n := 3) rfl (by omega) (gf := nx1 st) (lb := #[.pointer (some ⟨w.heap.size + 1 + 1, 0, none⟩)]) rfl trivial hgo hit (Below.refl _ _)
    (fun h k => ⟨Nat.le_trans h.1 k.1, fun j hj => (k.2 j hj).trans (h.2 j hj)⟩) (fun X l o o' hl _ h ho => ⟨by simp, fun k hk => World.putObj_heap_other (by omega)⟩) (fun _ => rfl)
    (fun pre W => pre = [] ∧ Boxed W w.heap.size 3 (.int .i64 0) ∧ Boxed W (w.heap.size + 1) 29 (.int .i64 0) ∧ Kept (fun _ => True) w W)
    (fun pre W => 0 < L.length ∧ Boxed W w.heap.size 3 (.int .i64 (atI st L.length)) ∧ Boxed W (w.heap.size + 1) 29 (.int .i64 0) ∧ Kept (fun _ => True) w W)
    ?_ ?_ ⟨rfl, q0', q1', hk3⟩ ?round ?done ?stop
  · rintro s X Y ⟨h1, h2, h3, h5⟩ hst
    exact ⟨h1, hst.boxed h2, hst.boxed h3, kept_stays h5 (by omega) hst⟩
  · rintro s X Y ⟨h1, h2, h3, h5⟩ hst
    exact ⟨h1, hst.boxed h2, hst.boxed h3, kept_stays h5 (by omega) hst⟩
  case round =>
    rintro lp pre x W hle hloop hws ⟨rfl, h2, h3, h5⟩ ⟨hxl, hx⟩
    have hxe : x = atI st L.length := by
      unfold atI
      cases st <;> simp at hx ⊢ <;> omega
    subst hxe
    have H2 := hide h2
    have H3 := hide h3
    have H5 := hide h5
    have HL := hide hloop
    clear h2 h3 h5 hloop hx hit hgo
    gi_wp2
    refine ⟨KeepsFrom.refl _ _, ⟨Nat.le_refl _, fun _ _ => rfl⟩, ⟨trivial, H2.out, H3.out, H5.out⟩, fun W2 hst => ?_⟩
    have b2 := hst.boxed H2.out
    have b3 := hst.boxed H3.out
    have HK2 := hide (kept_stays H5.out (by omega) hst)
    have HB2 := hide b2
    have HB3 := hide b3
    have c0 := b2.cell
    have f0 := b2.frozen
    have c1 := b3.cell
    have f1 := b3.frozen
    clear b2 b3
    gi_wp2
    refine ⟨((KeepsOthers.setCell _ _ _).trans (KeepsOthers.setCell _ _ _)).from _, by omega, (boxed_set2 HB2.out HB3.out _ _).1, (boxed_set2 HB2.out HB3.out _ _).2, ?_⟩
    exact (HK2.out.setCell (p := ⟨w.heap.size, 0, none⟩) (fun h => absurd h (Nat.lt_irrefl _)) _).setCell (p := ⟨w.heap.size + 1, 0, none⟩) (fun h => absurd h (by show ¬ w.heap.size + 1 < w.heap.size; omega)) _
  case done =>
    rintro D xs W hD hS ⟨rfl, h2, h3, h5⟩ hdef
    have hl0 : L.length = 0 := hS.symm
    have c0 := h2.cell
    have f0 := h2.frozen
    have c1 := (boxed_other h3 (b := w.heap.size) (v := .int .i64 0) (by omega)).cell
    have f1 := (boxed_other h3 (b := w.heap.size) (v := .int .i64 0) (by omega)).frozen
    have hdef2 : ((W.setCell ⟨w.heap.size, 0, none⟩ (.int .i64 0)).setCell ⟨w.heap.size + 1, 0, none⟩ (.int .i64 6)).heap[D]? = some (.deferred (some [])) :=
      ((Below.heap_setCell _ ⟨w.heap.size + 1, 0, none⟩ _ D (fun e => by have : D = w.heap.size + 1 := e; omega)).trans (Below.heap_setCell _ ⟨w.heap.size, 0, none⟩ _ D (fun e => by have : D = w.heap.size := e; omega))).trans hdef
    obtain ⟨d0, d1⟩ := boxed_set2 h2 h3 (.int .i64 0) (.int .i64 6)
    have hk : Kept (fun _ => True) w ((W.setCell ⟨w.heap.size, 0, none⟩ (.int .i64 0)).setCell ⟨w.heap.size + 1, 0, none⟩ (.int .i64 6)) := (h5.setCell (p := ⟨w.heap.size, 0, none⟩) (fun h => absurd h (Nat.lt_irrefl _)) _).setCell (p := ⟨w.heap.size + 1, 0, none⟩) (fun h => absurd h (by show ¬ w.heap.size + 1 < w.heap.size; omega)) _
    have hst := Stays.putObj (B := W0.heap.size) (.deferred none) hD hdef2 rfl
    have c2 := (hst.boxed d0).cell
    have c3 := (hst.boxed d1).cell
    have HB := hide ((kept_stays hk (by omega) hst).to_below (B := w.heap.size) (fun _ _ => trivial) (Nat.le_refl _))
    have HD := hide hdef2
    have e0 : atI st L.length = 0 := by rw [hl0]; cases st <;> rfl
    have e1 : errI L.length = 6 := by rw [hl0]; rfl
    have E0 := hide e0
    have E1 := hide e1
    clear hk hst h2 h3 h5 hdef hdef2 d0 d1 hit hgo e0 e1
    gi_wp2
    refine ⟨by simp, .inl ⟨_, _, rfl, run_takeDeferred HD.out, ?_⟩⟩
    exact ⟨.tuple #[.int .i64 0, .int .i64 6], by simp [results, Tryz.results28, go_sem, c2, c3], by rw [E0.out, E1.out]; rfl, HB.out⟩
  case stop =>
    rintro D pre W hD ⟨h0, h1, h2, h5⟩ hdef
    have hst := Stays.putObj (B := W0.heap.size) (.deferred none) hD hdef rfl
    have c2 := (hst.boxed h1).cell
    have c3 := (hst.boxed h2).cell
    have HB := hide ((kept_stays h5 (by omega) hst).to_below (B := w.heap.size) (fun _ _ => trivial) (Nat.le_refl _))
    have e1 : errI L.length = 0 := by unfold errI; rw [if_neg (by omega)]
    have E1 := hide e1
    clear e1
    have HD := hide hdef
    clear h1 h2 h5 hst hdef hit hgo
    gi_wp2
    refine ⟨by simp, .inl ⟨_, _, rfl, run_takeDeferred HD.out, ?_⟩⟩
    exact ⟨.tuple #[.int .i64 (atI st L.length), .int .i64 0], by simp [results, Tryz.results28, go_sem, c2, c3], by rw [E1.out], HB.out⟩
end Go.Proofs.YtflpifelamkagaaGreat
