/-
  A link is taken out of its chain, put in as the youngest.
-/
import Derived.Test.YtihhbpadafgkoaaLU0
import Derived.Test.YtihhbpadafgkoaaRT4
import Derived.Test.YtihhbpadafgkoaaAP4
import Derived.StillTailTactics
namespace Go.Proofs.Ytihhbpadafgkoaa
open Go.RowKit Go.Maps
set_option linter.unusedVariables false
set_option linter.unusedSimpArgs false

theorem Parted.two (w : World) (a c : Nat) : Parted a c w ((w.setCell ⟨a, 3, none⟩ (.pointer (some ⟨c, 0, none⟩))).setCell ⟨c, 2, none⟩ (.pointer (some ⟨a, 0, none⟩))) := fun u k p q n h => (h.next_any a c).prev_any c a
theorem RingM.below {w w' : World} {e : Nat} {L : List LK} {nx pv : Nat → Nat} (h : RingM w e L nx pv) (hb : Below w.heap.size w w') : RingM w' e L nx pv := h.kept (F := fun _ => True) (Kept.of_below hb) (fun _ _ => trivial)
theorem LinkAt.below {w w' : World} {g p q n : Nat} {k : List UInt8} (h : LinkAt w g k p q n) (hb : Below w.heap.size w w') : LinkAt w' g k p q n := h.same (hb.block _ h.lt)
theorem below_then {F : Nat → Prop} {w w1 w2 : World} (hb : Below w.heap.size w w1) (hk : Kept F w1 w2) : Kept F w w2 := keptTrans ((Kept.of_below hb).mono (fun _ _ => trivial)) hk
theorem Kept.drew_ {F : Nat → Prop} {w w' : World} (h : Kept F w w') : Kept F w w'.drew := keptTrans h ((Kept.of_below (Below.refl _ _).drew).mono (fun _ _ => trivial))
set_option maxRecDepth 100000 in
theorem remove_any (e i : Nat) (L : List LK) (r : LK) (nx pv : Nat → Nat) (w : World) (h : RingM w e L nx pv) (hr : L[i]? = some r) :
    Calls Try.prog 53 #[.agg #[.pointer (some ⟨e, 0, none⟩)], .pointer (some ⟨r.g, 0, none⟩)] w fun en w' => en = .returned (.tuple #[]) ∧ (∃ nx' pv', RingM w' e (L.eraseIdx i) nx' pv') ∧ (∃ q, LinkAt w' r.g r.k r.p q (nx r.g)) ∧ Kept (fun g => g ∉ e :: L.map LK.g) w w' ∧ ∀ (u : Nat) (k : List UInt8) (p q n : Nat), LinkAt w u k p q n → ∃ q' n', LinkAt w' u k p q' n' ∧ (u ≠ pv r.g → n' = n) := by
  have hb1 := below1 w (.cells #[.pointer (some ⟨e, 0, none⟩)] 56)
  go_enter Try.func53, Try.ntmps53
  go_wp2_with fail
  generalize w.alloc (.cells #[.pointer (some ⟨e, 0, none⟩)] 56) = W at *
  have h1 := h.below hb1
  have hl := h1.each r (List.mem_of_getElem? hr)
  have x2 := hl.c2
  have x3 := hl.c3
  obtain ⟨hn1, hn2, hp, hq⟩ := h1.near hr
  obtain ⟨ka, pa, ha⟩ := h1.some hp
  obtain ⟨kc, pc, hc⟩ := h1.some hq
  have a3 := ha.c3
  have fa := ha.free 3
  have hc' := hc.next_any (pv r.g) (nx r.g)
  have c2 : (W.setCell ⟨pv r.g, 3, none⟩ (.pointer (some ⟨nx r.g, 0, none⟩))).drew.cell? ⟨nx r.g, 2, none⟩ = _ := hc'.c2
  have fc : (W.setCell ⟨pv r.g, 3, none⟩ (.pointer (some ⟨nx r.g, 0, none⟩))).drew.frozen? ⟨nx r.g, 2, none⟩ = _ := hc'.free 2
  have hfin := h1.out hr (Parted.two _ _ _)
  have hk : Kept (fun g => g ∉ e :: L.map LK.g) W ((W.setCell ⟨pv r.g, 3, none⟩ (.pointer (some ⟨nx r.g, 0, none⟩))).setCell ⟨nx r.g, 2, none⟩ (.pointer (some ⟨pv r.g, 0, none⟩))) :=
    keptTrans ((kept_set _ _ _ _).mono (fun g hg e2 => hg (e2 ▸ hp))) ((kept_set _ _ _ _).mono (fun g hg e2 => hg (e2 ▸ hq)))
  have HP2 : Hid (∀ (u : Nat) (k : List UInt8) (p q n : Nat), LinkAt w u k p q n → ∃ q' n', LinkAt ((W.setCell ⟨pv r.g, 3, none⟩ (.pointer (some ⟨nx r.g, 0, none⟩))).setCell ⟨nx r.g, 2, none⟩ (.pointer (some ⟨pv r.g, 0, none⟩))) u k p q' n' ∧ (u ≠ pv r.g → n' = n)) := hide (fun u k p q n hu => ⟨_, _, Parted.two W (pv r.g) (nx r.g) u k p q n (hu.below hb1), fun hne => if_neg hne⟩)
  have HF := hide hfin
  have HK := hide (below_then hb1 hk)
  clear h h1 hr hl ha hc hp hq hn1 hn2 hc' hfin hk
  obtain ⟨a, hae⟩ : ∃ a, a = pv r.g := ⟨_, rfl⟩
  obtain ⟨c, hce⟩ : ∃ c, c = nx r.g := ⟨_, rfl⟩
  have HAE := hide hae
  rw [← hae] at x2 a3 fa c2 fc HF HK HP2
  rw [← hce] at x3 c2 fc HF HK HP2
  have HC := hide hce
  clear hae hce
  go_still_tail 18, (by kernel_rfl)
  go_wp2_with fail
  go_end0
  refine ⟨rfl, ⟨_, _, HF.out.1.below (Below.refl _ _).drew⟩, ⟨a, ?_⟩, HK.out.drew_, fun u k p q n hu => ?_⟩
  · rw [← HC.out]
    exact HF.out.2.below (Below.refl _ _).drew
  · obtain ⟨q', n', h1, h2⟩ := HP2.out u k p q n hu
    exact ⟨q', n', h1.below (Below.refl _ _).drew, fun hne => h2 (by rw [HAE.out]; exact hne)⟩
end Go.Proofs.Ytihhbpadafgkoaa
