/-
  A key that is not there is put at the least free place: the walk.
-/
import Derived.Test.YthefgfcjjbjjkaaTO
namespace Go.Proofs.Ythefgfcjjbjjkaa
open Go.RowKit
set_option linter.unusedVariables false
set_option linter.unusedSimpArgs false

/-- A row that lies apart from a trie's blocks is read behind a store into its places. -/
theorem KR.apart {w w2 W4 : World} {i : Nat} {t : TP} {P : List PL} {N : List Bool → Nat} {A : Option Addr} {n c : Nat} {k : List Int} {v : Value} (hk : KR w A n c k) (hA : ∀ ad, A = some ad → ¬ OfT t P N ad.block) (hb2 : Below w.heap.size w w2)
    (hb4 : Below w2.heap.size (w2.setCell ⟨t.cb, i, none⟩ v) W4) : Rd W4 w.heap.size 1 A n (u8s k) := ⟨hk.rd.1, fun hn => by
  obtain ⟨ad, e, hb, hc⟩ := hk.rd.2 hn
  refine ⟨ad, e, hb, fun j u hu => (World.cell?_of_block ?_).trans (hc j u hu)⟩
  rw [block_add]
  exact (hb4.block _ (Nat.lt_of_lt_of_le hb hb2.size)).trans ((set_other (fun e2 => hA ad e (.inr (.inl e2)))).trans (hb2.block _ hb))⟩
theorem Tri.treeBehind {w w2 W4 : World} {B i : Nat} {t : TP} {P : List PL} {N : List Bool → Nat} {v : Value} (h : Tri w B t P N) (hb2 : Below w.heap.size w w2) (hb4 : Below w2.heap.size (w2.setCell ⟨t.cb, i, none⟩ v) W4) : TreeX W4 t (prP P) (cntP P) (thP t.cb P) N :=
  ((h.tree.below (Nat.le_refl _) hb2).setBox (g := t.cb) (i := i) (u := v) ((hb2.block _ (at_lt h.cel)).trans h.cel) ⟨by decide, by decide⟩).below (by rw [World.size_setCell]; exact Nat.le_refl _) hb4
def AddTold (B : Nat) (t : TP) (P : List PL) (N : List Bool → Nat) (k : List Int) (i : Nat) (w : World) (e : Ending) (w' : World) : Prop :=
  ∃ r g' N', P[i]? = some r ∧ r.k = none ∧ e = .returned (.pointer (some (plA t.cb i))) ∧ TGo B t P N (P.set i { r with k := some (g', plL k t.ks (bcN k)) }) N' w w'
set_option maxRecDepth 100000 in
set_option maxHeartbeats 2000000 in
theorem add_none (B : Nat) (t : TP) (P : List PL) (N : List Bool → Nat) (A : Option Addr) (n c : Nat) (w : World) (h : Tri w B t P N) (hf : freeP P = none) :
    Calls Try.prog 50 #[.pointer (some ⟨t.tb, 0, none⟩), .slice A n c] w fun e w' => e = .returned (.pointer none) ∧ Below w.heap.size w w' := by
  have HL := hide (least_any B t P N w h)
  rw [hf] at HL
  clear h hf
  go_enter Try.func50, Try.ntmps50
  go_wp2_with (go_at_call 66; refine HL.out.mono ?_; rintro e w' ⟨rfl, hb⟩; have HB := hide hb; clear hb)
  go_ret
  exact ⟨rfl, HB.out⟩
set_option maxRecDepth 100000 in
set_option maxHeartbeats 2000000 in
theorem add_any (B i : Nat) (t : TP) (P : List PL) (N : List Bool → Nat) (A : Option Addr) (c : Nat) (k : List Int) (w : World) (h : Tri w B t P N) (hk : KR w A t.ks c k) (hr : bcN k ≤ 8 * (t.ks - 4)) (hf : findP P (kb k) = none) (hfr : freeP P = some i) (hA : ∀ ad, A = some ad → ¬ OfT t P N ad.block) :
    Calls Try.prog 50 #[.pointer (some ⟨t.tb, 0, none⟩), .slice A t.ks c] w (AddTold B t P N k i w) := by
  have HL := hide (least_any B t P N w h)
  have hkb := h.kbig
  have hmany := h.many
  have hlen := h.len
  obtain ⟨r, hri, hrk, _⟩ := freeP_some hfr
  rw [hfr] at HL
  simp only [Option.map_some, plA] at HL
  have HPL : Hid (∀ W, Below w.heap.size w W → Calls Try.prog 67 #[.slice A t.ks c] W fun e w' => ∃ g, e = .returned (.slice (some ⟨g, 0, none⟩) t.ks t.ks) ∧ W.heap.size ≤ g ∧ w'.heap[g]? = some (.cells (u8s (plL k t.ks (bcN k))).toArray 5 (0, 0)) ∧ Below W.heap.size W w') := hide (fun W hb =>
    plain_any A t.ks c W.heap.size k W hk.byte (hk.below hb).rd (Nat.le_refl _) (by omega) hk.le (by omega) hr)
  have HCE : Hid (∀ W, Below w.heap.size w W → W.cell? ⟨t.cb, i * 3 + 2, none⟩ = some (.slice none 0 0) ∧ W.frozen? ⟨t.cb, i * 3 + 2, none⟩ = false) := hide (fun W hb => by
    have h2 := h.below (Nat.le_refl _) hb
    exact ⟨by rw [(h2.at_ hri).2.2, hrk]; rfl, Joins.unfrozen_of_block h2.cel _⟩)
  have hkl : kb (plL k t.ks (bcN k)) = kb k := kb_plL (by omega) hr
  have HPUT : Hid (∀ w2 g', Below w.heap.size w w2 → Calls Try.prog 68 #[.pointer (some ⟨t.tb, 2, none⟩), .func (.func 58) #[] #[.pointer (some ⟨w2.heap.size, 0, none⟩)], .pointer (some ⟨t.cb, i * 3, none⟩)] (((w2.setCell ⟨t.cb, i * 3 + 2, none⟩ (.slice (some ⟨g', 0, none⟩) t.ks t.ks)).alloc (.cells #[.slice A t.ks c] 35)).drew) fun e w' => e = .returned (.tuple #[]) ∧
      (w.heap.size ≤ g' → w2.heap[g']? = some (.cells (u8s (plL k t.ks (bcN k))).toArray 5 (0, 0)) → ∃ N', TGo B t P N (P.set i { r with k := some (g', plL k t.ks (bcN k)) }) N' w w')) := hide (fun w2 g' hb2 => by
    have hsz : (w2.setCell ⟨t.cb, i * 3 + 2, none⟩ (.slice (some ⟨g', 0, none⟩) t.ks t.ks)).heap.size = w2.heap.size := World.size_setCell _ _ _
    have hb4 : Below w2.heap.size (w2.setCell ⟨t.cb, i * 3 + 2, none⟩ (.slice (some ⟨g', 0, none⟩) t.ks t.ks)) (((w2.setCell ⟨t.cb, i * 3 + 2, none⟩ (.slice (some ⟨g', 0, none⟩) t.ks t.ks)).alloc (.cells #[.slice A t.ks c] 35)).drew) := by
      have := below1 (w2.setCell ⟨t.cb, i * 3 + 2, none⟩ (.slice (some ⟨g', 0, none⟩) t.ks t.ks)) (.cells #[.slice A t.ks c] 35)
      rw [hsz] at this
      exact this.drew
    have hbx : Boxed (((w2.setCell ⟨t.cb, i * 3 + 2, none⟩ (.slice (some ⟨g', 0, none⟩) t.ks t.ks)).alloc (.cells #[.slice A t.ks c] 35)).drew) w2.heap.size 35 (.slice A t.ks c) := by
      have := Boxed.new (w2.setCell ⟨t.cb, i * 3 + 2, none⟩ (.slice (some ⟨g', 0, none⟩) t.ks t.ks)) 35 (.slice A t.ks c)
      rw [hsz] at this
      exact this
    have hlt := h.lt
    have hs2 := hb2.size
    refine (put_any w2.heap.size w.heap.size t.ks c A k t (prP P) (cntP P) (thP t.cb P) N (some (plA t.cb i)) _ hk.byte (by omega) hk.le (by omega) hr (at_lt hbx) (Nat.le_trans hs2 (Nat.le_of_lt (at_lt hbx))) ⟨hbx, hk.apart hA hb2 hb4⟩ (h.treeBehind hb2 hb4) (fun q => Nat.le_trans (cntP_le P q) (by omega)) (fun ad e h2 => hA ad e (.inl h2)) (fun h2 => by have := hlt _ (.inl h2); omega)).mono ?_
    rintro e w' ⟨rfl, hkp, N', ht, hN, hN2⟩
    refine ⟨rfl, fun hg hgb => ⟨N', ?_⟩⟩
    rw [← hkl] at ht hN2
    exact h.added hri hrk (by rw [hkl]; exact hf) ⟨plL_len _ _ _, plL_byte hk.byte _ _, by rw [bcN_plL (by omega)]; exact hr⟩ hb2 hg hgb hb4 hkp ht hN hN2)
  clear h hk hr hf hfr hA hkl hlen hmany
  go_enter Try.func50, Try.ntmps50
  go_wp2_with (first
    | (go_at_call 66; refine HL.out.mono ?_; rintro e w1 ⟨rfl, hb⟩; have HB := hide hb; clear hb)
    | (go_at_call 67; refine (HPL.out _ HB.out).mono ?_; rintro e w2 ⟨g', rfl, hg, hgb, hb⟩; have HB2 := hide (HB.out.trans (hb.mono HB.out.size)); have HG := hide (Nat.le_trans HB.out.size hg); have HGB := hide hgb; obtain ⟨hce, hfe⟩ := HCE.out _ HB2.out; clear hb hg hgb))
  have hsz : (w2.setCell ⟨t.cb, i * 3 + 2, none⟩ (.slice (some ⟨g', 0, none⟩) t.ks t.ks)).heap.size = w2.heap.size := World.size_setCell _ _ _
  go_region_with (first
    | (go_at_call 39; refine (bits_any _ _ _ _).mono ?_; rintro e w' ⟨rfl, rfl⟩)
    | (go_at_call 68; refine (HPUT.out _ _ HB2.out).mono ?_; rintro e w' ⟨rfl, hfin⟩; have HF := hide (hfin HG.out HGB.out); clear hfin))
  go_wp2_with fail
  go_ret
  obtain ⟨N', hN'⟩ := HF.out
  exact ⟨r, g', N', hri, hrk, rfl, hN'⟩
end Go.Proofs.Ythefgfcjjbjjkaa
