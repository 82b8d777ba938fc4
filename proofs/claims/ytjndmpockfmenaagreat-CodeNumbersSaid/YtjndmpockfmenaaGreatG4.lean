/-
  The slots that bytes are, one by one.
-/
import Derived.Test.YtjndmpockfmenaaGreatG3
namespace Go.Proofs.YtjndmpockfmenaaGreat
open Go.RowKit
set_option linter.unusedVariables false
attribute [local go_sem] Oper.semAt_some

theorem keepsFrom_below {B : Nat} {X Y : World} (h : Below X.heap.size X Y) : KeepsFrom B X Y := ⟨h.size, fun k o _ hk _ => (h.block k (at_lt hk)).trans hk⟩
theorem round_wide {n n' l' : Nat} {P : Program} {l : Nat} {f : FuncId} {tmps : Array Value} {assign body : Code} {w : World} {R : Ending → World → Prop} (h : RoundIn Fence.wide n P l f tmps assign body w R) :
    RoundIn (Fence.wide.inRound l') n' P l f tmps assign body w R := ⟨h.1, fun c cs _ => h.2 c cs (room_wide _)⟩
theorem slotsOf_any (A : Option Addr) (n c : Nat) (w : World) : Calls Tryz.prog 19 #[.slice A n c] w fun e w' =>
    e = .returned (.func (.func 31) #[] #[.pointer (some ⟨w.heap.size, 0, none⟩)]) ∧ w' = w.alloc (.cells #[.slice A n c] 22) := by
  have hmf : ∀ (fn : Fn) (first cap : Array Value) (w : World), (Instr.makeFunc fn first cap).run Tryz.prog w = .ok (.func fn first cap) w := fun _ _ _ _ => rfl
  go_enter Tryz.func19, Tryz.ntmps19
  go_wp2
  go_ret
  exact ⟨rfl, rfl⟩
/-- Slot number k of bytes. -/
def slotAt (bs : List Int) (k : Nat) : Ins := slotOf (bs.getD (8 * k) 0) (bs.getD (8 * k + 1) 0) (bs.getD (8 * k + 2) 0) (bs.getD (8 * k + 3) 0) (bs.getD (8 * k + 4) 0) (bs.getD (8 * k + 5) 0) (bs.getD (8 * k + 6) 0) (bs.getD (8 * k + 7) 0)
def slots (bs : List Int) (m : Nat) : List Ins := (List.range m).map (slotAt bs)

theorem Byt.at_ {w : World} {B : Nat} {A : Option Addr} {n : Nat} {l : List Int} (h : Byt w B A n l) {ad : Addr} (hA : A = some ad) {i : Nat} (hi : i < n) : w.cell? (ad.add i) = some (.int .u8 (l.getD i 0)) := by
  obtain ⟨ad', e, _, hc⟩ := h.2 (by omega)
  rw [hA] at e
  cases e
  have hl : i < l.length := by rw [h.1]; exact hi
  rw [hc i _ (List.getElem?_eq_getElem hl), List.getD_eq_getElem?_getD, List.getElem?_eq_getElem hl]
  rfl
theorem isByte_at {l : List Int} (h : ∀ b ∈ l, IsByte b) (i : Nat) : IsByte (l.getD i 0) := by
  rw [List.getD_eq_getElem?_getD]
  rcases hg : l[i]? with _ | b
  · exact ⟨by simp, by simp⟩
  · exact h b (List.mem_of_getElem? hg)
theorem getSlot_any (A : Option Addr) (ad : Addr) (hA : A = some ad) (B m k : Nat) (bs : List Int) (w : World) (hb : Byt w B A (8 * m) bs) (hB : B ≤ w.heap.size) (hbs : ∀ b ∈ bs, IsByte b) (hk : k < m) :
    Calls Tryz.prog 33 #[.slice (some (ad.add (8 * k))) 8 8] w fun e w' => e = .returned (.agg (slotAt bs k).cells.toArray) ∧ Below w.heap.size w w' := by
  have hlt : (ad.add (8 * k)).block < w.heap.size := by
    obtain ⟨ad', e, hl, _⟩ := hb.2 (by omega)
    rw [hA] at e
    cases e
    rw [block_of_add]
    omega
  have hc : ∀ j, 0 < j → j < 8 → w.cell? ⟨(ad.add (8 * k)).block, (ad.add (8 * k)).off + j, none⟩ = some (.int .u8 (bs.getD (8 * k + j) 0)) := fun j hj h8 => by
    rw [← add_parts _ _ _ hj]
    exact hb.at_ hA (by omega)
  exact getSlot_walk (ad.add (8 * k)) _ _ _ _ _ _ _ _ w (isByte_at hbs _) (isByte_at hbs _) (isByte_at hbs _) (isByte_at hbs _) (isByte_at hbs _) (isByte_at hbs _) (isByte_at hbs _) (isByte_at hbs _) hlt
    (hb.at_ hA (by omega)) (hc 1 (by omega) (by omega)) (hc 2 (by omega) (by omega)) (hc 3 (by omega) (by omega)) (hc 4 (by omega) (by omega)) (hc 5 (by omega) (by omega)) (hc 6 (by omega) (by omega)) (hc 7 (by omega) (by omega))

/-- What each round must keep: whatever lies below n0, the iterator's own first boxes, and all that is no cells and lies at or beyond them. -/
def Keeps3 (n0 a : Nat) (W W' : World) : Prop := Below n0 W W' ∧ (∀ k o, a ≤ k → k < a + 3 → W.heap[k]? = some o → o.isCells = true → W'.heap[k]? = some o) ∧ KeepsFrom a W W'

set_option maxRecDepth 100000 in
set_option maxHeartbeats 1000000 in
theorem slots_iter (n : Nat) (hn : 1 ≤ n) (Bb m c n0 : Nat) (A : Option Addr) (bs : List Int) (w0 : World) (hm : m ≤ 4096) (hb : Boxed w0 Bb 22 (.slice A (8 * m) c)) (hc : 8 * m ≤ c) (hcm : c ≤ maxLen) (hn0 : n0 ≤ w0.heap.size) (hby : Byt w0 n0 A (8 * m) bs) (hbs : ∀ b ∈ bs, IsByte b) :
    Iter Fence.wide n Tryz.prog 31 #[.pointer (some ⟨Bb, 0, none⟩)] (fun s : Ins => #[.agg s.cells.toArray]) (Keeps3 n0) (fun pre s => pre ++ [s] <+: slots bs m) (fun xs => xs = slots bs m) (fun _ _ => False) w0 := by
  intro lp J W hW hJ hY h0
  have hWb : Below n0 w0 W := hW.mono hn0
  have hlt : Bb < W.heap.size := Nat.lt_of_lt_of_le hb.lt hW.size
  have c1 : W.cell? ⟨Bb, 0, none⟩ = some (.slice A (8 * m) c) := (hW.cell (p := ⟨Bb, 0, none⟩) hb.lt).trans hb.cell
  refine callsIn_of_wp_marks Tryz.func31 rfl trivial ?_ rfl
  simp only [Tryz.ntmps31, List.size_toArray, List.length_cons, List.length_nil, Nat.reduceAdd, Nat.reduceSub, Array.replicate_succ, Array.replicate_zero, List.push_toArray, List.append_toArray, List.nil_append, List.cons_append]
  gi_wp2_with fail
  refine ⟨trivial, (callsIn_wide.2 (chunk_any _ _ _ _)).mono ?_⟩
  rintro e w' ⟨rfl, rfl⟩
  gi_wp2
  generalize hW0 : ((W.alloc (.cells #[.func (.yield lp) #[] #[]] 86)).alloc (.cells #[.slice A (8 * m) c] 22)).alloc (.cells #[.int .i64 8] 3) = W0
  have hs0 : W0.heap.size = W.heap.size + 3 := by rw [← hW0]; simp
  have hB0 : Below W.heap.size W W0 := by rw [← hW0]; exact (((Below.refl _ W).alloc (Nat.le_refl _) _).alloc (by simp) _).alloc (by simp; omega) _
  have hy0 : Boxed W0 W.heap.size 86 (.func (.yield lp) #[] #[]) := by rw [← hW0]; exact ((Boxed.new W _ _).alloc _).alloc _
  have hl0 : Boxed W0 (W.heap.size + 1) 22 (.slice A (8 * m) c) := by rw [← hW0]; exact (boxed_at (by simp)).alloc _
  have hn0' : Boxed W0 (W.heap.size + 1 + 1) 3 (.int .i64 8) := by rw [← hW0]; exact boxed_at (by simp)
  have hWn : n0 ≤ W.heap.size := Nat.le_trans hn0 hW.size
  clear hW0
  have hA : ∃ ad, 0 < m → A = some ad := by
    by_cases h : 0 < m
    · obtain ⟨ad, e, _⟩ := hby.2 (by omega)
      exact ⟨ad, fun _ => e⟩
    · exact ⟨⟨0, 0, none⟩, fun h' => absurd h' h⟩
  obtain ⟨ad, hA⟩ := hA
  refine range_goes (α := Nat) (F := Fence.wide) (n := n) rfl hn (gf := 66) (lb := #[.pointer (some ⟨W.heap.size + 1, 0, none⟩), .pointer (some ⟨W.heap.size + 1 + 1, 0, none⟩)]) rfl trivial (enters_of Tryz.func66 (by kernel_rfl) rfl)
    (chunk_iter (n - 1) (W.heap.size + 1) m c A ad W0 hm hA hl0 hc hcm hn0') (Below.refl _ _) (fun h k => ⟨fun v hv => k.1 v (h.1 v hv), fun v hv => k.2 v (h.2 v hv)⟩) ?_ (fun _ => rfl)
    (fun pre X => J (pre.map (slotAt bs)) X ∧ Boxed X W.heap.size 86 (.func (.yield lp) #[] #[]) ∧ Byt X n0 A (8 * m) bs ∧ Boxed X (W.heap.size + 1) 22 (.slice A (8 * m) c) ∧ Boxed X (W.heap.size + 1 + 1) 3 (.int .i64 8) ∧ W.heap.size + 3 ≤ X.heap.size)
    ?_ ⟨hJ _ _ _ h0 (.of_below hB0), hy0, (hby.below hWb).below (hB0.mono hWn), hl0, hn0', by omega⟩ ?round ?done ?panic
  · intro X l o o' hl _ h ho
    have hk : ∀ b, b < W0.heap.size → ∀ v, X.cell? ⟨b, 0, none⟩ = some v → (X.putObj l o').cell? ⟨b, 0, none⟩ = some v := fun b hb' v hv => (World.cell?_of_block (w := X) (World.putObj_heap_other (by simp; omega))).trans hv
    exact ⟨hk _ (by omega), hk _ (by omega)⟩
  · rintro s X Y ⟨h1, h2, h3, h4, h5, h6⟩ hst
    exact ⟨hJ _ _ _ h1 (hst.mono (by omega)), hst.boxed h2, h3.below (hst.below (w := X) (by omega) (by omega) (Below.refl _ _)), hst.boxed h4, hst.boxed h5, Nat.le_trans h6 hst.size⟩
  case round =>
    rintro l1 pre k X hle hloop hXs ⟨h1, h2, h3, h4, h5, h6⟩ ⟨rfl, hk⟩
    have hAs := hA (by omega)
    subst hAs
    gi_wp2
    refine ⟨KeepsFrom.refl _ _, ⟨fun _ h => h, fun _ h => h⟩, h1, fun W2 hst => ?_⟩
    have g1 := hJ _ _ _ h1 (hst.mono (by omega))
    have g2 := hst.boxed h2
    have g3 := h3.below (hst.below (w := X) (by omega) (by omega) (Below.refl _ _))
    have g4 := hst.boxed h4
    have g5 := hst.boxed h5
    have g6 : W.heap.size + 3 ≤ W2.heap.size := Nat.le_trans h6 hst.size
    clear h1 h2 h3 h4 h5 h6 hst hy0 hl0 hn0' hA hby
    have cy := g2.cell
    have hmix : Tryz.prog.follows .mixedOrders = true := by kernel_rfl
    have HG := hide (fun W3 (hW3 : Byt W3 n0 (some ad) (8 * m) bs) (hs : n0 ≤ W3.heap.size) => getSlot_any (some ad) ad rfl n0 m k bs W3 hW3 hs hbs hk)
    have hpre : List.map (slotAt bs) (List.range k) ++ [slotAt bs k] <+: slots bs m := by
      have : List.map (slotAt bs) (List.range k) ++ [slotAt bs k] = List.map (slotAt bs) (List.range (k + 1)) := by rw [List.range_succ]; simp
      rw [this]
      have h := List.take_prefix (k + 1) (List.range m)
      rw [List.take_range, Nat.min_eq_left (by omega)] at h
      exact h.map _
    have HP := hide hpre
    clear hpre
    simp only [piece]
    gi_wp2
    gi_region_with_o (first
      | (refine ⟨trivial, fun h => by simp [Fence.wide] at h, (CallsIn.inRound l1 (callsIn_wide.2 (HG.out _ (g3.below (Below.refl _ W2).drew) (by show n0 ≤ W2.heap.size; omega)))).mono ?_⟩
         rintro e w1 ⟨rfl, hb⟩
         have HB := hide ((Below.refl W2.heap.size W2).drew.trans hb)
         have g1' := hJ _ _ _ g1 (Stays.of_below HB.out)
         have cy' := (hb.cell (p := ⟨W.heap.size, 0, none⟩) (by show W.heap.size < W2.heap.size; omega)).trans cy
         obtain ⟨fn, tmps, assign, body, hy, hR⟩ := hY _ _ w1 g1' HP.out (Nat.le_trans (by omega) HB.out.size)
         try dsimp only at hy
         clear hb)
      | (refine ⟨fun h => by simp [Fence.wide] at h, (round_wide hR).mono ?_⟩
         rintro e W' ⟨rfl, hJ', hs', hk1, hk2, hk3⟩))
    all_goals gi_wp2
    all_goals
      have q : ∀ (j : Nat) (t : TypeId) (v : Value), j < 3 → Boxed W2 (W.heap.size + j) t v → Boxed W' (W.heap.size + j) t v := fun j t v hj hbx => hk2 _ _ (by omega) (by omega) (boxed_below hbx HB.out) rfl
      have p1 := q 0 _ _ (by omega) g2
      have p2 := q 1 _ _ (by omega) g4
      have p3 := q 2 _ _ (by omega) g5
      refine ⟨(keepsFrom_below HB.out).trans ⟨hk3.size, fun j o hj => hk3.same j o (by omega)⟩, ⟨fun v hv => ?_, fun v hv => ?_⟩, by rw [List.map_append]; exact hJ', p1, (g3.below (HB.out.mono (by omega))).below hk1, p2, p3, Nat.le_trans g6 (Nat.le_trans HB.out.size hs')⟩
      · have e := g4.cell.symm.trans hv
        injection e with e
        subst e
        exact p2.cell
      · have e := g5.cell.symm.trans hv
        injection e with e
        subst e
        exact p3.cell
  case done =>
    rintro D xs X hD rfl ⟨h1, h2, h3, h4, h5, h6⟩ hdef
    gi_wp2
    have hst := Stays.putObj (B := W0.heap.size) (.deferred none) hD hdef rfl
    refine ⟨by simp, .inl ⟨_, _, rfl, run_takeDeferred hdef, ?_⟩⟩
    refine ⟨_, results_none rfl _ _ _, .inl ⟨_, _, rfl, rfl, hJ _ _ _ h1 (hst.mono (by omega))⟩⟩
  case panic =>
    rintro D c xs X hD h
    exact h.elim
end Go.Proofs.YtjndmpockfmenaaGreat
