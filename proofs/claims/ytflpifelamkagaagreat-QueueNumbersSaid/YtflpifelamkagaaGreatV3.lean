/-
  A row is taken out.
-/
import Derived.Test.YtflpifelamkagaaGreatV2
import Derived.Lib.SliceRun
namespace Go.Proofs.YtflpifelamkagaaGreat
open Go.RowKit
set_option linter.unusedVariables false

theorem owns_past {w : World} {e : TypeId} {g n cap j : Nat} {xs : List Value} (h : w.ownsRow 0 e 1 (.slice (some ⟨g, 0, none⟩) n cap) n xs) (hj : n ≤ j) (u : Value) : (w.setCell ⟨g, j, none⟩ u).ownsRow 0 e 1 (.slice (some ⟨g, 0, none⟩) n cap) n xs := by
  refine ⟨h.1, ?_⟩
  rcases h.2 with ⟨h0, _⟩ | ⟨g', cap', cur, hv, hb, hg, hnc, hcm, hcs, htake⟩
  · cases h0
  · cases hv
    refine .inr ⟨g, cap, cur.setIfInBounds j u, rfl, hb, ?_, hnc, hcm, by simpa using hcs, ?_⟩
    · simp [World.setCell, Array.getElem?_modify, hg]
    · rw [Array.toList_setIfInBounds, List.take_set, htake]
      have hl := h.1
      exact List.set_eq_of_length_le (by omega)
theorem owns_cellx {w : World} {e : TypeId} {g n cap j : Nat} {xs : List Value} (h : w.ownsRow 0 e 1 (.slice (some ⟨g, 0, none⟩) n cap) n xs) (hj : j < cap) : (w.cell? ⟨g, j, none⟩).isSome = true := by
  rcases h.2 with ⟨h0, _⟩ | ⟨g', cap', cur, hv, hb, hg, hnc, hcm, hcs, htake⟩
  · cases h0
  · cases hv
    rw [blk_cell hg]
    have : j < cur.size := by omega
    simp [this]
/-- A row without its i-th element. -/
def DelTold (g n cap i : Nat) (xs : List Value) (w w' : World) : Prop := w'.ownsRow 0 63 1 (.slice (some ⟨g, 0, none⟩) (n - 1) cap) (n - 1) (xs.take i ++ xs.drop (i + 1)) ∧ Kept (fun k => k ≠ g) w w'
set_option maxRecDepth 100000 in
set_option maxHeartbeats 1000000 in
theorem delete_any (g n cap i : Nat) (xs : List Value) (x y : Int) (w : World) (h : w.ownsRow 0 63 1 (.slice (some ⟨g, 0, none⟩) n cap) n xs) (hi : i < n) (hn : n ≤ 1000000) (h1 : ∀ u ∈ xs, u.oneCell' = true) (hx : x = i) (hy : y = (i + 1 : Nat)) :
    Calls Tryz.prog 45 #[.slice (some ⟨g, 0, none⟩) n cap, .int .i64 x, .int .i64 y] w fun e w' => e = .returned (.slice (some ⟨g, 0, none⟩) (n - 1) cap) ∧ DelTold g n cap i xs w w' := by
  obtain ⟨i0, hi0, hz0, hz1, hz2⟩ := info_parts qrowInfo
  have hcap : n ≤ cap := by
    rcases h.2 with ⟨h0, _⟩ | ⟨g', cap', cur, hv, _, _, hnc, _⟩
    · cases h0
    · cases hv; exact hnc
  have hcm : cap ≤ maxLen := by
    rcases h.2 with ⟨h0, _⟩ | ⟨g', cap', cur, hv, _, _, _, hcm, _⟩
    · cases h0
    · cases hv; exact hcm
  have hl := h.1
  have hd : w.drew.ownsRow 0 63 1 (.slice (some ⟨g, 0, none⟩) n cap) n xs := owns_kept_below h ((Below.refl _ w).drew)
  have hpre := owns_prefix (n := i) hd (by omega)
  obtain ⟨A2, hA2, hrd⟩ : ∃ A2 : Addr, (if cap = i + 1 then some (⟨g, 0, none⟩ : Addr) else some ⟨g, i + 1, none⟩) = some A2 ∧ Rd w.drew (g + 1) 1 (some A2) (n - (i + 1)) (xs.drop (i + 1)) := by
    by_cases hc : cap = i + 1
    · refine ⟨⟨g, 0, none⟩, by simp [hc], by simp; omega, fun h0 => by omega⟩
    · refine ⟨⟨g, i + 1, none⟩, by simp [hc], by simp; omega, fun _ => ⟨_, rfl, Nat.lt_succ_self _, fun j u hu => ?_⟩⟩
      rw [List.getElem?_drop] at hu
      have := hd.cells (g := g) rfl (i + 1 + j) u hu
      rw [own_add] at this ⊢
      rwa [Nat.zero_add] at this
  obtain ⟨w1, hrun, ho1, hg1⟩ := run_append_rd_fits (P := Tryz.prog) w.drew 57 57 63 i0 1 Tryz.underlying57 hi0 hz1 g i cap _ hpre (g + 1) (some A2) (n - (i + 1)) (cap - (i + 1)) _ hrd (fun e => by cases e) (fun u hu => h1 u (List.mem_of_mem_drop hu)) (by omega)
  have e1 : i + (n - (i + 1)) = n - 1 := by omega
  rw [e1] at hrun ho1
  rw [Nat.mul_one] at ho1
  have hcl : ∀ ty, (Builtin.clear_ #[57] ty #[.slice (some ⟨g, n - 1, none⟩) 1 (cap - (n - 1))]).run Tryz.prog w1 = .ok (.tuple #[]) (w1.setCells g (n - 1) [.slice none 0 0]) := fun ty =>
    Lib.run_clear_slice w1 _ _ ty (.slice none 0 0) Tryz.underlying57 Tryz.zeroValue63 rfl rfl g (n - 1) 1 _ (by omega) (fun t ht => owns_cellx ho1 (by omega)) (fun t ht => owns_free ho1 _)
  have HFIN : Hid (DelTold g n cap i xs w (w1.setCells g (n - 1) [.slice none 0 0])) := by
    have hk : Kept (fun k => k ≠ g) w w1 := ((Kept.refl _ w).drew).grown hg1 (fun k e _ hh => hh (by cases e; rfl))
    exact ⟨owns_past ho1 (Nat.le_refl _) _, hk.setCell (p := ⟨g, n - 1, none⟩) (fun _ h => h rfl) _⟩
  obtain ⟨m, rfl⟩ : ∃ m, n = m + 1 := ⟨n - 1, by omega⟩
  simp only [Nat.add_sub_cancel] at hrun hcl HFIN
  have f1 : (i : Int) ≤ ((i + 1 : Nat) : Int) := by omega
  have f2 : ((i + 1 : Nat) : Int) ≤ ((m + 1 : Nat) : Int) := by omega
  have f3 : ((m + 1 : Nat) : Int) ≤ (cap : Int) := by omega
  have f4 : ((i : Int) == ((i + 1 : Nat) : Int)) = false := by simp; omega
  have f5 : m ≤ cap := by omega
  have f6 : i ≤ cap := by omega
  have f7 : i + 1 ≤ cap := by omega
  have f8 : i ≤ m := by omega
  have f9 : m < cap := by omega
  have f11 : ¬ cap = m := by omega
  have f10 : (0 : Int) ≤ (i : Int) + 1 := by omega
  rw [show m + 1 - (i + 1) = m - i by omega] at hrun
  subst hx hy
  clear h hd hpre hrd ho1 hg1 h1 hl e1 hi0 hz0 hz1 hz2 hcm hn hi hcap
  go_enter Tryz.func45, Tryz.ntmps45
  go_wp2_with fail
  go_region_law (refine step_append_run _ w1 (by rfl) (.tmp 22) (.tmp 25) 57 (by rfl) _ _ _ (by rfl) (by rfl) hrun ?_)
  all_goals
    go_wp2
    go_ret
    exact ⟨rfl, HFIN.out⟩
theorem map_erase {α β : Type} (f : α → β) (l : List α) (i : Nat) : (l.eraseIdx i).map f = (l.map f).eraseIdx i := by
  rw [List.eraseIdx_eq_take_drop_succ, List.eraseIdx_eq_take_drop_succ, List.map_append, List.map_take, List.map_drop]
/-- A queue without its i-th row. -/
def RemTold (B b : Nat) (st : Bool) (sz n : Nat) (A : Option Addr) (c : Nat) (L : List QR) (i : Nat) (w w' : World) : Prop :=
  Que w' B b st sz n A c (L.eraseIdx i) ∧ Kept (fun g => g ≠ b ∧ (Value.slice A 0 0).ownBlock ≠ some g) w w'
theorem Que.addr {w : World} {B b sz n c : Nat} {st : Bool} {A : Option Addr} {L : List QR} (h : Que w B b st sz n A c L) (h0 : 0 < L.length) : ∃ g, A = some ⟨g, 0, none⟩ := by
  rcases h.out.2 with ⟨_, h1⟩ | ⟨g, cap, cur, hv, _⟩
  · omega
  · injection hv with hv
    exact ⟨g, hv⟩
theorem Que.removed {w w1 : World} {B b sz n c g i : Nat} {st : Bool} {L : List QR} (h : Que w B b st sz n (some ⟨g, 0, none⟩) c L) (hi : i < L.length) (hd : DelTold g L.length c i (L.map (QR.sl sz)) w w1) :
    w1.cell? ⟨b, 3, none⟩ = some (.slice (some ⟨g, 0, none⟩) L.length c) ∧ w1.frozen? ⟨b, 3, none⟩ = false ∧ RemTold B b st sz n (some ⟨g, 0, none⟩) c L i w (w1.setCell ⟨b, 3, none⟩ (.slice (some ⟨g, 0, none⟩) (L.length - 1) c)) := by
  obtain ⟨h1, h2⟩ := hd
  have hgb : g ≠ b := fun e => h.out_b (by rw [e]; rfl)
  have hbb : w1.heap[b]? = _ := (h2.block b (at_lt h.blk) (fun e => hgb e.symm)).trans h.blk
  have hlen : (L.eraseIdx i).length = L.length - 1 := List.length_eraseIdx_of_lt hi
  have hK : Kept (fun k => k ≠ b ∧ (Value.slice (some ⟨g, 0, none⟩) 0 0).ownBlock ≠ some k) w (w1.setCell ⟨b, 3, none⟩ (.slice (some ⟨g, 0, none⟩) (L.length - 1) c)) :=
    (h2.mono (fun k hk e => hk.2 (by rw [e]; rfl))).setCell (p := ⟨b, 3, none⟩) (fun _ h => h.1 rfl) _
  have hK5 : Kept (fun k => k ≠ b) w1 (w1.setCell ⟨b, 3, none⟩ (.slice (some ⟨g, 0, none⟩) (L.length - 1) c)) := (Kept.refl _ w1).setCell (p := ⟨b, 3, none⟩) (fun _ h => h rfl) _
  have hmem : ∀ r ∈ L.eraseIdx i, r ∈ L := fun r hr => List.mem_of_mem_eraseIdx hr
  have hmap : (L.eraseIdx i).map (QR.sl sz) = (L.map (QR.sl sz)).take i ++ (L.map (QR.sl sz)).drop (i + 1) := by rw [map_erase, List.eraseIdx_eq_take_drop_succ]
  refine ⟨by rw [blk_cell hbb]; rfl, Joins.unfrozen_of_block hbb 3, ⟨?_, ?_, fun r hr => ?_, fun g' hg' => ?_, ?_, h.big, ?_⟩, hK⟩
  · rw [hlen]
    exact Joins.block_setCell (i := 3) hbb _
  · rw [hlen, hmap]
    refine owns_kept h1 hK5 (fun k hk e => ?_)
    subst e
    have : g = k := by simpa [Value.ownBlock] using hk
    exact hgb this
  · exact owns_kept (h.row r (hmem r hr)) hK (fun k hk => by
      have e : r.g = k := by simpa [QR.sl, Value.ownBlock] using hk
      subst e
      exact ⟨h.b_r (hmem r hr), h.out_r (hmem r hr)⟩)
  · rcases hg' with hg' | hg' | ⟨r, hr, rfl⟩
    · exact h.low g' (.inl hg')
    · exact h.low g' (.inr (.inl hg'))
    · exact h.low _ (.inr (.inr ⟨r, hmem r hr, rfl⟩))
  · rw [map_erase]
    exact h.sep.sublist (List.eraseIdx_sublist _ _)
  · have := h.many
    rw [hlen]
    omega
set_option maxRecDepth 100000 in
set_option maxHeartbeats 1000000 in
theorem remove_any {w : World} {B b sz n c i : Nat} {st : Bool} {A : Option Addr} {L : List QR} {r : QR} (x : Int) (h : Que w B b st sz n A c L) (hr : L[i]? = some r) (hx : x = i) :
    Calls Tryz.prog 29 #[.pointer (some ⟨b, 3, none⟩), .int .i64 x] w fun e w' => e = .returned (.slice (some ⟨r.g, 0, none⟩) sz r.c) ∧ RemTold B b st sz n A c L i w w' := by
  have hi := (List.getElem?_eq_some_iff.1 hr).1
  obtain ⟨g, rfl⟩ := h.addr (by omega)
  have hmany := h.many
  have c3 := h.c3
  have cr : w.cell? ⟨g, i, none⟩ = some (.slice (some ⟨r.g, 0, none⟩) sz r.c) := by
    have := h.out.cells (g := g) rfl i (QR.sl sz r) (by rw [List.getElem?_map, hr]; rfl)
    rw [own_add, Nat.zero_add] at this
    exact this
  have HD := hide (delete_any g L.length c i (L.map (QR.sl sz)) x (x + 1) w h.out hi (by omega) (fun u hu => by obtain ⟨s, _, rfl⟩ := List.mem_map.1 hu; rfl) hx (by omega))
  have HR : Hid (∀ w1, DelTold g L.length c i (L.map (QR.sl sz)) w w1 → _) := hide (fun w1 hd => h.removed hi hd)
  have q0 : (0 : Int) ≤ (i : Int) := by omega
  have q1 : (i : Int) < (L.length : Int) := by omega
  have q2 : (i : Int) ≤ 1000000 := by omega
  subst hx
  clear h hr hi hmany
  generalize L.length = q at *
  go_enter Tryz.func29, Tryz.ntmps29
  go_wp2_with (go_at_call 45; refine HD.out.mono ?_; rintro e w1 ⟨rfl, hd⟩; obtain ⟨k1, k2, k3⟩ := HR.out w1 hd; have K3 := hide k3; clear k3 hd)
  go_ret
  exact ⟨rfl, K3.out⟩
end Go.Proofs.YtflpifelamkagaaGreat
