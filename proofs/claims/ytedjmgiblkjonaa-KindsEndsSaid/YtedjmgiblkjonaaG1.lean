/-
  The document's small functions of arguments: among some kinds, kinds that rise, the maps among arguments.
-/
import Derived.Test.YtedjmgiblkjonaaF2
import Derived.IntWalk
namespace Go.Proofs.Ytedjmgiblkjonaa
open Go.RowKit Go.Maps
set_option linter.unusedVariables false

def hasR (l : List Int) (k : Int) : Bool := l.any (· == k)
theorem any_stop (f : Int → Bool) (l : List Int) (k : Nat) (b : Int) (h : l[k]? = some b) (hb : f b = true) : l.any f = true := List.any_eq_true.2 ⟨b, List.mem_of_getElem? h, hb⟩
theorem any_none (f : Int → Bool) (l : List Int) (k : Nat) (b : Int) (h : l[k]? = some b) (hp : (l.take k).any f = false) (hb : f b = false) : (l.take (k + 1)).any f = false := by
  obtain ⟨h1, h2⟩ := List.getElem?_eq_some_iff.1 h
  rw [List.take_succ_eq_append_getElem h1, List.any_append, hp, h2]
  simp [hb]
set_option maxRecDepth 100000 in
set_option maxHeartbeats 1000000 in
theorem has_any (q : Int) (A : Option Addr) (n c B : Nat) (l : List Int) (w : World) (h : Rd w B 1 A n (mks l)) (hn : n ≤ 1000000) :
    Calls Try.prog 72 #[.slice A n c, .int .u8 q] w fun e w' => e = .returned (.bool (hasR l q)) ∧ w = w' := by
  have hl := hide h.mks_len
  go_enter Try.func72, Try.ntmps72
  go_wp2
  go_loop [5] (fun p => ∃ k : Nat, k ≤ n ∧ p = .int .i64 k ∧ (l.take k).any (· == q) = false) (fun p => n - (intOf p).toNat)
  case atStart => exact ⟨0, Nat.zero_le _, rfl, by simp⟩
  case round =>
    obtain ⟨k, hk, rfl, htk⟩ := hrel
    have HT := hide htk
    clear htk
    by_cases hlt : k < n
    · obtain ⟨ad, b, rfl, hx, hc⟩ := h.mk hlt
      have HX := hide hx
      clear h hx
      by_cases hb : b = q
      · subst hb
        have HM : Hid (hasR l b = true) := hide (any_stop (· == b) l k b HX.out (by simp))
        go_wp2
        go_ret
        exact ⟨by rw [HM.out]; rfl, rfl⟩
      · have hb2 : (b == q) = false := by simpa using hb
        have HM := hide (any_none (· == q) l k b HX.out HT.out hb2)
        go_wp2
        go_round
        case rel => exact ⟨k + 1, by omega, by go_num, HM.out⟩
        case measure => simp [intOf]; omega
    · have HM : Hid (hasR l q = false) := hide (by
        unfold hasR
        have := HT.out
        rwa [List.take_of_length_le (by rw [hl.out]; omega)] at this)
      clear h
      go_wp2
      go_ret
      exact ⟨by rw [HM.out]; rfl, rfl⟩
def okAt (l : List Int) (p : Nat × Int) : Bool := inI 1 8 p.2 && (p.1 == 0 || (match l[p.1 - 1]? with | some x => decide (x < p.2) | none => true))
def kindsR (l : List Int) : Bool := (placed 0 l).all (okAt l) && decide (0 < l.length)
theorem placed_take {α : Type} : ∀ (l : List α) (j k : Nat) (x : α), l[k]? = some x → placed j (l.take (k + 1)) = placed j (l.take k) ++ [(j + k, x)]
  | [], j, k, x, h => by simp at h
  | y :: l, j, 0, x, h => by simp at h; subst h; simp [placed]
  | y :: l, j, k + 1, x, h => by
    have := placed_take l (j + 1) k x (by simpa using h)
    simp only [List.take_succ_cons, placed, this, List.cons_append]
    rw [show j + 1 + k = j + (k + 1) by omega]
theorem mem_placed {α : Type} (l : List α) (k : Nat) (x : α) (h : l[k]? = some x) : (k, x) ∈ placed 0 l := by
  have h1 := placed_take l 0 k x h
  obtain ⟨hk, _⟩ := List.getElem?_eq_some_iff.1 h
  have gen : ∀ (l : List α) (j k : Nat) (x : α), l[k]? = some x → (j + k, x) ∈ placed j l := by
    intro l
    induction l with
    | nil => intro j k x h; simp at h
    | cons y l ih =>
      intro j k x h
      cases k with
      | zero => simp at h; subst h; simp [placed]
      | succ k =>
        have := ih (j + 1) k x (by simpa using h)
        rw [show j + 1 + k = j + (k + 1) by omega] at this
        simp [placed, this]
  have := gen l 0 k x h
  simpa using this
theorem kinds_stop (l : List Int) (k : Nat) (b : Int) (h : l[k]? = some b) (hb : okAt l (k, b) = false) : kindsR l = false := by
  unfold kindsR
  have : (placed 0 l).all (okAt l) = false := List.all_eq_false.2 ⟨_, mem_placed l k b h, by rw [hb]; decide⟩
  rw [this]; rfl
theorem kinds_more (l : List Int) (k : Nat) (b : Int) (h : l[k]? = some b) (hp : (placed 0 (l.take k)).all (okAt l) = true) (hb : okAt l (k, b) = true) : (placed 0 (l.take (k + 1))).all (okAt l) = true := by
  rw [placed_take l 0 k b h, List.all_append, hp]
  simp [hb]
set_option maxRecDepth 100000 in
set_option maxHeartbeats 1000000 in
theorem rkinds_any (A : Option Addr) (n c B : Nat) (l : List Int) (w : World) (h : Rd w B 1 A n (mks l)) (hB : B ≤ w.heap.size) (hn : n ≤ 1000000) :
    Calls Try.prog 70 #[.slice A n c] w fun e w' => e = .returned (.bool (kindsR l)) ∧ Below w.heap.size w w' := by
  have hl := hide h.mks_len
  go_enter Try.func70, Try.ntmps70
  go_wp2
  go_loopw [3] (fun p wr => ∃ k : Nat, k ≤ n ∧ p = .int .i64 k ∧ Below w.heap.size w wr ∧ (placed 0 (l.take k)).all (okAt l) = true) (fun p _ => n - (intOf p).toNat)
  case atStart => exact ⟨0, Nat.zero_le _, rfl, Below.refl _ _, by simp [placed]⟩
  case round =>
    obtain ⟨k, hk, rfl, hb, htk⟩ := hrel
    have HT := hide htk
    have HB := hide hb
    clear htk
    by_cases hlt : k < n
    · obtain ⟨ad, b, rfl, hx, hc⟩ := (h.below (hb.mono hB)).mk hlt
      have HXX := hide hx
      have HO : Hid (okAt l (k, b) = (inI 1 8 b && (k == 0 || (match l[k - 1]? with | some x => decide (x < b) | none => true)))) := hide rfl
      have hq := Later.cell hc
      by_cases hr : 1 ≤ b ∧ b ≤ 8
      · obtain ⟨hr1, hr2⟩ := hr
        have hin : Hid (inI 1 8 b = true) := hide (by unfold inI; simp; omega)
        rcases Nat.eq_zero_or_pos k with rfl | hk0
        · have HM := hide (kinds_more l 0 b HXX.out HT.out (by rw [HO.out, hin.out]; rfl))
          have ea : ad.add 0 = ad := by unfold Addr.add; simp
          rw [ea] at hq
          clear h hx hb hc HO hin ea
          go_wp2
          refine wp_region_later (by kernel_rfl) (by kernel_rfl) ?_
          repeat (first | go_big_quiet_step (fail) | (refine wpQuiet_step (fun K hK => ?_); go_simp; refine hK _ ?_; clear hK K))
          refine wpQuiet_nil ?_
          rintro _ ⟨x, rfl⟩
          have HX := hide (HB.out.trans (x.below.mono HB.out.size))
          clear hq
          go_wp2
          go_roundw
          case rel => exact ⟨0 + 1, by omega, by go_num, HX.out, HM.out⟩
          case measure => simp [intOf]; omega
        · obtain ⟨j, rfl⟩ : ∃ j, k = j + 1 := ⟨k - 1, by omega⟩
          obtain ⟨ad', b', e', hx', hc'⟩ := (h.below (hb.mono hB)).mk (k := j) (by omega)
          cases e'
          have HO2 : Hid (okAt l (j + 1, b) = decide (b' < b)) := hide (by rw [HO.out, hin.out]; simp [hx'])
          have hq' := Later.cell hc'
          have hs1 : IntKind.i64.wrap ((j : Int) + 1 - 1) = (j : Int) := by
            rw [IntWalk.i64_in _ (by omega)]; omega
          have ea : ad.add (j + 1) = { block := ad.block, off := ad.off + (j + 1) } := by unfold Addr.add; simp
          rw [ea] at hq
          have hs2 : ((j : Int) + 1).toNat = j + 1 := by omega
          have hs3 : 0 ≤ (j : Int) + 1 := by omega
          clear h hx hx' HO hin hb hc hc' ea
          by_cases hlt' : b' < b
          · have HM := hide (kinds_more l (j + 1) b HXX.out HT.out (by rw [HO2.out]; simpa using hlt'))
            have hge : decide (b ≤ b') = false := by simpa using hlt'
            clear HO2
            go_wp2
            refine wp_region_later (by kernel_rfl) (by kernel_rfl) ?_
            repeat (first | go_big_quiet_step (fail) | (refine wpQuiet_step (fun K hK => ?_); go_simp; refine hK _ ?_; clear hK K))
            refine wpQuiet_nil ?_
            rintro _ ⟨x, rfl⟩
            have HX := hide (HB.out.trans (x.below.mono HB.out.size))
            clear hq hq' hs1 hs2
            go_wp2
            go_roundw
            case rel => exact ⟨j + 1 + 1, by omega, by go_num, HX.out, HM.out⟩
            case measure => simp [intOf]; omega
          · have HM := hide (kinds_stop l (j + 1) b HXX.out (by rw [HO2.out]; simpa using hlt'))
            have hge : decide (b ≤ b') = true := by simpa using hlt'
            clear HO2
            go_wp2
            refine wp_region_later (by kernel_rfl) (by kernel_rfl) ?_
            repeat (first | go_big_quiet_step (fail) | (refine wpQuiet_step (fun K hK => ?_); go_simp; refine hK _ ?_; clear hK K))
            refine wpQuiet_nil ?_
            rintro _ ⟨x, rfl⟩
            have HX := hide (HB.out.trans (x.below.mono HB.out.size))
            clear hq hq' hs1 hs2
            go_wp2
            go_ret
            exact ⟨by rw [HM.out]; rfl, HX.out⟩
      · have HM := hide (kinds_stop l k b HXX.out (by rw [HO.out]; unfold inI; simp; omega))
        clear h hx HO hb hc
        by_cases hb1 : 1 ≤ b
        · have hb8 : decide (8 < b) = true := by simp; omega
          have hb0 : decide (b < 1) = false := by simp; omega
          clear hr
          go_wp2
          refine wp_region_later (by kernel_rfl) (by kernel_rfl) ?_
          repeat (first | go_big_quiet_step (fail) | (refine wpQuiet_step (fun K hK => ?_); go_simp; refine hK _ ?_; clear hK K))
          refine wpQuiet_nil ?_
          rintro _ ⟨x, rfl⟩
          have HX := hide (HB.out.trans (x.below.mono HB.out.size))
          clear hq
          go_wp2
          go_ret
          exact ⟨by rw [HM.out]; rfl, HX.out⟩
        · have hb0 : decide (b < 1) = true := by simp; omega
          clear hr
          go_wp2
          refine wp_region_later (by kernel_rfl) (by kernel_rfl) ?_
          repeat (first | go_big_quiet_step (fail) | (refine wpQuiet_step (fun K hK => ?_); go_simp; refine hK _ ?_; clear hK K))
          refine wpQuiet_nil ?_
          rintro _ ⟨x, rfl⟩
          have HX := hide (HB.out.trans (x.below.mono HB.out.size))
          clear hq
          go_wp2
          go_ret
          exact ⟨by rw [HM.out]; rfl, HX.out⟩
    · have HM : Hid (kindsR l = decide (0 < n)) := hide (by
        unfold kindsR
        have := HT.out
        rw [List.take_of_length_le (by rw [hl.out]; omega)] at this
        rw [this, hl.out]; rfl)
      clear h hb
      by_cases n0 : n = 0
      · subst n0
        go_wp2
        go_ret
        exact ⟨by rw [HM.out]; rfl, HB.out⟩
      · have hd : decide (0 < (n : Int)) = true := by simp; omega
        have hd' : decide (0 < n) = true := by simp; omega
        rw [hd'] at HM
        go_wp2
        go_ret
        exact ⟨by rw [HM.out]; rfl, HB.out⟩
set_option maxRecDepth 100000 in
set_option maxHeartbeats 1000000 in
theorem rmaps_any (A : Option Addr) (n c B : Nat) (l : List ArgX) (w : World) (h : Rd w B 4 A n (xcells l)) (hn : n ≤ 1000000) :
    Calls Try.prog 71 #[.slice A n c] w fun e w' => e = .returned (mapsV l) ∧ w = w' := by
  have hl := hide h.xcells_len
  go_enter Try.func71, Try.ntmps71
  go_wp2
  go_loop [3] (fun p => ∃ k : Nat, k ≤ n ∧ p = .int .i64 k ∧ (l.take k).find? (fun x => x.a.kind == 3) = none) (fun p => n - (intOf p).toNat)
  case atStart => exact ⟨0, Nat.zero_le _, rfl, by simp⟩
  case round =>
    obtain ⟨k, hk, rfl, htk⟩ := hrel
    have HT := hide htk
    clear htk
    by_cases hlt : k < n
    · obtain ⟨ad, ⟨⟨kd, lo, hi, mp⟩, Am, cm⟩, rfl, hab, hx, c0, c1, c2, c3⟩ := h.argx hlt
      have HX := hide hx
      simp only at c0 c1 c2 c3
      clear h hx
      by_cases k3 : kd = 3
      · subst k3
        have HM : Hid (mapsV l = .slice Am mp.length cm) := hide (by unfold mapsV; rw [find_take_some _ l k _ HX.out HT.out rfl])
        go_wp2
        go_ret
        exact ⟨by rw [HM.out]; rfl, rfl⟩
      · have e3 : (kd == 3) = false := by simpa using k3
        have HM := hide (find_take_none (fun x => x.a.kind == 3) l k _ HX.out HT.out e3)
        go_wp2
        go_round
        case rel => exact ⟨k + 1, by omega, by go_num, HM.out⟩
        case measure => simp [intOf]; omega
    · have HM : Hid (mapsV l = .slice none 0 0) := hide (by
        unfold mapsV
        have := HT.out
        rw [List.take_of_length_le (by rw [hl.out]; omega)] at this
        rw [this])
      clear h
      go_wp2
      go_ret
      exact ⟨by rw [HM.out]; rfl, rfl⟩
end Go.Proofs.Ytedjmgiblkjonaa
