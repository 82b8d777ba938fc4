/-
  Is a helper the host's own one? The error of a helper, of whatever helper.
-/
import Derived.Test.YtedjmgiblkjonaaF1
import Derived.Test.YtedjmgiblkjonaaE7g
namespace Go.Proofs.Ytedjmgiblkjonaa
open Go.RowKit Go.Maps
set_option linter.unusedVariables false

theorem xargs {W : World} {B n : Nat} {A : Option Addr} {lx : List ArgX} (hp : Rd W B 4 A n (xcells lx)) (hok : ArgsOk W B lx) : Args W B A n (lx.map ArgX.a) := by
  have hl := hp.xcells_len
  refine ⟨by simp [hl], fun hn => ?_⟩
  obtain ⟨ad, e, hb, hc⟩ := hp.2 hn
  subst e
  refine ⟨ad, rfl, hb, fun i a ha => ?_⟩
  rw [List.getElem?_map] at ha
  obtain ⟨x, hx, rfl⟩ : ∃ x, lx[i]? = some x ∧ x.a = a := by
    cases h : lx[i]? with
    | none => rw [h] at ha; cases ha
    | some x => rw [h] at ha; exact ⟨x, rfl, by simpa using ha⟩
  have hi : i < n := by have := (List.getElem?_eq_some_iff.1 hx).1; omega
  obtain ⟨ad', s, e', hb', hs, c0, c1, c2, c3⟩ := hp.argx hi
  cases e'
  rw [hx] at hs
  cases hs
  obtain ⟨k1, k2, k3, k4, k5⟩ := hok x (List.mem_of_getElem? hx)
  exact ⟨x.A, x.c, c0, c1, c2, c3, k1, k2, k3, k4⟩
theorem choose_x : ∀ (l : List ArgM) (Q : Nat → ArgM → Option Addr → Nat → Prop), (∀ i a, l[i]? = some a → ∃ A c, Q i a A c) → ∃ lx : List ArgX, lx.map ArgX.a = l ∧ ∀ i x, lx[i]? = some x → Q i x.a x.A x.c
  | [], Q, h => ⟨[], rfl, fun i x hx => by simp at hx⟩
  | a :: l, Q, h => by
    obtain ⟨A, c, hq⟩ := h 0 a rfl
    obtain ⟨lx, hm, hx⟩ := choose_x l (fun i => Q (i + 1)) (fun i a ha => h (i + 1) a (by simpa using ha))
    refine ⟨⟨a, A, c⟩ :: lx, by simp [hm], fun i x hi => ?_⟩
    cases i with
    | zero => simp at hi; subst hi; exact hq
    | succ i => exact hx i x (by simpa using hi)
theorem args_x {W : World} {B n : Nat} {A : Option Addr} {l : List ArgM} (h : Args W B A n l) (hr : ∀ a ∈ l, ∀ m ∈ a.maps, 0 ≤ m ∧ m < 256) : ∃ lx : List ArgX, lx.map ArgX.a = l ∧ Rd W B 4 A n (xcells lx) ∧ ArgsOk W B lx := by
  rcases Nat.eq_zero_or_pos n with rfl | hn
  · have : l = [] := List.eq_nil_of_length_eq_zero h.1
    subst this
    exact ⟨[], rfl, ⟨by simp [xcells], fun h => absurd h (by omega)⟩, fun x hx => absurd hx (by simp)⟩
  · obtain ⟨ad, e, hb, hc⟩ := h.2 hn
    subst e
    obtain ⟨lx, hm, hx⟩ := choose_x l (fun i a A c => W.cell? (ad.add (i * 4)) = some (.int .u8 a.kind) ∧ W.cell? { block := (ad.add (i * 4)).block, off := (ad.add (i * 4)).off + 1 } = some (.int .i64 a.lo) ∧
      W.cell? { block := (ad.add (i * 4)).block, off := (ad.add (i * 4)).off + 2 } = some (.int .i64 a.hi) ∧ W.cell? { block := (ad.add (i * 4)).block, off := (ad.add (i * 4)).off + 3 } = some (.slice A a.maps.length c) ∧ Rd W B 1 A a.maps.length (mks a.maps) ∧ (a.maps.length ≤ 1000000 ∧ a.maps.length ≤ c ∧ c ≤ maxLen)) (fun i a ha => hc i a ha)
    have hll : lx.length = n := by rw [← h.1, ← hm]; simp
    refine ⟨lx, hm, ⟨?_, fun _ => ⟨ad, rfl, hb, fun j u hu => ?_⟩⟩, fun x hmem => ?_⟩
    · unfold xcells; rw [flat_length ArgX.cells 4 (fun _ => rfl), hll]
    · obtain ⟨i, r, rfl, hr4⟩ := split4 j
      rw [xcells_at _ _ _ hr4] at hu
      cases hxi : lx[i]? with
      | none => rw [hxi] at hu; cases hu
      | some x =>
        rw [hxi] at hu
        obtain ⟨c0, c1, c2, c3, _⟩ := hx i x hxi
        have hr' : r = 0 ∨ r = 1 ∨ r = 2 ∨ r = 3 := by omega
        simp only [Option.bind_some] at hu
        rcases hr' with rfl | rfl | rfl | rfl
        · cases hu; exact c0
        · cases hu; rw [add_parts _ _ _ (by omega)]; exact c1
        · cases hu; rw [add_parts _ _ _ (by omega)]; exact c2
        · cases hu; rw [add_parts _ _ _ (by omega)]; exact c3
    · obtain ⟨i, hi⟩ := List.getElem?_of_mem hmem
      obtain ⟨_, _, _, _, q4, q5, q6, q7⟩ := hx i x hi
      exact ⟨q4, q5, q6, q7, hr x.a (by rw [← hm]; exact List.mem_map_of_mem hmem)⟩
def isOwnM (ck rk lo hi sz : Int) (l : List ArgM) : Bool := ownB ck && (rk == (ownH ck).ret.kind && lo == (ownH ck).ret.lo && hi == (ownH ck).ret.hi && sz == (ownH ck).ret.size) && argsEq l (ownH ck).args
set_option maxRecDepth 100000 in
set_option maxHeartbeats 2000000 in
theorem isOwn_any (i mj mn ck rk lo hi sz : Int) (A : Option Addr) (n c B : Nat) (l : List ArgM) (w : World) (ha : Args w B A n l) (hB : B ≤ w.heap.size) (hn : n ≤ 1000000) :
    Calls Try.prog 37 #[.agg #[.int .i64 i, .int .i64 mj, .int .i64 mn, .int .u8 ck, .slice A n c, .int .u8 rk, .int .i64 lo, .int .i64 hi, .int .i64 sz]] w fun e w' => e = .returned (.bool (isOwnM ck rk lo hi sz l)) ∧ Below w.heap.size w w' := by
  have hN : Hid (isOwnM ck rk lo hi sz l = (ownB ck && (rk == (ownH ck).ret.kind && lo == (ownH ck).ret.lo && hi == (ownH ck).ret.hi && sz == (ownH ck).ret.size) && argsEq l (ownH ck).args)) := hide rfl
  have hO := hide (fun w => own_any ck w)
  have hL := hide (ownH_len ck)
  have HA := hide ha
  clear ha
  generalize isOwnM ck rk lo hi sz l = res at *
  generalize ownH ck = h at *
  generalize ownB ck = ob at *
  obtain ⟨i', mj', mn', kk, l', ⟨rk', lo', hi', sz'⟩⟩ := h
  simp only at hN hL
  go_enter Try.func37, Try.ntmps37
  go_wp2_with fail
  refine name_call (fun W1 hW1 => ?_)
  have b2 := World.alloc_heap_new w (.cells #[.int .i64 i, .int .i64 mj, .int .i64 mn, .int .u8 ck, .slice A n c, .int .u8 rk, .int .i64 lo, .int .i64 hi, .int .i64 sz] 32)
  have l1 := below1 w (.cells #[.int .i64 i, .int .i64 mj, .int .i64 mn, .int .u8 ck, .slice A n c, .int .u8 rk, .int .i64 lo, .int .i64 hi, .int .i64 sz] 32)
  rw [← hW1] at b2 l1
  clear hW1
  (with_reducible refine (hO.out _).mono ?_)
  rintro e w1 ⟨A', c', rfl, hcc, hf, hb⟩
  clear hcc
  simp only [HelpM.v]
  have HF := hide hf.args
  simp only at HF
  replace b2 := (hb.block _ (at_lt b2)).trans b2
  replace l1 := l1.trans (hb.mono l1.size)
  have lt0 := at_lt b2
  have c4 := blk_cell b2 4
  have c5 := blk_cell b2 5
  have c6 := blk_cell b2 6
  have c7 := blk_cell b2 7
  have c8 := blk_cell b2 8
  simp at c4 c5 c6 c7 c8
  have L1 := hide l1
  have LX := hide (l1.trans ((below1 w1 (.cells #[.int .i64 i', .int .i64 mj', .int .i64 mn', .int .u8 kk, .slice A' l'.length c', .int .u8 rk', .int .i64 lo', .int .i64 hi', .int .i64 sz'] 32)).mono l1.size))
  have LY := hide (below1 w1 (.cells #[.int .i64 i', .int .i64 mj', .int .i64 mn', .int .u8 kk, .slice A' l'.length c', .int .u8 rk', .int .i64 lo', .int .i64 hi', .int .i64 sz'] 32))
  clear hf hb b2 l1 hO
  cases ob
  · have hR : Hid (res = false) := hide (by rw [hN.out]; rfl)
    clear hN HF
    go_wp2
    go_ret
    exact ⟨by rw [hR.out]; rfl, LX.out⟩
  · by_cases erk : rk = rk'
    · subst erk
      by_cases elo : lo = lo'
      · subst elo
        by_cases ehi : hi = hi'
        · subst ehi
          by_cases esz : sz = sz'
          · subst esz
            have hQ : Hid (∀ X : World, Below w1.heap.size w1 X → Calls Try.prog 68 #[.slice A n c, .slice A' l'.length c', .func (.func 69) #[] #[]] X fun e w' => e = .returned (.bool (argsEq l l')) ∧ Below X.heap.size X w') := hide (fun X hX =>
              equalFunc_any A A' n l'.length c c' X.heap.size l l' X (((HA.out.below (L1.out.mono hB)).below (hX.mono (Nat.le_trans hB L1.out.size))).mono (Nat.le_trans hB (Nat.le_trans L1.out.size hX.size))) ((HF.out.below hX).mono hX.size) (Nat.le_refl _) hn hL.out)
            have hR : Hid (res = argsEq l l') := hide (by rw [hN.out]; simp)
            generalize argsEq l l' = ae at *
            generalize l'.length = n' at *
            clear hN HF HA
            go_wp2_with fail
            ((with_reducible refine (hQ.out _ LY.out).mono ?_))
            rintro e w2 ⟨rfl, hb⟩
            have HX := hide (LX.out.trans (hb.mono LX.out.size))
            clear hb hQ
            go_wp2
            go_ret
            exact ⟨by rw [hR.out]; simp, HX.out⟩
          · have ez : (sz == sz') = false := by simpa using esz
            have hR : Hid (res = false) := hide (by rw [hN.out]; simp [esz])
            clear hN HF HA esz
            go_wp2
            go_ret
            exact ⟨by rw [hR.out]; rfl, LX.out⟩
        · have ez : (hi == hi') = false := by simpa using ehi
          have hR : Hid (res = false) := hide (by rw [hN.out]; simp [ehi])
          clear hN HF HA ehi
          go_wp2
          go_ret
          exact ⟨by rw [hR.out]; rfl, LX.out⟩
      · have ez : (lo == lo') = false := by simpa using elo
        have hR : Hid (res = false) := hide (by rw [hN.out]; simp [elo])
        clear hN HF HA elo
        go_wp2
        go_ret
        exact ⟨by rw [hR.out]; rfl, LX.out⟩
    · have ez : (rk == rk') = false := by simpa using erk
      have hR : Hid (res = false) := hide (by rw [hN.out]; simp [erk])
      clear hN HF HA erk
      go_wp2
      go_ret
      exact ⟨by rw [hR.out]; rfl, LX.out⟩
/-- The error of a helper. -/
def helperM (i mj mn ck rk lo hi sz : Int) (lx : List ArgX) : Int :=
  if (numberM i && versionM mj mn) = false then 34 else if 5 < lx.length then 3 else if errL lx ≠ 0 then errL lx else
  if retM rk lo hi sz (mapsL lx) = false then 36 else if ck = 0 then 0 else if isOwnM ck rk lo hi sz (lx.map ArgX.a) = true then 0 else 9
set_option maxRecDepth 100000 in
set_option maxHeartbeats 2000000 in
theorem helper_any (i mj mn ck rk lo hi sz : Int) (A : Option Addr) (n c B : Nat) (lx : List ArgX) (w : World) (hp : Rd w B 4 A n (xcells lx)) (hok : ArgsOk w B lx) (hB : B ≤ w.heap.size) (hn : n ≤ 1000000) (hnc : n ≤ c) (hc : c ≤ maxLen) :
    Calls Try.prog 15 #[.agg #[.int .i64 i, .int .i64 mj, .int .i64 mn, .int .u8 ck, .slice A n c, .int .u8 rk, .int .i64 lo, .int .i64 hi, .int .i64 sz]] w fun e w' => e = .returned (.int .i64 (helperM i mj mn ck rk lo hi sz lx)) ∧ Below w.heap.size w w' := by
  have hN : Hid (helperM i mj mn ck rk lo hi sz lx = if (numberM i && versionM mj mn) = false then 34 else if 5 < lx.length then 3 else if errL lx ≠ 0 then errL lx else
    if retM rk lo hi sz (mapsL lx) = false then 36 else if ck = 0 then 0 else if isOwnM ck rk lo hi sz (lx.map ArgX.a) = true then 0 else 9) := hide rfl
  have hll := hp.xcells_len
  rw [hll] at hN
  have b1 := World.alloc_heap_new w (.cells #[.int .i64 i, .int .i64 mj, .int .i64 mn, .int .u8 ck, .slice A n c, .int .u8 rk, .int .i64 lo, .int .i64 hi, .int .i64 sz] 32)
  have l1 := below1 w (.cells #[.int .i64 i, .int .i64 mj, .int .i64 mn, .int .u8 ck, .slice A n c, .int .u8 rk, .int .i64 lo, .int .i64 hi, .int .i64 sz] 32)
  have hNum := hide (fun w => numbered_any i mj mn w)
  have hUn := hide (fun b w => unless_any b 9 w)
  go_enter Try.func15, Try.ntmps15
  go_wp2_with fail
  refine name_call (fun W1 hW1 => ?_)
  rw [← hW1] at b1 l1
  clear hW1
  obtain ⟨c0, c1, c2, c3, c4, c5, c6, c7, c8⟩ := later9 b1
  have hArg : Hid (∀ y : Later W1, Calls Try.prog 35 #[.slice A n c] y.w fun e w' => e = .returned (.int .i64 (errL lx)) ∧ Below y.w.heap.size y.w w') := hide (fun y => by
    have h2 := (l1.trans (y.below.mono l1.size)).mono hB
    exact argsError_any A n c B lx y.w (hp.below h2) (hok.below h2) (Nat.le_trans hB h2.size) hn hnc hc)
  have hRet : Hid (∀ y : Later W1, Calls Try.prog 36 #[.agg #[.int .i64 i, .int .i64 mj, .int .i64 mn, .int .u8 ck, .slice A n c, .int .u8 rk, .int .i64 lo, .int .i64 hi, .int .i64 sz]] y.w fun e w' => e = .returned (.bool (retM rk lo hi sz (mapsL lx))) ∧ Below y.w.heap.size y.w w') := hide (fun y => by
    have h2 := (l1.trans (y.below.mono l1.size)).mono hB
    exact rightRet_any i mj mn ck rk lo hi sz A n c B lx y.w (hp.below h2) (hok.below h2) (Nat.le_trans hB h2.size) hn)
  have hOwn : Hid (∀ y : Later W1, Calls Try.prog 37 #[.agg #[.int .i64 i, .int .i64 mj, .int .i64 mn, .int .u8 ck, .slice A n c, .int .u8 rk, .int .i64 lo, .int .i64 hi, .int .i64 sz]] y.w fun e w' => e = .returned (.bool (isOwnM ck rk lo hi sz (lx.map ArgX.a))) ∧ Below y.w.heap.size y.w w') := hide (fun y => by
    have h2 := (l1.trans (y.below.mono l1.size)).mono hB
    exact isOwn_any i mj mn ck rk lo hi sz A n c B (lx.map ArgX.a) y.w ((xargs hp hok).below h2) (Nat.le_trans hB h2.size) hn)
  have L1 := hide l1
  clear hp hok hll b1 l1
  generalize errL lx = er at *
  generalize retM rk lo hi sz (mapsL lx) = rt at *
  generalize isOwnM ck rk lo hi sz (lx.map ArgX.a) = io at *
  (with_reducible refine (Later.calls0 hNum.out).mono ?_)
  clear hNum
  generalize (numberM i && versionM mj mn) = nu at *
  rintro e w1 ⟨rfl, y, rfl⟩
  have HY := hide (L1.out.trans (y.below.mono L1.out.size))
  cases nu
  · have hR : Hid (helperM i mj mn ck rk lo hi sz lx = 34) := hide (by rw [hN.out, if_pos rfl])
    clear hN
    go_wp2
    go_ret
    exact ⟨by rw [hR.out]; rfl, HY.out⟩
  · by_cases h5 : 5 < n
    · have hR : Hid (helperM i mj mn ck rk lo hi sz lx = 3) := hide (by rw [hN.out, if_neg (by simp), if_pos h5])
      have hd : decide (5 < (n : Int)) = true := by simp; omega
      clear hN
      go_wp2
      go_ret
      exact ⟨by rw [hR.out]; rfl, HY.out⟩
    · have hd : decide (5 < (n : Int)) = false := by simp; omega
      have hN2 : Hid (helperM i mj mn ck rk lo hi sz lx = if er ≠ 0 then er else if rt = false then 36 else if ck = 0 then 0 else if io = true then 0 else 9) := hide (by rw [hN.out, if_neg (by simp), if_neg h5])
      clear hN h5
      go_wp2_with fail
      ((with_reducible refine (Later.callsL y hArg.out).mono ?_))
      clear hd hArg HY
      rintro e w1 ⟨rfl, z, rfl⟩
      clear y
      have HZ := hide (L1.out.trans (z.below.mono L1.out.size))
      by_cases he : er = 0
      · subst he
        have hN3 : Hid (helperM i mj mn ck rk lo hi sz lx = if rt = false then 36 else if ck = 0 then 0 else if io = true then 0 else 9) := hide (by rw [hN2.out, if_neg (by simp)])
        clear hN2
        go_wp2_with fail
        ((with_reducible refine (Later.callsL z hRet.out).mono ?_))
        clear hRet HZ
        rintro e w1 ⟨rfl, y, rfl⟩
        clear z
        have HY := hide (L1.out.trans (y.below.mono L1.out.size))
        cases rt
        · have hR : Hid (helperM i mj mn ck rk lo hi sz lx = 36) := hide (by rw [hN3.out, if_pos rfl])
          clear hN3
          go_wp2
          go_ret
          exact ⟨by rw [hR.out]; rfl, HY.out⟩
        · by_cases hk : ck = 0
          · subst hk
            have hR : Hid (helperM i mj mn 0 rk lo hi sz lx = 0) := hide (by rw [hN3.out, if_neg (by simp), if_pos rfl])
            clear hN3 hOwn
            go_wp2_with fail
            ((with_reducible refine (hUn.out _ _).mono ?_))
            rintro e w1 ⟨rfl, rfl⟩
            go_wp2
            go_ret
            exact ⟨by rw [hR.out]; simp, HY.out⟩
          · have hk2 : (ck == 0) = false := by simpa using hk
            have hR : Hid (helperM i mj mn ck rk lo hi sz lx = if io = true then 0 else 9) := hide (by rw [hN3.out, if_neg (by simp), if_neg hk])
            clear hN3 hk
            go_wp2_with fail
            ((with_reducible refine (Later.callsL y hOwn.out).mono ?_))
            rintro e w1 ⟨rfl, z, rfl⟩
            clear HY hOwn
            have HZ := hide (L1.out.trans (z.below.mono L1.out.size))
            cases io
            all_goals
              go_wp2_with fail
              ((with_reducible refine (hUn.out _ _).mono ?_))
              rintro e w1 ⟨rfl, rfl⟩
              go_wp2
              go_ret
              exact ⟨by rw [hR.out]; simp, HZ.out⟩
      · have he2 : (er == 0) = false := by simpa using he
        have he3 : (er != 0) = true := by simpa using he
        have hR : Hid (helperM i mj mn ck rk lo hi sz lx = er) := hide (by rw [hN2.out, if_pos he])
        clear hN2 he
        go_wp2
        go_ret
        exact ⟨by rw [hR.out]; rfl, HZ.out⟩
end Go.Proofs.Ytedjmgiblkjonaa
