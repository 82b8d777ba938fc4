/-
  The error of a type, of whatever type.
-/
import Derived.Test.YtedjmgiblkjonaaH4
namespace Go.Proofs.Ytedjmgiblkjonaa
open Go.RowKit Go.Maps
set_option linter.unusedVariables false

/-- The error of a type. -/
def typeM (nm : ByteArray) (ctx lo hi : Int) (fl : List FieldM) (nl : List NeedM) : Int :=
  if nameM nm.data.toList = false then 2 else if inI 8 256 ctx = false then 3 else if 32 < fl.length then 3 else if 64 < nl.length then 3 else
  if fieldsM ctx fl = false then 22 else if riseM needErr needAbv 34 nl ≠ 0 then 34 else if lo ≤ hi then 0 else 36
set_option maxRecDepth 100000 in
set_option maxHeartbeats 4000000 in
theorem type_any (nm : ByteArray) (ctx lo hi : Int) (F N : Option Addr) (n fc nn nc B : Nat) (fl : List FieldM) (nl : List NeedM) (w : World) (hs : nm.size ≤ maxLen) (hp : Rd w B 4 F n (fcells fl)) (hq : Rd w B 3 N nn (ncells nl)) (hB : B ≤ w.heap.size)
    (hn : n ≤ 1000000) (hnc : n ≤ fc) (hc : fc ≤ maxLen) (hn' : nn ≤ 1000000) (hnc' : nn ≤ nc) (hc' : nc ≤ maxLen) :
    Calls Try.prog 21 #[.agg #[.string nm, .int .i64 ctx, .slice F n fc, .slice N nn nc, .int .i64 lo, .int .i64 hi]] w fun e w' => e = .returned (.int .i64 (typeM nm ctx lo hi fl nl)) ∧ Below w.heap.size w w' := by
  have hN : Hid (typeM nm ctx lo hi fl nl = if nameM nm.data.toList = false then 2 else if inI 8 256 ctx = false then 3 else if 32 < fl.length then 3 else if 64 < nl.length then 3 else
    if fieldsM ctx fl = false then 22 else if riseM needErr needAbv 34 nl ≠ 0 then 34 else if lo ≤ hi then 0 else 36) := hide rfl
  have hl1 := hp.fcells_len
  have hl2 := Rd.ncells_len hq
  rw [hl1, hl2] at hN
  have b1 := World.alloc_heap_new w (.cells #[.string nm, .int .i64 ctx, .slice F n fc, .slice N nn nc, .int .i64 lo, .int .i64 hi] 62)
  have l1 := below1 w (.cells #[.string nm, .int .i64 ctx, .slice F n fc, .slice N nn nc, .int .i64 lo, .int .i64 hi] 62)
  have hNm := hide (fun w => name_any nm w hs)
  have hFr := hide (fun w => from_int 8 256 w)
  have hHs := hide (fun w => has_int 8 256 ctx w)
  have hUn := hide (fun b w => unless_any b 36 w)
  go_enter Try.func21, Try.ntmps21
  go_wp2_with fail
  refine name_call (fun W1 hW1 => ?_)
  rw [← hW1] at b1 l1
  clear hW1
  obtain ⟨c0, c1, c2, c3, c4, c5⟩ := later6s b1
  have hFi : Hid (∀ y : Later W1, Calls Try.prog 48 #[.agg #[.string nm, .int .i64 ctx, .slice F n fc, .slice N nn nc, .int .i64 lo, .int .i64 hi]] y.w fun e w' => e = .returned (.bool (fieldsM ctx fl)) ∧ Below y.w.heap.size y.w w') := hide (fun y => by
    have h2 := (l1.trans (y.below.mono l1.size)).mono hB
    exact fields_any nm ctx lo hi F N n fc nn nc B fl y.w (hp.below h2) (Nat.le_trans hB h2.size) hn hnc hc)
  have hRi : Hid (∀ y : Later W1, Calls Try.prog 49 #[.slice N nn nc, .func (.func 50) #[] #[], .func (.func 51) #[] #[], .int .i64 34] y.w fun e w' => e = .returned (.int .i64 (riseM needErr needAbv 34 nl)) ∧ Below y.w.heap.size y.w w') := hide (fun y => by
    have h2 := (l1.trans (y.below.mono l1.size)).mono hB
    exact rise_need N nn nc B nl needErr needAbv 34 y.w (hq.below h2) (Nat.le_trans hB h2.size) hn' hnc' hc' (by decide) (fun x hx X hX => needErr_any x X) (fun q hq x hx X hX => needAbv_any q x X))
  have L1 := hide l1
  clear hp hq hl1 hl2 b1 l1
  generalize nameM nm.data.toList = nb at *
  generalize inI 8 256 ctx = cb at *
  generalize fieldsM ctx fl = fb at *
  generalize riseM needErr needAbv 34 nl = er at *
  ((with_reducible refine (Later.calls0 hNm.out).mono ?_))
  clear hNm
  rintro e w1 ⟨rfl, x, rfl⟩
  cases nb
  · have hR : Hid (typeM nm ctx lo hi fl nl = 2) := hide (by rw [hN.out, if_pos rfl])
    have HX := hide (L1.out.trans (x.below.mono L1.out.size))
    clear hN c0 c1 c2 c3 c4 c5
    go_wp2
    go_ret
    exact ⟨by rw [hR.out]; rfl, HX.out⟩
  · go_wp2_with fail
    have d1 : ∀ y : Later x.w, y.w.cell? ⟨w.heap.size, 1, none⟩ = some (.int .i64 ctx) := fun y => c1 ⟨y.w, x.below.trans (y.below.mono x.below.size)⟩
    refine wp_region_later (by kernel_rfl) (by kernel_rfl) ?_
    repeat (first | go_big_quiet_step (first | with_reducible exact Later.calls _ hFr.out | with_reducible exact Later.calls _ hHs.out) | (refine wpQuiet_step (fun K hK => ?_); go_simp; refine hK _ ?_; clear hK K))
    refine wpQuiet_nil ?_
    rintro _ ⟨y, rfl⟩
    obtain ⟨z, hz⟩ : ∃ z : Later W1, y.w = z.w := ⟨⟨y.w, x.below.trans (y.below.mono x.below.size)⟩, rfl⟩
    rw [hz]
    clear hz y d1 x hFr hHs
    have HZ := hide (L1.out.trans (z.below.mono L1.out.size))
    cases cb
    · have hR : Hid (typeM nm ctx lo hi fl nl = 3) := hide (by rw [hN.out, if_neg (by simp), if_pos rfl])
      clear hN
      go_wp2
      go_ret
      exact ⟨by rw [hR.out]; rfl, HZ.out⟩
    · by_cases h32 : 32 < n
      · have hR : Hid (typeM nm ctx lo hi fl nl = 3) := hide (by rw [hN.out, if_neg (by simp), if_neg (by simp), if_pos h32])
        have hd : decide (32 < (n : Int)) = true := by simp; omega
        clear hN
        go_wp2
        go_ret
        exact ⟨by rw [hR.out]; rfl, HZ.out⟩
      · have hd : decide (32 < (n : Int)) = false := by simp; omega
        by_cases h64 : 64 < nn
        · have hR : Hid (typeM nm ctx lo hi fl nl = 3) := hide (by rw [hN.out, if_neg (by simp), if_neg (by simp), if_neg h32, if_pos h64])
          have hd2 : decide (64 < (nn : Int)) = true := by simp; omega
          clear hN h32
          go_wp2
          go_ret
          exact ⟨by rw [hR.out]; rfl, HZ.out⟩
        · have hd2 : decide (64 < (nn : Int)) = false := by simp; omega
          have hN2 : Hid (typeM nm ctx lo hi fl nl = if fb = false then 22 else if er ≠ 0 then 34 else if lo ≤ hi then 0 else 36) := hide (by rw [hN.out, if_neg (by simp), if_neg (by simp), if_neg h32, if_neg h64])
          clear hN h32 h64
          go_wp2_with fail
          clear hd hd2
          ((with_reducible refine (Later.callsL z hFi.out).mono ?_))
          rintro e w1 ⟨rfl, x, rfl⟩
          clear hFi HZ z
          have HX := hide (L1.out.trans (x.below.mono L1.out.size))
          cases fb
          · have hR : Hid (typeM nm ctx lo hi fl nl = 22) := hide (by rw [hN2.out, if_pos rfl])
            clear hN2
            go_wp2
            go_ret
            exact ⟨by rw [hR.out]; rfl, HX.out⟩
          · go_wp2_with fail
            ((with_reducible refine (Later.callsL x hRi.out).mono ?_))
            rintro e w1 ⟨rfl, y, rfl⟩
            clear hRi HX x
            have HY := hide (L1.out.trans (y.below.mono L1.out.size))
            by_cases he : er = 0
            · subst he
              have hN3 : Hid (typeM nm ctx lo hi fl nl = if lo ≤ hi then 0 else 36) := hide (by rw [hN2.out, if_neg (by simp), if_neg (by simp)])
              clear hN2
              by_cases hlh : lo ≤ hi
              · have hR : Hid (typeM nm ctx lo hi fl nl = 0) := hide (by rw [hN3.out, if_pos hlh])
                have hd : decide (lo ≤ hi) = true := by simpa using hlh
                clear hN3 hlh
                go_wp2_with fail
                ((with_reducible refine (hUn.out _ _).mono ?_))
                rintro e w2 ⟨rfl, rfl⟩
                go_wp2
                go_ret
                exact ⟨by rw [hR.out]; rfl, HY.out⟩
              · have hR : Hid (typeM nm ctx lo hi fl nl = 36) := hide (by rw [hN3.out, if_neg hlh])
                have hd : decide (lo ≤ hi) = false := by simpa using hlh
                clear hN3 hlh
                go_wp2_with fail
                ((with_reducible refine (hUn.out _ _).mono ?_))
                rintro e w2 ⟨rfl, rfl⟩
                go_wp2
                go_ret
                exact ⟨by rw [hR.out]; rfl, HY.out⟩
            · have he2 : (er == 0) = false := by simpa using he
              have he3 : (er != 0) = true := by simpa using he
              have hR : Hid (typeM nm ctx lo hi fl nl = 34) := hide (by rw [hN2.out, if_neg (by simp), if_pos he])
              clear hN2 he
              go_wp2
              go_ret
              exact ⟨by rw [hR.out]; rfl, HY.out⟩
end Go.Proofs.Ytedjmgiblkjonaa
