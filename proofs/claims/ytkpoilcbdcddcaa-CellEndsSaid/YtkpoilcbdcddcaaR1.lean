/-
  The document's stack by definition, in memory: bytes are put.
-/
import Derived.Test.YtkpoilcbdcddcaaR0
namespace Go.Proofs.Ytkpoilcbdcddcaa
open Go.RowKit
set_option linter.unusedVariables false
set_option linter.unusedSimpArgs false

/-- No cell is whole where a byte is set anew. -/
def AS.free (A : AS) (g : Nat) : AS := ⟨A.pl, fun h => if h = g then c0 else A.wh h⟩
theorem free_put1 (A : AS) (m : Nat) (x : Int) : (A.free (m / 8)).put1 m x = A.put1 m x := by
  refine AS.ext' (fun _ => rfl) (fun g => ?_)
  simp only [AS.put1, AS.free]
  by_cases h : g = m / 8
  · rw [if_pos h]; simp [h]
  · simp [h]
theorem free_rsl {cs : List Value} {A : AS} (h : RSL cs A) {g : Nat} (hg : g < 64) : RSL (setsFrom cs (1024 + 4 * g) c0.cs) (A.free g) := by
  have hl := h.len
  have hat := fun j => setsFrom_at c0.cs cs (1024 + 4 * g) j (by rw [hl]; show 1024 + 4 * g + 4 ≤ 1280; omega)
  have h4 : c0.cs.length = 4 := rfl
  rw [h4] at hat
  have hwh : ∀ g', (A.free g).wh g' = if g' = g then c0 else A.wh g' := fun _ => rfl
  have hin : ∀ j, j < 4 → (setsFrom cs (1024 + 4 * g) c0.cs)[1024 + 4 * g + j]? = c0.cs[j]? := fun j hj => by
    rw [hat, if_pos (by omega), show 1024 + 4 * g + j - (1024 + 4 * g) = j by omega]
  refine ⟨by rw [setsFrom_length, hl], fun m hm => by rw [hat, if_neg (by omega)]; exact h.byte m hm, fun m hm => by rw [hat, if_neg (by omega)]; exact h.set m hm, fun g' hg' => ?_, fun g' hg' => ?_, fun g' hg' => ?_, fun g' hg' => ?_⟩
  all_goals
    rw [hwh]
    by_cases e : g' = g
    · subst e
      rw [if_pos rfl]
      first
        | exact hin 0 (by omega)
        | exact hin 1 (by omega)
        | exact hin 2 (by omega)
        | exact hin 3 (by omega)
    · rw [if_neg e, hat, if_neg (by omega)]
      first
        | exact h.k g' hg'
        | exact h.wd g' hg'
        | exact h.rg g' hg'
        | exact h.of g' hg'
theorem put1_rsl {cs : List Value} {A : AS} (h : RSL cs A) {m : Nat} (hm : m < 512) (hz : A.wh (m / 8) = c0) (x : Int) : RSL ((cs.set m (.int .u8 x)).set (512 + m) (.bool true)) (A.put1 m x) := by
  have hl := h.len
  have hwh : ∀ g, (A.put1 m x).wh g = A.wh g := fun g => by
    simp only [AS.put1]
    by_cases e : g = m / 8
    · rw [if_pos e, e, hz]
    · rw [if_neg e]
  have hpl : ∀ j, (A.put1 m x).pl j = if j = m then some x else A.pl j := fun _ => rfl
  refine ⟨by simp [hl], fun j hj => ?_, fun j hj => ?_, fun g hg => ?_, fun g hg => ?_, fun g hg => ?_, fun g hg => ?_⟩
  · rw [List.getElem?_set_ne (by omega), hpl]
    by_cases e : j = m
    · subst e
      rw [List.getElem?_set_self (by omega), if_pos rfl]
      exact ⟨x, rfl, fun y hy => by cases hy; rfl⟩
    · rw [List.getElem?_set_ne (fun h => e h.symm), if_neg e]
      exact h.byte j hj
  · rw [hpl]
    by_cases e : j = m
    · subst e
      rw [List.getElem?_set_self (by simp; omega), if_pos rfl]
      rfl
    · rw [List.getElem?_set_ne (by omega), List.getElem?_set_ne (by omega), if_neg e]
      exact h.set j hj
  · rw [List.getElem?_set_ne (by omega), List.getElem?_set_ne (by omega), hwh]; exact h.k g hg
  · rw [List.getElem?_set_ne (by omega), List.getElem?_set_ne (by omega), hwh]; exact h.wd g hg
  · rw [List.getElem?_set_ne (by omega), List.getElem?_set_ne (by omega), hwh]; exact h.rg g hg
  · rw [List.getElem?_set_ne (by omega), List.getElem?_set_ne (by omega), hwh]; exact h.of g hg
set_option maxRecDepth 8000 in
set_option maxHeartbeats 4000000 in
theorem rput_any (b : Nat) (A : AS) (o : Nat) (S : Option Addr) (q sc : Nat) (l : List Int) (w : World) (h : RSt w b A) (hok : A.Ok) (hby : ∀ x ∈ l, 0 ≤ x ∧ x < 256) (hs : Src w b S q l) (hf : o + q ≤ 512) :
    Calls Try.prog 38 #[.pointer (some ⟨b, 0, none⟩), .int .i64 o, .slice S q sc] w fun e w' => e = .returned (.tuple #[]) ∧ RSt w' b (A.put o l) ∧ Turn b w w' := by
  have H0 := hide h
  have HS0 := hide hs
  have HBy := hide hby
  have hl := hs.1
  have HOk := hide hok
  clear h hs hby hok
  go_enter Try.func38, Try.ntmps38
  go_wp2
  go_loopw [6] (fun a wr => ∃ i : Nat, i ≤ q ∧ a = .int .i64 i ∧ RSt wr b (A.put o (l.take i)) ∧ Turn b w wr) (fun a _ => q - (intOf a).toNat)
  case atStart => exact ⟨0, Nat.zero_le _, rfl, H0.out, Turn.refl b w⟩
  case round =>
    obtain ⟨i, hi, rfl, hr, ht⟩ := hrel
    have HR := hide hr
    have HT := hide ht
    clear hr ht
    by_cases hiq : i < q
    · obtain ⟨ad, rfl, hadb, hadl, hsrc⟩ := HS0.out.2 (by omega)
      have hx : l[i]? = some (l[i]'(by omega)) := List.getElem?_eq_getElem (by omega)
      obtain ⟨x, hxe⟩ : ∃ x, x = l[i]'(by omega) := ⟨_, rfl⟩
      rw [← hxe] at hx
      have hok1 : (A.put o (l.take i)).Ok := HOk.out.put o _ (fun y hy => HBy.out y (List.mem_of_mem_take hy))
      obtain ⟨A1, hA1⟩ : ∃ A1, A1 = A.put o (l.take i) := ⟨_, rfl⟩
      have hA2 : A.put o (l.take (i + 1)) = A1.put1 (o + i) x := by
        rw [hA1, List.take_add_one, hx]
        show A.put o (l.take i ++ [x]) = _
        rw [A.put_snoc, List.length_take, show min i l.length = i by omega]
      rw [← hA1] at hok1 HR
      have HA2 := hide hA2
      clear hA2 hA1 hxe
      obtain ⟨cs, hb, hcs⟩ := HR.out
      have hsx : Hid (∀ W, Turn b w W → W.cell? (ad.add i) = some (.int .u8 x)) := fun W hW => by
        obtain ⟨ad', e, h1, h2, h3⟩ := (HS0.out.turn hW).2 (by omega)
        cases e
        exact h3 i _ (by simp [u8s, hx])
      have hg : (o + i) / 8 < 64 := by omega
      have c0 : wr.cell? ⟨b, 1024 + (o + i) / 8 * 4, none⟩ = some (.int .u8 (A1.wh ((o + i) / 8)).k) := by rw [PS.cell hb, Nat.mul_comm]; exact hcs.k _ hg
      have c1 : wr.cell? ⟨b, 1024 + (o + i) / 8 * 4 + 1, none⟩ = some (.int .u64 (A1.wh ((o + i) / 8)).wd) := by rw [PS.cell hb, Nat.mul_comm]; exact hcs.wd _ hg
      have c2 : wr.cell? ⟨b, 1024 + (o + i) / 8 * 4 + 2, none⟩ = some (.int .i64 (A1.wh ((o + i) / 8)).rg) := by rw [PS.cell hb, Nat.mul_comm]; exact hcs.rg _ hg
      have c3 : wr.cell? ⟨b, 1024 + (o + i) / 8 * 4 + 3, none⟩ = some (.int .i64 (A1.wh ((o + i) / 8)).of) := by rw [PS.cell hb, Nat.mul_comm]; exact hcs.of _ hg
      have f0 := blk_free hb (1024 + (o + i) / 8 * 4)
      have f1 := blk_free hb (1024 + (o + i) / 8 * 4 + 1)
      have f2 := blk_free hb (1024 + (o + i) / 8 * 4 + 2)
      have f3 := blk_free hb (1024 + (o + i) / 8 * 4 + 3)
      have hlt := at_lt hb
      obtain ⟨cs2, w2, hb2, hs2, hz2, ht2, hA12, hgo⟩ : ∃ (cs2 : List Value) (w2 : World), w2.heap[b]? = some (.cells cs2.toArray 36 (0, 0)) ∧ RSL cs2 (A1.free ((o + i) / 8)) ∧ (A1.free ((o + i) / 8)).wh ((o + i) / 8) = Go.Proofs.Ytkpoilcbdcddcaa.c0 ∧ Turn b wr w2 ∧ (A1.free ((o + i) / 8)).put1 (o + i) x = A1.put1 (o + i) x ∧ (((A1.wh ((o + i) / 8)).k = 0 ∧ w2 = wr) ∨ ((A1.wh ((o + i) / 8)).k ≠ 0 ∧ w2 = ((((wr.setCell ⟨b, 1024 + (o + i) / 8 * 4, none⟩ (.int .u8 0)).setCell ⟨b, 1024 + (o + i) / 8 * 4 + 1, none⟩ (.int .u64 0)).setCell ⟨b, 1024 + (o + i) / 8 * 4 + 2, none⟩ (.int .i64 0)).setCell ⟨b, 1024 + (o + i) / 8 * 4 + 3, none⟩ (.int .i64 0)))) := by
        by_cases hk : (A1.wh ((o + i) / 8)).k = 0
        · have hz := hok1.zero _ hk
          have hfr : A1.free ((o + i) / 8) = A1 := AS.ext' (fun _ => rfl) (fun g => by
            simp only [AS.free]
            by_cases e : g = (o + i) / 8
            · rw [if_pos e, e, hz]
            · rw [if_neg e])
          exact ⟨cs, wr, hb, by rw [hfr]; exact hcs, by rw [hfr]; exact hz, Turn.refl b wr, by rw [hfr], .inl ⟨hk, rfl⟩⟩
        · refine ⟨_, _, ?_, free_rsl hcs hg, by simp [AS.free], ?_, free_put1 A1 (o + i) x, .inr ⟨hk, rfl⟩⟩
          · have := put_cell (put_cell (put_cell (put_cell hb (1024 + (o + i) / 8 * 4) (.int .u8 0)) (1024 + (o + i) / 8 * 4 + 1) (.int .u64 0)) (1024 + (o + i) / 8 * 4 + 2) (.int .i64 0)) (1024 + (o + i) / 8 * 4 + 3) (.int .i64 0)
            rw [this, Nat.mul_comm ((o + i) / 8) 4]
            rfl
          · exact (((Turn.set wr b (1024 + (o + i) / 8 * 4) (.int .u8 0)).trans (Turn.set _ b (1024 + (o + i) / 8 * 4 + 1) (.int .u64 0))).trans (Turn.set _ b (1024 + (o + i) / 8 * 4 + 2) (.int .i64 0))).trans (Turn.set _ b (1024 + (o + i) / 8 * 4 + 3) (.int .i64 0))
      have HB2 := hide hb2
      have HS2 := hide hs2
      have HZ2 := hide hz2
      have HT2 := hide ht2
      have HA12 := hide hA12
      have HGo := hide hgo
      clear hb2 hs2 hz2 ht2 hA12 hgo
      by_cases hk : (A1.wh ((o + i) / 8)).k = 0
      · have hk2 : ((A1.wh ((o + i) / 8)).k != 0) = false := by simp [hk]
        go_upto_region 6 with fail
        obtain rfl : w2 = wr := by
          rcases HGo.out with ⟨_, h⟩ | ⟨h, _⟩
          · exact h
          · exact absurd hk h
        clear c0 c1 c2 c3 f0 f1 f2 f3
        have hlt2 := at_lt HB2.out
        have ax := hsx.out _ (HT.out.trans HT2.out)
        have hx0 := (HS2.out.byte (o + i) (by omega))
        obtain ⟨z0, hz0, _⟩ := hx0
        have b0 : w2.cell? ⟨b, o + i, none⟩ = some (.int .u8 z0) := by rw [PS.cell HB2.out]; exact hz0
        have b1 := blk_free HB2.out (o + i)
        go_region
        have hb3 : (w2.setCell ⟨b, o + i, none⟩ (.int .u8 x)).drew.heap[b]? = some (.cells (cs2.set (o + i) (.int .u8 x)).toArray 36 (0, 0)) := put_cell HB2.out (o + i) (.int .u8 x)
        have ht3 : Turn b w (w2.setCell ⟨b, o + i, none⟩ (.int .u8 x)).drew := ((HT.out.trans HT2.out).trans (Turn.set w2 b (o + i) (.int .u8 x))).drew
        generalize (w2.setCell ⟨b, o + i, none⟩ (.int .u8 x)).drew = w3 at hb3 ht3 ⊢
        have d0 : w3.cell? ⟨b, 512 + (o + i), none⟩ = some (.bool ((A1.free ((o + i) / 8)).pl (o + i)).isSome) := by
          rw [PS.cell hb3, List.getElem?_set_ne (by omega)]
          exact HS2.out.set (o + i) (by omega)
        have d1 := blk_free hb3 (512 + (o + i))
        have hlt3 := at_lt hb3
        have HB3 := hide hb3
        have HT3 := hide ht3
        clear hb3 ht3 b0 b1 hz0 hlt2 ax
        go_wp2
        go_roundw
        case rel => exact ⟨i + 1, by omega, by go_num, ⟨_, put_cell HB3.out (512 + (o + i)) (.bool true), by rw [HA2.out, ← HA12.out]; exact put1_rsl HS2.out (by omega) HZ2.out x⟩, HT3.out.trans (Turn.set _ b (512 + (o + i)) (.bool true))⟩
        case measure => simp [intOf]; omega
      · have hk2 : ((A1.wh ((o + i) / 8)).k != 0) = true := by simpa using hk
        go_upto_region 6 with fail
        rw [show ((((wr.setCell ⟨b, 1024 + (o + i) / 8 * 4, none⟩ (.int .u8 0)).setCell ⟨b, 1024 + (o + i) / 8 * 4 + 1, none⟩ (.int .u64 0)).setCell ⟨b, 1024 + (o + i) / 8 * 4 + 2, none⟩ (.int .i64 0)).setCell ⟨b, 1024 + (o + i) / 8 * 4 + 3, none⟩ (.int .i64 0)) = w2 from by
          rcases HGo.out with ⟨h, _⟩ | ⟨_, h⟩
          · exact absurd h hk
          · exact h.symm]
        clear c0 c1 c2 c3 f0 f1 f2 f3
        have hlt2 := at_lt HB2.out
        have ax := hsx.out _ (HT.out.trans HT2.out)
        have hx0 := (HS2.out.byte (o + i) (by omega))
        obtain ⟨z0, hz0, _⟩ := hx0
        have b0 : w2.cell? ⟨b, o + i, none⟩ = some (.int .u8 z0) := by rw [PS.cell HB2.out]; exact hz0
        have b1 := blk_free HB2.out (o + i)
        go_region
        have hb3 : (w2.setCell ⟨b, o + i, none⟩ (.int .u8 x)).drew.heap[b]? = some (.cells (cs2.set (o + i) (.int .u8 x)).toArray 36 (0, 0)) := put_cell HB2.out (o + i) (.int .u8 x)
        have ht3 : Turn b w (w2.setCell ⟨b, o + i, none⟩ (.int .u8 x)).drew := ((HT.out.trans HT2.out).trans (Turn.set w2 b (o + i) (.int .u8 x))).drew
        generalize (w2.setCell ⟨b, o + i, none⟩ (.int .u8 x)).drew = w3 at hb3 ht3 ⊢
        have d0 : w3.cell? ⟨b, 512 + (o + i), none⟩ = some (.bool ((A1.free ((o + i) / 8)).pl (o + i)).isSome) := by
          rw [PS.cell hb3, List.getElem?_set_ne (by omega)]
          exact HS2.out.set (o + i) (by omega)
        have d1 := blk_free hb3 (512 + (o + i))
        have hlt3 := at_lt hb3
        have HB3 := hide hb3
        have HT3 := hide ht3
        clear hb3 ht3 b0 b1 hz0 hlt2 ax
        go_wp2
        go_roundw
        case rel => exact ⟨i + 1, by omega, by go_num, ⟨_, put_cell HB3.out (512 + (o + i)) (.bool true), by rw [HA2.out, ← HA12.out]; exact put1_rsl HS2.out (by omega) HZ2.out x⟩, HT3.out.trans (Turn.set _ b (512 + (o + i)) (.bool true))⟩
        case measure => simp [intOf]; omega
    · have hie : i = q := by omega
      subst hie
      go_wp2
      have := HR.out
      rw [List.take_of_length_le (by omega)] at this
      exact bodyPost_end (results_none rfl _ _ _) rfl ⟨rfl, this, HT.out⟩
end Go.Proofs.Ytkpoilcbdcddcaa
