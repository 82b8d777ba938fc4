/-
  Names: what is a sign, what is a name, of the program and of the document.
-/
import Derived.Test.YtedjmgiblkjonaaA1
import Derived.Laws.IdiomStrings
namespace Go.Proofs.Ytedjmgiblkjonaa
open Go.RowKit
set_option linter.unusedVariables false

def signM (c : Int) : Bool := inI 97 122 c || inI 48 57 c || c == 95 || c == 46
def nameM (l : List UInt8) : Bool := inI 1 24 l.length && l.all fun c => signM c.toNat

theorem sign_any (c : Int) (w : World) : Calls Try.prog 29 #[.int .u8 c] w fun e w' => e = .returned (.bool (signM c)) ∧ Below w.heap.size w w' := by
  have hF := hide (fun lo hi w => from_byte lo hi w)
  have hA := hide (fun w => has_byte 97 122 c w)
  have hB := hide (fun w => has_byte 48 57 c w)
  unfold signM
  generalize inI 97 122 c = a at *
  generalize inI 48 57 c = b at *
  cases a
  all_goals cases b
  all_goals
    go_enter Try.func29, Try.ntmps29
    go_wp2_with (first
      | (go_at_call 56; (first | (with_reducible refine (Later.calls _ (hF.out _ _)).mono ?_) | (with_reducible refine (Later.calls0 (hF.out _ _)).mono ?_)); rintro e w1 ⟨rfl, x, rfl⟩)
      | (go_at_call 57; (first | (with_reducible refine (Later.calls _ hA.out).mono ?_) | (with_reducible refine (Later.calls _ hB.out).mono ?_)); rintro e w1 ⟨rfl, x, rfl⟩))
    all_goals
      go_ret
      exact ⟨by simp [*], Later.below _⟩

/-- What '[]byte(s)' leaves. -/
theorem bytes_new (s : ByteArray) (w : World) : ∃ W c, (convert 9 78 (.string s)).run Try.prog w = .ok (.slice (some ⟨w.heap.size, 0, none⟩) s.size c) W ∧ Below w.heap.size w W ∧ w.heap.size < W.heap.size ∧
    ∀ (k : Nat) (h : k < s.size), W.cell? ⟨w.heap.size, k, none⟩ = some (.int .u8 s[k].toNat) := by
  refine ⟨_, _, run_bytes_of_string w 9 78 5 s Try.underlying9 Try.underlying78 Try.underlying5, ((Below.refl _ w).drew).alloc (Nat.le_refl _) _, by simp, fun k h => ?_⟩
  have hb : (w.drew.alloc (.cells (bytesRow s (grownCap w s.size 0 5)) 5 ((bytesRow s (grownCap w s.size 0 5)).size, (bytesRow s (grownCap w s.size 0 5)).size + 1))).heap[w.heap.size]? = some (.cells (bytesRow s (grownCap w s.size 0 5)) 5 ((bytesRow s (grownCap w s.size 0 5)).size, (bytesRow s (grownCap w s.size 0 5)).size + 1)) := World.alloc_heap_new w.drew _
  rw [cell_of_row _ _ k _ _ _ hb]
  unfold bytesRow
  rw [Array.getElem?_append_left (by simpa using h)]
  simp [Array.getElem?_map]
  have : s.data[k]? = some s[k] := Array.getElem?_eq_getElem h
  rw [this]; exact ⟨_, rfl, rfl⟩
theorem all_take (f : UInt8 → Bool) (s : ByteArray) (k : Nat) (h : k < s.size) : (s.data.toList.take (k + 1)).all f = ((s.data.toList.take k).all f && f s[k]) := by
  rw [List.take_succ_eq_append_getElem (by simpa using h), List.all_append]
  simp; rfl
theorem all_stop (f : UInt8 → Bool) (s : ByteArray) (k : Nat) (h : k < s.size) (hf : f s[k] = false) : s.data.toList.all f = false := by
  rw [List.all_eq_false]
  refine ⟨s[k], ?_, by rw [hf]; decide⟩
  have h2 : k < s.data.toList.length := by simpa using h
  exact List.mem_of_getElem? (i := k) (by rw [List.getElem?_eq_getElem h2]; rfl)
set_option maxHeartbeats 1000000 in
theorem name_any (s : ByteArray) (w : World) (hs : s.size ≤ maxLen) : Calls Try.prog 10 #[.string s] w fun e w' => e = .returned (.bool (nameM s.data.toList)) ∧ Below w.heap.size w w' := by
  unfold maxLen at hs
  have hF := hide (fun lo hi w => from_int lo hi w)
  have hA := hide (fun w => has_int 1 24 s.size w)
  have hN : Hid (nameM s.data.toList = (inI 1 24 s.size && s.data.toList.all fun c => signM c.toNat)) := hide (by unfold nameM; simp)
  generalize inI 1 24 s.size = a at *
  cases a
  · skip
    go_enter Try.func10, Try.ntmps10
    go_wp2_with (first
      | (go_at_call 27; ((with_reducible refine (Later.calls0 (hF.out _ _)).mono ?_)); rintro e w1 ⟨rfl, x, rfl⟩)
      | (go_at_call 28; ((with_reducible refine (Later.calls _ hA.out).mono ?_)); rintro e w1 ⟨rfl, x, rfl⟩))
    go_ret
    exact ⟨by rw [hN.out]; simp, Later.below _⟩
  · skip
    have hcv := hide (fun w => bytes_new s w)
    go_enter Try.func10, Try.ntmps10
    go_wp2_with (first
      | (go_at_call 27; ((with_reducible refine (Later.calls0 (hF.out _ _)).mono ?_)); rintro e w1 ⟨rfl, x, rfl⟩)
      | (go_at_call 28; ((with_reducible refine (Later.calls _ hA.out).mono ?_)); rintro e w1 ⟨rfl, y, rfl⟩; obtain ⟨W1, c1, hr, hb, hz, hcell⟩ := hcv.out y.w; have HB := hide (y.below.trans (hb.mono y.below.size)); have HC := hide hcell; clear hb hcell))
    clear hr hA hF
    go_loopw [13] (fun i wr => ∃ k : Nat, k ≤ s.size ∧ i = .int .i64 k ∧ Below W1.heap.size W1 wr ∧ ((s.data.toList.take k).all fun c => signM c.toNat) = true) (fun i _ => s.size - (intOf i).toNat)
    case atStart => exact ⟨0, Nat.zero_le _, rfl, Below.refl _ _, by simp⟩
    case round =>
      obtain ⟨k, hk, rfl, hbw, hall⟩ := hrel
      have HALL := hide hall
      have HBW := hide hbw
      clear hall
      by_cases hlt : k < s.size
      · have hc := (hbw.cell (p := ⟨y.w.heap.size, k, none⟩) hz).trans (HC.out k hlt)
        have hS := hide (fun w => sign_any s[k].toNat w)
        clear hbw
        cases hsg : signM s[k].toNat
        · rw [hsg] at hS
          have HX : Hid (nameM s.data.toList = false) := hide (by rw [hN.out, all_stop _ s k hlt hsg]; simp)
          clear hsg
          go_wp2_with (go_at_call 29; ((with_reducible refine (hS.out _).mono ?_)); rintro e w1 ⟨rfl, hb2⟩; have HB2 := hide hb2; clear hb2)
          go_ret
          exact ⟨by rw [HX.out]; rfl, HB.out.trans ((HBW.out.trans (HB2.out.mono HBW.out.size)).mono HB.out.size)⟩
        · rw [hsg] at hS
          have HT := hide ((all_take (fun c => signM c.toNat) s k hlt).trans (by simp only [HALL.out, hsg]; rfl))
          clear hsg
          go_wp2_with (go_at_call 29; ((with_reducible refine (hS.out _).mono ?_)); rintro e w1 ⟨rfl, hb2⟩; have HB2 := hide hb2; clear hb2)
          go_roundw
          case rel => exact ⟨k + 1, by omega, by go_num, HBW.out.trans (HB2.out.mono HBW.out.size), HT.out⟩
          case measure => simp [intOf]; omega
      · have HX : Hid (nameM s.data.toList = true) := hide (by
          rw [hN.out]
          have := HALL.out
          rw [List.take_of_length_le (by simp; omega)] at this
          rw [this]; rfl)
        clear hbw
        go_wp2
        go_ret
        exact ⟨by rw [HX.out]; rfl, HB.out.trans (HBW.out.mono HB.out.size)⟩
set_option maxHeartbeats 1000000 in
theorem rname_any (s : ByteArray) (w : World) (hs : s.size ≤ maxLen) : Calls Try.prog 11 #[.string s] w fun e w' => e = .returned (.bool (nameM s.data.toList)) ∧ w = w' := by
  unfold maxLen at hs
  have hN : Hid (nameM s.data.toList = (inI 1 24 s.size && s.data.toList.all fun c => signM c.toNat)) := hide (by unfold nameM; simp)
  go_enter Try.func11, Try.ntmps11
  go_wp2
  go_loop [3] (fun i => ∃ k : Nat, k ≤ s.size ∧ i = .int .i64 k ∧ ((s.data.toList.take k).all fun c => signM c.toNat) = true) (fun i => s.size - (intOf i).toNat)
  case atStart => exact ⟨0, Nat.zero_le _, rfl, by simp⟩
  case round =>
    obtain ⟨k, hk, rfl, hall⟩ := hrel
    have HALL := hide hall
    clear hall
    by_cases hlt : k < s.size
    · cases hsg : signM s[k].toNat
      · have HX : Hid (nameM s.data.toList = false) := hide (by rw [hN.out, all_stop _ s k hlt hsg]; simp)
        have HG := hide hsg
        clear hsg
        go_wp2
        all_goals first
          | (go_ret; exact ⟨by rw [HX.out]; rfl, rfl⟩)
          | (exfalso; have := HG.out; simp only [Bool.not_eq_eq_eq_not, Bool.not_false, beq_iff_eq] at *; simp [signM, inI] at this; omega)
      · have HT := hide ((all_take (fun c => signM c.toNat) s k hlt).trans (by simp only [HALL.out, hsg]; rfl))
        have HG := hide hsg
        clear hsg
        go_wp2
        all_goals first
          | (exfalso; have := HG.out; simp only [Bool.not_eq_eq_eq_not, Bool.not_true, Bool.not_false, beq_iff_eq, beq_eq_false_iff_ne, ne_eq] at *; simp [signM, inI] at this; omega)
          | (go_round
             case rel => exact ⟨k + 1, by omega, by go_num, HT.out⟩
             case measure => simp [intOf]; omega)
    · have HX : Hid (nameM s.data.toList = inI 1 24 s.size) := hide (by
          rw [hN.out]
          have := HALL.out
          rw [List.take_of_length_le (by simp; omega)] at this
          rw [this]; simp)
      go_wp2
      all_goals
        go_ret
        exact ⟨by rw [HX.out]; simp [inI, *] <;> omega, rfl⟩
def numberM (n : Int) : Bool := inI 1 1073741824 n
def versionM (a b : Int) : Bool := inI 0 65535 a && inI 0 65535 b
theorem number_any (n : Int) (w : World) : Calls Try.prog 38 #[.int .i64 n] w fun e w' => e = .returned (.bool (numberM n)) ∧ w = w' := by
  have hA := hide (fun w => within_any n 1 1073741824 w)
  unfold numberM
  generalize inI 1 1073741824 n = a at *
  go_enter Try.func38, Try.ntmps38
  go_wp2_with (go_at_call 32; ((with_reducible refine (hA.out _).mono ?_)); rintro e w1 ⟨rfl, rfl⟩)
  go_ret
  exact ⟨rfl, rfl⟩
theorem version_any (n m : Int) (w : World) : Calls Try.prog 39 #[.int .i64 n, .int .i64 m] w fun e w' => e = .returned (.bool (versionM n m)) ∧ w = w' := by
  have hA := hide (fun w => within_any n 0 65535 w)
  have hB := hide (fun w => within_any m 0 65535 w)
  unfold versionM
  generalize inI 0 65535 n = a at *
  generalize inI 0 65535 m = b at *
  cases a
  all_goals
    go_enter Try.func39, Try.ntmps39
    go_wp2_with (go_at_call 32; (first | (with_reducible refine (hA.out _).mono ?_) | (with_reducible refine (hB.out _).mono ?_)); rintro e w1 ⟨rfl, rfl⟩)
    go_ret
    exact ⟨by simp, rfl⟩
theorem numbered_any (n a b : Int) (w : World) : Calls Try.prog 34 #[.int .i64 n, .int .i64 a, .int .i64 b] w fun e w' => e = .returned (.bool (numberM n && versionM a b)) ∧ Below w.heap.size w w' := by
  have hF := hide (fun lo hi w => from_int lo hi w)
  have hA := hide (fun w => has_int 1 1073741824 n w)
  have hB := hide (fun w => has_int 0 65535 a w)
  have hC := hide (fun w => has_int 0 65535 b w)
  unfold numberM versionM
  generalize inI 1 1073741824 n = x at *
  generalize inI 0 65535 a = y at *
  generalize inI 0 65535 b = z at *
  cases x
  all_goals cases y
  all_goals
    go_enter Try.func34, Try.ntmps34
    go_wp2_with fail
    (with_reducible refine (Later.calls0 (hF.out _ _)).mono ?_)
    rintro e w1 ⟨rfl, x, rfl⟩
    obtain ⟨c0, c1⟩ := later2 (World.alloc_heap_new x.w (.cells #[.int .i64 0, .int .i64 65535] 75))
    go_wp2_with (first
      | (go_at_call 27; ((with_reducible refine (Later.calls0 (hF.out _ _)).mono ?_)); rintro e w1 ⟨rfl, y, rfl⟩)
      | (go_at_call 28; (first | (with_reducible refine (Later.calls _ hA.out).mono ?_) | (with_reducible refine (Later.calls _ hB.out).mono ?_) | (with_reducible refine (Later.calls _ hC.out).mono ?_)); rintro e w1 ⟨rfl, y, rfl⟩))
    go_ret
    exact ⟨by simp, (Later.below _).trans ((below1c (Later.below _)).mono (Later.below _).size)⟩
end Go.Proofs.Ytedjmgiblkjonaa
