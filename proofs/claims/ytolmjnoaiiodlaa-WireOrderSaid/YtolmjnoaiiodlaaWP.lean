/-
  A tree's bytes: its head, and all of it.
-/
import Derived.Test.YtolmjnoaiiodlaaWH
namespace Go.Proofs.Ytolmjnoaiiodlaa
open Go.RowKit Go.Maps Forest
set_option linter.unusedVariables false

theorem u8info : (Try.prog.info? 5).map (fun i => (i.zero, i.size, i.bytes)) = some (some (.int .u8 0), 1, 1) := by kernel_rfl
/-- The row has grown; nothing else that was there has turned. -/
structure Grows (w : World) (v : Value) (w' : World) (v' : Value) : Prop where
  kept : Kept (fun g => v.ownBlock ≠ some g) w w'
  own : ∀ g, v'.ownBlock = some g → v.ownBlock = some g ∨ w.heap.size ≤ g
theorem Grows.refl (w : World) (v : Value) : Grows w v w v := ⟨Kept.refl _ _, fun _ h => .inl h⟩
theorem Grows.trans {w w1 w2 : World} {v v1 v2 : Value} (h : Grows w v w1 v1) (k : Grows w1 v1 w2 v2) : Grows w v w2 v2 := by
  refine ⟨⟨k.kept.os.trans h.kept.os, k.kept.tape.trans h.kept.tape, k.kept.output.trans h.kept.output, Nat.le_trans h.kept.size k.kept.size, fun j hj hF => ?_⟩, fun g hg => ?_⟩
  · refine (k.kept.block j (Nat.lt_of_lt_of_le hj h.kept.size) (fun e => ?_)).trans (h.kept.block j hj hF)
    rcases h.own j e with e1 | e1
    · exact hF e1
    · omega
  · rcases k.own g hg with e | e
    · exact h.own g e
    · exact .inr (Nat.le_trans h.kept.size e)
theorem Grows.later {w w1 : World} (v : Value) (h : Below w.heap.size w w1) : Grows w v w1 v := ⟨⟨h.os, h.tape, h.output, h.size, fun j hj _ => h.block j hj⟩, fun _ h => .inl h⟩
theorem app_own {W w' : World} {n m : Nat} {v v' : Value} {l d : List Int} (hg : Grown2 W w' 5 1 v v' n m (u8s l ++ u8s d)) : w'.ownsRow 0 5 1 v' (n + m) (u8s (l ++ d)) ∧ Grows W v w' v' := by
  obtain ⟨hk, hv⟩ := grown2_kept hg
  refine ⟨?_, hk, fun g hg' => ?_⟩
  · have := hg.1
    rw [← (show u8s (l ++ d) = u8s l ++ u8s d by simp [u8s])] at this
    exact this
  · rcases hv with e | e
    · exact .inl (e ▸ hg')
    · rw [e] at hg'
      injection hg' with hg'
      exact .inr (by omega)
/-- The highest of v's lowest k bytes first. -/
def beB : Nat → Nat → List Int
  | 0, _ => []
  | k + 1, v => ((v / 2 ^ (8 * k) % 256 : Nat) : Int) :: beB k v
def headB (c : Nat) (v : Nat) : List Int := if v ≤ 55 then [((c * 64 + v : Nat) : Int)] else ((c * 64 + (55 + bytesM v) : Nat) : Int) :: beB (bytesM v) v
theorem beB_length (k v : Nat) : (beB k v).length = k := by
  induction k with
  | zero => rfl
  | succ k ih => simp [beB, ih]
theorem headB_length (c : Nat) (v : Nat) : (headB c v).length = headM v := by
  unfold headB headM
  split
  · rfl
  · simp [beB_length]; omega
theorem or_head (c : Nat) (x : Nat) (hc : c < 3) (hx : x < 64) : bits BinOp.or IntKind.u8 ((c : Int) * 64) (x : Int) = ((c * 64 + x : Nat) : Int) := by
  rw [show (c : Int) * 64 = ((c * 64 : Nat) : Int) by omega]
  have h := u8_or_nat (c * 64) x (by omega) (by omega)
  rw [h]
  have : ∀ c, c < 3 → ∀ x, x < 64 → (c * 64 ||| x) = c * 64 + x := by decide
  rw [this c hc x hx]
set_option maxRecDepth 100000 in
set_option maxHeartbeats 2000000 in
theorem putHead_any (A : Option Addr) (n cc : Nat) (l : List Int) (c v : Nat) (w : World) (h : w.ownsRow 0 5 1 (.slice A n cc) n (u8s l)) (hn : n ≤ 1000000000) (hc : c < 3) (hv : v < 18446744073709551616) :
    Calls Try.prog 36 #[.slice A n cc, .int .u8 (c : Int), .int .u64 v] w fun e w' => ∃ u, e = .returned u ∧ w'.ownsRow 0 5 1 u (n + headM v) (u8s (l ++ headB c v)) ∧ Grows w (.slice A n cc) w' u := by
  have HO := hide h
  have HBY := hide (fun W => bytesOf_any v W hv)
  have hbl := bytesM_le v
  have hsl : IntKind.u8.wrap ((c : Int) * 64) = ((c * 64 : Nat) : Int) := by
    have : ∀ c, c < 3 → IntKind.u8.wrap ((c : Nat) * 64) = ((c * 64 : Nat) : Int) := by decide
    exact this c hc
  obtain ⟨i5, hi, hz0, hz1, hz2⟩ := info_parts u8info
  have HI := hide hi
  have HZ := hide (And.intro hz0 (And.intro hz1 hz2))
  clear h hi hz0 hz1 hz2
  by_cases h55 : v ≤ 55
  · have hor := or_head c v hc (by omega)
    have hwv : IntKind.u8.wrap (v : Int) = v := by simp [IntKind.wrap, IntKind.bits, IntKind.signed]; omega
    go_enter Try.func36, Try.ntmps36
    go_wp2_with (at_builtin; refine stop_here ?_)
    show Hid _
    refine start_here ?_
    refine wpList_append_two _ rfl (.tmp 14) (.tmp 19) 23 rfl 5 i5 _ 1 1 Try.underlying23 HI.out HZ.out.1 HZ.out.2.1 HZ.out.2.2 rfl (by decide) _ n (u8s l) rfl (HO.out.alloc _) ⟨w.heap.size, 0, none⟩ 1 1 (u8s [((c * 64 + v : Nat) : Int)]) rfl rfl (cells_new w _ 5) (u8s_one _) (by decide) (by simp only [maxLen]; omega) (by omega) ?_
    intro u w3 hg
    obtain ⟨hu, hb⟩ := app_own hg
    have HU := hide hu
    have HB := hide ((Grows.later _ (below1 w (.cells (u8s [((c * 64 + v : Nat) : Int)]).toArray 5))).trans hb)
    have hm : headM v = 1 := by unfold headM; rw [if_pos h55]
    have hd : headB c v = [((c * 64 + v : Nat) : Int)] := by unfold headB; rw [if_pos h55]
    have HM := hide hm
    have HD := hide hd
    clear hu hb hg hm hd
    go_wp2_with fail
    go_ret
    exact ⟨_, rfl, by rw [HM.out, HD.out]; exact HU.out, HB.out⟩
  · have hv55 : 55 < v := by omega
    have hw1 : IntKind.i64.wrap (55 + ((bytesM v : Nat) : Int)) = ((55 + bytesM v : Nat) : Int) := by rw [IntWalk.i64_in _ (by omega)]; omega
    have hw2 : IntKind.u8.wrap ((55 + bytesM v : Nat) : Int) = ((55 + bytesM v : Nat) : Int) := by simp [IntKind.wrap, IntKind.bits, IntKind.signed]; omega
    have hor := or_head c (55 + bytesM v) hc (by omega)
    rw [show ((55 + bytesM v : Nat) : Int) = 55 + ((bytesM v : Nat) : Int) by omega] at hor hw1 hw2
    obtain ⟨b, hb⟩ : ∃ b, b = bytesM v := ⟨_, rfl⟩
    rw [← hb] at hw1 hw2 hor hbl HBY
    have HBM := hide hb
    have hdec : decide ((v : Int) ≤ 55) = false := by simp; omega
    clear hb h55
    go_enter Try.func36, Try.ntmps36
    go_wp2_with fail
    refine (HBY.out w).mono ?_
    rintro e w' ⟨rfl, rfl⟩
    go_wp2_with (at_builtin; refine stop_here ?_)
    show Hid _
    refine start_here ?_
    refine wpList_append_two _ rfl (.tmp 23) (.tmp 29) 23 rfl 5 i5 _ 1 1 Try.underlying23 HI.out HZ.out.1 HZ.out.2.1 HZ.out.2.2 rfl (by decide) _ n (u8s l) rfl (HO.out.alloc _) ⟨w.heap.size, 0, none⟩ 1 1 (u8s [((c * 64 + (55 + b) : Nat) : Int)]) rfl rfl (cells_new w _ 5) (u8s_one _) (by decide) (by simp only [maxLen]; omega) (by omega) ?_
    intro u w3 hg
    obtain ⟨hu, hb⟩ := app_own hg
    have HU := hide hu
    have HB := hide ((Grows.later _ (below1 w (.cells (u8s [((c * 64 + (55 + b) : Nat) : Int)]).toArray 5))).trans hb)
    clear hu hb hg
    go_wp2_with fail
    go_loopw [0, 9] (fun s i wr => ∃ (j : Nat) (d : List Int), i = .int .i64 ((j : Int) - 1) ∧ j ≤ b ∧ d ++ beB j v = beB b v ∧ wr.ownsRow 0 5 1 s (n + 1 + (b - j)) (u8s (l ++ [((c * 64 + (55 + b) : Nat) : Int)] ++ d)) ∧ Grows w (.slice A n cc) wr s) (fun _ i _ => (intOf i + 1).toNat)
    case atStart => exact ⟨b, [], rfl, Nat.le_refl _, rfl, by simpa using HU.out, HB.out⟩
    case round =>
      obtain ⟨j, d, rfl, hj, hd, ho, hb⟩ := hrel
      have HD := hide hd
      have HOW := hide ho
      have HBW := hide hb
      obtain ⟨Aw, cw, hu, _⟩ := owns_slice ho
      subst hu
      clear hd ho hb
      cases j with
      | zero =>
        go_wp2_with fail
        go_ret
        refine ⟨_, rfl, ?_, HBW.out⟩
        have h1 : headM v = 1 + b := by unfold headM; rw [if_neg (by omega), HBM.out]
        have h2 : headB c v = ((c * 64 + (55 + b) : Nat) : Int) :: beB b v := by unfold headB; rw [if_neg (by omega), ← HBM.out]
        have h3 := HD.out
        simp only [beB, List.append_nil] at h3
        have h4 := HOW.out
        show wr.ownsRow 0 5 1 (.slice Aw (n + 1 + (b - 0)) cw) (n + headM v) (u8s (l ++ headB c v))
        rw [h3, List.append_assoc, List.singleton_append, ← h2] at h4
        rw [show n + 1 + (b - 0) = n + headM v by omega] at h4 ⊢
        exact h4
      | succ i =>
        have e1 : ((i + 1 : Nat) : Int) - 1 = i := by omega
        go_wp2_with (at_builtin; refine stop_here ?_)
        show Hid _
        refine start_here ?_
        rw [show (v : Int) / 2 ^ (8 * i) % 256 = ((v / 2 ^ (8 * i) % 256 : Nat) : Int) by simp]
        refine wpList_append_two _ rfl (.tmp 37) (.tmp 43) 23 rfl 5 i5 _ 1 1 Try.underlying23 HI.out HZ.out.1 HZ.out.2.1 HZ.out.2.2 rfl (by decide) _ (n + 1 + (b - (i + 1))) _ rfl (HOW.out.alloc _) ⟨wr.heap.size, 0, none⟩ 1 1 (u8s [((v / 2 ^ (8 * i) % 256 : Nat) : Int)]) rfl rfl (cells_new wr _ 5) (u8s_one _) (by decide) (by simp only [maxLen]; omega) (by omega) ?_
        intro u w5 hg
        obtain ⟨hu, hb⟩ := app_own hg
        have HU5 := hide hu
        have HB5 := hide (HBW.out.trans ((Grows.later _ (below1 wr (.cells (u8s [((v / 2 ^ (8 * i) % 256 : Nat) : Int)]).toArray 5))).trans hb))
        clear hu hb hg
        go_wp2_with fail
        go_roundw
        case rel => exact ⟨i, d ++ [((v / 2 ^ (8 * i) % 256 : Nat) : Int)], by first | rfl | go_num, by omega, by have := HD.out; simp only [beB] at this; rw [List.append_assoc]; exact this, by have := HU5.out; rw [List.append_assoc] at this; rw [show n + 1 + (b - i) = n + 1 + (b - (i + 1)) + 1 by omega]; exact this, HB5.out⟩
        case measure => first | (simp [intOf]; done) | (simp [intOf]; omega)
end Go.Proofs.Ytolmjnoaiiodlaa
