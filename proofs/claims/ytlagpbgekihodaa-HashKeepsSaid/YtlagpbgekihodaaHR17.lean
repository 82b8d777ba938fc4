/-
  Rows of bytes that are the same are found to be so; what the chapter's example comes to.
-/
import Derived.Test.YtlagpbgekihodaaHR16
namespace Go.Proofs.Ytlagpbgekihodaa
open Go.RowKit Go.Maps
set_option linter.unusedVariables false

structure SL where
  A : Option Addr
  n : Nat
  c : Nat
def SL.v (s : SL) : Value := .slice s.A s.n s.c
/-- n rows of bytes read as ls. -/
structure RowsRd (w : World) (B : Nat) (A : Option Addr) (n : Nat) (ls : List (List Int)) (vs : List SL) : Prop where
  len : ls.length = n
  lev : vs.length = n
  rd : Rd w B 1 A n (vs.map SL.v)
  each : ∀ (i : Nat) (s : SL) (l : List Int), vs[i]? = some s → ls[i]? = some l → s.n = l.length ∧ Rd w B 1 s.A s.n (u8s l)
theorem RowsRd.below {w w' : World} {B n : Nat} {A : Option Addr} {ls : List (List Int)} {vs : List SL} (h : RowsRd w B A n ls vs) (hb : Below B w w') : RowsRd w' B A n ls vs :=
  ⟨h.len, h.lev, h.rd.below hb, fun i s l hi hl => ⟨(h.each i s l hi hl).1, (h.each i s l hi hl).2.below hb⟩⟩
set_option maxRecDepth 100000 in
set_option maxHeartbeats 1000000 in
theorem sameRows_yes (A A' : Option Addr) (n c c' B : Nat) (ls : List (List Int)) (vs vs' : List SL) (w : World) (h : RowsRd w B A n ls vs) (h' : RowsRd w B A' n ls vs') (hB : B ≤ w.heap.size) (hn : n ≤ 1000000) (hl : ∀ l ∈ ls, l.length ≤ 1000000) :
    Calls Try.prog 15 #[.slice A n c, .slice A' n c'] w fun e w' => e = .returned (.bool true) ∧ Below w.heap.size w w' := by
  have H := hide h
  have H' := hide h'
  have HL := hide hl
  clear h h' hl
  go_enter Try.func15, Try.ntmps15
  go_wp2
  go_loopw [5] (fun p wr => ∃ k : Nat, k ≤ n ∧ p = .int .i64 k ∧ Below w.heap.size w wr) (fun p _ => n - (intOf p).toNat)
  case atStart => exact ⟨0, Nat.zero_le _, rfl, Below.refl _ _⟩
  case round =>
    obtain ⟨k, hk, rfl, hb⟩ := hrel
    by_cases hlt : k < n
    · have h1 := H.out.below (hb.mono hB)
      have h2 := H'.out.below (hb.mono hB)
      obtain ⟨ad, rfl, _, hc⟩ := h1.rd.2 (by omega)
      obtain ⟨ad', rfl, _, hc'⟩ := h2.rd.2 (by omega)
      obtain ⟨s, hs⟩ : ∃ s, vs[k]? = some s := ⟨vs[k]'(by rw [h1.lev]; exact hlt), List.getElem?_eq_getElem _⟩
      obtain ⟨s', hs'⟩ : ∃ s, vs'[k]? = some s := ⟨vs'[k]'(by rw [h2.lev]; exact hlt), List.getElem?_eq_getElem _⟩
      obtain ⟨l, hl⟩ : ∃ l, ls[k]? = some l := ⟨ls[k]'(by rw [h1.len]; exact hlt), List.getElem?_eq_getElem _⟩
      have q1 : wr.cell? (ad.add k) = some (.slice s.A s.n s.c) := hc k _ (by rw [List.getElem?_map, hs]; rfl)
      have q2 : wr.cell? (ad'.add k) = some (.slice s'.A s'.n s'.c) := hc' k _ (by rw [List.getElem?_map, hs']; rfl)
      obtain ⟨e1, r1⟩ := h1.each k s l hs hl
      obtain ⟨e2, r2⟩ := h2.each k s' l hs' hl
      have hll := HL.out l (List.mem_of_getElem? hl)
      obtain ⟨sA, sn, sc⟩ := s
      obtain ⟨tA, tn, tc⟩ := s'
      simp only at q1 q2 e1 e2 r1 r2
      subst e1
      subst e2
      have HC := hide (sameBytes_yes sA tA l.length sc tc B l wr.drew (r1.mono (Nat.le_refl _)) (r2.mono (Nat.le_refl _)) (Nat.le_trans hB hb.size) hll)
      have HBB := hide hb
      have k0 : (0 : Int) ≤ (k : Int) := by omega
      have k1 : (k : Int) < (n : Int) := by omega
      clear h1 h2 hc hc' hs hs' hl r1 r2 hb
      generalize l.length = ln at *
      go_wp2
      refine wp_region_still_tail 8 (by kernel_rfl) (by kernel_rfl) ?_
      simp only [List.take_succ_cons, List.take_zero, List.drop_succ_cons, List.drop_zero]
      repeat still_step
      refine wpStill_nil ?_
      go_wp2_with (go_at_call 41; refine HC.out.mono ?_; rintro e w2 ⟨rfl, hb⟩; have HB2 := hide hb; clear hb)
      go_roundw
      case rel => exact ⟨k + 1, by omega, by go_num, HBB.out.trans ((Below.refl _ wr).drew |>.mono HBB.out.size |>.trans (HB2.out.mono HBB.out.size))⟩
      case measure => simp [intOf]; omega
    · obtain rfl : k = n := by omega
      go_wp2
      go_ret
      exact ⟨rfl, hb⟩
/-- The example's places. -/
def exP (A : Option Addr) (c : Nat) (x : Int) (k : Option (List UInt8)) : HS := ⟨A, c, [x], k⟩
theorem ex_new (s : Nat) : zHSs s 1 2 = [exP (some ⟨s + 0, 0, none⟩) 1 0 none, exP (some ⟨s + 1, 0, none⟩) 1 0 none] := rfl
section
variable (A A' : Option Addr) (c c' : Nat)
theorem ex_1 : updE 1 1 1 1 [exP A c 0 none, exP A' c' 0 none] (kb [98]) 0 = 0 ∧ updL 1 1 1 1 [exP A c 0 none, exP A' c' 0 none] (kb [98]) 0 [120] = [exP A c 120 (some [98]), exP A' c' 0 none] := ⟨rfl, rfl⟩
theorem ex_2 : updE 1 1 1 1 [exP A c 120 (some [98]), exP A' c' 0 none] (kb [97]) 0 = 0 ∧ updL 1 1 1 1 [exP A c 120 (some [98]), exP A' c' 0 none] (kb [97]) 0 [121] = [exP A c 120 (some [98]), exP A' c' 121 (some [97])] := ⟨rfl, rfl⟩
theorem ex_3 : lookE 1 1 [exP A c 120 (some [98]), exP A' c' 121 (some [97])] (kb [97]) = (1, 0) := rfl
theorem ex_4 : keysM [exP A c 120 (some [98]), exP A' c' 121 (some [97])] = [[97], [98]] := by
  have e : ([exP A c 120 (some [98]), exP A' c' 121 (some [97])].filterMap (·.key)) = [[98], [97]] := rfl
  unfold keysM
  rw [e, Go.mergeSort_of_perm (show ([[98], [97]] : List (List UInt8)).Perm [[97], [98]] from List.Perm.swap _ _ _)]
  exact List.mergeSort_of_pairwise (by simp [leB]; decide)
theorem ex_5 : updE 1 1 1 1 [exP A c 120 (some [98]), exP A' c' 121 (some [97])] (kb [99]) 0 = 8 := rfl
theorem ex_6 : delE 1 1 [exP A c 120 (some [98]), exP A' c' 121 (some [97])] (kb [98]) = 0 ∧ delL 1 1 [exP A c 120 (some [98]), exP A' c' 121 (some [97])] (kb [98]) = [exP A c 120 none, exP A' c' 121 (some [97])] := ⟨rfl, rfl⟩
theorem ex_7 : updE 1 1 1 1 [exP A c 120 none, exP A' c' 121 (some [97])] (kb [99]) 1 = 0 ∧ updL 1 1 1 1 [exP A c 120 none, exP A' c' 121 (some [97])] (kb [99]) 1 [122] = [exP A c 122 (some [99]), exP A' c' 121 (some [97])] := ⟨rfl, rfl⟩
theorem ex_8 : lookE 1 1 [exP A c 122 (some [99]), exP A' c' 121 (some [97])] (kb [99]) = (0, 0) := rfl
theorem ex_9 : updE 1 1 1 1 [exP A c 122 (some [99]), exP A' c' 121 (some [97])] (kb [98]) 2 = 6 := rfl
end
end Go.Proofs.Ytlagpbgekihodaa
