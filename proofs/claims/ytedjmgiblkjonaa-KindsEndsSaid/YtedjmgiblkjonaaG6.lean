/-
  KindsEnds, walked: its first loops.
-/
import Derived.Test.YtedjmgiblkjonaaG5
import Derived.Test.YtedjmgiblkjonaaD6
import Derived.Deep.RegionHeld3
namespace Go.Proofs.Ytedjmgiblkjonaa
open Go.RowKit Go.Maps
set_option linter.unusedVariables false

theorem lit_cell {W : World} {b : Nat} {cs : List Value} {t : TypeId} (h : W.heap[b]? = some (.cells cs.toArray t (0, 0))) {Q : Value → Prop} (hq : ∀ u ∈ cs, Q u) {n : Nat} (hn : n < cs.length) : ∃ u, W.cell? ⟨b, n, none⟩ = some u ∧ Q u := by
  refine ⟨cs[n], ?_, hq _ (List.getElem_mem _)⟩
  rw [cell_of_row W b n cs.toArray t (0, 0) h]
  simp [List.getElem?_eq_getElem hn]
def IsI64 (u : Value) : Prop := ∃ v : Int, u = .int .i64 v
def numsL : List Value := [.int .i64 (-1), .int .i64 0, .int .i64 1, .int .i64 3, .int .i64 4, .int .i64 5, .int .i64 8, .int .i64 9, .int .i64 15, .int .i64 16, .int .i64 36, .int .i64 37, .int .i64 64, .int .i64 65, .int .i64 1024, .int .i64 1025, .int .i64 16384, .int .i64 16385, .int .i64 9223372036854775807, .int .i64 (-9223372036854775808)]
theorem nums_are : ∀ u ∈ numsL, IsI64 u := by
  intro u hu
  simp only [numsL, List.mem_cons, List.not_mem_nil, or_false] at hu
  rcases hu with rfl | rfl | rfl | rfl | rfl | rfl | rfl | rfl | rfl | rfl | rfl | rfl | rfl | rfl | rfl | rfl | rfl | rfl | rfl | rfl <;> exact ⟨_, rfl⟩
theorem u8_small (k : Nat) (h : k < 200) : IntKind.u8.wrap (k : Int) = (k : Int) := by
  simp [IntKind.wrap, IntKind.bits, IntKind.signed]
  omega
def allocs (w : World) (os : List Obj) : World := os.foldl World.alloc w
theorem allocs_size : ∀ (os : List Obj) (w : World), (allocs w os).heap.size = w.heap.size + os.length
  | [], w => rfl
  | o :: os, w => by
    show (allocs (w.alloc o) os).heap.size = _
    rw [allocs_size os, World.size_alloc, List.length_cons]
    omega
theorem allocs_below : ∀ (os : List Obj) (w : World), Below w.heap.size w (allocs w os)
  | [], w => Below.refl _ _
  | o :: os, w => (below1 w o).trans ((allocs_below os (w.alloc o)).mono (by simp))
theorem allocs_get : ∀ (os : List Obj) (w : World) (j : Nat) (o : Obj), os[j]? = some o → (allocs w os).heap[w.heap.size + j]? = some o
  | [], w, j, o, h => by simp at h
  | o' :: os, w, 0, o, h => by
    simp at h
    subst h
    exact ((allocs_below os (w.alloc o')).block _ (by simp)).trans (World.alloc_heap_new w o')
  | o' :: os, w, j + 1, o, h => by
    have := allocs_get os (w.alloc o') j o (by simpa using h)
    rw [World.size_alloc] at this
    rw [show w.heap.size + (j + 1) = w.heap.size + 1 + j by omega]
    exact this
def mapsLs : List (List Int) := [[1], [1, 2, 4], [5, 6], [7], [8], [1, 8], [2, 1], [0], [9], [1, 1]]
def rowL (g : Nat) : List Value := [.slice none 0 0, .slice (some ⟨g, 0, none⟩) 1 1, .slice (some ⟨g + 1, 0, none⟩) 3 3, .slice (some ⟨g + 1 + 1, 0, none⟩) 2 2, .slice (some ⟨g + 1 + 1 + 1, 0, none⟩) 1 1, .slice (some ⟨g + 1 + 1 + 1 + 1, 0, none⟩) 1 1, .slice (some ⟨g + 1 + 1 + 1 + 1 + 1, 0, none⟩) 2 2, .slice (some ⟨g + 1 + 1 + 1 + 1 + 1 + 1, 0, none⟩) 2 2, .slice (some ⟨g + 1 + 1 + 1 + 1 + 1 + 1 + 1, 0, none⟩) 1 1, .slice (some ⟨g + 1 + 1 + 1 + 1 + 1 + 1 + 1 + 1, 0, none⟩) 1 1, .slice (some ⟨g + 1 + 1 + 1 + 1 + 1 + 1 + 1 + 1 + 1, 0, none⟩) 2 2]
def retsL : List Value := [.int .u8 0, .int .i64 0, .int .i64 0, .int .i64 0, .int .u8 1, .int .i64 0, .int .i64 0, .int .i64 0, .int .u8 1, .int .i64 1, .int .i64 0, .int .i64 0, .int .u8 1, .int .i64 0, .int .i64 0, .int .i64 1, .int .u8 2, .int .i64 0, .int .i64 0, .int .i64 0, .int .u8 2, .int .i64 0, .int .i64 1, .int .i64 0, .int .u8 3, .int .i64 0, .int .i64 0, .int .i64 0, .int .u8 3, .int .i64 0, .int .i64 0, .int .i64 1, .int .u8 3, .int .i64 0, .int .i64 0, .int .i64 1024, .int .u8 3, .int .i64 0, .int .i64 0, .int .i64 1025, .int .u8 4, .int .i64 0, .int .i64 0, .int .i64 0]
def litOs (g : Nat) : List Obj := mapsLs.map (fun l => .cells (mks l).toArray 22) ++ [.cells (rowL g).toArray 41, .cells retsL.toArray 30]
def MapAt (W : World) (p : Addr) : Prop := ∃ A l, W.cell? p = some (.slice A l.length l.length) ∧ Rd W W.heap.size 1 A l.length (mks l) ∧ l.length ≤ 3 ∧ ∀ x ∈ l, 0 ≤ x ∧ x < 256
theorem map_at (w : World) (m : Nat) (hm : m < 11) : MapAt (allocs w (litOs w.heap.size)) ⟨w.heap.size + 10, m, none⟩ := by
  have hrow : (allocs w (litOs w.heap.size)).heap[w.heap.size + 10]? = some (.cells (rowL w.heap.size).toArray 41 (0, 0)) := allocs_get _ _ 10 _ rfl
  have hcell := blk_cell hrow m
  have gen : ∀ (j : Nat) (l : List Int), mapsLs[j]? = some l → (allocs w (litOs w.heap.size)).heap[w.heap.size + j]? = some (.cells (mks l).toArray 22 (0, 0)) := by
    intro j l h
    refine allocs_get _ _ j _ ?_
    unfold litOs
    have hj : j < mapsLs.length := (List.getElem?_eq_some_iff.1 h).1
    rw [List.getElem?_append_left (by simpa using hj), List.getElem?_map, h]
    rfl
  have fin : ∀ (j : Nat) (l : List Int), mapsLs[j]? = some l → l.length ≤ 3 → (∀ x ∈ l, 0 ≤ x ∧ x < 256) → (rowL w.heap.size).toArray[m]? = some (.slice (some ⟨w.heap.size + j, 0, none⟩) l.length l.length) → MapAt (allocs w (litOs w.heap.size)) ⟨w.heap.size + 10, m, none⟩ := by
    intro j l h h3 hr hc
    refine ⟨some ⟨w.heap.size + j, 0, none⟩, l, hcell.trans hc, ?_, h3, hr⟩
    have := blk_rd (gen j l h)
    simpa [mks] using this
  have h11 : m = 0 ∨ m = 1 ∨ m = 2 ∨ m = 3 ∨ m = 4 ∨ m = 5 ∨ m = 6 ∨ m = 7 ∨ m = 8 ∨ m = 9 ∨ m = 10 := by omega
  rcases h11 with rfl | rfl | rfl | rfl | rfl | rfl | rfl | rfl | rfl | rfl | rfl
  · exact ⟨none, [], hcell, Rd.nil, by simp, by simp⟩
  · exact fin 0 [1] rfl (by decide) (by decide) rfl
  · exact fin 1 [1, 2, 4] rfl (by decide) (by decide) rfl
  · exact fin 2 [5, 6] rfl (by decide) (by decide) rfl
  · exact fin 3 [7] rfl (by decide) (by decide) rfl
  · exact fin 4 [8] rfl (by decide) (by decide) rfl
  · exact fin 5 [1, 8] rfl (by decide) (by decide) rfl
  · exact fin 6 [2, 1] rfl (by decide) (by decide) rfl
  · exact fin 7 [0] rfl (by decide) (by decide) rfl
  · exact fin 8 [9] rfl (by decide) (by decide) rfl
  · exact fin 9 [1, 1] rfl (by decide) (by decide) rfl
def RetAt (W : World) (g r : Nat) : Prop := ∃ k lo hi sz, W.cell? ⟨g, r * 4, none⟩ = some (.int .u8 k) ∧ W.cell? ⟨g, r * 4 + 1, none⟩ = some (.int .i64 lo) ∧ W.cell? ⟨g, r * 4 + 2, none⟩ = some (.int .i64 hi) ∧ W.cell? ⟨g, r * 4 + 3, none⟩ = some (.int .i64 sz)
theorem ret_at (w : World) (r : Nat) (hr : r < 11) : RetAt (allocs w (litOs w.heap.size)) (w.heap.size + 11) r := by
  have hrow : (allocs w (litOs w.heap.size)).heap[w.heap.size + 11]? = some (.cells retsL.toArray 30 (0, 0)) := allocs_get _ _ 11 _ rfl
  have h11 : r = 0 ∨ r = 1 ∨ r = 2 ∨ r = 3 ∨ r = 4 ∨ r = 5 ∨ r = 6 ∨ r = 7 ∨ r = 8 ∨ r = 9 ∨ r = 10 := by omega
  rcases h11 with rfl | rfl | rfl | rfl | rfl | rfl | rfl | rfl | rfl | rfl | rfl
  all_goals exact ⟨_, _, _, _, (blk_cell hrow _).trans rfl, (blk_cell hrow _).trans rfl, (blk_cell hrow _).trans rfl, (blk_cell hrow _).trans rfl⟩
set_option maxRecDepth 100000 in
set_option maxHeartbeats 20000000 in
theorem ends_any (w : World) : Calls Try.prog 4 #[] w fun e w' => e = .returned (.bool true) ∧ Below w.heap.size w w' := by
  have hW := hide (fun w => awake_any w)
  have hKW : Hid (∀ (s : ByteArray) (k key val ent ck : Int) (w : World), s.size ≤ maxLen → (0 ≤ k ∧ k < 256) → Calls Try.prog 3 #[.string s, .agg #[.int .u8 k, .int .i64 key, .int .i64 val, .int .i64 ent], .int .u8 ck] w fun e w' => e = .returned (.bool true) ∧ Below w.heap.size w w') := hide (fun s k key val ent ck w => law_kindsWords s k key val ent ck w)
  go_enter Try.func4, Try.ntmps4
  go_wp2_with fail
  (with_reducible refine (hW.out _).mono ?_)
  rintro e w1 ⟨rfl, hb1⟩
  have HB1 := hide hb1
  clear hb1 hW
  go_wp2_with fail
  refine name_world (fun W2 hW2 => ?_)
  have t1 : W2.heap[w1.heap.size]? = some (.cells numsL.toArray 3 (0, 0)) := by rw [hW2]; exact World.alloc_heap_new w1 _
  have l2 : Below w1.heap.size w1 W2 := by rw [hW2]; exact below1 w1 _
  have T1 : Hid (∀ n, n < 20 → ∃ u, W2.cell? ⟨w1.heap.size, n, none⟩ = some u ∧ IsI64 u) := hide (fun n hn => lit_cell t1 nums_are hn)
  have lt1 : w1.heap.size < W2.heap.size := at_lt t1
  have L2 := hide l2
  clear t1 l2 hW2
  generalize hb : w1.heap.size = b1 at *
  have HBB := hide hb
  clear hb
  go_loopw [2] (fun p wr => ∃ k : Nat, k ≤ 10 ∧ p = .int .i64 k ∧ Below W2.heap.size W2 wr) (fun p _ => 10 - (intOf p).toNat)
  case atStart => exact ⟨0, by omega, rfl, Below.refl _ _⟩
  case round =>
    obtain ⟨k, hk, rfl, hX⟩ := hrel
    have HX := hide hX
    clear hX
    by_cases hlk : k < 10
    · obtain ⟨wo, hwo⟩ : ∃ wo : World, wo = wr := ⟨_, rfl⟩
      subst hwo
      have dk : decide ((k : Int) < 10) = true := by simp; omega
      go_wp2
      go_loopw [3] (fun p wr => ∃ i : Nat, i ≤ 20 ∧ p = .int .i64 i ∧ Below W2.heap.size W2 wr) (fun p _ => 20 - (intOf p).toNat)
      case atStart => exact ⟨0, by omega, rfl, HX.out⟩
      case round =>
        obtain ⟨i, hi, rfl, hX⟩ := hrel
        clear HX
        have HX := hide hX
        clear hX
        by_cases hli : i < 20
        · obtain ⟨wo2, hwo⟩ : ∃ wo : World, wo = wr := ⟨_, rfl⟩
          subst hwo
          have di : decide ((i : Int) < 20) = true := by simp; omega
          go_wp2
          go_loopw [4] (fun p wr => ∃ n : Nat, n ≤ 20 ∧ p = .int .i64 n ∧ Below W2.heap.size W2 wr) (fun p _ => 20 - (intOf p).toNat)
          case atStart => exact ⟨0, by omega, rfl, HX.out⟩
          case round =>
            obtain ⟨n, hn, rfl, hX⟩ := hrel
            clear HX
            have HX := hide hX
            clear hX
            by_cases hln : n < 20
            · obtain ⟨_, g1, v1, rfl⟩ := T1.out i hli
              obtain ⟨_, g2, v2, rfl⟩ := T1.out n hln
              have k1 := Later.cell ((HX.out.cell (p := ⟨b1, i, none⟩) lt1).trans g1)
              have k2 := Later.cell ((HX.out.cell (p := ⟨b1, n, none⟩) lt1).trans g2)
              clear g1 g2
              have dn : decide ((n : Int) < 20) = true := by simp; omega
              have p1 := u8_small k (by omega)
              have p2 : IntKind.i64.wrap ((k : Int) + 6) = (k : Int) + 6 := IntWalk.i64_in _ (by omega)
              have p3 : IntKind.u8.wrap ((k : Int) + 6) = (k : Int) + 6 := u8_small (k + 6) (by omega)
              have c1 := hide (fun w => hKW.out ⟨#[97]⟩ k v1 v2 16 k w (by decide) (by omega))
              have c2 := hide (fun w => hKW.out ⟨#[]⟩ k 4 v1 v2 (k + 6) w (by decide) (by omega))
              have c3 := hide (fun w => hKW.out ⟨#[95]⟩ k 0 0 v2 0 w (by decide) (by omega))
              go_wp2_with fail
              refine wp_region_later (by kernel_rfl) (by kernel_rfl) ?_
              repeat (first | go_big_quiet_step (first | with_reducible exact Later.calls _ c1.out | with_reducible exact Later.calls _ c2.out | with_reducible exact Later.calls _ c3.out) | (refine wpQuiet_step (fun K hK => ?_); go_simp; refine hK _ ?_; clear hK K))
              refine wpQuiet_nil ?_
              rintro _ ⟨x, rfl⟩
              have HX2 := hide (HX.out.trans (x.below.mono HX.out.size))
              clear k1 k2 p1 p2 p3 c1 c2 c3 HX dn
              go_wp2
              go_roundw
              case rel => exact ⟨n + 1, by omega, by go_num, HX2.out⟩
              case measure => simp [intOf]; omega
            · have dn : decide ((n : Int) < 20) = false := by simp; omega
              go_wp2
              go_roundw
              case rel => exact ⟨i + 1, by omega, by go_num, HX.out⟩
              case measure => simp [intOf]; omega
        · have di : decide ((i : Int) < 20) = false := by simp; omega
          go_wp2
          go_roundw
          case rel => exact ⟨k + 1, by omega, by go_num, HX.out⟩
          case measure => simp [intOf]; omega
    · have dk : decide ((k : Int) < 10) = false := by simp; omega
      have HX3 := hide (HB1.out.trans (((HBB.out ▸ L2.out : Below w1.heap.size w1 W2).trans (HX.out.mono (by rw [HBB.out]; omega))).mono HB1.out.size))
      clear HX L2 T1 HB1 hKW
      go_wp2_with fail
      refine name_world (fun W3 hW3 => ?_)
      have HM : Hid (∀ m, m < 11 → MapAt W3 ⟨wr.heap.size + 10, m, none⟩) := hide (by rw [hW3]; exact fun m hm => map_at wr m hm)
      have HRT : Hid (∀ r, r < 11 → RetAt W3 (wr.heap.size + 11) r) := hide (by rw [hW3]; exact fun r hr => ret_at wr r hr)
      have l4 : Below wr.heap.size wr W3 := by rw [hW3]; exact allocs_below (litOs wr.heap.size) wr
      have z4 : wr.heap.size + 11 < W3.heap.size := by rw [hW3]; have := allocs_size (litOs wr.heap.size) wr; exact this ▸ (by show wr.heap.size + 11 < wr.heap.size + 12; omega)
      have HX4 := hide (HX3.out.trans (l4.mono HX3.out.size))
      clear hW3 l4 HX3 HBB dk
      generalize hg11 : wr.heap.size + 1 + 1 + 1 + 1 + 1 + 1 + 1 + 1 + 1 + 1 + 1 = g11 at *
      generalize hg10 : wr.heap.size + 1 + 1 + 1 + 1 + 1 + 1 + 1 + 1 + 1 + 1 = g10 at *
      have z5 : g10 < W3.heap.size := by omega
      clear hg10 hg11
      go_loopw [7] (fun p wr => ∃ a : Nat, a ≤ 11 ∧ p = .int .i64 a ∧ Below W3.heap.size W3 wr) (fun p _ => 11 - (intOf p).toNat)
      case atStart => exact ⟨0, by omega, rfl, Below.refl _ _⟩
      case round =>
        obtain ⟨a, ha, rfl, hX⟩ := hrel
        have HX := hide hX
        clear hX
        by_cases hla : a < 11
        · obtain ⟨wo, hwo⟩ : ∃ wo : World, wo = wr := ⟨_, rfl⟩
          subst hwo
          have da : decide ((a : Int) < 11) = true := by simp; omega
          go_wp2
          go_loopw [8] (fun p wr => ∃ b : Nat, b ≤ 11 ∧ p = .int .i64 b ∧ Below W3.heap.size W3 wr) (fun p _ => 11 - (intOf p).toNat)
          case atStart => exact ⟨0, by omega, rfl, HX.out⟩
          case round =>
            obtain ⟨b, hb, rfl, hX⟩ := hrel
            clear HX
            have HX := hide hX
            clear hX
            by_cases hlb : b < 11
            · obtain ⟨wo2, hwo⟩ : ∃ wo : World, wo = wr := ⟨_, rfl⟩
              subst hwo
              have db : decide ((b : Int) < 11) = true := by simp; omega
              go_wp2
              go_loopw [9] (fun p wr => ∃ m : Nat, m ≤ 11 ∧ p = .int .i64 m ∧ Below W3.heap.size W3 wr) (fun p _ => 11 - (intOf p).toNat)
              case atStart => exact ⟨0, by omega, rfl, HX.out⟩
              case round =>
                obtain ⟨m, hm, rfl, hX⟩ := hrel
                clear HX
                have HX := hide hX
                clear hX
                by_cases hlm : m < 11
                · obtain ⟨wo3, hwo⟩ : ∃ wo : World, wo = wr := ⟨_, rfl⟩
                  subst hwo
                  have dm : decide ((m : Int) < 11) = true := by simp; omega
                  go_wp2
                  go_loopw [10] (fun p wr => ∃ r : Nat, r ≤ 12 ∧ p = .int .i64 r ∧ Below W3.heap.size W3 wr) (fun p _ => 12 - (intOf p).toNat)
                  case atStart => exact ⟨0, by omega, rfl, HX.out⟩
                  case round =>
                    obtain ⟨r, hr, rfl, hX⟩ := hrel
                    clear HX
                    have HX := hide hX
                    clear hX
                    by_cases hlr : r < 11
                    · have dr : decide ((r : Int) < 11) = true := by simp; omega
                      have pa := u8_small a (by omega)
                      have pb := u8_small b (by omega)
                      have ra := HRT.out r hlr
                      have ma := HM.out m hlm
                      obtain ⟨Am, lm, m0, mrd, ml3, mrg⟩ := ma
                      obtain ⟨rk, lo, hi, sz, r0, r1, r2, r3⟩ := ra
                      have m0' := (HX.out.cell (p := ⟨g10, m, none⟩) z5).trans m0
                      have HMR := hide (mrd.below HX.out)
                      have HMG := hide mrg
                      have r0' := (HX.out.cell (p := ⟨g11, r * 4, none⟩) z4).trans r0
                      have r1' := (HX.out.cell (p := ⟨g11, r * 4 + 1, none⟩) z4).trans r1
                      have r2' := (HX.out.cell (p := ⟨g11, r * 4 + 2, none⟩) z4).trans r2
                      have r3' := (HX.out.cell (p := ⟨g11, r * 4 + 3, none⟩) z4).trans r3
                      have zw := HX.out.size
                      have zg10 : g10 < wr.heap.size := by omega
                      have zg11 : g11 < wr.heap.size := by omega
                      clear m0 mrd mrg r0 r1 r2 r3
                      generalize hzl : lm.length = zl at *
                      have HZL := hide hzl
                      clear hzl
                      by_cases ea : a = 3
                      · have ea1 : ((a : Int) == 3) = true := by simp; omega
                        by_cases eb : b = 9
                        · have eb1 : ((b : Int) == 9) = true := by simp; omega
                          have pm : IntKind.i64.wrap ((m : Int) * 100) = (m : Int) * 100 := IntWalk.i64_in _ (by omega)
                          clear ea eb
                          go_wp2_with fail
                          clear ea1 eb1 pm pa pb
                          refine name_world (fun W6 hW6 => ?_)
                          obtain ⟨x1, x2⟩ := two_boxes wr (.cells #[.int .u8 (a : Int), .int .i64 0, .int .i64 0, .slice Am zl zl] 46) (.cells #[.int .u8 (b : Int), .int .i64 0, .int .i64 ((m : Int) * 100), .slice none 0 0] 46)
                          have l6 := below2 wr (.cells #[.int .u8 (a : Int), .int .i64 0, .int .i64 0, .slice Am zl zl] 46) (.cells #[.int .u8 (b : Int), .int .i64 0, .int .i64 ((m : Int) * 100), .slice none 0 0] 46)
                          rw [← hW6] at x1 x2 l6
                          clear hW6
                          have y10 := blk_cell x1 0
                          have y11 := blk_cell x1 1
                          have y12 := blk_cell x1 2
                          have y13 := blk_cell x1 3
                          have y20 := blk_cell x2 0
                          have y21 := blk_cell x2 1
                          have y22 := blk_cell x2 2
                          have y23 := blk_cell x2 3
                          simp only [List.getElem?_toArray, List.getElem?_cons_zero, List.getElem?_cons_succ] at y10 y11 y12 y13 y20 y21 y22 y23
                          have y30 := (l6.cell (p := ⟨g11, r * 4, none⟩) zg11).trans r0'
                          have y31 := (l6.cell (p := ⟨g11, r * 4 + 1, none⟩) zg11).trans r1'
                          have y32 := (l6.cell (p := ⟨g11, r * 4 + 2, none⟩) zg11).trans r2'
                          have y33 := (l6.cell (p := ⟨g11, r * 4 + 3, none⟩) zg11).trans r3'
                          have zx1 := at_lt x1
                          have zx2 := at_lt x2
                          have z6 := l6.size
                          have HX6 := hide (HX.out.trans (l6.mono zw))
                          have HL6 := hide l6
                          clear x1 x2 l6 r0' r1' r2' r3' m0' HX
                          generalize hgw1 : wr.heap.size + 1 = gw1 at *
                          generalize hgw : wr.heap.size = gw at *
                          have HGW := hide hgw
                          clear hgw hgw1
                          have q1 : (0 : Int) ≤ (r : Int) := by omega
                          have q2 : (r : Int) < 11 := by omega
                          have zg6 : g11 < W6.heap.size := by omega
                          go_region_held3 (fun W => W.cell? ⟨gw, 0, none⟩ = some (.int .u8 (a : Int)) ∧ W.cell? ⟨gw, 1, none⟩ = some (.int .i64 0) ∧ W.cell? ⟨gw, 2, none⟩ = some (.int .i64 0) ∧ W.cell? ⟨gw, 3, none⟩ = some (.slice Am zl zl) ∧ W.cell? ⟨gw1, 0, none⟩ = some (.int .u8 (b : Int)) ∧ W.cell? ⟨gw1, 1, none⟩ = some (.int .i64 0) ∧ W.cell? ⟨gw1, 2, none⟩ = some (.int .i64 ((m : Int) * 100)) ∧ W.cell? ⟨gw1, 3, none⟩ = some (.slice none 0 0) ∧ W.cell? ⟨g11, r * 4, none⟩ = some (.int .u8 rk) ∧ W.cell? ⟨g11, r * 4 + 1, none⟩ = some (.int .i64 lo) ∧ W.cell? ⟨g11, r * 4 + 2, none⟩ = some (.int .i64 hi) ∧ W.cell? ⟨g11, r * 4 + 3, none⟩ = some (.int .i64 sz)) (first | exact ⟨y10, y11, y12, y13, y20, y21, y22, y23, y30, y31, y32, y33⟩ | go_keep) (fail)
                          clear y10 y11 y12 y13 y20 y21 y22 y23 y30 y31 y32 y33
                          · go_wp2_with fail
                            refine name_world (fun W7 hW7 => ?_)
                            obtain ⟨x1, x2⟩ := two_boxes W6 (.cells #[.int .u8 (a : Int), .int .i64 0, .int .i64 0, .slice Am zl zl, .int .u8 (b : Int), .int .i64 0, .int .i64 ((m : Int) * 100), .slice none 0 0] 46) (.cells #[.int .i64 1, .int .i64 0, .int .i64 0, .int .u8 0, .slice (some ⟨W6.heap.size, 0, none⟩) 2 2, .int .u8 rk, .int .i64 lo, .int .i64 hi, .int .i64 sz] 32)
                            have hr7 : W7.heap[W6.heap.size]? = some (.cells #[.int .u8 (a : Int), .int .i64 0, .int .i64 0, .slice Am zl zl, .int .u8 (b : Int), .int .i64 0, .int .i64 ((m : Int) * 100), .slice none 0 0] 46 (0, 0)) := by rw [hW7]; exact x1
                            have hh7 : W7.heap[W6.heap.size + 1]? = some (.cells #[.int .i64 1, .int .i64 0, .int .i64 0, .int .u8 0, .slice (some ⟨W6.heap.size, 0, none⟩) 2 2, .int .u8 rk, .int .i64 lo, .int .i64 hi, .int .i64 sz] 32 (0, 0)) := by rw [hW7]; exact x2
                            have l7 : Below W6.heap.size W6 W7 := by rw [hW7]; exact (below2 W6 (.cells #[.int .u8 (a : Int), .int .i64 0, .int .i64 0, .slice Am zl zl, .int .u8 (b : Int), .int .i64 0, .int .i64 ((m : Int) * 100), .slice none 0 0] 46) (.cells #[.int .i64 1, .int .i64 0, .int .i64 0, .int .u8 0, .slice (some ⟨W6.heap.size, 0, none⟩) 2 2, .int .u8 rk, .int .i64 lo, .int .i64 hi, .int .i64 sz] 32)).drew
                            clear hW7 x1 x2
                            generalize W6.heap.size + 1 = gh at *
                            generalize hgq : W6.heap.size = gr at *
                            have HGQ := hide hgq
                            clear hgq
                            have l17 : Below W3.heap.size wr W7 := (HL6.out.trans (l7.mono (by omega))).mono (by have := HGW.out; omega)
                            have hz17 : W3.heap.size ≤ W7.heap.size := by have := l7.size; have := HX6.out.size; have := HGQ.out; omega
                            have hlx : Rd W7 W7.heap.size 4 (some ⟨gr, 0, none⟩) 2 (xcells [⟨⟨(a : Int), 0, 0, lm⟩, Am, zl⟩, ⟨⟨(b : Int), 0, ((m : Int) * 100), []⟩, none, 0⟩]) :=
                              ⟨by simp [xcells, ArgX.cells], fun _ => ⟨_, rfl, at_lt hr7, fun j u hu => by rw [cell_add, blk_cell hr7]; simpa [xcells, ArgX.cells, HZL.out] using hu⟩⟩
                            have hok : ArgsOk W7 W7.heap.size [⟨⟨(a : Int), 0, 0, lm⟩, Am, zl⟩, ⟨⟨(b : Int), 0, ((m : Int) * 100), []⟩, none, 0⟩] := by
                              intro x hx
                              simp only [List.mem_cons, List.not_mem_nil, or_false] at hx
                              rcases hx with rfl | rfl
                              · dsimp only
                                exact ⟨by rw [HZL.out]; exact (HMR.out.below l17).mono hz17, by rw [HZL.out]; omega, by rw [HZL.out]; exact Nat.le_refl _, by unfold maxLen; omega, HMG.out⟩
                              · dsimp only
                                exact ⟨Rd.nil, Nat.zero_le _, Nat.le_refl _, by unfold maxLen; omega, fun m hm => absurd hm (by simp)⟩
                            have hA : Hid (∀ y : Later W7, Calls Try.prog 15 #[.agg #[.int .i64 1, .int .i64 0, .int .i64 0, .int .u8 0, .slice (some ⟨gr, 0, none⟩) 2 2, .int .u8 rk, .int .i64 lo, .int .i64 hi, .int .i64 sz]] y.w fun e w' => e = .returned (.int .i64 (helperM 1 0 0 0 rk lo hi sz [⟨⟨(a : Int), 0, 0, lm⟩, Am, zl⟩, ⟨⟨(b : Int), 0, ((m : Int) * 100), []⟩, none, 0⟩])) ∧ Below y.w.heap.size y.w w') := hide (fun y =>
                              helper_any 1 0 0 0 rk lo hi sz (some ⟨gr, 0, none⟩) 2 2 W7.heap.size [⟨⟨(a : Int), 0, 0, lm⟩, Am, zl⟩, ⟨⟨(b : Int), 0, ((m : Int) * 100), []⟩, none, 0⟩] y.w (hlx.below y.below) (hok.below y.below) y.below.size (by omega) (by omega) (by unfold maxLen; omega))
                            have hR : Hid (∀ y : Later W7, Calls Try.prog 16 #[.agg #[.int .i64 1, .int .i64 0, .int .i64 0, .int .u8 0, .slice (some ⟨gr, 0, none⟩) 2 2, .int .u8 rk, .int .i64 lo, .int .i64 hi, .int .i64 sz]] y.w fun e w' => e = .returned (.int .i64 (helperM 1 0 0 0 rk lo hi sz [⟨⟨(a : Int), 0, 0, lm⟩, Am, zl⟩, ⟨⟨(b : Int), 0, ((m : Int) * 100), []⟩, none, 0⟩])) ∧ Below y.w.heap.size y.w w') := hide (fun y =>
                              rhelper_any 1 0 0 rk lo hi sz (some ⟨gr, 0, none⟩) 2 2 W7.heap.size [⟨⟨(a : Int), 0, 0, lm⟩, Am, zl⟩, ⟨⟨(b : Int), 0, ((m : Int) * 100), []⟩, none, 0⟩] y.w (hlx.below y.below) (hok.below y.below) y.below.size (by omega) (by omega) (by unfold maxLen; omega))
                            have HX7 := hide (HX6.out.trans (l7.mono (by have := HX6.out.size; have := HGQ.out; omega)))
                            generalize helperM 1 0 0 0 rk lo hi sz [⟨⟨(a : Int), 0, 0, lm⟩, Am, zl⟩, ⟨⟨(b : Int), 0, ((m : Int) * 100), []⟩, none, 0⟩] = er at *
                            obtain ⟨d0, d1, d2, d3, d4, d5, d6, d7, d8⟩ := later9 hh7
                            have p1 : ((m : Int)).tmod 2 = (m : Int) % 2 := Int.tmod_eq_emod_of_nonneg (by omega)
                            clear hlx hok hr7 hh7 l7 l17 HX6 HL6
                            refine wp_region_later (by kernel_rfl) (by kernel_rfl) ?_
                            repeat (first | go_big_quiet_step (first | with_reducible exact Later.callsL _ hA.out | with_reducible exact Later.callsL _ hR.out) | (refine wpQuiet_step (fun K hK => ?_); go_simp; refine hK _ ?_; clear hK K))
                            refine wpQuiet_nil ?_
                            rintro _ ⟨x, rfl⟩
                            have HX8 := hide (HX7.out.trans (x.below.mono HX7.out.size))
                            clear d0 d1 d2 d3 d4 d5 d6 d7 d8 hA hR HX7 dr
                            go_wp2
                            go_roundw
                            case rel => exact ⟨r + 1 + m % 2, by omega, by go_num, HX8.out⟩
                            case measure => simp [intOf]; omega
                          · go_wp2_with fail
                            refine name_world (fun W7 hW7 => ?_)
                            obtain ⟨x1, x2⟩ := two_boxes W6 (.cells #[.int .i64 1, .int .i64 0, .int .i64 0, .int .u8 0, .slice (some ⟨W6.heap.size + 1, 0, none⟩) 2 2, .int .u8 rk, .int .i64 lo, .int .i64 hi, .int .i64 sz] 32) (.cells #[.int .u8 (a : Int), .int .i64 0, .int .i64 0, .slice Am zl zl, .int .u8 (b : Int), .int .i64 0, .int .i64 ((m : Int) * 100), .slice none 0 0] 46)
                            have hr7 : W7.heap[W6.heap.size + 1]? = some (.cells #[.int .u8 (a : Int), .int .i64 0, .int .i64 0, .slice Am zl zl, .int .u8 (b : Int), .int .i64 0, .int .i64 ((m : Int) * 100), .slice none 0 0] 46 (0, 0)) := by rw [hW7]; exact x2
                            have hh7 : W7.heap[W6.heap.size]? = some (.cells #[.int .i64 1, .int .i64 0, .int .i64 0, .int .u8 0, .slice (some ⟨W6.heap.size + 1, 0, none⟩) 2 2, .int .u8 rk, .int .i64 lo, .int .i64 hi, .int .i64 sz] 32 (0, 0)) := by rw [hW7]; exact x1
                            have l7 : Below W6.heap.size W6 W7 := by rw [hW7]; exact (below2 W6 (.cells #[.int .i64 1, .int .i64 0, .int .i64 0, .int .u8 0, .slice (some ⟨W6.heap.size + 1, 0, none⟩) 2 2, .int .u8 rk, .int .i64 lo, .int .i64 hi, .int .i64 sz] 32) (.cells #[.int .u8 (a : Int), .int .i64 0, .int .i64 0, .slice Am zl zl, .int .u8 (b : Int), .int .i64 0, .int .i64 ((m : Int) * 100), .slice none 0 0] 46)).drew
                            clear hW7 x1 x2
                            generalize W6.heap.size + 1 = gr at *
                            generalize hgq : W6.heap.size = gh at *
                            have HGQ := hide hgq
                            clear hgq
                            have l17 : Below W3.heap.size wr W7 := (HL6.out.trans (l7.mono (by omega))).mono (by have := HGW.out; omega)
                            have hz17 : W3.heap.size ≤ W7.heap.size := by have := l7.size; have := HX6.out.size; have := HGQ.out; omega
                            have hlx : Rd W7 W7.heap.size 4 (some ⟨gr, 0, none⟩) 2 (xcells [⟨⟨(a : Int), 0, 0, lm⟩, Am, zl⟩, ⟨⟨(b : Int), 0, ((m : Int) * 100), []⟩, none, 0⟩]) :=
                              ⟨by simp [xcells, ArgX.cells], fun _ => ⟨_, rfl, at_lt hr7, fun j u hu => by rw [cell_add, blk_cell hr7]; simpa [xcells, ArgX.cells, HZL.out] using hu⟩⟩
                            have hok : ArgsOk W7 W7.heap.size [⟨⟨(a : Int), 0, 0, lm⟩, Am, zl⟩, ⟨⟨(b : Int), 0, ((m : Int) * 100), []⟩, none, 0⟩] := by
                              intro x hx
                              simp only [List.mem_cons, List.not_mem_nil, or_false] at hx
                              rcases hx with rfl | rfl
                              · dsimp only
                                exact ⟨by rw [HZL.out]; exact (HMR.out.below l17).mono hz17, by rw [HZL.out]; omega, by rw [HZL.out]; exact Nat.le_refl _, by unfold maxLen; omega, HMG.out⟩
                              · dsimp only
                                exact ⟨Rd.nil, Nat.zero_le _, Nat.le_refl _, by unfold maxLen; omega, fun m hm => absurd hm (by simp)⟩
                            have hA : Hid (∀ y : Later W7, Calls Try.prog 15 #[.agg #[.int .i64 1, .int .i64 0, .int .i64 0, .int .u8 0, .slice (some ⟨gr, 0, none⟩) 2 2, .int .u8 rk, .int .i64 lo, .int .i64 hi, .int .i64 sz]] y.w fun e w' => e = .returned (.int .i64 (helperM 1 0 0 0 rk lo hi sz [⟨⟨(a : Int), 0, 0, lm⟩, Am, zl⟩, ⟨⟨(b : Int), 0, ((m : Int) * 100), []⟩, none, 0⟩])) ∧ Below y.w.heap.size y.w w') := hide (fun y =>
                              helper_any 1 0 0 0 rk lo hi sz (some ⟨gr, 0, none⟩) 2 2 W7.heap.size [⟨⟨(a : Int), 0, 0, lm⟩, Am, zl⟩, ⟨⟨(b : Int), 0, ((m : Int) * 100), []⟩, none, 0⟩] y.w (hlx.below y.below) (hok.below y.below) y.below.size (by omega) (by omega) (by unfold maxLen; omega))
                            have hR : Hid (∀ y : Later W7, Calls Try.prog 16 #[.agg #[.int .i64 1, .int .i64 0, .int .i64 0, .int .u8 0, .slice (some ⟨gr, 0, none⟩) 2 2, .int .u8 rk, .int .i64 lo, .int .i64 hi, .int .i64 sz]] y.w fun e w' => e = .returned (.int .i64 (helperM 1 0 0 0 rk lo hi sz [⟨⟨(a : Int), 0, 0, lm⟩, Am, zl⟩, ⟨⟨(b : Int), 0, ((m : Int) * 100), []⟩, none, 0⟩])) ∧ Below y.w.heap.size y.w w') := hide (fun y =>
                              rhelper_any 1 0 0 rk lo hi sz (some ⟨gr, 0, none⟩) 2 2 W7.heap.size [⟨⟨(a : Int), 0, 0, lm⟩, Am, zl⟩, ⟨⟨(b : Int), 0, ((m : Int) * 100), []⟩, none, 0⟩] y.w (hlx.below y.below) (hok.below y.below) y.below.size (by omega) (by omega) (by unfold maxLen; omega))
                            have HX7 := hide (HX6.out.trans (l7.mono (by have := HX6.out.size; have := HGQ.out; omega)))
                            generalize helperM 1 0 0 0 rk lo hi sz [⟨⟨(a : Int), 0, 0, lm⟩, Am, zl⟩, ⟨⟨(b : Int), 0, ((m : Int) * 100), []⟩, none, 0⟩] = er at *
                            obtain ⟨d0, d1, d2, d3, d4, d5, d6, d7, d8⟩ := later9 hh7
                            have p1 : ((m : Int)).tmod 2 = (m : Int) % 2 := Int.tmod_eq_emod_of_nonneg (by omega)
                            clear hlx hok hr7 hh7 l7 l17 HX6 HL6
                            refine wp_region_later (by kernel_rfl) (by kernel_rfl) ?_
                            repeat (first | go_big_quiet_step (first | with_reducible exact Later.callsL _ hA.out | with_reducible exact Later.callsL _ hR.out) | (refine wpQuiet_step (fun K hK => ?_); go_simp; refine hK _ ?_; clear hK K))
                            refine wpQuiet_nil ?_
                            rintro _ ⟨x, rfl⟩
                            have HX8 := hide (HX7.out.trans (x.below.mono HX7.out.size))
                            clear d0 d1 d2 d3 d4 d5 d6 d7 d8 hA hR HX7 dr
                            go_wp2
                            go_roundw
                            case rel => exact ⟨r + 1 + m % 2, by omega, by go_num, HX8.out⟩
                            case measure => simp [intOf]; omega
                        · have eb1 : ((b : Int) == 9) = false := by simp; omega
                          clear ea eb
                          go_wp2_with fail
                          clear ea1 eb1 pa pb
                          refine name_world (fun W6 hW6 => ?_)
                          obtain ⟨x1, x2⟩ := two_boxes wr (.cells #[.int .u8 (a : Int), .int .i64 0, .int .i64 0, .slice Am zl zl] 46) (.cells #[.int .u8 (b : Int), .int .i64 0, .int .i64 0, .slice none 0 0] 46)
                          have l6 := below2 wr (.cells #[.int .u8 (a : Int), .int .i64 0, .int .i64 0, .slice Am zl zl] 46) (.cells #[.int .u8 (b : Int), .int .i64 0, .int .i64 0, .slice none 0 0] 46)
                          rw [← hW6] at x1 x2 l6
                          clear hW6
                          have y10 := blk_cell x1 0
                          have y11 := blk_cell x1 1
                          have y12 := blk_cell x1 2
                          have y13 := blk_cell x1 3
                          have y20 := blk_cell x2 0
                          have y21 := blk_cell x2 1
                          have y22 := blk_cell x2 2
                          have y23 := blk_cell x2 3
                          simp only [List.getElem?_toArray, List.getElem?_cons_zero, List.getElem?_cons_succ] at y10 y11 y12 y13 y20 y21 y22 y23
                          have y30 := (l6.cell (p := ⟨g11, r * 4, none⟩) zg11).trans r0'
                          have y31 := (l6.cell (p := ⟨g11, r * 4 + 1, none⟩) zg11).trans r1'
                          have y32 := (l6.cell (p := ⟨g11, r * 4 + 2, none⟩) zg11).trans r2'
                          have y33 := (l6.cell (p := ⟨g11, r * 4 + 3, none⟩) zg11).trans r3'
                          have zx1 := at_lt x1
                          have zx2 := at_lt x2
                          have z6 := l6.size
                          have HX6 := hide (HX.out.trans (l6.mono zw))
                          have HL6 := hide l6
                          clear x1 x2 l6 r0' r1' r2' r3' m0' HX
                          generalize hgw1 : wr.heap.size + 1 = gw1 at *
                          generalize hgw : wr.heap.size = gw at *
                          have HGW := hide hgw
                          clear hgw hgw1
                          have q1 : (0 : Int) ≤ (r : Int) := by omega
                          have q2 : (r : Int) < 11 := by omega
                          have zg6 : g11 < W6.heap.size := by omega
                          go_region_held3 (fun W => W.cell? ⟨gw, 0, none⟩ = some (.int .u8 (a : Int)) ∧ W.cell? ⟨gw, 1, none⟩ = some (.int .i64 0) ∧ W.cell? ⟨gw, 2, none⟩ = some (.int .i64 0) ∧ W.cell? ⟨gw, 3, none⟩ = some (.slice Am zl zl) ∧ W.cell? ⟨gw1, 0, none⟩ = some (.int .u8 (b : Int)) ∧ W.cell? ⟨gw1, 1, none⟩ = some (.int .i64 0) ∧ W.cell? ⟨gw1, 2, none⟩ = some (.int .i64 0) ∧ W.cell? ⟨gw1, 3, none⟩ = some (.slice none 0 0) ∧ W.cell? ⟨g11, r * 4, none⟩ = some (.int .u8 rk) ∧ W.cell? ⟨g11, r * 4 + 1, none⟩ = some (.int .i64 lo) ∧ W.cell? ⟨g11, r * 4 + 2, none⟩ = some (.int .i64 hi) ∧ W.cell? ⟨g11, r * 4 + 3, none⟩ = some (.int .i64 sz)) (first | exact ⟨y10, y11, y12, y13, y20, y21, y22, y23, y30, y31, y32, y33⟩ | go_keep) (fail)
                          clear y10 y11 y12 y13 y20 y21 y22 y23 y30 y31 y32 y33
                          · go_wp2_with fail
                            refine name_world (fun W7 hW7 => ?_)
                            obtain ⟨x1, x2⟩ := two_boxes W6 (.cells #[.int .u8 (a : Int), .int .i64 0, .int .i64 0, .slice Am zl zl, .int .u8 (b : Int), .int .i64 0, .int .i64 0, .slice none 0 0] 46) (.cells #[.int .i64 1, .int .i64 0, .int .i64 0, .int .u8 0, .slice (some ⟨W6.heap.size, 0, none⟩) 2 2, .int .u8 rk, .int .i64 lo, .int .i64 hi, .int .i64 sz] 32)
                            have hr7 : W7.heap[W6.heap.size]? = some (.cells #[.int .u8 (a : Int), .int .i64 0, .int .i64 0, .slice Am zl zl, .int .u8 (b : Int), .int .i64 0, .int .i64 0, .slice none 0 0] 46 (0, 0)) := by rw [hW7]; exact x1
                            have hh7 : W7.heap[W6.heap.size + 1]? = some (.cells #[.int .i64 1, .int .i64 0, .int .i64 0, .int .u8 0, .slice (some ⟨W6.heap.size, 0, none⟩) 2 2, .int .u8 rk, .int .i64 lo, .int .i64 hi, .int .i64 sz] 32 (0, 0)) := by rw [hW7]; exact x2
                            have l7 : Below W6.heap.size W6 W7 := by rw [hW7]; exact (below2 W6 (.cells #[.int .u8 (a : Int), .int .i64 0, .int .i64 0, .slice Am zl zl, .int .u8 (b : Int), .int .i64 0, .int .i64 0, .slice none 0 0] 46) (.cells #[.int .i64 1, .int .i64 0, .int .i64 0, .int .u8 0, .slice (some ⟨W6.heap.size, 0, none⟩) 2 2, .int .u8 rk, .int .i64 lo, .int .i64 hi, .int .i64 sz] 32)).drew
                            clear hW7 x1 x2
                            generalize W6.heap.size + 1 = gh at *
                            generalize hgq : W6.heap.size = gr at *
                            have HGQ := hide hgq
                            clear hgq
                            have l17 : Below W3.heap.size wr W7 := (HL6.out.trans (l7.mono (by omega))).mono (by have := HGW.out; omega)
                            have hz17 : W3.heap.size ≤ W7.heap.size := by have := l7.size; have := HX6.out.size; have := HGQ.out; omega
                            have hlx : Rd W7 W7.heap.size 4 (some ⟨gr, 0, none⟩) 2 (xcells [⟨⟨(a : Int), 0, 0, lm⟩, Am, zl⟩, ⟨⟨(b : Int), 0, 0, []⟩, none, 0⟩]) :=
                              ⟨by simp [xcells, ArgX.cells], fun _ => ⟨_, rfl, at_lt hr7, fun j u hu => by rw [cell_add, blk_cell hr7]; simpa [xcells, ArgX.cells, HZL.out] using hu⟩⟩
                            have hok : ArgsOk W7 W7.heap.size [⟨⟨(a : Int), 0, 0, lm⟩, Am, zl⟩, ⟨⟨(b : Int), 0, 0, []⟩, none, 0⟩] := by
                              intro x hx
                              simp only [List.mem_cons, List.not_mem_nil, or_false] at hx
                              rcases hx with rfl | rfl
                              · dsimp only
                                exact ⟨by rw [HZL.out]; exact (HMR.out.below l17).mono hz17, by rw [HZL.out]; omega, by rw [HZL.out]; exact Nat.le_refl _, by unfold maxLen; omega, HMG.out⟩
                              · dsimp only
                                exact ⟨Rd.nil, Nat.zero_le _, Nat.le_refl _, by unfold maxLen; omega, fun m hm => absurd hm (by simp)⟩
                            have hA : Hid (∀ y : Later W7, Calls Try.prog 15 #[.agg #[.int .i64 1, .int .i64 0, .int .i64 0, .int .u8 0, .slice (some ⟨gr, 0, none⟩) 2 2, .int .u8 rk, .int .i64 lo, .int .i64 hi, .int .i64 sz]] y.w fun e w' => e = .returned (.int .i64 (helperM 1 0 0 0 rk lo hi sz [⟨⟨(a : Int), 0, 0, lm⟩, Am, zl⟩, ⟨⟨(b : Int), 0, 0, []⟩, none, 0⟩])) ∧ Below y.w.heap.size y.w w') := hide (fun y =>
                              helper_any 1 0 0 0 rk lo hi sz (some ⟨gr, 0, none⟩) 2 2 W7.heap.size [⟨⟨(a : Int), 0, 0, lm⟩, Am, zl⟩, ⟨⟨(b : Int), 0, 0, []⟩, none, 0⟩] y.w (hlx.below y.below) (hok.below y.below) y.below.size (by omega) (by omega) (by unfold maxLen; omega))
                            have hR : Hid (∀ y : Later W7, Calls Try.prog 16 #[.agg #[.int .i64 1, .int .i64 0, .int .i64 0, .int .u8 0, .slice (some ⟨gr, 0, none⟩) 2 2, .int .u8 rk, .int .i64 lo, .int .i64 hi, .int .i64 sz]] y.w fun e w' => e = .returned (.int .i64 (helperM 1 0 0 0 rk lo hi sz [⟨⟨(a : Int), 0, 0, lm⟩, Am, zl⟩, ⟨⟨(b : Int), 0, 0, []⟩, none, 0⟩])) ∧ Below y.w.heap.size y.w w') := hide (fun y =>
                              rhelper_any 1 0 0 rk lo hi sz (some ⟨gr, 0, none⟩) 2 2 W7.heap.size [⟨⟨(a : Int), 0, 0, lm⟩, Am, zl⟩, ⟨⟨(b : Int), 0, 0, []⟩, none, 0⟩] y.w (hlx.below y.below) (hok.below y.below) y.below.size (by omega) (by omega) (by unfold maxLen; omega))
                            have HX7 := hide (HX6.out.trans (l7.mono (by have := HX6.out.size; have := HGQ.out; omega)))
                            generalize helperM 1 0 0 0 rk lo hi sz [⟨⟨(a : Int), 0, 0, lm⟩, Am, zl⟩, ⟨⟨(b : Int), 0, 0, []⟩, none, 0⟩] = er at *
                            obtain ⟨d0, d1, d2, d3, d4, d5, d6, d7, d8⟩ := later9 hh7
                            have p1 : ((m : Int)).tmod 2 = (m : Int) % 2 := Int.tmod_eq_emod_of_nonneg (by omega)
                            clear hlx hok hr7 hh7 l7 l17 HX6 HL6
                            refine wp_region_later (by kernel_rfl) (by kernel_rfl) ?_
                            repeat (first | go_big_quiet_step (first | with_reducible exact Later.callsL _ hA.out | with_reducible exact Later.callsL _ hR.out) | (refine wpQuiet_step (fun K hK => ?_); go_simp; refine hK _ ?_; clear hK K))
                            refine wpQuiet_nil ?_
                            rintro _ ⟨x, rfl⟩
                            have HX8 := hide (HX7.out.trans (x.below.mono HX7.out.size))
                            clear d0 d1 d2 d3 d4 d5 d6 d7 d8 hA hR HX7 dr
                            go_wp2
                            go_roundw
                            case rel => exact ⟨r + 1 + m % 2, by omega, by go_num, HX8.out⟩
                            case measure => simp [intOf]; omega
                          · go_wp2_with fail
                            refine name_world (fun W7 hW7 => ?_)
                            obtain ⟨x1, x2⟩ := two_boxes W6 (.cells #[.int .i64 1, .int .i64 0, .int .i64 0, .int .u8 0, .slice (some ⟨W6.heap.size + 1, 0, none⟩) 2 2, .int .u8 rk, .int .i64 lo, .int .i64 hi, .int .i64 sz] 32) (.cells #[.int .u8 (a : Int), .int .i64 0, .int .i64 0, .slice Am zl zl, .int .u8 (b : Int), .int .i64 0, .int .i64 0, .slice none 0 0] 46)
                            have hr7 : W7.heap[W6.heap.size + 1]? = some (.cells #[.int .u8 (a : Int), .int .i64 0, .int .i64 0, .slice Am zl zl, .int .u8 (b : Int), .int .i64 0, .int .i64 0, .slice none 0 0] 46 (0, 0)) := by rw [hW7]; exact x2
                            have hh7 : W7.heap[W6.heap.size]? = some (.cells #[.int .i64 1, .int .i64 0, .int .i64 0, .int .u8 0, .slice (some ⟨W6.heap.size + 1, 0, none⟩) 2 2, .int .u8 rk, .int .i64 lo, .int .i64 hi, .int .i64 sz] 32 (0, 0)) := by rw [hW7]; exact x1
                            have l7 : Below W6.heap.size W6 W7 := by rw [hW7]; exact (below2 W6 (.cells #[.int .i64 1, .int .i64 0, .int .i64 0, .int .u8 0, .slice (some ⟨W6.heap.size + 1, 0, none⟩) 2 2, .int .u8 rk, .int .i64 lo, .int .i64 hi, .int .i64 sz] 32) (.cells #[.int .u8 (a : Int), .int .i64 0, .int .i64 0, .slice Am zl zl, .int .u8 (b : Int), .int .i64 0, .int .i64 0, .slice none 0 0] 46)).drew
                            clear hW7 x1 x2
                            generalize W6.heap.size + 1 = gr at *
                            generalize hgq : W6.heap.size = gh at *
                            have HGQ := hide hgq
                            clear hgq
                            have l17 : Below W3.heap.size wr W7 := (HL6.out.trans (l7.mono (by omega))).mono (by have := HGW.out; omega)
                            have hz17 : W3.heap.size ≤ W7.heap.size := by have := l7.size; have := HX6.out.size; have := HGQ.out; omega
                            have hlx : Rd W7 W7.heap.size 4 (some ⟨gr, 0, none⟩) 2 (xcells [⟨⟨(a : Int), 0, 0, lm⟩, Am, zl⟩, ⟨⟨(b : Int), 0, 0, []⟩, none, 0⟩]) :=
                              ⟨by simp [xcells, ArgX.cells], fun _ => ⟨_, rfl, at_lt hr7, fun j u hu => by rw [cell_add, blk_cell hr7]; simpa [xcells, ArgX.cells, HZL.out] using hu⟩⟩
                            have hok : ArgsOk W7 W7.heap.size [⟨⟨(a : Int), 0, 0, lm⟩, Am, zl⟩, ⟨⟨(b : Int), 0, 0, []⟩, none, 0⟩] := by
                              intro x hx
                              simp only [List.mem_cons, List.not_mem_nil, or_false] at hx
                              rcases hx with rfl | rfl
                              · dsimp only
                                exact ⟨by rw [HZL.out]; exact (HMR.out.below l17).mono hz17, by rw [HZL.out]; omega, by rw [HZL.out]; exact Nat.le_refl _, by unfold maxLen; omega, HMG.out⟩
                              · dsimp only
                                exact ⟨Rd.nil, Nat.zero_le _, Nat.le_refl _, by unfold maxLen; omega, fun m hm => absurd hm (by simp)⟩
                            have hA : Hid (∀ y : Later W7, Calls Try.prog 15 #[.agg #[.int .i64 1, .int .i64 0, .int .i64 0, .int .u8 0, .slice (some ⟨gr, 0, none⟩) 2 2, .int .u8 rk, .int .i64 lo, .int .i64 hi, .int .i64 sz]] y.w fun e w' => e = .returned (.int .i64 (helperM 1 0 0 0 rk lo hi sz [⟨⟨(a : Int), 0, 0, lm⟩, Am, zl⟩, ⟨⟨(b : Int), 0, 0, []⟩, none, 0⟩])) ∧ Below y.w.heap.size y.w w') := hide (fun y =>
                              helper_any 1 0 0 0 rk lo hi sz (some ⟨gr, 0, none⟩) 2 2 W7.heap.size [⟨⟨(a : Int), 0, 0, lm⟩, Am, zl⟩, ⟨⟨(b : Int), 0, 0, []⟩, none, 0⟩] y.w (hlx.below y.below) (hok.below y.below) y.below.size (by omega) (by omega) (by unfold maxLen; omega))
                            have hR : Hid (∀ y : Later W7, Calls Try.prog 16 #[.agg #[.int .i64 1, .int .i64 0, .int .i64 0, .int .u8 0, .slice (some ⟨gr, 0, none⟩) 2 2, .int .u8 rk, .int .i64 lo, .int .i64 hi, .int .i64 sz]] y.w fun e w' => e = .returned (.int .i64 (helperM 1 0 0 0 rk lo hi sz [⟨⟨(a : Int), 0, 0, lm⟩, Am, zl⟩, ⟨⟨(b : Int), 0, 0, []⟩, none, 0⟩])) ∧ Below y.w.heap.size y.w w') := hide (fun y =>
                              rhelper_any 1 0 0 rk lo hi sz (some ⟨gr, 0, none⟩) 2 2 W7.heap.size [⟨⟨(a : Int), 0, 0, lm⟩, Am, zl⟩, ⟨⟨(b : Int), 0, 0, []⟩, none, 0⟩] y.w (hlx.below y.below) (hok.below y.below) y.below.size (by omega) (by omega) (by unfold maxLen; omega))
                            have HX7 := hide (HX6.out.trans (l7.mono (by have := HX6.out.size; have := HGQ.out; omega)))
                            generalize helperM 1 0 0 0 rk lo hi sz [⟨⟨(a : Int), 0, 0, lm⟩, Am, zl⟩, ⟨⟨(b : Int), 0, 0, []⟩, none, 0⟩] = er at *
                            obtain ⟨d0, d1, d2, d3, d4, d5, d6, d7, d8⟩ := later9 hh7
                            have p1 : ((m : Int)).tmod 2 = (m : Int) % 2 := Int.tmod_eq_emod_of_nonneg (by omega)
                            clear hlx hok hr7 hh7 l7 l17 HX6 HL6
                            refine wp_region_later (by kernel_rfl) (by kernel_rfl) ?_
                            repeat (first | go_big_quiet_step (first | with_reducible exact Later.callsL _ hA.out | with_reducible exact Later.callsL _ hR.out) | (refine wpQuiet_step (fun K hK => ?_); go_simp; refine hK _ ?_; clear hK K))
                            refine wpQuiet_nil ?_
                            rintro _ ⟨x, rfl⟩
                            have HX8 := hide (HX7.out.trans (x.below.mono HX7.out.size))
                            clear d0 d1 d2 d3 d4 d5 d6 d7 d8 hA hR HX7 dr
                            go_wp2
                            go_roundw
                            case rel => exact ⟨r + 1 + m % 2, by omega, by go_num, HX8.out⟩
                            case measure => simp [intOf]; omega
                      · have ea1 : ((a : Int) == 3) = false := by simp; omega
                        by_cases eb : b = 9
                        · have eb1 : ((b : Int) == 9) = true := by simp; omega
                          have pm : IntKind.i64.wrap ((m : Int) * 100) = (m : Int) * 100 := IntWalk.i64_in _ (by omega)
                          clear ea eb
                          go_wp2_with fail
                          clear ea1 eb1 pm pa pb
                          refine name_world (fun W6 hW6 => ?_)
                          obtain ⟨x1, x2⟩ := two_boxes wr (.cells #[.int .u8 (a : Int), .int .i64 0, .int .i64 0, .slice none 0 0] 46) (.cells #[.int .u8 (b : Int), .int .i64 0, .int .i64 ((m : Int) * 100), .slice Am zl zl] 46)
                          have l6 := below2 wr (.cells #[.int .u8 (a : Int), .int .i64 0, .int .i64 0, .slice none 0 0] 46) (.cells #[.int .u8 (b : Int), .int .i64 0, .int .i64 ((m : Int) * 100), .slice Am zl zl] 46)
                          rw [← hW6] at x1 x2 l6
                          clear hW6
                          have y10 := blk_cell x1 0
                          have y11 := blk_cell x1 1
                          have y12 := blk_cell x1 2
                          have y13 := blk_cell x1 3
                          have y20 := blk_cell x2 0
                          have y21 := blk_cell x2 1
                          have y22 := blk_cell x2 2
                          have y23 := blk_cell x2 3
                          simp only [List.getElem?_toArray, List.getElem?_cons_zero, List.getElem?_cons_succ] at y10 y11 y12 y13 y20 y21 y22 y23
                          have y30 := (l6.cell (p := ⟨g11, r * 4, none⟩) zg11).trans r0'
                          have y31 := (l6.cell (p := ⟨g11, r * 4 + 1, none⟩) zg11).trans r1'
                          have y32 := (l6.cell (p := ⟨g11, r * 4 + 2, none⟩) zg11).trans r2'
                          have y33 := (l6.cell (p := ⟨g11, r * 4 + 3, none⟩) zg11).trans r3'
                          have zx1 := at_lt x1
                          have zx2 := at_lt x2
                          have z6 := l6.size
                          have HX6 := hide (HX.out.trans (l6.mono zw))
                          have HL6 := hide l6
                          clear x1 x2 l6 r0' r1' r2' r3' m0' HX
                          generalize hgw1 : wr.heap.size + 1 = gw1 at *
                          generalize hgw : wr.heap.size = gw at *
                          have HGW := hide hgw
                          clear hgw hgw1
                          have q1 : (0 : Int) ≤ (r : Int) := by omega
                          have q2 : (r : Int) < 11 := by omega
                          have zg6 : g11 < W6.heap.size := by omega
                          go_region_held3 (fun W => W.cell? ⟨gw, 0, none⟩ = some (.int .u8 (a : Int)) ∧ W.cell? ⟨gw, 1, none⟩ = some (.int .i64 0) ∧ W.cell? ⟨gw, 2, none⟩ = some (.int .i64 0) ∧ W.cell? ⟨gw, 3, none⟩ = some (.slice none 0 0) ∧ W.cell? ⟨gw1, 0, none⟩ = some (.int .u8 (b : Int)) ∧ W.cell? ⟨gw1, 1, none⟩ = some (.int .i64 0) ∧ W.cell? ⟨gw1, 2, none⟩ = some (.int .i64 ((m : Int) * 100)) ∧ W.cell? ⟨gw1, 3, none⟩ = some (.slice Am zl zl) ∧ W.cell? ⟨g11, r * 4, none⟩ = some (.int .u8 rk) ∧ W.cell? ⟨g11, r * 4 + 1, none⟩ = some (.int .i64 lo) ∧ W.cell? ⟨g11, r * 4 + 2, none⟩ = some (.int .i64 hi) ∧ W.cell? ⟨g11, r * 4 + 3, none⟩ = some (.int .i64 sz)) (first | exact ⟨y10, y11, y12, y13, y20, y21, y22, y23, y30, y31, y32, y33⟩ | go_keep) (fail)
                          clear y10 y11 y12 y13 y20 y21 y22 y23 y30 y31 y32 y33
                          · go_wp2_with fail
                            refine name_world (fun W7 hW7 => ?_)
                            obtain ⟨x1, x2⟩ := two_boxes W6 (.cells #[.int .u8 (a : Int), .int .i64 0, .int .i64 0, .slice none 0 0, .int .u8 (b : Int), .int .i64 0, .int .i64 ((m : Int) * 100), .slice Am zl zl] 46) (.cells #[.int .i64 1, .int .i64 0, .int .i64 0, .int .u8 0, .slice (some ⟨W6.heap.size, 0, none⟩) 2 2, .int .u8 rk, .int .i64 lo, .int .i64 hi, .int .i64 sz] 32)
                            have hr7 : W7.heap[W6.heap.size]? = some (.cells #[.int .u8 (a : Int), .int .i64 0, .int .i64 0, .slice none 0 0, .int .u8 (b : Int), .int .i64 0, .int .i64 ((m : Int) * 100), .slice Am zl zl] 46 (0, 0)) := by rw [hW7]; exact x1
                            have hh7 : W7.heap[W6.heap.size + 1]? = some (.cells #[.int .i64 1, .int .i64 0, .int .i64 0, .int .u8 0, .slice (some ⟨W6.heap.size, 0, none⟩) 2 2, .int .u8 rk, .int .i64 lo, .int .i64 hi, .int .i64 sz] 32 (0, 0)) := by rw [hW7]; exact x2
                            have l7 : Below W6.heap.size W6 W7 := by rw [hW7]; exact (below2 W6 (.cells #[.int .u8 (a : Int), .int .i64 0, .int .i64 0, .slice none 0 0, .int .u8 (b : Int), .int .i64 0, .int .i64 ((m : Int) * 100), .slice Am zl zl] 46) (.cells #[.int .i64 1, .int .i64 0, .int .i64 0, .int .u8 0, .slice (some ⟨W6.heap.size, 0, none⟩) 2 2, .int .u8 rk, .int .i64 lo, .int .i64 hi, .int .i64 sz] 32)).drew
                            clear hW7 x1 x2
                            generalize W6.heap.size + 1 = gh at *
                            generalize hgq : W6.heap.size = gr at *
                            have HGQ := hide hgq
                            clear hgq
                            have l17 : Below W3.heap.size wr W7 := (HL6.out.trans (l7.mono (by omega))).mono (by have := HGW.out; omega)
                            have hz17 : W3.heap.size ≤ W7.heap.size := by have := l7.size; have := HX6.out.size; have := HGQ.out; omega
                            have hlx : Rd W7 W7.heap.size 4 (some ⟨gr, 0, none⟩) 2 (xcells [⟨⟨(a : Int), 0, 0, []⟩, none, 0⟩, ⟨⟨(b : Int), 0, ((m : Int) * 100), lm⟩, Am, zl⟩]) :=
                              ⟨by simp [xcells, ArgX.cells], fun _ => ⟨_, rfl, at_lt hr7, fun j u hu => by rw [cell_add, blk_cell hr7]; simpa [xcells, ArgX.cells, HZL.out] using hu⟩⟩
                            have hok : ArgsOk W7 W7.heap.size [⟨⟨(a : Int), 0, 0, []⟩, none, 0⟩, ⟨⟨(b : Int), 0, ((m : Int) * 100), lm⟩, Am, zl⟩] := by
                              intro x hx
                              simp only [List.mem_cons, List.not_mem_nil, or_false] at hx
                              rcases hx with rfl | rfl
                              · dsimp only
                                exact ⟨Rd.nil, Nat.zero_le _, Nat.le_refl _, by unfold maxLen; omega, fun m hm => absurd hm (by simp)⟩
                              · dsimp only
                                exact ⟨by rw [HZL.out]; exact (HMR.out.below l17).mono hz17, by rw [HZL.out]; omega, by rw [HZL.out]; exact Nat.le_refl _, by unfold maxLen; omega, HMG.out⟩
                            have hA : Hid (∀ y : Later W7, Calls Try.prog 15 #[.agg #[.int .i64 1, .int .i64 0, .int .i64 0, .int .u8 0, .slice (some ⟨gr, 0, none⟩) 2 2, .int .u8 rk, .int .i64 lo, .int .i64 hi, .int .i64 sz]] y.w fun e w' => e = .returned (.int .i64 (helperM 1 0 0 0 rk lo hi sz [⟨⟨(a : Int), 0, 0, []⟩, none, 0⟩, ⟨⟨(b : Int), 0, ((m : Int) * 100), lm⟩, Am, zl⟩])) ∧ Below y.w.heap.size y.w w') := hide (fun y =>
                              helper_any 1 0 0 0 rk lo hi sz (some ⟨gr, 0, none⟩) 2 2 W7.heap.size [⟨⟨(a : Int), 0, 0, []⟩, none, 0⟩, ⟨⟨(b : Int), 0, ((m : Int) * 100), lm⟩, Am, zl⟩] y.w (hlx.below y.below) (hok.below y.below) y.below.size (by omega) (by omega) (by unfold maxLen; omega))
                            have hR : Hid (∀ y : Later W7, Calls Try.prog 16 #[.agg #[.int .i64 1, .int .i64 0, .int .i64 0, .int .u8 0, .slice (some ⟨gr, 0, none⟩) 2 2, .int .u8 rk, .int .i64 lo, .int .i64 hi, .int .i64 sz]] y.w fun e w' => e = .returned (.int .i64 (helperM 1 0 0 0 rk lo hi sz [⟨⟨(a : Int), 0, 0, []⟩, none, 0⟩, ⟨⟨(b : Int), 0, ((m : Int) * 100), lm⟩, Am, zl⟩])) ∧ Below y.w.heap.size y.w w') := hide (fun y =>
                              rhelper_any 1 0 0 rk lo hi sz (some ⟨gr, 0, none⟩) 2 2 W7.heap.size [⟨⟨(a : Int), 0, 0, []⟩, none, 0⟩, ⟨⟨(b : Int), 0, ((m : Int) * 100), lm⟩, Am, zl⟩] y.w (hlx.below y.below) (hok.below y.below) y.below.size (by omega) (by omega) (by unfold maxLen; omega))
                            have HX7 := hide (HX6.out.trans (l7.mono (by have := HX6.out.size; have := HGQ.out; omega)))
                            generalize helperM 1 0 0 0 rk lo hi sz [⟨⟨(a : Int), 0, 0, []⟩, none, 0⟩, ⟨⟨(b : Int), 0, ((m : Int) * 100), lm⟩, Am, zl⟩] = er at *
                            obtain ⟨d0, d1, d2, d3, d4, d5, d6, d7, d8⟩ := later9 hh7
                            have p1 : ((m : Int)).tmod 2 = (m : Int) % 2 := Int.tmod_eq_emod_of_nonneg (by omega)
                            clear hlx hok hr7 hh7 l7 l17 HX6 HL6
                            refine wp_region_later (by kernel_rfl) (by kernel_rfl) ?_
                            repeat (first | go_big_quiet_step (first | with_reducible exact Later.callsL _ hA.out | with_reducible exact Later.callsL _ hR.out) | (refine wpQuiet_step (fun K hK => ?_); go_simp; refine hK _ ?_; clear hK K))
                            refine wpQuiet_nil ?_
                            rintro _ ⟨x, rfl⟩
                            have HX8 := hide (HX7.out.trans (x.below.mono HX7.out.size))
                            clear d0 d1 d2 d3 d4 d5 d6 d7 d8 hA hR HX7 dr
                            go_wp2
                            go_roundw
                            case rel => exact ⟨r + 1 + m % 2, by omega, by go_num, HX8.out⟩
                            case measure => simp [intOf]; omega
                          · go_wp2_with fail
                            refine name_world (fun W7 hW7 => ?_)
                            obtain ⟨x1, x2⟩ := two_boxes W6 (.cells #[.int .i64 1, .int .i64 0, .int .i64 0, .int .u8 0, .slice (some ⟨W6.heap.size + 1, 0, none⟩) 2 2, .int .u8 rk, .int .i64 lo, .int .i64 hi, .int .i64 sz] 32) (.cells #[.int .u8 (a : Int), .int .i64 0, .int .i64 0, .slice none 0 0, .int .u8 (b : Int), .int .i64 0, .int .i64 ((m : Int) * 100), .slice Am zl zl] 46)
                            have hr7 : W7.heap[W6.heap.size + 1]? = some (.cells #[.int .u8 (a : Int), .int .i64 0, .int .i64 0, .slice none 0 0, .int .u8 (b : Int), .int .i64 0, .int .i64 ((m : Int) * 100), .slice Am zl zl] 46 (0, 0)) := by rw [hW7]; exact x2
                            have hh7 : W7.heap[W6.heap.size]? = some (.cells #[.int .i64 1, .int .i64 0, .int .i64 0, .int .u8 0, .slice (some ⟨W6.heap.size + 1, 0, none⟩) 2 2, .int .u8 rk, .int .i64 lo, .int .i64 hi, .int .i64 sz] 32 (0, 0)) := by rw [hW7]; exact x1
                            have l7 : Below W6.heap.size W6 W7 := by rw [hW7]; exact (below2 W6 (.cells #[.int .i64 1, .int .i64 0, .int .i64 0, .int .u8 0, .slice (some ⟨W6.heap.size + 1, 0, none⟩) 2 2, .int .u8 rk, .int .i64 lo, .int .i64 hi, .int .i64 sz] 32) (.cells #[.int .u8 (a : Int), .int .i64 0, .int .i64 0, .slice none 0 0, .int .u8 (b : Int), .int .i64 0, .int .i64 ((m : Int) * 100), .slice Am zl zl] 46)).drew
                            clear hW7 x1 x2
                            generalize W6.heap.size + 1 = gr at *
                            generalize hgq : W6.heap.size = gh at *
                            have HGQ := hide hgq
                            clear hgq
                            have l17 : Below W3.heap.size wr W7 := (HL6.out.trans (l7.mono (by omega))).mono (by have := HGW.out; omega)
                            have hz17 : W3.heap.size ≤ W7.heap.size := by have := l7.size; have := HX6.out.size; have := HGQ.out; omega
                            have hlx : Rd W7 W7.heap.size 4 (some ⟨gr, 0, none⟩) 2 (xcells [⟨⟨(a : Int), 0, 0, []⟩, none, 0⟩, ⟨⟨(b : Int), 0, ((m : Int) * 100), lm⟩, Am, zl⟩]) :=
                              ⟨by simp [xcells, ArgX.cells], fun _ => ⟨_, rfl, at_lt hr7, fun j u hu => by rw [cell_add, blk_cell hr7]; simpa [xcells, ArgX.cells, HZL.out] using hu⟩⟩
                            have hok : ArgsOk W7 W7.heap.size [⟨⟨(a : Int), 0, 0, []⟩, none, 0⟩, ⟨⟨(b : Int), 0, ((m : Int) * 100), lm⟩, Am, zl⟩] := by
                              intro x hx
                              simp only [List.mem_cons, List.not_mem_nil, or_false] at hx
                              rcases hx with rfl | rfl
                              · dsimp only
                                exact ⟨Rd.nil, Nat.zero_le _, Nat.le_refl _, by unfold maxLen; omega, fun m hm => absurd hm (by simp)⟩
                              · dsimp only
                                exact ⟨by rw [HZL.out]; exact (HMR.out.below l17).mono hz17, by rw [HZL.out]; omega, by rw [HZL.out]; exact Nat.le_refl _, by unfold maxLen; omega, HMG.out⟩
                            have hA : Hid (∀ y : Later W7, Calls Try.prog 15 #[.agg #[.int .i64 1, .int .i64 0, .int .i64 0, .int .u8 0, .slice (some ⟨gr, 0, none⟩) 2 2, .int .u8 rk, .int .i64 lo, .int .i64 hi, .int .i64 sz]] y.w fun e w' => e = .returned (.int .i64 (helperM 1 0 0 0 rk lo hi sz [⟨⟨(a : Int), 0, 0, []⟩, none, 0⟩, ⟨⟨(b : Int), 0, ((m : Int) * 100), lm⟩, Am, zl⟩])) ∧ Below y.w.heap.size y.w w') := hide (fun y =>
                              helper_any 1 0 0 0 rk lo hi sz (some ⟨gr, 0, none⟩) 2 2 W7.heap.size [⟨⟨(a : Int), 0, 0, []⟩, none, 0⟩, ⟨⟨(b : Int), 0, ((m : Int) * 100), lm⟩, Am, zl⟩] y.w (hlx.below y.below) (hok.below y.below) y.below.size (by omega) (by omega) (by unfold maxLen; omega))
                            have hR : Hid (∀ y : Later W7, Calls Try.prog 16 #[.agg #[.int .i64 1, .int .i64 0, .int .i64 0, .int .u8 0, .slice (some ⟨gr, 0, none⟩) 2 2, .int .u8 rk, .int .i64 lo, .int .i64 hi, .int .i64 sz]] y.w fun e w' => e = .returned (.int .i64 (helperM 1 0 0 0 rk lo hi sz [⟨⟨(a : Int), 0, 0, []⟩, none, 0⟩, ⟨⟨(b : Int), 0, ((m : Int) * 100), lm⟩, Am, zl⟩])) ∧ Below y.w.heap.size y.w w') := hide (fun y =>
                              rhelper_any 1 0 0 rk lo hi sz (some ⟨gr, 0, none⟩) 2 2 W7.heap.size [⟨⟨(a : Int), 0, 0, []⟩, none, 0⟩, ⟨⟨(b : Int), 0, ((m : Int) * 100), lm⟩, Am, zl⟩] y.w (hlx.below y.below) (hok.below y.below) y.below.size (by omega) (by omega) (by unfold maxLen; omega))
                            have HX7 := hide (HX6.out.trans (l7.mono (by have := HX6.out.size; have := HGQ.out; omega)))
                            generalize helperM 1 0 0 0 rk lo hi sz [⟨⟨(a : Int), 0, 0, []⟩, none, 0⟩, ⟨⟨(b : Int), 0, ((m : Int) * 100), lm⟩, Am, zl⟩] = er at *
                            obtain ⟨d0, d1, d2, d3, d4, d5, d6, d7, d8⟩ := later9 hh7
                            have p1 : ((m : Int)).tmod 2 = (m : Int) % 2 := Int.tmod_eq_emod_of_nonneg (by omega)
                            clear hlx hok hr7 hh7 l7 l17 HX6 HL6
                            refine wp_region_later (by kernel_rfl) (by kernel_rfl) ?_
                            repeat (first | go_big_quiet_step (first | with_reducible exact Later.callsL _ hA.out | with_reducible exact Later.callsL _ hR.out) | (refine wpQuiet_step (fun K hK => ?_); go_simp; refine hK _ ?_; clear hK K))
                            refine wpQuiet_nil ?_
                            rintro _ ⟨x, rfl⟩
                            have HX8 := hide (HX7.out.trans (x.below.mono HX7.out.size))
                            clear d0 d1 d2 d3 d4 d5 d6 d7 d8 hA hR HX7 dr
                            go_wp2
                            go_roundw
                            case rel => exact ⟨r + 1 + m % 2, by omega, by go_num, HX8.out⟩
                            case measure => simp [intOf]; omega
                        · have eb1 : ((b : Int) == 9) = false := by simp; omega
                          clear ea eb
                          go_wp2_with fail
                          clear ea1 eb1 pa pb
                          refine name_world (fun W6 hW6 => ?_)
                          obtain ⟨x1, x2⟩ := two_boxes wr (.cells #[.int .u8 (a : Int), .int .i64 0, .int .i64 0, .slice none 0 0] 46) (.cells #[.int .u8 (b : Int), .int .i64 0, .int .i64 0, .slice Am zl zl] 46)
                          have l6 := below2 wr (.cells #[.int .u8 (a : Int), .int .i64 0, .int .i64 0, .slice none 0 0] 46) (.cells #[.int .u8 (b : Int), .int .i64 0, .int .i64 0, .slice Am zl zl] 46)
                          rw [← hW6] at x1 x2 l6
                          clear hW6
                          have y10 := blk_cell x1 0
                          have y11 := blk_cell x1 1
                          have y12 := blk_cell x1 2
                          have y13 := blk_cell x1 3
                          have y20 := blk_cell x2 0
                          have y21 := blk_cell x2 1
                          have y22 := blk_cell x2 2
                          have y23 := blk_cell x2 3
                          simp only [List.getElem?_toArray, List.getElem?_cons_zero, List.getElem?_cons_succ] at y10 y11 y12 y13 y20 y21 y22 y23
                          have y30 := (l6.cell (p := ⟨g11, r * 4, none⟩) zg11).trans r0'
                          have y31 := (l6.cell (p := ⟨g11, r * 4 + 1, none⟩) zg11).trans r1'
                          have y32 := (l6.cell (p := ⟨g11, r * 4 + 2, none⟩) zg11).trans r2'
                          have y33 := (l6.cell (p := ⟨g11, r * 4 + 3, none⟩) zg11).trans r3'
                          have zx1 := at_lt x1
                          have zx2 := at_lt x2
                          have z6 := l6.size
                          have HX6 := hide (HX.out.trans (l6.mono zw))
                          have HL6 := hide l6
                          clear x1 x2 l6 r0' r1' r2' r3' m0' HX
                          generalize hgw1 : wr.heap.size + 1 = gw1 at *
                          generalize hgw : wr.heap.size = gw at *
                          have HGW := hide hgw
                          clear hgw hgw1
                          have q1 : (0 : Int) ≤ (r : Int) := by omega
                          have q2 : (r : Int) < 11 := by omega
                          have zg6 : g11 < W6.heap.size := by omega
                          go_region_held3 (fun W => W.cell? ⟨gw, 0, none⟩ = some (.int .u8 (a : Int)) ∧ W.cell? ⟨gw, 1, none⟩ = some (.int .i64 0) ∧ W.cell? ⟨gw, 2, none⟩ = some (.int .i64 0) ∧ W.cell? ⟨gw, 3, none⟩ = some (.slice none 0 0) ∧ W.cell? ⟨gw1, 0, none⟩ = some (.int .u8 (b : Int)) ∧ W.cell? ⟨gw1, 1, none⟩ = some (.int .i64 0) ∧ W.cell? ⟨gw1, 2, none⟩ = some (.int .i64 0) ∧ W.cell? ⟨gw1, 3, none⟩ = some (.slice Am zl zl) ∧ W.cell? ⟨g11, r * 4, none⟩ = some (.int .u8 rk) ∧ W.cell? ⟨g11, r * 4 + 1, none⟩ = some (.int .i64 lo) ∧ W.cell? ⟨g11, r * 4 + 2, none⟩ = some (.int .i64 hi) ∧ W.cell? ⟨g11, r * 4 + 3, none⟩ = some (.int .i64 sz)) (first | exact ⟨y10, y11, y12, y13, y20, y21, y22, y23, y30, y31, y32, y33⟩ | go_keep) (fail)
                          clear y10 y11 y12 y13 y20 y21 y22 y23 y30 y31 y32 y33
                          · go_wp2_with fail
                            refine name_world (fun W7 hW7 => ?_)
                            obtain ⟨x1, x2⟩ := two_boxes W6 (.cells #[.int .u8 (a : Int), .int .i64 0, .int .i64 0, .slice none 0 0, .int .u8 (b : Int), .int .i64 0, .int .i64 0, .slice Am zl zl] 46) (.cells #[.int .i64 1, .int .i64 0, .int .i64 0, .int .u8 0, .slice (some ⟨W6.heap.size, 0, none⟩) 2 2, .int .u8 rk, .int .i64 lo, .int .i64 hi, .int .i64 sz] 32)
                            have hr7 : W7.heap[W6.heap.size]? = some (.cells #[.int .u8 (a : Int), .int .i64 0, .int .i64 0, .slice none 0 0, .int .u8 (b : Int), .int .i64 0, .int .i64 0, .slice Am zl zl] 46 (0, 0)) := by rw [hW7]; exact x1
                            have hh7 : W7.heap[W6.heap.size + 1]? = some (.cells #[.int .i64 1, .int .i64 0, .int .i64 0, .int .u8 0, .slice (some ⟨W6.heap.size, 0, none⟩) 2 2, .int .u8 rk, .int .i64 lo, .int .i64 hi, .int .i64 sz] 32 (0, 0)) := by rw [hW7]; exact x2
                            have l7 : Below W6.heap.size W6 W7 := by rw [hW7]; exact (below2 W6 (.cells #[.int .u8 (a : Int), .int .i64 0, .int .i64 0, .slice none 0 0, .int .u8 (b : Int), .int .i64 0, .int .i64 0, .slice Am zl zl] 46) (.cells #[.int .i64 1, .int .i64 0, .int .i64 0, .int .u8 0, .slice (some ⟨W6.heap.size, 0, none⟩) 2 2, .int .u8 rk, .int .i64 lo, .int .i64 hi, .int .i64 sz] 32)).drew
                            clear hW7 x1 x2
                            generalize W6.heap.size + 1 = gh at *
                            generalize hgq : W6.heap.size = gr at *
                            have HGQ := hide hgq
                            clear hgq
                            have l17 : Below W3.heap.size wr W7 := (HL6.out.trans (l7.mono (by omega))).mono (by have := HGW.out; omega)
                            have hz17 : W3.heap.size ≤ W7.heap.size := by have := l7.size; have := HX6.out.size; have := HGQ.out; omega
                            have hlx : Rd W7 W7.heap.size 4 (some ⟨gr, 0, none⟩) 2 (xcells [⟨⟨(a : Int), 0, 0, []⟩, none, 0⟩, ⟨⟨(b : Int), 0, 0, lm⟩, Am, zl⟩]) :=
                              ⟨by simp [xcells, ArgX.cells], fun _ => ⟨_, rfl, at_lt hr7, fun j u hu => by rw [cell_add, blk_cell hr7]; simpa [xcells, ArgX.cells, HZL.out] using hu⟩⟩
                            have hok : ArgsOk W7 W7.heap.size [⟨⟨(a : Int), 0, 0, []⟩, none, 0⟩, ⟨⟨(b : Int), 0, 0, lm⟩, Am, zl⟩] := by
                              intro x hx
                              simp only [List.mem_cons, List.not_mem_nil, or_false] at hx
                              rcases hx with rfl | rfl
                              · dsimp only
                                exact ⟨Rd.nil, Nat.zero_le _, Nat.le_refl _, by unfold maxLen; omega, fun m hm => absurd hm (by simp)⟩
                              · dsimp only
                                exact ⟨by rw [HZL.out]; exact (HMR.out.below l17).mono hz17, by rw [HZL.out]; omega, by rw [HZL.out]; exact Nat.le_refl _, by unfold maxLen; omega, HMG.out⟩
                            have hA : Hid (∀ y : Later W7, Calls Try.prog 15 #[.agg #[.int .i64 1, .int .i64 0, .int .i64 0, .int .u8 0, .slice (some ⟨gr, 0, none⟩) 2 2, .int .u8 rk, .int .i64 lo, .int .i64 hi, .int .i64 sz]] y.w fun e w' => e = .returned (.int .i64 (helperM 1 0 0 0 rk lo hi sz [⟨⟨(a : Int), 0, 0, []⟩, none, 0⟩, ⟨⟨(b : Int), 0, 0, lm⟩, Am, zl⟩])) ∧ Below y.w.heap.size y.w w') := hide (fun y =>
                              helper_any 1 0 0 0 rk lo hi sz (some ⟨gr, 0, none⟩) 2 2 W7.heap.size [⟨⟨(a : Int), 0, 0, []⟩, none, 0⟩, ⟨⟨(b : Int), 0, 0, lm⟩, Am, zl⟩] y.w (hlx.below y.below) (hok.below y.below) y.below.size (by omega) (by omega) (by unfold maxLen; omega))
                            have hR : Hid (∀ y : Later W7, Calls Try.prog 16 #[.agg #[.int .i64 1, .int .i64 0, .int .i64 0, .int .u8 0, .slice (some ⟨gr, 0, none⟩) 2 2, .int .u8 rk, .int .i64 lo, .int .i64 hi, .int .i64 sz]] y.w fun e w' => e = .returned (.int .i64 (helperM 1 0 0 0 rk lo hi sz [⟨⟨(a : Int), 0, 0, []⟩, none, 0⟩, ⟨⟨(b : Int), 0, 0, lm⟩, Am, zl⟩])) ∧ Below y.w.heap.size y.w w') := hide (fun y =>
                              rhelper_any 1 0 0 rk lo hi sz (some ⟨gr, 0, none⟩) 2 2 W7.heap.size [⟨⟨(a : Int), 0, 0, []⟩, none, 0⟩, ⟨⟨(b : Int), 0, 0, lm⟩, Am, zl⟩] y.w (hlx.below y.below) (hok.below y.below) y.below.size (by omega) (by omega) (by unfold maxLen; omega))
                            have HX7 := hide (HX6.out.trans (l7.mono (by have := HX6.out.size; have := HGQ.out; omega)))
                            generalize helperM 1 0 0 0 rk lo hi sz [⟨⟨(a : Int), 0, 0, []⟩, none, 0⟩, ⟨⟨(b : Int), 0, 0, lm⟩, Am, zl⟩] = er at *
                            obtain ⟨d0, d1, d2, d3, d4, d5, d6, d7, d8⟩ := later9 hh7
                            have p1 : ((m : Int)).tmod 2 = (m : Int) % 2 := Int.tmod_eq_emod_of_nonneg (by omega)
                            clear hlx hok hr7 hh7 l7 l17 HX6 HL6
                            refine wp_region_later (by kernel_rfl) (by kernel_rfl) ?_
                            repeat (first | go_big_quiet_step (first | with_reducible exact Later.callsL _ hA.out | with_reducible exact Later.callsL _ hR.out) | (refine wpQuiet_step (fun K hK => ?_); go_simp; refine hK _ ?_; clear hK K))
                            refine wpQuiet_nil ?_
                            rintro _ ⟨x, rfl⟩
                            have HX8 := hide (HX7.out.trans (x.below.mono HX7.out.size))
                            clear d0 d1 d2 d3 d4 d5 d6 d7 d8 hA hR HX7 dr
                            go_wp2
                            go_roundw
                            case rel => exact ⟨r + 1 + m % 2, by omega, by go_num, HX8.out⟩
                            case measure => simp [intOf]; omega
                          · go_wp2_with fail
                            refine name_world (fun W7 hW7 => ?_)
                            obtain ⟨x1, x2⟩ := two_boxes W6 (.cells #[.int .i64 1, .int .i64 0, .int .i64 0, .int .u8 0, .slice (some ⟨W6.heap.size + 1, 0, none⟩) 2 2, .int .u8 rk, .int .i64 lo, .int .i64 hi, .int .i64 sz] 32) (.cells #[.int .u8 (a : Int), .int .i64 0, .int .i64 0, .slice none 0 0, .int .u8 (b : Int), .int .i64 0, .int .i64 0, .slice Am zl zl] 46)
                            have hr7 : W7.heap[W6.heap.size + 1]? = some (.cells #[.int .u8 (a : Int), .int .i64 0, .int .i64 0, .slice none 0 0, .int .u8 (b : Int), .int .i64 0, .int .i64 0, .slice Am zl zl] 46 (0, 0)) := by rw [hW7]; exact x2
                            have hh7 : W7.heap[W6.heap.size]? = some (.cells #[.int .i64 1, .int .i64 0, .int .i64 0, .int .u8 0, .slice (some ⟨W6.heap.size + 1, 0, none⟩) 2 2, .int .u8 rk, .int .i64 lo, .int .i64 hi, .int .i64 sz] 32 (0, 0)) := by rw [hW7]; exact x1
                            have l7 : Below W6.heap.size W6 W7 := by rw [hW7]; exact (below2 W6 (.cells #[.int .i64 1, .int .i64 0, .int .i64 0, .int .u8 0, .slice (some ⟨W6.heap.size + 1, 0, none⟩) 2 2, .int .u8 rk, .int .i64 lo, .int .i64 hi, .int .i64 sz] 32) (.cells #[.int .u8 (a : Int), .int .i64 0, .int .i64 0, .slice none 0 0, .int .u8 (b : Int), .int .i64 0, .int .i64 0, .slice Am zl zl] 46)).drew
                            clear hW7 x1 x2
                            generalize W6.heap.size + 1 = gr at *
                            generalize hgq : W6.heap.size = gh at *
                            have HGQ := hide hgq
                            clear hgq
                            have l17 : Below W3.heap.size wr W7 := (HL6.out.trans (l7.mono (by omega))).mono (by have := HGW.out; omega)
                            have hz17 : W3.heap.size ≤ W7.heap.size := by have := l7.size; have := HX6.out.size; have := HGQ.out; omega
                            have hlx : Rd W7 W7.heap.size 4 (some ⟨gr, 0, none⟩) 2 (xcells [⟨⟨(a : Int), 0, 0, []⟩, none, 0⟩, ⟨⟨(b : Int), 0, 0, lm⟩, Am, zl⟩]) :=
                              ⟨by simp [xcells, ArgX.cells], fun _ => ⟨_, rfl, at_lt hr7, fun j u hu => by rw [cell_add, blk_cell hr7]; simpa [xcells, ArgX.cells, HZL.out] using hu⟩⟩
                            have hok : ArgsOk W7 W7.heap.size [⟨⟨(a : Int), 0, 0, []⟩, none, 0⟩, ⟨⟨(b : Int), 0, 0, lm⟩, Am, zl⟩] := by
                              intro x hx
                              simp only [List.mem_cons, List.not_mem_nil, or_false] at hx
                              rcases hx with rfl | rfl
                              · dsimp only
                                exact ⟨Rd.nil, Nat.zero_le _, Nat.le_refl _, by unfold maxLen; omega, fun m hm => absurd hm (by simp)⟩
                              · dsimp only
                                exact ⟨by rw [HZL.out]; exact (HMR.out.below l17).mono hz17, by rw [HZL.out]; omega, by rw [HZL.out]; exact Nat.le_refl _, by unfold maxLen; omega, HMG.out⟩
                            have hA : Hid (∀ y : Later W7, Calls Try.prog 15 #[.agg #[.int .i64 1, .int .i64 0, .int .i64 0, .int .u8 0, .slice (some ⟨gr, 0, none⟩) 2 2, .int .u8 rk, .int .i64 lo, .int .i64 hi, .int .i64 sz]] y.w fun e w' => e = .returned (.int .i64 (helperM 1 0 0 0 rk lo hi sz [⟨⟨(a : Int), 0, 0, []⟩, none, 0⟩, ⟨⟨(b : Int), 0, 0, lm⟩, Am, zl⟩])) ∧ Below y.w.heap.size y.w w') := hide (fun y =>
                              helper_any 1 0 0 0 rk lo hi sz (some ⟨gr, 0, none⟩) 2 2 W7.heap.size [⟨⟨(a : Int), 0, 0, []⟩, none, 0⟩, ⟨⟨(b : Int), 0, 0, lm⟩, Am, zl⟩] y.w (hlx.below y.below) (hok.below y.below) y.below.size (by omega) (by omega) (by unfold maxLen; omega))
                            have hR : Hid (∀ y : Later W7, Calls Try.prog 16 #[.agg #[.int .i64 1, .int .i64 0, .int .i64 0, .int .u8 0, .slice (some ⟨gr, 0, none⟩) 2 2, .int .u8 rk, .int .i64 lo, .int .i64 hi, .int .i64 sz]] y.w fun e w' => e = .returned (.int .i64 (helperM 1 0 0 0 rk lo hi sz [⟨⟨(a : Int), 0, 0, []⟩, none, 0⟩, ⟨⟨(b : Int), 0, 0, lm⟩, Am, zl⟩])) ∧ Below y.w.heap.size y.w w') := hide (fun y =>
                              rhelper_any 1 0 0 rk lo hi sz (some ⟨gr, 0, none⟩) 2 2 W7.heap.size [⟨⟨(a : Int), 0, 0, []⟩, none, 0⟩, ⟨⟨(b : Int), 0, 0, lm⟩, Am, zl⟩] y.w (hlx.below y.below) (hok.below y.below) y.below.size (by omega) (by omega) (by unfold maxLen; omega))
                            have HX7 := hide (HX6.out.trans (l7.mono (by have := HX6.out.size; have := HGQ.out; omega)))
                            generalize helperM 1 0 0 0 rk lo hi sz [⟨⟨(a : Int), 0, 0, []⟩, none, 0⟩, ⟨⟨(b : Int), 0, 0, lm⟩, Am, zl⟩] = er at *
                            obtain ⟨d0, d1, d2, d3, d4, d5, d6, d7, d8⟩ := later9 hh7
                            have p1 : ((m : Int)).tmod 2 = (m : Int) % 2 := Int.tmod_eq_emod_of_nonneg (by omega)
                            clear hlx hok hr7 hh7 l7 l17 HX6 HL6
                            refine wp_region_later (by kernel_rfl) (by kernel_rfl) ?_
                            repeat (first | go_big_quiet_step (first | with_reducible exact Later.callsL _ hA.out | with_reducible exact Later.callsL _ hR.out) | (refine wpQuiet_step (fun K hK => ?_); go_simp; refine hK _ ?_; clear hK K))
                            refine wpQuiet_nil ?_
                            rintro _ ⟨x, rfl⟩
                            have HX8 := hide (HX7.out.trans (x.below.mono HX7.out.size))
                            clear d0 d1 d2 d3 d4 d5 d6 d7 d8 hA hR HX7 dr
                            go_wp2
                            go_roundw
                            case rel => exact ⟨r + 1 + m % 2, by omega, by go_num, HX8.out⟩
                            case measure => simp [intOf]; omega

                    · have dr : decide ((r : Int) < 11) = false := by simp; omega
                      go_wp2
                      go_roundw
                      case rel => exact ⟨m + 1, by omega, by go_num, HX.out⟩
                      case measure => simp [intOf]; omega
                · have dm : decide ((m : Int) < 11) = false := by simp; omega
                  go_wp2
                  go_roundw
                  case rel => exact ⟨b + 1, by omega, by go_num, HX.out⟩
                  case measure => simp [intOf]; omega
            · have db : decide ((b : Int) < 11) = false := by simp; omega
              go_wp2
              go_roundw
              case rel => exact ⟨a + 1, by omega, by go_num, HX.out⟩
              case measure => simp [intOf]; omega
        · have da : decide ((a : Int) < 11) = false := by simp; omega
          have HX5 := hide (HX4.out.trans (HX.out.mono HX4.out.size))
          clear HX HM HRT HX4
          go_wp2
          go_ret
          exact ⟨rfl, HX5.out⟩
end Go.Proofs.Ytedjmgiblkjonaa
