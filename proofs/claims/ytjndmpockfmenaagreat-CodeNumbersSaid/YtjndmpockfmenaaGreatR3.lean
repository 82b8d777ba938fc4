/-
  The reference's Get, at bytes in eights.
-/
import Derived.Test.YtjndmpockfmenaaGreatR2
import Derived.Deep.RegionHeld3
namespace Go.Proofs.YtjndmpockfmenaaGreat
open Go.RowKit
set_option linter.unusedVariables false

theorem step_append_rd {P : Program} (w : World) {ops : Array Oper} {o : Oper} {a : Act} {K : Act → World → Prop} {Q : Exit → Act → World → Prop} {E : Prop} (hgd : o.guard = none) (s x : Operand) (t : TypeId)
    (ho : o.op = .call { callee := .builtin .append, args := #[s, x], argTypes := #[t, t] })
    (e : TypeId) (i : TypeInfo) (z : Value) (sz bytes : Nat) (ht : P.underlying t = some (.slice e)) (hi : P.info? e = some i) (hz : i.zero = some z)
    (hsize : i.size = sz) (hby : i.bytes = bytes) (hzs : z.cells.size = sz) (hsz : 0 < sz)
    (v : Value) (n : Nat) (xs : List Value) (hs : a.eval s = v) (hown : w.ownsRow 0 e sz v n xs)
    (B : Nat) (A : Option Addr) (m c : Nat) (news : List Value) (hx : a.eval x = .slice A m c) (hr : Rd w B sz A m news) (hA : A = none → m = 0) (h1 : ∀ u ∈ news, u.oneCell' = true)
    (h63 : n + m ≤ maxLen) (hbytes : (n + m) * bytes ≤ 140737488355328)
    (h : ∀ v' w', Longer w w' e sz v v' (n + m) (xs ++ news) → K (a.put o.dst v') w') :
    if Region.wanted o (yielded ops a.tmps) = true then Oper.wp P o a w K Q else E := by
  have hw : Region.wanted o (yielded ops a.tmps) = true := by simp [Region.wanted, hgd]
  rw [if_pos hw]
  obtain ⟨v', w', hrun, hl⟩ := run_append_rd (P := P) w t o.type e i z sz bytes ht hi hz hsize hby hzs hsz v n xs hown B A m c news hr hA h1 h63 hbytes
  unfold Oper.wp execOp
  simp only [ho, resolve, invoke, builtin, Sem.run_bind, Sem.run_pure, Result.andThen_ok, List.map_toArray, List.map_cons, List.map_nil, hs, hx, hrun]
  exact h v' w' hl
theorem five_one (a b c d e : Value) (h0 : a.oneCell' = true) (h1 : b.oneCell' = true) (h2 : c.oneCell' = true) (h3 : d.oneCell' = true) (h4 : e.oneCell' = true) : ∀ u ∈ [a, b, c, d, e], u.oneCell' = true := by
  intro u hu
  simp only [List.mem_cons, List.not_mem_nil, or_false] at hu
  rcases hu with rfl | rfl | rfl | rfl | rfl <;> assumption
theorem after_append {b : Nat} {w W w9 : World} {o : Obj} {e : TypeId} {sz n : Nat} {u v : Value} {xs : List Value} (hb : Below b w W) (hs : b ≤ W.heap.size) (hv : ∀ g, u.ownBlock = some g → b ≤ g) (hl : Longer (W.alloc o).drew w9 e sz u v n xs) : Below b w w9 ∧ ∀ g, v.ownBlock = some g → b ≤ g :=
  ⟨longer_below (hb.alloc hs o).drew (by simp; omega) hv hl, longer_from hl (by simp; omega) hv⟩
theorem new_slotR (w : World) (cs : List Value) (h : cs.length = 5) : Rd (w.alloc (.cells cs.toArray 27)) (w.heap.size + 1) 5 (some ⟨w.heap.size, 0, none⟩) 1 cs := cells_rd w cs 27 5 1 (by omega)
theorem new_slotR_d (w : World) (cs : List Value) (h : cs.length = 5) : Rd (w.alloc (.cells cs.toArray 27)).drew (w.heap.size + 1) 5 (some ⟨w.heap.size, 0, none⟩) 1 cs := (new_slotR w cs h).kept fun _ _ => rfl
theorem new_slotR_e (w : World) (cs : List Value) (h : cs.length = 5) : Rd (w.drew.alloc (.cells cs.toArray 27)) (w.heap.size + 1) 5 (some ⟨w.heap.size, 0, none⟩) 1 cs := new_slotR w.drew cs h
theorem append_slot (wy : World) (v0 v1 v2 v3 v4 : Value) (h0 : v0.oneCell' = true) (h1 : v1.oneCell' = true) (h2 : v2.oneCell' = true) (h3 : v3.oneCell' = true) (h4 : v4.oneCell' = true) (u : Value) (k : Nat) (xs : List Value) (hO : wy.ownsRow 0 27 5 u k xs) (hk : k ≤ 4096)
    {ops : Array Oper} {o : Oper} {a : Act} {K : Act → World → Prop} {Q : Exit → Act → World → Prop} {E : Prop} (hgd : o.guard = none) (ho : o.op = .call { callee := .builtin .append, args := #[.tmp 65, .tmp 87], argTypes := #[28, 28] })
    (hs : a.eval (.tmp 65) = u) (hx : a.eval (.tmp 87) = .slice (some ⟨wy.heap.size, 0, none⟩) 1 1)
    (h : ∀ v' w', Longer (wy.alloc (.cells #[v0, v1, v2, v3, v4] 27)).drew w' 27 5 u v' (k + 1) (xs ++ [v0, v1, v2, v3, v4]) → K (a.put o.dst v') w') :
    if Region.wanted o (yielded ops a.tmps) = true then Oper.wp Tryz.prog o a (wy.alloc (.cells #[v0, v1, v2, v3, v4] 27)).drew K Q else E := by
  obtain ⟨i0, hi, hz0, hz1, hz2⟩ := info_parts slotInfo
  exact step_append_rd _ hgd (.tmp 65) (.tmp 87) 28 ho 27 i0 _ 5 12 Tryz.underlying28 hi hz0 hz1 hz2 rfl (by decide) u k xs hs (World.ownsRow.alloc hO _) (wy.heap.size + 1) (some ⟨wy.heap.size, 0, none⟩) 1 1 [v0, v1, v2, v3, v4] hx (new_slotR_d wy _ rfl) nofun (five_one _ _ _ _ _ h0 h1 h2 h3 h4) (by simp only [maxLen]; omega) (by omega) h
theorem ref_slot (b0 b1 b2 b3 b4 b5 b6 b7 : Int) (h0 : 0 ≤ b0 ∧ b0 < 256) (h1 : 0 ≤ b1 ∧ b1 < 256) (h2 : 0 ≤ b2 ∧ b2 < 256) (h3 : 0 ≤ b3 ∧ b3 < 256) (h4 : 0 ≤ b4 ∧ b4 < 256) (h5 : 0 ≤ b5 ∧ b5 < 256) (h6 : 0 ≤ b6 ∧ b6 < 256) (h7 : 0 ≤ b7 ∧ b7 < 256) :
    (slotOf b0 b1 b2 b3 b4 b5 b6 b7).cells = [.int .u8 b0, .int .u8 (b1.tmod 16), .int .u8 (IntKind.u8.wrap (b1.tdiv 16)), .int .i16 (IntKind.i16.wrap (IntKind.u16.wrap (IntKind.u16.wrap b2 + IntKind.u16.wrap (IntKind.u16.wrap b3 * 256)))), .int .i32 (IntKind.i32.wrap ((b4 + b5 % 4294967296 * 256 + b6 % 4294967296 * 65536 + b7 % 4294967296 * 16777216) % 4294967296))] := by
  have e1 : b1.tmod 16 = b1 % 16 := Int.tmod_eq_emod_of_nonneg h1.1
  have e2 : IntKind.u8.wrap (b1.tdiv 16) = b1 / 16 := by rw [Int.tdiv_eq_ediv_of_nonneg h1.1]; simp [IntKind.wrap, IntKind.bits, IntKind.signed]; omega
  unfold slotOf Ins.cells
  rw [e1, e2]
  simp only [List.cons.injEq, Value.int.injEq, true_and, and_true]
  refine ⟨?_, ?_⟩
  · simp [IntKind.wrap, IntKind.bits, IntKind.signed]
    omega
  · simp [IntKind.wrap, IntKind.bits, IntKind.signed]
    omega
set_option maxRecDepth 100000 in
set_option maxHeartbeats 2000000 in
theorem refGet_right (A : Option Addr) (n m c B : Nat) (bs : List Int) (w : World) (h : Rd w B 1 A n (u8s bs)) (hB : B ≤ w.heap.size) (hn : n = 8 * m) (hm : m ≤ 4096) (hbs : ∀ b ∈ bs, IsByte b) :
    Calls Tryz.prog 7 #[.slice A n c] w fun e w' => ∃ v, e = .returned (.tuple #[v, .int .i64 0]) ∧ w'.ownsRow 0 27 5 v m (pcells (slots bs m)) ∧ Below w.heap.size w w' := by
  have hd : decide (32768 < (n : Int)) = false := by simp; omega
  have hd2 : ((n : Int) % 8 != 0) = false := by simp; omega
  have HN := hide hn
  obtain ⟨i0, hi, hz0, hz1, hz2⟩ := info_parts slotInfo
  have HBS := hide hbs
  have hlen : bs.length = n := by have := h.1; simpa [u8s] using this
  have HLEN := hide hlen
  have HH := hide h
  clear hn h hbs hlen
  go_enter Tryz.func7, Tryz.ntmps7
  go_wp2
  go_loopw [4, 5, 6, 7] (fun v p _ _ wr => ∃ k : Nat, k ≤ m ∧ p = .int .i64 (8 * k : Nat) ∧ wr.ownsRow 0 27 5 v k (pcells (slots bs k)) ∧ (∀ g, v.ownBlock = some g → w.heap.size ≤ g) ∧ Below w.heap.size w wr) (fun _ p _ _ _ => n - (intOf p).toNat)
  case atStart => exact ⟨0, Nat.zero_le _, rfl, World.ownsRow_nil _ _ _ _, by simp [Value.ownBlock], Below.refl _ _⟩
  case round =>
    obtain ⟨k, hk, rfl, hown, hblk, hb⟩ := hrel
    have HB := hide hb
    have HO := hide hown
    have HBL := hide hblk
    clear hb hown hblk
    by_cases hlt : 8 * k + 8 ≤ n
    · have hr := HH.out.below (HB.out.mono hB)
      obtain ⟨ad, rfl, _⟩ := hr.2 (by omega)
      have hg : ∀ i, 8 * k + i < n → IsByte (bs.getD (8 * k + i) 0) := fun i hi => by
        have hl := HLEN.out
        rw [List.getD_eq_getElem?_getD, List.getElem?_eq_getElem (by omega)]
        exact HBS.out _ (List.getElem_mem _)
      have HSL : Hid (slotAt bs k = slotOf (bs.getD (8 * k + 0) 0) (bs.getD (8 * k + 1) 0) (bs.getD (8 * k + 2) 0) (bs.getD (8 * k + 3) 0) (bs.getD (8 * k + 4) 0) (bs.getD (8 * k + 5) 0) (bs.getD (8 * k + 6) 0) (bs.getD (8 * k + 7) 0)) := rfl
      have g0 := hg 0 (by omega)
      have g1 := hg 1 (by omega)
      have g2 := hg 2 (by omega)
      have g3 := hg 3 (by omega)
      have g4 := hg 4 (by omega)
      have g5 := hg 5 (by omega)
      have g6 := hg 6 (by omega)
      have g7 := hg 7 (by omega)
      have C0 := hide (fun (W : World) (hW : Below w.heap.size w W) => byte_cell (HH.out.below (hW.mono hB)) (show 8 * k < n by omega))
      have C1 := hide (fun (W : World) (hW : Below w.heap.size w W) => byte_next (i := 8 * k) (HH.out.below (hW.mono hB)) (by omega))
      have C2 : Hid (∀ W : World, Below w.heap.size w W → W.cell? ⟨ad.block, ad.off + (8 * k + 1 + 1), none⟩ = some (.int .u8 (bs.getD (8 * k + 2) 0))) := fun W hW => byte_next (i := 8 * k + 1) (HH.out.below (hW.mono hB)) (by omega)
      have C3 : Hid (∀ W : World, Below w.heap.size w W → W.cell? ⟨ad.block, ad.off + (8 * k + 2 + 1), none⟩ = some (.int .u8 (bs.getD (8 * k + 3) 0))) := fun W hW => byte_next (i := 8 * k + 2) (HH.out.below (hW.mono hB)) (by omega)
      have C4 : Hid (∀ W : World, Below w.heap.size w W → W.cell? ⟨ad.block, ad.off + (8 * k + 3 + 1), none⟩ = some (.int .u8 (bs.getD (8 * k + 4) 0))) := fun W hW => byte_next (i := 8 * k + 3) (HH.out.below (hW.mono hB)) (by omega)
      have C5 : Hid (∀ W : World, Below w.heap.size w W → W.cell? ⟨ad.block, ad.off + (8 * k + 4 + 1), none⟩ = some (.int .u8 (bs.getD (8 * k + 5) 0))) := fun W hW => byte_next (i := 8 * k + 4) (HH.out.below (hW.mono hB)) (by omega)
      have C6 : Hid (∀ W : World, Below w.heap.size w W → W.cell? ⟨ad.block, ad.off + (8 * k + 5 + 1), none⟩ = some (.int .u8 (bs.getD (8 * k + 6) 0))) := fun W hW => byte_next (i := 8 * k + 5) (HH.out.below (hW.mono hB)) (by omega)
      have C7 : Hid (∀ W : World, Below w.heap.size w W → W.cell? ⟨ad.block, ad.off + (8 * k + 6 + 1), none⟩ = some (.int .u8 (bs.getD (8 * k + 7) 0))) := fun W hW => byte_next (i := 8 * k + 6) (HH.out.below (hW.mono hB)) (by omega)
      rw [show 8 * k + 0 = 8 * k by omega] at HSL g0
      generalize bs.getD (8 * k) 0 = b0 at C0 HSL g0
      generalize bs.getD (8 * k + 1) 0 = b1 at C1 HSL g1
      generalize bs.getD (8 * k + 2) 0 = b2 at C2 HSL g2
      generalize bs.getD (8 * k + 3) 0 = b3 at C3 HSL g3
      generalize bs.getD (8 * k + 4) 0 = b4 at C4 HSL g4
      generalize bs.getD (8 * k + 5) 0 = b5 at C5 HSL g5
      generalize bs.getD (8 * k + 6) 0 = b6 at C6 HSL g6
      generalize bs.getD (8 * k + 7) 0 = b7 at C7 HSL g7
      have hd3 : decide (8 * (k : Int) < (n : Int)) = true := by simp; omega
      have c2 := C2.out wr HB.out
      have c3 := C3.out wr HB.out
      go_wp2
      replace c2 := Later.cell c2
      replace c3 := Later.cell c3
      refine wp_region_later (by kernel_rfl) (by kernel_rfl) ?_
      repeat (go_big_quiet_step (fail))
      refine wpQuiet_nil ?_
      rintro _ ⟨x, rfl⟩
      have HB2 := hide (HB.out.trans (x.below.mono HB.out.size))
      have HO2 := hide ((Stays.of_below (B := 0) x.below).owns HO.out)
      generalize x.w = wx at *
      clear c2 c3 HB HO
      have c4 := C4.out _ HB2.out
      have c5 := C5.out _ HB2.out
      have c6 := C6.out _ HB2.out
      have c7 := C7.out _ HB2.out
      go_wp2
      replace c4 := Later.cell c4
      replace c5 := Later.cell c5
      replace c6 := Later.cell c6
      replace c7 := Later.cell c7
      refine wp_region_later (by kernel_rfl) (by kernel_rfl) ?_
      repeat (go_big_quiet_step (fail))
      refine wpQuiet_nil ?_
      rintro _ ⟨y, rfl⟩
      have HB3 := hide (HB2.out.trans (y.below.mono HB2.out.size))
      have HO3 := hide ((Stays.of_below (B := 0) y.below).owns HO2.out)
      generalize y.w = wy at *
      clear c4 c5 c6 c7 HB2 HO2
      have c0 := C0.out _ HB3.out
      have c1 := C1.out _ HB3.out
      go_wp2
      have hlow : ∀ p : Addr, p.block = ad.block → p.block < w.heap.size := fun p hp => by
        obtain ⟨ad', e, hlt', _⟩ := HH.out.2 (by omega)
        cases e
        omega
      have HLO := hide hlow
      clear hlow
      have q1 : (0 : Int) ≤ 8 * (k : Int) := by omega
      have q2 : 8 * (k : Int) < (n : Int) := by omega
      have q3 : (0 : Int) ≤ 8 * (k : Int) + 1 := by omega
      have q4 : 8 * (k : Int) + 1 < (n : Int) := by omega
      have q7 : IntKind.i64.wrap (8 * (k : Int) + 1) = 8 * (k : Int) + 1 := IntWalk.i64_in _ (by omega)
      have q5 : (8 * (k : Int)).toNat = 8 * k := by omega
      have q6 : (8 * (k : Int) + 1).toNat = 8 * k + 1 := by omega
      go_region_held3 (fun W => W.cell? (ad.add (8 * k)) = some (.int .u8 b0) ∧ W.cell? ⟨ad.block, ad.off + (8 * k + 1), none⟩ = some (.int .u8 b1)) (first | exact ⟨c0, c1⟩ | exact ⟨k0, k1⟩ | go_keep)
        (first | (refine append_slot wy _ _ _ _ _ (by rfl) (by rfl) (by rfl) (by rfl) (by rfl) u4 k _ HO3.out (Nat.le_trans hk hm) (by rfl) (by rfl) (by rfl) (by rfl) ?_; intro v9 w9 hl; have HAA := hide (after_append HB3.out HB3.out.size HBL.out hl); have HO9 := hide hl.1; clear hl; have k0 := C0.out w9 HAA.out.1; have k1 := C1.out w9 HAA.out.1))
      have HO10 : Hid (w9.ownsRow 0 27 5 v9 (k + 1) (pcells (slots bs (k + 1)))) := by
        show w9.ownsRow 0 27 5 v9 (k + 1) (pcells (slots bs (k + 1)))
        have h := HO9.out
        rw [← ref_slot b0 b1 b2 b3 b4 b5 b6 b7 g0 g1 g2 g3 g4 g5 g6 g7] at h
        have e : pcells (slots bs (k + 1)) = pcells (slots bs k) ++ (slotOf b0 b1 b2 b3 b4 b5 b6 b7).cells := by
          unfold slots
          rw [List.range_succ, List.map_append, List.map_singleton, HSL.out]
          simp [pcells]
        rw [e]
        exact h
      clear HO9 k0 k1 c0 c1 q1 q2 q3 q4 q5 q6 q7
      go_wp2
      go_roundw
      case rel => exact ⟨k + 1, by have := HN.out; omega, by first | (go_num; done) | (simp; omega), HO10.out, HAA.out.2, HAA.out.1⟩
      case measure => simp [intOf]; omega
    · have hkm : k = m := by have := HN.out; omega
      subst hkm
      have hd3 : decide (8 * (k : Int) < (n : Int)) = false := by have := HN.out; simp; omega
      go_wp2
      go_ret2
      exact ⟨_, rfl, HO.out, HB.out⟩
end Go.Proofs.YtjndmpockfmenaaGreat
