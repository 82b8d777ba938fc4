/-
  The document's examples: as they must be.
-/
import Derived.Test.YthefgfcjjbjjkaaTW
namespace Go.Proofs.Ythefgfcjjbjjkaa
open Go.RowKit
set_option linter.unusedVariables false
set_option linter.unusedSimpArgs false

def lonF (f : List Bool → Option Nat) (b : List Bool) : Nat → Option Nat
  | 0 => none
  | j + 1 => (f (b.take j)).or (lonF f b j)
theorem lonI_eq {P : List PL} {f : List Bool → Option Nat} (h : ∀ q, findP P q = f q) (b : List Bool) : ∀ j, lonI P b j = lonF f b j
  | 0 => rfl
  | j + 1 => by unfold lonI lonF; rw [h, lonI_eq h b j]
theorem find_put2 {P : List PL} {i g : Nat} {r : PL} {l d : List Int} {q : List Bool} (ho : OneP P) (hr : P[i]? = some r) (hk : r.k = none) (hn : findP P (kb l) = none) : findP (P.set i { r with k := some (g, l), v := d }) q = if q = kb l then some i else findP P q := by
  rw [← find_put (g := g) (l := l) ho hr hk hn, ← List.set_set (a := { r with k := some (g, l) })]
  exact find_same (r := { r with k := some (g, l) }) (x := { r with k := some (g, l), v := d }) (one_put ho hr hn) rfl (set_at hr)
def ek (b : Int) (l : List Int) : List Int := [b, 0, 0, 0] ++ l
/-- A key's row and a value's, both of the call's own: the trie's blocks are others. -/
theorem upd_ex {B i gk c : Nat} {t : TP} {P : List PL} {N : List Bool → Nat} {W0 W1 W2 : World} {b x : Int} {l : List Int} (h : Tri W0 B t P N) (hb1 : Below W0.heap.size W0 W1) (hks : t.ks = 8) (hsz : t.sz = 1) (hl : l.length = 4) (hby : ∀ y ∈ ek b l, IsByte y)
    (hkt : OwnB W2 W1.heap.size (.slice (some ⟨gk, 0, none⟩) (4 + l.length) c) (4 + l.length) ([b, 0, 0, 0] ++ l)) (hb2 : Below W1.heap.size W1 W2) (hr : bcN (ek b l) ≤ 32) (hf : findP P (kb (ek b l)) = none) (hfr : freeP P = some i) :
    Calls Try.prog 26 #[.pointer (some ⟨t.tb, 0, none⟩), .slice (some ⟨gk, 0, none⟩) 8 c, .slice (some ⟨W2.heap.size, 0, none⟩) 1 1, .int .u64 0] (W2.alloc (.cells #[.int .u8 x] 5)) fun e w' => e = .returned (.int .i64 0) ∧ ∃ r g' N' l', P[i]? = some r ∧ r.k = none ∧ kb l' = kb (ek b l) ∧ TGo B t P N (P.set i { r with k := some (g', l'), v := [x] }) N' W0 w' := by
  have hb3 := below1 W2 (.cells #[.int .u8 x] 5)
  have hb12 : Below W0.heap.size W0 W2 := hb1.trans (hb2.mono hb1.size)
  have hbw : Below W0.heap.size W0 (W2.alloc (.cells #[.int .u8 x] 5)) := hb12.trans (hb3.mono hb12.size)
  have hT := h.below (Nat.le_refl _) hbw
  have hlt := h.lt
  have hg := hkt.2 gk rfl
  have h8 : 4 + l.length = 8 := by omega
  rw [h8] at hkt
  have hrd : Rd W2 (gk + 1) 1 (some ⟨gk, 0, none⟩) 8 (u8s ([b, 0, 0, 0] ++ l)) := Rd.of_owns hkt.1
  have hglt : gk + 1 ≤ W2.heap.size := row_lt (w := W2) (g := gk) (cap := c) (e := 5) (sz := 1) (n := 8) hkt.1
  have hKR : KR (W2.alloc (.cells #[.int .u8 x] 5)) (some ⟨gk, 0, none⟩) t.ks c (ek b l) := by
    rw [hks]
    exact ⟨(hrd.below (hb3.mono hglt)).mono (Nat.le_trans hglt hb3.size), own_cap hkt.1, hby⟩
  have hap : ∀ ad : Addr, some (⟨gk, 0, none⟩ : Addr) = some ad → ¬ OfT t P N ad.block := fun ad e h2 => by
    injection e with e
    subst e
    have := hlt _ h2
    have h3 := hb1.size
    simp at this
    omega
  have hval : Rd (W2.alloc (.cells #[.int .u8 x] 5)) (W2.heap.size + 1) 1 (some ⟨W2.heap.size, 0, none⟩) t.sz (u8s [x]) := by
    rw [hsz]
    exact Rd.of_owns (owns_lit W2 [x] (by simp))
  have hap2 : ∀ ad : Addr, some (⟨W2.heap.size, 0, none⟩ : Addr) = some ad → ¬ OfT t P N ad.block := fun ad e h2 => by
    injection e with e
    subst e
    have := hlt _ h2
    have h3 := hb12.size
    simp at this
    omega
  have hu := upd_new B t P N (some ⟨gk, 0, none⟩) (some ⟨W2.heap.size, 0, none⟩) c t.sz 1 (W2.heap.size + 1) 0 (ek b l) [x] _ hT hKR (by rw [hks]; exact hr) hap hval (by simp) hap2 i hf hfr (by omega) (by omega)
  rw [hks, hsz] at hu
  refine hu.mono ?_
  rintro e w' ⟨rfl, r, g', N', h1, h2, h3⟩
  exact ⟨rfl, r, g', N', _, h1, h2, kb_plL (by omega) (by omega), TGo.after hbw h3 hlt⟩
theorem look_ex {B gk c : Nat} {t : TP} {P : List PL} {N : List Bool → Nat} {W0 W1 W2 : World} {b n er : Int} {l : List Int} (h : Tri W0 B t P N) (hb1 : Below W0.heap.size W0 W1) (hl : l.length = 4) (hby : ∀ y ∈ ek b l, IsByte y)
    (hkt : OwnB W2 W1.heap.size (.slice (some ⟨gk, 0, none⟩) (4 + l.length) c) (4 + l.length) ([b, 0, 0, 0] ++ l)) (hb2 : Below W1.heap.size W1 W2) (hlk : lookE t.ks P (ek b l) = (n, er)) :
    Calls Try.prog 13 #[.pointer (some ⟨t.tb, 0, none⟩), .slice (some ⟨gk, 0, none⟩) 8 c] W2 fun e w' => e = .returned (.tuple #[.int .i64 n, .int .i64 er]) ∧ Below W0.heap.size W0 w' := by
  have hb12 : Below W0.heap.size W0 W2 := hb1.trans (hb2.mono hb1.size)
  have h8 : 4 + l.length = 8 := by omega
  rw [h8] at hkt
  have hrd : Rd W2 (gk + 1) 1 (some ⟨gk, 0, none⟩) 8 (u8s ([b, 0, 0, 0] ++ l)) := Rd.of_owns hkt.1
  have hglt : gk + 1 ≤ W2.heap.size := row_lt (w := W2) (g := gk) (cap := c) (e := 5) (sz := 1) (n := 8) hkt.1
  have hKR : KR W2 (some ⟨gk, 0, none⟩) 8 c (ek b l) := ⟨hrd.mono hglt, own_cap hkt.1, hby⟩
  refine (lookup_any B t P N _ 8 c (ek b l) W2 (h.below (Nat.le_refl _) hb12) hKR).mono ?_
  rintro e w' ⟨rfl, hb⟩
  rw [hlk]
  exact ⟨rfl, hb12.trans (hb.mono hb12.size)⟩
def k1 : List Int := ek 8 [10, 0, 0, 0]
def k2 : List Int := ek 16 [10, 1, 0, 0]
def f0 (_ : List Bool) : Option Nat := none
def f1 (q : List Bool) : Option Nat := if q = kb k1 then some 0 else none
def f2 (q : List Bool) : Option Nat := if q = kb k2 then some 1 else if q = kb k1 then some 0 else none
theorem ex_byte {b : Int} {l : List Int} (h : ((ek b l).all fun y => decide (0 ≤ y) && decide (y < 256)) = true) : ∀ y ∈ ek b l, IsByte y := fun y hy => by
  have := List.all_eq_true.1 h y hy
  simp at this
  exact this
def lkO (o : Option Nat) : Int × Int := match o with | some i => ((i : Int), 0) | none => (0, 6)
theorem ex_look {ks : Nat} {P : List PL} {k : List Int} {o : Option Nat} (hf : ∀ q, findP P q = f2 q) (hks : ks = 8) (hr : refE 8 k = 0) (hl : lonF f2 (kb k) ((kb k).length + 1) = o) : lookE ks P k = lkO o := by
  subst hks
  subst hl
  unfold lookE
  rw [if_pos hr, lonI_eq hf]
  generalize lonF f2 (kb k) ((kb k).length + 1) = o
  cases o <;> rfl
theorem key4_any (b x0 x1 x2 x3 : Int) (w : World) (hb : 0 ≤ b ∧ b < 256) :
    Calls Try.prog 32 #[.int .i64 b, .slice (some ⟨w.heap.size, 0, none⟩) 4 4] (w.alloc (.cells #[.int .u8 x0, .int .u8 x1, .int .u8 x2, .int .u8 x3] 5)) fun e w' => ∃ g c, e = .returned (.slice (some ⟨g, 0, none⟩) 8 c) ∧
      OwnB w' (w.alloc (.cells #[.int .u8 x0, .int .u8 x1, .int .u8 x2, .int .u8 x3] 5)).heap.size (.slice (some ⟨g, 0, none⟩) (4 + [x0, x1, x2, x3].length) c) (4 + [x0, x1, x2, x3].length) ([b, 0, 0, 0] ++ [x0, x1, x2, x3]) ∧ Below (w.alloc (.cells #[.int .u8 x0, .int .u8 x1, .int .u8 x2, .int .u8 x3] 5)).heap.size (w.alloc (.cells #[.int .u8 x0, .int .u8 x1, .int .u8 x2, .int .u8 x3] 5)) w' := by
  have hr : Rd (w.alloc (.cells (u8s [x0, x1, x2, x3]).toArray 5)) (w.heap.size + 1) 1 (some ⟨w.heap.size, 0, none⟩) [x0, x1, x2, x3].length (u8s [x0, x1, x2, x3]) := Rd.of_owns (owns_lit w [x0, x1, x2, x3] (by simp))
  refine (key_any b (some ⟨w.heap.size, 0, none⟩) 4 (w.heap.size + 1) [x0, x1, x2, x3] _ hb hr (by simp) (by simp) nofun).mono ?_
  rintro e w' ⟨g, c, rfl, h1, _, h2⟩
  exact ⟨g, c, rfl, h1, h2⟩
set_option maxRecDepth 100000 in
set_option maxHeartbeats 4000000 in
theorem awake_any (w : World) : Calls Try.prog 7 #[] w fun e w' => e = .returned (.bool true) ∧ Below w.heap.size w w' := by
  have hn := new_yes 4 8 1 w (by decide) (by decide) (by decide) (by decide)
  have HN := hide hn
  clear hn
  go_enter Try.func7, Try.ntmps7
  go_wp2_with (go_at_call 9; refine stop_here ?_)
  show Hid _
  refine start_here ?_
  refine HN.out.mono ?_
  rintro e W0 ⟨t, s, N, rfl, hT, hks, hsz, htn, hb0⟩
  have HT := hide hT
  have HP := hide (And.intro hks (And.intro hsz htn))
  have HB := hide hb0
  clear hT hks hsz htn hb0
  have h0f : ∀ q, findP (zPLs s 1 4) q = none := fun q => findP_no (fun i r hi hk => by rw [zPLs_key hi] at hk; cases hk)
  have hr0 : (zPLs s 1 4)[0]? = some (zPL 1 (s + 0)) := rfl
  have hfr0 : freeP (zPLs s 1 4) = some 0 := freeP_is hr0 rfl (fun j s' hj => by omega)
  have H0F := hide h0f
  have HFR0 := hide hfr0
  clear h0f hfr0 hr0
  go_wp2_with (go_at_call 32; refine stop_here ?_)
  show Hid _
  refine start_here ?_
  refine (key4_any 8 10 0 0 0 _ (by decide)).mono ?_
  rintro e V1 ⟨gk1, c1, rfl, hkt1, hkb1⟩
  have HKT1 := hide hkt1
  have HKB1 := hide hkb1
  clear hkt1 hkb1
  go_wp2_with (go_at_call 26; refine stop_here ?_)
  show Hid _
  refine start_here ?_
  refine (upd_ex (i := 0) (x := 1) HT.out (below1 W0 (.cells #[.int .u8 10, .int .u8 0, .int .u8 0, .int .u8 0] 5)) HP.out.1 HP.out.2.1 rfl (ex_byte (by decide)) HKT1.out HKB1.out (by decide) (H0F.out _) HFR0.out).mono ?_
  rintro e W1 ⟨rfl, r1, g1, N1, l1, hr1, hrk1, hkl1, hgo1⟩
  have ho0 := HT.out.one
  have hf1 : ∀ q, findP ((zPLs s 1 4).set 0 { r1 with k := some (g1, l1), v := [1] }) q = f1 q := fun q => by
    rw [find_put2 ho0 hr1 hrk1 (by rw [hkl1]; exact H0F.out _), H0F.out, hkl1]
    rfl
  have hn1 : ((zPLs s 1 4).set 0 { r1 with k := some (g1, l1), v := [1] })[1]? = some (zPL 1 (s + 1)) := rfl
  have hfr1 : freeP ((zPLs s 1 4).set 0 { r1 with k := some (g1, l1), v := [1] }) = some 1 := freeP_is hn1 rfl (fun j s' hj hs => by
    obtain rfl : j = 0 := by omega
    rw [set_at hr1] at hs
    injection hs with hs
    subst hs
    simp)
  have HF1 := hide hf1
  have HFR1 := hide hfr1
  have HGO1 := hide hgo1
  clear hf1 hfr1 hn1 hgo1 hr1 hrk1 hkl1 ho0
  generalize (zPLs s 1 4).set 0 { r1 with k := some (g1, l1), v := [1] } = P1 at *
  go_wp2_with (go_at_call 32; refine stop_here ?_)
  show Hid _
  refine start_here ?_
  refine (key4_any 16 10 1 0 0 _ (by decide)).mono ?_
  rintro e V2 ⟨gk2, c2, rfl, hkt2, hkb2⟩
  have HKT2 := hide hkt2
  have HKB2 := hide hkb2
  clear hkt2 hkb2
  go_wp2_with (go_at_call 26; refine stop_here ?_)
  show Hid _
  refine start_here ?_
  refine (upd_ex (i := 1) (x := 2) HGO1.out.1 (below1 W1 (.cells #[.int .u8 10, .int .u8 1, .int .u8 0, .int .u8 0] 5)) HP.out.1 HP.out.2.1 rfl (ex_byte (by decide)) HKT2.out HKB2.out (by decide) ((HF1.out _).trans (by decide +kernel)) HFR1.out).mono ?_
  rintro e W2 ⟨rfl, r2, g2, N2, l2, hr2, hrk2, hkl2, hgo2⟩
  have hf2 : ∀ q, findP (P1.set 1 { r2 with k := some (g2, l2), v := [2] }) q = f2 q := fun q => by
    rw [find_put2 HGO1.out.1.one hr2 hrk2 (by rw [hkl2]; exact (HF1.out _).trans (by decide +kernel)), HF1.out, hkl2]
    rfl
  have HF2 := hide hf2
  have HGO2 := hide hgo2
  clear hf2 hgo2 hr2 hrk2 hkl2
  generalize P1.set 1 { r2 with k := some (g2, l2), v := [2] } = P2 at *
  go_wp2_with (go_at_call 32; refine stop_here ?_)
  show Hid _
  refine start_here ?_
  refine (key4_any 32 10 1 2 3 _ (by decide)).mono ?_
  rintro e V3 ⟨gk3, c3, rfl, hkt3, hkb3⟩
  have HKT3 := hide hkt3
  have HKB3 := hide hkb3
  clear hkt3 hkb3
  go_wp2_with (go_at_call 13; refine stop_here ?_)
  show Hid _
  refine start_here ?_
  refine (look_ex (n := 1) (er := 0) HGO2.out.1 (below1 W2 (.cells #[.int .u8 10, .int .u8 1, .int .u8 2, .int .u8 3] 5)) rfl (ex_byte (by decide)) HKT3.out HKB3.out ((ex_look (o := some 1) HF2.out HP.out.1 (by decide) (by decide +kernel)).trans rfl)).mono ?_
  rintro e W3 ⟨rfl, hlb3⟩
  have HLB3 := hide hlb3
  have HT3 := hide ((HGO2.out.1).below (Nat.le_refl _) hlb3)
  clear hlb3
  go_wp2_with (go_at_call 32; refine stop_here ?_)
  show Hid _
  refine start_here ?_
  refine (key4_any 32 10 2 0 0 _ (by decide)).mono ?_
  rintro e V4 ⟨gk4, c4, rfl, hkt4, hkb4⟩
  have HKT4 := hide hkt4
  have HKB4 := hide hkb4
  clear hkt4 hkb4
  go_wp2_with (go_at_call 13; refine stop_here ?_)
  show Hid _
  refine start_here ?_
  refine (look_ex (n := 0) (er := 0) HT3.out (below1 W3 (.cells #[.int .u8 10, .int .u8 2, .int .u8 0, .int .u8 0] 5)) rfl (ex_byte (by decide)) HKT4.out HKB4.out ((ex_look (o := some 0) HF2.out HP.out.1 (by decide) (by decide +kernel)).trans rfl)).mono ?_
  rintro e W4 ⟨rfl, hlb4⟩
  have HLB4 := hide hlb4
  have HT4 := hide ((HT3.out).below (Nat.le_refl _) hlb4)
  clear hlb4
  go_wp2_with (go_at_call 32; refine stop_here ?_)
  show Hid _
  refine start_here ?_
  refine (key4_any 32 11 0 0 0 _ (by decide)).mono ?_
  rintro e V5 ⟨gk5, c5, rfl, hkt5, hkb5⟩
  have HKT5 := hide hkt5
  have HKB5 := hide hkb5
  clear hkt5 hkb5
  go_wp2_with (go_at_call 13; refine stop_here ?_)
  show Hid _
  refine start_here ?_
  refine (look_ex (n := 0) (er := 6) HT4.out (below1 W4 (.cells #[.int .u8 11, .int .u8 0, .int .u8 0, .int .u8 0] 5)) rfl (ex_byte (by decide)) HKT5.out HKB5.out ((ex_look (o := none) HF2.out HP.out.1 (by decide) (by decide +kernel)).trans rfl)).mono ?_
  rintro e W5 ⟨rfl, hlb5⟩
  have HLB5 := hide hlb5
  have HT5 := hide ((HT4.out).below (Nat.le_refl _) hlb5)
  clear hlb5
  go_wp2
  go_ret
  have h1 : Below w.heap.size w W1 := HB.out.trans (HGO1.out.2.1.to_below (fun g hg ho => by have := HT.out.low g ho; omega) HB.out.size)
  have h2 : Below w.heap.size w W2 := h1.trans (HGO2.out.2.1.to_below (fun g hg ho => by have := HGO1.out.1.low g ho; omega) h1.size)
  have h3 := h2.trans (HLB3.out.mono h2.size)
  have h4 := h3.trans (HLB4.out.mono h3.size)
  exact ⟨rfl, h4.trans (HLB5.out.mono h4.size)⟩
end Go.Proofs.Ythefgfcjjbjjkaa
