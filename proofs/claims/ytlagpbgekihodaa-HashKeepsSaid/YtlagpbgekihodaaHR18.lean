/-
  The chapter's example holds.
-/
import Derived.Test.YtlagpbgekihodaaHR17
import Derived.Lib.SmallJoins
namespace Go.Proofs.Ytlagpbgekihodaa
open Go.RowKit Go.Maps
set_option linter.unusedVariables false

theorem below1m (w : World) (l : List Value) (fr : Nat × Nat) : Below w.heap.size w (w.alloc (.cells l.toArray 5 fr)) := (Below.refl _ _).alloc (Nat.le_refl _) _
theorem Hsh.low_ {w w' : World} {B b cb mb ks sz : Nat} {L : List HS} (h : Hsh w B b cb mb ks sz L) (hk : Kept (fun g => ¬ OfH b cb mb sz L g) w w') (hB : B ≤ w.heap.size) : Below B w w' := hk.to_below (fun g hg ho => by have := h.low g ho; omega) hB
theorem spec_ex : specM 2 1 1 2 = 0 := by decide
/-- A byte that is written out. -/
def mk1 (w : World) (x : Int) : World := w.alloc (.cells (u8s [x]).toArray 5 (1, 2))
theorem krow_mark (w : World) (x : Int) (hx : IsByte x) : KRow (mk1 w x) (w.heap.size + 1) (some ⟨w.heap.size, 0, none⟩) 1 [x] := ⟨rd_mark w [x] 1 rfl (1, 2), (fun h => by cases h), (fun y hy => by simp at hy; subst hy; exact hx)⟩
theorem mk1_below (w : World) (x : Int) : Below w.heap.size w (mk1 w x) := below1m w (u8s [x]) (1, 2)
theorem mk1_size (w : World) (x : Int) : (mk1 w x).heap.size = w.heap.size + 1 := by simp [mk1]
theorem upd_ex {B b cb mb : Nat} {L : List HS} {W : World} (x y fl er : Int) (L' : List HS) (h : Hsh W B b cb mb 1 1 L) (hB : B ≤ W.heap.size) (hx : IsByte x) (he : updE 1 1 1 1 L (kb [x]) fl = er) (hl : updL 1 1 1 1 L (kb [x]) fl [y] = L') :
    Calls Try.prog 8 #[.pointer (some ⟨b, 0, none⟩), .slice (some ⟨W.heap.size, 0, none⟩) 1 1, .slice (some ⟨W.heap.size + 1, 0, none⟩) 1 1, .int .u64 fl] (mk1 (mk1 W x) y) fun e w' => e = .returned (.int .i64 er) ∧ Hsh w' B b cb mb 1 1 L' ∧ Below B W w' ∧ Kept (fun g => ¬ OfH b cb mb 1 L g) W w' := by
  have hb1 := mk1_below W x
  have hb2 := mk1_below (mk1 W x) y
  have hs1 := mk1_size W x
  have hs2 := mk1_size (mk1 W x) y
  have hb := hb1.trans (hb2.mono hb1.size)
  have hh := h.below hb
  have hk := (krow_mark W x hx).below (hb2.mono (by omega))
  have hd := rd_mark (mk1 W x) [y] 1 rfl (1, 2)
  rw [hs1] at hd
  have := upd_any B b cb mb 1 1 L (some ⟨W.heap.size, 0, none⟩) (some ⟨W.heap.size + 1, 0, none⟩) 1 1 (W.heap.size + 1 + 1) 1 1 fl [x] [y] (mk1 (mk1 W x) y) hh ⟨hk.rd.mono (by omega), hk.nil, hk.byte⟩ (by omega) hd
  rw [he, hl] at this
  refine this.mono ?_
  rintro e w' ⟨h1, h2, h3⟩
  exact ⟨h1, h2, (hb.mono hB).trans (hh.low_ h3 (by omega)), keptTrans (Kept.of_below hb) h3⟩
theorem look_ex {B b cb mb : Nat} {L : List HS} {W : World} (x n er : Int) (h : Hsh W B b cb mb 1 1 L) (hB : B ≤ W.heap.size) (hx : IsByte x) (he : lookE 1 1 L (kb [x]) = (n, er)) :
    Calls Try.prog 6 #[.pointer (some ⟨b, 0, none⟩), .slice (some ⟨W.heap.size, 0, none⟩) 1 1] (mk1 W x) fun e w' => e = .returned (.tuple #[.int .i64 n, .int .i64 er]) ∧ Hsh w' B b cb mb 1 1 L ∧ Below B W w' ∧ Kept (fun g => ¬ OfH b cb mb 1 L g) W w' := by
  have hb1 := mk1_below W x
  have hs1 := mk1_size W x
  have hh := h.below hb1
  have := lookup_any B b cb mb 1 1 L (some ⟨W.heap.size, 0, none⟩) 1 1 (W.heap.size + 1) [x] (mk1 W x) hh (krow_mark W x hx) (by omega)
  rw [he] at this
  refine this.mono ?_
  rintro e w' ⟨h1, h2⟩
  exact ⟨h1, hh.below h2, (hb1.mono hB).trans (h2.mono (by omega)), keptTrans (Kept.of_below hb1) (Kept.of_below h2)⟩
theorem del_ex {B b cb mb : Nat} {L : List HS} {W : World} (x er : Int) (L' : List HS) (h : Hsh W B b cb mb 1 1 L) (hB : B ≤ W.heap.size) (hx : IsByte x) (he : delE 1 1 L (kb [x]) = er) (hl : delL 1 1 L (kb [x]) = L') :
    Calls Try.prog 9 #[.pointer (some ⟨b, 0, none⟩), .slice (some ⟨W.heap.size, 0, none⟩) 1 1] (mk1 W x) fun e w' => e = .returned (.int .i64 er) ∧ Hsh w' B b cb mb 1 1 L' ∧ Below B W w' ∧ Kept (fun g => ¬ OfH b cb mb 1 L g) W w' := by
  have hb1 := mk1_below W x
  have hs1 := mk1_size W x
  have hh := h.below hb1
  have := del_any B b cb mb 1 1 L (some ⟨W.heap.size, 0, none⟩) 1 1 (W.heap.size + 1) [x] (mk1 W x) hh (krow_mark W x hx) (by omega)
  rw [he, hl] at this
  refine this.mono ?_
  rintro e w' ⟨h1, h2, h3⟩
  exact ⟨h1, h2, (hb1.mono hB).trans (hh.low_ h3 (by omega)), keptTrans (Kept.of_below hb1) h3⟩
theorem byte_1 {x : Int} (h : 0 ≤ x ∧ x < 256) : IsByte x := h
theorem hmk1 (w : World) (x : Int) (n : Nat) (hn : n = w.heap.size) : (convert 22 22 (.slice (some ⟨n, 0, none⟩) 1 1)).run Try.prog (w.alloc (.cells #[.int .u8 x] 5)) = .ok (.slice (some ⟨n, 0, none⟩) 1 1) (mk1 w x) := by
  subst hn
  exact Joins.run_convert_bytes_const_at (P := Try.prog) w 22 5 #[.int .u8 x] 1 1 w.heap.size rfl Try.underlying22 Try.underlying5
theorem ofH_ex {b cb mb g : Nat} {A A' : Option Addr} {c c' : Nat} {x x' y y' : Int} {k k' l l' : Option (List UInt8)} (h : OfH b cb mb 1 [exP A c x k, exP A' c' x' k'] g) : OfH b cb mb 1 [exP A c y l, exP A' c' y' l'] g := by
  have hA : SameA [exP A c x k, exP A' c' x' k'] [exP A c y l, exP A' c' y' l'] := by
    refine ⟨rfl, fun i r s hr hs => ?_⟩
    match i with
    | 0 => simp at hr hs; subst hr; subst hs; exact ⟨rfl, rfl⟩
    | 1 => simp at hr hs; subst hr; subst hs; exact ⟨rfl, rfl⟩
    | i + 2 => simp at hr
  exact h.same hA
def KR.s (r : KR) : SL := ⟨some ⟨r.g, 0, none⟩, r.k.length, r.cap⟩
theorem KeysTold.rows {w : World} {B n c : Nat} {A : Option Addr} {rs : List KR} (h : KeysTold w B (.slice A n c) rs) : n = rs.length ∧ RowsRd w w.heap.size A rs.length (rs.map fun r => ints r.k) (rs.map KR.s) := by
  obtain ⟨A2, c2, e, hr⟩ := owns_slice h.row
  injection e with e1 e2 e3
  subst e1
  refine ⟨e2, by simp, by simp, ?_, fun i s l hi hl => ?_⟩
  · rw [List.map_map]
    exact hr
  · rw [List.getElem?_map] at hi hl
    cases hrs : rs[i]? with
    | none => rw [hrs] at hi; cases hi
    | some r =>
      rw [hrs] at hi hl
      simp at hi hl
      subst hi
      subst hl
      exact ⟨by simp [KR.s, ints], ((h.each r (List.mem_of_getElem? hrs)).1).rd⟩
theorem lit_rows (w : World) (x y : Int) : RowsRd ((mk1 (mk1 w x) y).alloc (.cells #[.slice (some ⟨w.heap.size, 0, none⟩) 1 1, .slice (some ⟨w.heap.size + 1, 0, none⟩) 1 1] 22)) (w.heap.size + 3) (some ⟨w.heap.size + 2, 0, none⟩) 2 [[x], [y]] [⟨some ⟨w.heap.size, 0, none⟩, 1, 1⟩, ⟨some ⟨w.heap.size + 1, 0, none⟩, 1, 1⟩] := by
  have hs1 := mk1_size w x
  have hs2 := mk1_size (mk1 w x) y
  have hb2 := mk1_below (mk1 w x) y
  have hb3 := below1 (mk1 (mk1 w x) y) (.cells #[.slice (some ⟨w.heap.size, 0, none⟩) 1 1, .slice (some ⟨w.heap.size + 1, 0, none⟩) 1 1] 22)
  have r1 := ((rd_mark w [x] 1 rfl (1, 2)).below (hb2.mono (by omega))).below (hb3.mono (by omega))
  have r2 := (rd_mark (mk1 w x) [y] 1 rfl (1, 2)).below (hb3.mono (by omega))
  rw [hs1] at r2
  have r3 := cells_rd (mk1 (mk1 w x) y) [.slice (some ⟨w.heap.size, 0, none⟩) 1 1, .slice (some ⟨w.heap.size + 1, 0, none⟩) 1 1] 22 1 2 rfl
  rw [hs2, hs1] at r3
  refine ⟨rfl, rfl, r3.mono (by omega), fun i s l hi hl => ?_⟩
  match i with
  | 0 => simp at hi hl; subst hi; subst hl; exact ⟨rfl, r1.mono (by omega)⟩
  | 1 => simp at hi hl; subst hi; subst hl; exact ⟨rfl, r2.mono (by omega)⟩
  | i + 2 => simp at hi
set_option maxRecDepth 100000 in
set_option maxHeartbeats 8000000 in
theorem awake_any (w : World) : Calls Try.prog 5 #[] w fun e w' => e = .returned (.bool true) ∧ Below w.heap.size w w' := by
  go_enter Try.func5, Try.ntmps5
  go_wp2_with fail
  refine (new_yes 2 1 1 w spec_ex (by omega) (by omega) (by omega)).mono ?_
  rintro e w1 ⟨b, cb, mb, s, rfl, ha, hb⟩
  rw [ex_new] at ha
  generalize (some (⟨s + 0, 0, none⟩ : Addr)) = A at ha
  generalize (some (⟨s + 1, 0, none⟩ : Addr)) = A' at ha
  have HA1 := hide ha
  have HB1 := hide hb
  clear ha hb
  have hc1 := hmk1 w1 98 w1.heap.size rfl
  have hc2 := hmk1 (mk1 w1 98) 120 (w1.heap.size + 1) (mk1_size _ _).symm
  have hz1 := mk1_size w1 98
  go_wp2_with fail
  refine (upd_ex 98 120 0 0 [exP A 1 120 (some [98]), exP A' 1 0 none] HA1.out HB1.out.size (byte_1 (by omega)) (ex_1 A A' 1 1).1 (ex_1 A A' 1 1).2).mono ?_
  rintro e w2 ⟨rfl, ha, hb, hk⟩
  have HA2 := hide ha
  have HB2 := hide (HB1.out.trans hb)
  clear ha hb hk hc1 hc2 hz1 HA1 HB1
  have hc1 := hmk1 w2 97 w2.heap.size rfl
  have hc2 := hmk1 (mk1 w2 97) 121 (w2.heap.size + 1) (mk1_size _ _).symm
  have hz1 := mk1_size w2 97
  go_wp2_with fail
  refine (upd_ex 97 121 0 0 [exP A 1 120 (some [98]), exP A' 1 121 (some [97])] HA2.out HB2.out.size (byte_1 (by omega)) (ex_2 A A' 1 1).1 (ex_2 A A' 1 1).2).mono ?_
  rintro e w3 ⟨rfl, ha, hb, hk⟩
  have HA3 := hide ha
  have HB3 := hide (HB2.out.trans hb)
  clear ha hb hk hc1 hc2 hz1 HA2 HB2
  have hc1 := hmk1 w3 97 w3.heap.size rfl
  go_wp2_with fail
  refine (look_ex 97 1 0 HA3.out HB3.out.size (byte_1 (by omega)) (ex_3 A A' 1 1)).mono ?_
  rintro e w4 ⟨rfl, ha, hb, hk⟩
  have HA4 := hide ha
  have HB4 := hide (HB3.out.trans hb)
  clear ha hb hk hc1 HA3 HB3
  have hlt := HA4.out.lt
  have HO : Hid (∀ x k x' k' g, OfH b cb mb 1 [exP A 1 x k, exP A' 1 x' k'] g → g < w4.heap.size) := hide (fun x k x' k' g h => hlt g (ofH_ex h))
  have hkx := ex_4 A A' 1 1
  clear hlt
  go_wp2_with fail
  refine (keys_any _ b cb mb 1 1 _ w4 HA4.out).mono ?_
  rintro e w5 ⟨v, rs, rfl, hkt, hm, hb⟩
  rw [hkx] at hm
  obtain ⟨Av, nv, cv, rfl⟩ : ∃ Av nv cv, v = .slice Av nv cv := by
    obtain ⟨A, c, e, _⟩ := owns_slice hkt.row
    exact ⟨_, _, _, e⟩
  have HK5 := hide hkt
  have HM := hide hm
  have HA5 := hide (HA4.out.below hb)
  have HB5 := hide (HB4.out.trans (hb.mono HB4.out.size))
  clear hkt hm hb hkx HA4 HB4
  have hc1 := hmk1 w5 99 w5.heap.size rfl
  have hc2 := hmk1 (mk1 w5 99) 122 (w5.heap.size + 1) (mk1_size _ _).symm
  have hz1 := mk1_size w5 99
  go_wp2_with fail
  refine (upd_ex 99 122 0 8 [exP A 1 120 (some [98]), exP A' 1 121 (some [97])] HA5.out HB5.out.size (byte_1 (by omega)) (ex_5 A A' 1 1) rfl).mono ?_
  rintro e w6 ⟨rfl, ha, hb, hk⟩
  have HA6 := hide ha
  have HB6 := hide (HB5.out.trans hb)
  have HK6 := hide (HK5.out.kept (F := fun g => w4.heap.size ≤ g) (hk.mono (fun g hg ho => by have := HO.out _ _ _ _ g ho; omega)) (fun g e => HK5.out.low g e) (fun r hr => (HK5.out.each r hr).2))
  clear HK5
  clear ha hb hk hc1 hc2 hz1 HA5 HB5
  have hc1 := hmk1 w6 98 w6.heap.size rfl
  go_wp2_with fail
  refine (del_ex 98 0 [exP A 1 120 none, exP A' 1 121 (some [97])] HA6.out HB6.out.size (byte_1 (by omega)) (ex_6 A A' 1 1).1 (ex_6 A A' 1 1).2).mono ?_
  rintro e w7 ⟨rfl, ha, hb, hk⟩
  have HA7 := hide ha
  have HB7 := hide (HB6.out.trans hb)
  have HK7 := hide (HK6.out.kept (F := fun g => w4.heap.size ≤ g) (hk.mono (fun g hg ho => by have := HO.out _ _ _ _ g ho; omega)) (fun g e => HK6.out.low g e) (fun r hr => (HK6.out.each r hr).2))
  clear HK6
  clear ha hb hk hc1 HA6 HB6
  have hc1 := hmk1 w7 99 w7.heap.size rfl
  have hc2 := hmk1 (mk1 w7 99) 122 (w7.heap.size + 1) (mk1_size _ _).symm
  have hz1 := mk1_size w7 99
  go_wp2_with fail
  refine (upd_ex 99 122 1 0 [exP A 1 122 (some [99]), exP A' 1 121 (some [97])] HA7.out HB7.out.size (byte_1 (by omega)) (ex_7 A A' 1 1).1 (ex_7 A A' 1 1).2).mono ?_
  rintro e w8 ⟨rfl, ha, hb, hk⟩
  have HA8 := hide ha
  have HB8 := hide (HB7.out.trans hb)
  have HK8 := hide (HK7.out.kept (F := fun g => w4.heap.size ≤ g) (hk.mono (fun g hg ho => by have := HO.out _ _ _ _ g ho; omega)) (fun g e => HK7.out.low g e) (fun r hr => (HK7.out.each r hr).2))
  clear HK7
  clear ha hb hk hc1 hc2 hz1 HA7 HB7
  have hc1 := hmk1 w8 99 w8.heap.size rfl
  go_wp2_with fail
  refine (look_ex 99 0 0 HA8.out HB8.out.size (byte_1 (by omega)) (ex_8 A A' 1 1)).mono ?_
  rintro e w9 ⟨rfl, ha, hb, hk⟩
  have HA9 := hide ha
  have HB9 := hide (HB8.out.trans hb)
  have HK9 := hide (HK8.out.kept (F := fun g => w4.heap.size ≤ g) (hk.mono (fun g hg ho => by have := HO.out _ _ _ _ g ho; omega)) (fun g e => HK8.out.low g e) (fun r hr => (HK8.out.each r hr).2))
  clear HK8
  clear ha hb hk hc1 HA8 HB8
  obtain ⟨hn, hrows⟩ := HK9.out.rows
  have hlr := lit_rows w9 97 98
  have hb1 := mk1_below w9 97
  have hb2 := mk1_below (mk1 w9 97) 98
  have hb3 := below1 (mk1 (mk1 w9 97) 98) (.cells #[.slice (some ⟨w9.heap.size, 0, none⟩) 1 1, .slice (some ⟨w9.heap.size + 1, 0, none⟩) 1 1] 22)
  have hz1 := mk1_size w9 97
  have hz2 := mk1_size (mk1 w9 97) 98
  have hb := hb1.trans ((hb2.trans (hb3.mono hb2.size)).mono hb1.size)
  have hml : (rs.map fun r => ints r.k) = [[97], [98]] := by
    have e : (rs.map fun r => ints r.k) = (rs.map KR.k).map ints := by rw [List.map_map]; rfl
    rw [e, HM.out]
    rfl
  have hrl : rs.length = 2 := by simpa using congrArg List.length hml
  rw [hml, hrl] at hrows
  rw [hrl] at hn
  subst hn
  have hc1 := hmk1 w9 97 w9.heap.size rfl
  have hc2 := hmk1 (mk1 w9 97) 98 (w9.heap.size + 1) (mk1_size _ _).symm
  generalize hW : (mk1 (mk1 w9 97) 98).alloc (.cells #[.slice (some ⟨w9.heap.size, 0, none⟩) 1 1, .slice (some ⟨w9.heap.size + 1, 0, none⟩) 1 1] 22) = W9 at *
  have hz3 : W9.heap.size = w9.heap.size + 3 := by rw [← hW]; simp; omega
  have hr1 := hrows.below (hb.mono (Nat.le_refl _))
  have HS := hide (sameRows_yes Av (some ⟨w9.heap.size + 2, 0, none⟩) 2 cv 2 (w9.heap.size + 3) [[97], [98]] _ _ W9 ⟨hr1.len, hr1.lev, hr1.rd.mono (by omega), fun i s l hi hl => ⟨(hr1.each i s l hi hl).1, (hr1.each i s l hi hl).2.mono (by omega)⟩⟩ hlr (by omega) (by omega) (by simp))
  have HA10 := hide (HA9.out.below hb)
  have HB10 := hide (HB9.out.trans (hb.mono HB9.out.size))
  clear hrows hlr hb1 hb2 hb3 hb hml hrl hr1 HK9 HM HA9 HB9 hz3
  subst hW
  go_wp2_with fail
  refine HS.out.mono ?_
  rintro e w10 ⟨rfl, hbq⟩
  have HA11 := hide (HA10.out.below hbq)
  have HB11 := hide (HB10.out.trans (hbq.mono HB10.out.size))
  clear hbq HS HA10 HB10 hc1 hc2 hz1 hz2
  have hc1 := hmk1 w10 98 w10.heap.size rfl
  have hc2 := hmk1 (mk1 w10 98) 122 (w10.heap.size + 1) (mk1_size _ _).symm
  have hz1 := mk1_size w10 98
  go_wp2_with fail
  refine (upd_ex 98 122 2 6 [exP A 1 122 (some [99]), exP A' 1 121 (some [97])] HA11.out HB11.out.size (byte_1 (by omega)) (ex_9 A A' 1 1) rfl).mono ?_
  rintro e w12 ⟨rfl, ha, hb, hk⟩
  have HB12 := hide (HB11.out.trans hb)
  clear ha hb hk hc1 hc2 hz1 HA11 HB11
  go_wp2_with fail
  go_ret
  exact ⟨rfl, HB12.out⟩
end Go.Proofs.Ytlagpbgekihodaa
