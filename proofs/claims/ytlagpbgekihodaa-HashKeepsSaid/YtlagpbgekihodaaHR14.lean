/-
  Update and Delete of a hash, called.
-/
import Derived.Test.YtlagpbgekihodaaHR13
namespace Go.Proofs.Ytlagpbgekihodaa
open Go.RowKit Go.Maps
set_option linter.unusedVariables false

set_option maxRecDepth 100000 in
set_option maxHeartbeats 1000000 in
theorem upd_of (p : Option Addr) (A S : Option Addr) (n c k sc : Nat) (fl er : Int) (w : World) (R : World → Prop)
    (h : Calls Try.prog 25 #[.func (.func 26) #[] #[.pointer (some ⟨w.heap.size, 0, none⟩), .pointer (some ⟨w.heap.size + 1, 0, none⟩), .pointer (some ⟨w.heap.size + 2, 0, none⟩), .pointer (some ⟨w.heap.size + 3, 0, none⟩)]] ((((w.alloc (.cells #[.pointer p] 27)).alloc (.cells #[.slice A n c] 22)).alloc (.cells #[.slice S k sc] 22)).alloc (.cells #[.int .u64 fl] 23)) fun e w' => e = .returned (.int .i64 er) ∧ R w') :
    Calls Try.prog 8 #[.pointer p, .slice A n c, .slice S k sc, .int .u64 fl] w fun e w' => e = .returned (.int .i64 er) ∧ R w' := by
  have hmf : ∀ (fn : Fn) (first cap : Array Value) (w : World), (Instr.makeFunc fn first cap).run Try.prog w = .ok (.func fn first cap) w := fun _ _ _ _ => rfl
  have H := hide h
  clear h
  go_enter Try.func8, Try.ntmps8
  go_wp2_with (go_at_call 25; refine H.out.mono ?_; rintro e w1 ⟨rfl, hl⟩; have HL := hide hl; clear hl)
  go_ret
  exact ⟨rfl, HL.out⟩
theorem hF_upd : ∀ (args : Array Value) (W : World), (callFunc 26 args).run Try.prog W = .ok (.enter 26 args) W := enters_of Try.func26 (by kernel_rfl) rfl
theorem upd_not (p : Option Addr) (A S : Option Addr) (n c k sc : Nat) (fl : Int) (w : World) (h : NoH p w) :
    Calls Try.prog 8 #[.pointer p, .slice A n c, .slice S k sc, .int .u64 fl] w fun e w' => e = .returned (.int .i64 1) ∧ Below w.heap.size w w' :=
  upd_of p A S n c k sc fl 1 w _ (tried4_no _ 1 _ _ _ _ _ _ _ _ w hF_upd (fun W hb hq => updIn_not p _ W hq.b0.cell (h.later hb)))
/-- Update, whatever is asked. -/
theorem upd_any (B b cb mb ks sz : Nat) (L : List HS) (A S : Option Addr) (n c C k sc : Nat) (fl : Int) (l d : List Int) (w : World) (h : Hsh w B b cb mb ks sz L) (hr : KRow w C A n l) (hC : C ≤ w.heap.size) (hd : Rd w C 1 S k (u8s d)) :
    Calls Try.prog 8 #[.pointer (some ⟨b, 0, none⟩), .slice A n c, .slice S k sc, .int .u64 fl] w fun e w' => e = .returned (.int .i64 (updE ks sz n k L (kb l) fl)) ∧ Hsh w' B b cb mb ks sz (updL ks sz n k L (kb l) fl d) ∧ Kept (fun g => ¬ OfH b cb mb sz L g) w w' := by
  have hks := h.kbig.1
  by_cases he : updE ks sz n k L (kb l) fl = 0
  · obtain ⟨rfl, rfl, hf, hp⟩ := updE_yes he
    have eL : updL n k n k L (kb l) fl d = putB (putK L (kb l)) (putAt L (kb l)) 0 d := by unfold updL; rw [if_pos he]
    rw [eL, he]
    refine upd_of _ A S n c k sc fl 0 w _ (tried4_yes _ B b cb mb n k L (putB (putK L (kb l)) (putAt L (kb l)) 0 d) _ _ _ _ _ _ _ _ w hF_upd h (fun g hg => (hg.same (sameA_putB _ _ _ _)).same (sameA_putK L _)) (fun W hbW hq => ?_))
    exact updIn_yes B b cb mb n k _ L A S c C sc fl l d W (h.below hbW) hq h.lt (hr.below (hbW.mono hC)) (Nat.le_trans hC hbW.size) hf (hd.below (hbW.mono hC)) hks hp
  · have eL : updL ks sz n k L (kb l) fl d = L := by unfold updL; rw [if_neg he]
    rw [eL]
    refine (upd_of _ A S n c k sc fl (updE ks sz n k L (kb l) fl) w (fun w' => Below w.heap.size w w') (tried4_no _ _ _ _ _ _ _ _ _ _ w hF_upd (fun W hbW hq => ?_))).mono (by
      rintro e w' ⟨h1, h2⟩
      exact ⟨h1, h.below h2, Kept.of_below h2⟩)
    have hW := h.below hbW
    have hrW := hr.below (hbW.mono hC)
    have hCW := Nat.le_trans hC hbW.size
    unfold updE at he ⊢
    by_cases hn : n = ks
    · subst hn
      rw [if_pos rfl] at he ⊢
      by_cases hk : k = sz ∧ fl ≤ 2
      · obtain ⟨rfl, hf⟩ := hk
        rw [if_pos ⟨rfl, hf⟩] at he ⊢
        exact updIn_no B b cb mb n k _ L A S c C sc fl l d W hW hq h.lt hrW hCW hf he
      · rw [if_neg hk]
        exact updIn_arg B b cb mb n sz _ L A S c k sc fl W hW hq hk
    · rw [if_neg hn]
      exact updIn_key B b cb mb ks sz _ L A n c W hW hq.b0.cell hq.b1.cell hn
/-- What lasts of the statement that leaves a key's place. -/
def TDel (b n i : Nat) (A : Option Addr) (c : Nat) (ok : Prop) (j : Nat) (σ : Nat → Value) (W : World) : Prop :=
  match j with
  | 0 => σ 0 = .pointer (some ⟨b, 0, none⟩)
  | 1 => σ 1 = .pointer (some ⟨b, 0, none⟩)
  | 2 => σ 2 = .pointer (some ⟨b, 3, none⟩)
  | 3 => σ 3 = .pointer (some ⟨b, 0, none⟩)
  | 4 => σ 4 = .slice A n c
  | 5 => σ 5 = .int .i64 i ∧ ok
  | _ => True
def GDelN (W0 : World) (B b cb mb ks sz q : Nat) (L : List HS) (A : Option Addr) (n c : Nat) (_ : Nat → Bool) (X : World) : Prop :=
  X.cell? ⟨q, 0, none⟩ = some (.pointer (some ⟨b, 0, none⟩)) ∧ X.cell? ⟨q + 1, 0, none⟩ = some (.slice A n c) ∧ Hsh X B b cb mb ks sz L ∧ Below W0.heap.size W0 X
def GDel (W0 : World) (B b cb mb ks sz q i : Nat) (L : List HS) (A : Option Addr) (n c : Nat) (D : Nat → Bool) (X : World) : Prop :=
  X.cell? ⟨q, 0, none⟩ = some (.pointer (some ⟨b, 0, none⟩)) ∧ X.cell? ⟨q + 1, 0, none⟩ = some (.slice A n c) ∧
    (if D 6 = true then ∃ Y, Hsh Y B b cb mb ks sz L ∧ Below W0.heap.size W0 Y ∧ LeaveTold cb sz L i Y X else Hsh X B b cb mb ks sz L ∧ Below W0.heap.size W0 X)
theorem GDel.same {W0 X : World} {B b cb mb ks sz q i j n c : Nat} {L : List HS} {A : Option Addr} {D : Nat → Bool} (h : GDel W0 B b cb mb ks sz q i L A n c D X) (h6 : j ≠ 6) : GDel W0 B b cb mb ks sz q i L A n c (fun k => D k || k == j) X := by
  unfold GDel at h ⊢
  have e6 : (6 == j) = false := by simpa using fun e : 6 = j => h6 e.symm
  simp only [e6, Bool.or_false]
  exact h
set_option maxRecDepth 100000 in
set_option maxHeartbeats 1000000 in
theorem delIn_not (p : Option Addr) (q : Nat) (W : World) (h0 : W.cell? ⟨q, 0, none⟩ = some (.pointer p)) (h : NoH p W) :
    Calls Try.prog 30 #[.pointer (some ⟨q, 0, none⟩), .pointer (some ⟨q + 1, 0, none⟩)] W fun e w' => e = .panicked (panicOf 1) ∧ Below W.heap.size W w' := by
  have H := hide (made_no p W h)
  clear h
  go_enter Try.func30, Try.ntmps30
  go_wp2_with (go_at_call 18; refine H.out.mono ?_; rintro e w' ⟨rfl, rfl⟩)
  exact ⟨rfl, rfl, Below.refl _ _⟩
set_option maxRecDepth 100000 in
set_option maxHeartbeats 1000000 in
theorem delIn_no (B b cb mb ks sz q : Nat) (L : List HS) (A : Option Addr) (n c C : Nat) (l : List Int) (W : World) (h : Hsh W B b cb mb ks sz L) (h0 : W.cell? ⟨q, 0, none⟩ = some (.pointer (some ⟨b, 0, none⟩))) (h1 : W.cell? ⟨q + 1, 0, none⟩ = some (.slice A n c))
    (hr : KRow W C A n l) (hC : C ≤ W.heap.size) (he : delE ks n L (kb l) ≠ 0) :
    Calls Try.prog 30 #[.pointer (some ⟨q, 0, none⟩), .pointer (some ⟨q + 1, 0, none⟩)] W fun e w' => e = .panicked (panicOf (delE ks n L (kb l))) ∧ Below W.heap.size W w' := by
  have HM := hide (made_yes b W (by rw [blk_cell h.blk]; rfl))
  unfold delE at he ⊢
  by_cases hn : n = ks
  · subst hn
    have hk := h.kbig
    rw [if_pos rfl] at he ⊢
    have HK := hide (key_yes b n A c W h.c1)
    cases hf : findK L (kb l) with
    | some i =>
      rw [hf] at he
      exact absurd rfl he
    | none =>
      have hbd := (Below.refl W.heap.size W).drew
      have HH := hide h
      have HR := hide hr
      have HF := hide hf
      have hEF : ∀ args (W : World), (callFunc 20 args).run Try.prog W = .ok (.enter 20 args) W := enters_of Try.func20 (by kernel_rfl) rfl
      clear h hr he hf
      simp only
      go_enter Try.func30, Try.ntmps30
      go_wp2_with (first
        | (go_at_call 18; refine HM.out.mono ?_; rintro e w' ⟨rfl, rfl⟩)
        | (go_at_call 19; refine HK.out.mono ?_; rintro e w' ⟨rfl, rfl⟩))
      clear HM HK
      refine wp_tells9 (by kernel_rfl) (TDel b n 0 A c False) (GDelN W B b cb mb n sz q L A n c) (by kernel_rfl) (by kernel_rfl) (by kernel_rfl) (by kernel_rfl) ?_ ?_ ?_ ?_
      · intro j oj σ σ' W hj h hs
        have hi : j < 7 := (Array.getElem?_eq_some_iff.1 hj).1
        have h0 := hs j (.inl rfl)
        have hi' : j = 0 ∨ j = 1 ∨ j = 2 ∨ j = 3 ∨ j = 4 ∨ j = 5 ∨ j = 6 := by omega
        rcases hi' with rfl | rfl | rfl | rfl | rfl | rfl | rfl
        all_goals first | exact trivial | (simp only [TDel] at h ⊢; rw [h0]; exact h)
      · exact ⟨h0, h1, HH.out.below hbd, hbd⟩
      · intro i' o ho D a X hi hG hdf hold hT hcl hh
        have hi2 : i' < 7 := (Array.getElem?_eq_some_iff.1 ho).1
        have hi' : i' = 0 ∨ i' = 1 ∨ i' = 2 ∨ i' = 3 ∨ i' = 4 ∨ i' = 5 ∨ i' = 6 := by omega
        rcases hi' with rfl | rfl | rfl | rfl | rfl | rfl | rfl
        · cases ho
          have k0 := hG.1
          refine step4_told (.pointer (some ⟨b, 0, none⟩)) ?_ (by decide) hG hT rfl
          have e0 : a.eval (.tmp 0) = .pointer (some ⟨q, 0, none⟩) := hold 0 (unyet_of (by kernel_rfl))
          generalize a.eval = ev at e0 ⊢
          simp [execOp, go_sem, e0, k0]
        · cases ho
          refine step4_told (.pointer (some ⟨b, 0, none⟩)) ?_ (by decide) hG hT rfl
          have e0 : a.eval (.tmp 7) = .pointer (some ⟨b, 0, none⟩) := hT 0 (hh 0 rfl)
          generalize a.eval = ev at e0 ⊢
          simp [execOp, go_sem, e0]
        · cases ho
          refine step4_told (.pointer (some ⟨b, 3, none⟩)) ?_ (by decide) hG hT rfl
          have e0 : a.eval (.tmp 8) = .pointer (some ⟨b, 0, none⟩) := hT 1 (hh 1 rfl)
          generalize a.eval = ev at e0 ⊢
          simp [execOp, go_sem, e0]
        · cases ho
          have k0 := hG.1
          refine step4_told (.pointer (some ⟨b, 0, none⟩)) ?_ (by decide) hG hT rfl
          have e0 : a.eval (.tmp 0) = .pointer (some ⟨q, 0, none⟩) := hold 0 (unyet_of (by kernel_rfl))
          generalize a.eval = ev at e0 ⊢
          simp [execOp, go_sem, e0, k0]
        · cases ho
          have k1 := hG.2.1
          refine step4_told (.slice A n c) ?_ (by decide) hG hT rfl
          have e0 : a.eval (.tmp 1) = .pointer (some ⟨q + 1, 0, none⟩) := hold 1 (unyet_of (by kernel_rfl))
          generalize a.eval = ev at e0 ⊢
          simp [execOp, go_sem, e0, k1]
        · cases ho
          obtain ⟨g0, g1, g2, g3⟩ := hG
          have e0 : a.eval (.tmp 10) = .pointer (some ⟨b, 0, none⟩) := hT 3 (hh 3 rfl)
          have e1 : a.eval (.tmp 11) = .slice A n c := hT 4 (hh 4 rfl)
          have hkr := HR.out.below (g3.mono hC)
          refine step4_panics (f := 20) (args := #[.pointer (some ⟨b, 0, none⟩), .slice A n c]) ?_ (placeOf_no B b cb mb n sz L A n c C l X g2 hkr.byte hkr.rd hkr.nil (by omega) HF.out) ?_
          · have ef : a.eval (.func 20) = .func (.func 20) #[] #[] := rfl
            generalize a.eval = ev at e0 e1 ef ⊢
            simp [execOp, go_sem, e0, e1, ef, hEF]
          · intro w' hb
            exact ⟨hdf, rfl, g3.trans (hb.mono g3.size)⟩
        · exact absurd (hT 5 (hh 5 (by cases ho; rfl))).2 id
      · intro a X hd hsz hold hT hG
        exact absurd (hT 5 (by decide)).2 id
  · have HK := hide (key_no b ks n A c W h.c1 hn)
    rw [if_neg hn]
    clear h hr he
    go_enter Try.func30, Try.ntmps30
    go_wp2_with (first
      | (go_at_call 18; refine HM.out.mono ?_; rintro e w' ⟨rfl, rfl⟩)
      | (go_at_call 19; refine HK.out.mono ?_; rintro e w' ⟨rfl, rfl⟩))
    exact ⟨rfl, rfl, Below.refl _ _⟩
/-- A key's place is left, then the key is deleted. -/
theorem Hsh.dropped {w w1 : World} {B b cb mb ks sz i : Nat} {L : List HS} {k : List UInt8} (h : Hsh w B b cb mb ks sz L) (hk : k.length ≤ maxLen) (hf : findK L k = some i) (hl : LeaveTold cb sz L i w w1) :
    ∃ w2, (Builtin.delete_ #[28, 9] 0 #[.map (some mb), encStr k]).run Try.prog w1.drew = .ok (.tuple #[]) w2 ∧ Hsh w2 B b cb mb ks sz (dropK L i) ∧ Kept (fun g => ¬ OfH b cb mb sz L g) w w2 := by
  obtain ⟨t1, t2⟩ := hl
  obtain ⟨a1, a2, a3, a4⟩ := h.apart
  obtain ⟨r, hr, hrk, _⟩ := findK_some hf
  obtain ⟨hon, hfk⟩ := findK_drop (bs := r.bs) h.once hr hrk
  rw [dropK_some hr]
  have hm1 : KMap Try.prog 9 3 w1.drew mb (takenK L) (placeF L) := h.map.same ((t2.block mb h.map.lt (fun e => a3 e.symm)).trans rfl)
  obtain ⟨w2, g1, g2, g3⟩ := hm1.drop strK Try.underlying28 (keyOf_str_mk Try.underlying9 hk) trivial 0
  have hK2 : Kept (fun g => g ≠ cb ∧ g ≠ mb) w w2 := ((t2.mono (F' := fun g => g ≠ cb ∧ g ≠ mb) (fun _ h => h.1)).drew).grown g3 (fun g e hlt hh => hh.2 (by cases e; rfl))
  refine ⟨w2, g1, h.rekey hr ?_ hK2 ?_ hon (fun k e => by cases e), hK2.mono (fun g hg => ⟨fun e => hg (.inr (.inl e)), fun e => hg (.inr (.inr (.inl e)))⟩)⟩
  · rw [g3.block cb (at_lt t1) (fun e => a3 (by injection e))]
    exact t1
  · have hN : takenK (L.set i { r with key := none }) = takenK L - 1 := by
      have := takenK_set L i r { r with key := none } hr
      rw [hrk] at this
      simp at this
      omega
    rw [hN]
    have e0 : (placeF L (.string k)).isSome = true := by rw [placeF_str, hf]; rfl
    rw [e0] at g2
    refine g2.congr (fun x hx => ?_)
    obtain ⟨key, hkey⟩ := hx
    obtain ⟨y, _, rfl, _⟩ := Maps.keyOf_str Try.underlying9 hkey
    rw [setK_str, placeF_str, placeF_str]
    have := hfk y
    rw [show (L.set i { r with key := none, bs := r.bs }) = L.set i { r with key := none } from rfl] at this
    rw [this]
    by_cases e : y = k
    · rw [if_pos e, if_pos e]; rfl
    · rw [if_neg e, if_neg e]
set_option maxRecDepth 100000 in
set_option maxHeartbeats 1000000 in
theorem delIn_yes (B b cb mb ks sz q i : Nat) (L : List HS) (A : Option Addr) (c C : Nat) (l : List Int) (W : World) (h : Hsh W B b cb mb ks sz L) (h0 : W.cell? ⟨q, 0, none⟩ = some (.pointer (some ⟨b, 0, none⟩))) (h1 : W.cell? ⟨q + 1, 0, none⟩ = some (.slice A ks c)) (hql : ∀ g, OfH b cb mb sz L g → g < q) (hq2 : q + 1 < W.heap.size)
    (hr : KRow W C A ks l) (hC : C ≤ W.heap.size) (hf : findK L (kb l) = some i) :
    Calls Try.prog 30 #[.pointer (some ⟨q, 0, none⟩), .pointer (some ⟨q + 1, 0, none⟩)] W fun e w' => e = .returned (.tuple #[]) ∧ Hsh w' B b cb mb ks sz (dropK L i) ∧ Kept (fun g => ¬ OfH b cb mb sz L g) W w' := by
  have HM := hide (made_yes b W (by rw [blk_cell h.blk]; rfl))
  have hk := h.kbig
  have HK := hide (key_yes b ks A c W h.c1)
  have hbd := (Below.refl W.heap.size W).drew
  have hkm := kb_max hr.rd (by omega)
  have hP := placeOf_yes B b cb mb ks sz L A ks c C i l W.drew (h.below hbd) hr.byte (hr.rd.mono (Nat.le_refl _)) hr.nil (by omega) hf
  have HP := hide hP
  obtain ⟨r, hri, _, _⟩ := findK_some hf
  have hil := (List.getElem?_eq_some_iff.1 hri).1
  have hcq := hql cb (.inr (.inl rfl))
  have hbq := hql b (.inl rfl)
  obtain ⟨a1, a2, a3, a4⟩ := h.apart
  have hfar := h.far hr.rd (by omega)
  have HX : Hid (∀ w1, Below W.heap.size W w1 → Hsh w1 B b cb mb ks sz L) := hide (fun w1 hb => h.below hb)
  have HL : Hid (∀ w1 w2, Below W.heap.size W w1 → LeaveTold cb sz L i w1 w2 → w2.cell? ⟨q, 0, none⟩ = some (.pointer (some ⟨b, 0, none⟩)) ∧ w2.cell? ⟨q + 1, 0, none⟩ = some (.slice A ks c) ∧ w2.cell? ⟨b, 2, none⟩ = some (.map (some mb)) ∧ (convert 22 9 (.slice A ks c)).run Try.prog w2.drew = .ok (encStr (kb l)) w2.drew) := hide (fun w1 w2 hb ht => by
    have hk : Kept (fun g => g ≠ cb) W w2 := keptTrans (Kept.of_below hb) ht.2
    refine ⟨(World.cell?_of_block (hk.block q (by omega) (by omega))).trans h0, (World.cell?_of_block (hk.block (q + 1) (by omega) (by omega))).trans h1, (World.cell?_of_block (hk.block b (by omega) a1)).trans h.c2, conv_key (W := w2.drew) (B := C) (c := c) hr.byte (hr.rd.beside hfar (fun p hp hne => World.cell?_of_block (hk.block p.block (by omega) hne))) hr.nil⟩)
  have HF := hide hf
  have HR := hide hr
  have hEF : ∀ args (W : World), (callFunc 20 args).run Try.prog W = .ok (.enter 20 args) W := enters_of Try.func20 (by kernel_rfl) rfl
  have hEL : ∀ args (W : World), (callFunc 31 args).run Try.prog W = .ok (.enter 31 args) W := enters_of Try.func31 (by kernel_rfl) rfl
  clear h hr hP hri hfar hf HP
  go_enter Try.func30, Try.ntmps30
  go_wp2_with (first
    | (go_at_call 18; refine HM.out.mono ?_; rintro e w' ⟨rfl, rfl⟩)
    | (go_at_call 19; refine HK.out.mono ?_; rintro e w' ⟨rfl, rfl⟩))
  rename_i K hK
  have HKK := hide hK
  clear hK HM HK
  refine wp_tells9 (by kernel_rfl) (TDel b ks i A c True) (GDel W B b cb mb ks sz q i L A ks c) (by kernel_rfl) (by kernel_rfl) (by kernel_rfl) (by kernel_rfl) ?_ ?_ ?_ ?_
  · intro j oj σ σ' W hj h hs
    have hi : j < 7 := (Array.getElem?_eq_some_iff.1 hj).1
    have h0 := hs j (.inl rfl)
    have hi' : j = 0 ∨ j = 1 ∨ j = 2 ∨ j = 3 ∨ j = 4 ∨ j = 5 ∨ j = 6 := by omega
    rcases hi' with rfl | rfl | rfl | rfl | rfl | rfl | rfl
    all_goals first | exact trivial | (simp only [TDel] at h ⊢; rw [h0]; exact h)
  · exact ⟨h0, h1, HX.out _ hbd, hbd⟩
  · intro i' o ho D a X hi hG hdf hold hT hcl hh
    have hi2 : i' < 7 := (Array.getElem?_eq_some_iff.1 ho).1
    have hi' : i' = 0 ∨ i' = 1 ∨ i' = 2 ∨ i' = 3 ∨ i' = 4 ∨ i' = 5 ∨ i' = 6 := by omega
    rcases hi' with rfl | rfl | rfl | rfl | rfl | rfl | rfl
    · cases ho
      have k0 := hG.1
      refine step4_told (.pointer (some ⟨b, 0, none⟩)) ?_ (by decide) (hG.same (by decide)) hT rfl
      have e0 : a.eval (.tmp 0) = .pointer (some ⟨q, 0, none⟩) := hold 0 (unyet_of (by kernel_rfl))
      generalize a.eval = ev at e0 ⊢
      simp [execOp, go_sem, e0, k0]
    · cases ho
      refine step4_told (.pointer (some ⟨b, 0, none⟩)) ?_ (by decide) (hG.same (by decide)) hT rfl
      have e0 : a.eval (.tmp 7) = .pointer (some ⟨b, 0, none⟩) := hT 0 (hh 0 rfl)
      generalize a.eval = ev at e0 ⊢
      simp [execOp, go_sem, e0]
    · cases ho
      refine step4_told (.pointer (some ⟨b, 3, none⟩)) ?_ (by decide) (hG.same (by decide)) hT rfl
      have e0 : a.eval (.tmp 8) = .pointer (some ⟨b, 0, none⟩) := hT 1 (hh 1 rfl)
      generalize a.eval = ev at e0 ⊢
      simp [execOp, go_sem, e0]
    · cases ho
      have k0 := hG.1
      refine step4_told (.pointer (some ⟨b, 0, none⟩)) ?_ (by decide) (hG.same (by decide)) hT rfl
      have e0 : a.eval (.tmp 0) = .pointer (some ⟨q, 0, none⟩) := hold 0 (unyet_of (by kernel_rfl))
      generalize a.eval = ev at e0 ⊢
      simp [execOp, go_sem, e0, k0]
    · cases ho
      have k1 := hG.2.1
      refine step4_told (.slice A ks c) ?_ (by decide) (hG.same (by decide)) hT rfl
      have e0 : a.eval (.tmp 1) = .pointer (some ⟨q + 1, 0, none⟩) := hold 1 (unyet_of (by kernel_rfl))
      generalize a.eval = ev at e0 ⊢
      simp [execOp, go_sem, e0, k1]
    · have h6 : D 6 = false := by
        cases h6 : D 6 with
        | false => rfl
        | true => rw [hcl 6 _ h6 rfl 5 (by kernel_rfl)] at hi; cases hi
      obtain ⟨g0, g1, g2⟩ := hG
      rw [if_neg (by rw [h6]; decide)] at g2
      obtain ⟨g2, g3⟩ := g2
      cases ho
      have e0 : a.eval (.tmp 10) = .pointer (some ⟨b, 0, none⟩) := hT 3 (hh 3 rfl)
      have e1 : a.eval (.tmp 11) = .slice A ks c := hT 4 (hh 4 rfl)
      have hkr := HR.out.below (g3.mono hC)
      refine step4_called (R := fun v W' => v = .int .i64 i ∧ Below X.heap.size X W') ?_ (by decide) ((placeOf_yes B b cb mb ks sz L A ks c C i l X g2 hkr.byte hkr.rd hkr.nil (by omega) HF.out).mono ?_) ?_
      · have ef : a.eval (.func 20) = .func (.func 20) #[] #[] := rfl
        generalize a.eval = ev at e0 e1 ef ⊢
        simp [execOp, go_sem, e0, e1, ef, hEF]
      · rintro e W' ⟨h1, h2⟩
        exact ⟨_, h1, rfl, h2⟩
      · rintro v W' ⟨rfl, h2⟩
        refine ⟨⟨(h2.cell (World.block_lt_of_cell? X _ g0)).trans g0, (h2.cell (World.block_lt_of_cell? X _ g1)).trans g1, ?_⟩, hT, rfl, trivial⟩
        rw [if_neg (by simp [h6])]
        exact ⟨g2.below h2, g3.trans (h2.mono g3.size)⟩
    · have h5 : D 5 = true := hh 5 (by cases ho; rfl)
      obtain ⟨g0, g1, g2⟩ := hG
      rw [if_neg (by rw [hi]; decide)] at g2
      obtain ⟨g2, g3⟩ := g2
      cases ho
      have e0 : a.eval (.tmp 9) = .pointer (some ⟨b, 3, none⟩) := hT 2 (hh 2 rfl)
      have e1 : a.eval (.tmp 12) = .int .i64 i := (hT 5 h5).1
      refine step4_called (R := fun v W' => v = .tuple #[] ∧ LeaveTold cb sz L i X W') ?_ (by decide) ((leave_any B b cb mb ks sz i L X g2 hil).mono ?_) ?_
      · have ef : a.eval (.func 31) = .func (.func 31) #[] #[] := rfl
        generalize a.eval = ev at e0 e1 ef ⊢
        simp [execOp, go_sem, e0, e1, ef, hEL]
      · rintro e W' ⟨h1, h2⟩
        exact ⟨_, h1, rfl, h2⟩
      · rintro v W' ⟨rfl, h2⟩
        refine ⟨⟨(World.cell?_of_block (h2.2.block q (World.block_lt_of_cell? X _ g0) (by omega))).trans g0, (World.cell?_of_block (h2.2.block (q + 1) (World.block_lt_of_cell? X _ g1) (by omega))).trans g1, ?_⟩, hT, trivial⟩
        rw [if_pos (by simp)]
        exact ⟨X, g2, g3, h2⟩
  · intro a X hd hsz hold hT hG
    obtain ⟨g0, g1, g2⟩ := hG
    rw [if_pos (by decide)] at g2
    obtain ⟨Y, y1, y2, y3⟩ := g2
    obtain ⟨k0, k1, k2, k3⟩ := HL.out Y X y2 y3
    obtain ⟨w3, p1, p2, p3⟩ := y1.dropped hkm HF.out y3
    have G2 := hide p2
    have G3 := hide (keptTrans (Kept.of_below y2) p3)
    clear p2 p3 y1 y2 y3 g0 g1
    have HKq := HKK.out
    refine HKq _ _ ?_
    clear HKq
    obtain ⟨f, hf, ha⟩ := act_puts [7, 8, 9, 10, 11, 12, 13] (fun t ht => by
      by_cases h : t ∈ [7, 8, 9, 10, 11, 12, 13]
      · exact h
      · exfalso
        simp [unwritten] at ht
        simp only [List.mem_cons, not_or] at h
        obtain ⟨h0, h1, h2, h3, h4, h5, h6, _⟩ := h
        exact absurd (ht (fun e => h0 e.symm) (fun e => h1 e.symm) (fun e => h2 e.symm) (fun e => h3 e.symm) (fun e => h4 e.symm) (fun e => h5 e.symm)) (fun e => h6 e.symm)) (fun t ht => by
      have hsz : t < 20 := by
        simp only [List.mem_cons, List.mem_nil_iff, or_false] at ht
        omega
      exact hsz) hd hsz hold
    subst ha
    clear hd hsz hold hT hf HKK hEF hEL
    simp only [List.foldl_cons, List.foldl_nil, Act.put, List.setIfInBounds_toArray, List.set_cons_succ, List.set_cons_zero]
    go_wp2
    go_region
    go_end0
    exact ⟨rfl, G2.out, G3.out⟩
end Go.Proofs.Ytlagpbgekihodaa
