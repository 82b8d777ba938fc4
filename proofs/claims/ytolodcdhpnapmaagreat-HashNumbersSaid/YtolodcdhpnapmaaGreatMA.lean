/-
  The texts HR12, RT9, HR13, HR14, HR15 as one.
-/
import Derived.Test.YtolodcdhpnapmaaGreatHR11
import Derived.Test.YtolodcdhpnapmaaGreatRT4

/-
  Update of a hash.
-/
namespace Go.Proofs.YtolodcdhpnapmaaGreat
open Go.RowKit Go.Maps
set_option linter.unusedVariables false

theorem Rd.beside2 {w w' : World} {B sz n c c2 : Nat} {A : Option Addr} {xs : List Value} (h : Rd w B sz A n xs) (hne : ∀ ad, A = some ad → ad.block ≠ c ∧ ad.block ≠ c2) (hk : ∀ p : Addr, p.block < B → p.block ≠ c ∧ p.block ≠ c2 → w'.cell? p = w.cell? p) : Rd w' B sz A n xs := ⟨h.1, fun hn => by
  obtain ⟨ad, e, hb, hc⟩ := h.2 hn
  exact ⟨ad, e, hb, fun j u hu => (hk _ (by rw [block_add]; exact hb) (by rw [block_add]; exact hne ad e)).trans (hc j u hu)⟩⟩
theorem Hsh.far2 {w : World} {B b cb mb ks sz C n : Nat} {L : List HS} {A : Option Addr} {l : List Int} (h : Hsh w B b cb mb ks sz L) (hr : Rd w C 1 A n (u8s l)) (hn : 0 < n) : ∀ ad, A = some ad → ad.block ≠ cb ∧ ad.block ≠ mb := by
  intro ad e
  refine ⟨h.far hr hn ad e, fun hb => ?_⟩
  obtain ⟨ad2, e2, _, hc⟩ := hr.2 (by omega)
  rw [e] at e2
  cases e2
  have hl : l.length = n := by have := hr.1; simpa [u8s] using this
  obtain ⟨x, l', rfl⟩ : ∃ x l', l = x :: l' := by
    cases l with
    | nil => simp at hl; omega
    | cons x l' => exact ⟨x, l', rfl⟩
  have h0 := hc 0 (.int .u8 x) rfl
  unfold Addr.add at h0
  rw [if_pos rfl] at h0
  obtain ⟨es, clock, hm⟩ := h.map.obj
  unfold World.cell? at h0
  rw [hb, hm] at h0
  cases h0
/-- The key has a place, or gets one. -/
theorem for_any (B b cb mb ks sz : Nat) (L : List HS) (A : Option Addr) (c C : Nat) (l : List Int) (fl : Int) (w : World) (h : Hsh w B b cb mb ks sz L) (hr : KRow w C A ks l) (hC : C ≤ w.heap.size) (he : pickE L (kb l) fl = 0) :
    Calls Tryz.prog 58 #[.pointer (some ⟨b, 0, none⟩), .slice A ks c, .int .u64 fl] w fun e w' => e = .returned (.int .i64 (putAt L (kb l) : Nat)) ∧ Hsh w' B b cb mb ks sz (putK L (kb l)) ∧ Kept (fun g => g ≠ cb ∧ g ≠ mb) w w' := by
  have hk := h.kbig
  unfold pickE at he
  cases hf : findK L (kb l) with
  | some i =>
    rw [hf] at he
    simp only at he
    have e1 : putAt L (kb l) = i := by unfold putAt; rw [hf]
    have e2 : putK L (kb l) = L := by unfold putK; rw [hf]
    rw [e1, e2]
    refine (for_there B b cb mb ks sz L A ks c C i l fl w h hr.byte hr.rd hr.nil (by omega) hf (fun e => by rw [if_pos e] at he; cases he)).mono ?_
    rintro e w' ⟨rfl, hb⟩
    exact ⟨rfl, h.below hb, Kept.of_below hb⟩
  | none =>
    rw [hf] at he
    simp only at he
    by_cases h2 : fl = 2
    · rw [if_pos h2] at he; cases he
    · rw [if_neg h2] at he
      cases hj : freeK L with
      | none => rw [hj] at he; cases he
      | some j =>
        have e1 : putAt L (kb l) = j := by unfold putAt; rw [hf, hj]; rfl
        rw [e1]
        exact for_new B b cb mb ks sz L A c C j l fl w h hr.byte hr.rd hC hr.nil hf h2 hj
theorem putAt_row {L : List HS} {k : List UInt8} {fl : Int} (he : pickE L k fl = 0) : ∃ r, (putK L k)[putAt L k]? = some r := by
  have hlt : putAt L k < (putK L k).length := by
    rw [putK_len]
    unfold pickE at he
    unfold putAt
    cases hf : findK L k with
    | some i =>
      obtain ⟨r, h1, _⟩ := findK_some hf
      exact (List.getElem?_eq_some_iff.1 h1).1
    | none =>
      rw [hf] at he
      simp only at he
      by_cases h2 : fl = 2
      · rw [if_pos h2] at he; cases he
      · rw [if_neg h2] at he
        cases hj : freeK L with
        | none => rw [hj] at he; cases he
        | some j =>
          obtain ⟨r, h1, _⟩ := freeK_some hj
          exact (List.getElem?_eq_some_iff.1 h1).1
  exact ⟨_, List.getElem?_eq_getElem hlt⟩
set_option maxRecDepth 100000 in
set_option maxHeartbeats 1000000 in
theorem updIn_not (p : Option Addr) (q : Nat) (W : World) (h0 : W.cell? ⟨q, 0, none⟩ = some (.pointer p)) (h : NoH p W) :
    Calls Tryz.prog 57 #[.pointer (some ⟨q, 0, none⟩), .pointer (some ⟨q + 1, 0, none⟩), .pointer (some ⟨q + 2, 0, none⟩), .pointer (some ⟨q + 3, 0, none⟩)] W fun e w' => e = .panicked (panicOf 1) ∧ Below W.heap.size W w' := by
  have H := hide (made_no p W h)
  clear h
  go_enter Tryz.func57, Tryz.ntmps57
  go_wp2_with (go_at_call 45; refine H.out.mono ?_; rintro e w' ⟨rfl, rfl⟩)
  exact ⟨rfl, rfl, Below.refl _ _⟩
set_option maxRecDepth 100000 in
set_option maxHeartbeats 1000000 in
theorem updIn_key (B b cb mb ks sz q : Nat) (L : List HS) (A : Option Addr) (n c : Nat) (W : World) (h : Hsh W B b cb mb ks sz L) (h0 : W.cell? ⟨q, 0, none⟩ = some (.pointer (some ⟨b, 0, none⟩))) (h1 : W.cell? ⟨q + 1, 0, none⟩ = some (.slice A n c)) (hn : n ≠ ks) :
    Calls Tryz.prog 57 #[.pointer (some ⟨q, 0, none⟩), .pointer (some ⟨q + 1, 0, none⟩), .pointer (some ⟨q + 2, 0, none⟩), .pointer (some ⟨q + 3, 0, none⟩)] W fun e w' => e = .panicked (panicOf 2) ∧ Below W.heap.size W w' := by
  have HM := hide (made_yes b W (by rw [blk_cell h.blk]; rfl))
  have HK := hide (key_no b ks n A c W h.c1 hn)
  clear h hn
  go_enter Tryz.func57, Tryz.ntmps57
  go_wp2_with (first
    | (go_at_call 45; refine HM.out.mono ?_; rintro e w' ⟨rfl, rfl⟩)
    | (go_at_call 55; refine HK.out.mono ?_; rintro e w' ⟨rfl, rfl⟩))
  exact ⟨rfl, rfl, Below.refl _ _⟩
set_option maxRecDepth 100000 in
set_option maxHeartbeats 1000000 in
theorem updIn_arg (B b cb mb ks sz q : Nat) (L : List HS) (A S : Option Addr) (c k sc : Nat) (fl : Int) (W : World) (h : Hsh W B b cb mb ks sz L) (hq : Boxes4 W q (.pointer (some ⟨b, 0, none⟩)) (.slice A ks c) (.slice S k sc) (.int .u64 fl) 26 34 34 35) (he : ¬ (k = sz ∧ fl ≤ 2)) :
    Calls Tryz.prog 57 #[.pointer (some ⟨q, 0, none⟩), .pointer (some ⟨q + 1, 0, none⟩), .pointer (some ⟨q + 2, 0, none⟩), .pointer (some ⟨q + 3, 0, none⟩)] W fun e w' => e = .panicked (panicOf 2) ∧ Below W.heap.size W w' := by
  have HM := hide (made_yes b W (by rw [blk_cell h.blk]; rfl))
  have HK := hide (key_yes b ks A c W h.c1)
  have c0 := hq.b0.cell
  have c1 := hq.b1.cell
  have c2 := hq.b2.cell
  have c3 := hq.b3.cell
  have cs := h.c3
  clear h hq
  by_cases hk : k = sz
  · have hfl : decide (fl ≤ 2) = false := by simp; omega
    have hkk : ((k : Int) == (sz : Int)) = true := by simp [hk]
    clear he hk
    go_enter Tryz.func57, Tryz.ntmps57
    go_wp2_with (first
      | (go_at_call 45; refine HM.out.mono ?_; rintro e w' ⟨rfl, rfl⟩)
      | (go_at_call 55; refine HK.out.mono ?_; rintro e w' ⟨rfl, rfl⟩))
    refine wp_region_still_tail 12 (by kernel_rfl) (by kernel_rfl) ?_
    simp only [List.take_succ_cons, List.take_zero, List.drop_succ_cons, List.drop_zero]
    repeat still_step
    refine wpStill_nil ?_
    go_wp2_with (go_at_call 12; ((with_reducible refine (demand_no _ _).mono ?_)); rintro e w' ⟨rfl, rfl⟩)
    exact ⟨rfl, rfl, (Below.refl _ W).drew⟩
  · have hkk : ((k : Int) == (sz : Int)) = false := by simp; omega
    clear he hk
    go_enter Tryz.func57, Tryz.ntmps57
    go_wp2_with (first
      | (go_at_call 45; refine HM.out.mono ?_; rintro e w' ⟨rfl, rfl⟩)
      | (go_at_call 55; refine HK.out.mono ?_; rintro e w' ⟨rfl, rfl⟩))
    refine wp_region_still_tail 12 (by kernel_rfl) (by kernel_rfl) ?_
    simp only [List.take_succ_cons, List.take_zero, List.drop_succ_cons, List.drop_zero]
    repeat still_step
    refine wpStill_nil ?_
    go_wp2_with (go_at_call 12; ((with_reducible refine (demand_no _ _).mono ?_)); rintro e w' ⟨rfl, rfl⟩)
    exact ⟨rfl, rfl, (Below.refl _ W).drew⟩
end Go.Proofs.YtolodcdhpnapmaaGreat

/-
  As RT4; a step knows, besides, what is deferred: a call may panic. No program is named here.
-/
namespace Go.Proofs.YtolodcdhpnapmaaGreat
open Go.RowKit Go.Maps
set_option linter.unusedVariables false

section
variable {P : Program} {ops : Array Oper} {Q : Exit → Act → World → Prop}
/-- What one step must show. -/
def StepTells9 (P : Program) (ops : Array Oper) (Q : Exit → Act → World → Prop) (T : Nat → (Nat → Value) → World → Prop) (G : (Nat → Bool) → World → Prop) (a0 : Act) (i : Nat) (o : Oper) : Prop :=
  ∀ (L : Nat → Bool) (a : Act) (W : World), L i = false → G L W → a.defers = a0.defers → (∀ t, Unyet ops L t → a.tmps.getD t undef = a0.tmps.getD t undef) → (∀ j, L j = true → T j (sl ops a) W) → (∀ j oj, L j = true → ops[j]? = some oj → ∀ k, hangs oj k = true → L k = true) → (∀ k, hangs o k = true → L k = true) →
    o.wp P a W (fun a' W' => ∃ v, a' = a.put o.dst v ∧ (o.dst = none → v = undef) ∧ G (fun j => L j || j == i) W' ∧ (∀ j, L j = true → T j (sl ops a) W') ∧ T i (upd (sl ops a) i v) W') Q

theorem wpAny_tells9 {a0 : Act} {w : World} (T : Nat → (Nat → Value) → World → Prop) (G : (Nat → Bool) → World → Prop)
    (hB : backward .any ops = true) (hA : dstApart ops = true) (hG : noGuards ops = true) (hb : dstBelow ops a0.tmps.size = true)
    (hdep : ∀ j oj σ σ' W, ops[j]? = some oj → T j σ W → (∀ k, k = j ∨ hangs oj k = true → σ' k = σ k) → T j σ' W)
    (h0 : G (fun _ => false) w) (hstep : ∀ i o, ops[i]? = some o → StepTells9 P ops Q T G a0 i o)
    (h : ∀ (a : Act) W, a.defers = a0.defers → a.tmps.size = a0.tmps.size → (∀ t, unwritten ops t = true → a.tmps.getD t undef = a0.tmps.getD t undef) → (∀ j, j < ops.size → T j (sl ops a) W) → G (fun j => decide (j < ops.size)) W → Q .normal a W) :
    wpAny P .any ops Q ops.size (Array.replicate ops.size false) a0 w := by
  refine wpAny_keeps (fun listed a W => (a.defers = a0.defers ∧ a.tmps.size = a0.tmps.size ∧ (∀ t, Unyet ops (fun j => listed.getD j false) t → a.tmps.getD t undef = a0.tmps.getD t undef)) ∧ G (fun j => listed.getD j false) W ∧
    (∀ j, listed.getD j false = true → T j (sl ops a) W ∧ ∀ oj, ops[j]? = some oj → ∀ k, hangs oj k = true → listed.getD k false = true)) hB ?_ ?_ _ _ _ _ (by simp) ?_ ?_
  · intro listed a W i hs ⟨⟨hd, hsz, hold⟩, hGW, hT⟩ hi
    obtain ⟨hlt, hnot, haft⟩ := mem_ready hi
    have ho : ops[i]? = some ops[i] := Array.getElem?_eq_getElem hlt
    generalize ops[i] = o at ho
    have hil : listed.getD i false = false := by
      rw [Array.getD_eq_getD_getElem?, Array.getElem?_eq_getElem (by omega)] at hnot ⊢
      simpa using hnot
    have hdone : ∀ j, hangs o j = true → listed.getD j false = true := fun j hh => by
      obtain ⟨ed, hed, hbd, hon⟩ := hangs_spec hh
      exact hon ▸ haft o ho ed hed hbd
    refine wpOp_step ho (fun K' hK' => ?_)
    rw [if_pos (by simp [Region.wanted, noGuards_spec hG ho])]
    refine Oper.wp_mono ?_ (hstep i o ho (fun j => listed.getD j false) a W hil hGW hd hold (fun j hj => (hT j hj).1) (fun j oj hj hoj k hk => (hT j hj).2 oj hoj k hk) hdone)
    rintro a' W' ⟨v, rfl, hv, hG', hT', hTi⟩
    have hsl := sl_put (a := a) hA (by rw [hsz]; exact hb) ho v hv
    have hGG : G (fun j => (listed.setIfInBounds i true).getD j false) W' := by
      have e : (fun j => (listed.setIfInBounds i true).getD j false) = (fun j => listed.getD j false || j == i) := by
        funext j
        by_cases hji : j = i
        · subst hji
          rw [Array.getD_eq_getD_getElem?, Array.getElem?_setIfInBounds_self_of_lt (by omega)]
          simp
        · rw [Array.getD_eq_getD_getElem?, Array.getElem?_setIfInBounds_ne (fun e => hji e.symm), ← Array.getD_eq_getD_getElem?]
          simp [hji]
      rw [e]
      exact hG'
    refine hK' _ _ ⟨⟨?_, ?_, fun t ht => ?_⟩, hGG, fun j hj => ?_⟩
    · unfold Act.put; split <;> exact hd
    · unfold Act.put; split <;> simp [hsz]
    · rw [← hold t (fun j oj hj hdj => by
        have h1 : (listed.setIfInBounds i true).getD j false = false := ht j oj hj hdj
        cases h2 : listed.getD j false with
        | false => exact h2
        | true => rw [getD_set_keep h2] at h1; cases h1)]
      cases hd' : o.dst with
      | none => rfl
      | some d =>
        have : d ≠ t := fun e => by
          have h1 : (listed.setIfInBounds i true).getD i false = false := ht i o ho (e ▸ hd')
          have h2 : (listed.setIfInBounds i true).getD i false = true := by
            rw [Array.getD_eq_getD_getElem?, Array.getElem?_setIfInBounds_self_of_lt (by omega)]
            rfl
          rw [h2] at h1
          cases h1
        simp [Act.put, Array.getD_eq_getD_getElem?, Array.getElem?_setIfInBounds_ne this]
    · rw [hsl]
      rcases getD_set_true hj with rfl | hj2
      · refine ⟨hTi, fun oj hoj k hk => ?_⟩
        rw [ho] at hoj; cases hoj
        exact getD_set_keep (hdone k hk)
      · refine ⟨?_, fun oj hoj k hk => getD_set_keep ((hT j hj2).2 oj hoj k hk)⟩
        have hjn : ops[j]? = some (ops[j]'(by
          rw [Array.getD_eq_getD_getElem?] at hj2
          by_cases h : j < ops.size
          · exact h
          · rw [Array.getElem?_eq_none (by omega)] at hj2; simp at hj2)) := Array.getElem?_eq_getElem _
        refine hdep j _ _ _ W' hjn (hT' j hj2) (fun k hk => ?_)
        unfold upd
        rw [if_neg]
        rintro rfl
        rcases hk with rfl | hk
        · rw [hil] at hj2; cases hj2
        · have := (hT j hj2).2 _ hjn k hk
          rw [hil] at this; cases this
  · intro listed a W hs hall ⟨⟨hd, hsz, hold⟩, hGW, hT⟩
    have e : (fun j => listed.getD j false) = (fun j => decide (j < ops.size)) := by
      funext j
      by_cases hj : j < ops.size
      · simp only [hj, decide_true]; exact hall j hj
      · rw [Array.getD_eq_getD_getElem?, Array.getElem?_eq_none (by omega)]
        simp [hj]
    rw [e] at hGW
    exact h a W hd hsz (fun t ht => hold t (unyet_of ht)) (fun j hj => (hT j (hall j hj)).1) hGW
  · simp
  · have hz : ∀ j, (Array.replicate ops.size false).getD j false = false := fun j => by
      rw [Array.getD_eq_getD_getElem?, Array.getElem?_replicate]
      split <;> rfl
    exact ⟨⟨rfl, rfl, fun _ _ => rfl⟩, by simp only [hz]; exact h0, fun j hj => by rw [hz] at hj; cases hj⟩

theorem wp_tells9 {id : Nat} {a0 : Act} {w : World} (hmo : P.follows .mixedOrders = true) (T : Nat → (Nat → Value) → World → Prop) (G : (Nat → Bool) → World → Prop)
    (hB : backward .any ops = true) (hA : dstApart ops = true) (hG : noGuards ops = true) (hb : dstBelow ops a0.tmps.size = true)
    (hdep : ∀ j oj σ σ' W, ops[j]? = some oj → T j σ W → (∀ k, k = j ∨ hangs oj k = true → σ' k = σ k) → T j σ' W)
    (h0 : G (fun _ => false) w.drew) (hstep : ∀ i o, ops[i]? = some o → StepTells9 P ops Q T G a0 i o)
    (h : ∀ (a : Act) W, a.defers = a0.defers → a.tmps.size = a0.tmps.size → (∀ t, unwritten ops t = true → a.tmps.getD t undef = a0.tmps.getD t undef) → (∀ j, j < ops.size → T j (sl ops a) W) → G (fun j => decide (j < ops.size)) W → Q .normal a W) :
    (Code.region id ops true).wp P Q a0 w := by
  refine wp_region_any hmo ?_
  exact wpAny_tells9 (w := w.drew) T G hB hA hG hb hdep h0 hstep h
end

end Go.Proofs.YtolodcdhpnapmaaGreat

/-
  Update of a hash: a value stands at its key's place, or the error.
-/
namespace Go.Proofs.YtolodcdhpnapmaaGreat
open Go.RowKit Go.Maps
set_option linter.unusedVariables false

theorem step4_panics {P : Program} {ops : Array Oper} {Q : Exit → Act → World → Prop} {T : Nat → (Nat → Value) → World → Prop} {G : (Nat → Bool) → World → Prop} {L : Nat → Bool} {a : Act} {W : World} {i : Nat} {o : Oper} {f : FuncId} {args : Array Value} {chain : List PanicEntry} {R : World → Prop}
    (hrun : (execOp a.eval o).run P W = .ok (.enter f args) W) (hc : Calls P f args W fun e w' => e = .panicked chain ∧ R w') (h : ∀ w', R w' → Q (.panic chain) a w') : o.wp P a W (Stepped4 ops T G L a i o) Q := by
  unfold Oper.wp
  rw [hrun, Oper.upon_enter]
  refine hc.mono ?_
  rintro e w' ⟨rfl, hR⟩
  exact h w' hR
theorem Boxes4.kept {F : Nat → Prop} {W W' : World} {q : Nat} {v0 v1 v2 v3 : Value} {t0 t1 t2 t3 : TypeId} (h : Boxes4 W q v0 v1 v2 v3 t0 t1 t2 t3) (hk : Kept F W W') (hF : ∀ g, q ≤ g → F g) : Boxes4 W' q v0 v1 v2 v3 t0 t1 t2 t3 :=
  ⟨(hk.block _ h.b0.lt (hF _ (by omega))).trans h.b0, (hk.block _ h.b1.lt (hF _ (by omega))).trans h.b1, (hk.block _ h.b2.lt (hF _ (by omega))).trans h.b2, (hk.block _ h.b3.lt (hF _ (by omega))).trans h.b3⟩
/-- What lasts of the statement that puts a value; ok: may the key have a place? -/
def TUpd (b ks cb i : Nat) (A S : Option Addr) (c sz sc : Nat) (fl : Int) (ok : Prop) (j : Nat) (σ : Nat → Value) (W : World) : Prop :=
  match j with
  | 0 => σ 0 = .pointer (some ⟨b, 0, none⟩)
  | 1 => σ 1 = .pointer (some ⟨b, 0, none⟩)
  | 2 => σ 2 = .pointer (some ⟨b, 3, none⟩)
  | 3 => σ 3 = .pointer (some ⟨b, 0, none⟩)
  | 4 => σ 4 = .slice A ks c
  | 5 => σ 5 = .int .u64 fl
  | 6 => σ 6 = .int .i64 i ∧ ok
  | 7 => σ 7 = .pointer (some ⟨cb, i * 2, none⟩)
  | 8 => σ 8 = .slice S sz sc
  | _ => True
def GUpdN (W0 : World) (B b cb mb ks sz q : Nat) (L : List HS) (v1 v2 v3 : Value) (_ : Nat → Bool) (X : World) : Prop :=
  Boxes4 X q (.pointer (some ⟨b, 0, none⟩)) v1 v2 v3 26 34 34 35 ∧ Hsh X B b cb mb ks sz L ∧ Below W0.heap.size W0 X
def GUpd (W0 : World) (B b cb mb ks sz q : Nat) (L LK : List HS) (i : Nat) (d : List Int) (v1 v2 v3 : Value) (D : Nat → Bool) (X : World) : Prop :=
  Boxes4 X q (.pointer (some ⟨b, 0, none⟩)) v1 v2 v3 26 34 34 35 ∧
    (if D 9 = true then Hsh X B b cb mb ks sz (putB LK i 0 d) ∧ Kept (fun g => ¬ OfH b cb mb sz L g) W0 X else if D 6 = true then Hsh X B b cb mb ks sz LK ∧ Kept (fun g => g ≠ cb ∧ g ≠ mb) W0 X else Hsh X B b cb mb ks sz L ∧ Below W0.heap.size W0 X)
theorem GUpd.same {W0 X : World} {B b cb mb ks sz q i j : Nat} {L LK : List HS} {d : List Int} {v1 v2 v3 : Value} {D : Nat → Bool} (h : GUpd W0 B b cb mb ks sz q L LK i d v1 v2 v3 D X) (h6 : j ≠ 6) (h9 : j ≠ 9) : GUpd W0 B b cb mb ks sz q L LK i d v1 v2 v3 (fun k => D k || k == j) X := by
  unfold GUpd at h ⊢
  have e6 : (6 == j) = false := by simpa using fun e : 6 = j => h6 e.symm
  have e9 : (9 == j) = false := by simpa using fun e : 9 = j => h9 e.symm
  simp only [e6, e9, Bool.or_false]
  exact h
set_option maxRecDepth 100000 in
set_option maxHeartbeats 4000000 in
theorem updIn_no (B b cb mb ks sz q : Nat) (L : List HS) (A S : Option Addr) (c C sc : Nat) (fl : Int) (l d : List Int) (W : World) (h : Hsh W B b cb mb ks sz L) (hq : Boxes4 W q (.pointer (some ⟨b, 0, none⟩)) (.slice A ks c) (.slice S sz sc) (.int .u64 fl) 26 34 34 35) (hql : ∀ g, OfH b cb mb sz L g → g < q)
    (hr : KRow W C A ks l) (hC : C ≤ W.heap.size) (hfl : fl ≤ 2) (he : pickE L (kb l) fl ≠ 0) :
    Calls Tryz.prog 57 #[.pointer (some ⟨q, 0, none⟩), .pointer (some ⟨q + 1, 0, none⟩), .pointer (some ⟨q + 2, 0, none⟩), .pointer (some ⟨q + 3, 0, none⟩)] W fun e w' => e = .panicked (panicOf (pickE L (kb l) fl)) ∧ Below W.heap.size W w' := by
  have HM := hide (made_yes b W (by rw [blk_cell h.blk]; rfl))
  have HK := hide (key_yes b ks A c W h.c1)
  have c0 := hq.b0.cell
  have c1 := hq.b1.cell
  have c2 := hq.b2.cell
  have c3 := hq.b3.cell
  have cs := h.c3
  have HQ := hide hq
  have HH := hide h
  have HR := hide hr
  have hEF : ∀ args (W : World), (callFunc 58 args).run Tryz.prog W = .ok (.enter 58 args) W := enters_of Tryz.func58 (by kernel_rfl) rfl
  have hEA : ∀ args (W : World), (callFunc 46 args).run Tryz.prog W = .ok (.enter 46 args) W := enters_of Tryz.func46 (by kernel_rfl) rfl
  have hEP : ∀ args (W : World), (callFunc 59 args).run Tryz.prog W = .ok (.enter 59 args) W := enters_of Tryz.func59 (by kernel_rfl) rfl
  have hfl2 : decide (fl ≤ 2) = true := by simpa using hfl
  have hkk : ((sz : Int) == (sz : Int)) = true := by simp
  clear h hq hr
  go_enter Tryz.func57, Tryz.ntmps57
  go_wp2_with (first
    | (go_at_call 45; refine HM.out.mono ?_; rintro e w' ⟨rfl, rfl⟩)
    | (go_at_call 55; refine HK.out.mono ?_; rintro e w' ⟨rfl, rfl⟩))
  refine wp_region_still_tail 12 (by kernel_rfl) (by kernel_rfl) ?_
  simp only [List.take_succ_cons, List.take_zero, List.drop_succ_cons, List.drop_zero]
  repeat still_step
  refine wpStill_nil ?_
  go_wp2_with (go_at_call 12; ((with_reducible refine (demand_yes _ _).mono ?_)); rintro e w' ⟨rfl, rfl⟩)
  clear HM HK c0 c1 c2 c3 cs
  refine wp_tells9 (by kernel_rfl) (TUpd b ks cb 0 A S c sz sc fl False) (GUpdN W.drew B b cb mb ks sz q L (.slice A ks c) (.slice S sz sc) (.int .u64 fl)) (by kernel_rfl) (by kernel_rfl) (by kernel_rfl) (by kernel_rfl) ?_ ?_ ?_ ?_
  · intro j oj σ σ' W hj h hs
    have hi : j < 10 := (Array.getElem?_eq_some_iff.1 hj).1
    have h0 := hs j (.inl rfl)
    have hi' : j = 0 ∨ j = 1 ∨ j = 2 ∨ j = 3 ∨ j = 4 ∨ j = 5 ∨ j = 6 ∨ j = 7 ∨ j = 8 ∨ j = 9 := by omega
    rcases hi' with rfl | rfl | rfl | rfl | rfl | rfl | rfl | rfl | rfl | rfl
    all_goals first | exact trivial | (simp only [TUpd] at h ⊢; rw [h0]; exact h)
  · have hbd := ((Below.refl W.heap.size W).drew).drew
    exact ⟨HQ.out.below hbd, HH.out.below hbd, (Below.refl W.drew.heap.size W.drew).drew⟩
  · intro i o ho D a X hi hG hdf hold hT hcl hh
    have hi2 : i < 10 := (Array.getElem?_eq_some_iff.1 ho).1
    have hi' : i = 0 ∨ i = 1 ∨ i = 2 ∨ i = 3 ∨ i = 4 ∨ i = 5 ∨ i = 6 ∨ i = 7 ∨ i = 8 ∨ i = 9 := by omega
    rcases hi' with rfl | rfl | rfl | rfl | rfl | rfl | rfl | rfl | rfl | rfl
    · cases ho
      have k0 := hG.1.b0.cell
      refine step4_told (.pointer (some ⟨b, 0, none⟩)) ?_ (by decide) hG hT rfl
      have e0 : a.eval (.tmp 0) = .pointer (some ⟨q, 0, none⟩) := hold 0 (unyet_of (by kernel_rfl))
      generalize a.eval = ev at e0 ⊢
      simp [execOp, go_sem, e0, k0]
    · cases ho
      refine step4_told (.pointer (some ⟨b, 0, none⟩)) ?_ (by decide) hG hT rfl
      have e0 : a.eval (.tmp 22) = .pointer (some ⟨b, 0, none⟩) := hT 0 (hh 0 rfl)
      generalize a.eval = ev at e0 ⊢
      simp [execOp, go_sem, e0]
    · cases ho
      refine step4_told (.pointer (some ⟨b, 3, none⟩)) ?_ (by decide) hG hT rfl
      have e0 : a.eval (.tmp 23) = .pointer (some ⟨b, 0, none⟩) := hT 1 (hh 1 rfl)
      generalize a.eval = ev at e0 ⊢
      simp [execOp, go_sem, e0]
    · cases ho
      have k0 := hG.1.b0.cell
      refine step4_told (.pointer (some ⟨b, 0, none⟩)) ?_ (by decide) hG hT rfl
      have e0 : a.eval (.tmp 0) = .pointer (some ⟨q, 0, none⟩) := hold 0 (unyet_of (by kernel_rfl))
      generalize a.eval = ev at e0 ⊢
      simp [execOp, go_sem, e0, k0]
    · cases ho
      have k1 := hG.1.b1.cell
      refine step4_told (.slice A ks c) ?_ (by decide) hG hT rfl
      have e0 : a.eval (.tmp 1) = .pointer (some ⟨q + 1, 0, none⟩) := hold 1 (unyet_of (by kernel_rfl))
      generalize a.eval = ev at e0 ⊢
      simp [execOp, go_sem, e0, k1]
    · cases ho
      have k3 := hG.1.b3.cell
      refine step4_told (.int .u64 fl) ?_ (by decide) hG hT rfl
      have e0 : a.eval (.tmp 3) = .pointer (some ⟨q + 3, 0, none⟩) := hold 3 (unyet_of (by kernel_rfl))
      generalize a.eval = ev at e0 ⊢
      simp [execOp, go_sem, e0, k3]
    · cases ho
      obtain ⟨g1, g2, g3⟩ := hG
      have e0 : a.eval (.tmp 25) = .pointer (some ⟨b, 0, none⟩) := hT 3 (hh 3 rfl)
      have e1 : a.eval (.tmp 26) = .slice A ks c := hT 4 (hh 4 rfl)
      have e2 : a.eval (.tmp 27) = .int .u64 fl := hT 5 (hh 5 rfl)
      have hk := g2.kbig
      have hkr := HR.out.below ((Below.refl W.heap.size W).drew.mono hC |>.trans (g3.mono hC))
      refine step4_panics (f := 58) (args := #[.pointer (some ⟨b, 0, none⟩), .slice A ks c, .int .u64 fl]) ?_ (for_no B b cb mb ks sz L A ks c C l fl X g2 hkr.byte hkr.rd hkr.nil (by omega) he) ?_
      · have ef : a.eval (.func 58) = .func (.func 58) #[] #[] := rfl
        generalize a.eval = ev at e0 e1 e2 ef ⊢
        simp [execOp, go_sem, e0, e1, e2, ef, hEF]
      · intro w' hb
        have hb2 := (Below.refl W.heap.size W).drew.trans (g3.trans (hb.mono g3.size))
        exact ⟨hdf, rfl, hb2⟩
    · exact absurd (hT 6 (hh 6 (by cases ho; rfl))).2 id
    · cases ho
      have k2 := hG.1.b2.cell
      refine step4_told (.slice S sz sc) ?_ (by decide) hG hT rfl
      have e0 : a.eval (.tmp 2) = .pointer (some ⟨q + 2, 0, none⟩) := hold 2 (unyet_of (by kernel_rfl))
      generalize a.eval = ev at e0 ⊢
      simp [execOp, go_sem, e0, k2]
    · exact absurd (hT 6 (hcl 7 _ (hh 7 (by cases ho; rfl)) rfl 6 (by kernel_rfl))).2 id
  · intro a X hd hsz hold hT hG
    exact absurd (hT 6 (by decide)).2 id
set_option maxRecDepth 100000 in
set_option maxHeartbeats 4000000 in
theorem updIn_yes (B b cb mb ks sz q : Nat) (L : List HS) (A S : Option Addr) (c C sc : Nat) (fl : Int) (l d : List Int) (W : World) (h : Hsh W B b cb mb ks sz L) (hq : Boxes4 W q (.pointer (some ⟨b, 0, none⟩)) (.slice A ks c) (.slice S sz sc) (.int .u64 fl) 26 34 34 35) (hql : ∀ g, OfH b cb mb sz L g → g < q)
    (hr : KRow W C A ks l) (hC : C ≤ W.heap.size) (hfl : fl ≤ 2) (hd : Rd W C 1 S sz (u8s d)) (hk1 : 1 ≤ ks) (he : pickE L (kb l) fl = 0) :
    Calls Tryz.prog 57 #[.pointer (some ⟨q, 0, none⟩), .pointer (some ⟨q + 1, 0, none⟩), .pointer (some ⟨q + 2, 0, none⟩), .pointer (some ⟨q + 3, 0, none⟩)] W fun e w' => e = .returned (.tuple #[]) ∧ Hsh w' B b cb mb ks sz (putB (putK L (kb l)) (putAt L (kb l)) 0 d) ∧ Kept (fun g => ¬ OfH b cb mb sz L g) W w' := by
  obtain ⟨r, hrow⟩ := putAt_row he
  have hbig := h.big
  have hap := h.apart
  have hcq := hql cb (.inr (.inl rfl))
  have hmq := hql mb (.inr (.inr (.inl rfl)))
  have hbq := hql b (.inl rfl)
  have HRD : Hid (∀ X, Kept (fun g => g ≠ cb ∧ g ≠ mb) W X → Rd X C 1 S sz (u8s d)) := hide (fun X hX => hd.beside2 (h.far2 hd (by omega)) (fun p hp hne => World.cell?_of_block (hX.block p.block (by omega) hne)))
  clear hd
  have HM := hide (made_yes b W (by rw [blk_cell h.blk]; rfl))
  have HK := hide (key_yes b ks A c W h.c1)
  have c0 := hq.b0.cell
  have c1 := hq.b1.cell
  have c2 := hq.b2.cell
  have c3 := hq.b3.cell
  have cs := h.c3
  have HQ := hide hq
  have HH := hide h
  have HR := hide hr
  have hEF : ∀ args (W : World), (callFunc 58 args).run Tryz.prog W = .ok (.enter 58 args) W := enters_of Tryz.func58 (by kernel_rfl) rfl
  have hEA : ∀ args (W : World), (callFunc 46 args).run Tryz.prog W = .ok (.enter 46 args) W := enters_of Tryz.func46 (by kernel_rfl) rfl
  have hEP : ∀ args (W : World), (callFunc 59 args).run Tryz.prog W = .ok (.enter 59 args) W := enters_of Tryz.func59 (by kernel_rfl) rfl
  have hfl2 : decide (fl ≤ 2) = true := by simpa using hfl
  have hkk : ((sz : Int) == (sz : Int)) = true := by simp
  clear h hq hr
  go_enter Tryz.func57, Tryz.ntmps57
  go_wp2_with (first
    | (go_at_call 45; refine HM.out.mono ?_; rintro e w' ⟨rfl, rfl⟩)
    | (go_at_call 55; refine HK.out.mono ?_; rintro e w' ⟨rfl, rfl⟩))
  refine wp_region_still_tail 12 (by kernel_rfl) (by kernel_rfl) ?_
  simp only [List.take_succ_cons, List.take_zero, List.drop_succ_cons, List.drop_zero]
  repeat still_step
  refine wpStill_nil ?_
  go_wp2_with (go_at_call 12; ((with_reducible refine (demand_yes _ _).mono ?_)); rintro e w' ⟨rfl, rfl⟩)
  clear HM HK c0 c1 c2 c3 cs
  have HW := hide ((Below.refl W.heap.size W).drew)
  refine wp_tells9 (by kernel_rfl) (TUpd b ks cb (putAt L (kb l)) A S c sz sc fl True) (GUpd W.drew B b cb mb ks sz q L (putK L (kb l)) (putAt L (kb l)) d (.slice A ks c) (.slice S sz sc) (.int .u64 fl)) (by kernel_rfl) (by kernel_rfl) (by kernel_rfl) (by kernel_rfl) ?_ ?_ ?_ ?_
  · intro j oj σ σ' W hj h hs
    have hi : j < 10 := (Array.getElem?_eq_some_iff.1 hj).1
    have h0 := hs j (.inl rfl)
    have hi' : j = 0 ∨ j = 1 ∨ j = 2 ∨ j = 3 ∨ j = 4 ∨ j = 5 ∨ j = 6 ∨ j = 7 ∨ j = 8 ∨ j = 9 := by omega
    rcases hi' with rfl | rfl | rfl | rfl | rfl | rfl | rfl | rfl | rfl | rfl
    all_goals first | exact trivial | (simp only [TUpd] at h ⊢; rw [h0]; exact h)
  · have hbd := ((Below.refl W.heap.size W).drew).drew
    exact ⟨HQ.out.below hbd, HH.out.below hbd, (Below.refl W.drew.heap.size W.drew).drew⟩
  · intro i o ho D a X hi hG hdf hold hT hcl hh
    have hi2 : i < 10 := (Array.getElem?_eq_some_iff.1 ho).1
    have hi' : i = 0 ∨ i = 1 ∨ i = 2 ∨ i = 3 ∨ i = 4 ∨ i = 5 ∨ i = 6 ∨ i = 7 ∨ i = 8 ∨ i = 9 := by omega
    rcases hi' with rfl | rfl | rfl | rfl | rfl | rfl | rfl | rfl | rfl | rfl
    · cases ho
      have k0 := hG.1.b0.cell
      refine step4_told (.pointer (some ⟨b, 0, none⟩)) ?_ (by decide) (hG.same (by decide) (by decide)) hT rfl
      have e0 : a.eval (.tmp 0) = .pointer (some ⟨q, 0, none⟩) := hold 0 (unyet_of (by kernel_rfl))
      generalize a.eval = ev at e0 ⊢
      simp [execOp, go_sem, e0, k0]
    · cases ho
      refine step4_told (.pointer (some ⟨b, 0, none⟩)) ?_ (by decide) (hG.same (by decide) (by decide)) hT rfl
      have e0 : a.eval (.tmp 22) = .pointer (some ⟨b, 0, none⟩) := hT 0 (hh 0 rfl)
      generalize a.eval = ev at e0 ⊢
      simp [execOp, go_sem, e0]
    · cases ho
      refine step4_told (.pointer (some ⟨b, 3, none⟩)) ?_ (by decide) (hG.same (by decide) (by decide)) hT rfl
      have e0 : a.eval (.tmp 23) = .pointer (some ⟨b, 0, none⟩) := hT 1 (hh 1 rfl)
      generalize a.eval = ev at e0 ⊢
      simp [execOp, go_sem, e0]
    · cases ho
      have k0 := hG.1.b0.cell
      refine step4_told (.pointer (some ⟨b, 0, none⟩)) ?_ (by decide) (hG.same (by decide) (by decide)) hT rfl
      have e0 : a.eval (.tmp 0) = .pointer (some ⟨q, 0, none⟩) := hold 0 (unyet_of (by kernel_rfl))
      generalize a.eval = ev at e0 ⊢
      simp [execOp, go_sem, e0, k0]
    · cases ho
      have k1 := hG.1.b1.cell
      refine step4_told (.slice A ks c) ?_ (by decide) (hG.same (by decide) (by decide)) hT rfl
      have e0 : a.eval (.tmp 1) = .pointer (some ⟨q + 1, 0, none⟩) := hold 1 (unyet_of (by kernel_rfl))
      generalize a.eval = ev at e0 ⊢
      simp [execOp, go_sem, e0, k1]
    · cases ho
      have k3 := hG.1.b3.cell
      refine step4_told (.int .u64 fl) ?_ (by decide) (hG.same (by decide) (by decide)) hT rfl
      have e0 : a.eval (.tmp 3) = .pointer (some ⟨q + 3, 0, none⟩) := hold 3 (unyet_of (by kernel_rfl))
      generalize a.eval = ev at e0 ⊢
      simp [execOp, go_sem, e0, k3]
    · have h7 : D 7 = false := by
        cases h7 : D 7 with
        | false => rfl
        | true => rw [hcl 7 _ h7 rfl 6 (by kernel_rfl)] at hi; cases hi
      have h9 : D 9 = false := by
        cases h9 : D 9 with
        | false => rfl
        | true => rw [hcl 9 _ h9 rfl 7 (by kernel_rfl)] at h7; cases h7
      obtain ⟨g1, g2⟩ := hG
      rw [if_neg (by rw [h9]; decide), if_neg (by rw [hi]; decide)] at g2
      obtain ⟨g2, g3⟩ := g2
      cases ho
      have e0 : a.eval (.tmp 25) = .pointer (some ⟨b, 0, none⟩) := hT 3 (hh 3 rfl)
      have e1 : a.eval (.tmp 26) = .slice A ks c := hT 4 (hh 4 rfl)
      have e2 : a.eval (.tmp 27) = .int .u64 fl := hT 5 (hh 5 rfl)
      have hkr := HR.out.below (HW.out.mono hC |>.trans (g3.mono hC))
      refine step4_called (R := fun v W' => v = .int .i64 (putAt L (kb l) : Nat) ∧ Hsh W' B b cb mb ks sz (putK L (kb l)) ∧ Kept (fun g => g ≠ cb ∧ g ≠ mb) X W') ?_ (by decide) ((for_any B b cb mb ks sz L A c C l fl X g2 hkr (Nat.le_trans hC g3.size) he).mono ?_) ?_
      · have ef : a.eval (.func 58) = .func (.func 58) #[] #[] := rfl
        generalize a.eval = ev at e0 e1 e2 ef ⊢
        simp [execOp, go_sem, e0, e1, e2, ef, hEF]
      · rintro e W' ⟨h1, h2⟩
        exact ⟨_, h1, rfl, h2⟩
      · rintro v W' ⟨rfl, h2, h3⟩
        refine ⟨⟨g1.kept h3 (fun g hg => by omega), ?_⟩, hT, rfl, trivial⟩
        rw [if_neg (by simp [h9]), if_pos (by simp)]
        exact ⟨h2, keptTrans (Kept.of_below g3) h3⟩
    · have h6 : D 6 = true := hh 6 (by cases ho; rfl)
      have h9 : D 9 = false := by
        cases h9 : D 9 with
        | false => rfl
        | true => rw [hcl 9 _ h9 rfl 7 (by kernel_rfl)] at hi; cases hi
      obtain ⟨g1, g2⟩ := hG
      rw [if_neg (by rw [h9]; decide), if_pos h6] at g2
      obtain ⟨g2, g3⟩ := g2
      cases ho
      have e0 : a.eval (.tmp 24) = .pointer (some ⟨b, 3, none⟩) := hT 2 (hh 2 rfl)
      have e1 : a.eval (.tmp 28) = .int .i64 (putAt L (kb l) : Nat) := (hT 6 h6).1
      refine step4_called (R := fun v W' => v = .pointer (some ⟨cb, putAt L (kb l) * 2, none⟩) ∧ X = W') ?_ (by decide) ((at_yes b (putK L (kb l)).length cb (putAt L (kb l)) X g2.c4 (List.getElem?_eq_some_iff.1 hrow).1).mono ?_) ?_
      · have ef : a.eval (.func 46) = .func (.func 46) #[] #[] := rfl
        generalize a.eval = ev at e0 e1 ef ⊢
        simp [execOp, go_sem, e0, e1, ef, hEA]
      · rintro e W' ⟨h1, h2⟩
        exact ⟨_, h1, rfl, h2⟩
      · rintro v W' ⟨rfl, rfl⟩
        refine ⟨⟨g1, ?_⟩, hT, rfl⟩
        rw [if_neg (by simp [h9]), if_pos (by simp [h6])]
        exact ⟨g2, g3⟩
    · cases ho
      have k2 := hG.1.b2.cell
      refine step4_told (.slice S sz sc) ?_ (by decide) (hG.same (by decide) (by decide)) hT rfl
      have e0 : a.eval (.tmp 2) = .pointer (some ⟨q + 2, 0, none⟩) := hold 2 (unyet_of (by kernel_rfl))
      generalize a.eval = ev at e0 ⊢
      simp [execOp, go_sem, e0, k2]
    · have h7 : D 7 = true := hh 7 (by cases ho; rfl)
      have h6 : D 6 = true := hcl 7 _ h7 rfl 6 (by kernel_rfl)
      obtain ⟨g1, g2⟩ := hG
      rw [if_neg (by rw [hi]; decide), if_pos h6] at g2
      obtain ⟨g2, g3⟩ := g2
      cases ho
      have e0 : a.eval (.tmp 29) = .pointer (some ⟨cb, putAt L (kb l) * 2, none⟩) := hT 7 (hh 7 rfl)
      have e1 : a.eval (.tmp 30) = .slice S sz sc := hT 8 (hh 8 rfl)
      have ec : a.eval (.const (.int .i64 0)) = .int .i64 0 := rfl
      have hdd := HRD.out X (keptTrans (Kept.of_below HW.out) g3)
      have hrl := g2.len hrow
      refine step4_called (R := fun v W' => v = .tuple #[] ∧ W'.ownsRow 0 5 1 (.slice r.A sz r.c) sz (u8s (splice r.bs 0 d)) ∧ Kept (fun j => (Value.slice r.A sz r.c).ownBlock ≠ some j) X W') ?_ (by decide) ((put_any cb (putAt L (kb l) * 2) 0 sz r.A S sz r.c sc C r.bs d X (g2.parts hrow) (g2.row _ r hrow) hdd (Nat.le_trans hC g3.size) (by omega) (by omega)).mono ?_) ?_
      · have ef : a.eval (.func 59) = .func (.func 59) #[] #[] := rfl
        generalize a.eval = ev at e0 e1 ef ec ⊢
        simp [execOp, go_sem, e0, e1, ef, ec, hEP]
      · rintro e W' ⟨h1, h2⟩
        exact ⟨_, h1, rfl, h2⟩
      · rintro v W' ⟨rfl, h2, h3⟩
        obtain ⟨h4, h5⟩ := g2.put hrow h2 h3
        have hlow : ∀ g, OfH b cb mb sz (putK L (kb l)) g → g < q := fun g hg => hql g (hg.same (sameA_putK L _))
        refine ⟨⟨g1.kept h5 (fun g hg ho => by have := hlow g ho; omega), ?_⟩, hT, trivial⟩
        rw [if_pos (by simp)]
        exact ⟨h4, keptTrans (g3.mono (fun g hg => ⟨fun e => hg (.inr (.inl e)), fun e => hg (.inr (.inr (.inl e)))⟩)) (h5.mono (fun g hg ho => hg (ho.same (sameA_putK L _))))⟩
  · intro a X hd hsz hold hT hG
    obtain ⟨g1, g2⟩ := hG
    rw [if_pos (by decide)] at g2
    refine bodyPost_end (results_none rfl _ _ _) hd ?_
    exact ⟨rfl, g2.1, keptTrans (Kept.of_below HW.out) g2.2⟩
end Go.Proofs.YtolodcdhpnapmaaGreat

/-
  Update and Delete of a hash, called.
-/
namespace Go.Proofs.YtolodcdhpnapmaaGreat
open Go.RowKit Go.Maps
set_option linter.unusedVariables false

set_option maxRecDepth 100000 in
set_option maxHeartbeats 1000000 in
theorem upd_of (p : Option Addr) (A S : Option Addr) (n c k sc : Nat) (fl er : Int) (w : World) (R : World → Prop)
    (h : Calls Tryz.prog 28 #[.func (.func 57) #[] #[.pointer (some ⟨w.heap.size, 0, none⟩), .pointer (some ⟨w.heap.size + 1, 0, none⟩), .pointer (some ⟨w.heap.size + 2, 0, none⟩), .pointer (some ⟨w.heap.size + 3, 0, none⟩)]] ((((w.alloc (.cells #[.pointer p] 26)).alloc (.cells #[.slice A n c] 34)).alloc (.cells #[.slice S k sc] 34)).alloc (.cells #[.int .u64 fl] 35)) fun e w' => e = .returned (.int .i64 er) ∧ R w') :
    Calls Tryz.prog 25 #[.pointer p, .slice A n c, .slice S k sc, .int .u64 fl] w fun e w' => e = .returned (.int .i64 er) ∧ R w' := by
  have hmf : ∀ (fn : Fn) (first cap : Array Value) (w : World), (Instr.makeFunc fn first cap).run Tryz.prog w = .ok (.func fn first cap) w := fun _ _ _ _ => rfl
  have H := hide h
  clear h
  go_enter Tryz.func25, Tryz.ntmps25
  go_wp2_with (go_at_call 28; refine H.out.mono ?_; rintro e w1 ⟨rfl, hl⟩; have HL := hide hl; clear hl)
  go_ret
  exact ⟨rfl, HL.out⟩
theorem hF_upd : ∀ (args : Array Value) (W : World), (callFunc 57 args).run Tryz.prog W = .ok (.enter 57 args) W := enters_of Tryz.func57 (by kernel_rfl) rfl
theorem upd_not (p : Option Addr) (A S : Option Addr) (n c k sc : Nat) (fl : Int) (w : World) (h : NoH p w) :
    Calls Tryz.prog 25 #[.pointer p, .slice A n c, .slice S k sc, .int .u64 fl] w fun e w' => e = .returned (.int .i64 1) ∧ Below w.heap.size w w' :=
  upd_of p A S n c k sc fl 1 w _ (tried4_no _ 1 _ _ _ _ _ _ _ _ w hF_upd (fun W hb hq => updIn_not p _ W hq.b0.cell (h.later hb)))
/-- Update, whatever is asked. -/
theorem upd_any (B b cb mb ks sz : Nat) (L : List HS) (A S : Option Addr) (n c C k sc : Nat) (fl : Int) (l d : List Int) (w : World) (h : Hsh w B b cb mb ks sz L) (hr : KRow w C A n l) (hC : C ≤ w.heap.size) (hd : Rd w C 1 S k (u8s d)) :
    Calls Tryz.prog 25 #[.pointer (some ⟨b, 0, none⟩), .slice A n c, .slice S k sc, .int .u64 fl] w fun e w' => e = .returned (.int .i64 (updE ks sz n k L (kb l) fl)) ∧ Hsh w' B b cb mb ks sz (updL ks sz n k L (kb l) fl d) ∧ Kept (fun g => ¬ OfH b cb mb sz L g) w w' := by
  have hks := h.kbig.1
  by_cases he : updE ks sz n k L (kb l) fl = 0
  · obtain ⟨rfl, rfl, hf, hp⟩ := updE_yes he
    have eL : updL n k n k L (kb l) fl d = putB (putK L (kb l)) (putAt L (kb l)) 0 d := by unfold updL; rw [if_pos he]
    rw [eL, he]
    refine upd_of _ A S n c k sc fl 0 w _ (tried4_yes _ B b cb mb n k L (putB (putK L (kb l)) (putAt L (kb l)) 0 d) _ _ _ _ _ _ _ _ w hF_upd h (fun g hg => (hg.same (sameA_putB _ _ _ _)).same (sameA_putK L _)) (fun W hbW hq => ?_))
    exact updIn_yes B b cb mb n k _ L A S c C sc fl l d W (h.below hbW) hq h.lt (hr.below (hbW.mono hC)) (Nat.le_trans hC hbW.size) hf (hd.below (hbW.mono hC)) hks hp
  · have eL : updL ks sz n k L (kb l) fl d = L := by unfold updL; rw [if_neg he]
    rw [eL]
    refine (upd_of _ A S n c k sc fl (updE ks sz n k L (kb l) fl) w (fun w' => Below w.heap.size w w') (tried4_no _ _ _ _ _ _ _ _ _ _ w hF_upd (fun W hbW hq => ?_))).mono (by
      rintro e w' ⟨h1, h2⟩
      exact ⟨h1, h.below h2, Kept.of_below h2⟩)
    have hW := h.below hbW
    have hrW := hr.below (hbW.mono hC)
    have hCW := Nat.le_trans hC hbW.size
    unfold updE at he ⊢
    by_cases hn : n = ks
    · subst hn
      rw [if_pos rfl] at he ⊢
      by_cases hk : k = sz ∧ fl ≤ 2
      · obtain ⟨rfl, hf⟩ := hk
        rw [if_pos ⟨rfl, hf⟩] at he ⊢
        exact updIn_no B b cb mb n k _ L A S c C sc fl l d W hW hq h.lt hrW hCW hf he
      · rw [if_neg hk]
        exact updIn_arg B b cb mb n sz _ L A S c k sc fl W hW hq hk
    · rw [if_neg hn]
      exact updIn_key B b cb mb ks sz _ L A n c W hW hq.b0.cell hq.b1.cell hn
/-- What lasts of the statement that leaves a key's place. -/
def TDel (b n i : Nat) (A : Option Addr) (c : Nat) (ok : Prop) (j : Nat) (σ : Nat → Value) (W : World) : Prop :=
  match j with
  | 0 => σ 0 = .pointer (some ⟨b, 0, none⟩)
  | 1 => σ 1 = .pointer (some ⟨b, 0, none⟩)
  | 2 => σ 2 = .pointer (some ⟨b, 3, none⟩)
  | 3 => σ 3 = .pointer (some ⟨b, 0, none⟩)
  | 4 => σ 4 = .slice A n c
  | 5 => σ 5 = .int .i64 i ∧ ok
  | _ => True
def GDelN (W0 : World) (B b cb mb ks sz q : Nat) (L : List HS) (A : Option Addr) (n c : Nat) (_ : Nat → Bool) (X : World) : Prop :=
  X.cell? ⟨q, 0, none⟩ = some (.pointer (some ⟨b, 0, none⟩)) ∧ X.cell? ⟨q + 1, 0, none⟩ = some (.slice A n c) ∧ Hsh X B b cb mb ks sz L ∧ Below W0.heap.size W0 X
def GDel (W0 : World) (B b cb mb ks sz q i : Nat) (L : List HS) (A : Option Addr) (n c : Nat) (D : Nat → Bool) (X : World) : Prop :=
  X.cell? ⟨q, 0, none⟩ = some (.pointer (some ⟨b, 0, none⟩)) ∧ X.cell? ⟨q + 1, 0, none⟩ = some (.slice A n c) ∧
    (if D 6 = true then ∃ Y, Hsh Y B b cb mb ks sz L ∧ Below W0.heap.size W0 Y ∧ LeaveTold cb sz L i Y X else Hsh X B b cb mb ks sz L ∧ Below W0.heap.size W0 X)
theorem GDel.same {W0 X : World} {B b cb mb ks sz q i j n c : Nat} {L : List HS} {A : Option Addr} {D : Nat → Bool} (h : GDel W0 B b cb mb ks sz q i L A n c D X) (h6 : j ≠ 6) : GDel W0 B b cb mb ks sz q i L A n c (fun k => D k || k == j) X := by
  unfold GDel at h ⊢
  have e6 : (6 == j) = false := by simpa using fun e : 6 = j => h6 e.symm
  simp only [e6, Bool.or_false]
  exact h
set_option maxRecDepth 100000 in
set_option maxHeartbeats 1000000 in
theorem delIn_not (p : Option Addr) (q : Nat) (W : World) (h0 : W.cell? ⟨q, 0, none⟩ = some (.pointer p)) (h : NoH p W) :
    Calls Tryz.prog 60 #[.pointer (some ⟨q, 0, none⟩), .pointer (some ⟨q + 1, 0, none⟩)] W fun e w' => e = .panicked (panicOf 1) ∧ Below W.heap.size W w' := by
  have H := hide (made_no p W h)
  clear h
  go_enter Tryz.func60, Tryz.ntmps60
  go_wp2_with (go_at_call 45; refine H.out.mono ?_; rintro e w' ⟨rfl, rfl⟩)
  exact ⟨rfl, rfl, Below.refl _ _⟩
set_option maxRecDepth 100000 in
set_option maxHeartbeats 1000000 in
theorem delIn_no (B b cb mb ks sz q : Nat) (L : List HS) (A : Option Addr) (n c C : Nat) (l : List Int) (W : World) (h : Hsh W B b cb mb ks sz L) (h0 : W.cell? ⟨q, 0, none⟩ = some (.pointer (some ⟨b, 0, none⟩))) (h1 : W.cell? ⟨q + 1, 0, none⟩ = some (.slice A n c))
    (hr : KRow W C A n l) (hC : C ≤ W.heap.size) (he : delE ks n L (kb l) ≠ 0) :
    Calls Tryz.prog 60 #[.pointer (some ⟨q, 0, none⟩), .pointer (some ⟨q + 1, 0, none⟩)] W fun e w' => e = .panicked (panicOf (delE ks n L (kb l))) ∧ Below W.heap.size W w' := by
  have HM := hide (made_yes b W (by rw [blk_cell h.blk]; rfl))
  unfold delE at he ⊢
  by_cases hn : n = ks
  · subst hn
    have hk := h.kbig
    rw [if_pos rfl] at he ⊢
    have HK := hide (key_yes b n A c W h.c1)
    cases hf : findK L (kb l) with
    | some i =>
      rw [hf] at he
      exact absurd rfl he
    | none =>
      have hbd := (Below.refl W.heap.size W).drew
      have HH := hide h
      have HR := hide hr
      have HF := hide hf
      have hEF : ∀ args (W : World), (callFunc 56 args).run Tryz.prog W = .ok (.enter 56 args) W := enters_of Tryz.func56 (by kernel_rfl) rfl
      clear h hr he hf
      simp only
      go_enter Tryz.func60, Tryz.ntmps60
      go_wp2_with (first
        | (go_at_call 45; refine HM.out.mono ?_; rintro e w' ⟨rfl, rfl⟩)
        | (go_at_call 55; refine HK.out.mono ?_; rintro e w' ⟨rfl, rfl⟩))
      clear HM HK
      refine wp_tells9 (by kernel_rfl) (TDel b n 0 A c False) (GDelN W B b cb mb n sz q L A n c) (by kernel_rfl) (by kernel_rfl) (by kernel_rfl) (by kernel_rfl) ?_ ?_ ?_ ?_
      · intro j oj σ σ' W hj h hs
        have hi : j < 7 := (Array.getElem?_eq_some_iff.1 hj).1
        have h0 := hs j (.inl rfl)
        have hi' : j = 0 ∨ j = 1 ∨ j = 2 ∨ j = 3 ∨ j = 4 ∨ j = 5 ∨ j = 6 := by omega
        rcases hi' with rfl | rfl | rfl | rfl | rfl | rfl | rfl
        all_goals first | exact trivial | (simp only [TDel] at h ⊢; rw [h0]; exact h)
      · exact ⟨h0, h1, HH.out.below hbd, hbd⟩
      · intro i' o ho D a X hi hG hdf hold hT hcl hh
        have hi2 : i' < 7 := (Array.getElem?_eq_some_iff.1 ho).1
        have hi' : i' = 0 ∨ i' = 1 ∨ i' = 2 ∨ i' = 3 ∨ i' = 4 ∨ i' = 5 ∨ i' = 6 := by omega
        rcases hi' with rfl | rfl | rfl | rfl | rfl | rfl | rfl
        · cases ho
          have k0 := hG.1
          refine step4_told (.pointer (some ⟨b, 0, none⟩)) ?_ (by decide) hG hT rfl
          have e0 : a.eval (.tmp 0) = .pointer (some ⟨q, 0, none⟩) := hold 0 (unyet_of (by kernel_rfl))
          generalize a.eval = ev at e0 ⊢
          simp [execOp, go_sem, e0, k0]
        · cases ho
          refine step4_told (.pointer (some ⟨b, 0, none⟩)) ?_ (by decide) hG hT rfl
          have e0 : a.eval (.tmp 7) = .pointer (some ⟨b, 0, none⟩) := hT 0 (hh 0 rfl)
          generalize a.eval = ev at e0 ⊢
          simp [execOp, go_sem, e0]
        · cases ho
          refine step4_told (.pointer (some ⟨b, 3, none⟩)) ?_ (by decide) hG hT rfl
          have e0 : a.eval (.tmp 8) = .pointer (some ⟨b, 0, none⟩) := hT 1 (hh 1 rfl)
          generalize a.eval = ev at e0 ⊢
          simp [execOp, go_sem, e0]
        · cases ho
          have k0 := hG.1
          refine step4_told (.pointer (some ⟨b, 0, none⟩)) ?_ (by decide) hG hT rfl
          have e0 : a.eval (.tmp 0) = .pointer (some ⟨q, 0, none⟩) := hold 0 (unyet_of (by kernel_rfl))
          generalize a.eval = ev at e0 ⊢
          simp [execOp, go_sem, e0, k0]
        · cases ho
          have k1 := hG.2.1
          refine step4_told (.slice A n c) ?_ (by decide) hG hT rfl
          have e0 : a.eval (.tmp 1) = .pointer (some ⟨q + 1, 0, none⟩) := hold 1 (unyet_of (by kernel_rfl))
          generalize a.eval = ev at e0 ⊢
          simp [execOp, go_sem, e0, k1]
        · cases ho
          obtain ⟨g0, g1, g2, g3⟩ := hG
          have e0 : a.eval (.tmp 10) = .pointer (some ⟨b, 0, none⟩) := hT 3 (hh 3 rfl)
          have e1 : a.eval (.tmp 11) = .slice A n c := hT 4 (hh 4 rfl)
          have hkr := HR.out.below (g3.mono hC)
          refine step4_panics (f := 56) (args := #[.pointer (some ⟨b, 0, none⟩), .slice A n c]) ?_ (placeOf_no B b cb mb n sz L A n c C l X g2 hkr.byte hkr.rd hkr.nil (by omega) HF.out) ?_
          · have ef : a.eval (.func 56) = .func (.func 56) #[] #[] := rfl
            generalize a.eval = ev at e0 e1 ef ⊢
            simp [execOp, go_sem, e0, e1, ef, hEF]
          · intro w' hb
            exact ⟨hdf, rfl, g3.trans (hb.mono g3.size)⟩
        · exact absurd (hT 5 (hh 5 (by cases ho; rfl))).2 id
      · intro a X hd hsz hold hT hG
        exact absurd (hT 5 (by decide)).2 id
  · have HK := hide (key_no b ks n A c W h.c1 hn)
    rw [if_neg hn]
    clear h hr he
    go_enter Tryz.func60, Tryz.ntmps60
    go_wp2_with (first
      | (go_at_call 45; refine HM.out.mono ?_; rintro e w' ⟨rfl, rfl⟩)
      | (go_at_call 55; refine HK.out.mono ?_; rintro e w' ⟨rfl, rfl⟩))
    exact ⟨rfl, rfl, Below.refl _ _⟩
/-- A key's place is left, then the key is deleted. -/
theorem Hsh.dropped {w w1 : World} {B b cb mb ks sz i : Nat} {L : List HS} {k : List UInt8} (h : Hsh w B b cb mb ks sz L) (hk : k.length ≤ maxLen) (hf : findK L k = some i) (hl : LeaveTold cb sz L i w w1) :
    ∃ w2, (Builtin.delete_ #[45, 9] 0 #[.map (some mb), encStr k]).run Tryz.prog w1.drew = .ok (.tuple #[]) w2 ∧ Hsh w2 B b cb mb ks sz (dropK L i) ∧ Kept (fun g => ¬ OfH b cb mb sz L g) w w2 := by
  obtain ⟨t1, t2⟩ := hl
  obtain ⟨a1, a2, a3, a4⟩ := h.apart
  obtain ⟨r, hr, hrk, _⟩ := findK_some hf
  obtain ⟨hon, hfk⟩ := findK_drop (bs := r.bs) h.once hr hrk
  rw [dropK_some hr]
  have hm1 : KMap Tryz.prog 9 3 w1.drew mb (takenK L) (placeF L) := h.map.same ((t2.block mb h.map.lt (fun e => a3 e.symm)).trans rfl)
  obtain ⟨w2, g1, g2, g3⟩ := hm1.drop strK Tryz.underlying45 (keyOf_str_mk Tryz.underlying9 hk) trivial 0
  have hK2 : Kept (fun g => g ≠ cb ∧ g ≠ mb) w w2 := ((t2.mono (F' := fun g => g ≠ cb ∧ g ≠ mb) (fun _ h => h.1)).drew).grown g3 (fun g e hlt hh => hh.2 (by cases e; rfl))
  refine ⟨w2, g1, h.rekey hr ?_ hK2 ?_ hon (fun k e => by cases e), hK2.mono (fun g hg => ⟨fun e => hg (.inr (.inl e)), fun e => hg (.inr (.inr (.inl e)))⟩)⟩
  · rw [g3.block cb (at_lt t1) (fun e => a3 (by injection e))]
    exact t1
  · have hN : takenK (L.set i { r with key := none }) = takenK L - 1 := by
      have := takenK_set L i r { r with key := none } hr
      rw [hrk] at this
      simp at this
      omega
    rw [hN]
    have e0 : (placeF L (.string k)).isSome = true := by rw [placeF_str, hf]; rfl
    rw [e0] at g2
    refine g2.congr (fun x hx => ?_)
    obtain ⟨key, hkey⟩ := hx
    obtain ⟨y, _, rfl, _⟩ := Maps.keyOf_str Tryz.underlying9 hkey
    rw [setK_str, placeF_str, placeF_str]
    have := hfk y
    rw [show (L.set i { r with key := none, bs := r.bs }) = L.set i { r with key := none } from rfl] at this
    rw [this]
    by_cases e : y = k
    · rw [if_pos e, if_pos e]; rfl
    · rw [if_neg e, if_neg e]
set_option maxRecDepth 100000 in
set_option maxHeartbeats 1000000 in
theorem delIn_yes (B b cb mb ks sz q i : Nat) (L : List HS) (A : Option Addr) (c C : Nat) (l : List Int) (W : World) (h : Hsh W B b cb mb ks sz L) (h0 : W.cell? ⟨q, 0, none⟩ = some (.pointer (some ⟨b, 0, none⟩))) (h1 : W.cell? ⟨q + 1, 0, none⟩ = some (.slice A ks c)) (hql : ∀ g, OfH b cb mb sz L g → g < q) (hq2 : q + 1 < W.heap.size)
    (hr : KRow W C A ks l) (hC : C ≤ W.heap.size) (hf : findK L (kb l) = some i) :
    Calls Tryz.prog 60 #[.pointer (some ⟨q, 0, none⟩), .pointer (some ⟨q + 1, 0, none⟩)] W fun e w' => e = .returned (.tuple #[]) ∧ Hsh w' B b cb mb ks sz (dropK L i) ∧ Kept (fun g => ¬ OfH b cb mb sz L g) W w' := by
  have HM := hide (made_yes b W (by rw [blk_cell h.blk]; rfl))
  have hk := h.kbig
  have HK := hide (key_yes b ks A c W h.c1)
  have hbd := (Below.refl W.heap.size W).drew
  have hkm := kb_max hr.rd (by omega)
  have hP := placeOf_yes B b cb mb ks sz L A ks c C i l W.drew (h.below hbd) hr.byte (hr.rd.mono (Nat.le_refl _)) hr.nil (by omega) hf
  have HP := hide hP
  obtain ⟨r, hri, _, _⟩ := findK_some hf
  have hil := (List.getElem?_eq_some_iff.1 hri).1
  have hcq := hql cb (.inr (.inl rfl))
  have hbq := hql b (.inl rfl)
  obtain ⟨a1, a2, a3, a4⟩ := h.apart
  have hfar := h.far hr.rd (by omega)
  have HX : Hid (∀ w1, Below W.heap.size W w1 → Hsh w1 B b cb mb ks sz L) := hide (fun w1 hb => h.below hb)
  have HL : Hid (∀ w1 w2, Below W.heap.size W w1 → LeaveTold cb sz L i w1 w2 → w2.cell? ⟨q, 0, none⟩ = some (.pointer (some ⟨b, 0, none⟩)) ∧ w2.cell? ⟨q + 1, 0, none⟩ = some (.slice A ks c) ∧ w2.cell? ⟨b, 2, none⟩ = some (.map (some mb)) ∧ (convert 34 9 (.slice A ks c)).run Tryz.prog w2.drew = .ok (encStr (kb l)) w2.drew) := hide (fun w1 w2 hb ht => by
    have hk : Kept (fun g => g ≠ cb) W w2 := keptTrans (Kept.of_below hb) ht.2
    refine ⟨(World.cell?_of_block (hk.block q (by omega) (by omega))).trans h0, (World.cell?_of_block (hk.block (q + 1) (by omega) (by omega))).trans h1, (World.cell?_of_block (hk.block b (by omega) a1)).trans h.c2, conv_key (W := w2.drew) (B := C) (c := c) hr.byte (hr.rd.beside hfar (fun p hp hne => World.cell?_of_block (hk.block p.block (by omega) hne))) hr.nil⟩)
  have HF := hide hf
  have HR := hide hr
  have hEF : ∀ args (W : World), (callFunc 56 args).run Tryz.prog W = .ok (.enter 56 args) W := enters_of Tryz.func56 (by kernel_rfl) rfl
  have hEL : ∀ args (W : World), (callFunc 61 args).run Tryz.prog W = .ok (.enter 61 args) W := enters_of Tryz.func61 (by kernel_rfl) rfl
  clear h hr hP hri hfar hf HP
  go_enter Tryz.func60, Tryz.ntmps60
  go_wp2_with (first
    | (go_at_call 45; refine HM.out.mono ?_; rintro e w' ⟨rfl, rfl⟩)
    | (go_at_call 55; refine HK.out.mono ?_; rintro e w' ⟨rfl, rfl⟩))
  rename_i K hK
  have HKK := hide hK
  clear hK HM HK
  refine wp_tells9 (by kernel_rfl) (TDel b ks i A c True) (GDel W B b cb mb ks sz q i L A ks c) (by kernel_rfl) (by kernel_rfl) (by kernel_rfl) (by kernel_rfl) ?_ ?_ ?_ ?_
  · intro j oj σ σ' W hj h hs
    have hi : j < 7 := (Array.getElem?_eq_some_iff.1 hj).1
    have h0 := hs j (.inl rfl)
    have hi' : j = 0 ∨ j = 1 ∨ j = 2 ∨ j = 3 ∨ j = 4 ∨ j = 5 ∨ j = 6 := by omega
    rcases hi' with rfl | rfl | rfl | rfl | rfl | rfl | rfl
    all_goals first | exact trivial | (simp only [TDel] at h ⊢; rw [h0]; exact h)
  · exact ⟨h0, h1, HX.out _ hbd, hbd⟩
  · intro i' o ho D a X hi hG hdf hold hT hcl hh
    have hi2 : i' < 7 := (Array.getElem?_eq_some_iff.1 ho).1
    have hi' : i' = 0 ∨ i' = 1 ∨ i' = 2 ∨ i' = 3 ∨ i' = 4 ∨ i' = 5 ∨ i' = 6 := by omega
    rcases hi' with rfl | rfl | rfl | rfl | rfl | rfl | rfl
    · cases ho
      have k0 := hG.1
      refine step4_told (.pointer (some ⟨b, 0, none⟩)) ?_ (by decide) (hG.same (by decide)) hT rfl
      have e0 : a.eval (.tmp 0) = .pointer (some ⟨q, 0, none⟩) := hold 0 (unyet_of (by kernel_rfl))
      generalize a.eval = ev at e0 ⊢
      simp [execOp, go_sem, e0, k0]
    · cases ho
      refine step4_told (.pointer (some ⟨b, 0, none⟩)) ?_ (by decide) (hG.same (by decide)) hT rfl
      have e0 : a.eval (.tmp 7) = .pointer (some ⟨b, 0, none⟩) := hT 0 (hh 0 rfl)
      generalize a.eval = ev at e0 ⊢
      simp [execOp, go_sem, e0]
    · cases ho
      refine step4_told (.pointer (some ⟨b, 3, none⟩)) ?_ (by decide) (hG.same (by decide)) hT rfl
      have e0 : a.eval (.tmp 8) = .pointer (some ⟨b, 0, none⟩) := hT 1 (hh 1 rfl)
      generalize a.eval = ev at e0 ⊢
      simp [execOp, go_sem, e0]
    · cases ho
      have k0 := hG.1
      refine step4_told (.pointer (some ⟨b, 0, none⟩)) ?_ (by decide) (hG.same (by decide)) hT rfl
      have e0 : a.eval (.tmp 0) = .pointer (some ⟨q, 0, none⟩) := hold 0 (unyet_of (by kernel_rfl))
      generalize a.eval = ev at e0 ⊢
      simp [execOp, go_sem, e0, k0]
    · cases ho
      have k1 := hG.2.1
      refine step4_told (.slice A ks c) ?_ (by decide) (hG.same (by decide)) hT rfl
      have e0 : a.eval (.tmp 1) = .pointer (some ⟨q + 1, 0, none⟩) := hold 1 (unyet_of (by kernel_rfl))
      generalize a.eval = ev at e0 ⊢
      simp [execOp, go_sem, e0, k1]
    · have h6 : D 6 = false := by
        cases h6 : D 6 with
        | false => rfl
        | true => rw [hcl 6 _ h6 rfl 5 (by kernel_rfl)] at hi; cases hi
      obtain ⟨g0, g1, g2⟩ := hG
      rw [if_neg (by rw [h6]; decide)] at g2
      obtain ⟨g2, g3⟩ := g2
      cases ho
      have e0 : a.eval (.tmp 10) = .pointer (some ⟨b, 0, none⟩) := hT 3 (hh 3 rfl)
      have e1 : a.eval (.tmp 11) = .slice A ks c := hT 4 (hh 4 rfl)
      have hkr := HR.out.below (g3.mono hC)
      refine step4_called (R := fun v W' => v = .int .i64 i ∧ Below X.heap.size X W') ?_ (by decide) ((placeOf_yes B b cb mb ks sz L A ks c C i l X g2 hkr.byte hkr.rd hkr.nil (by omega) HF.out).mono ?_) ?_
      · have ef : a.eval (.func 56) = .func (.func 56) #[] #[] := rfl
        generalize a.eval = ev at e0 e1 ef ⊢
        simp [execOp, go_sem, e0, e1, ef, hEF]
      · rintro e W' ⟨h1, h2⟩
        exact ⟨_, h1, rfl, h2⟩
      · rintro v W' ⟨rfl, h2⟩
        refine ⟨⟨(h2.cell (World.block_lt_of_cell? X _ g0)).trans g0, (h2.cell (World.block_lt_of_cell? X _ g1)).trans g1, ?_⟩, hT, rfl, trivial⟩
        rw [if_neg (by simp [h6])]
        exact ⟨g2.below h2, g3.trans (h2.mono g3.size)⟩
    · have h5 : D 5 = true := hh 5 (by cases ho; rfl)
      obtain ⟨g0, g1, g2⟩ := hG
      rw [if_neg (by rw [hi]; decide)] at g2
      obtain ⟨g2, g3⟩ := g2
      cases ho
      have e0 : a.eval (.tmp 9) = .pointer (some ⟨b, 3, none⟩) := hT 2 (hh 2 rfl)
      have e1 : a.eval (.tmp 12) = .int .i64 i := (hT 5 h5).1
      refine step4_called (R := fun v W' => v = .tuple #[] ∧ LeaveTold cb sz L i X W') ?_ (by decide) ((leave_any B b cb mb ks sz i L X g2 hil).mono ?_) ?_
      · have ef : a.eval (.func 61) = .func (.func 61) #[] #[] := rfl
        generalize a.eval = ev at e0 e1 ef ⊢
        simp [execOp, go_sem, e0, e1, ef, hEL]
      · rintro e W' ⟨h1, h2⟩
        exact ⟨_, h1, rfl, h2⟩
      · rintro v W' ⟨rfl, h2⟩
        refine ⟨⟨(World.cell?_of_block (h2.2.block q (World.block_lt_of_cell? X _ g0) (by omega))).trans g0, (World.cell?_of_block (h2.2.block (q + 1) (World.block_lt_of_cell? X _ g1) (by omega))).trans g1, ?_⟩, hT, trivial⟩
        rw [if_pos (by simp)]
        exact ⟨X, g2, g3, h2⟩
  · intro a X hd hsz hold hT hG
    obtain ⟨g0, g1, g2⟩ := hG
    rw [if_pos (by decide)] at g2
    obtain ⟨Y, y1, y2, y3⟩ := g2
    obtain ⟨k0, k1, k2, k3⟩ := HL.out Y X y2 y3
    obtain ⟨w3, p1, p2, p3⟩ := y1.dropped hkm HF.out y3
    have G2 := hide p2
    have G3 := hide (keptTrans (Kept.of_below y2) p3)
    clear p2 p3 y1 y2 y3 g0 g1
    have HKq := HKK.out
    refine HKq _ _ ?_
    clear HKq
    obtain ⟨f, hf, ha⟩ := act_puts [7, 8, 9, 10, 11, 12, 13] (fun t ht => by
      by_cases h : t ∈ [7, 8, 9, 10, 11, 12, 13]
      · exact h
      · exfalso
        simp [unwritten] at ht
        simp only [List.mem_cons, not_or] at h
        obtain ⟨h0, h1, h2, h3, h4, h5, h6, _⟩ := h
        exact absurd (ht (fun e => h0 e.symm) (fun e => h1 e.symm) (fun e => h2 e.symm) (fun e => h3 e.symm) (fun e => h4 e.symm) (fun e => h5 e.symm)) (fun e => h6 e.symm)) (fun t ht => by
      have hsz : t < 20 := by
        simp only [List.mem_cons, List.mem_nil_iff, or_false] at ht
        omega
      exact hsz) hd hsz hold
    subst ha
    clear hd hsz hold hT hf HKK hEF hEL
    simp only [List.foldl_cons, List.foldl_nil, Act.put, List.setIfInBounds_toArray, List.set_cons_succ, List.set_cons_zero]
    go_wp2
    go_region
    go_end0
    exact ⟨rfl, G2.out, G3.out⟩
end Go.Proofs.YtolodcdhpnapmaaGreat

/-
  Delete of a hash, called.
-/
namespace Go.Proofs.YtolodcdhpnapmaaGreat
open Go.RowKit Go.Maps
set_option linter.unusedVariables false

theorem hF_del : ∀ (args : Array Value) (W : World), (callFunc 60 args).run Tryz.prog W = .ok (.enter 60 args) W := enters_of Tryz.func60 (by kernel_rfl) rfl
set_option maxRecDepth 100000 in
set_option maxHeartbeats 1000000 in
theorem del_of (p : Option Addr) (A : Option Addr) (n c : Nat) (er : Int) (w : World) (R : World → Prop)
    (h : Calls Tryz.prog 28 #[.func (.func 60) #[] #[.pointer (some ⟨w.heap.size, 0, none⟩), .pointer (some ⟨w.heap.size + 1, 0, none⟩)]] ((w.alloc (.cells #[.pointer p] 26)).alloc (.cells #[.slice A n c] 34)) fun e w' => e = .returned (.int .i64 er) ∧ R w') :
    Calls Tryz.prog 26 #[.pointer p, .slice A n c] w fun e w' => e = .returned (.int .i64 er) ∧ R w' := by
  have hmf : ∀ (fn : Fn) (first cap : Array Value) (w : World), (Instr.makeFunc fn first cap).run Tryz.prog w = .ok (.func fn first cap) w := fun _ _ _ _ => rfl
  have H := hide h
  clear h
  go_enter Tryz.func26, Tryz.ntmps26
  go_wp2_with (go_at_call 28; refine H.out.mono ?_; rintro e w1 ⟨rfl, hl⟩; have HL := hide hl; clear hl)
  go_ret
  exact ⟨rfl, HL.out⟩
theorem tried2_no (F : FuncId) (er : Int) (v0 v1 : Value) (t0 t1 : TypeId) (w : World) (hF : ∀ (args : Array Value) (W : World), (callFunc F args).run Tryz.prog W = .ok (.enter F args) W)
    (h : ∀ W, Below w.heap.size w W → W.cell? ⟨w.heap.size, 0, none⟩ = some v0 → W.cell? ⟨w.heap.size + 1, 0, none⟩ = some v1 → Calls Tryz.prog F #[.pointer (some ⟨w.heap.size, 0, none⟩), .pointer (some ⟨w.heap.size + 1, 0, none⟩)] W fun e w' => e = .panicked (panicOf er) ∧ Below W.heap.size W w') :
    Calls Tryz.prog 28 #[.func (.func F) #[] #[.pointer (some ⟨w.heap.size, 0, none⟩), .pointer (some ⟨w.heap.size + 1, 0, none⟩)]] ((w.alloc (.cells #[v0] t0)).alloc (.cells #[v1] t1)) fun e w' => e = .returned (.int .i64 er) ∧ Below w.heap.size w w' := by
  obtain ⟨q0, q1⟩ := two_boxes w (.cells #[v0] t0) (.cells #[v1] t1)
  have hb := below2 w (.cells #[v0] t0) (.cells #[v1] t1)
  have hz : ((w.alloc (.cells #[v0] t0)).alloc (.cells #[v1] t1)).heap.size = w.heap.size + 2 := by simp
  generalize (w.alloc (.cells #[v0] t0)).alloc (.cells #[v1] t1) = W4 at *
  have hb2 := below1 W4 (.cells #[.int .i64 0] 27)
  have hbx : Boxed (W4.alloc (.cells #[.int .i64 0] 27)) W4.heap.size 27 (.int .i64 0) := Boxed.new _ _ _
  refine (tried_no F _ er W4 (fun w1 => Below (W4.alloc (.cells #[.int .i64 0] 27)).heap.size (W4.alloc (.cells #[.int .i64 0] 27)) w1) hF ((h _ (hb.trans (hb2.mono hb.size)) (box_cell ((hb2.block _ (at_lt q0)).trans q0)) (box_cell ((hb2.block _ (at_lt q1)).trans q1))).mono (by rintro e w' ⟨h1, h2⟩; exact ⟨h1, boxed_below hbx h2, h2⟩))).mono ?_
  rintro e w' ⟨rfl, hl⟩
  exact ⟨rfl, last_below hl (hb.trans (hb2.mono hb.size)) (by omega)⟩
theorem tried2_yes (F : FuncId) (B b cb mb ks sz : Nat) (L L' : List HS) (v0 v1 : Value) (t0 t1 : TypeId) (w : World) (hF : ∀ (args : Array Value) (W : World), (callFunc F args).run Tryz.prog W = .ok (.enter F args) W) (ha : Hsh w B b cb mb ks sz L) (hs : ∀ g, OfH b cb mb sz L' g → OfH b cb mb sz L g)
    (h : ∀ W, Below w.heap.size w W → w.heap.size + 1 < W.heap.size → W.cell? ⟨w.heap.size, 0, none⟩ = some v0 → W.cell? ⟨w.heap.size + 1, 0, none⟩ = some v1 → Calls Tryz.prog F #[.pointer (some ⟨w.heap.size, 0, none⟩), .pointer (some ⟨w.heap.size + 1, 0, none⟩)] W fun e w' =>
      e = .returned (.tuple #[]) ∧ Hsh w' B b cb mb ks sz L' ∧ Kept (fun g => ¬ OfH b cb mb sz L g) W w') :
    Calls Tryz.prog 28 #[.func (.func F) #[] #[.pointer (some ⟨w.heap.size, 0, none⟩), .pointer (some ⟨w.heap.size + 1, 0, none⟩)]] ((w.alloc (.cells #[v0] t0)).alloc (.cells #[v1] t1)) fun e w' =>
      e = .returned (.int .i64 0) ∧ Hsh w' B b cb mb ks sz L' ∧ Kept (fun g => ¬ OfH b cb mb sz L g) w w' := by
  obtain ⟨q0, q1⟩ := two_boxes w (.cells #[v0] t0) (.cells #[v1] t1)
  have hb := below2 w (.cells #[v0] t0) (.cells #[v1] t1)
  have hz : ((w.alloc (.cells #[v0] t0)).alloc (.cells #[v1] t1)).heap.size = w.heap.size + 2 := by simp
  generalize (w.alloc (.cells #[v0] t0)).alloc (.cells #[v1] t1) = W4 at *
  have hb2 := below1 W4 (.cells #[.int .i64 0] 27)
  have hbx : Boxed (W4.alloc (.cells #[.int .i64 0] 27)) W4.heap.size 27 (.int .i64 0) := Boxed.new _ _ _
  have hlow : ∀ g, OfH b cb mb sz L g → g < w.heap.size := ha.lt
  refine (tried_ok F _ W4 (fun w1 => Hsh w1 B b cb mb ks sz L' ∧ Kept (fun g => ¬ OfH b cb mb sz L g) (W4.alloc (.cells #[.int .i64 0] 27)) w1) hF ((h _ (hb.trans (hb2.mono hb.size)) (by have := hb2.size; omega) (box_cell ((hb2.block _ (at_lt q0)).trans q0)) (box_cell ((hb2.block _ (at_lt q1)).trans q1))).mono (by
    rintro e w' ⟨h1, h2, h3⟩
    exact ⟨h1, (h3.block _ hbx.lt (fun ho => by have := hlow _ ho; omega)).trans hbx, h2, h3⟩))).mono ?_
  rintro e w' ⟨rfl, w1, ⟨h2, h3⟩, rfl⟩
  have hk1 : Kept (fun g => g ≠ W4.heap.size) w1 (w1.setCell ⟨W4.heap.size, 0, none⟩ (.int .i64 0)) := (Kept.refl _ w1).setCell (fun _ h => h rfl) _
  refine ⟨rfl, h2.kept hk1 (fun g hg => by have := hlow g (hs g hg); omega), ?_⟩
  have hk0 : Kept (fun g => ¬ OfH b cb mb sz L g) w (W4.alloc (.cells #[.int .i64 0] 27)) := Kept.of_below (hb.trans (hb2.mono hb.size))
  exact (keptTrans hk0 h3).setCell (p := ⟨W4.heap.size, 0, none⟩) (fun hlt => by have : W4.heap.size < w.heap.size := hlt; omega) _
theorem del_not (p : Option Addr) (A : Option Addr) (n c : Nat) (w : World) (h : NoH p w) :
    Calls Tryz.prog 26 #[.pointer p, .slice A n c] w fun e w' => e = .returned (.int .i64 1) ∧ Below w.heap.size w w' :=
  del_of p A n c 1 w _ (tried2_no _ 1 _ _ _ _ w hF_del (fun W hb h0 h1 => delIn_not p _ W h0 (h.later hb)))
/-- Delete, whatever is asked. -/
theorem del_any (B b cb mb ks sz : Nat) (L : List HS) (A : Option Addr) (n c C : Nat) (l : List Int) (w : World) (h : Hsh w B b cb mb ks sz L) (hr : KRow w C A n l) (hC : C ≤ w.heap.size) :
    Calls Tryz.prog 26 #[.pointer (some ⟨b, 0, none⟩), .slice A n c] w fun e w' => e = .returned (.int .i64 (delE ks n L (kb l))) ∧ Hsh w' B b cb mb ks sz (delL ks n L (kb l)) ∧ Kept (fun g => ¬ OfH b cb mb sz L g) w w' := by
  by_cases he : delE ks n L (kb l) = 0
  · have hy : n = ks ∧ ∃ i, findK L (kb l) = some i ∧ delL ks n L (kb l) = dropK L i := by
      unfold delE at he
      unfold delL
      by_cases hn : n = ks
      · rw [if_pos hn] at he ⊢
        cases hf : findK L (kb l) with
        | some i => exact ⟨hn, i, rfl, rfl⟩
        | none => rw [hf] at he; cases he
      · rw [if_neg hn] at he; cases he
    obtain ⟨rfl, i, hf, eL⟩ := hy
    rw [eL, he]
    exact del_of _ A n c 0 w _ (tried2_yes _ B b cb mb n sz L (dropK L i) _ _ _ _ w hF_del h (fun g hg => hg.same (sameA_dropK L i)) (fun W hb hlt h0 h1 =>
      delIn_yes B b cb mb n sz _ i L A c C l W (h.below hb) h0 h1 h.lt hlt (hr.below (hb.mono hC)) (Nat.le_trans hC hb.size) hf))
  · have eL : delL ks n L (kb l) = L := by
      unfold delE at he
      unfold delL
      by_cases hn : n = ks
      · rw [if_pos hn] at he ⊢
        cases hf : findK L (kb l) with
        | some i => rw [hf] at he; exact absurd rfl he
        | none => rfl
      · rw [if_neg hn]
    rw [eL]
    refine (del_of _ A n c (delE ks n L (kb l)) w (fun w' => Below w.heap.size w w') (tried2_no _ _ _ _ _ _ w hF_del (fun W hb h0 h1 => delIn_no B b cb mb ks sz _ L A n c C l W (h.below hb) h0 h1 (hr.below (hb.mono hC)) (Nat.le_trans hC hb.size) he))).mono ?_
    rintro e w' ⟨h1, h2⟩
    exact ⟨h1, h.below h2, Kept.of_below h2⟩
end Go.Proofs.YtolodcdhpnapmaaGreat
