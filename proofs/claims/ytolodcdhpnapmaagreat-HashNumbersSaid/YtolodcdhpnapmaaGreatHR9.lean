/-
  The place at which a key's value is to stand.
-/
import Derived.Test.YtolodcdhpnapmaaGreatHR8
namespace Go.Proofs.YtolodcdhpnapmaaGreat
open Go.RowKit Go.Maps
set_option linter.unusedVariables false

theorem Rd.beside {w w' : World} {B sz n c : Nat} {A : Option Addr} {xs : List Value} (h : Rd w B sz A n xs) (hne : ∀ ad, A = some ad → ad.block ≠ c) (hk : ∀ p : Addr, p.block < B → p.block ≠ c → w'.cell? p = w.cell? p) : Rd w' B sz A n xs := ⟨h.1, fun hn => by
  obtain ⟨ad, e, hb, hc⟩ := h.2 hn
  exact ⟨ad, e, hb, fun j u hu => (hk _ (by rw [block_add]; exact hb) (by rw [block_add]; exact hne ad e)).trans (hc j u hu)⟩⟩
theorem cellsH_vals (sz : Nat) (L : List HS) : ∀ v ∈ cellsH sz L, (∃ A c, v = .slice A sz c) ∨ ∃ x, v = .bool x := by
  intro v hv
  unfold cellsH at hv
  obtain ⟨r, _, h⟩ := List.mem_flatMap.1 hv
  simp only [HS.vals, List.mem_cons, List.not_mem_nil, or_false] at h
  rcases h with rfl | rfl
  · exact .inl ⟨_, _, rfl⟩
  · exact .inr ⟨_, rfl⟩
/-- A row of bytes lies apart from the places' own cells. -/
theorem Hsh.far {w : World} {B b cb mb ks sz C n : Nat} {L : List HS} {A : Option Addr} {l : List Int} (h : Hsh w B b cb mb ks sz L) (hr : Rd w C 1 A n (u8s l)) (hn : 0 < n) : ∀ ad, A = some ad → ad.block ≠ cb := by
  intro ad e hb
  obtain ⟨ad2, e2, _, hc⟩ := hr.2 (by omega)
  rw [e] at e2
  cases e2
  have hl : l.length = n := by have := hr.1; simpa [u8s] using this
  obtain ⟨x, l', rfl⟩ : ∃ x l', l = x :: l' := by
    cases l with
    | nil => simp at hl; omega
    | cons x l' => exact ⟨x, l', rfl⟩
  have h0 := hc 0 (.int .u8 x) rfl
  unfold Addr.add at h0
  rw [if_pos rfl] at h0
  unfold World.cell? at h0
  rw [hb, h.cel] at h0
  simp only at h0
  split at h0
  · cases h0
  · have hm := List.mem_of_getElem? (by simpa using h0 : (cellsH sz L)[ad.off]? = some (.int .u8 x))
    rcases cellsH_vals sz L _ hm with ⟨_, _, e⟩ | ⟨_, e⟩ <;> cases e
set_option maxRecDepth 100000 in
theorem for_there (B b cb mb ks sz : Nat) (L : List HS) (A : Option Addr) (n c C i : Nat) (l : List Int) (fl : Int) (w : World) (h : Hsh w B b cb mb ks sz L) (hb : ∀ x ∈ l, IsByte x) (hr : Rd w C 1 A n (u8s l)) (hA : A = none → n = 0) (hn : n ≤ 1000000) (hf : findK L (kb l) = some i) (hfl : fl ≠ 1) :
    Calls Tryz.prog 58 #[.pointer (some ⟨b, 0, none⟩), .slice A n c, .int .u64 fl] w fun e w' => e = .returned (.int .i64 i) ∧ Below w.heap.size w w' := by
  have hl := kb_max hr hn
  have c2 := h.c2
  have hcv := conv_key (W := w.drew) (c := c) hb (hr.mono (Nat.le_refl _)) hA
  have hlk := (h.below (Below.refl _ _).drew).look hl hf
  have hne : bne fl 1 = true := by simpa using hfl
  generalize encStr (kb l) = kv at hcv hlk
  clear h hr hf hb hA hfl
  go_enter Tryz.func58, Tryz.ntmps58
  go_wp2
  go_region
  go_wp2_with (go_at_call 12; refine (demand_yes _ _).mono ?_; rintro e w' ⟨rfl, rfl⟩)
  go_ret
  exact ⟨rfl, (Below.refl _ w).drew⟩
set_option maxRecDepth 100000 in
set_option maxHeartbeats 1000000 in
theorem for_no (B b cb mb ks sz : Nat) (L : List HS) (A : Option Addr) (n c C : Nat) (l : List Int) (fl : Int) (w : World) (h : Hsh w B b cb mb ks sz L) (hb : ∀ x ∈ l, IsByte x) (hr : Rd w C 1 A n (u8s l)) (hA : A = none → n = 0) (hn : n ≤ 1000000) (he : pickE L (kb l) fl ≠ 0) :
    Calls Tryz.prog 58 #[.pointer (some ⟨b, 0, none⟩), .slice A n c, .int .u64 fl] w fun e w' => e = .panicked (panicOf (pickE L (kb l) fl)) ∧ Below w.heap.size w w' := by
  have hl := kb_max hr hn
  have c2 := h.c2
  have hcv := conv_key (W := w.drew) (c := c) hb (hr.mono (Nat.le_refl _)) hA
  have hd := (Below.refl w.heap.size w).drew
  cases hf : findK L (kb l) with
  | some i =>
    have hlk := (h.below hd).look hl hf
    unfold pickE at he ⊢
    rw [hf] at he ⊢
    simp only at he ⊢
    by_cases h1 : fl = 1
    · rw [if_pos h1]
      subst h1
      generalize encStr (kb l) = kv at hcv hlk
      clear h hr hf hb hA he
      go_enter Tryz.func58, Tryz.ntmps58
      go_wp2
      go_region
      go_wp2_with (go_at_call 12; refine (demand_no _ _).mono ?_; rintro e w' ⟨rfl, rfl⟩)
      exact ⟨rfl, rfl, hd⟩
    · rw [if_neg h1] at he
      exact absurd rfl he
  | none =>
    have hlk := (h.below hd).look_none hl hf
    unfold pickE at he ⊢
    rw [hf] at he ⊢
    simp only at he ⊢
    by_cases h1 : fl = 2
    · rw [if_pos h1]
      subst h1
      generalize encStr (kb l) = kv at hcv hlk
      clear h hr hf hb hA he
      go_enter Tryz.func58, Tryz.ntmps58
      go_wp2
      go_region
      go_wp2_with (go_at_call 12; refine (demand_no _ _).mono ?_; rintro e w' ⟨rfl, rfl⟩)
      exact ⟨rfl, rfl, hd⟩
    · rw [if_neg h1] at he ⊢
      cases hk : freeK L with
      | some j =>
        rw [hk] at he
        exact absurd rfl he
      | none =>
        have HT := hide (take_no B b cb mb ks sz L w.drew (h.below hd) hk)
        have hne : bne fl 2 = true := by simpa using h1
        generalize encStr (kb l) = kv at hcv hlk
        clear h hr hf hb hA he h1
        simp only
        go_enter Tryz.func58, Tryz.ntmps58
        go_wp2
        go_region
        go_wp2_with (first
          | (go_at_call 12; refine (demand_yes _ _).mono ?_; rintro e w' ⟨rfl, rfl⟩)
          | (go_at_call 98; refine HT.out.mono ?_; rintro e w1 ⟨rfl, hb⟩))
        exact ⟨rfl, rfl, hd.trans (hb.mono (Nat.le_refl _))⟩
set_option maxRecDepth 100000 in
set_option maxHeartbeats 1000000 in
theorem for_new (B b cb mb ks sz : Nat) (L : List HS) (A : Option Addr) (c C j : Nat) (l : List Int) (fl : Int) (w : World) (h : Hsh w B b cb mb ks sz L) (hb : ∀ x ∈ l, IsByte x) (hr : Rd w C 1 A ks (u8s l)) (hC : C ≤ w.heap.size) (hA : A = none → ks = 0) (hf : findK L (kb l) = none) (hfl : fl ≠ 2) (hk : freeK L = some j) :
    Calls Tryz.prog 58 #[.pointer (some ⟨b, 0, none⟩), .slice A ks c, .int .u64 fl] w fun e w' => e = .returned (.int .i64 j) ∧ Hsh w' B b cb mb ks sz (putK L (kb l)) ∧ Kept (fun g => g ≠ cb ∧ g ≠ mb) w w' := by
  have hn : ks ≤ 1000000 := by have := h.kbig.2; omega
  have hl := kb_max hr hn
  have hd := (Below.refl w.heap.size w).drew
  have c2 := h.c2
  have hcv := conv_key (W := w.drew) (c := c) hb (hr.mono (Nat.le_refl _)) hA
  have hlk := (h.below hd).look_none hl hf
  have HT := hide (take_yes B b cb mb ks sz j L w.drew (h.below hd) hk)
  have hne : bne fl 2 = true := by simpa using hfl
  obtain ⟨r, hr2, hr3, _⟩ := freeK_some hk
  obtain ⟨hon, hfk⟩ := findK_put (bs := r.bs) h.once hr2 hr3 hf
  have hPK : putK L (kb l) = L.set j { r with key := some (kb l) } := by
    unfold putK
    rw [hf, hk]
    simp only
    rw [hr2]
  rw [hPK]
  have hkl : (kb l).length = ks := by
    rw [kb_len]
    have := hr.1
    simpa [u8s] using this
  obtain ⟨a1, a2, a3, a4⟩ := h.apart
  have HX : Hid (∀ w1, TakeTold b cb sz L j w.drew w1 → ∃ w2, (Instr.mapUpdate 45 (.map (some mb)) (encStr (kb l)) (.int .i64 (j : Int))).run Tryz.prog w1.drew = .ok () w2 ∧
      Hsh w2 B b cb mb ks sz (L.set j { r with key := some (kb l) }) ∧ Kept (fun g => g ≠ cb ∧ g ≠ mb) w w2) := hide (fun w1 ⟨t1, t2⟩ => by
    have hm1 : KMap Tryz.prog 9 3 w1.drew mb (takenK L) (placeF L) := h.map.same ((t2.block mb h.map.lt (fun e => a3 e.symm)).trans rfl)
    obtain ⟨w2, g1, g2, g3⟩ := hm1.put strK Tryz.underlying45 h.fewer (keyOf_str_mk Tryz.underlying9 hl) trivial (plainElem_int (H := Unit) Tryz.underlying3 (a := (j : Int)) (by
      have := (List.getElem?_eq_some_iff.1 hr2).1
      have := h.many.2
      simp [Lit.wf, IntKind.min, IntKind.max, IntKind.bits, IntKind.signed]
      omega))
    have hK2 : Kept (fun g => g ≠ cb ∧ g ≠ mb) w w2 := ((keptTrans (Kept.of_below hd) (t2.mono (F' := fun g => g ≠ cb ∧ g ≠ mb) (fun _ h => h.1))).drew).grown g3 (fun g e hlt hh => hh.2 (by cases e; rfl))
    refine ⟨w2, g1, h.rekey hr2 ?_ hK2 ?_ hon (fun k e => by cases e; exact hkl), hK2⟩
    · rw [g3.block cb (at_lt t1) (fun e => a3 (by injection e))]
      exact t1
    · have hN : takenK (L.set j { r with key := some (kb l) }) = takenK L + 1 := by
        have := takenK_set L j r { r with key := some (kb l) } hr2
        rw [hr3] at this
        simpa using this
      rw [hN]
      have e0 : (placeF L (.string (kb l))).isSome = false := by rw [placeF_str, hf]; rfl
      rw [e0] at g2
      refine g2.congr (fun x hx => ?_)
      obtain ⟨key, hkey⟩ := hx
      obtain ⟨y, _, rfl, _⟩ := Maps.keyOf_str Tryz.underlying9 hkey
      rw [setK_str, placeF_str, placeF_str]
      have := hfk y
      rw [show (L.set j { r with key := some (kb l), bs := r.bs }) = L.set j { r with key := some (kb l) } from rfl] at this
      rw [this]
      by_cases e : y = kb l
      · rw [if_pos e, if_pos e]; rfl
      · rw [if_neg e, if_neg e])
  have hfar := h.far hr (by have := h.kbig.1; omega)
  have HCV : Hid (∀ w1, TakeTold b cb sz L j w.drew w1 → w1.cell? ⟨b, 2, none⟩ = some (.map (some mb)) ∧ (convert 34 9 (.slice A ks c)).run Tryz.prog w1.drew = .ok (encStr (kb l)) w1.drew) := hide (fun w1 ⟨t1, t2⟩ => by
    refine ⟨(World.cell?_of_block ((t2.block b (at_lt h.blk) a1).trans rfl)).trans c2, conv_key (W := w1.drew) (B := C) (c := c) hb (hr.beside hfar (fun q hq hne => ?_)) hA⟩
    exact World.cell?_of_block (t2.block q.block (by show q.block < w.heap.size; omega) hne))
  generalize encStr (kb l) = kv at hcv hlk HX HCV
  have HO := hide hon
  clear h hr hf hb hA hfl hk hr2 hr3 hon hfk hPK hfar
  go_enter Tryz.func58, Tryz.ntmps58
  go_wp2
  go_region
  go_wp2_with (first
    | (go_at_call 12; refine (demand_yes _ _).mono ?_; rintro e w' ⟨rfl, rfl⟩)
    | (go_at_call 98; refine HT.out.mono ?_; rintro e w1 ⟨rfl, ht⟩; obtain ⟨w2, g1, g2, g3⟩ := HX.out w1 ht; obtain ⟨c3, hcv3⟩ := HCV.out w1 ht; have G2 := hide g2; have G3 := hide g3; clear g2 g3 ht hlk hcv c2))
  go_region
  go_wp2
  go_ret
  exact ⟨rfl, G2.out, G3.out⟩
end Go.Proofs.YtolodcdhpnapmaaGreat
