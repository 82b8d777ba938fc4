/-
  Keys of a hash.
-/
import Derived.Test.YtlagpbgekihodaaHR15
import Derived.Test.YtlagpbgekihodaaSH
namespace Go.Proofs.Ytlagpbgekihodaa
open Go.RowKit Go.Maps Go.Sort
set_option linter.unusedVariables false

/-- A key that is told: a row of its own bytes. -/
structure KR where
  g : Nat
  k : List UInt8
  cap : Nat
def KR.sl (r : KR) : Value := .slice (some ⟨r.g, 0, none⟩) r.k.length r.cap
def ints (k : List UInt8) : List Int := k.map fun x => (x.toNat : Int)
theorem ints_byte (k : List UInt8) : ∀ x ∈ ints k, IsByte x := by
  intro x hx
  unfold ints at hx
  obtain ⟨b, _, rfl⟩ := List.mem_map.1 hx
  have := b.toNat_lt
  unfold IsByte
  omega
theorem kb_ints (k : List UInt8) : kb (ints k) = k := by
  unfold kb ints
  rw [List.map_map]
  conv => rhs; rw [← List.map_id k]
  apply List.map_congr_left
  intro x _
  simp
theorem ints_kb {l : List Int} (h : ∀ x ∈ l, IsByte x) : ints (kb l) = l := by
  unfold kb ints
  rw [List.map_map]
  conv => rhs; rw [← List.map_id l]
  apply List.map_congr_left
  intro x hx
  have := h x hx
  unfold IsByte at this
  simp only [Function.comp_apply, id_eq]
  rw [UInt8.toNat_ofNat']
  omega
def KR.At (w : World) (r : KR) : Prop := ∃ cur m, w.heap[r.g]? = some (.cells cur 5 (m, m + 1)) ∧ cur.size = m ∧ r.k.length ≤ m ∧ cur.toList.take r.k.length = u8s (ints r.k)
theorem KR.At.rd {w : World} {r : KR} (h : r.At w) : Rd w w.heap.size 1 (some ⟨r.g, 0, none⟩) r.k.length (u8s (ints r.k)) := by
  obtain ⟨cur, m, h1, h2, h3, h4⟩ := h
  refine ⟨by simp [u8s, ints], fun _ => ⟨_, rfl, at_lt h1, fun j u hu => ?_⟩⟩
  rw [add_own]
  unfold World.cell?
  rw [h1]
  rw [← h4, List.getElem?_take] at hu
  split at hu
  · simpa using hu
  · cases hu
structure KeysTold (w : World) (B : Nat) (v : Value) (rs : List KR) : Prop where
  row : w.ownsRow 0 22 1 v rs.length (rs.map KR.sl)
  low : ∀ g, v.ownBlock = some g → B ≤ g
  each : ∀ r ∈ rs, r.At w ∧ B ≤ r.g
  sep : ∀ (i j : Nat) (r s : KR), rs[i]? = some r → rs[j]? = some s → i ≠ j → r.g ≠ s.g
theorem KeysTold.off {w : World} {B : Nat} {v : Value} {rs : List KR} (h : KeysTold w B v rs) {r : KR} (hr : r ∈ rs) : v.ownBlock ≠ some r.g := fun e => by
  obtain ⟨cur, hc⟩ := owns_cells h.row e
  obtain ⟨c2, m, h1, _⟩ := (h.each r hr).1
  rw [hc] at h1
  injection h1 with h1
  injection h1 with _ h1
  exact absurd h1 (by decide)
theorem KR.At.kept {F : Nat → Prop} {w w' : World} {r : KR} (h : r.At w) (hk : Kept F w w') (hF : F r.g) : r.At w' := by
  obtain ⟨cur, m, h1, h2⟩ := h
  exact ⟨cur, m, (hk.block _ (at_lt h1) hF).trans h1, h2⟩
theorem KeysTold.kept {F : Nat → Prop} {w w' : World} {B : Nat} {v : Value} {rs : List KR} (h : KeysTold w B v rs) (hk : Kept F w w') (hv : ∀ g, v.ownBlock = some g → F g) (hr : ∀ r ∈ rs, F r.g) : KeysTold w' B v rs :=
  ⟨owns_kept h.row hk hv, h.low, fun r hm => ⟨(h.each r hm).1.kept hk (hr r hm), (h.each r hm).2⟩, h.sep⟩
theorem KeysTold.below {w w' : World} {B : Nat} {v : Value} {rs : List KR} (h : KeysTold w B v rs) (hb : Below w.heap.size w w') : KeysTold w' B v rs :=
  h.kept (F := fun _ => True) (Kept.of_below hb) (fun _ _ => trivial) (fun _ _ => trivial)
/-- The keys of a hash, rising. -/
def keysM (L : List HS) : List (List UInt8) := (L.filterMap (·.key)).mergeSort leB
theorem keys_mem {L : List HS} {k : List UInt8} : k ∈ L.filterMap (·.key) ↔ ∃ i, findK L k = some i := by
  rw [List.mem_filterMap]
  constructor
  · rintro ⟨r, hr, hk⟩
    cases hf : findK L k with
    | some i => exact ⟨i, rfl⟩
    | none =>
      obtain ⟨i, hi⟩ := List.mem_iff_getElem?.1 hr
      exact absurd hk (findK_none hf i r hi)
  · rintro ⟨i, hf⟩
    obtain ⟨r, h1, h2, _⟩ := findK_some hf
    exact ⟨r, List.mem_of_getElem? h1, h2⟩
theorem once_nodup : ∀ (L : List HS), Once L → (L.filterMap (·.key)).Nodup
  | [], _ => by simp
  | s :: L, h => by
    have hL : Once L := fun i j r t k hi hj hr ht => by
      have := h (i + 1) (j + 1) r t k (by simpa using hi) (by simpa using hj) hr ht
      omega
    have ih := once_nodup L hL
    cases hs : s.key with
    | none => rw [List.filterMap_cons_none hs]; exact ih
    | some k =>
      rw [List.filterMap_cons_some hs, List.nodup_cons]
      refine ⟨fun hm => ?_, ih⟩
      obtain ⟨r, hr, hk⟩ := List.mem_filterMap.1 hm
      obtain ⟨i, hi⟩ := List.mem_iff_getElem?.1 hr
      have := h 0 (i + 1) s r k rfl (by simpa using hi) hs hk
      omega
theorem Hsh.keys {w : World} {B b cb mb ks sz : Nat} {L : List HS} (h : Hsh w B b cb mb ks sz L) : ∃ D : DataW Unit, w.ownsMap Try.prog 9 (plainElem Try.prog 3) mb (takenK L) D ∧ Maps.size D = takenK L ∧ (L.filterMap (·.key)).Perm (strKeys D) := by
  refine h.map.strs strK Try.underlying9 (once_nodup L h.once) (fun x => ?_)
  rw [keys_mem, placeF_str]
  constructor
  · rintro ⟨i, hf⟩
    refine ⟨?_, by rw [hf]; rfl⟩
    obtain ⟨r, h1, h2, _⟩ := findK_some hf
    have := h.keyl i r x h1 h2
    have := h.kbig.2
    unfold maxLen
    omega
  · rintro ⟨_, h2⟩
    cases hf : findK L x with
    | none => rw [hf] at h2; cases h2
    | some i => exact ⟨i, rfl⟩
theorem keysM_len (L : List HS) : (keysM L).length = takenK L := by
  unfold keysM takenK
  rw [List.length_mergeSort]
  induction L with
  | nil => rfl
  | cons s L ih =>
    rw [List.countP_cons, ← ih]
    cases hs : s.key with
    | none => rw [List.filterMap_cons_none hs]; rfl
    | some k => rw [List.filterMap_cons_some hs, List.length_cons]; rfl
theorem keysM_mem {L : List HS} {k : List UInt8} : k ∈ keysM L ↔ ∃ i, findK L k = some i := by
  unfold keysM
  rw [List.mem_mergeSort, keys_mem]
theorem rows22 : (Try.prog.info? 22).map (fun i => (i.zero, i.size, i.bytes)) = some (some (.slice none 0 0), 1, 24) := by kernel_rfl
set_option maxRecDepth 100000 in
theorem keys_not (p : Option Addr) (w : World) (h : NoH p w) : Calls Try.prog 11 #[.pointer p] w fun e w' => e = .returned (.slice none 0 0) ∧ w' = w := by
  have H := hide (h w (Below.refl _ _))
  clear h
  go_enter Try.func11, Try.ntmps11
  go_wp2_with (go_at_call 34; refine H.out.mono ?_; rintro e w' ⟨rfl, rfl⟩)
  go_ret
  exact ⟨rfl, rfl⟩
/-- A key's text becomes a row of its own. -/
theorem conv_text (w : World) (k : List UInt8) : ∃ cap, (convert 9 22 (encStr k)).run Try.prog w = .ok (.slice (some ⟨w.heap.size, 0, none⟩) k.length cap) (w.drew.alloc (.cells (bytesRow ⟨k.toArray⟩ cap) 5 ((bytesRow ⟨k.toArray⟩ cap).size, (bytesRow ⟨k.toArray⟩ cap).size + 1))) := by
  refine ⟨grownCap w (ByteArray.size ⟨k.toArray⟩) 0 5, ?_⟩
  have := run_bytes_of_string (P := Try.prog) w 9 22 5 ⟨k.toArray⟩ Try.underlying9 Try.underlying22 Try.underlying5
  simpa [encStr, ByteArray.size] using this
theorem text_at (w : World) (k : List UInt8) (cap : Nat) : KR.At (w.drew.alloc (.cells (bytesRow ⟨k.toArray⟩ cap) 5 ((bytesRow ⟨k.toArray⟩ cap).size, (bytesRow ⟨k.toArray⟩ cap).size + 1))) ⟨w.heap.size, k, cap⟩ := by
  refine ⟨bytesRow ⟨k.toArray⟩ cap, (bytesRow ⟨k.toArray⟩ cap).size, World.alloc_heap_new w.drew _, rfl, ?_, ?_⟩
  · simp [bytesRow]
  · simp [bytesRow, u8s, ints]
theorem owns_slice_b {w : World} {base : Nat} {e : TypeId} {sz n : Nat} {v : Value} {xs : List Value} (h : w.ownsRow base e sz v n xs) : ∃ A c, v = .slice A n c ∧ Rd w w.heap.size sz A n xs := by
  rcases h.2 with ⟨rfl, rfl⟩ | ⟨g, cap, cur, rfl, hb, hg, rest⟩
  · have : xs = [] := List.eq_nil_of_length_eq_zero (by have := h.1; omega)
    subst this
    exact ⟨none, 0, rfl, Rd.nil⟩
  · exact ⟨_, cap, rfl, (Rd.of_owns h).mono (at_lt hg)⟩
/-- One key more is told. -/
theorem KeysTold.more {w w1 w2 : World} {B : Nat} {v v' : Value} {rs : List KR} {r : KR} (h : KeysTold w B v rs) (hB : B ≤ w.heap.size) (hb : Below w.heap.size w w1) (hr : r.At w1) (hg : r.g = w.heap.size) (hl : Longer w1 w2 22 1 v v' (rs.length + 1) (rs.map KR.sl ++ [r.sl])) (hw1 : w.heap.size < w1.heap.size) : KeysTold w2 B v' (rs ++ [r]) := by
  obtain ⟨h1, h2, h3⟩ := hl
  have hk : Kept (fun g => v.ownBlock ≠ some g) w1 w2 := (Kept.refl _ w1).grown h2 (fun g e _ hh => hh e)
  have hlt : ∀ s ∈ rs, s.g < w.heap.size := fun s hs => by
    obtain ⟨c, m, g1, _⟩ := (h.each s hs).1
    exact at_lt g1
  have hvl : ∀ g, v.ownBlock = some g → g < w.heap.size := fun g hg => (h.row.lt g hg).2
  refine ⟨by rw [List.length_append, List.map_append]; exact h1, fun g hg' => ?_, fun s hs => ?_, fun i j s t hi hj hij => ?_⟩
  · rcases h3 with h3 | h3
    · exact h.low g (h3 ▸ hg')
    · rw [h3] at hg'
      injection hg' with hg'
      omega
  · rcases List.mem_append.1 hs with hs | hs
    · exact ⟨((h.each s hs).1.kept (Kept.of_below hb : Kept (fun _ => True) w w1) trivial).kept hk (h.off hs), (h.each s hs).2⟩
    · simp at hs
      subst hs
      exact ⟨hr.kept hk (fun e => by have := hvl _ e; omega), by omega⟩
  · have hat : ∀ (i : Nat) (s : KR), (rs ++ [r])[i]? = some s → (rs[i]? = some s ∧ i < rs.length) ∨ (i = rs.length ∧ s = r) := fun i s hi => by
      by_cases hl : i < rs.length
      · rw [List.getElem?_append_left hl] at hi
        exact .inl ⟨hi, hl⟩
      · rw [List.getElem?_append_right (by omega)] at hi
        by_cases e : i = rs.length
        · subst e
          simp at hi
          exact .inr ⟨rfl, hi.symm⟩
        · rw [List.getElem?_eq_none (by simp; omega)] at hi; cases hi
    rcases hat i s hi with ⟨hi2, _⟩ | ⟨e1, e1'⟩
    · rcases hat j t hj with ⟨hj2, _⟩ | ⟨e2, e2'⟩
      · exact h.sep i j s t hi2 hj2 hij
      · have := hlt s (List.mem_of_getElem? hi2); rw [e2']; omega
    · rcases hat j t hj with ⟨hj2, _⟩ | ⟨e2, e2'⟩
      · have := hlt t (List.mem_of_getElem? hj2); rw [e1']; omega
      · omega
set_option maxRecDepth 100000 in
set_option maxHeartbeats 2000000 in
theorem keys_any (B b cb mb ks sz : Nat) (L : List HS) (w : World) (h : Hsh w B b cb mb ks sz L) :
    Calls Try.prog 11 #[.pointer (some ⟨b, 0, none⟩)] w fun e w' => ∃ v rs, e = .returned v ∧ KeysTold w' w.heap.size v rs ∧ rs.map KR.k = keysM L ∧ Below w.heap.size w w' := by
  obtain ⟨D, hD, hDs, hDp⟩ := h.keys
  have hlen := takenK_le L
  have hmany := h.many.2
  have HM := hide (is_yes b w (by rw [blk_cell h.blk]; rfl))
  have c2 := h.c2
  have HK := hide ((callsIn_wide (n := 5)).1 (maps_keys (some mb) w))
  have HS := hide ((callsIn_wide (n := 5)).1 (sorted_keys mb (takenK L) D _ w hD (by rw [hDs]; unfold maxLen; omega) (by rw [hDs]; omega)))
  have HP := hide hDp
  clear h hD hDp
  go_enter Try.func11, Try.ntmps11
  go_wp2_with (first
    | (go_at_call 34; refine HM.out.mono ?_; rintro e w' ⟨rfl, rfl⟩)
    | (go_at_call 36; refine HK.out.mono ?_; rintro e w' ⟨rfl, rfl⟩)
    | (go_at_call 35; refine HS.out.mono ?_; rintro e w1 ⟨v, ss, rfl, hS, hrow, hnil, hb⟩; obtain ⟨A1, cc1, rfl, hrd⟩ := owns_slice_b hrow; have HPS := hide hS; have HRW := hide hrd; have HB := hide hb; clear hS hrow hnil hb hrd))
  obtain ⟨i0, hi0, hz0, hz1, hz2⟩ := info_parts rows22
  have hms : ss.mergeSort (fun x y => decide (x ≤ y)) = keysM L := mergeSort_of_perm (HPS.out.trans HP.out.symm)
  have hml : (ss.mergeSort (fun x y => decide (x ≤ y))).length = ss.length := List.length_mergeSort _
  rw [hms] at hml
  have hkl := keysM_len L
  rw [hms] at HRW
  have HML := hide hml
  have HB1 : Hid (Below w.heap.size w w1) := hide (below1c HB.out)
  have HSZ : Hid (w.heap.size ≤ w1.heap.size ∧ ss.length ≤ 1024) := hide ⟨HB1.out.size, by omega⟩
  clear hms hml HPS HK HM HS c2 HP HB hkl
  go_loopw [16, 3] (fun q v wr => ∃ (i : Nat) (rs : List KR), i ≤ ss.length ∧ q = .int .i64 i ∧ KeysTold wr w1.heap.size v rs ∧ rs.map KR.k = (keysM L).take i ∧ Below w1.heap.size w1 wr) (fun q _ _ => ss.length - (intOf q).toNat)
  case atStart => exact ⟨0, [], Nat.zero_le _, rfl, ⟨owns_nil _ _ _, (fun g hg => by cases hg), (fun r hr => by simp at hr), (fun i j r s hi => by simp at hi)⟩, rfl, Below.refl _ _⟩
  case round =>
    obtain ⟨i, rs, hi, rfl, hK, hm, hbw⟩ := hrel
    have HKT := hide hK
    have HM := hide hm
    have HBW := hide hbw
    have hrl : rs.length = i := by
      have := congrArg List.length hm
      rw [List.length_map, List.length_take, HML.out] at this
      omega
    by_cases hlt : i < ss.length
    · have hr2 := (HRW.out.below hbw)
      obtain ⟨ad, rfl, _, hc⟩ := hr2.2 (by omega)
      obtain ⟨key, hkey⟩ : ∃ key, (keysM L)[i]? = some key := ⟨(keysM L)[i]'(by rw [HML.out]; exact hlt), List.getElem?_eq_getElem _⟩
      have hck : wr.cell? (ad.add i) = some (encStr key) := hc i _ (by rw [List.getElem?_map, hkey]; rfl)
      obtain ⟨cap, hcv⟩ := conv_text wr key
      have hat := text_at wr key cap
      have hbd : Below wr.heap.size wr (wr.drew.alloc (.cells (bytesRow ⟨key.toArray⟩ cap) 5 ((bytesRow ⟨key.toArray⟩ cap).size, (bytesRow ⟨key.toArray⟩ cap).size + 1))) := (Below.refl _ wr).drew.alloc (Nat.le_refl _) _
      have hzd : (wr.drew.alloc (.cells (bytesRow ⟨key.toArray⟩ cap) 5 ((bytesRow ⟨key.toArray⟩ cap).size, (bytesRow ⟨key.toArray⟩ cap).size + 1))).heap.size = wr.heap.size + 1 := by simp
      generalize wr.drew.alloc (.cells (bytesRow ⟨key.toArray⟩ cap) 5 ((bytesRow ⟨key.toArray⟩ cap).size, (bytesRow ⟨key.toArray⟩ cap).size + 1)) = w5 at *
      have HAT := hide hat
      have HBD := hide hbd
      have HKY := hide hkey
      have dk0 : (0 : Int) ≤ (i : Int) := by omega
      have dk1 : (i : Int) < (ss.length : Int) := by omega
      obtain ⟨Av, nv, cv, rfl⟩ : ∃ Av nv cv, u3 = .slice Av nv cv := by
        obtain ⟨A, c, e, _⟩ := owns_slice hK.row
        exact ⟨_, _, _, e⟩
      generalize encStr key = kv at hck hcv
      have hb6 := below1 w5 (.cells #[.slice (some ⟨wr.heap.size, 0, none⟩) key.length cap] 22)
      have hr6 := cells_rd w5 [.slice (some ⟨wr.heap.size, 0, none⟩) key.length cap] 22 1 1 rfl
      rw [hzd] at hr6
      have HR6 := hide hr6
      have hs1024 : ss.length ≤ 1024 := HSZ.out.2
      clear hr6
      have how := (hK.below (hbd.trans (hb6.mono hbd.size))).row
      rw [hrl] at how
      have HOW := hide how
      have HB6 := hide hb6
      clear hK hm hbw hr2 hc hat hbd hkey hb6 how
      go_wp2_with (at_builtin; refine stop_here ?_)
      show Hid _
      refine start_here ?_
      refine wpList_append_rd2 rfl _ _ _ _ rfl 22 i0 _ 1 24 Try.underlying43 Try.underlying43 hi0 hz0 hz1 hz2 rfl (by decide) _ i (rs.map KR.sl) rfl HOW.out (wr.heap.size + 1 + 1) (some ⟨wr.heap.size + 1, 0, none⟩) 1 1 [.slice (some ⟨wr.heap.size, 0, none⟩) key.length cap] rfl HR6.out (fun h => by cases h) (fun u hu => by simp at hu; subst hu; rfl) (by unfold maxLen; omega) (by omega) ?_
      intro v' w7 hl
      have hK6 := KeysTold.more (r := ⟨wr.heap.size, key, cap⟩) HKT.out (by have := HBW.out.size; omega) (HBD.out.trans (HB6.out.mono HBD.out.size)) (HAT.out.kept (F := fun _ => True) (Kept.of_below HB6.out) trivial) rfl (by rw [hrl]; exact hl) (by simp; omega)
      have hb7 : Below w1.heap.size w1 w7 := ((HBW.out.trans ((HBD.out.trans (HB6.out.mono HBD.out.size)).mono HBW.out.size))).grown hl.2.1 (by have := HBW.out.size; simp; omega) (fun g e => HKT.out.low g e)
      have hm7 : (rs ++ [(⟨wr.heap.size, key, cap⟩ : KR)]).map KR.k = (keysM L).take (i + 1) := by
        rw [List.map_append, HM.out, List.take_add_one, HKY.out]
        rfl
      have HK7 := hide hK6
      have HB7 := hide hb7
      have HM7 := hide hm7
      clear hl hK6 hb7 hm7 hck hcv
      go_wp2
      go_roundw
      case rel => exact ⟨i + 1, _, by omega, by go_num, HK7.out, HM7.out, HB7.out⟩
      case measure => simp [intOf]; omega
    · clear hK hm hbw
      obtain rfl : i = ss.length := by omega
      go_wp2_with fail
      have hfin : KeysTold wr w.heap.size u3 rs ∧ rs.map KR.k = keysM L ∧ Below w.heap.size w wr := by
        refine ⟨⟨HKT.out.row, fun g hg => Nat.le_trans HSZ.out.1 (HKT.out.low g hg), fun r hr => ⟨(HKT.out.each r hr).1, Nat.le_trans HSZ.out.1 (HKT.out.each r hr).2⟩, HKT.out.sep⟩, ?_, HB1.out.trans (HBW.out.mono HSZ.out.1)⟩
        rw [HM.out, List.take_of_length_le (by rw [HML.out]; exact Nat.le_refl _)]
      clear HKT HM HBW HSZ HB1 HML HRW
      obtain ⟨f1, f2, f3⟩ := hfin
      have F1 := hide f1
      have F2 := hide f2
      have F3 := hide f3
      clear f1 f2 f3
      go_ret
      exact ⟨_, rs, rfl, F1.out, F2.out, F3.out⟩
end Go.Proofs.Ytlagpbgekihodaa
