/-
  The texts SH, HR16, HR17, HR18 as one.
-/
import Derived.Test.YtolodcdhpnapmaaGreatRows
import Derived.Shelf.SlIter.Nil
import Derived.Shelf.SortM.Plain
import Derived.Shelf.SortM.SortNone
import Derived.Test.YtolodcdhpnapmaaGreatMA
import Derived.Lib.SmallJoins

/-
  The library's Keys, Sorted and Sort of strings, as they stand in this program.
-/
namespace Go.Proofs.YtolodcdhpnapmaaGreat
open Go.RowKit Go.Maps Go.Sort Go.Shelf
set_option linter.unusedVariables false
def Tryz.keysK_ren : Go.Shelf.Ren := ⟨fun | 7 => 52 | 10 => 96 | n => n, fun | 23 => 45 | 26 => 9 | 3 => 3 | 28 => 122 | 0 => 0 | 27 => 121 | 33 => 157 | 4 => 4 | n => n, fun | n => n⟩
theorem Tryz.keysK : Go.Proofs.SlLaysZ.n7 Tryz.prog Tryz.keysK_ren := {
  mixed := by kernel_rfl
  f7 := ⟨Tryz.f52.name, by decide, Tryz.func52.trans (congrArg some (by kernel_rfl))⟩
  f10 := ⟨Tryz.f96.name, by decide, Tryz.func96.trans (congrArg some (by kernel_rfl))⟩
  t0 := Tryz.underlying0
  a0 := Tryz.isAgg0
  z0 := Tryz.sizeOf0
  v0 := Tryz.zeroValue0
  t4 := Tryz.underlying4
  a4 := Tryz.isAgg4
  z4 := Tryz.sizeOf4
  v4 := Tryz.zeroValue4
  t23 := Tryz.underlying45
  a23 := Tryz.isAgg45
  z23 := Tryz.sizeOf45
  v23 := Tryz.zeroValue45
  t26 := Tryz.underlying9
  a26 := Tryz.isAgg9
  z26 := Tryz.sizeOf9
  v26 := Tryz.zeroValue9
  t27 := Tryz.underlying121
  a27 := Tryz.isAgg121
  z27 := Tryz.sizeOf121
  v27 := Tryz.zeroValue121
  t28 := Tryz.underlying122
  a28 := Tryz.isAgg122
  z28 := Tryz.sizeOf122
  v28 := Tryz.zeroValue122
  t33 := Tryz.underlying157
  a33 := Tryz.isAgg157
  z33 := Tryz.sizeOf157
  v33 := Tryz.zeroValue157 }
def Tryz.sortedK_ren : Go.Shelf.Ren := ⟨fun | 6 => 51 | 8 => 94 | 9 => 95 | 11 => 126 | 13 => 128 | 12 => 127 | 23 => 151 | 24 => 152 | 14 => 142 | 15 => 143 | 16 => 144 | 17 => 145 | 18 => 146 | 19 => 147 | 20 => 148 | 21 => 149 | 22 => 150 | 25 => 154 | 26 => 155 | 27 => 156 | 28 => 157 | 29 => 158 | 30 => 159 | 31 => 160 | n => n, fun | 26 => 9 | 28 => 122 | 24 => 33 | 0 => 0 | 3 => 3 | 37 => 159 | 48 => 161 | 50 => 35 | 4 => 4 | 40 => 263 | 39 => 262 | 45 => 158 | 5 => 5 | 9 => 9 | 51 => 271 | 55 => 275 | 57 => 277 | 58 => 278 | 33 => 157 | n => n, fun | n => n⟩
theorem Tryz.sortedK : Go.Proofs.SlLaysZ.n6 Tryz.prog Tryz.sortedK_ren := {
  mixed := by kernel_rfl
  f6 := ⟨Tryz.f51.name, by decide, Tryz.func51.trans (congrArg some (by kernel_rfl))⟩
  f8 := ⟨Tryz.f94.name, by decide, Tryz.func94.trans (congrArg some (by kernel_rfl))⟩
  f11 := ⟨Tryz.f126.name, by decide, Tryz.func126.trans (congrArg some (by kernel_rfl))⟩
  t0 := Tryz.underlying0
  a0 := Tryz.isAgg0
  z0 := Tryz.sizeOf0
  v0 := Tryz.zeroValue0
  t24 := Tryz.underlying33
  a24 := Tryz.isAgg33
  z24 := Tryz.sizeOf33
  v24 := Tryz.zeroValue33
  t26 := Tryz.underlying9
  a26 := Tryz.isAgg9
  z26 := Tryz.sizeOf9
  v26 := Tryz.zeroValue9
  t28 := Tryz.underlying122
  a28 := Tryz.isAgg122
  z28 := Tryz.sizeOf122
  v28 := Tryz.zeroValue122
  i26 := by kernel_rfl }
def Tryz.sortK_ren : Go.Shelf.Ren := ⟨fun | 6 => 95 | 8 => 128 | 9 => 127 | 19 => 151 | 20 => 152 | 21 => 142 | 22 => 143 | 23 => 144 | 24 => 145 | 25 => 146 | 26 => 147 | 27 => 148 | 28 => 149 | 29 => 150 | 36 => 154 | 31 => 155 | 32 => 156 | 37 => 157 | 38 => 158 | 39 => 159 | 41 => 160 | n => n, fun | 27 => 33 | 29 => 9 | 3 => 3 | 32 => 159 | 26 => 33 | 0 => 0 | 44 => 161 | 46 => 35 | 4 => 4 | 36 => 263 | 35 => 262 | 41 => 158 | 5 => 5 | 9 => 9 | 53 => 271 | 57 => 275 | 63 => 277 | 64 => 278 | n => n, fun | n => n⟩
theorem Tryz.sortK : Go.Proofs.SlLaysM.n6 Tryz.prog Tryz.sortK_ren := {
  mixed := by kernel_rfl
  f6 := ⟨Tryz.f95.name, by decide, Tryz.func95.trans (congrArg some (by kernel_rfl))⟩
  f8 := Tryz.func128.trans (congrArg some (by kernel_rfl))
  f9 := ⟨Tryz.f127.name, by decide, Tryz.func127.trans (congrArg some (by kernel_rfl))⟩
  f19 := Tryz.func151.trans (congrArg some (by kernel_rfl))
  f20 := Tryz.func152.trans (congrArg some (by kernel_rfl))
  f21 := ⟨Tryz.f142.name, by decide, Tryz.func142.trans (congrArg some (by kernel_rfl))⟩
  f22 := ⟨Tryz.f143.name, by decide, Tryz.func143.trans (congrArg some (by kernel_rfl))⟩
  f23 := ⟨Tryz.f144.name, by decide, Tryz.func144.trans (congrArg some (by kernel_rfl))⟩
  f24 := ⟨Tryz.f145.name, by decide, Tryz.func145.trans (congrArg some (by kernel_rfl))⟩
  f25 := ⟨Tryz.f146.name, by decide, Tryz.func146.trans (congrArg some (by kernel_rfl))⟩
  f26 := ⟨Tryz.f147.name, by decide, Tryz.func147.trans (congrArg some (by kernel_rfl))⟩
  f27 := ⟨Tryz.f148.name, by decide, Tryz.func148.trans (congrArg some (by kernel_rfl))⟩
  f28 := ⟨Tryz.f149.name, by decide, Tryz.func149.trans (congrArg some (by kernel_rfl))⟩
  f29 := ⟨Tryz.f150.name, by decide, Tryz.func150.trans (congrArg some (by kernel_rfl))⟩
  f31 := Tryz.func155.trans (congrArg some (by kernel_rfl))
  f32 := Tryz.func156.trans (congrArg some (by kernel_rfl))
  f36 := ⟨Tryz.f154.name, by decide, Tryz.func154.trans (congrArg some (by kernel_rfl))⟩
  f37 := ⟨Tryz.f157.name, by decide, Tryz.func157.trans (congrArg some (by kernel_rfl))⟩
  f38 := ⟨Tryz.f158.name, by decide, Tryz.func158.trans (congrArg some (by kernel_rfl))⟩
  f39 := ⟨Tryz.f159.name, by decide, Tryz.func159.trans (congrArg some (by kernel_rfl))⟩
  f41 := ⟨Tryz.f160.name, by decide, Tryz.func160.trans (congrArg some (by kernel_rfl))⟩
  t0 := Tryz.underlying0
  a0 := Tryz.isAgg0
  z0 := Tryz.sizeOf0
  v0 := Tryz.zeroValue0
  t3 := Tryz.underlying3
  a3 := Tryz.isAgg3
  z3 := Tryz.sizeOf3
  v3 := Tryz.zeroValue3
  t4 := Tryz.underlying4
  a4 := Tryz.isAgg4
  z4 := Tryz.sizeOf4
  v4 := Tryz.zeroValue4
  t5 := Tryz.underlying5
  a5 := Tryz.isAgg5
  z5 := Tryz.sizeOf5
  v5 := Tryz.zeroValue5
  t9 := Tryz.underlying9
  a9 := Tryz.isAgg9
  z9 := Tryz.sizeOf9
  v9 := Tryz.zeroValue9
  t26 := Tryz.underlying33
  a26 := Tryz.isAgg33
  z26 := Tryz.sizeOf33
  v26 := Tryz.zeroValue33
  t27 := Tryz.underlying33
  a27 := Tryz.isAgg33
  z27 := Tryz.sizeOf33
  v27 := Tryz.zeroValue33
  t29 := Tryz.underlying9
  a29 := Tryz.isAgg9
  z29 := Tryz.sizeOf9
  v29 := Tryz.zeroValue9
  t32 := Tryz.underlying159
  a32 := Tryz.isAgg159
  z32 := Tryz.sizeOf159
  v32 := Tryz.zeroValue159
  t35 := Tryz.underlying262
  a35 := Tryz.isAgg262
  z35 := Tryz.sizeOf262
  v35 := Tryz.zeroValue262
  t36 := Tryz.underlying263
  a36 := Tryz.isAgg263
  z36 := Tryz.sizeOf263
  v36 := Tryz.zeroValue263
  t41 := Tryz.underlying158
  a41 := Tryz.isAgg158
  z41 := Tryz.sizeOf158
  v41 := Tryz.zeroValue158
  t44 := Tryz.underlying161
  a44 := Tryz.isAgg161
  z44 := Tryz.sizeOf161
  v44 := Tryz.zeroValue161
  t46 := Tryz.underlying35
  a46 := Tryz.isAgg35
  z46 := Tryz.sizeOf35
  v46 := Tryz.zeroValue35
  t53 := Tryz.underlying271
  a53 := Tryz.isAgg271
  z53 := Tryz.sizeOf271
  v53 := Tryz.zeroValue271
  t57 := Tryz.underlying275
  a57 := Tryz.isAgg275
  z57 := Tryz.sizeOf275
  v57 := Tryz.zeroValue275
  t63 := Tryz.underlying277
  a63 := Tryz.isAgg277
  z63 := Tryz.sizeOf277
  v63 := Tryz.zeroValue277
  t64 := Tryz.underlying278
  a64 := Tryz.isAgg278
  z64 := Tryz.sizeOf278
  v64 := Tryz.zeroValue278 }
theorem Tryz.sortsK (m : Nat) : AnyZ.SortsIn Tryz.prog Tryz.sortedK_ren Fence.wide m :=
  ⟨fun blk off cap ss W hH hblk hsz => callsIn_wide.2 (AnyM.slices_Sort_string Tryz.sortK blk off cap ss W hH hblk hsz),
   fun p cap W => callsIn_wide.2 (AnyM.slices_Sort_string_none Tryz.sortK p cap W)⟩

theorem maps_keys (mb : Option Nat) (W : World) : CallsIn Fence.wide 5 Tryz.prog 52 #[.map mb] W fun e w' => e = .returned (.func (.func 96) #[] #[.pointer (some ⟨W.heap.size, 0, none⟩)]) ∧ w' = W.alloc (.cells #[.map mb] 45) :=
  AnyZ.keys_in Tryz.keysK Fence.wide 5 trivial rfl mb W

set_option maxHeartbeats 1000000 in
theorem sorted_keys {H : Type} (b nn : Nat) (D0 : DataW H) (R : Value → Option (DataW H × List MemPlace)) (w : World) (hown : w.ownsMap Tryz.prog 9 R b nn D0) (hmax : Maps.size D0 ≤ maxLen) (hbytes : Maps.size D0 * 16 ≤ 140737488355328) :
    CallsIn Fence.wide 5 Tryz.prog 51 #[.func (.func 96) #[] #[.pointer (some ⟨w.heap.size, 0, none⟩)]] (w.alloc (.cells #[.map (some b)] 45)) fun e w' => ∃ (v : Value) (ss : List (List UInt8)), e = .returned v ∧ ss.Perm (strKeys D0) ∧
      w'.ownsRow (w.alloc (.cells #[.map (some b)] 45)).heap.size 9 1 v ss.length ((ss.mergeSort (fun x y => decide (x ≤ y))).map encStr) ∧ (v = .slice none 0 0 ↔ ss = []) ∧ Below (w.alloc (.cells #[.map (some b)] 45)).heap.size (w.alloc (.cells #[.map (some b)] 45)) w' := by
  have hbl := hown.lt
  have hseq : SeqGives Fence.wide 2 Tryz.prog 96 #[.pointer (some ⟨w.heap.size, 0, none⟩)] encStr (fun ss => ss.Perm (strKeys D0)) (Maps.size D0) (w.alloc (.cells #[.map (some b)] 45)) :=
    AnyZ.keys_gives (ρ := Tryz.keysK_ren) { Tryz.keysK with } Fence.wide _ trivial rfl (by omega) w.heap.size b nn D0 _ (by simp) (by simp) (by
      obtain ⟨es, clock, hb, Ft, hs, hD⟩ := hown
      exact ⟨es, clock, (Below.heap_alloc _ _ b hbl).trans hb, Ft, hs, hD⟩)
  exact AnyZ.sorted_in Tryz.sortedK Fence.wide 5 trivial trivial trivial trivial rfl (by omega) (Tryz.sortsK _) (enters_of Tryz.func95 (by kernel_rfl) rfl) 96 #[.pointer (some ⟨w.heap.size, 0, none⟩)] trivial (enters_of Tryz.func96 (by kernel_rfl) rfl) _ _ hmax hbytes _ hseq

end Go.Proofs.YtolodcdhpnapmaaGreat

/-
  Keys of a hash.
-/
namespace Go.Proofs.YtolodcdhpnapmaaGreat
open Go.RowKit Go.Maps Go.Sort
set_option linter.unusedVariables false

/-- A key that is told: a row of its own bytes. -/
structure KR where
  g : Nat
  k : List UInt8
  cap : Nat
def KR.sl (r : KR) : Value := .slice (some ⟨r.g, 0, none⟩) r.k.length r.cap
def ints (k : List UInt8) : List Int := k.map fun x => (x.toNat : Int)
theorem ints_byte (k : List UInt8) : ∀ x ∈ ints k, IsByte x := by
  intro x hx
  unfold ints at hx
  obtain ⟨b, _, rfl⟩ := List.mem_map.1 hx
  have := b.toNat_lt
  unfold IsByte
  omega
theorem kb_ints (k : List UInt8) : kb (ints k) = k := by
  unfold kb ints
  rw [List.map_map]
  conv => rhs; rw [← List.map_id k]
  apply List.map_congr_left
  intro x _
  simp
theorem ints_kb {l : List Int} (h : ∀ x ∈ l, IsByte x) : ints (kb l) = l := by
  unfold kb ints
  rw [List.map_map]
  conv => rhs; rw [← List.map_id l]
  apply List.map_congr_left
  intro x hx
  have := h x hx
  unfold IsByte at this
  simp only [Function.comp_apply, id_eq]
  rw [UInt8.toNat_ofNat']
  omega
def KR.At (w : World) (r : KR) : Prop := ∃ cur m, w.heap[r.g]? = some (.cells cur 5 (m, m + 1)) ∧ (cur.size = m ∧ r.k.length ≤ r.cap ∧ r.cap ≤ m) ∧ r.k.length ≤ m ∧ cur.toList.take r.k.length = u8s (ints r.k)
theorem KR.At.rd {w : World} {r : KR} (h : r.At w) : Rd w w.heap.size 1 (some ⟨r.g, 0, none⟩) r.k.length (u8s (ints r.k)) := by
  obtain ⟨cur, m, h1, h2, h3, h4⟩ := h
  refine ⟨by simp [u8s, ints], fun _ => ⟨_, rfl, at_lt h1, fun j u hu => ?_⟩⟩
  rw [add_own]
  unfold World.cell?
  rw [h1]
  rw [← h4, List.getElem?_take] at hu
  split at hu
  · simpa using hu
  · cases hu
structure KeysTold (w : World) (B : Nat) (v : Value) (rs : List KR) : Prop where
  row : w.ownsRow 0 34 1 v rs.length (rs.map KR.sl)
  low : ∀ g, v.ownBlock = some g → B ≤ g
  each : ∀ r ∈ rs, r.At w ∧ B ≤ r.g
  sep : ∀ (i j : Nat) (r s : KR), rs[i]? = some r → rs[j]? = some s → i ≠ j → r.g ≠ s.g
theorem KeysTold.off {w : World} {B : Nat} {v : Value} {rs : List KR} (h : KeysTold w B v rs) {r : KR} (hr : r ∈ rs) : v.ownBlock ≠ some r.g := fun e => by
  obtain ⟨cur, hc⟩ := owns_cells h.row e
  obtain ⟨c2, m, h1, _⟩ := (h.each r hr).1
  rw [hc] at h1
  injection h1 with h1
  injection h1 with _ h1
  exact absurd h1 (by decide)
theorem KR.At.kept {F : Nat → Prop} {w w' : World} {r : KR} (h : r.At w) (hk : Kept F w w') (hF : F r.g) : r.At w' := by
  obtain ⟨cur, m, h1, h2⟩ := h
  exact ⟨cur, m, (hk.block _ (at_lt h1) hF).trans h1, h2⟩
theorem KeysTold.kept {F : Nat → Prop} {w w' : World} {B : Nat} {v : Value} {rs : List KR} (h : KeysTold w B v rs) (hk : Kept F w w') (hv : ∀ g, v.ownBlock = some g → F g) (hr : ∀ r ∈ rs, F r.g) : KeysTold w' B v rs :=
  ⟨owns_kept h.row hk hv, h.low, fun r hm => ⟨(h.each r hm).1.kept hk (hr r hm), (h.each r hm).2⟩, h.sep⟩
theorem KeysTold.below {w w' : World} {B : Nat} {v : Value} {rs : List KR} (h : KeysTold w B v rs) (hb : Below w.heap.size w w') : KeysTold w' B v rs :=
  h.kept (F := fun _ => True) (Kept.of_below hb) (fun _ _ => trivial) (fun _ _ => trivial)
/-- The keys of a hash, rising. -/
def keysM (L : List HS) : List (List UInt8) := (L.filterMap (·.key)).mergeSort leB
theorem keys_mem {L : List HS} {k : List UInt8} : k ∈ L.filterMap (·.key) ↔ ∃ i, findK L k = some i := by
  rw [List.mem_filterMap]
  constructor
  · rintro ⟨r, hr, hk⟩
    cases hf : findK L k with
    | some i => exact ⟨i, rfl⟩
    | none =>
      obtain ⟨i, hi⟩ := List.mem_iff_getElem?.1 hr
      exact absurd hk (findK_none hf i r hi)
  · rintro ⟨i, hf⟩
    obtain ⟨r, h1, h2, _⟩ := findK_some hf
    exact ⟨r, List.mem_of_getElem? h1, h2⟩
theorem once_nodup : ∀ (L : List HS), Once L → (L.filterMap (·.key)).Nodup
  | [], _ => by simp
  | s :: L, h => by
    have hL : Once L := fun i j r t k hi hj hr ht => by
      have := h (i + 1) (j + 1) r t k (by simpa using hi) (by simpa using hj) hr ht
      omega
    have ih := once_nodup L hL
    cases hs : s.key with
    | none => rw [List.filterMap_cons_none hs]; exact ih
    | some k =>
      rw [List.filterMap_cons_some hs, List.nodup_cons]
      refine ⟨fun hm => ?_, ih⟩
      obtain ⟨r, hr, hk⟩ := List.mem_filterMap.1 hm
      obtain ⟨i, hi⟩ := List.mem_iff_getElem?.1 hr
      have := h 0 (i + 1) s r k rfl (by simpa using hi) hs hk
      omega
theorem Hsh.keys {w : World} {B b cb mb ks sz : Nat} {L : List HS} (h : Hsh w B b cb mb ks sz L) : ∃ D : DataW Unit, w.ownsMap Tryz.prog 9 (plainElem Tryz.prog 3) mb (takenK L) D ∧ Maps.size D = takenK L ∧ (L.filterMap (·.key)).Perm (strKeys D) := by
  refine h.map.strs strK Tryz.underlying9 (once_nodup L h.once) (fun x => ?_)
  rw [keys_mem, placeF_str]
  constructor
  · rintro ⟨i, hf⟩
    refine ⟨?_, by rw [hf]; rfl⟩
    obtain ⟨r, h1, h2, _⟩ := findK_some hf
    have := h.keyl i r x h1 h2
    have := h.kbig.2
    unfold maxLen
    omega
  · rintro ⟨_, h2⟩
    cases hf : findK L x with
    | none => rw [hf] at h2; cases h2
    | some i => exact ⟨i, rfl⟩
theorem keysM_len (L : List HS) : (keysM L).length = takenK L := by
  unfold keysM takenK
  rw [List.length_mergeSort]
  induction L with
  | nil => rfl
  | cons s L ih =>
    rw [List.countP_cons, ← ih]
    cases hs : s.key with
    | none => rw [List.filterMap_cons_none hs]; rfl
    | some k => rw [List.filterMap_cons_some hs, List.length_cons]; rfl
theorem keysM_mem {L : List HS} {k : List UInt8} : k ∈ keysM L ↔ ∃ i, findK L k = some i := by
  unfold keysM
  rw [List.mem_mergeSort, keys_mem]
theorem rows22 : (Tryz.prog.info? 34).map (fun i => (i.zero, i.size, i.bytes)) = some (some (.slice none 0 0), 1, 24) := by kernel_rfl
set_option maxRecDepth 100000 in
theorem keys_not (p : Option Addr) (w : World) (h : NoH p w) : Calls Tryz.prog 21 #[.pointer p] w fun e w' => e = .returned (.slice none 0 0) ∧ w' = w := by
  have H := hide (h w (Below.refl _ _))
  clear h
  go_enter Tryz.func21, Tryz.ntmps21
  go_wp2_with (go_at_call 50; refine H.out.mono ?_; rintro e w' ⟨rfl, rfl⟩)
  go_ret
  exact ⟨rfl, rfl⟩
/-- A key's text becomes a row of its own. -/
theorem conv_text (w : World) (k : List UInt8) : ∃ cap, k.length ≤ cap ∧ (convert 9 34 (encStr k)).run Tryz.prog w = .ok (.slice (some ⟨w.heap.size, 0, none⟩) k.length cap) (w.drew.alloc (.cells (bytesRow ⟨k.toArray⟩ cap) 5 ((bytesRow ⟨k.toArray⟩ cap).size, (bytesRow ⟨k.toArray⟩ cap).size + 1))) := by
  refine ⟨grownCap w (ByteArray.size ⟨k.toArray⟩) 0 5, by have := grownCap_ge w (ByteArray.size ⟨k.toArray⟩) 0 5; simpa [ByteArray.size] using this, ?_⟩
  have := run_bytes_of_string (P := Tryz.prog) w 9 34 5 ⟨k.toArray⟩ Tryz.underlying9 Tryz.underlying34 Tryz.underlying5
  simpa [encStr, ByteArray.size] using this
theorem text_at (w : World) (k : List UInt8) (cap : Nat) (hc : k.length ≤ cap) : KR.At (w.drew.alloc (.cells (bytesRow ⟨k.toArray⟩ cap) 5 ((bytesRow ⟨k.toArray⟩ cap).size, (bytesRow ⟨k.toArray⟩ cap).size + 1))) ⟨w.heap.size, k, cap⟩ := by
  refine ⟨bytesRow ⟨k.toArray⟩ cap, (bytesRow ⟨k.toArray⟩ cap).size, World.alloc_heap_new w.drew _, ⟨rfl, hc, ?_⟩, ?_, ?_⟩
  · simp [bytesRow, ByteArray.size]; omega
  · simp [bytesRow]
  · simp [bytesRow, u8s, ints]
theorem owns_slice_b {w : World} {base : Nat} {e : TypeId} {sz n : Nat} {v : Value} {xs : List Value} (h : w.ownsRow base e sz v n xs) : ∃ A c, v = .slice A n c ∧ Rd w w.heap.size sz A n xs := by
  rcases h.2 with ⟨rfl, rfl⟩ | ⟨g, cap, cur, rfl, hb, hg, rest⟩
  · have : xs = [] := List.eq_nil_of_length_eq_zero (by have := h.1; omega)
    subst this
    exact ⟨none, 0, rfl, Rd.nil⟩
  · exact ⟨_, cap, rfl, (Rd.of_owns h).mono (at_lt hg)⟩
/-- One key more is told. -/
theorem KeysTold.more {w w1 w2 : World} {B : Nat} {v v' : Value} {rs : List KR} {r : KR} (h : KeysTold w B v rs) (hB : B ≤ w.heap.size) (hb : Below w.heap.size w w1) (hr : r.At w1) (hg : r.g = w.heap.size) (hl : Longer w1 w2 34 1 v v' (rs.length + 1) (rs.map KR.sl ++ [r.sl])) (hw1 : w.heap.size < w1.heap.size) : KeysTold w2 B v' (rs ++ [r]) := by
  obtain ⟨h1, h2, h3⟩ := hl
  have hk : Kept (fun g => v.ownBlock ≠ some g) w1 w2 := (Kept.refl _ w1).grown h2 (fun g e _ hh => hh e)
  have hlt : ∀ s ∈ rs, s.g < w.heap.size := fun s hs => by
    obtain ⟨c, m, g1, _⟩ := (h.each s hs).1
    exact at_lt g1
  have hvl : ∀ g, v.ownBlock = some g → g < w.heap.size := fun g hg => (h.row.lt g hg).2
  refine ⟨by rw [List.length_append, List.map_append]; exact h1, fun g hg' => ?_, fun s hs => ?_, fun i j s t hi hj hij => ?_⟩
  · rcases h3 with h3 | h3
    · exact h.low g (h3 ▸ hg')
    · rw [h3] at hg'
      injection hg' with hg'
      omega
  · rcases List.mem_append.1 hs with hs | hs
    · exact ⟨((h.each s hs).1.kept (Kept.of_below hb : Kept (fun _ => True) w w1) trivial).kept hk (h.off hs), (h.each s hs).2⟩
    · simp at hs
      subst hs
      exact ⟨hr.kept hk (fun e => by have := hvl _ e; omega), by omega⟩
  · have hat : ∀ (i : Nat) (s : KR), (rs ++ [r])[i]? = some s → (rs[i]? = some s ∧ i < rs.length) ∨ (i = rs.length ∧ s = r) := fun i s hi => by
      by_cases hl : i < rs.length
      · rw [List.getElem?_append_left hl] at hi
        exact .inl ⟨hi, hl⟩
      · rw [List.getElem?_append_right (by omega)] at hi
        by_cases e : i = rs.length
        · subst e
          simp at hi
          exact .inr ⟨rfl, hi.symm⟩
        · rw [List.getElem?_eq_none (by simp; omega)] at hi; cases hi
    rcases hat i s hi with ⟨hi2, _⟩ | ⟨e1, e1'⟩
    · rcases hat j t hj with ⟨hj2, _⟩ | ⟨e2, e2'⟩
      · exact h.sep i j s t hi2 hj2 hij
      · have := hlt s (List.mem_of_getElem? hi2); rw [e2']; omega
    · rcases hat j t hj with ⟨hj2, _⟩ | ⟨e2, e2'⟩
      · have := hlt t (List.mem_of_getElem? hj2); rw [e1']; omega
      · omega
set_option maxRecDepth 100000 in
set_option maxHeartbeats 2000000 in
theorem keys_any (B b cb mb ks sz : Nat) (L : List HS) (w : World) (h : Hsh w B b cb mb ks sz L) :
    Calls Tryz.prog 21 #[.pointer (some ⟨b, 0, none⟩)] w fun e w' => ∃ v rs, e = .returned v ∧ KeysTold w' w.heap.size v rs ∧ rs.map KR.k = keysM L ∧ Below w.heap.size w w' := by
  obtain ⟨D, hD, hDs, hDp⟩ := h.keys
  have hlen := takenK_le L
  have hmany := h.many.2
  have HM := hide (is_yes b w (by rw [blk_cell h.blk]; rfl))
  have c2 := h.c2
  have HK := hide ((callsIn_wide (n := 5)).1 (maps_keys (some mb) w))
  have HS := hide ((callsIn_wide (n := 5)).1 (sorted_keys mb (takenK L) D _ w hD (by rw [hDs]; unfold maxLen; omega) (by rw [hDs]; omega)))
  have HP := hide hDp
  clear h hD hDp
  go_enter Tryz.func21, Tryz.ntmps21
  go_wp2_with (first
    | (go_at_call 50; refine HM.out.mono ?_; rintro e w' ⟨rfl, rfl⟩)
    | (go_at_call 52; refine HK.out.mono ?_; rintro e w' ⟨rfl, rfl⟩)
    | (go_at_call 51; refine HS.out.mono ?_; rintro e w1 ⟨v, ss, rfl, hS, hrow, hnil, hb⟩; obtain ⟨A1, cc1, rfl, hrd⟩ := owns_slice_b hrow; have HPS := hide hS; have HRW := hide hrd; have HB := hide hb; clear hS hrow hnil hb hrd))
  obtain ⟨i0, hi0, hz0, hz1, hz2⟩ := info_parts rows22
  have hms : ss.mergeSort (fun x y => decide (x ≤ y)) = keysM L := mergeSort_of_perm (HPS.out.trans HP.out.symm)
  have hml : (ss.mergeSort (fun x y => decide (x ≤ y))).length = ss.length := List.length_mergeSort _
  rw [hms] at hml
  have hkl := keysM_len L
  rw [hms] at HRW
  have HML := hide hml
  have HB1 : Hid (Below w.heap.size w w1) := hide (below1c HB.out)
  have HSZ : Hid (w.heap.size ≤ w1.heap.size ∧ ss.length ≤ 1024) := hide ⟨HB1.out.size, by omega⟩
  clear hms hml HPS HK HM HS c2 HP HB hkl
  go_loopw [16, 3] (fun q v wr => ∃ (i : Nat) (rs : List KR), i ≤ ss.length ∧ q = .int .i64 i ∧ KeysTold wr w1.heap.size v rs ∧ rs.map KR.k = (keysM L).take i ∧ Below w1.heap.size w1 wr) (fun q _ _ => ss.length - (intOf q).toNat)
  case atStart => exact ⟨0, [], Nat.zero_le _, rfl, ⟨owns_nil _ _ _, (fun g hg => by cases hg), (fun r hr => by simp at hr), (fun i j r s hi => by simp at hi)⟩, rfl, Below.refl _ _⟩
  case round =>
    obtain ⟨i, rs, hi, rfl, hK, hm, hbw⟩ := hrel
    have HKT := hide hK
    have HM := hide hm
    have HBW := hide hbw
    have hrl : rs.length = i := by
      have := congrArg List.length hm
      rw [List.length_map, List.length_take, HML.out] at this
      omega
    by_cases hlt : i < ss.length
    · have hr2 := (HRW.out.below hbw)
      obtain ⟨ad, rfl, _, hc⟩ := hr2.2 (by omega)
      obtain ⟨key, hkey⟩ : ∃ key, (keysM L)[i]? = some key := ⟨(keysM L)[i]'(by rw [HML.out]; exact hlt), List.getElem?_eq_getElem _⟩
      have hck : wr.cell? (ad.add i) = some (encStr key) := hc i _ (by rw [List.getElem?_map, hkey]; rfl)
      obtain ⟨cap, hcc, hcv⟩ := conv_text wr key
      have hat := text_at wr key cap hcc
      have hbd : Below wr.heap.size wr (wr.drew.alloc (.cells (bytesRow ⟨key.toArray⟩ cap) 5 ((bytesRow ⟨key.toArray⟩ cap).size, (bytesRow ⟨key.toArray⟩ cap).size + 1))) := (Below.refl _ wr).drew.alloc (Nat.le_refl _) _
      have hzd : (wr.drew.alloc (.cells (bytesRow ⟨key.toArray⟩ cap) 5 ((bytesRow ⟨key.toArray⟩ cap).size, (bytesRow ⟨key.toArray⟩ cap).size + 1))).heap.size = wr.heap.size + 1 := by simp
      generalize wr.drew.alloc (.cells (bytesRow ⟨key.toArray⟩ cap) 5 ((bytesRow ⟨key.toArray⟩ cap).size, (bytesRow ⟨key.toArray⟩ cap).size + 1)) = w5 at *
      have HAT := hide hat
      have HBD := hide hbd
      have HKY := hide hkey
      have dk0 : (0 : Int) ≤ (i : Int) := by omega
      have dk1 : (i : Int) < (ss.length : Int) := by omega
      obtain ⟨Av, nv, cv, rfl⟩ : ∃ Av nv cv, u3 = .slice Av nv cv := by
        obtain ⟨A, c, e, _⟩ := owns_slice hK.row
        exact ⟨_, _, _, e⟩
      generalize encStr key = kv at hck hcv
      have hb6 := below1 w5 (.cells #[.slice (some ⟨wr.heap.size, 0, none⟩) key.length cap] 34)
      have hr6 := cells_rd w5 [.slice (some ⟨wr.heap.size, 0, none⟩) key.length cap] 34 1 1 rfl
      rw [hzd] at hr6
      have HR6 := hide hr6
      have hs1024 : ss.length ≤ 1024 := HSZ.out.2
      clear hr6
      have how := (hK.below (hbd.trans (hb6.mono hbd.size))).row
      rw [hrl] at how
      have HOW := hide how
      have HB6 := hide hb6
      clear hK hm hbw hr2 hc hat hbd hkey hb6 how
      go_wp2_with (at_builtin; refine stop_here ?_)
      show Hid _
      refine start_here ?_
      refine wpList_append_rd2 rfl _ _ _ _ rfl 34 i0 _ 1 24 Tryz.underlying63 Tryz.underlying63 hi0 hz0 hz1 hz2 rfl (by decide) _ i (rs.map KR.sl) rfl HOW.out (wr.heap.size + 1 + 1) (some ⟨wr.heap.size + 1, 0, none⟩) 1 1 [.slice (some ⟨wr.heap.size, 0, none⟩) key.length cap] rfl HR6.out (fun h => by cases h) (fun u hu => by simp at hu; subst hu; rfl) (by unfold maxLen; omega) (by omega) ?_
      intro v' w7 hl
      have hK6 := KeysTold.more (r := ⟨wr.heap.size, key, cap⟩) HKT.out (by have := HBW.out.size; omega) (HBD.out.trans (HB6.out.mono HBD.out.size)) (HAT.out.kept (F := fun _ => True) (Kept.of_below HB6.out) trivial) rfl (by rw [hrl]; exact hl) (by simp; omega)
      have hb7 : Below w1.heap.size w1 w7 := ((HBW.out.trans ((HBD.out.trans (HB6.out.mono HBD.out.size)).mono HBW.out.size))).grown hl.2.1 (by have := HBW.out.size; simp; omega) (fun g e => HKT.out.low g e)
      have hm7 : (rs ++ [(⟨wr.heap.size, key, cap⟩ : KR)]).map KR.k = (keysM L).take (i + 1) := by
        rw [List.map_append, HM.out, List.take_add_one, HKY.out]
        rfl
      have HK7 := hide hK6
      have HB7 := hide hb7
      have HM7 := hide hm7
      clear hl hK6 hb7 hm7 hck hcv
      go_wp2
      go_roundw
      case rel => exact ⟨i + 1, _, by omega, by go_num, HK7.out, HM7.out, HB7.out⟩
      case measure => simp [intOf]; omega
    · clear hK hm hbw
      obtain rfl : i = ss.length := by omega
      go_wp2_with fail
      have hfin : KeysTold wr w.heap.size u3 rs ∧ rs.map KR.k = keysM L ∧ Below w.heap.size w wr := by
        refine ⟨⟨HKT.out.row, fun g hg => Nat.le_trans HSZ.out.1 (HKT.out.low g hg), fun r hr => ⟨(HKT.out.each r hr).1, Nat.le_trans HSZ.out.1 (HKT.out.each r hr).2⟩, HKT.out.sep⟩, ?_, HB1.out.trans (HBW.out.mono HSZ.out.1)⟩
        rw [HM.out, List.take_of_length_le (by rw [HML.out]; exact Nat.le_refl _)]
      clear HKT HM HBW HSZ HB1 HML HRW
      obtain ⟨f1, f2, f3⟩ := hfin
      have F1 := hide f1
      have F2 := hide f2
      have F3 := hide f3
      clear f1 f2 f3
      go_ret
      exact ⟨_, rs, rfl, F1.out, F2.out, F3.out⟩
end Go.Proofs.YtolodcdhpnapmaaGreat

/-
  Rows of bytes that are the same are found to be so; what the chapter's example comes to.
-/
namespace Go.Proofs.YtolodcdhpnapmaaGreat
open Go.RowKit Go.Maps
set_option linter.unusedVariables false

structure SL where
  A : Option Addr
  n : Nat
  c : Nat
def SL.v (s : SL) : Value := .slice s.A s.n s.c
/-- n rows of bytes read as ls. -/
structure RowsRd (w : World) (B : Nat) (A : Option Addr) (n : Nat) (ls : List (List Int)) (vs : List SL) : Prop where
  len : ls.length = n
  lev : vs.length = n
  rd : Rd w B 1 A n (vs.map SL.v)
  each : ∀ (i : Nat) (s : SL) (l : List Int), vs[i]? = some s → ls[i]? = some l → s.n = l.length ∧ Rd w B 1 s.A s.n (u8s l)
theorem RowsRd.below {w w' : World} {B n : Nat} {A : Option Addr} {ls : List (List Int)} {vs : List SL} (h : RowsRd w B A n ls vs) (hb : Below B w w') : RowsRd w' B A n ls vs :=
  ⟨h.len, h.lev, h.rd.below hb, fun i s l hi hl => ⟨(h.each i s l hi hl).1, (h.each i s l hi hl).2.below hb⟩⟩
set_option maxRecDepth 100000 in
set_option maxHeartbeats 1000000 in
theorem sameRows_yes (A A' : Option Addr) (n c c' B : Nat) (ls : List (List Int)) (vs vs' : List SL) (w : World) (h : RowsRd w B A n ls vs) (h' : RowsRd w B A' n ls vs') (hB : B ≤ w.heap.size) (hn : n ≤ 1000000) (hl : ∀ l ∈ ls, l.length ≤ 1000000) :
    Calls Tryz.prog 22 #[.slice A n c, .slice A' n c'] w fun e w' => e = .returned (.bool true) ∧ Below w.heap.size w w' := by
  have H := hide h
  have H' := hide h'
  have HL := hide hl
  clear h h' hl
  go_enter Tryz.func22, Tryz.ntmps22
  go_wp2
  go_loopw [5] (fun p wr => ∃ k : Nat, k ≤ n ∧ p = .int .i64 k ∧ Below w.heap.size w wr) (fun p _ => n - (intOf p).toNat)
  case atStart => exact ⟨0, Nat.zero_le _, rfl, Below.refl _ _⟩
  case round =>
    obtain ⟨k, hk, rfl, hb⟩ := hrel
    by_cases hlt : k < n
    · have h1 := H.out.below (hb.mono hB)
      have h2 := H'.out.below (hb.mono hB)
      obtain ⟨ad, rfl, _, hc⟩ := h1.rd.2 (by omega)
      obtain ⟨ad', rfl, _, hc'⟩ := h2.rd.2 (by omega)
      obtain ⟨s, hs⟩ : ∃ s, vs[k]? = some s := ⟨vs[k]'(by rw [h1.lev]; exact hlt), List.getElem?_eq_getElem _⟩
      obtain ⟨s', hs'⟩ : ∃ s, vs'[k]? = some s := ⟨vs'[k]'(by rw [h2.lev]; exact hlt), List.getElem?_eq_getElem _⟩
      obtain ⟨l, hl⟩ : ∃ l, ls[k]? = some l := ⟨ls[k]'(by rw [h1.len]; exact hlt), List.getElem?_eq_getElem _⟩
      have q1 : wr.cell? (ad.add k) = some (.slice s.A s.n s.c) := hc k _ (by rw [List.getElem?_map, hs]; rfl)
      have q2 : wr.cell? (ad'.add k) = some (.slice s'.A s'.n s'.c) := hc' k _ (by rw [List.getElem?_map, hs']; rfl)
      obtain ⟨e1, r1⟩ := h1.each k s l hs hl
      obtain ⟨e2, r2⟩ := h2.each k s' l hs' hl
      have hll := HL.out l (List.mem_of_getElem? hl)
      obtain ⟨sA, sn, sc⟩ := s
      obtain ⟨tA, tn, tc⟩ := s'
      simp only at q1 q2 e1 e2 r1 r2
      subst e1
      subst e2
      have HC := hide (sameBytes_yes sA tA l.length sc tc B l wr.drew (r1.mono (Nat.le_refl _)) (r2.mono (Nat.le_refl _)) (Nat.le_trans hB hb.size) hll)
      have HBB := hide hb
      have k0 : (0 : Int) ≤ (k : Int) := by omega
      have k1 : (k : Int) < (n : Int) := by omega
      clear h1 h2 hc hc' hs hs' hl r1 r2 hb
      generalize l.length = ln at *
      go_wp2
      refine wp_region_still_tail 8 (by kernel_rfl) (by kernel_rfl) ?_
      simp only [List.take_succ_cons, List.take_zero, List.drop_succ_cons, List.drop_zero]
      repeat still_step
      refine wpStill_nil ?_
      go_wp2_with (go_at_call 19; refine HC.out.mono ?_; rintro e w2 ⟨rfl, hb⟩; have HB2 := hide hb; clear hb)
      go_roundw
      case rel => exact ⟨k + 1, by omega, by go_num, HBB.out.trans ((Below.refl _ wr).drew |>.mono HBB.out.size |>.trans (HB2.out.mono HBB.out.size))⟩
      case measure => simp [intOf]; omega
    · obtain rfl : k = n := by omega
      go_wp2
      go_ret
      exact ⟨rfl, hb⟩
/-- The example's places. -/
def exP (A : Option Addr) (c : Nat) (x : Int) (k : Option (List UInt8)) : HS := ⟨A, c, [x], k⟩
theorem ex_new (s : Nat) : zHSs s 1 2 = [exP (some ⟨s + 0, 0, none⟩) 1 0 none, exP (some ⟨s + 1, 0, none⟩) 1 0 none] := rfl
section
variable (A A' : Option Addr) (c c' : Nat)
theorem ex_1 : updE 1 1 1 1 [exP A c 0 none, exP A' c' 0 none] (kb [98]) 0 = 0 ∧ updL 1 1 1 1 [exP A c 0 none, exP A' c' 0 none] (kb [98]) 0 [120] = [exP A c 120 (some [98]), exP A' c' 0 none] := ⟨rfl, rfl⟩
theorem ex_2 : updE 1 1 1 1 [exP A c 120 (some [98]), exP A' c' 0 none] (kb [97]) 0 = 0 ∧ updL 1 1 1 1 [exP A c 120 (some [98]), exP A' c' 0 none] (kb [97]) 0 [121] = [exP A c 120 (some [98]), exP A' c' 121 (some [97])] := ⟨rfl, rfl⟩
theorem ex_3 : lookE 1 1 [exP A c 120 (some [98]), exP A' c' 121 (some [97])] (kb [97]) = (1, 0) := rfl
theorem ex_4 : keysM [exP A c 120 (some [98]), exP A' c' 121 (some [97])] = [[97], [98]] := by
  have e : ([exP A c 120 (some [98]), exP A' c' 121 (some [97])].filterMap (·.key)) = [[98], [97]] := rfl
  unfold keysM
  rw [e, Go.mergeSort_of_perm (show ([[98], [97]] : List (List UInt8)).Perm [[97], [98]] from List.Perm.swap _ _ _)]
  exact List.mergeSort_of_pairwise (by simp [leB]; decide)
theorem ex_5 : updE 1 1 1 1 [exP A c 120 (some [98]), exP A' c' 121 (some [97])] (kb [99]) 0 = 8 := rfl
theorem ex_6 : delE 1 1 [exP A c 120 (some [98]), exP A' c' 121 (some [97])] (kb [98]) = 0 ∧ delL 1 1 [exP A c 120 (some [98]), exP A' c' 121 (some [97])] (kb [98]) = [exP A c 120 none, exP A' c' 121 (some [97])] := ⟨rfl, rfl⟩
theorem ex_7 : updE 1 1 1 1 [exP A c 120 none, exP A' c' 121 (some [97])] (kb [99]) 1 = 0 ∧ updL 1 1 1 1 [exP A c 120 none, exP A' c' 121 (some [97])] (kb [99]) 1 [122] = [exP A c 122 (some [99]), exP A' c' 121 (some [97])] := ⟨rfl, rfl⟩
theorem ex_8 : lookE 1 1 [exP A c 122 (some [99]), exP A' c' 121 (some [97])] (kb [99]) = (0, 0) := rfl
theorem ex_9 : updE 1 1 1 1 [exP A c 122 (some [99]), exP A' c' 121 (some [97])] (kb [98]) 2 = 6 := rfl
end
end Go.Proofs.YtolodcdhpnapmaaGreat

/-
  The chapter's example holds.
-/
namespace Go.Proofs.YtolodcdhpnapmaaGreat
open Go.RowKit Go.Maps
set_option linter.unusedVariables false

theorem below1m (w : World) (l : List Value) (fr : Nat × Nat) : Below w.heap.size w (w.alloc (.cells l.toArray 5 fr)) := (Below.refl _ _).alloc (Nat.le_refl _) _
theorem Hsh.low_ {w w' : World} {B b cb mb ks sz : Nat} {L : List HS} (h : Hsh w B b cb mb ks sz L) (hk : Kept (fun g => ¬ OfH b cb mb sz L g) w w') (hB : B ≤ w.heap.size) : Below B w w' := hk.to_below (fun g hg ho => by have := h.low g ho; omega) hB
theorem spec_ex : specM 2 1 1 2 = 0 := by decide
/-- A byte that is written out. -/
def mk1 (w : World) (x : Int) : World := w.alloc (.cells (u8s [x]).toArray 5 (1, 2))
theorem krow_mark (w : World) (x : Int) (hx : IsByte x) : KRow (mk1 w x) (w.heap.size + 1) (some ⟨w.heap.size, 0, none⟩) 1 [x] := ⟨rd_mark w [x] 1 rfl (1, 2), (fun h => by cases h), (fun y hy => by simp at hy; subst hy; exact hx)⟩
theorem mk1_below (w : World) (x : Int) : Below w.heap.size w (mk1 w x) := below1m w (u8s [x]) (1, 2)
theorem mk1_size (w : World) (x : Int) : (mk1 w x).heap.size = w.heap.size + 1 := by simp [mk1]
theorem upd_ex {B b cb mb : Nat} {L : List HS} {W : World} (x y fl er : Int) (L' : List HS) (h : Hsh W B b cb mb 1 1 L) (hB : B ≤ W.heap.size) (hx : IsByte x) (he : updE 1 1 1 1 L (kb [x]) fl = er) (hl : updL 1 1 1 1 L (kb [x]) fl [y] = L') :
    Calls Tryz.prog 25 #[.pointer (some ⟨b, 0, none⟩), .slice (some ⟨W.heap.size, 0, none⟩) 1 1, .slice (some ⟨W.heap.size + 1, 0, none⟩) 1 1, .int .u64 fl] (mk1 (mk1 W x) y) fun e w' => e = .returned (.int .i64 er) ∧ Hsh w' B b cb mb 1 1 L' ∧ Below B W w' ∧ Kept (fun g => ¬ OfH b cb mb 1 L g) W w' := by
  have hb1 := mk1_below W x
  have hb2 := mk1_below (mk1 W x) y
  have hs1 := mk1_size W x
  have hs2 := mk1_size (mk1 W x) y
  have hb := hb1.trans (hb2.mono hb1.size)
  have hh := h.below hb
  have hk := (krow_mark W x hx).below (hb2.mono (by omega))
  have hd := rd_mark (mk1 W x) [y] 1 rfl (1, 2)
  rw [hs1] at hd
  have := upd_any B b cb mb 1 1 L (some ⟨W.heap.size, 0, none⟩) (some ⟨W.heap.size + 1, 0, none⟩) 1 1 (W.heap.size + 1 + 1) 1 1 fl [x] [y] (mk1 (mk1 W x) y) hh ⟨hk.rd.mono (by omega), hk.nil, hk.byte⟩ (by omega) hd
  rw [he, hl] at this
  refine this.mono ?_
  rintro e w' ⟨h1, h2, h3⟩
  exact ⟨h1, h2, (hb.mono hB).trans (hh.low_ h3 (by omega)), keptTrans (Kept.of_below hb) h3⟩
theorem look_ex {B b cb mb : Nat} {L : List HS} {W : World} (x n er : Int) (h : Hsh W B b cb mb 1 1 L) (hB : B ≤ W.heap.size) (hx : IsByte x) (he : lookE 1 1 L (kb [x]) = (n, er)) :
    Calls Tryz.prog 24 #[.pointer (some ⟨b, 0, none⟩), .slice (some ⟨W.heap.size, 0, none⟩) 1 1] (mk1 W x) fun e w' => e = .returned (.tuple #[.int .i64 n, .int .i64 er]) ∧ Hsh w' B b cb mb 1 1 L ∧ Below B W w' ∧ Kept (fun g => ¬ OfH b cb mb 1 L g) W w' := by
  have hb1 := mk1_below W x
  have hs1 := mk1_size W x
  have hh := h.below hb1
  have := lookup_any B b cb mb 1 1 L (some ⟨W.heap.size, 0, none⟩) 1 1 (W.heap.size + 1) [x] (mk1 W x) hh (krow_mark W x hx) (by omega)
  rw [he] at this
  refine this.mono ?_
  rintro e w' ⟨h1, h2⟩
  exact ⟨h1, hh.below h2, (hb1.mono hB).trans (h2.mono (by omega)), keptTrans (Kept.of_below hb1) (Kept.of_below h2)⟩
theorem del_ex {B b cb mb : Nat} {L : List HS} {W : World} (x er : Int) (L' : List HS) (h : Hsh W B b cb mb 1 1 L) (hB : B ≤ W.heap.size) (hx : IsByte x) (he : delE 1 1 L (kb [x]) = er) (hl : delL 1 1 L (kb [x]) = L') :
    Calls Tryz.prog 26 #[.pointer (some ⟨b, 0, none⟩), .slice (some ⟨W.heap.size, 0, none⟩) 1 1] (mk1 W x) fun e w' => e = .returned (.int .i64 er) ∧ Hsh w' B b cb mb 1 1 L' ∧ Below B W w' ∧ Kept (fun g => ¬ OfH b cb mb 1 L g) W w' := by
  have hb1 := mk1_below W x
  have hs1 := mk1_size W x
  have hh := h.below hb1
  have := del_any B b cb mb 1 1 L (some ⟨W.heap.size, 0, none⟩) 1 1 (W.heap.size + 1) [x] (mk1 W x) hh (krow_mark W x hx) (by omega)
  rw [he, hl] at this
  refine this.mono ?_
  rintro e w' ⟨h1, h2, h3⟩
  exact ⟨h1, h2, (hb1.mono hB).trans (hh.low_ h3 (by omega)), keptTrans (Kept.of_below hb1) h3⟩
theorem byte_1 {x : Int} (h : 0 ≤ x ∧ x < 256) : IsByte x := h
theorem hmk1 (w : World) (x : Int) (n : Nat) (hn : n = w.heap.size) : (convert 34 34 (.slice (some ⟨n, 0, none⟩) 1 1)).run Tryz.prog (w.alloc (.cells #[.int .u8 x] 5)) = .ok (.slice (some ⟨n, 0, none⟩) 1 1) (mk1 w x) := by
  subst hn
  exact Joins.run_convert_bytes_const_at (P := Tryz.prog) w 34 5 #[.int .u8 x] 1 1 w.heap.size rfl Tryz.underlying34 Tryz.underlying5
theorem ofH_ex {b cb mb g : Nat} {A A' : Option Addr} {c c' : Nat} {x x' y y' : Int} {k k' l l' : Option (List UInt8)} (h : OfH b cb mb 1 [exP A c x k, exP A' c' x' k'] g) : OfH b cb mb 1 [exP A c y l, exP A' c' y' l'] g := by
  have hA : SameA [exP A c x k, exP A' c' x' k'] [exP A c y l, exP A' c' y' l'] := by
    refine ⟨rfl, fun i r s hr hs => ?_⟩
    match i with
    | 0 => simp at hr hs; subst hr; subst hs; exact ⟨rfl, rfl⟩
    | 1 => simp at hr hs; subst hr; subst hs; exact ⟨rfl, rfl⟩
    | i + 2 => simp at hr
  exact h.same hA
def KR.s (r : KR) : SL := ⟨some ⟨r.g, 0, none⟩, r.k.length, r.cap⟩
theorem KeysTold.rows {w : World} {B n c : Nat} {A : Option Addr} {rs : List KR} (h : KeysTold w B (.slice A n c) rs) : n = rs.length ∧ RowsRd w w.heap.size A rs.length (rs.map fun r => ints r.k) (rs.map KR.s) := by
  obtain ⟨A2, c2, e, hr⟩ := owns_slice h.row
  injection e with e1 e2 e3
  subst e1
  refine ⟨e2, by simp, by simp, ?_, fun i s l hi hl => ?_⟩
  · rw [List.map_map]
    exact hr
  · rw [List.getElem?_map] at hi hl
    cases hrs : rs[i]? with
    | none => rw [hrs] at hi; cases hi
    | some r =>
      rw [hrs] at hi hl
      simp at hi hl
      subst hi
      subst hl
      exact ⟨by simp [KR.s, ints], ((h.each r (List.mem_of_getElem? hrs)).1).rd⟩
theorem lit_rows (w : World) (x y : Int) : RowsRd ((mk1 (mk1 w x) y).alloc (.cells #[.slice (some ⟨w.heap.size, 0, none⟩) 1 1, .slice (some ⟨w.heap.size + 1, 0, none⟩) 1 1] 34)) (w.heap.size + 3) (some ⟨w.heap.size + 2, 0, none⟩) 2 [[x], [y]] [⟨some ⟨w.heap.size, 0, none⟩, 1, 1⟩, ⟨some ⟨w.heap.size + 1, 0, none⟩, 1, 1⟩] := by
  have hs1 := mk1_size w x
  have hs2 := mk1_size (mk1 w x) y
  have hb2 := mk1_below (mk1 w x) y
  have hb3 := below1 (mk1 (mk1 w x) y) (.cells #[.slice (some ⟨w.heap.size, 0, none⟩) 1 1, .slice (some ⟨w.heap.size + 1, 0, none⟩) 1 1] 34)
  have r1 := ((rd_mark w [x] 1 rfl (1, 2)).below (hb2.mono (by omega))).below (hb3.mono (by omega))
  have r2 := (rd_mark (mk1 w x) [y] 1 rfl (1, 2)).below (hb3.mono (by omega))
  rw [hs1] at r2
  have r3 := cells_rd (mk1 (mk1 w x) y) [.slice (some ⟨w.heap.size, 0, none⟩) 1 1, .slice (some ⟨w.heap.size + 1, 0, none⟩) 1 1] 34 1 2 rfl
  rw [hs2, hs1] at r3
  refine ⟨rfl, rfl, r3.mono (by omega), fun i s l hi hl => ?_⟩
  match i with
  | 0 => simp at hi hl; subst hi; subst hl; exact ⟨rfl, r1.mono (by omega)⟩
  | 1 => simp at hi hl; subst hi; subst hl; exact ⟨rfl, r2.mono (by omega)⟩
  | i + 2 => simp at hi
set_option maxRecDepth 100000 in
set_option maxHeartbeats 8000000 in
theorem awake_any (w : World) : Calls Tryz.prog 8 #[] w fun e w' => e = .returned (.bool true) ∧ Below w.heap.size w w' := by
  go_enter Tryz.func8, Tryz.ntmps8
  go_wp2_with fail
  refine (new_yes 2 1 1 w spec_ex (by omega) (by omega) (by omega)).mono ?_
  rintro e w1 ⟨b, cb, mb, s, rfl, ha, hb⟩
  rw [ex_new] at ha
  generalize (some (⟨s + 0, 0, none⟩ : Addr)) = A at ha
  generalize (some (⟨s + 1, 0, none⟩ : Addr)) = A' at ha
  have HA1 := hide ha
  have HB1 := hide hb
  clear ha hb
  have hc1 := hmk1 w1 98 w1.heap.size rfl
  have hc2 := hmk1 (mk1 w1 98) 120 (w1.heap.size + 1) (mk1_size _ _).symm
  have hz1 := mk1_size w1 98
  go_wp2_with fail
  refine (upd_ex 98 120 0 0 [exP A 1 120 (some [98]), exP A' 1 0 none] HA1.out HB1.out.size (byte_1 (by omega)) (ex_1 A A' 1 1).1 (ex_1 A A' 1 1).2).mono ?_
  rintro e w2 ⟨rfl, ha, hb, hk⟩
  have HA2 := hide ha
  have HB2 := hide (HB1.out.trans hb)
  clear ha hb hk hc1 hc2 hz1 HA1 HB1
  have hc1 := hmk1 w2 97 w2.heap.size rfl
  have hc2 := hmk1 (mk1 w2 97) 121 (w2.heap.size + 1) (mk1_size _ _).symm
  have hz1 := mk1_size w2 97
  go_wp2_with fail
  refine (upd_ex 97 121 0 0 [exP A 1 120 (some [98]), exP A' 1 121 (some [97])] HA2.out HB2.out.size (byte_1 (by omega)) (ex_2 A A' 1 1).1 (ex_2 A A' 1 1).2).mono ?_
  rintro e w3 ⟨rfl, ha, hb, hk⟩
  have HA3 := hide ha
  have HB3 := hide (HB2.out.trans hb)
  clear ha hb hk hc1 hc2 hz1 HA2 HB2
  have hc1 := hmk1 w3 97 w3.heap.size rfl
  go_wp2_with fail
  refine (look_ex 97 1 0 HA3.out HB3.out.size (byte_1 (by omega)) (ex_3 A A' 1 1)).mono ?_
  rintro e w4 ⟨rfl, ha, hb, hk⟩
  have HA4 := hide ha
  have HB4 := hide (HB3.out.trans hb)
  clear ha hb hk hc1 HA3 HB3
  have hlt := HA4.out.lt
  have HO : Hid (∀ x k x' k' g, OfH b cb mb 1 [exP A 1 x k, exP A' 1 x' k'] g → g < w4.heap.size) := hide (fun x k x' k' g h => hlt g (ofH_ex h))
  have hkx := ex_4 A A' 1 1
  clear hlt
  go_wp2_with fail
  refine (keys_any _ b cb mb 1 1 _ w4 HA4.out).mono ?_
  rintro e w5 ⟨v, rs, rfl, hkt, hm, hb⟩
  rw [hkx] at hm
  obtain ⟨Av, nv, cv, rfl⟩ : ∃ Av nv cv, v = .slice Av nv cv := by
    obtain ⟨A, c, e, _⟩ := owns_slice hkt.row
    exact ⟨_, _, _, e⟩
  have HK5 := hide hkt
  have HM := hide hm
  have HA5 := hide (HA4.out.below hb)
  have HB5 := hide (HB4.out.trans (hb.mono HB4.out.size))
  clear hkt hm hb hkx HA4 HB4
  have hc1 := hmk1 w5 99 w5.heap.size rfl
  have hc2 := hmk1 (mk1 w5 99) 122 (w5.heap.size + 1) (mk1_size _ _).symm
  have hz1 := mk1_size w5 99
  go_wp2_with fail
  refine (upd_ex 99 122 0 8 [exP A 1 120 (some [98]), exP A' 1 121 (some [97])] HA5.out HB5.out.size (byte_1 (by omega)) (ex_5 A A' 1 1) rfl).mono ?_
  rintro e w6 ⟨rfl, ha, hb, hk⟩
  have HA6 := hide ha
  have HB6 := hide (HB5.out.trans hb)
  have HK6 := hide (HK5.out.kept (F := fun g => w4.heap.size ≤ g) (hk.mono (fun g hg ho => by have := HO.out _ _ _ _ g ho; omega)) (fun g e => HK5.out.low g e) (fun r hr => (HK5.out.each r hr).2))
  clear HK5
  clear ha hb hk hc1 hc2 hz1 HA5 HB5
  have hc1 := hmk1 w6 98 w6.heap.size rfl
  go_wp2_with fail
  refine (del_ex 98 0 [exP A 1 120 none, exP A' 1 121 (some [97])] HA6.out HB6.out.size (byte_1 (by omega)) (ex_6 A A' 1 1).1 (ex_6 A A' 1 1).2).mono ?_
  rintro e w7 ⟨rfl, ha, hb, hk⟩
  have HA7 := hide ha
  have HB7 := hide (HB6.out.trans hb)
  have HK7 := hide (HK6.out.kept (F := fun g => w4.heap.size ≤ g) (hk.mono (fun g hg ho => by have := HO.out _ _ _ _ g ho; omega)) (fun g e => HK6.out.low g e) (fun r hr => (HK6.out.each r hr).2))
  clear HK6
  clear ha hb hk hc1 HA6 HB6
  have hc1 := hmk1 w7 99 w7.heap.size rfl
  have hc2 := hmk1 (mk1 w7 99) 122 (w7.heap.size + 1) (mk1_size _ _).symm
  have hz1 := mk1_size w7 99
  go_wp2_with fail
  refine (upd_ex 99 122 1 0 [exP A 1 122 (some [99]), exP A' 1 121 (some [97])] HA7.out HB7.out.size (byte_1 (by omega)) (ex_7 A A' 1 1).1 (ex_7 A A' 1 1).2).mono ?_
  rintro e w8 ⟨rfl, ha, hb, hk⟩
  have HA8 := hide ha
  have HB8 := hide (HB7.out.trans hb)
  have HK8 := hide (HK7.out.kept (F := fun g => w4.heap.size ≤ g) (hk.mono (fun g hg ho => by have := HO.out _ _ _ _ g ho; omega)) (fun g e => HK7.out.low g e) (fun r hr => (HK7.out.each r hr).2))
  clear HK7
  clear ha hb hk hc1 hc2 hz1 HA7 HB7
  have hc1 := hmk1 w8 99 w8.heap.size rfl
  go_wp2_with fail
  refine (look_ex 99 0 0 HA8.out HB8.out.size (byte_1 (by omega)) (ex_8 A A' 1 1)).mono ?_
  rintro e w9 ⟨rfl, ha, hb, hk⟩
  have HA9 := hide ha
  have HB9 := hide (HB8.out.trans hb)
  have HK9 := hide (HK8.out.kept (F := fun g => w4.heap.size ≤ g) (hk.mono (fun g hg ho => by have := HO.out _ _ _ _ g ho; omega)) (fun g e => HK8.out.low g e) (fun r hr => (HK8.out.each r hr).2))
  clear HK8
  clear ha hb hk hc1 HA8 HB8
  obtain ⟨hn, hrows⟩ := HK9.out.rows
  have hlr := lit_rows w9 97 98
  have hb1 := mk1_below w9 97
  have hb2 := mk1_below (mk1 w9 97) 98
  have hb3 := below1 (mk1 (mk1 w9 97) 98) (.cells #[.slice (some ⟨w9.heap.size, 0, none⟩) 1 1, .slice (some ⟨w9.heap.size + 1, 0, none⟩) 1 1] 34)
  have hz1 := mk1_size w9 97
  have hz2 := mk1_size (mk1 w9 97) 98
  have hb := hb1.trans ((hb2.trans (hb3.mono hb2.size)).mono hb1.size)
  have hml : (rs.map fun r => ints r.k) = [[97], [98]] := by
    have e : (rs.map fun r => ints r.k) = (rs.map KR.k).map ints := by rw [List.map_map]; rfl
    rw [e, HM.out]
    rfl
  have hrl : rs.length = 2 := by simpa using congrArg List.length hml
  rw [hml, hrl] at hrows
  rw [hrl] at hn
  subst hn
  have hc1 := hmk1 w9 97 w9.heap.size rfl
  have hc2 := hmk1 (mk1 w9 97) 98 (w9.heap.size + 1) (mk1_size _ _).symm
  generalize hW : (mk1 (mk1 w9 97) 98).alloc (.cells #[.slice (some ⟨w9.heap.size, 0, none⟩) 1 1, .slice (some ⟨w9.heap.size + 1, 0, none⟩) 1 1] 34) = W9 at *
  have hz3 : W9.heap.size = w9.heap.size + 3 := by rw [← hW]; simp; omega
  have hr1 := hrows.below (hb.mono (Nat.le_refl _))
  have HS := hide (sameRows_yes Av (some ⟨w9.heap.size + 2, 0, none⟩) 2 cv 2 (w9.heap.size + 3) [[97], [98]] _ _ W9 ⟨hr1.len, hr1.lev, hr1.rd.mono (by omega), fun i s l hi hl => ⟨(hr1.each i s l hi hl).1, (hr1.each i s l hi hl).2.mono (by omega)⟩⟩ hlr (by omega) (by omega) (by simp))
  have HA10 := hide (HA9.out.below hb)
  have HB10 := hide (HB9.out.trans (hb.mono HB9.out.size))
  clear hrows hlr hb1 hb2 hb3 hb hml hrl hr1 HK9 HM HA9 HB9 hz3
  subst hW
  go_wp2_with fail
  refine HS.out.mono ?_
  rintro e w10 ⟨rfl, hbq⟩
  have HA11 := hide (HA10.out.below hbq)
  have HB11 := hide (HB10.out.trans (hbq.mono HB10.out.size))
  clear hbq HS HA10 HB10 hc1 hc2 hz1 hz2
  have hc1 := hmk1 w10 98 w10.heap.size rfl
  have hc2 := hmk1 (mk1 w10 98) 122 (w10.heap.size + 1) (mk1_size _ _).symm
  have hz1 := mk1_size w10 98
  go_wp2_with fail
  refine (upd_ex 98 122 2 6 [exP A 1 122 (some [99]), exP A' 1 121 (some [97])] HA11.out HB11.out.size (byte_1 (by omega)) (ex_9 A A' 1 1) rfl).mono ?_
  rintro e w12 ⟨rfl, ha, hb, hk⟩
  have HB12 := hide (HB11.out.trans hb)
  clear ha hb hk hc1 hc2 hz1 HA11 HB11
  go_wp2_with fail
  go_ret
  exact ⟨rfl, HB12.out⟩
end Go.Proofs.YtolodcdhpnapmaaGreat
