/-
  Whatever is stored, loaded, read, written, each answer is the definition's: CellDoes' walk.
-/
import Derived.Test.YtkpoilcbdcddcaaD0
import Derived.Test.YtkpoilcbdcddcaaAP4
import Derived.Test.YtkpoilcbdcddcaaRT6
import Derived.Test.YtkpoilcbdcddcaaLK0
namespace Go.Proofs.Ytkpoilcbdcddcaa
open Go.RowKit
set_option linter.unusedVariables false
set_option linter.unusedSimpArgs false

theorem dparts {w : World} {B : Nat} {A : Option Addr} {m j : Nat} {ds : List ADeed} (h : ADeeds w B A m ds) (hj : j < m) : ∃ ad d, A = some ad ∧ ds[j]? = some d ∧ ad.block < B ∧ d.Is w B ∧
    w.cell? (ad.add (j * 8)) = some (.int .i64 d.what) ∧ w.cell? { block := (ad.add (j * 8)).block, off := (ad.add (j * 8)).off + 1 } = some (.int .i64 d.off) ∧ w.cell? { block := (ad.add (j * 8)).block, off := (ad.add (j * 8)).off + 2 } = some (.int .i64 d.size) ∧
    w.cell? { block := (ad.add (j * 8)).block, off := (ad.add (j * 8)).off + 3 } = some (.int .u8 d.c.k) ∧ w.cell? { block := (ad.add (j * 8)).block, off := (ad.add (j * 8)).off + 4 } = some (.int .u64 d.c.wd) ∧
    w.cell? { block := (ad.add (j * 8)).block, off := (ad.add (j * 8)).off + 5 } = some (.int .i64 d.c.rg) ∧ w.cell? { block := (ad.add (j * 8)).block, off := (ad.add (j * 8)).off + 6 } = some (.int .i64 d.c.of) ∧
    w.cell? { block := (ad.add (j * 8)).block, off := (ad.add (j * 8)).off + 7 } = some (.slice d.b.A d.b.n d.b.c) := by
  obtain ⟨ad, d, e, hd, hb, hc⟩ := h.cell hj
  have hp := fun t (ht : 0 < t) u (hu : d.cells[t]? = some u) => by
    have := hc t u hu
    rw [add_parts ad _ t ht] at this
    exact this
  exact ⟨ad, d, e, hd, hb, h.inner d (List.mem_of_getElem? hd), hc 0 _ rfl, hp 1 (by decide) _ rfl, hp 2 (by decide) _ rfl, hp 3 (by decide) _ rfl, hp 4 (by decide) _ rfl, hp 5 (by decide) _ rfl, hp 6 (by decide) _ rfl, hp 7 (by decide) _ rfl⟩
theorem kinds8 (x : Int) (h1 : -9223372036854775808 ≤ x) (h2 : x ≤ 9223372036854775807) (w : World) : Calls Try.prog 11 #[.int .i64 x, .int .i64 8] w fun e w' => e = .returned (.int .i64 (x % 8)) ∧ w = w' := pick_any x 8 w (by omega) (by omega) h1 h2
/-- Both stacks, the program's and the definition's, are one in plain words. -/
structure Both (w wr : World) (b r : Nat) (A : AS) : Prop where
  ps : PS wr b A
  rs : RSt wr r A
  ok : A.Ok
  below : Below w.heap.size w wr
theorem Both.later {w wr W : World} {b r : Nat} {A : AS} (h : Both w wr b r A) (hb : Below wr.heap.size wr W) : Both w W b r A :=
  ⟨h.ps.below hb, h.rs.below hb, h.ok, h.below.trans (hb.mono h.below.size)⟩
/-- What each operation of the region that writes into both leaves. -/
def TWo (b r D G n : Nat) (off E : Int) (bA : Option Addr) (bc : Nat) (j : Nat) (σ : Nat → Value) (_ : World) : Prop :=
  match j with
  | 0 => σ 0 = .pointer (some ⟨b, 0, none⟩)
  | 1 => σ 1 = .pointer (some ⟨D, 1, none⟩)
  | 2 => σ 2 = .int .i64 off
  | 3 => σ 3 = .slice (some ⟨G, 0, none⟩) n (n + 12)
  | 4 => σ 4 = .int .i64 E
  | 5 => σ 5 = .pointer (some ⟨r, 0, none⟩)
  | 6 => σ 6 = .pointer (some ⟨D, 1, none⟩)
  | 7 => σ 7 = .int .i64 off
  | 8 => σ 8 = .pointer (some ⟨D, 7, none⟩)
  | 9 => σ 9 = .slice bA n bc
  | 10 => σ 10 = .int .i64 E
  | 11 => σ 11 = .bool false
  | 12 => σ 12 = .bool false
  | 13 => σ 13 = .slice (some ⟨G, 0, none⟩) n (n + 12)
  | 14 => σ 14 = .pointer (some ⟨D, 7, none⟩)
  | 15 => σ 15 = .slice bA n bc
  | 16 => σ 16 = .bool true
  | 17 => σ 17 = .bool false
  | 18 => σ 18 = .bool false
  | _ => True
/-- Which of both has been written into. -/
def GWo (w : World) (b r D G n : Nat) (l : List Int) (A A' : AS) (cd : Array Value) (done : Nat → Bool) (W : World) : Prop :=
  PS W b (if done 4 = true then A' else A) ∧ RSt W r (if done 10 = true then A' else A) ∧ Below w.heap.size w W ∧ W.heap[D]? = some (.cells cd 39 (0, 0)) ∧ Row W G (n + 12) 5 1 (n + 12) (u8s l ++ marks (mkB 1) 12)
theorem GWo.same {w : World} {b r D G n : Nat} {l : List Int} {A A' : AS} {cd : Array Value} {M : Nat → Bool} {W : World} {j : Nat} (h : GWo w b r D G n l A A' cd M W) (h5 : j ≠ 4) (h12 : j ≠ 10) : GWo w b r D G n l A A' cd (fun k => M k || k == j) W := by
  unfold GWo at h ⊢
  have e5 : (4 == j) = false := by simpa using fun e => h5 e.symm
  have e12 : (10 == j) = false := by simpa using fun e => h12 e.symm
  simp only [e5, e12, Bool.or_false]
  exact h
theorem GWo.later {w : World} {b r D G n : Nat} {l : List Int} {A A' : AS} {cd : Array Value} {M : Nat → Bool} {W W' : World} (h : GWo w b r D G n l A A' cd M W) (hb : Below W.heap.size W W') : GWo w b r D G n l A A' cd M W' :=
  ⟨h.1.below hb, h.2.1.below hb, h.2.2.1.trans (hb.mono h.2.2.1.size), (hb.block _ (at_lt h.2.2.2.1)).trans h.2.2.2.1, row_below h.2.2.2.2 hb⟩
theorem row_front {w : World} {g n : Nat} {l : List Int} (h : Row w g (n + 12) 5 1 (n + 12) (u8s l ++ marks (mkB 1) 12)) (hl : l.length = n) : w.ownsRow 0 5 1 (.slice (some ⟨g, 0, none⟩) n (n + 12)) n (u8s l) := by
  rcases h.2 with ⟨h0, _⟩ | ⟨g', cap, cur, hv, hb, hg, hnc, hcm, hcs, htk⟩
  · cases h0
  · cases hv
    refine ⟨by simp [u8s, hl], .inr ⟨g, n + 12, cur, rfl, hb, hg, by omega, hcm, hcs, ?_⟩⟩
    have h1 : List.take (n * 1) (List.take ((n + 12) * 1) cur.toList) = List.take (n * 1) (u8s l ++ marks (mkB 1) 12) := by rw [htk]
    rw [List.take_take, Nat.min_eq_left (by omega), List.take_append_of_le_length (by simp [u8s, hl])] at h1
    rw [h1]
    exact List.take_of_length_le (by simp [u8s, hl])
theorem row_src {w : World} {g n b : Nat} {l : List Int} (h : Row w g (n + 12) 5 1 (n + 12) (u8s l ++ marks (mkB 1) 12)) (hl : l.length = n) (hne : g ≠ b) : Src w b (some ⟨g, 0, none⟩) n l := by
  obtain ⟨S, c, e, hrd⟩ := owns_slice (row_front h hl)
  cases e
  refine ⟨hl, fun hn => ?_⟩
  obtain ⟨ad, e2, h1, h2⟩ := hrd.2 hn
  cases e2
  exact ⟨_, rfl, hne, h1, h2⟩
theorem row_turn {w W : World} {g n b : Nat} {xs : List Value} (h : Row w g n 5 1 n xs) (ht : Turn b w W) (hne : g ≠ b) : Row W g n 5 1 n xs := by
  have hlt := row_lt h
  unfold Row at h ⊢
  refine ⟨h.1, ?_⟩
  rcases h.2 with h0 | ⟨g', cap, cur, hv, hb, hg, rest⟩
  · exact .inl h0
  · cases hv
    exact .inr ⟨g, n, cur, rfl, hb, (ht.block g hlt (fun e => hne (by injection e))).trans hg, rest⟩
/-- What each operation of the region that stores in both leaves. -/
def TDo (b r D : Nat) (off sz E : Int) (c : Value) (j : Nat) (σ : Nat → Value) (_ : World) : Prop :=
  match j with
  | 0 => σ 0 = .pointer (some ⟨b, 0, none⟩)
  | 1 => σ 1 = .pointer (some ⟨D, 1, none⟩)
  | 2 => σ 2 = .int .i64 off
  | 3 => σ 3 = .pointer (some ⟨D, 2, none⟩)
  | 4 => σ 4 = .int .i64 sz
  | 5 => σ 5 = .pointer (some ⟨D, 3, none⟩)
  | 6 => σ 6 = c
  | 7 => σ 7 = .int .i64 E
  | 8 => σ 8 = .pointer (some ⟨r, 0, none⟩)
  | 9 => σ 9 = .pointer (some ⟨D, 1, none⟩)
  | 10 => σ 10 = .int .i64 off
  | 11 => σ 11 = .pointer (some ⟨D, 2, none⟩)
  | 12 => σ 12 = .int .i64 sz
  | 13 => σ 13 = .pointer (some ⟨D, 3, none⟩)
  | 14 => σ 14 = c
  | 15 => σ 15 = .int .i64 E
  | 16 => σ 16 = .bool false
  | _ => True
/-- Which of both has been stored into. -/
def GDo (w : World) (b r D : Nat) (A A' : AS) (cd : Array Value) (done : Nat → Bool) (W : World) : Prop :=
  PS W b (if done 7 = true then A' else A) ∧ RSt W r (if done 15 = true then A' else A) ∧ Below w.heap.size w W ∧ W.heap[D]? = some (.cells cd 39 (0, 0))
theorem GDo.same {w : World} {b r D : Nat} {A A' : AS} {cd : Array Value} {M : Nat → Bool} {W : World} {j : Nat} (h : GDo w b r D A A' cd M W) (h5 : j ≠ 7) (h12 : j ≠ 15) : GDo w b r D A A' cd (fun k => M k || k == j) W := by
  unfold GDo at h ⊢
  have e5 : (7 == j) = false := by simpa using fun e => h5 e.symm
  have e12 : (15 == j) = false := by simpa using fun e => h12 e.symm
  simp only [e5, e12, Bool.or_false]
  exact h
theorem readM_len {A : AS} {off n : Int} {l : List Int} (h : (readM A off n).1 = some l) : n.toNat ≤ 512 := by
  unfold readM at h
  by_cases h1 : n < 0
  · omega
  · by_cases h2 : 512 < n
    · simp [h2] at h
    · omega
theorem read_same {v1 v2 : World} {B q : Nat} {P : Option (List Int)} {va vb : Value} (ha : ReadR v1 B q P va) (hb : RR v2 q P vb) (h12 : Below v1.heap.size v1 v2) (hq : ∀ l, P = some l → q ≤ 512) :
    Calls Try.prog 16 #[va, vb] v2 (fun e w' => e = .returned (.bool true) ∧ Below v2.heap.size v2 w') ∧ ∃ n xs, v2.ownsRow 0 5 1 va n xs ∧ n ≤ 1000000 ∧ ∀ g, va.ownBlock = some g → B ≤ g := by
  rcases ha with ⟨rfl, rfl⟩ | ⟨l, rfl, hown, hB⟩
  · rcases hb with ⟨_, rfl⟩ | ⟨l, S, c, h, _⟩
    · exact ⟨sameBytes_yes none none 0 0 0 v2.heap.size [] v2 Rd.nil Rd.nil (Nat.le_refl _) (by omega), 0, [], owns_nil v2 5 1, by omega, fun g hg => nomatch hg⟩
    · cases h
  · rcases hb with ⟨h, _⟩ | ⟨l', S, c, h, rfl, hrd⟩
    · cases h
    · cases h
      have hq2 := hq l rfl
      have hown2 := (Stays.of_below (B := 0) h12).owns hown
      obtain ⟨S1, c1, rfl, hrd1⟩ := owns_slice hown2
      exact ⟨sameBytes_yes S1 S q c1 c v2.heap.size l v2 hrd1 hrd (Nat.le_refl _) (by omega), q, u8s l, hown2, by omega, hB⟩
theorem Both.grown {w wr W : World} {b r : Nat} {A : AS} {g : Option Nat} (h : Both w wr b r A) (hg : wr.grownBy W g) (hk : ∀ k, g = some k → b ≠ k ∧ r ≠ k ∧ w.heap.size ≤ k) : Both w W b r A :=
  ⟨h.ps.same (hg.block _ h.ps.lt (fun e => (hk b e.symm).1 rfl)), h.rs.same (hg.block _ h.rs.lt (fun e => (hk r e.symm).2.1 rfl)), h.ok, h.below.grown hg h.below.size (fun k e => (hk k e).2.2)⟩
set_option maxRecDepth 8000 in
set_option maxHeartbeats 40000000 in
theorem law_cellDoes (A0 : Option Addr) (m c0_ : Nat) (ds : List ADeed) (w : World) (hD : ADeeds w w.heap.size A0 m ds) (hm : m ≤ 140737488351232) :
    Calls Try.prog 3 #[.slice A0 m c0_] w fun e w' => e = .returned (.bool true) ∧ Below w.heap.size w w' := by
  have HD := hide hD
  clear hD
  obtain ⟨p, hp, hz⟩ := zero36
  have hp2 : p = zcs.toArray := hp
  subst hp2
  clear hp
  go_enter Try.func3, Try.ntmps3
  go_wp2_with fail
  refine (awake_any _).mono ?_
  rintro e w1 ⟨rfl, hb⟩
  have HB1 := hide hb
  clear hb
  go_wp2_with fail
  refine (light_any A0 m c0_ w.heap.size ds w1 (HD.out.below HB1.out) hm).mono ?_
  rintro e w1' ⟨g, rfl, rfl, hg⟩
  cases g with
  | false =>
    clear hg
    go_wp2
    go_ret
    exact ⟨rfl, HB1.out⟩
  | true =>
  obtain ⟨hm60, hsm⟩ := hg rfl
  have HSM := hide hsm
  clear hg hsm
  go_wp2_with fail
  refine (new_any w1).mono ?_
  rintro e w2 ⟨rfl, hp, hb⟩
  have hz1 := HB1.out.size
  obtain ⟨b, hbe⟩ : ∃ b, b = w1.heap.size := ⟨_, rfl⟩
  have hbr : b < w2.heap.size := hbe ▸ hp.lt
  have hb2 := HB1.out.trans (hb.mono hz1)
  rw [← hbe] at hp hz1 ⊢
  clear hb hbe
  go_upto_region 6 with fail
  have hx := World.alloc_heap_new w2 (.cells zcs.toArray 36)
  have hw3 := below1 w2 (.cells zcs.toArray 36)
  generalize w2.alloc (.cells _ 36) = w3 at hx hw3 ⊢
  obtain ⟨r, hre⟩ : ∃ r, r = w2.heap.size := ⟨_, rfl⟩
  rw [← hre] at hx hbr ⊢
  have HBo := hide (show Both w w3 b r AS.none from ⟨hp.below hw3, ⟨_, hx, zrsl⟩, AS.Ok.none, hb2.trans (hw3.mono hb2.size)⟩)
  clear hp hb2 hx hw3 hre hz HB1
  go_wp2_with fail
  go_loopw [5] (fun a wr => ∃ (j : Nat) (A : AS), j ≤ m ∧ a = .int .i64 j ∧ Both w wr b r A) (fun a _ => m - (intOf a).toNat)
  case atStart => exact ⟨0, AS.none, Nat.zero_le _, rfl, HBo.out⟩
  case round =>
    obtain ⟨j, A, hj, rfl, hbo⟩ := hrel
    have HBr := hide hbo
    clear hbo HBo
    by_cases hjm : j < m
    · obtain ⟨ad, d, rfl, hd, hadb, his, k0, k1, k2, k3, k4, k5, k6, k7⟩ := dparts (HD.out.below HBr.out.below) hjm
      have e1 : decide ((j : Int) < (m : Int)) = true := decide_eq_true (by omega)
      have hsm := HSM.out d (List.mem_of_getElem? hd)
      have HIs := hide his
      have hdo := his.off
      have hds := his.size
      have hdw := his.what
      have HPk := hide (kinds8 d.what hdw.1 hdw.2)
      have hpm := Int.emod_nonneg d.what (b := 8) (by omega)
      have hpm2 := Int.emod_lt_of_pos d.what (b := 8) (by omega)
      obtain ⟨kk, hkk⟩ : ∃ kk, kk = d.what % 8 := ⟨_, rfl⟩
      rw [← hkk] at HPk hpm hpm2
      have HDm := hide (List.mem_of_getElem? hd)
      clear hd his hkk
      obtain ⟨dw, doff, dsz, ⟨dk, dwd, drg, dof⟩, ⟨bA, bn, bc, bbs⟩⟩ := d
      simp only at k0 k1 k2 k3 k4 k5 k6 k7 hdo hds hdw HPk hsm
      have hxd := World.alloc_heap_new wr (.cells #[.int .i64 dw, .int .i64 doff, .int .i64 dsz, .int .u8 dk, .int .u64 dwd, .int .i64 drg, .int .i64 dof, .slice bA bn bc] 39)
      have hwd := below1 wr (.cells #[.int .i64 dw, .int .i64 doff, .int .i64 dsz, .int .u8 dk, .int .u64 dwd, .int .i64 drg, .int .i64 dof, .slice bA bn bc] 39)
      go_upto_region 10 with fail
      generalize wr.alloc (.cells _ 39) = wd at hxd hwd ⊢
      have HBd := hide (HBr.out.later hwd)
      have HXd := hide hxd
      have hrD : r < wr.heap.size := HBr.out.rs.lt
      have hwD : w.heap.size ≤ wr.heap.size := HBr.out.below.size
      have x0 := blk_cell hxd 0
      have x1 := blk_cell hxd 1
      have x2 := blk_cell hxd 2
      have x3 := blk_cell hxd 3
      have x4 := blk_cell hxd 4
      have x5 := blk_cell hxd 5
      have x6 := blk_cell hxd 6
      have x7 := blk_cell hxd 7
      simp at x0 x1 x2 x3 x4 x5 x6 x7
      have hld := at_lt hxd
      clear hxd hwd k0 k1 k2 k3 k4 k5 k6 k7
      have hkk : kk = 4 ∨ kk = 5 ∨ kk = 6 ∨ kk = 7 ∨ (kk ≠ 4 ∧ kk ≠ 5 ∧ kk ≠ 6 ∧ kk ≠ 7) := by omega
      rcases hkk with rfl | rfl | rfl | rfl | ⟨q4, q5, q6, q7⟩
      · have H12p := fun W (h : Both w W b r A) => load_any b A doff dsz W h.ps h.ok hdo.2
        have H13p := fun W (h : Both w W b r A) => rload_any r A doff dsz W h.rs h.ok
        generalize loadM A doff dsz = P at H12p H13p
        obtain ⟨⟨pk, pw, pr, po⟩, pe⟩ := P
        simp only [C4.val] at H12p H13p
        have H12_p := hide H12p
        have H13_p := hide H13p
        clear H12p H13p
        go_upto_region 16 with (first | (go_at_call 11; refine (HPk.out _).mono ?_; rintro e v1 ⟨rfl, rfl⟩) | (go_at_call 12; refine (H12_p.out _ HBd.out).mono ?_; rintro e v1 ⟨rfl, hb⟩; have HV1 := hide (HBd.out.later hb); have XD1 := hide ((hb.block _ (at_lt HXd.out)).trans HXd.out); clear hb))
        have hx1 := World.alloc_heap_new v1 (.cells #[.int .u8 pk, .int .u64 pw, .int .i64 pr, .int .i64 po] 33)
        have hw1 := below1 v1 (.cells #[.int .u8 pk, .int .u64 pw, .int .i64 pr, .int .i64 po] 33)
        generalize v1.alloc (.cells _ 33) = u1 at hx1 hw1 ⊢
        obtain ⟨c1, hc1⟩ : ∃ c1, c1 = v1.heap.size := ⟨_, rfl⟩
        rw [← hc1] at hx1 ⊢
        have HU1 := hide (HV1.out.later hw1)
        have XD2 := hide ((hw1.block _ (at_lt XD1.out)).trans XD1.out)
        have XC1 := hide hx1
        clear hx1 hw1 hc1 x0 x1 x2 x3 x4 x5 x6 x7
        have x1 := blk_cell XD2.out 1
        have x2 := blk_cell XD2.out 2
        simp at x1 x2
        have hld2 := at_lt XD2.out
        go_upto_region 17 with (go_at_call 13; refine (H13_p.out _ HU1.out).mono ?_; rintro e v2 ⟨rfl, hb⟩; have HV2 := hide (HU1.out.later hb); have XC2 := hide ((hb.block _ (at_lt XC1.out)).trans XC1.out); clear hb)
        have hx2 := World.alloc_heap_new v2 (.cells #[.int .u8 pk, .int .u64 pw, .int .i64 pr, .int .i64 po] 33)
        have hw2 := below1 v2 (.cells #[.int .u8 pk, .int .u64 pw, .int .i64 pr, .int .i64 po] 33)
        generalize v2.alloc (.cells _ 33) = u2 at hx2 hw2 ⊢
        obtain ⟨c2, hc2⟩ : ∃ c2, c2 = v2.heap.size := ⟨_, rfl⟩
        rw [← hc2] at hx2 ⊢
        have HU2 := hide (HV2.out.later hw2)
        have XC3 := hide ((hw2.block _ (at_lt XC2.out)).trans XC2.out)
        have XE3 := hide hx2
        clear hx2 hw2 hc2 x1 x2
        have y0 := blk_cell XC3.out 0
        have z0 := blk_cell XE3.out 0
        have y1 := blk_cell XC3.out 1
        have z1 := blk_cell XE3.out 1
        have y2 := blk_cell XC3.out 2
        have z2 := blk_cell XE3.out 2
        have y3 := blk_cell XC3.out 3
        have z3 := blk_cell XE3.out 3
        simp at y0 y1 y2 y3 z0 z1 z2 z3
        have ly := at_lt XC3.out
        have lz := at_lt XE3.out
        have hn1 := fun W => neq33 W pk pw pr po pk pw pr po
        simp only [beq_self_eq_true, Bool.and_self, Bool.not_true] at hn1
        go_wp2_with fail
        go_roundw
        case rel => exact ⟨j + 1, A, by omega, by go_num, HU2.out⟩
        case measure => simp [intOf]; omega
      · have H12p := fun W (h : Both w W b r A) => load_any b A doff dsz W h.ps h.ok hdo.2
        have H13p := fun W (h : Both w W b r A) => rload_any r A doff dsz W h.rs h.ok
        generalize loadM A doff dsz = P at H12p H13p
        obtain ⟨⟨pk, pw, pr, po⟩, pe⟩ := P
        simp only [C4.val] at H12p H13p
        have H12_p := hide H12p
        have H13_p := hide H13p
        clear H12p H13p
        go_upto_region 16 with (first | (go_at_call 11; refine (HPk.out _).mono ?_; rintro e v1 ⟨rfl, rfl⟩) | (go_at_call 12; refine (H12_p.out _ HBd.out).mono ?_; rintro e v1 ⟨rfl, hb⟩; have HV1 := hide (HBd.out.later hb); have XD1 := hide ((hb.block _ (at_lt HXd.out)).trans HXd.out); clear hb))
        have hx1 := World.alloc_heap_new v1 (.cells #[.int .u8 pk, .int .u64 pw, .int .i64 pr, .int .i64 po] 33)
        have hw1 := below1 v1 (.cells #[.int .u8 pk, .int .u64 pw, .int .i64 pr, .int .i64 po] 33)
        generalize v1.alloc (.cells _ 33) = u1 at hx1 hw1 ⊢
        obtain ⟨c1, hc1⟩ : ∃ c1, c1 = v1.heap.size := ⟨_, rfl⟩
        rw [← hc1] at hx1 ⊢
        have HU1 := hide (HV1.out.later hw1)
        have XD2 := hide ((hw1.block _ (at_lt XD1.out)).trans XD1.out)
        have XC1 := hide hx1
        clear hx1 hw1 hc1 x0 x1 x2 x3 x4 x5 x6 x7
        have x1 := blk_cell XD2.out 1
        have x2 := blk_cell XD2.out 2
        simp at x1 x2
        have hld2 := at_lt XD2.out
        go_upto_region 17 with (go_at_call 13; refine (H13_p.out _ HU1.out).mono ?_; rintro e v2 ⟨rfl, hb⟩; have HV2 := hide (HU1.out.later hb); have XC2 := hide ((hb.block _ (at_lt XC1.out)).trans XC1.out); clear hb)
        have hx2 := World.alloc_heap_new v2 (.cells #[.int .u8 pk, .int .u64 pw, .int .i64 pr, .int .i64 po] 33)
        have hw2 := below1 v2 (.cells #[.int .u8 pk, .int .u64 pw, .int .i64 pr, .int .i64 po] 33)
        generalize v2.alloc (.cells _ 33) = u2 at hx2 hw2 ⊢
        obtain ⟨c2, hc2⟩ : ∃ c2, c2 = v2.heap.size := ⟨_, rfl⟩
        rw [← hc2] at hx2 ⊢
        have HU2 := hide (HV2.out.later hw2)
        have XC3 := hide ((hw2.block _ (at_lt XC2.out)).trans XC2.out)
        have XE3 := hide hx2
        clear hx2 hw2 hc2 x1 x2
        have y0 := blk_cell XC3.out 0
        have z0 := blk_cell XE3.out 0
        have y1 := blk_cell XC3.out 1
        have z1 := blk_cell XE3.out 1
        have y2 := blk_cell XC3.out 2
        have z2 := blk_cell XE3.out 2
        have y3 := blk_cell XC3.out 3
        have z3 := blk_cell XE3.out 3
        simp at y0 y1 y2 y3 z0 z1 z2 z3
        have ly := at_lt XC3.out
        have lz := at_lt XE3.out
        have hn1 := fun W => neq33 W pk pw pr po pk pw pr po
        simp only [beq_self_eq_true, Bool.and_self, Bool.not_true] at hn1
        go_wp2_with fail
        go_roundw
        case rel => exact ⟨j + 1, A, by omega, by go_num, HU2.out⟩
        case measure => simp [intOf]; omega
      · have H14 := fun W (h : Both w W b r A) => read_any b A doff dsz W h.ps hdo.2
        have H15 := fun W (h : Both w W b r A) => rread_any r A doff dsz W h.rs
        have hlen := fun l => readM_len (A := A) (off := doff) (n := dsz) (l := l)
        generalize readM A doff dsz = P at H14 H15 hlen
        obtain ⟨pl, pe⟩ := P
        have H_14 := hide H14
        have H_15 := hide H15
        have HLn := hide hlen
        clear H14 H15 hlen
        go_upto_region 21 with (first | (go_at_call 11; refine (HPk.out _).mono ?_; rintro e v1 ⟨rfl, rfl⟩) | (go_at_call 14; refine (H_14.out _ HBd.out).mono ?_; rintro e v1 ⟨va, rfl, hra, hb⟩; have HV1 := hide (HBd.out.later hb); have XD1 := hide ((hb.block _ (at_lt HXd.out)).trans HXd.out); have HRa := hide hra; have HDv := hide hb; clear hb hra))
        clear x0 x1 x2 x3 x4 x5 x6 x7
        have x1 := blk_cell XD1.out 1
        have x2 := blk_cell XD1.out 2
        simp at x1 x2
        have hld2 := at_lt XD1.out
        go_upto_region 22 with (go_at_call 15; refine (H_15.out _ HV1.out).mono ?_; rintro e v2 ⟨vb, rfl, hrb, hb⟩; have HV2 := hide (HV1.out.later hb); have HRb := hide hrb; have HB12 := hide hb; clear hb hrb)
        clear x1 x2
        obtain ⟨hsame, n, xs, hown, hn, hge⟩ := read_same HRa.out HRb.out HB12.out HLn.out
        have HSame := hide hsame
        have HOwn := hide hown
        have HGe := hide hge
        clear hsame hown hge
        go_upto_region 24 with (go_at_call 16; refine (HSame.out).mono ?_; rintro e v3 ⟨rfl, hb⟩; have HV3 := hide (HV2.out.later hb); have HB23 := hide hb; clear hb)
        have HOv := hide (over_any va n xs v3 ((Stays.of_below (B := 0) HB23.out).owns HOwn.out) hn)
        go_wp2_with (first | (go_at_call 17; refine (HOv.out).mono ?_; rintro e v4 ⟨rfl, hg⟩; have HV4 := hide (HV3.out.grown hg (fun k hk => by have h1 := HGe.out k hk; have h2 := HBd.out.ps.lt; have h3 := HBd.out.rs.lt; have h4 := HBd.out.below.size; omega)); clear hg) | fail)
        go_roundw
        case rel => exact ⟨j + 1, A, by omega, by go_num, HV4.out⟩
        case measure => simp [intOf]; omega
      · have hP19 := fun W h hs => write_any b A doff (some ⟨wd.heap.size, 0, none⟩) bn (bn + 12) bbs W h hs (by omega) hdo.2
        have hP20 := fun W h hs => rwrite_any r A doff bA bn bc bbs W h HBr.out.ok HIs.out.byte hs
        have hok' := writeM_ok HBr.out.ok doff bbs HIs.out.byte
        generalize writeM A doff bbs = P at hP19 hP20 hok'
        obtain ⟨E, A'⟩ := P
        simp only at hP19 hP20 hok'
        have HP19 := hide hP19
        have HP20 := hide hP20
        have HOK' := hide hok'
        clear hP19 hP20 hok'
        have hbl6 : bbs.length = bn := by have := HIs.out.rd.1; simpa [u8s] using this
        have HLn := hide hbl6
        clear hbl6
        have HAW : Hid (∀ W, Below w.heap.size w W → Rd W w.heap.size 1 bA bn (u8s bbs)) := hide (fun W h => ((HD.out.below h).inner _ HDm.out).rd)
        have HNil : Hid (bA = none → bn = 0) := hide (fun h => by
          by_cases h0 : bn = 0
          · exact h0
          · obtain ⟨ad2, e2, _⟩ := HIs.out.rd.2 (show 0 < bn by omega)
            exact absurd (h.symm.trans e2) nofun)
        have hww : w.heap.size ≤ w.heap.size := Nat.le_refl _
        have hwb := hz1
        have hwr : w.heap.size ≤ r := by omega
        have hDG : wr.heap.size < wd.heap.size := hld
        have hGb : wd.heap.size ≠ b := by omega
        have hGr : wd.heap.size ≠ r := by omega
        have hLB := lentBytes_any bA bn bc w.heap.size bbs wd (HAW.out wd HBd.out.below) HNil.out HBd.out.below.size (by omega)
        have HLB := hide hLB
        clear hLB
        go_upto_region 27 with (first | (go_at_call 11; refine (HPk.out _).mono ?_; rintro e v1 ⟨rfl, rfl⟩) | (go_at_call 18; refine (HLB.out).mono ?_; rintro e v1 ⟨rfl, hrow, hb⟩; have HV1 := hide (HBd.out.later hb); have HRow := hide hrow; have XD1 := hide ((hb.block _ (at_lt HXd.out)).trans HXd.out); clear hb hrow))
        rename_i K hK
        have hE19 : ∀ args (W : World), (callFunc 19 args).run Try.prog W = .ok (.enter 19 args) W := by intro args W; kernel_rfl
        have hE20 : ∀ args (W : World), (callFunc 20 args).run Try.prog W = .ok (.enter 20 args) W := by intro args W; kernel_rfl
        have hE21 : ∀ args (W : World), (callFunc 21 args).run Try.prog W = .ok (.enter 21 args) W := by intro args W; kernel_rfl
        refine wp_tells6 (by kernel_rfl) (TWo b r wr.heap.size wd.heap.size bn doff E bA bc) (GWo w b r wr.heap.size wd.heap.size bn bbs A A' #[.int .i64 dw, .int .i64 doff, .int .i64 dsz, .int .u8 dk, .int .u64 dwd, .int .i64 drg, .int .i64 dof, .slice bA bn bc]) (by kernel_rfl) (by kernel_rfl) ?_ (by kernel_rfl) ?_ ?_ ?_ ?_
        · intro i o j c ho hgd
          have hi : i < 19 := (Array.getElem?_eq_some_iff.1 ho).1
          have hi' : i = 0 ∨ i = 1 ∨ i = 2 ∨ i = 3 ∨ i = 4 ∨ i = 5 ∨ i = 6 ∨ i = 7 ∨ i = 8 ∨ i = 9 ∨ i = 10 ∨ i = 11 ∨ i = 12 ∨ i = 13 ∨ i = 14 ∨ i = 15 ∨ i = 16 ∨ i = 17 ∨ i = 18 := by omega
          rcases hi' with rfl | rfl | rfl | rfl | rfl | rfl | rfl | rfl | rfl | rfl | rfl | rfl | rfl | rfl | rfl | rfl | rfl | rfl | rfl
          all_goals
            cases ho
            first
              | (cases hgd; exact ⟨by kernel_rfl, fun σ W h => h⟩)
              | cases hgd
        · intro j oj σ σ' W hj h hs
          have h0 := hs j (.inl rfl)
          have hi : j < 19 := (Array.getElem?_eq_some_iff.1 hj).1
          have hi' : j = 0 ∨ j = 1 ∨ j = 2 ∨ j = 3 ∨ j = 4 ∨ j = 5 ∨ j = 6 ∨ j = 7 ∨ j = 8 ∨ j = 9 ∨ j = 10 ∨ j = 11 ∨ j = 12 ∨ j = 13 ∨ j = 14 ∨ j = 15 ∨ j = 16 ∨ j = 17 ∨ j = 18 := by omega
          rcases hi' with rfl | rfl | rfl | rfl | rfl | rfl | rfl | rfl | rfl | rfl | rfl | rfl | rfl | rfl | rfl | rfl | rfl | rfl | rfl
          all_goals (simp only [TWo] at h ⊢; rw [h0]; exact h)
        · exact ⟨HV1.out.ps.below (Below.refl _ _).drew, HV1.out.rs.below (Below.refl _ _).drew, HV1.out.below.trans ((Below.refl _ _).drew.mono HV1.out.below.size), XD1.out, row_below HRow.out (Below.refl _ _).drew⟩
        · intro i o ho M a W hi hG hold hT hh
          have hi2 : i < 19 := (Array.getElem?_eq_some_iff.1 ho).1
          have hi' : i = 0 ∨ i = 1 ∨ i = 2 ∨ i = 3 ∨ i = 4 ∨ i = 5 ∨ i = 6 ∨ i = 7 ∨ i = 8 ∨ i = 9 ∨ i = 10 ∨ i = 11 ∨ i = 12 ∨ i = 13 ∨ i = 14 ∨ i = 15 ∨ i = 16 ∨ i = 17 ∨ i = 18 := by omega
          rcases hi' with rfl | rfl | rfl | rfl | rfl | rfl | rfl | rfl | rfl | rfl | rfl | rfl | rfl | rfl | rfl | rfl | rfl | rfl | rfl
          · cases ho
            refine step2_told (.pointer (some ⟨b, 0, none⟩)) ?_ (by decide) (hG.same (by decide) (by decide)) hT rfl
            have e0 : a.eval (.tmp 3) = .pointer (some ⟨b, 0, none⟩) := hold 3 (by kernel_rfl)
            generalize a.eval = ev at e0 ⊢
            simp [execOp, go_sem, e0]
          · cases ho
            refine step2_told (.pointer (some ⟨wr.heap.size, 1, none⟩)) ?_ (by decide) (hG.same (by decide) (by decide)) hT rfl
            have e0 : a.eval (.tmp 6) = .pointer (some ⟨wr.heap.size, 0, none⟩) := hold 6 (by kernel_rfl)
            generalize a.eval = ev at e0 ⊢
            simp [execOp, go_sem, e0]
          · cases ho
            refine step2_told (.int .i64 doff) ?_ (by decide) (hG.same (by decide) (by decide)) hT rfl
            have e0 : a.eval (.tmp 129) = .pointer (some ⟨wr.heap.size, 1, none⟩) := hT 1 (hh 1 rfl)
            have dx1 : W.cell? ⟨wr.heap.size, 1, none⟩ = some _ := (blk_cell hG.2.2.2.1 1).trans rfl
            generalize a.eval = ev at e0 ⊢
            simp [execOp, go_sem, e0, dx1]
          · cases ho
            refine step2_told (.slice (some ⟨wd.heap.size, 0, none⟩) bn (bn + 12)) ?_ (by decide) (hG.same (by decide) (by decide)) hT rfl
            have e0 : a.eval (.tmp 15) = .slice (some ⟨wd.heap.size, 0, none⟩) bn (bn + 12) := hold 15 (by kernel_rfl)
            generalize a.eval = ev at e0 ⊢
            simp [execOp, go_sem, e0]
          · cases ho
            have e0 : a.eval (.tmp 128) = .pointer (some ⟨b, 0, none⟩) := hT 0 (hh 0 rfl)
            have e1 : a.eval (.tmp 130) = .int .i64 doff := hT 2 (hh 2 rfl)
            have e2 : a.eval (.tmp 131) = .slice (some ⟨wd.heap.size, 0, none⟩) bn (bn + 12) := hT 3 (hh 3 rfl)
            obtain ⟨g1, g2, g3, g4, g5⟩ := hG
            rw [if_neg (by simp [hi])] at g1
            have hcall := HP19.out W g1 (row_src g5 HLn.out hGb)
            refine step2_called (R := fun u W' => u = .int .i64 E ∧ PS W' b A' ∧ Turn b W W') ?_ (by decide) ((hcall).mono ?_) ?_
            · have ef : a.eval (.func 19) = .func (.func 19) #[] #[] := rfl
              generalize a.eval = ev at e0 e1 e2 ef ⊢
              simp [execOp, go_sem, e0, e1, e2, ef, hE19]
            · rintro e W' ⟨h1, h2⟩
              exact ⟨_, h1, rfl, h2⟩
            · rintro u W' ⟨rfl, hm', hk'⟩
              refine ⟨⟨by simpa using hm', ?_, hk'.below g3 hwb hww, (hk'.block _ (at_lt g4) (fun e => by injection e; omega)).trans g4, row_turn g5 hk' hGb⟩, hT, rfl⟩
              have := g2.same (hk'.block _ g2.lt (fun e => by injection e; omega))
              simpa using this
          · cases ho
            refine step2_told (.pointer (some ⟨r, 0, none⟩)) ?_ (by decide) (hG.same (by decide) (by decide)) hT rfl
            have e0 : a.eval (.tmp 4) = .pointer (some ⟨r, 0, none⟩) := hold 4 (by kernel_rfl)
            generalize a.eval = ev at e0 ⊢
            simp [execOp, go_sem, e0]
          · cases ho
            refine step2_told (.pointer (some ⟨wr.heap.size, 1, none⟩)) ?_ (by decide) (hG.same (by decide) (by decide)) hT rfl
            have e0 : a.eval (.tmp 6) = .pointer (some ⟨wr.heap.size, 0, none⟩) := hold 6 (by kernel_rfl)
            generalize a.eval = ev at e0 ⊢
            simp [execOp, go_sem, e0]
          · cases ho
            refine step2_told (.int .i64 doff) ?_ (by decide) (hG.same (by decide) (by decide)) hT rfl
            have e0 : a.eval (.tmp 134) = .pointer (some ⟨wr.heap.size, 1, none⟩) := hT 6 (hh 6 rfl)
            have dx1 : W.cell? ⟨wr.heap.size, 1, none⟩ = some _ := (blk_cell hG.2.2.2.1 1).trans rfl
            generalize a.eval = ev at e0 ⊢
            simp [execOp, go_sem, e0, dx1]
          · cases ho
            refine step2_told (.pointer (some ⟨wr.heap.size, 7, none⟩)) ?_ (by decide) (hG.same (by decide) (by decide)) hT rfl
            have e0 : a.eval (.tmp 6) = .pointer (some ⟨wr.heap.size, 0, none⟩) := hold 6 (by kernel_rfl)
            generalize a.eval = ev at e0 ⊢
            simp [execOp, go_sem, e0]
          · cases ho
            refine step2_told (.slice bA bn bc) ?_ (by decide) (hG.same (by decide) (by decide)) hT rfl
            have e0 : a.eval (.tmp 136) = .pointer (some ⟨wr.heap.size, 7, none⟩) := hT 8 (hh 8 rfl)
            have dx7 : W.cell? ⟨wr.heap.size, 7, none⟩ = some _ := (blk_cell hG.2.2.2.1 7).trans rfl
            generalize a.eval = ev at e0 ⊢
            simp [execOp, go_sem, e0, dx7]
          · cases ho
            have e0 : a.eval (.tmp 133) = .pointer (some ⟨r, 0, none⟩) := hT 5 (hh 5 rfl)
            have e1 : a.eval (.tmp 135) = .int .i64 doff := hT 7 (hh 7 rfl)
            have e2 : a.eval (.tmp 137) = .slice bA bn bc := hT 9 (hh 9 rfl)
            obtain ⟨g1, g2, g3, g4, g5⟩ := hG
            rw [if_neg (c := M 10 = true) (by simp [hi])] at g2
            have hcall := HP20.out W g2 ((HAW.out W g3).src hwr g3.size)
            refine step2_called (R := fun u W' => u = .int .i64 E ∧ RSt W' r A' ∧ Turn r W W') ?_ (by decide) ((hcall).mono ?_) ?_
            · have ef : a.eval (.func 20) = .func (.func 20) #[] #[] := rfl
              generalize a.eval = ev at e0 e1 e2 ef ⊢
              simp [execOp, go_sem, e0, e1, e2, ef, hE20]
            · rintro e W' ⟨h1, h2⟩
              exact ⟨_, h1, rfl, h2⟩
            · rintro u W' ⟨rfl, hm', hk'⟩
              refine ⟨⟨?_, by simpa using hm', hk'.below g3 hwr hww, (hk'.block _ (at_lt g4) (fun e => by injection e; omega)).trans g4, row_turn g5 hk' hGr⟩, hT, rfl⟩
              have := g1.same (hk'.block _ g1.lt (fun e => by injection e; omega))
              simpa using this
          · cases ho
            refine step2_told (.bool false) ?_ (by decide) (hG.same (by decide) (by decide)) hT rfl
            have e0 : a.eval (.tmp 132) = .int .i64 E := hT 4 (hh 4 rfl)
            have e1 : a.eval (.tmp 138) = .int .i64 E := hT 10 (hh 10 rfl)
            generalize a.eval = ev at e0 e1 ⊢
            simp [execOp, go_sem, e0, e1]
          · cases ho
            refine step2_told (.bool false) ?_ (by decide) (hG.same (by decide) (by decide)) hT rfl
            have e0 : a.eval (.tmp 139) = .bool false := hT 11 (hh 11 rfl)
            generalize a.eval = ev at e0 ⊢
            simp [execOp, go_sem, e0]
          · cases ho
            refine step2_told (.slice (some ⟨wd.heap.size, 0, none⟩) bn (bn + 12)) ?_ (by decide) (hG.same (by decide) (by decide)) hT rfl
            have e0 : a.eval (.tmp 15) = .slice (some ⟨wd.heap.size, 0, none⟩) bn (bn + 12) := hold 15 (by kernel_rfl)
            generalize a.eval = ev at e0 ⊢
            simp [execOp, go_sem, e0]
          · cases ho
            refine step2_told (.pointer (some ⟨wr.heap.size, 7, none⟩)) ?_ (by decide) (hG.same (by decide) (by decide)) hT rfl
            have e0 : a.eval (.tmp 6) = .pointer (some ⟨wr.heap.size, 0, none⟩) := hold 6 (by kernel_rfl)
            generalize a.eval = ev at e0 ⊢
            simp [execOp, go_sem, e0]
          · cases ho
            refine step2_told (.slice bA bn bc) ?_ (by decide) (hG.same (by decide) (by decide)) hT rfl
            have e0 : a.eval (.tmp 142) = .pointer (some ⟨wr.heap.size, 7, none⟩) := hT 14 (hh 14 rfl)
            have dx7 : W.cell? ⟨wr.heap.size, 7, none⟩ = some _ := (blk_cell hG.2.2.2.1 7).trans rfl
            generalize a.eval = ev at e0 ⊢
            simp [execOp, go_sem, e0, dx7]
          · cases ho
            have e0 : a.eval (.tmp 141) = .slice (some ⟨wd.heap.size, 0, none⟩) bn (bn + 12) := hT 13 (hh 13 rfl)
            have e1 : a.eval (.tmp 143) = .slice bA bn bc := hT 15 (hh 15 rfl)
            obtain ⟨g1, g2, g3, g4, g5⟩ := hG
            have hcall := keptBytes_any wd.heap.size bA bn bc w.heap.size bbs W (HAW.out W g3) g3.size g5 (by omega)
            refine step2_called (R := fun u W' => u = .bool true ∧ Below W.heap.size W W') ?_ (by decide) ((hcall).mono ?_) ?_
            · have ef : a.eval (.func 21) = .func (.func 21) #[] #[] := rfl
              generalize a.eval = ev at e0 e1 ef ⊢
              simp [execOp, go_sem, e0, e1, ef, hE21]
            · rintro e W' ⟨h1, h2⟩
              exact ⟨_, h1, rfl, h2⟩
            · rintro u W' ⟨rfl, hb'⟩
              exact ⟨(GWo.later (show GWo w b r wr.heap.size wd.heap.size bn bbs A A' #[.int .i64 dw, .int .i64 doff, .int .i64 dsz, .int .u8 dk, .int .u64 dwd, .int .i64 drg, .int .i64 dof, .slice bA bn bc] M W from ⟨g1, g2, g3, g4, g5⟩) hb').same (by decide) (by decide), hT, rfl⟩
          · cases ho
            refine step2_told (.bool false) ?_ (by decide) (hG.same (by decide) (by decide)) hT rfl
            have e0 : a.eval (.tmp 144) = .bool true := hT 16 (hh 16 rfl)
            generalize a.eval = ev at e0 ⊢
            simp [execOp, go_sem, e0]
          · cases ho
            refine step2_told (.bool false) ?_ (by decide) (hG.same (by decide) (by decide)) hT rfl
            have e0 : a.eval (.tmp 140) = .bool false := hT 12 (hh 12 rfl)
            have e1 : a.eval (.tmp 145) = .bool false := hT 17 (hh 17 rfl)
            generalize a.eval = ev at e0 e1 ⊢
            simp [execOp, go_sem, e0, e1]
        · intro a W hd hs hold hT hG
          have e13 : a.tmps.getD 146 undef = .bool false := hT 18 (by decide)
          obtain ⟨g1, g2, g3, g4, g5⟩ := hG
          rw [if_pos (by decide)] at g1 g2
          have HEnd := hide (show Both w W b r A' from ⟨g1, g2, HOK'.out, g3⟩)
          have HRow2 := hide g5
          obtain ⟨f, hf, ha⟩ := act_puts [128, 129, 130, 131, 132, 133, 134, 135, 136, 137, 138, 139, 140, 141, 142, 143, 144, 145, 146] (fun t ht => by
            by_cases h : t ∈ [128, 129, 130, 131, 132, 133, 134, 135, 136, 137, 138, 139, 140, 141, 142, 143, 144, 145, 146]
            · exact h
            · exfalso
              simp [unwritten] at ht
              simp only [List.mem_cons, not_or] at h
              obtain ⟨h1, h2, h3, h4, h5, h6, h7, h8, h9, h10, h11, h12, h13, h14, h15, h16, h17, h18, h19, _⟩ := h
              exact absurd (ht (fun e => h1 e.symm) (fun e => h2 e.symm) (fun e => h3 e.symm) (fun e => h4 e.symm) (fun e => h5 e.symm) (fun e => h6 e.symm) (fun e => h7 e.symm) (fun e => h8 e.symm) (fun e => h9 e.symm) (fun e => h10 e.symm) (fun e => h11 e.symm) (fun e => h12 e.symm) (fun e => h13 e.symm) (fun e => h14 e.symm) (fun e => h15 e.symm) (fun e => h16 e.symm) (fun e => h17 e.symm) (fun e => h18 e.symm)) (fun e => h19 e.symm)) (fun t ht => by
            have hsz : t < 197 := by
              simp only [List.mem_cons, List.mem_nil_iff, or_false] at ht
              omega
            exact hsz) hd hs hold
          have e146 : f 146 = .bool false := (hf 146).trans e13
          subst ha
          clear hd hs hold hT hf e13 g1 g2 g3 g4 g5
          show K _ _
          refine hK _ _ ?_
          simp only [List.foldl_cons, List.foldl_nil, e146]
          obtain ⟨u128, hu128⟩ : ∃ u, u = f 128 := ⟨_, rfl⟩
          obtain ⟨u129, hu129⟩ : ∃ u, u = f 129 := ⟨_, rfl⟩
          obtain ⟨u130, hu130⟩ : ∃ u, u = f 130 := ⟨_, rfl⟩
          obtain ⟨u131, hu131⟩ : ∃ u, u = f 131 := ⟨_, rfl⟩
          obtain ⟨u132, hu132⟩ : ∃ u, u = f 132 := ⟨_, rfl⟩
          obtain ⟨u133, hu133⟩ : ∃ u, u = f 133 := ⟨_, rfl⟩
          obtain ⟨u134, hu134⟩ : ∃ u, u = f 134 := ⟨_, rfl⟩
          obtain ⟨u135, hu135⟩ : ∃ u, u = f 135 := ⟨_, rfl⟩
          obtain ⟨u136, hu136⟩ : ∃ u, u = f 136 := ⟨_, rfl⟩
          obtain ⟨u137, hu137⟩ : ∃ u, u = f 137 := ⟨_, rfl⟩
          obtain ⟨u138, hu138⟩ : ∃ u, u = f 138 := ⟨_, rfl⟩
          obtain ⟨u139, hu139⟩ : ∃ u, u = f 139 := ⟨_, rfl⟩
          obtain ⟨u140, hu140⟩ : ∃ u, u = f 140 := ⟨_, rfl⟩
          obtain ⟨u141, hu141⟩ : ∃ u, u = f 141 := ⟨_, rfl⟩
          obtain ⟨u142, hu142⟩ : ∃ u, u = f 142 := ⟨_, rfl⟩
          obtain ⟨u143, hu143⟩ : ∃ u, u = f 143 := ⟨_, rfl⟩
          obtain ⟨u144, hu144⟩ : ∃ u, u = f 144 := ⟨_, rfl⟩
          obtain ⟨u145, hu145⟩ : ∃ u, u = f 145 := ⟨_, rfl⟩
          rw [← hu128, ← hu129, ← hu130, ← hu131, ← hu132, ← hu133, ← hu134, ← hu135, ← hu136, ← hu137, ← hu138, ← hu139, ← hu140, ← hu141, ← hu142, ← hu143, ← hu144, ← hu145]
          clear hu128 hu129 hu130 hu131 hu132 hu133 hu134 hu135 hu136 hu137 hu138 hu139 hu140 hu141 hu142 hu143 hu144 hu145 e146
          have HOv := hide (over_any _ bn _ W (row_front HRow2.out HLn.out) (by omega))
          go_simp
          go_wp2_with (first | (go_at_call 17; refine (HOv.out).mono ?_; rintro e v4 ⟨rfl, hg⟩; have HV4 := hide (HEnd.out.grown hg (fun k hk => by cases hk; exact ⟨fun e => hGb e.symm, fun e => hGr e.symm, HBd.out.below.size⟩)); clear hg) | fail)
          go_roundw
          case rel => exact ⟨j + 1, A', by omega, by go_num, HV4.out⟩
          case measure => simp [intOf]; omega
      · have q4' : (kk == 4) = false := by simpa using q4
        have q5' : (kk == 5) = false := by simpa using q5
        have q6' : (kk == 6) = false := by simpa using q6
        have q7' : (kk == 7) = false := by simpa using q7
        have hP22 := fun W h => store_any b A doff dsz ⟨dk, dwd, drg, dof⟩ W h hdo.2 HIs.out.fits.k HIs.out.fits.wd
        have hP23 := fun W h => rstore_any r A doff dsz ⟨dk, dwd, drg, dof⟩ W h HBr.out.ok HIs.out.fits.wd
        have hok' := storeM_ok HBr.out.ok doff dsz ⟨dk, dwd, drg, dof⟩
        generalize storeM A doff dsz ⟨dk, dwd, drg, dof⟩ = P at hP22 hP23 hok'
        obtain ⟨E, A'⟩ := P
        simp only [C4.val] at hP22 hP23 hok'
        have HP22 := hide hP22
        have HP23 := hide hP23
        have HOK' := hide hok'
        clear hP22 hP23 hok'
        have hwb := hz1
        have hww : w.heap.size ≤ w.heap.size := Nat.le_refl _
        have hwr : w.heap.size ≤ r := by omega
        go_wp2_with (first | (go_at_call 11; refine (HPk.out _).mono ?_; rintro e v1 ⟨rfl, rfl⟩) | fail)
        rename_i K hK
        have hE22 : ∀ args (W : World), (callFunc 22 args).run Try.prog W = .ok (.enter 22 args) W := by intro args W; kernel_rfl
        have hE23 : ∀ args (W : World), (callFunc 23 args).run Try.prog W = .ok (.enter 23 args) W := by intro args W; kernel_rfl
        refine wp_tells2 (by kernel_rfl) (TDo b r wr.heap.size doff dsz E (.agg #[.int .u8 dk, .int .u64 dwd, .int .i64 drg, .int .i64 dof])) (GDo w b r wr.heap.size A A' #[.int .i64 dw, .int .i64 doff, .int .i64 dsz, .int .u8 dk, .int .u64 dwd, .int .i64 drg, .int .i64 dof, .slice bA bn bc]) (by kernel_rfl) (by kernel_rfl) (by kernel_rfl) (by kernel_rfl) ?_ ?_ ?_ ?_
        · intro j oj σ σ' W hj h hs
          have h0 := hs j (.inl rfl)
          have hi : j < 17 := (Array.getElem?_eq_some_iff.1 hj).1
          have hi' : j = 0 ∨ j = 1 ∨ j = 2 ∨ j = 3 ∨ j = 4 ∨ j = 5 ∨ j = 6 ∨ j = 7 ∨ j = 8 ∨ j = 9 ∨ j = 10 ∨ j = 11 ∨ j = 12 ∨ j = 13 ∨ j = 14 ∨ j = 15 ∨ j = 16 := by omega
          rcases hi' with rfl | rfl | rfl | rfl | rfl | rfl | rfl | rfl | rfl | rfl | rfl | rfl | rfl | rfl | rfl | rfl | rfl
          all_goals (simp only [TDo] at h ⊢; rw [h0]; exact h)
        · exact ⟨HBd.out.ps.below (Below.refl _ _).drew, HBd.out.rs.below (Below.refl _ _).drew, HBd.out.below.trans ((Below.refl _ _).drew.mono HBd.out.below.size), HXd.out⟩
        · intro i o ho M a W hi hG hold hT hh
          have hi2 : i < 17 := (Array.getElem?_eq_some_iff.1 ho).1
          have hi' : i = 0 ∨ i = 1 ∨ i = 2 ∨ i = 3 ∨ i = 4 ∨ i = 5 ∨ i = 6 ∨ i = 7 ∨ i = 8 ∨ i = 9 ∨ i = 10 ∨ i = 11 ∨ i = 12 ∨ i = 13 ∨ i = 14 ∨ i = 15 ∨ i = 16 := by omega
          rcases hi' with rfl | rfl | rfl | rfl | rfl | rfl | rfl | rfl | rfl | rfl | rfl | rfl | rfl | rfl | rfl | rfl | rfl
          · cases ho
            refine step2_told (.pointer (some ⟨b, 0, none⟩)) ?_ (by decide) (hG.same (by decide) (by decide)) hT rfl
            have e0 : a.eval (.tmp 3) = .pointer (some ⟨b, 0, none⟩) := hold 3 (by kernel_rfl)
            generalize a.eval = ev at e0 ⊢
            simp [execOp, go_sem, e0]
          · cases ho
            refine step2_told (.pointer (some ⟨wr.heap.size, 1, none⟩)) ?_ (by decide) (hG.same (by decide) (by decide)) hT rfl
            have e0 : a.eval (.tmp 6) = .pointer (some ⟨wr.heap.size, 0, none⟩) := hold 6 (by kernel_rfl)
            generalize a.eval = ev at e0 ⊢
            simp [execOp, go_sem, e0]
          · cases ho
            refine step2_told (.int .i64 doff) ?_ (by decide) (hG.same (by decide) (by decide)) hT rfl
            have e0 : a.eval (.tmp 47) = .pointer (some ⟨wr.heap.size, 1, none⟩) := hT 1 (hh 1 rfl)
            have dx1 : W.cell? ⟨wr.heap.size, 1, none⟩ = some _ := (blk_cell hG.2.2.2 1).trans rfl
            generalize a.eval = ev at e0 ⊢
            simp [execOp, go_sem, e0, dx1]
          · cases ho
            refine step2_told (.pointer (some ⟨wr.heap.size, 2, none⟩)) ?_ (by decide) (hG.same (by decide) (by decide)) hT rfl
            have e0 : a.eval (.tmp 6) = .pointer (some ⟨wr.heap.size, 0, none⟩) := hold 6 (by kernel_rfl)
            generalize a.eval = ev at e0 ⊢
            simp [execOp, go_sem, e0]
          · cases ho
            refine step2_told (.int .i64 dsz) ?_ (by decide) (hG.same (by decide) (by decide)) hT rfl
            have e0 : a.eval (.tmp 49) = .pointer (some ⟨wr.heap.size, 2, none⟩) := hT 3 (hh 3 rfl)
            have dx2 : W.cell? ⟨wr.heap.size, 2, none⟩ = some _ := (blk_cell hG.2.2.2 2).trans rfl
            generalize a.eval = ev at e0 ⊢
            simp [execOp, go_sem, e0, dx2]
          · cases ho
            refine step2_told (.pointer (some ⟨wr.heap.size, 3, none⟩)) ?_ (by decide) (hG.same (by decide) (by decide)) hT rfl
            have e0 : a.eval (.tmp 6) = .pointer (some ⟨wr.heap.size, 0, none⟩) := hold 6 (by kernel_rfl)
            generalize a.eval = ev at e0 ⊢
            simp [execOp, go_sem, e0]
          · cases ho
            refine step2_told (.agg #[.int .u8 dk, .int .u64 dwd, .int .i64 drg, .int .i64 dof]) ?_ (by decide) (hG.same (by decide) (by decide)) hT rfl
            have e0 : a.eval (.tmp 51) = .pointer (some ⟨wr.heap.size, 3, none⟩) := hT 5 (hh 5 rfl)
            have dx3 : W.cell? ⟨wr.heap.size, 3, none⟩ = some _ := (blk_cell hG.2.2.2 3).trans rfl
            have dx4 : W.cell? ⟨wr.heap.size, 4, none⟩ = some _ := (blk_cell hG.2.2.2 4).trans rfl
            have dx5 : W.cell? ⟨wr.heap.size, 5, none⟩ = some _ := (blk_cell hG.2.2.2 5).trans rfl
            have dx6 : W.cell? ⟨wr.heap.size, 6, none⟩ = some _ := (blk_cell hG.2.2.2 6).trans rfl
            generalize a.eval = ev at e0 ⊢
            simp [execOp, go_sem, e0, dx3, dx4, dx5, dx6]
          · cases ho
            have e0 : a.eval (.tmp 46) = .pointer (some ⟨b, 0, none⟩) := hT 0 (hh 0 rfl)
            have e1 : a.eval (.tmp 48) = .int .i64 doff := hT 2 (hh 2 rfl)
            have e2 : a.eval (.tmp 50) = .int .i64 dsz := hT 4 (hh 4 rfl)
            have e3 : a.eval (.tmp 52) = .agg #[.int .u8 dk, .int .u64 dwd, .int .i64 drg, .int .i64 dof] := hT 6 (hh 6 rfl)
            obtain ⟨g1, g2, g3, g4⟩ := hG
            rw [if_neg (by simp [hi])] at g1
            refine step2_called (R := fun u W' => u = .int .i64 E ∧ PS W' b A' ∧ Turn b W W') ?_ (by decide) ((HP22.out W g1).mono ?_) ?_
            · have ef : a.eval (.func 22) = .func (.func 22) #[] #[] := rfl
              generalize a.eval = ev at e0 e1 e2 e3 ef ⊢
              simp [execOp, go_sem, e0, e1, e2, e3, ef, hE22]
            · rintro e W' ⟨h1, h2⟩
              exact ⟨_, h1, rfl, h2⟩
            · rintro u W' ⟨rfl, hm', hk'⟩
              refine ⟨?_, hT, rfl⟩
              refine ⟨by simpa using hm', ?_, hk'.below g3 hwb hww, (hk'.block _ (at_lt g4) (fun e => by injection e; omega)).trans g4⟩
              have := g2.same (hk'.block _ g2.lt (fun e => by injection e; omega))
              simpa using this
          · cases ho
            refine step2_told (.pointer (some ⟨r, 0, none⟩)) ?_ (by decide) (hG.same (by decide) (by decide)) hT rfl
            have e0 : a.eval (.tmp 4) = .pointer (some ⟨r, 0, none⟩) := hold 4 (by kernel_rfl)
            generalize a.eval = ev at e0 ⊢
            simp [execOp, go_sem, e0]
          · cases ho
            refine step2_told (.pointer (some ⟨wr.heap.size, 1, none⟩)) ?_ (by decide) (hG.same (by decide) (by decide)) hT rfl
            have e0 : a.eval (.tmp 6) = .pointer (some ⟨wr.heap.size, 0, none⟩) := hold 6 (by kernel_rfl)
            generalize a.eval = ev at e0 ⊢
            simp [execOp, go_sem, e0]
          · cases ho
            refine step2_told (.int .i64 doff) ?_ (by decide) (hG.same (by decide) (by decide)) hT rfl
            have e0 : a.eval (.tmp 55) = .pointer (some ⟨wr.heap.size, 1, none⟩) := hT 9 (hh 9 rfl)
            have dx1 : W.cell? ⟨wr.heap.size, 1, none⟩ = some _ := (blk_cell hG.2.2.2 1).trans rfl
            generalize a.eval = ev at e0 ⊢
            simp [execOp, go_sem, e0, dx1]
          · cases ho
            refine step2_told (.pointer (some ⟨wr.heap.size, 2, none⟩)) ?_ (by decide) (hG.same (by decide) (by decide)) hT rfl
            have e0 : a.eval (.tmp 6) = .pointer (some ⟨wr.heap.size, 0, none⟩) := hold 6 (by kernel_rfl)
            generalize a.eval = ev at e0 ⊢
            simp [execOp, go_sem, e0]
          · cases ho
            refine step2_told (.int .i64 dsz) ?_ (by decide) (hG.same (by decide) (by decide)) hT rfl
            have e0 : a.eval (.tmp 57) = .pointer (some ⟨wr.heap.size, 2, none⟩) := hT 11 (hh 11 rfl)
            have dx2 : W.cell? ⟨wr.heap.size, 2, none⟩ = some _ := (blk_cell hG.2.2.2 2).trans rfl
            generalize a.eval = ev at e0 ⊢
            simp [execOp, go_sem, e0, dx2]
          · cases ho
            refine step2_told (.pointer (some ⟨wr.heap.size, 3, none⟩)) ?_ (by decide) (hG.same (by decide) (by decide)) hT rfl
            have e0 : a.eval (.tmp 6) = .pointer (some ⟨wr.heap.size, 0, none⟩) := hold 6 (by kernel_rfl)
            generalize a.eval = ev at e0 ⊢
            simp [execOp, go_sem, e0]
          · cases ho
            refine step2_told (.agg #[.int .u8 dk, .int .u64 dwd, .int .i64 drg, .int .i64 dof]) ?_ (by decide) (hG.same (by decide) (by decide)) hT rfl
            have e0 : a.eval (.tmp 59) = .pointer (some ⟨wr.heap.size, 3, none⟩) := hT 13 (hh 13 rfl)
            have dx3 : W.cell? ⟨wr.heap.size, 3, none⟩ = some _ := (blk_cell hG.2.2.2 3).trans rfl
            have dx4 : W.cell? ⟨wr.heap.size, 4, none⟩ = some _ := (blk_cell hG.2.2.2 4).trans rfl
            have dx5 : W.cell? ⟨wr.heap.size, 5, none⟩ = some _ := (blk_cell hG.2.2.2 5).trans rfl
            have dx6 : W.cell? ⟨wr.heap.size, 6, none⟩ = some _ := (blk_cell hG.2.2.2 6).trans rfl
            generalize a.eval = ev at e0 ⊢
            simp [execOp, go_sem, e0, dx3, dx4, dx5, dx6]
          · cases ho
            have e0 : a.eval (.tmp 54) = .pointer (some ⟨r, 0, none⟩) := hT 8 (hh 8 rfl)
            have e1 : a.eval (.tmp 56) = .int .i64 doff := hT 10 (hh 10 rfl)
            have e2 : a.eval (.tmp 58) = .int .i64 dsz := hT 12 (hh 12 rfl)
            have e3 : a.eval (.tmp 60) = .agg #[.int .u8 dk, .int .u64 dwd, .int .i64 drg, .int .i64 dof] := hT 14 (hh 14 rfl)
            obtain ⟨g1, g2, g3, g4⟩ := hG
            rw [if_neg (c := M 15 = true) (by simp [hi])] at g2
            refine step2_called (R := fun u W' => u = .int .i64 E ∧ RSt W' r A' ∧ Turn r W W') ?_ (by decide) ((HP23.out W g2).mono ?_) ?_
            · have ef : a.eval (.func 23) = .func (.func 23) #[] #[] := rfl
              generalize a.eval = ev at e0 e1 e2 e3 ef ⊢
              simp [execOp, go_sem, e0, e1, e2, e3, ef, hE23]
            · rintro e W' ⟨h1, h2⟩
              exact ⟨_, h1, rfl, h2⟩
            · rintro u W' ⟨rfl, hm', hk'⟩
              refine ⟨?_, hT, rfl⟩
              refine ⟨?_, by simpa using hm', hk'.below g3 hwr hww, (hk'.block _ (at_lt g4) (fun e => by injection e; omega)).trans g4⟩
              have := g1.same (hk'.block _ g1.lt (fun e => by injection e; omega))
              simpa using this
          · cases ho
            refine step2_told (.bool false) ?_ (by decide) (hG.same (by decide) (by decide)) hT rfl
            have e0 : a.eval (.tmp 53) = .int .i64 E := hT 7 (hh 7 rfl)
            have e1 : a.eval (.tmp 61) = .int .i64 E := hT 15 (hh 15 rfl)
            generalize a.eval = ev at e0 e1 ⊢
            simp [execOp, go_sem, e0, e1]
        · intro a W hd hs hold hT hG
          have e13 : a.tmps.getD 62 undef = .bool false := hT 16 (by decide)
          obtain ⟨g1, g2, g3, g4⟩ := hG
          rw [if_pos (by decide)] at g1 g2
          have HEnd := hide (show Both w W b r A' from ⟨g1, g2, HOK'.out, g3⟩)
          obtain ⟨f, hf, ha⟩ := act_puts [46, 47, 48, 49, 50, 51, 52, 53, 54, 55, 56, 57, 58, 59, 60, 61, 62] (fun t ht => by
            by_cases h : t ∈ [46, 47, 48, 49, 50, 51, 52, 53, 54, 55, 56, 57, 58, 59, 60, 61, 62]
            · exact h
            · exfalso
              simp [unwritten] at ht
              simp only [List.mem_cons, not_or] at h
              obtain ⟨h1, h2, h3, h4, h5, h6, h7, h8, h9, h10, h11, h12, h13, h14, h15, h16, h17, _⟩ := h
              exact absurd (ht (fun e => h1 e.symm) (fun e => h2 e.symm) (fun e => h3 e.symm) (fun e => h4 e.symm) (fun e => h5 e.symm) (fun e => h6 e.symm) (fun e => h7 e.symm) (fun e => h8 e.symm) (fun e => h9 e.symm) (fun e => h10 e.symm) (fun e => h11 e.symm) (fun e => h12 e.symm) (fun e => h13 e.symm) (fun e => h14 e.symm) (fun e => h15 e.symm) (fun e => h16 e.symm)) (fun e => h17 e.symm)) (fun t ht => by
            have hsz : t < 197 := by
              simp only [List.mem_cons, List.mem_nil_iff, or_false] at ht
              omega
            exact hsz) hd hs hold
          have e62 : f 62 = .bool false := (hf 62).trans e13
          subst ha
          clear hd hs hold hT hf e13 g1 g2 g3 g4
          show K _ _
          refine hK _ _ ?_
          simp only [List.foldl_cons, List.foldl_nil, e62]
          obtain ⟨u46, hu46⟩ : ∃ u, u = f 46 := ⟨_, rfl⟩
          obtain ⟨u47, hu47⟩ : ∃ u, u = f 47 := ⟨_, rfl⟩
          obtain ⟨u48, hu48⟩ : ∃ u, u = f 48 := ⟨_, rfl⟩
          obtain ⟨u49, hu49⟩ : ∃ u, u = f 49 := ⟨_, rfl⟩
          obtain ⟨u50, hu50⟩ : ∃ u, u = f 50 := ⟨_, rfl⟩
          obtain ⟨u51, hu51⟩ : ∃ u, u = f 51 := ⟨_, rfl⟩
          obtain ⟨u52, hu52⟩ : ∃ u, u = f 52 := ⟨_, rfl⟩
          obtain ⟨u53, hu53⟩ : ∃ u, u = f 53 := ⟨_, rfl⟩
          obtain ⟨u54, hu54⟩ : ∃ u, u = f 54 := ⟨_, rfl⟩
          obtain ⟨u55, hu55⟩ : ∃ u, u = f 55 := ⟨_, rfl⟩
          obtain ⟨u56, hu56⟩ : ∃ u, u = f 56 := ⟨_, rfl⟩
          obtain ⟨u57, hu57⟩ : ∃ u, u = f 57 := ⟨_, rfl⟩
          obtain ⟨u58, hu58⟩ : ∃ u, u = f 58 := ⟨_, rfl⟩
          obtain ⟨u59, hu59⟩ : ∃ u, u = f 59 := ⟨_, rfl⟩
          obtain ⟨u60, hu60⟩ : ∃ u, u = f 60 := ⟨_, rfl⟩
          obtain ⟨u61, hu61⟩ : ∃ u, u = f 61 := ⟨_, rfl⟩
          rw [← hu46, ← hu47, ← hu48, ← hu49, ← hu50, ← hu51, ← hu52, ← hu53, ← hu54, ← hu55, ← hu56, ← hu57, ← hu58, ← hu59, ← hu60, ← hu61]
          clear hu46 hu47 hu48 hu49 hu50 hu51 hu52 hu53 hu54 hu55 hu56 hu57 hu58 hu59 hu60 hu61 e62
          go_simp
          go_wp2_with fail
          go_roundw
          case rel => exact ⟨j + 1, A', by omega, by go_num, HEnd.out⟩
          case measure => simp [intOf]; omega
    · have hje : j = m := by omega
      subst hje
      clear hj hjm
      go_wp2_with fail
      go_loopw [16] (fun a W => ∃ t : Nat, t ≤ 64 ∧ a = .int .i64 (8 * (t : Int)) ∧ Both w W b r A) (fun a _ => 512 - (intOf a).toNat)
      case atStart => exact ⟨0, Nat.zero_le _, rfl, HBr.out⟩
      case round =>
        obtain ⟨t, ht, rfl, hbo⟩ := hrel
        have HB40 := hide hbo
        clear hbo HBr
        by_cases ht64 : t < 64
        · have H12p := fun W (h : Both w W b r A) => load_any b A (8 * (t : Int)) 8 W h.ps h.ok (by omega)
          have H13p := fun W (h : Both w W b r A) => rload_any r A (8 * (t : Int)) 8 W h.rs h.ok
          have H12q := fun W (h : Both w W b r A) => load_any b A (8 * (t : Int) + 3) 1 W h.ps h.ok (by omega)
          have H13q := fun W (h : Both w W b r A) => rload_any r A (8 * (t : Int) + 3) 1 W h.rs h.ok
          generalize loadM A (8 * (t : Int)) 8 = P at H12p H13p
          generalize loadM A (8 * (t : Int) + 3) 1 = R at H12q H13q
          obtain ⟨⟨pk, pw, pr, po⟩, pe⟩ := P
          obtain ⟨⟨qk, qw, qr, qo⟩, qe⟩ := R
          simp only [C4.val] at H12p H13p H12q H13q
          have H12_p := hide H12p
          have H13_p := hide H13p
          have H12_q := hide H12q
          have H13_q := hide H13q
          clear H12p H13p H12q H13q
          go_upto_region 34 with (go_at_call 12; refine (H12_p.out _ HB40.out).mono ?_; rintro e v41 ⟨rfl, hb⟩; have HV41 := hide (HB40.out.later hb); clear hb)
          have hx41 := World.alloc_heap_new v41 (.cells #[.int .u8 pk, .int .u64 pw, .int .i64 pr, .int .i64 po] 33)
          have hw41 := below1 v41 (.cells #[.int .u8 pk, .int .u64 pw, .int .i64 pr, .int .i64 po] 33)
          generalize v41.alloc (.cells _ 33) = w41 at hx41 hw41 ⊢
          obtain ⟨b41, hb41⟩ : ∃ b41, b41 = v41.heap.size := ⟨_, rfl⟩
          rw [← hb41] at hx41 ⊢
          have HB41 := hide (HV41.out.later hw41)
          have K41_41b := hide hx41
          clear hx41 hw41 hb41
          go_upto_region 35 with (go_at_call 13; refine (H13_p.out _ HB41.out).mono ?_; rintro e v42 ⟨rfl, hb⟩; have HV42 := hide (HB41.out.later hb); have K41_42 := hide ((hb.block _ (at_lt K41_41b.out)).trans K41_41b.out); clear hb)
          have hx42 := World.alloc_heap_new v42 (.cells #[.int .u8 pk, .int .u64 pw, .int .i64 pr, .int .i64 po] 33)
          have hw42 := below1 v42 (.cells #[.int .u8 pk, .int .u64 pw, .int .i64 pr, .int .i64 po] 33)
          generalize v42.alloc (.cells _ 33) = w42 at hx42 hw42 ⊢
          obtain ⟨b42, hb42⟩ : ∃ b42, b42 = v42.heap.size := ⟨_, rfl⟩
          rw [← hb42] at hx42 ⊢
          have HB42 := hide (HV42.out.later hw42)
          have K41_42b := hide ((hw42.block _ (at_lt K41_42.out)).trans K41_42.out)
          have K42_42b := hide hx42
          clear hx42 hw42 hb42
          go_upto_region 36 with (go_at_call 12; refine (H12_q.out _ HB42.out).mono ?_; rintro e v43 ⟨rfl, hb⟩; have HV43 := hide (HB42.out.later hb); have K41_43 := hide ((hb.block _ (at_lt K41_42b.out)).trans K41_42b.out); have K42_43 := hide ((hb.block _ (at_lt K42_42b.out)).trans K42_42b.out); clear hb)
          have hx43 := World.alloc_heap_new v43 (.cells #[.int .u8 qk, .int .u64 qw, .int .i64 qr, .int .i64 qo] 33)
          have hw43 := below1 v43 (.cells #[.int .u8 qk, .int .u64 qw, .int .i64 qr, .int .i64 qo] 33)
          generalize v43.alloc (.cells _ 33) = w43 at hx43 hw43 ⊢
          obtain ⟨b43, hb43⟩ : ∃ b43, b43 = v43.heap.size := ⟨_, rfl⟩
          rw [← hb43] at hx43 ⊢
          have HB43 := hide (HV43.out.later hw43)
          have K41_43b := hide ((hw43.block _ (at_lt K41_43.out)).trans K41_43.out)
          have K42_43b := hide ((hw43.block _ (at_lt K42_43.out)).trans K42_43.out)
          have K43_43b := hide hx43
          clear hx43 hw43 hb43
          go_upto_region 37 with (go_at_call 13; refine (H13_q.out _ HB43.out).mono ?_; rintro e v44 ⟨rfl, hb⟩; have HV44 := hide (HB43.out.later hb); have K41_44 := hide ((hb.block _ (at_lt K41_43b.out)).trans K41_43b.out); have K42_44 := hide ((hb.block _ (at_lt K42_43b.out)).trans K42_43b.out); have K43_44 := hide ((hb.block _ (at_lt K43_43b.out)).trans K43_43b.out); clear hb)
          have hx44 := World.alloc_heap_new v44 (.cells #[.int .u8 qk, .int .u64 qw, .int .i64 qr, .int .i64 qo] 33)
          have hw44 := below1 v44 (.cells #[.int .u8 qk, .int .u64 qw, .int .i64 qr, .int .i64 qo] 33)
          generalize v44.alloc (.cells _ 33) = w44 at hx44 hw44 ⊢
          obtain ⟨b44, hb44⟩ : ∃ b44, b44 = v44.heap.size := ⟨_, rfl⟩
          rw [← hb44] at hx44 ⊢
          have HB44 := hide (HV44.out.later hw44)
          have K41_44b := hide ((hw44.block _ (at_lt K41_44.out)).trans K41_44.out)
          have K42_44b := hide ((hw44.block _ (at_lt K42_44.out)).trans K42_44.out)
          have K43_44b := hide ((hw44.block _ (at_lt K43_44.out)).trans K43_44.out)
          have K44_44b := hide hx44
          clear hx44 hw44 hb44
          have x410 := blk_cell K41_44b.out 0
          have x411 := blk_cell K41_44b.out 1
          have x412 := blk_cell K41_44b.out 2
          have x413 := blk_cell K41_44b.out 3
          have x420 := blk_cell K42_44b.out 0
          have x421 := blk_cell K42_44b.out 1
          have x422 := blk_cell K42_44b.out 2
          have x423 := blk_cell K42_44b.out 3
          have x430 := blk_cell K43_44b.out 0
          have x431 := blk_cell K43_44b.out 1
          have x432 := blk_cell K43_44b.out 2
          have x433 := blk_cell K43_44b.out 3
          have x440 := blk_cell K44_44b.out 0
          have x441 := blk_cell K44_44b.out 1
          have x442 := blk_cell K44_44b.out 2
          have x443 := blk_cell K44_44b.out 3
          simp at x410 x411 x412 x413 x420 x421 x422 x423 x430 x431 x432 x433 x440 x441 x442 x443
          have l41 := at_lt K41_44b.out
          have l42 := at_lt K42_44b.out
          have l43 := at_lt K43_44b.out
          have l44 := at_lt K44_44b.out
          have hn1 := fun W => neq33 W pk pw pr po pk pw pr po
          have hn2 := fun W => neq33 W qk qw qr qo qk qw qr qo
          simp only [beq_self_eq_true, Bool.and_self, Bool.not_true] at hn1 hn2
          go_wp2
          go_roundw
          case rel => exact ⟨t + 1, by omega, by go_num, HB44.out⟩
          case measure => simp [intOf]; omega
        · have hte : t = 64 := by omega
          subst hte
          go_wp2
          go_ret
          exact ⟨rfl, HB40.out.below⟩
end Go.Proofs.Ytkpoilcbdcddcaa
