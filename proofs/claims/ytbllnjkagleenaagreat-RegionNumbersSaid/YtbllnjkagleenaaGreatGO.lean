/-
  Deeds that came in; are they too many? Bytes that were lent are written over.
-/
import Derived.Test.YtbllnjkagleenaaGreatRF3
import Derived.Test.YtbllnjkagleenaaGreatN4
import Derived.Test.YtbllnjkagleenaaGreatF2
namespace Go.Proofs.YtbllnjkagleenaaGreat
open Go.RowKit
set_option linter.unusedVariables false

structure ADo where
  what : Int
  region : Int
  kind : Int
  off : Int
  size : Int
  b : ARow
def ADo.cells (d : ADo) : List Value := [.int .i64 d.what, .int .i64 d.region, .int .u8 d.kind, .int .i64 d.off, .int .i64 d.size, .slice d.b.A d.b.n d.b.c]
structure ADo.Is (w : World) (B : Nat) (d : ADo) : Prop where
  rd : Rd w B 1 d.b.A d.b.n (u8s d.b.bs)
  nil : d.b.A = none → d.b.n = 0
  le : d.b.n ≤ 140737488351232
  what : wfI d.what
  region : wfI d.region
  off : wfI d.off
  size : wfI d.size
/-- Deeds that came in. -/
structure ADos (w : World) (B : Nat) (A : Option Addr) (m : Nat) (ds : List ADo) : Prop where
  outer : Rd w B 6 A m (ds.flatMap ADo.cells)
  inner : ∀ d ∈ ds, d.Is w B
theorem ADos.below {w w' : World} {B : Nat} {A : Option Addr} {m : Nat} {ds : List ADo} (h : ADos w B A m ds) (hb : Below B w w') : ADos w' B A m ds :=
  ⟨h.outer.below hb, fun d hd => ⟨(h.inner d hd).rd.below hb, (h.inner d hd).nil, (h.inner d hd).le, (h.inner d hd).what, (h.inner d hd).region, (h.inner d hd).off, (h.inner d hd).size⟩⟩
theorem ADos.len {w : World} {B : Nat} {A : Option Addr} {m : Nat} {ds : List ADo} (h : ADos w B A m ds) : ds.length = m := by
  have h1 := h.outer.1
  rw [flat_length ADo.cells 6 (fun _ => rfl)] at h1
  omega
theorem ADos.cell {w : World} {B : Nat} {A : Option Addr} {m j : Nat} {ds : List ADo} (h : ADos w B A m ds) (hj : j < m) : ∃ ad d, A = some ad ∧ ds[j]? = some d ∧ ad.block < B ∧
    ∀ t u, d.cells[t]? = some u → w.cell? (ad.add (j * 6 + t)) = some u := by
  obtain ⟨ad, e, hb, hc⟩ := h.outer.2 (by omega)
  have hl := h.len
  have hr : ds[j]? = some ds[j] := List.getElem?_eq_getElem (by omega)
  refine ⟨ad, ds[j], e, hr, hb, fun t u hu => hc _ u ?_⟩
  have ht : t < 6 := by
    have := (List.getElem?_eq_some_iff.1 hu).1
    simpa [ADo.cells] using this
  rw [flat_at ADo.cells 6 (fun _ => rfl) ds j t ht, hr]
  exact hu
/-- Of the first j deeds none has many bytes. -/
def Small (ds : List ADo) (j nn : Nat) : Prop := ∀ (i : Nat) (d : ADo), i < j → ds[i]? = some d → d.b.n / 40 ≤ nn
theorem Small.next {ds : List ADo} {j nn : Nat} {d : ADo} (h : Small ds j nn) (hd : ds[j]? = some d) : Small ds (j + 1) (nn + d.b.n / 40) := fun i e hi he => by
  by_cases hij : i = j
  · subst hij
    rw [hd] at he
    injection he with he
    subst he
    omega
  · have := h i e (by omega) he
    omega
set_option maxRecDepth 100000 in
set_option maxHeartbeats 1000000 in
theorem great_any (A : Option Addr) (m c B : Nat) (ds : List ADo) (w : World) (h : ADos w B A m ds) (hm : m ≤ 140737488351232) :
    Calls Tryz.prog 10 #[.slice A m c] w fun e w' => ∃ g : Bool, e = .returned (.bool g) ∧ w = w' ∧ (g = false → m ≤ 400 ∧ ∀ d ∈ ds, d.b.n ≤ 20000) := by
  have HH := hide h
  clear h
  go_enter Tryz.func10, Tryz.ntmps10
  go_wp2
  go_loopw [3, 4] (fun a b wr => ∃ j nn : Nat, j ≤ m ∧ m ≤ nn ∧ nn ≤ 281474976710656 ∧ a = .int .i64 nn ∧ b = .int .i64 j ∧ wr = w ∧ Small ds j nn) (fun _ b _ => m - (intOf b).toNat)
  case atStart => exact ⟨0, m, Nat.zero_le _, Nat.le_refl _, by omega, rfl, rfl, rfl, fun i d hi => by omega⟩
  case round =>
    obtain ⟨j, nn, hj, hmn, hnn, rfl, rfl, rfl, hs⟩ := hrel
    have HS := hide hs
    clear hs
    by_cases hgo : j < m ∧ nn ≤ 400
    · obtain ⟨hjm, hn4⟩ := hgo
      obtain ⟨ad, d, rfl, hd, _, hc⟩ := HH.out.cell hjm
      have c5 := hc 5 _ rfl
      rw [add_parts ad _ 5 (by decide)] at c5
      have hle := (HH.out.inner d (List.mem_of_getElem? hd)).le
      have HD := hide hd
      clear hd hc
      go_wp2
      go_roundw
      case rel => exact ⟨j + 1, nn + d.b.n / 40, by omega, by omega, by omega, by go_num, by go_num, trivial, HS.out.next HD.out⟩
      case measure => simp [intOf]; omega
    · by_cases hbig : 400 < nn
      · by_cases hjm : j < m
        · clear hgo
          go_wp2
          go_ret
          exact ⟨true, rfl, rfl, nofun⟩
        · have hjm2 : j = m := by omega
          subst hjm2
          clear hgo
          go_wp2
          go_ret
          exact ⟨decide ((400 : Int) < nn), rfl, rfl, fun h => by simp at h; omega⟩
      · have hjm2 : j = m := by omega
        subst hjm2
        clear hgo
        have hl := HH.out.len
        go_wp2
        go_ret
        exact ⟨decide ((400 : Int) < nn), rfl, rfl, fun _ => ⟨by omega, fun d hd => by
          obtain ⟨i, hi⟩ := List.mem_iff_getElem?.1 hd
          have h1 := (List.getElem?_eq_some_iff.1 hi).1
          have := HS.out i d (by omega) hi
          omega⟩⟩
set_option maxRecDepth 100000 in
set_option maxHeartbeats 1000000 in
theorem over_any (g n : Nat) (xs : List Value) (w : World) (h : Row w g (n + 12) 5 1 (n + 12) xs) (hn : n ≤ 1000000) :
    Calls Tryz.prog 26 #[.slice (some ⟨g, 0, none⟩) n (n + 12)] w fun e w' => e = .returned (.tuple #[]) ∧ Kept (fun b => b ≠ g) w w' := by
  have HR := hide h
  clear h
  have hcut : ∀ W, (Instr.slice 26 (.slice (some ⟨g, 0, none⟩) n (n + 12)) none (some (.int .i64 ((n : Int) + 12))) none).run Tryz.prog W = .ok (.slice (some ⟨g, 0, none⟩) (n + 12) (n + 12)) W := fun W => cut_head (some ⟨g, 0, none⟩) n (n + 12) (n + 12) (by omega) W
  have hmin : min ((n : Int) + 12) ((n : Int) + 12) = (n : Int) + 12 := by omega
  have hcw := hcut w
  clear hcut
  go_enter Tryz.func26, Tryz.ntmps26
  go_wp2
  go_loopw [3] (fun u wr => ∃ k : Nat, k ≤ n + 12 ∧ u = .int .i64 k ∧ (∃ ys, Row wr g (n + 12) 5 1 (n + 12) ys) ∧ Kept (fun b => b ≠ g) w wr) (fun u _ => n + 12 - (intOf u).toNat)
  case atStart => exact ⟨0, Nat.zero_le _, rfl, ⟨_, HR.out⟩, Kept.refl _ _⟩
  case round =>
    obtain ⟨k, hk, rfl, ⟨ys, hy⟩, hkk⟩ := hrel
    have HY := hide hy
    have HK := hide hkk
    clear hy hkk HR hcw hmin
    by_cases hlt : k < n + 12
    · obtain ⟨u, _, cu⟩ := owns_at HY.out (show k < (n + 12) * 1 by omega)
      have hf : wr.frozen? ⟨g, k, none⟩ = false := owns_free HY.out k
      go_wp2_with (go_at_call 33; refine (markByte_any 2 k (by omega) (by omega) _).mono ?_; rintro e w2 ⟨rfl, rfl⟩)
      go_roundw
      case rel => exact ⟨k + 1, by omega, by go_num, ⟨_, owns_set HY.out (by omega) _⟩, HK.out.setCell (fun _ hn => hn rfl) _⟩
      case measure => simp [intOf]; omega
    · have hk2 : k = n + 12 := by omega
      subst hk2
      go_wp2
      exact bodyPost_end (results_none rfl _ _ _) rfl ⟨rfl, HK.out⟩
end Go.Proofs.YtbllnjkagleenaaGreat
