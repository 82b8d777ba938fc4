/-
  Trees in memory: rows of trees, their places, how deep they are. No program is named here.
-/
import Derived.Test.YtolmjnoaiiodlaaK1
import Derived.Test.YtolmjnoaiiodlaaWU
import Derived.Test.YtolmjnoaiiodlaaPL
namespace Go.Proofs.Ytolmjnoaiiodlaa
open Go.RowKit
set_option linter.unusedVariables false

/-- A row of trees: its first one (kind, number, bytes, kids), and the others. -/
inductive Forest where
  | nil : Forest
  | cons (k n : Int) (bs : List Int) (kids rest : Forest) : Forest
namespace Forest
def len : Forest → Nat
  | nil => 0
  | cons _ _ _ _ rest => rest.len + 1
def size : Forest → Nat
  | nil => 0
  | cons _ _ _ kids rest => 1 + kids.size + rest.size
/-- Is a list asked about? -/
def listy (k : Int) (kids : Forest) : Bool := k == 3 || decide (0 < kids.len)
/-- The deepest of the kids. -/
def Dm : Forest → Nat
  | nil => 0
  | cons k _ _ kids rest => max (if listy k kids = true then 1 + kids.Dm else 0) rest.Dm
/-- Does each fit? -/
def okF (fit : Int → Int → Nat → Nat → Bool) : Forest → Bool
  | nil => true
  | cons k n bs kids rest => fit k n bs.length kids.len && okF fit kids && okF fit rest
/-- How many rounds are wanted. -/
def rounds : Forest → Nat
  | nil => 1
  | cons k _ _ kids rest => (if listy k kids = true then 2 + kids.rounds else 1) + rest.rounds
theorem nil_of {F : Forest} (h : F.len = 0) : F = nil := by
  cases F with
  | nil => rfl
  | cons => simp [len] at h
end Forest
open Forest
/-- The row reads at the address. -/
def FAt (W : World) (B : Nat) : Forest → Addr → Prop
  | .nil, _ => True
  | .cons k n bs kids rest, a => (a.block < B ∧ ∃ c t, W.heap[a.block]? = some (.cells c t (0, 0))) ∧ (∃ bA bc kA kc, W.cell? a = some (.int .u8 k) ∧ W.cell? (a.add 1) = some (.int .i64 n) ∧ W.cell? (a.add 2) = some (.slice bA bs.length bc) ∧ W.cell? (a.add 3) = some (.slice kA kids.len kc) ∧
      Rd W B 1 bA bs.length (u8s bs) ∧ (bA = none → bs.length = 0) ∧ (kids.len = 0 ∨ ∃ ka, kA = some ka ∧ FAt W B kids ka) ∧ kids.len ≤ kc) ∧ FAt W B rest (a.add 4)
def RowAt (W : World) (B : Nat) (A : Option Addr) (F : Forest) : Prop := F.len = 0 ∨ ∃ a, A = some a ∧ FAt W B F a
def placeR (A : Option Addr) (F : Forest) : Pl := if F.len = 0 then ⟨none, 0⟩ else ⟨A, F.len⟩
theorem u8s_inj : ∀ {l l' : List Int}, u8s l = u8s l' → l = l' := by
  intro l
  induction l with
  | nil => intro l' h; cases l' with
    | nil => rfl
    | cons => simp [u8s] at h
  | cons x l ih =>
    intro l' h
    cases l' with
    | nil => simp [u8s] at h
    | cons y l' =>
      simp [u8s] at h
      obtain ⟨rfl, h2⟩ := h
      rw [ih (by simpa [u8s] using h2)]
theorem rd_same {W : World} {B sz n : Nat} {A : Option Addr} {xs ys : List Value} (h : Rd W B sz A n xs) (h' : Rd W B sz A n ys) : xs = ys := by
  rcases Nat.eq_zero_or_pos n with h0 | h0
  · subst h0
    rw [List.length_eq_zero_iff.1 (show xs.length = 0 by rw [h.1]; simp), List.length_eq_zero_iff.1 (show ys.length = 0 by rw [h'.1]; simp)]
  · obtain ⟨a, e, _, hc⟩ := h.2 h0
    obtain ⟨a', e', _, hc'⟩ := h'.2 h0
    rw [e] at e'
    cases e'
    apply List.ext_getElem?
    intro i
    by_cases hi : i < n * sz
    · have h1 : xs[i]? = some (xs[i]'(by rw [h.1]; exact hi)) := List.getElem?_eq_getElem _
      have h2 : ys[i]? = some (ys[i]'(by rw [h'.1]; exact hi)) := List.getElem?_eq_getElem _
      have h3 := hc i _ h1
      have h4 := hc' i _ h2
      rw [h3] at h4
      rw [h1, h2, h4]
    · rw [List.getElem?_eq_none (by rw [h.1]; omega), List.getElem?_eq_none (by rw [h'.1]; omega)]
theorem FAt.same {W : World} {B : Nat} : ∀ {F F' : Forest} {a : Addr}, FAt W B F a → FAt W B F' a → F.len = F'.len → F = F' := by
  intro F
  induction F with
  | nil => intro F' a _ _ hl; exact (nil_of hl.symm).symm
  | cons k n bs kids rest ih1 ih2 =>
    intro F' a h h' hl
    cases F' with
    | nil => simp [Forest.len] at hl
    | cons k' n' bs' kids' rest' =>
      obtain ⟨_, ⟨bA, bc, kA, kc, c0, c1, c2, c3, hb, _, hk, _⟩, hr⟩ := h
      obtain ⟨_, ⟨bA', bc', kA', kc', d0, d1, d2, d3, hb', _, hk', _⟩, hr'⟩ := h'
      rw [c0] at d0; rw [c1] at d1; rw [c2] at d2; rw [c3] at d3
      cases d0
      cases d1
      injection d2 with d2
      injection d2 with d2 d4 d5
      injection d3 with d3
      injection d3 with d3 d6 d7
      subst d2 d3
      have e1 : rest = rest' := ih2 hr hr' (by simp [Forest.len] at hl; exact hl)
      have e2 : bs = bs' := by
        have e3 : u8s bs = u8s bs' := rd_same (n := bs.length) hb (by rw [d4]; exact hb')
        exact u8s_inj e3
      have e3 : kids = kids' := by
        rcases hk with h0 | ⟨ka, e, hka⟩
        · rw [nil_of h0, nil_of (show kids'.len = 0 by omega)]
        · rcases hk' with h0' | ⟨ka', e', hka'⟩
          · rw [nil_of h0', nil_of (show kids.len = 0 by omega)]
          · rw [e] at e'
            cases e'
            exact ih1 hka hka' d6
      rw [e1, e2, e3]
theorem FAt.kept {W W' : World} {B : Nat} (hg : ∀ g, g < B → W'.heap[g]? = W.heap[g]?) : ∀ {F : Forest} {a : Addr}, FAt W B F a → FAt W' B F a := by
  intro F
  induction F with
  | nil => intro a _; trivial
  | cons k n bs kids rest ih1 ih2 =>
    intro a h
    obtain ⟨⟨hb, c, t, hbl⟩, ⟨bA, bc, kA, kc, c0, c1, c2, c3, hr, hn, hkk, hcap⟩, hrest⟩ := h
    have hk : ∀ p : Addr, p.block < B → W'.cell? p = W.cell? p := fun p hp => World.cell?_of_block (hg _ hp)
    have hm : ∀ i, (a.add i).block < B := fun i => by rw [block_add]; exact hb
    exact ⟨⟨hb, c, t, (hg _ hb).trans hbl⟩, ⟨bA, bc, kA, kc, (hk a hb).trans c0, (hk _ (hm 1)).trans c1, (hk _ (hm 2)).trans c2, (hk _ (hm 3)).trans c3, hr.kept hk, hn, hkk.imp id fun ⟨ka, e, h⟩ => ⟨ka, e, ih1 h⟩, hcap⟩, ih2 hrest⟩
theorem RowAt.kept {W W' : World} {B : Nat} {A : Option Addr} {F : Forest} (hk : ∀ g, g < B → W'.heap[g]? = W.heap[g]?) (h : RowAt W B A F) : RowAt W' B A F := h.imp id fun ⟨a, e, h⟩ => ⟨a, e, h.kept hk⟩
theorem RowAt.below {W W' : World} {B : Nat} {A : Option Addr} {F : Forest} (h : RowAt W B A F) (hb : Below B W W') : RowAt W' B A F := h.kept fun g hg => hb.block g hg
theorem row_same {W : World} {B : Nat} {A A' : Option Addr} {F F' : Forest} (h : RowAt W B A F) (h' : RowAt W B A' F') (hp : placeR A F = placeR A' F') : F = F' := by
  unfold placeR at hp
  by_cases h0 : F.len = 0
  · rw [if_pos h0] at hp
    by_cases h1 : F'.len = 0
    · rw [nil_of h0, nil_of h1]
    · rw [if_neg h1] at hp
      injection hp with _ h2
      omega
  · rw [if_neg h0] at hp
    by_cases h1 : F'.len = 0
    · rw [if_pos h1] at hp
      injection hp with _ h2
      omega
    · rw [if_neg h1] at hp
      injection hp with h2 h3
      rcases h with h | ⟨a, e, ha⟩
      · exact absurd h h0
      · rcases h' with h' | ⟨a', e', ha'⟩
        · exact absurd h' h1
        · subst h2
          rw [e] at e'
          cases e'
          exact ha.same ha' (by omega)
theorem row_good {W : World} {B : Nat} {A : Option Addr} {F : Forest} (h : RowAt W B A F) : Good W B (placeR A F) := by
  unfold placeR
  by_cases h0 : F.len = 0
  · rw [if_pos h0]; exact .inl rfl
  · rw [if_neg h0]
    rcases h with h | ⟨a, e, ha⟩
    · exact absurd h h0
    · cases F with
      | nil => exact absurd rfl h0
      | cons => exact .inr ⟨a, e, ha.1.1, ha.1.2⟩
/-- A level of the path: its row, what is left of it, the deepest of the others. -/
structure Lev where
  A : Option Addr
  row : Forest
  lA : Option Addr
  left : Forest
  lc : Nat
  deep : Nat
def Lev.at_ (l : Lev) : Pl := placeR l.A l.row
def Lev.cells (l : Lev) : List Value := [.pointer l.at_.a, .int .i64 l.at_.n, .slice l.lA l.left.len l.lc, .int .i64 l.deep]
structure LevOk (fit : Int → Int → Nat → Nat → Bool) (W : World) (B : Nat) (l : Lev) : Prop where
  row : RowAt W B l.A l.row
  left : RowAt W B l.lA l.left
  ok : okF fit l.row = okF fit l.left
  deep : l.row.Dm = max l.deep l.left.Dm
  size : l.left.size ≤ l.row.size
  cap : l.left.len ≤ l.lc
/-- The level that stands on p is the row of the first kid that p has left. -/
structure On (fit : Int → Int → Nat → Nat → Bool) (W : World) (B : Nat) (l p : Lev) : Prop where
  ex : ∃ k n bs rest pa kc, p.left = .cons k n bs l.row rest ∧ listy k l.row = true ∧ fit k n bs.length l.row.len = true ∧ p.lA = some pa ∧ W.cell? (pa.add 3) = some (.slice l.A l.row.len kc)
def Chain (fit : Int → Int → Nat → Nat → Bool) (W : World) (B : Nat) : List Lev → Prop
  | [] => True
  | [l] => LevOk fit W B l
  | l :: p :: r => LevOk fit W B l ∧ On fit W B l p ∧ Chain fit W B (p :: r)
theorem Chain.tail {fit : Int → Int → Nat → Nat → Bool} {W : World} {B : Nat} {l : Lev} {r : List Lev} (h : Chain fit W B (l :: r)) : Chain fit W B r := by
  cases r with
  | nil => trivial
  | cons p r => exact h.2.2
theorem Chain.head {fit : Int → Int → Nat → Nat → Bool} {W : World} {B : Nat} {l : Lev} {r : List Lev} (h : Chain fit W B (l :: r)) : LevOk fit W B l := by
  cases r with
  | nil => exact h
  | cons p r => exact h.1
theorem On.size {fit : Int → Int → Nat → Nat → Bool} {W : World} {B : Nat} {l p : Lev} (h : On fit W B l p) : l.row.size < p.left.size := by
  obtain ⟨k, n, bs, rest, pa, kc, e, _⟩ := h.ex
  rw [e]
  simp [Forest.size]
  omega
/-- Each row of the path is greater than all that stands above it. -/
theorem Chain.sizes {fit : Int → Int → Nat → Nat → Bool} {W : World} {B : Nat} : ∀ {r : List Lev} {l : Lev}, Chain fit W B (l :: r) → ∀ p ∈ r, l.row.size < p.row.size := by
  intro r
  induction r with
  | nil => intro l _ p hp; cases hp
  | cons q r ih =>
    intro l h p hp
    have h1 := h.2.1.size
    have h2 := (Chain.head h.2.2).size
    rcases List.mem_cons.1 hp with rfl | hp
    · omega
    · have := ih h.2.2 p hp
      omega
theorem Chain.ok_all {fit : Int → Int → Nat → Nat → Bool} {W : World} {B : Nat} : ∀ {r : List Lev} {l : Lev}, Chain fit W B (l :: r) → okF fit l.row = false → ∀ p ∈ l :: r, okF fit p.row = false := by
  intro r
  induction r with
  | nil => intro l _ h0 p hp; simp at hp; subst hp; exact h0
  | cons q r ih =>
    intro l h h0 p hp
    have hq : okF fit q.row = false := by
      obtain ⟨k, n, bs, rest, pa, kc, e, _⟩ := h.2.1.ex
      rw [(Chain.head h.2.2).ok, e]
      simp [okF, h0]
    rcases List.mem_cons.1 hp with rfl | hp
    · exact h0
    · exact ih h.2.2 hq p hp
theorem LevOk.kept {fit : Int → Int → Nat → Nat → Bool} {W W' : World} {B : Nat} {l : Lev} (h : LevOk fit W B l) (hb : ∀ g, g < B → W'.heap[g]? = W.heap[g]?) : LevOk fit W' B l := ⟨h.row.kept hb, h.left.kept hb, h.ok, h.deep, h.size, h.cap⟩
theorem FAt.block {W : World} {B : Nat} {k n : Int} {bs : List Int} {kids rest : Forest} {a : Addr} (h : FAt W B (.cons k n bs kids rest) a) : a.block < B := h.1.1
theorem Chain.below {fit : Int → Int → Nat → Nat → Bool} {W W' : World} {B : Nat} (hb : ∀ g, g < B → W'.heap[g]? = W.heap[g]?) : ∀ {L : List Lev}, Chain fit W B L → Chain fit W' B L := by
  intro L
  induction L with
  | nil => intro _; trivial
  | cons l r ih =>
    intro h
    cases r with
    | nil => exact LevOk.kept h hb
    | cons p r =>
      refine ⟨h.1.kept hb, ?_, ih h.2.2⟩
      obtain ⟨k, n, bs, rest, pa, kc, e, h1, h2, h3, h4⟩ := h.2.1.ex
      refine ⟨k, n, bs, rest, pa, kc, e, h1, h2, h3, ?_⟩
      have hpa : pa.block < B := by
        rcases (Chain.head h.2.2).left with h0 | ⟨a, ea, ha⟩
        · rw [e] at h0; simp [Forest.len] at h0
        · rw [h3] at ea
          cases ea
          rw [e] at ha
          exact ha.block
      exact (World.cell?_of_block (hb _ (by rw [block_add]; exact hpa))).trans h4
/-- What is known of places: 0 of those of the path, of others how deep they are. -/
structure Known (fit : Int → Int → Nat → Nat → Bool) (W : World) (B : Nat) (f : Pl → Option Value) (L : List Lev) : Prop where
  on : ∀ l ∈ L, f l.at_ = some (.int .i64 0)
  off : ∀ p v, f p = some v → (∃ l ∈ L, p = l.at_ ∧ v = .int .i64 0) ∨ ∃ (A : Option Addr) (G : Forest), RowAt W B A G ∧ p = placeR A G ∧ okF fit G = true ∧ v = .int .i64 (1 + G.Dm : Nat)
theorem Known.below {fit : Int → Int → Nat → Nat → Bool} {W W' : World} {B : Nat} {f : Pl → Option Value} {L : List Lev} (h : Known fit W B f L) (hb : ∀ g, g < B → W'.heap[g]? = W.heap[g]?) : Known fit W' B f L :=
  ⟨h.on, fun p v hp => (h.off p v hp).imp id fun ⟨A, G, h1, h2⟩ => ⟨A, G, h1.kept hb, h2⟩⟩
def topR (known : Bool) : Forest → Nat
  | .nil => 1
  | .cons k n bs kids rest => if known = true then 1 + rest.rounds else (Forest.cons k n bs kids rest).rounds
def waitR : Forest → Nat
  | .nil => 0
  | .cons _ _ _ _ rest => 1 + rest.rounds
theorem topR_false (F : Forest) : topR false F = F.rounds := by cases F <;> simp [topR, Forest.rounds]
/-- How many rounds are to come. -/
def more (known : Bool) : List Lev → Nat
  | [] => 0
  | l :: r => topR known l.left + (r.map fun p => waitR p.left).sum
theorem more_cons (known : Bool) (l : Lev) (r : List Lev) : more known (l :: r) = topR known l.left + (r.map fun p => waitR p.left).sum := rfl
end Go.Proofs.Ytolmjnoaiiodlaa
