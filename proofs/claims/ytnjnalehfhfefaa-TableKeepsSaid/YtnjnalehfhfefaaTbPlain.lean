/- Plain mathematics of tables. -/
import Derived.Test.YtnjnalehfhfefaaK3
namespace Go.Proofs.Ytnjnalehfhfefaa.Tb
set_option linter.unusedVariables false

/-- a column: its name, its kind -/
structure Col where
  name : List UInt8
  kind : Int
deriving DecidableEq
def nulC : Col := ⟨[], 0⟩
structure T where
  cols : List Col
  data : List (List C.Cl)
deriving DecidableEq
def nul : T := ⟨[], []⟩

/-- the first error -/
def firstE (f : Nat → Nat) : Nat → Nat → Nat
  | 0, _ => 0
  | k + 1, j => if f j ≠ 0 then f j else firstE f k (j + 1)
theorem firstE_all (f : Nat → Nat) : ∀ (k j : Nat), (∀ i, j ≤ i → i < j + k → f i = 0) → firstE f k j = 0
  | 0, _, _ => rfl
  | k + 1, j, h => by
    rw [firstE, if_neg (by rw [h j (Nat.le_refl _) (by omega)]; simp)]
    exact firstE_all f k (j + 1) (fun i h1 h2 => h i (by omega) (by omega))
theorem firstE_hit (f : Nat → Nat) : ∀ (k j m : Nat), j ≤ m → m < j + k → (∀ i, j ≤ i → i < m → f i = 0) → f m ≠ 0 → firstE f k j = f m
  | 0, j, m, h1, h2, _, _ => by omega
  | k + 1, j, m, h1, h2, h, hm => by
    rw [firstE]
    by_cases hj : j = m
    · rw [hj, if_pos hm]
    · rw [if_neg (by rw [h j (Nat.le_refl _) (by omega)]; simp)]
      exact firstE_hit f k (j + 1) m (by omega) (by omega) (fun i a b => h i (by omega) b) hm
theorem firstE_zero (f : Nat → Nat) : ∀ (k j : Nat), firstE f k j = 0 → ∀ i, j ≤ i → i < j + k → f i = 0
  | 0, j, _, i, h1, h2 => by omega
  | k + 1, j, h, i, h1, h2 => by
    rw [firstE] at h
    by_cases hf : f j ≠ 0
    · rw [if_pos hf] at h; exact absurd h hf
    · rw [if_neg hf] at h
      by_cases hj : i = j
      · rw [hj]; omega
      · exact firstE_zero f k (j + 1) h i (by omega) (by omega)
theorem firstE_lt (f : Nat → Nat) (B : Nat) (hB : 0 < B) (h : ∀ i, f i < B) : ∀ (k j : Nat), firstE f k j < B
  | 0, _ => hB
  | k + 1, j => by
    rw [firstE]; split
    · exact h j
    · exact firstE_lt f B hB h k (j + 1)
/-- so far none -/
def NoneYet (f : Nat → Nat) (j : Nat) : Prop := ∀ i, i < j → f i = 0
theorem NoneYet.zero (f : Nat → Nat) : NoneYet f 0 := fun i hi => absurd hi (by omega)
theorem NoneYet.succ {f : Nat → Nat} {j : Nat} (h : NoneYet f j) (h0 : f j = 0) : NoneYet f (j + 1) := fun i hi => by
  by_cases e : i = j
  · rw [e]; exact h0
  · exact h i (by omega)
theorem NoneYet.hit {f : Nat → Nat} {j n : Nat} (h : NoneYet f j) (hj : j < n) (h0 : f j ≠ 0) : firstE f n 0 = f j := firstE_hit f n 0 j (by omega) (by omega) (fun i _ hi => h i hi) h0
theorem NoneYet.all {f : Nat → Nat} {n : Nat} (h : NoneYet f n) : firstE f n 0 = 0 := firstE_all f n 0 (fun i _ hi => h i (by omega))

def okB (b : UInt8) : Bool := decide (97 ≤ b.toNat) && decide (b.toNat ≤ 122)
def isName (s : List UInt8) : Bool := decide (1 ≤ s.length) && decide (s.length ≤ 12) && s.all okB
/-- where the column of a name is; the number of all, if there is none -/
def pos (l : List Col) (n : List UInt8) : Nat := l.findIdx fun c => decide (c.name = n)
def idx (l : List Col) (n : List UInt8) : Int := if pos l n < l.length then (pos l n : Int) else -1
def has (l : List Col) (n : List UInt8) : Prop := pos l n < l.length
instance (l : List Col) (n : List UInt8) : Decidable (has l n) := inferInstanceAs (Decidable (pos l n < l.length))
theorem pos_le (l : List Col) (n : List UInt8) : pos l n ≤ l.length := List.findIdx_le_length
theorem pos_hit {l : List Col} {n : List UInt8} {j : Nat} (hj : j < l.length) (h : ∀ i, i < j → (l.getD i nulC).name ≠ n) (h0 : (l.getD j nulC).name = n) : pos l n = j := by
  unfold pos
  rw [List.findIdx_eq hj]
  constructor
  · simpa [List.getD, List.getElem?_eq_getElem hj] using h0
  · intro i hi
    have := h i hi
    simpa [List.getD, List.getElem?_eq_getElem (show i < l.length by omega)] using this
theorem pos_none {l : List Col} {n : List UInt8} (h : ∀ i, i < l.length → (l.getD i nulC).name ≠ n) : pos l n = l.length := by
  unfold pos
  rw [List.findIdx_eq_length]
  intro c hc
  obtain ⟨i, hi, rfl⟩ := List.mem_iff_getElem.1 hc
  have := h i hi
  simpa [List.getD, List.getElem?_eq_getElem hi] using this
theorem pos_name {l : List Col} {n : List UInt8} (h : has l n) : (l.getD (pos l n) nulC).name = n := by
  have h' : List.findIdx (fun c : Col => decide (c.name = n)) l < l.length := h
  have := List.findIdx_getElem (w := h')
  show (l.getD (List.findIdx (fun c : Col => decide (c.name = n)) l) nulC).name = n
  simpa [List.getD, List.getElem?_eq_getElem h'] using this
theorem pos_before {l : List Col} {n : List UInt8} {i : Nat} (hi : i < pos l n) : (l.getD i nulC).name ≠ n := by
  have h1 : i < l.length := Nat.lt_of_lt_of_le hi (pos_le l n)
  have := List.not_of_lt_findIdx (p := fun c : Col => decide (c.name = n)) hi
  simpa [List.getD, List.getElem?_eq_getElem h1] using this
theorem has_iff {l : List Col} {n : List UInt8} : has l n ↔ ∃ i, i < l.length ∧ (l.getD i nulC).name = n := by
  constructor
  · intro h; exact ⟨_, h, pos_name h⟩
  · rintro ⟨i, hi, hn⟩
    apply Classical.byContradiction
    intro hc
    have hc' : l.length ≤ pos l n := Nat.not_lt.1 hc
    exact pos_before (l := l) (n := n) (i := i) (by omega) hn

/-- may a column stand behind these? -/
def fresh (l : List Col) (c : Col) : Nat := if isName c.name = false then 1 else if has l c.name then 6 else C.chk c.kind []
/-- all cells of a column -/
def colE (k : Int) (l : List C.Cl) : Nat := if C.chk k [] ≠ 0 then C.chk k [] else if 128 < l.length then 2 else firstE (fun i => C.chk k [l.getD i C.null]) l.length 0
def checkAt (t : T) (i : Nat) : Nat :=
  if fresh (t.cols.take i) (t.cols.getD i nulC) ≠ 0 then fresh (t.cols.take i) (t.cols.getD i nulC)
  else if colE (t.cols.getD i nulC).kind (t.data.getD i []) ≠ 0 then colE (t.cols.getD i nulC).kind (t.data.getD i [])
  else if (t.data.getD i []).length ≠ (t.data.getD 0 []).length then 1 else 0
def check (t : T) : Nat := if 6 < t.cols.length then 2 else if t.data.length ≠ t.cols.length then 1 else firstE (checkAt t) t.cols.length 0

def rows (t : T) : Nat := (t.data.getD 0 []).length
def rowAt (t : T) (i : Nat) : List C.Cl := t.data.map fun l => l.getD i C.null
def rowsR (t : T) : Nat × Nat := (if check t ≠ 0 then 0 else rows t, check t)
def rowR (t : T) (i : Int) : List C.Cl × Nat := if check t ≠ 0 then ([], check t) else if i < 0 ∨ (rows t : Int) ≤ i then ([], 3) else (rowAt t i.toNat, 0)

/-- a table that is changed: what is wrong with the change, and what comes of it -/
def chg (t : T) (e : Nat) (r : T) : T × Nat := if check t ≠ 0 then (nul, check t) else if e ≠ 0 then (nul, e) else (r, 0)

def addE (t : T) (c : Col) (x : C.Cl) : Nat := if fresh t.cols c ≠ 0 then fresh t.cols c else if t.cols.length = 6 then 2 else C.chk c.kind [x]
def add (t : T) (c : Col) (x : C.Cl) : T := ⟨t.cols ++ [c], t.data ++ [List.replicate (rows t) x]⟩
def dropE (t : T) (n : List UInt8) : Nat := if has t.cols n then 0 else 5
def drop (t : T) (n : List UInt8) : T := ⟨t.cols.eraseIdx (pos t.cols n), t.data.eraseIdx (pos t.cols n)⟩
def renE (t : T) (o n : List UInt8) : Nat := if ¬ has t.cols o then 5 else if isName n = false then 1 else if has t.cols n ∧ pos t.cols n ≠ pos t.cols o then 6 else 0
def ren (t : T) (o n : List UInt8) : T := ⟨t.cols.set (pos t.cols o) ⟨n, (t.cols.getD (pos t.cols o) nulC).kind⟩, t.data⟩
def kinds (t : T) : List Int := t.cols.map Col.kind
/-- is a condition True of a row? -/
def tru (t : T) (p : List O.Cd) (i : Nat) : Bool := decide ((O.askR p (kinds t) (rowAt t i)).1 = 2)
def marks (t : T) (p : List O.Cd) : List Bool := (List.range (rows t)).map (tru t p)
def redE (t : T) (n : List UInt8) (p : List O.Cd) : Nat := if ¬ has t.cols n then 5 else O.check p (kinds t)
/-- cells become Nulls where there is a mark -/
def nulled : List C.Cl → List Bool → List C.Cl
  | x :: l, b :: m => (if b then C.null else x) :: nulled l m
  | l, _ => l
def red (t : T) (n : List UInt8) (p : List O.Cd) : T := ⟨t.cols, t.data.set (pos t.cols n) (nulled (t.data.getD (pos t.cols n) []) (marks t p))⟩
def marked (l : List C.Cl) (m : List Bool) : List C.Cl := ((l.zip m).filter fun x => x.2).map Prod.fst
def keepE (t : T) (p : List O.Cd) : Nat := O.check p (kinds t)
def keep (t : T) (p : List O.Cd) : T := ⟨t.cols, t.data.map fun l => marked l (marks t p)⟩
/-- name by name: what was picked so far, and what is wrong -/
def projE (t : T) : List Col → List (List UInt8) → Nat
  | _, [] => 0
  | d, n :: r => if ¬ has t.cols n then 5 else if has d n then 6 else projE t (d ++ [t.cols.getD (pos t.cols n) nulC]) r
def proj (t : T) (ns : List (List UInt8)) : T := ⟨ns.map fun n => t.cols.getD (pos t.cols n) nulC, ns.map fun n => t.data.getD (pos t.cols n) []⟩
def sliE (from_ many : Int) : Nat := if from_ < 0 ∨ many < 0 then 3 else 0
def sliF (t : T) (from_ : Int) : Nat := min from_.toNat (rows t)
def sliN (t : T) (from_ many : Int) : Nat := min many.toNat (rows t - sliF t from_)
def sli (t : T) (from_ many : Int) : T := ⟨t.cols, t.data.map fun l => (l.drop (sliF t from_)).take (sliN t from_ many)⟩
def appE (a b : T) : Nat := if check b ≠ 0 then check b else if a.cols ≠ b.cols then 7 else if 128 < rows a + rows b then 2 else 0
def app (a b : T) : T := ⟨a.cols, List.zipWith (· ++ ·) a.data b.data⟩

theorem chk_lt9 (k : Int) (x : C.Cl) : C.chk k [x] < 9 := by
  unfold C.chk C.chkL
  have := O.cellE_lt k x
  split
  · omega
  · split
    · omega
    · split
      · exact this
      · simp [C.chkL]
theorem chk_nil_lt (k : Int) : C.chk k [] < 9 := by unfold C.chk C.chkL; split <;> simp
theorem fresh_lt (l : List Col) (c : Col) : fresh l c < 9 := by
  unfold fresh
  have := chk_nil_lt c.kind
  split
  · omega
  · split
    · omega
    · exact this
theorem colE_lt (k : Int) (l : List C.Cl) : colE k l < 9 := by
  unfold colE
  have := chk_nil_lt k
  have h2 := firstE_lt (fun i => C.chk k [l.getD i C.null]) 9 (by omega) (fun i => chk_lt9 k _) l.length 0
  split
  · exact this
  · split
    · omega
    · exact h2
theorem checkAt_lt (t : T) (i : Nat) : checkAt t i < 9 := by
  unfold checkAt
  have h1 := fresh_lt (t.cols.take i) (t.cols.getD i nulC)
  have h2 := colE_lt (t.cols.getD i nulC).kind (t.data.getD i [])
  split
  · exact h1
  · split
    · exact h2
    · split <;> omega
theorem check_lt (t : T) : check t < 9 := by
  unfold check
  have h2 := firstE_lt (checkAt t) 9 (by omega) (checkAt_lt t) t.cols.length 0
  split
  · omega
  · split
    · omega
    · exact h2

/-- what a table is that is right -/
structure Ok (t : T) : Prop where
  six : t.cols.length ≤ 6
  len : t.data.length = t.cols.length
  name : ∀ i, i < t.cols.length → isName (t.cols.getD i nulC).name = true
  once : ∀ i, i < t.cols.length → ¬ has (t.cols.take i) (t.cols.getD i nulC).name
  kind : ∀ i, i < t.cols.length → (t.cols.getD i nulC).kind = 1 ∨ (t.cols.getD i nulC).kind = 2
  many : ∀ i, i < t.cols.length → (t.data.getD i []).length ≤ 128
  cell : ∀ i, i < t.cols.length → ∀ j, j < (t.data.getD i []).length → C.chk (t.cols.getD i nulC).kind [(t.data.getD i []).getD j C.null] = 0
  rows : ∀ i, i < t.cols.length → (t.data.getD i []).length = Tb.rows t
theorem chk_nil (k : Int) : C.chk k [] = 0 ↔ k = 1 ∨ k = 2 := by
  unfold C.chk C.chkL
  split <;> simp <;> omega
theorem check_ok {t : T} (h : check t = 0) : Ok t := by
  unfold check at h
  by_cases h1 : 6 < t.cols.length
  · rw [if_pos h1] at h; exact absurd h (by decide)
  rw [if_neg h1] at h
  by_cases h2 : t.data.length ≠ t.cols.length
  · rw [if_pos h2] at h; exact absurd h (by decide)
  rw [if_neg h2] at h
  have hz := firstE_zero _ _ _ h
  have hz2 : ∀ i, i < t.cols.length → fresh (t.cols.take i) (t.cols.getD i nulC) = 0 ∧ colE (t.cols.getD i nulC).kind (t.data.getD i []) = 0 ∧ (t.data.getD i []).length = Tb.rows t := by
    intro i hi
    have := hz i (by omega) (by omega)
    unfold checkAt at this
    by_cases a1 : fresh (t.cols.take i) (t.cols.getD i nulC) ≠ 0
    · rw [if_pos a1] at this; exact absurd this a1
    rw [if_neg a1] at this
    by_cases a2 : colE (t.cols.getD i nulC).kind (t.data.getD i []) ≠ 0
    · rw [if_pos a2] at this; exact absurd this a2
    rw [if_neg a2] at this
    by_cases a3 : (t.data.getD i []).length ≠ (t.data.getD 0 []).length
    · rw [if_pos a3] at this; exact absurd this (by decide)
    exact ⟨by omega, by omega, by unfold Tb.rows; omega⟩
  have hf : ∀ i, i < t.cols.length → isName (t.cols.getD i nulC).name = true ∧ ¬ has (t.cols.take i) (t.cols.getD i nulC).name ∧ C.chk (t.cols.getD i nulC).kind [] = 0 := by
    intro i hi
    have := (hz2 i hi).1
    unfold fresh at this
    by_cases a1 : isName (t.cols.getD i nulC).name = false
    · rw [if_pos a1] at this; exact absurd this (by decide)
    rw [if_neg a1] at this
    by_cases a2 : has (t.cols.take i) (t.cols.getD i nulC).name
    · rw [if_pos a2] at this; exact absurd this (by decide)
    rw [if_neg a2] at this
    exact ⟨by simpa using a1, a2, this⟩
  have hcol : ∀ i, i < t.cols.length → (t.data.getD i []).length ≤ 128 ∧ ∀ j, j < (t.data.getD i []).length → C.chk (t.cols.getD i nulC).kind [(t.data.getD i []).getD j C.null] = 0 := by
    intro i hi
    have := (hz2 i hi).2.1
    unfold colE at this
    rw [if_neg (by rw [(hf i hi).2.2]; simp)] at this
    by_cases a2 : 128 < (t.data.getD i []).length
    · rw [if_pos a2] at this; exact absurd this (by decide)
    rw [if_neg a2] at this
    exact ⟨by omega, fun j hj => firstE_zero _ _ _ this j (by omega) (by omega)⟩
  exact ⟨by omega, by omega, fun i hi => (hf i hi).1, fun i hi => (hf i hi).2.1, fun i hi => (chk_nil _).1 (hf i hi).2.2, fun i hi => (hcol i hi).1, fun i hi => (hcol i hi).2, fun i hi => (hz2 i hi).2.2⟩
theorem ok_check {t : T} (h : Ok t) : check t = 0 := by
  unfold check
  rw [if_neg (by have := h.six; omega), if_neg (by have := h.len; omega)]
  refine firstE_all _ _ _ (fun i _ hi => ?_)
  have hi : i < t.cols.length := by omega
  unfold checkAt
  have h1 : fresh (t.cols.take i) (t.cols.getD i nulC) = 0 := by
    unfold fresh
    rw [if_neg (by rw [h.name i hi]; simp), if_neg (h.once i hi)]
    exact (chk_nil _).2 (h.kind i hi)
  have h2 : colE (t.cols.getD i nulC).kind (t.data.getD i []) = 0 := by
    unfold colE
    rw [if_neg (by rw [(chk_nil _).2 (h.kind i hi)]; simp), if_neg (by have := h.many i hi; omega)]
    exact firstE_all _ _ _ (fun j _ hj => h.cell i hi j (by omega))
  rw [if_neg (by rw [h1]; simp), if_neg (by rw [h2]; simp), if_neg (by have := h.rows i hi; unfold Tb.rows at this; omega)]
end Go.Proofs.Ytnjnalehfhfefaa.Tb
