/- TbPlain, TbBase, TbEq, TbApp, TbOwn, TbF0. -/
import Derived.Deep.AppendLies
import Derived.Laws.StructEq
import Derived.Lib.OwnKind
import Derived.OneCell
import Derived.Test.YtnjnalehfhfefaaK3
/- Plain mathematics of tables. -/
namespace Go.Proofs.Ytnjnalehfhfefaa.Tb
set_option linter.unusedVariables false

/-- a column: its name, its kind -/
structure Col where
  name : List UInt8
  kind : Int
deriving DecidableEq
def nulC : Col := ⟨[], 0⟩
structure T where
  cols : List Col
  data : List (List C.Cl)
deriving DecidableEq
def nul : T := ⟨[], []⟩

/-- the first error -/
def firstE (f : Nat → Nat) : Nat → Nat → Nat
  | 0, _ => 0
  | k + 1, j => if f j ≠ 0 then f j else firstE f k (j + 1)
theorem firstE_all (f : Nat → Nat) : ∀ (k j : Nat), (∀ i, j ≤ i → i < j + k → f i = 0) → firstE f k j = 0
  | 0, _, _ => rfl
  | k + 1, j, h => by
    rw [firstE, if_neg (by rw [h j (Nat.le_refl _) (by omega)]; simp)]
    exact firstE_all f k (j + 1) (fun i h1 h2 => h i (by omega) (by omega))
theorem firstE_hit (f : Nat → Nat) : ∀ (k j m : Nat), j ≤ m → m < j + k → (∀ i, j ≤ i → i < m → f i = 0) → f m ≠ 0 → firstE f k j = f m
  | 0, j, m, h1, h2, _, _ => by omega
  | k + 1, j, m, h1, h2, h, hm => by
    rw [firstE]
    by_cases hj : j = m
    · rw [hj, if_pos hm]
    · rw [if_neg (by rw [h j (Nat.le_refl _) (by omega)]; simp)]
      exact firstE_hit f k (j + 1) m (by omega) (by omega) (fun i a b => h i (by omega) b) hm
theorem firstE_zero (f : Nat → Nat) : ∀ (k j : Nat), firstE f k j = 0 → ∀ i, j ≤ i → i < j + k → f i = 0
  | 0, j, _, i, h1, h2 => by omega
  | k + 1, j, h, i, h1, h2 => by
    rw [firstE] at h
    by_cases hf : f j ≠ 0
    · rw [if_pos hf] at h; exact absurd h hf
    · rw [if_neg hf] at h
      by_cases hj : i = j
      · rw [hj]; omega
      · exact firstE_zero f k (j + 1) h i (by omega) (by omega)
theorem firstE_lt (f : Nat → Nat) (B : Nat) (hB : 0 < B) (h : ∀ i, f i < B) : ∀ (k j : Nat), firstE f k j < B
  | 0, _ => hB
  | k + 1, j => by
    rw [firstE]; split
    · exact h j
    · exact firstE_lt f B hB h k (j + 1)
/-- so far none -/
def NoneYet (f : Nat → Nat) (j : Nat) : Prop := ∀ i, i < j → f i = 0
theorem NoneYet.zero (f : Nat → Nat) : NoneYet f 0 := fun i hi => absurd hi (by omega)
theorem NoneYet.succ {f : Nat → Nat} {j : Nat} (h : NoneYet f j) (h0 : f j = 0) : NoneYet f (j + 1) := fun i hi => by
  by_cases e : i = j
  · rw [e]; exact h0
  · exact h i (by omega)
theorem NoneYet.hit {f : Nat → Nat} {j n : Nat} (h : NoneYet f j) (hj : j < n) (h0 : f j ≠ 0) : firstE f n 0 = f j := firstE_hit f n 0 j (by omega) (by omega) (fun i _ hi => h i hi) h0
theorem NoneYet.all {f : Nat → Nat} {n : Nat} (h : NoneYet f n) : firstE f n 0 = 0 := firstE_all f n 0 (fun i _ hi => h i (by omega))

def okB (b : UInt8) : Bool := decide (97 ≤ b.toNat) && decide (b.toNat ≤ 122)
def isName (s : List UInt8) : Bool := decide (1 ≤ s.length) && decide (s.length ≤ 12) && s.all okB
/-- where the column of a name is; the number of all, if there is none -/
def pos (l : List Col) (n : List UInt8) : Nat := l.findIdx fun c => decide (c.name = n)
def idx (l : List Col) (n : List UInt8) : Int := if pos l n < l.length then (pos l n : Int) else -1
def has (l : List Col) (n : List UInt8) : Prop := pos l n < l.length
instance (l : List Col) (n : List UInt8) : Decidable (has l n) := inferInstanceAs (Decidable (pos l n < l.length))
theorem pos_le (l : List Col) (n : List UInt8) : pos l n ≤ l.length := List.findIdx_le_length
theorem pos_hit {l : List Col} {n : List UInt8} {j : Nat} (hj : j < l.length) (h : ∀ i, i < j → (l.getD i nulC).name ≠ n) (h0 : (l.getD j nulC).name = n) : pos l n = j := by
  unfold pos
  rw [List.findIdx_eq hj]
  constructor
  · simpa [List.getD, List.getElem?_eq_getElem hj] using h0
  · intro i hi
    have := h i hi
    simpa [List.getD, List.getElem?_eq_getElem (show i < l.length by omega)] using this
theorem pos_none {l : List Col} {n : List UInt8} (h : ∀ i, i < l.length → (l.getD i nulC).name ≠ n) : pos l n = l.length := by
  unfold pos
  rw [List.findIdx_eq_length]
  intro c hc
  obtain ⟨i, hi, rfl⟩ := List.mem_iff_getElem.1 hc
  have := h i hi
  simpa [List.getD, List.getElem?_eq_getElem hi] using this
theorem pos_name {l : List Col} {n : List UInt8} (h : has l n) : (l.getD (pos l n) nulC).name = n := by
  have h' : List.findIdx (fun c : Col => decide (c.name = n)) l < l.length := h
  have := List.findIdx_getElem (w := h')
  show (l.getD (List.findIdx (fun c : Col => decide (c.name = n)) l) nulC).name = n
  simpa [List.getD, List.getElem?_eq_getElem h'] using this
theorem pos_before {l : List Col} {n : List UInt8} {i : Nat} (hi : i < pos l n) : (l.getD i nulC).name ≠ n := by
  have h1 : i < l.length := Nat.lt_of_lt_of_le hi (pos_le l n)
  have := List.not_of_lt_findIdx (p := fun c : Col => decide (c.name = n)) hi
  simpa [List.getD, List.getElem?_eq_getElem h1] using this
theorem has_iff {l : List Col} {n : List UInt8} : has l n ↔ ∃ i, i < l.length ∧ (l.getD i nulC).name = n := by
  constructor
  · intro h; exact ⟨_, h, pos_name h⟩
  · rintro ⟨i, hi, hn⟩
    apply Classical.byContradiction
    intro hc
    have hc' : l.length ≤ pos l n := Nat.not_lt.1 hc
    exact pos_before (l := l) (n := n) (i := i) (by omega) hn

/-- may a column stand behind these? -/
def fresh (l : List Col) (c : Col) : Nat := if isName c.name = false then 1 else if has l c.name then 6 else C.chk c.kind []
/-- all cells of a column -/
def colE (k : Int) (l : List C.Cl) : Nat := if C.chk k [] ≠ 0 then C.chk k [] else if 128 < l.length then 2 else firstE (fun i => C.chk k [l.getD i C.null]) l.length 0
def checkAt (t : T) (i : Nat) : Nat :=
  if fresh (t.cols.take i) (t.cols.getD i nulC) ≠ 0 then fresh (t.cols.take i) (t.cols.getD i nulC)
  else if colE (t.cols.getD i nulC).kind (t.data.getD i []) ≠ 0 then colE (t.cols.getD i nulC).kind (t.data.getD i [])
  else if (t.data.getD i []).length ≠ (t.data.getD 0 []).length then 1 else 0
def check (t : T) : Nat := if 6 < t.cols.length then 2 else if t.data.length ≠ t.cols.length then 1 else firstE (checkAt t) t.cols.length 0

def rows (t : T) : Nat := (t.data.getD 0 []).length
def rowAt (t : T) (i : Nat) : List C.Cl := t.data.map fun l => l.getD i C.null
def rowsR (t : T) : Nat × Nat := (if check t ≠ 0 then 0 else rows t, check t)
def rowR (t : T) (i : Int) : List C.Cl × Nat := if check t ≠ 0 then ([], check t) else if i < 0 ∨ (rows t : Int) ≤ i then ([], 3) else (rowAt t i.toNat, 0)

/-- a table that is changed: what is wrong with the change, and what comes of it -/
def chg (t : T) (e : Nat) (r : T) : T × Nat := if check t ≠ 0 then (nul, check t) else if e ≠ 0 then (nul, e) else (r, 0)

def addE (t : T) (c : Col) (x : C.Cl) : Nat := if fresh t.cols c ≠ 0 then fresh t.cols c else if t.cols.length = 6 then 2 else C.chk c.kind [x]
def add (t : T) (c : Col) (x : C.Cl) : T := ⟨t.cols ++ [c], t.data ++ [List.replicate (rows t) x]⟩
def dropE (t : T) (n : List UInt8) : Nat := if has t.cols n then 0 else 5
def drop (t : T) (n : List UInt8) : T := ⟨t.cols.eraseIdx (pos t.cols n), t.data.eraseIdx (pos t.cols n)⟩
def renE (t : T) (o n : List UInt8) : Nat := if ¬ has t.cols o then 5 else if isName n = false then 1 else if has t.cols n ∧ pos t.cols n ≠ pos t.cols o then 6 else 0
def ren (t : T) (o n : List UInt8) : T := ⟨t.cols.set (pos t.cols o) ⟨n, (t.cols.getD (pos t.cols o) nulC).kind⟩, t.data⟩
def kinds (t : T) : List Int := t.cols.map Col.kind
/-- is a condition True of a row? -/
def tru (t : T) (p : List O.Cd) (i : Nat) : Bool := decide ((O.askR p (kinds t) (rowAt t i)).1 = 2)
def marks (t : T) (p : List O.Cd) : List Bool := (List.range (rows t)).map (tru t p)
def redE (t : T) (n : List UInt8) (p : List O.Cd) : Nat := if ¬ has t.cols n then 5 else O.check p (kinds t)
/-- cells become Nulls where there is a mark -/
def nulled : List C.Cl → List Bool → List C.Cl
  | x :: l, b :: m => (if b then C.null else x) :: nulled l m
  | l, _ => l
def red (t : T) (n : List UInt8) (p : List O.Cd) : T := ⟨t.cols, t.data.set (pos t.cols n) (nulled (t.data.getD (pos t.cols n) []) (marks t p))⟩
def marked (l : List C.Cl) (m : List Bool) : List C.Cl := ((l.zip m).filter fun x => x.2).map Prod.fst
def keepE (t : T) (p : List O.Cd) : Nat := O.check p (kinds t)
def keep (t : T) (p : List O.Cd) : T := ⟨t.cols, t.data.map fun l => marked l (marks t p)⟩
/-- name by name: what was picked so far, and what is wrong -/
def projE (t : T) : List Col → List (List UInt8) → Nat
  | _, [] => 0
  | d, n :: r => if ¬ has t.cols n then 5 else if has d n then 6 else projE t (d ++ [t.cols.getD (pos t.cols n) nulC]) r
def proj (t : T) (ns : List (List UInt8)) : T := ⟨ns.map fun n => t.cols.getD (pos t.cols n) nulC, ns.map fun n => t.data.getD (pos t.cols n) []⟩
def sliE (from_ many : Int) : Nat := if from_ < 0 ∨ many < 0 then 3 else 0
def sliF (t : T) (from_ : Int) : Nat := min from_.toNat (rows t)
def sliN (t : T) (from_ many : Int) : Nat := min many.toNat (rows t - sliF t from_)
def sli (t : T) (from_ many : Int) : T := ⟨t.cols, t.data.map fun l => (l.drop (sliF t from_)).take (sliN t from_ many)⟩
def appE (a b : T) : Nat := if check b ≠ 0 then check b else if a.cols ≠ b.cols then 7 else if 128 < rows a + rows b then 2 else 0
def app (a b : T) : T := ⟨a.cols, List.zipWith (· ++ ·) a.data b.data⟩

theorem chk_lt9 (k : Int) (x : C.Cl) : C.chk k [x] < 9 := by
  unfold C.chk C.chkL
  have := O.cellE_lt k x
  split
  · omega
  · split
    · omega
    · split
      · exact this
      · simp [C.chkL]
theorem chk_nil_lt (k : Int) : C.chk k [] < 9 := by unfold C.chk C.chkL; split <;> simp
theorem fresh_lt (l : List Col) (c : Col) : fresh l c < 9 := by
  unfold fresh
  have := chk_nil_lt c.kind
  split
  · omega
  · split
    · omega
    · exact this
theorem colE_lt (k : Int) (l : List C.Cl) : colE k l < 9 := by
  unfold colE
  have := chk_nil_lt k
  have h2 := firstE_lt (fun i => C.chk k [l.getD i C.null]) 9 (by omega) (fun i => chk_lt9 k _) l.length 0
  split
  · exact this
  · split
    · omega
    · exact h2
theorem checkAt_lt (t : T) (i : Nat) : checkAt t i < 9 := by
  unfold checkAt
  have h1 := fresh_lt (t.cols.take i) (t.cols.getD i nulC)
  have h2 := colE_lt (t.cols.getD i nulC).kind (t.data.getD i [])
  split
  · exact h1
  · split
    · exact h2
    · split <;> omega
theorem check_lt (t : T) : check t < 9 := by
  unfold check
  have h2 := firstE_lt (checkAt t) 9 (by omega) (checkAt_lt t) t.cols.length 0
  split
  · omega
  · split
    · omega
    · exact h2

/-- what a table is that is right -/
structure Ok (t : T) : Prop where
  six : t.cols.length ≤ 6
  len : t.data.length = t.cols.length
  name : ∀ i, i < t.cols.length → isName (t.cols.getD i nulC).name = true
  once : ∀ i, i < t.cols.length → ¬ has (t.cols.take i) (t.cols.getD i nulC).name
  kind : ∀ i, i < t.cols.length → (t.cols.getD i nulC).kind = 1 ∨ (t.cols.getD i nulC).kind = 2
  many : ∀ i, i < t.cols.length → (t.data.getD i []).length ≤ 128
  cell : ∀ i, i < t.cols.length → ∀ j, j < (t.data.getD i []).length → C.chk (t.cols.getD i nulC).kind [(t.data.getD i []).getD j C.null] = 0
  rows : ∀ i, i < t.cols.length → (t.data.getD i []).length = Tb.rows t
theorem chk_nil (k : Int) : C.chk k [] = 0 ↔ k = 1 ∨ k = 2 := by
  unfold C.chk C.chkL
  split <;> simp <;> omega
theorem check_ok {t : T} (h : check t = 0) : Ok t := by
  unfold check at h
  by_cases h1 : 6 < t.cols.length
  · rw [if_pos h1] at h; exact absurd h (by decide)
  rw [if_neg h1] at h
  by_cases h2 : t.data.length ≠ t.cols.length
  · rw [if_pos h2] at h; exact absurd h (by decide)
  rw [if_neg h2] at h
  have hz := firstE_zero _ _ _ h
  have hz2 : ∀ i, i < t.cols.length → fresh (t.cols.take i) (t.cols.getD i nulC) = 0 ∧ colE (t.cols.getD i nulC).kind (t.data.getD i []) = 0 ∧ (t.data.getD i []).length = Tb.rows t := by
    intro i hi
    have := hz i (by omega) (by omega)
    unfold checkAt at this
    by_cases a1 : fresh (t.cols.take i) (t.cols.getD i nulC) ≠ 0
    · rw [if_pos a1] at this; exact absurd this a1
    rw [if_neg a1] at this
    by_cases a2 : colE (t.cols.getD i nulC).kind (t.data.getD i []) ≠ 0
    · rw [if_pos a2] at this; exact absurd this a2
    rw [if_neg a2] at this
    by_cases a3 : (t.data.getD i []).length ≠ (t.data.getD 0 []).length
    · rw [if_pos a3] at this; exact absurd this (by decide)
    exact ⟨by omega, by omega, by unfold Tb.rows; omega⟩
  have hf : ∀ i, i < t.cols.length → isName (t.cols.getD i nulC).name = true ∧ ¬ has (t.cols.take i) (t.cols.getD i nulC).name ∧ C.chk (t.cols.getD i nulC).kind [] = 0 := by
    intro i hi
    have := (hz2 i hi).1
    unfold fresh at this
    by_cases a1 : isName (t.cols.getD i nulC).name = false
    · rw [if_pos a1] at this; exact absurd this (by decide)
    rw [if_neg a1] at this
    by_cases a2 : has (t.cols.take i) (t.cols.getD i nulC).name
    · rw [if_pos a2] at this; exact absurd this (by decide)
    rw [if_neg a2] at this
    exact ⟨by simpa using a1, a2, this⟩
  have hcol : ∀ i, i < t.cols.length → (t.data.getD i []).length ≤ 128 ∧ ∀ j, j < (t.data.getD i []).length → C.chk (t.cols.getD i nulC).kind [(t.data.getD i []).getD j C.null] = 0 := by
    intro i hi
    have := (hz2 i hi).2.1
    unfold colE at this
    rw [if_neg (by rw [(hf i hi).2.2]; simp)] at this
    by_cases a2 : 128 < (t.data.getD i []).length
    · rw [if_pos a2] at this; exact absurd this (by decide)
    rw [if_neg a2] at this
    exact ⟨by omega, fun j hj => firstE_zero _ _ _ this j (by omega) (by omega)⟩
  exact ⟨by omega, by omega, fun i hi => (hf i hi).1, fun i hi => (hf i hi).2.1, fun i hi => (chk_nil _).1 (hf i hi).2.2, fun i hi => (hcol i hi).1, fun i hi => (hcol i hi).2, fun i hi => (hz2 i hi).2.2⟩
theorem ok_check {t : T} (h : Ok t) : check t = 0 := by
  unfold check
  rw [if_neg (by have := h.six; omega), if_neg (by have := h.len; omega)]
  refine firstE_all _ _ _ (fun i _ hi => ?_)
  have hi : i < t.cols.length := by omega
  unfold checkAt
  have h1 : fresh (t.cols.take i) (t.cols.getD i nulC) = 0 := by
    unfold fresh
    rw [if_neg (by rw [h.name i hi]; simp), if_neg (h.once i hi)]
    exact (chk_nil _).2 (h.kind i hi)
  have h2 : colE (t.cols.getD i nulC).kind (t.data.getD i []) = 0 := by
    unfold colE
    rw [if_neg (by rw [(chk_nil _).2 (h.kind i hi)]; simp), if_neg (by have := h.many i hi; omega)]
    exact firstE_all _ _ _ (fun j _ hj => h.cell i hi j (by omega))
  rw [if_neg (by rw [h1]; simp), if_neg (by rw [h2]; simp), if_neg (by have := h.rows i hi; unfold Tb.rows at this; omega)]
end Go.Proofs.Ytnjnalehfhfefaa.Tb
/- Words for columns, tables in memory. -/
namespace Go.Proofs.Ytnjnalehfhfefaa
open Go.RowKit
set_option linter.unusedVariables false

/-- the two values of a column -/
def gx (c : Tb.Col) : List Value := [.string (str c.name), .int .i64 c.kind]
def gag (c : Tb.Col) : Value := .agg #[.string (str c.name), .int .i64 c.kind]
def gOk (c : Tb.Col) : Prop := c.name.length ≤ maxLen ∧ -9223372036854775808 ≤ c.kind ∧ c.kind ≤ 9223372036854775807
def at2 (w : World) (b o : Nat) (c : Tb.Col) : Prop := w.cell? ⟨b, o, none⟩ = some (.string (str c.name)) ∧ w.cell? ⟨b, o + 1, none⟩ = some (.int .i64 c.kind)
theorem at2_firm : Firm at2 := fun w w' b o x h ⟨h0, h1⟩ => ⟨by rw [h]; exact h0, by rw [h]; exact h1⟩
abbrev Gls (w : World) (B : Nat) (a : Option Addr) (l : List Tb.Col) : Prop := Sl at2 2 Tb.nulC w B a l
theorem info_col : (Try.prog.info? 27).map (fun i => (i.zero, i.size, i.bytes)) = some (some (.agg #[.string ByteArray.empty, .int .i64 0]), 2, 24) := by kernel_rfl
theorem info_row : (Try.prog.info? 34).map (fun i => (i.zero, i.size, i.bytes)) = some (some (.slice none 0 0), 1, 24) := by kernel_rfl

/-- a slice of cells: what a row is -/
structure RowIn (w : World) (B : Nat) (a : Option Addr) (c : Nat) (r : List C.Cl) : Prop where
  len : r.length ≤ c
  cap : c ≤ maxLen
  nil : a = none → c = 0
  ok : ∀ x ∈ r, cOk x
  cls : Cls w B a r
theorem RowIn.below {w w' : World} {B : Nat} {a : Option Addr} {c : Nat} {r : List C.Cl} (h : RowIn w B a c r) (hb : Below B w w') : RowIn w' B a c r := ⟨h.len, h.cap, h.nil, h.ok, h.cls.below hb⟩
theorem RowIn.mono {w : World} {B B' : Nat} {a : Option Addr} {c : Nat} {r : List C.Cl} (h : RowIn w B a c r) (hB : B ≤ B') : RowIn w B' a c r := ⟨h.len, h.cap, h.nil, h.ok, h.cls.mono hB⟩
theorem RowIn.next {w w' : World} {a : Option Addr} {c : Nat} {r : List C.Cl} (h : RowIn w w.heap.size a c r) (hb : Below w.heap.size w w') : RowIn w' w'.heap.size a c r := ⟨h.len, h.cap, h.nil, h.ok, h.cls.next hb⟩
theorem RowIn.max {w : World} {B : Nat} {a : Option Addr} {c : Nat} {r : List C.Cl} (h : RowIn w B a c r) : r.length ≤ maxLen := Nat.le_trans h.len h.cap
/-- a slice of such -/
def Dat (w : World) (B : Nat) (a : Option Addr) (l : List (List C.Cl)) : Prop :=
  l ≠ [] → ∃ b off, a = some ⟨b, off, none⟩ ∧ b < B ∧ ∀ i, i < l.length → ∃ ai ci, w.cell? ⟨b, off + i, none⟩ = some (.slice ai (l.getD i []).length ci) ∧ RowIn w B ai ci (l.getD i [])
theorem Dat.below {w w' : World} {B : Nat} {a : Option Addr} {l : List (List C.Cl)} (h : Dat w B a l) (hb : Below B w w') : Dat w' B a l := by
  intro hl
  obtain ⟨b, off, e, hlt, hc⟩ := h hl
  refine ⟨b, off, e, hlt, fun i hi => ?_⟩
  obtain ⟨ai, ci, c1, c2⟩ := hc i hi
  exact ⟨ai, ci, by rw [hb.cell (p := ⟨b, off + i, none⟩) hlt]; exact c1, c2.below hb⟩
theorem Dat.mono {w : World} {B B' : Nat} {a : Option Addr} {l : List (List C.Cl)} (h : Dat w B a l) (hB : B ≤ B') : Dat w B' a l := by
  intro hl
  obtain ⟨b, off, e, hlt, hc⟩ := h hl
  refine ⟨b, off, e, by omega, fun i hi => ?_⟩
  obtain ⟨ai, ci, c1, c2⟩ := hc i hi
  exact ⟨ai, ci, c1, c2.mono hB⟩
theorem Dat.next {w w' : World} {a : Option Addr} {l : List (List C.Cl)} (h : Dat w w.heap.size a l) (hb : Below w.heap.size w w') : Dat w' w'.heap.size a l := (h.below hb).mono hb.size
theorem Dat.nil (w : World) (B : Nat) (a : Option Addr) : Dat w B a [] := fun h => absurd rfl h

/-- a table that can be read: its columns' slice, its cells' -/
structure Tbl (w : World) (B : Nat) (ca : Option Addr) (cc : Nat) (da : Option Addr) (dc : Nat) (t : Tb.T) : Prop where
  gls : Gls w B ca t.cols
  dat : Dat w B da t.data
  gOk : ∀ c ∈ t.cols, gOk c
  ccap : t.cols.length ≤ cc ∧ cc ≤ maxLen ∧ (ca = none → cc = 0)
  dcap : t.data.length ≤ dc ∧ dc ≤ maxLen ∧ (da = none → dc = 0)
theorem Tbl.next {w w' : World} {ca : Option Addr} {cc : Nat} {da : Option Addr} {dc : Nat} {t : Tb.T} (h : Tbl w w.heap.size ca cc da dc t) (hb : Below w.heap.size w w') : Tbl w' w'.heap.size ca cc da dc t :=
  ⟨h.gls.next at2_firm hb, h.dat.next hb, h.gOk, h.ccap, h.dcap⟩
theorem Tbl.null (w : World) (B : Nat) : Tbl w B none 0 none 0 Tb.nul := ⟨Sl.nil _ _ _, Dat.nil _ _ _, by simp [Tb.nul], ⟨Nat.le_refl _, by unfold maxLen; omega, fun _ => rfl⟩, ⟨Nat.le_refl _, by unfold maxLen; omega, fun _ => rfl⟩⟩
/-- a table's value -/
abbrev tag (ca : Option Addr) (n cc : Nat) (da : Option Addr) (m dc : Nat) : Value := .agg #[.slice ca n cc, .slice da m dc]
/-- a table that lies in blocks from B on: whatever becomes of those below -/
def FTab (B : Nat) (w : World) (ca : Option Addr) (cc : Nat) (da : Option Addr) (dc : Nat) (r : Tb.T) : Prop :=
  ∀ W : World, (∀ k, B ≤ k → k < w.heap.size → W.heap[k]? = w.heap[k]?) → w.heap.size ≤ W.heap.size → Tbl W W.heap.size ca cc da dc r
theorem FTab.tbl {B : Nat} {w : World} {ca : Option Addr} {cc : Nat} {da : Option Addr} {dc : Nat} {r : Tb.T} (h : FTab B w ca cc da dc r) : Tbl w w.heap.size ca cc da dc r := h w (fun _ _ _ => rfl) (Nat.le_refl _)
theorem FTab.null (B : Nat) (w : World) : FTab B w none 0 none 0 Tb.nul := fun W _ _ => Tbl.null _ _
def TabPost (r : Tb.T × Nat) (w : World) (e : Ending) (w' : World) : Prop :=
  ∃ ca cc da dc, e = .returned (.tuple #[tag ca r.1.cols.length cc da r.1.data.length dc, .int .i64 (r.2 : Nat)]) ∧ FTab w.heap.size w' ca cc da dc r.1 ∧ Below w.heap.size w w'

/-- a block of two cells -/
def Two (w : World) (b : Nat) (t : TypeId) (v0 v1 : Value) : Prop := w.heap[b]? = some (.cells #[v0, v1] t (0, 0))
section
variable {w w' : World} {b : Nat} {t : TypeId} {v0 v1 : Value}
theorem Two.c0 (h : Two w b t v0 v1) : w.cell? ⟨b, 0, none⟩ = some v0 := by unfold Two at h; simp [World.cell?, h]
theorem Two.c1 (h : Two w b t v0 v1) : w.cell? ⟨b, 1, none⟩ = some v1 := by unfold Two at h; simp [World.cell?, h]
theorem Two.free (h : Two w b t v0 v1) (i : Nat) : w.frozen? ⟨b, i, none⟩ = false := by unfold Two at h; simp [World.frozen?, h]
theorem Two.lt (h : Two w b t v0 v1) : b < w.heap.size := lt_of_block h
theorem Two.next (h : Two w b t v0 v1) (hb : Below w.heap.size w w') : Two w' b t v0 v1 := (hb.block b h.lt).trans h
theorem Two.below {B : Nat} (h : Two w b t v0 v1) (hb : Below B w w') (hlt : b < B) : Two w' b t v0 v1 := (hb.block b hlt).trans h
theorem Two.grown {row : Option Nat} (h : Two w b t v0 v1) (hg : w.grownBy w' row) (hne : some b ≠ row) : Two w' b t v0 v1 := (hg.block b h.lt hne).trans h
theorem Two.s0 (h : Two w b t v0 v1) (x : Value) : Two (w.setCell ⟨b, 0, none⟩ x) b t x v1 := by
  unfold Two at *; simp [World.setCell, Array.getElem?_modify, h]
theorem Two.s1 (h : Two w b t v0 v1) (x : Value) : Two (w.setCell ⟨b, 1, none⟩ x) b t v0 x := by
  unfold Two at *; simp [World.setCell, Array.getElem?_modify, h]
theorem two_new (w : World) (t : TypeId) (v0 v1 : Value) : Two (w.alloc (.cells #[v0, v1] t)) w.heap.size t v0 v1 := heap_alloc_new _ _
end

/-- a slice of columns of one's own -/
def GRow (B : Nat) (xs : List Tb.Col) (v : Value) (wr : World) : Prop := wr.ownsRow B 27 2 v xs.length (xs.flatMap gx)
theorem grow_gls {B : Nat} {xs : List Tb.Col} {v : Value} {w : World} (h : GRow B xs v w) : ∃ a c, v = .slice a xs.length c ∧ Gls w w.heap.size a xs ∧ (xs.length ≤ c ∧ c ≤ maxLen ∧ (a = none → c = 0)) := by
  unfold GRow at h
  rcases h.2 with ⟨rfl, h0⟩ | ⟨g, cap, cur, rfl, e2, e3, e4, e5, e6, e7⟩
  · refine ⟨none, 0, by rw [h0], ?_, by omega, by unfold maxLen; omega, fun _ => rfl⟩
    rw [List.eq_nil_of_length_eq_zero h0]; exact Sl.nil _ _ _
  · refine ⟨some ⟨g, 0, none⟩, cap, rfl, fun _ => ⟨g, 0, rfl, lt_of_block e3, fun i hi => ?_⟩, e4, e5, fun h => by cases h⟩
    have hc : ∀ j, j < 2 → w.cell? ⟨g, 0 + i * 2 + j, none⟩ = (gx (xs.getD i Tb.nulC))[j]? := fun j hj => by
      rw [Nat.zero_add, h.cellAt _ (by omega), fm_get (n := 2) (fun _ => rfl) xs Tb.nulC i j hi hj]
    exact ⟨hc 0 (by omega), hc 1 (by omega)⟩
theorem GRow.below {B : Nat} {xs : List Tb.Col} {v : Value} {w w' : World} (h : GRow B xs v w) (hb : Below w.heap.size w w') : GRow B xs v w' := row_below h hb
theorem gnilRow (B : Nat) (w : World) : GRow B [] (.slice none 0 0) w := ⟨rfl, Or.inl ⟨rfl, rfl⟩⟩
/-- a slice of slices of one's own: the values are vs -/
def VRow (B : Nat) (vs : List Value) (v : Value) (wr : World) : Prop := wr.ownsRow B 34 1 v vs.length vs
theorem VRow.below {B : Nat} {xs : List Value} {v : Value} {w w' : World} (h : VRow B xs v w) (hb : Below w.heap.size w w') : VRow B xs v w' := row_below h hb
theorem vnilRow (B : Nat) (w : World) : VRow B [] (.slice none 0 0) w := ⟨rfl, Or.inl ⟨rfl, rfl⟩⟩
/-- these values are these rows, to be read -/
def Reads (w : World) (vs : List Value) (l : List (List C.Cl)) : Prop := vs.length = l.length ∧ ∀ i, i < l.length → ∃ ai ci, vs[i]? = some (.slice ai (l.getD i []).length ci) ∧ RowIn w w.heap.size ai ci (l.getD i [])
theorem vrow_dat {B : Nat} {vs : List Value} {l : List (List C.Cl)} {v : Value} {w : World} (h : VRow B vs v w) (hr : Reads w vs l) : ∃ a c, v = .slice a l.length c ∧ Dat w w.heap.size a l ∧ (l.length ≤ c ∧ c ≤ maxLen ∧ (a = none → c = 0)) := by
  obtain ⟨hl, hr⟩ := hr
  unfold VRow at h
  rw [hl] at h
  rcases h.2 with ⟨rfl, h0⟩ | ⟨g, cap, cur, rfl, e2, e3, e4, e5, e6, e7⟩
  · refine ⟨none, 0, by rw [h0], ?_, by omega, by unfold maxLen; omega, fun _ => rfl⟩
    rw [List.eq_nil_of_length_eq_zero h0]; exact Dat.nil _ _ _
  · refine ⟨some ⟨g, 0, none⟩, cap, rfl, fun _ => ⟨g, 0, rfl, lt_of_block e3, fun i hi => ?_⟩, e4, e5, fun h => by cases h⟩
    obtain ⟨ai, ci, h1, h2⟩ := hr i hi
    exact ⟨ai, ci, by rw [Nat.zero_add, h.cellAt i (by omega)]; exact h1, h2⟩
theorem Reads.nil (w : World) : Reads w [] [] := ⟨rfl, fun i hi => absurd hi (by simp)⟩
theorem Reads.next {w w' : World} {vs : List Value} {l : List (List C.Cl)} (h : Reads w vs l) (hb : Below w.heap.size w w') : Reads w' vs l := ⟨h.1, fun i hi => by
  obtain ⟨ai, ci, h1, h2⟩ := h.2 i hi
  exact ⟨ai, ci, h1, h2.next hb⟩⟩
theorem Reads.snoc {w : World} {vs : List Value} {l : List (List C.Cl)} (h : Reads w vs l) {r : List C.Cl} {a : Option Addr} {c : Nat} (hr : RowIn w w.heap.size a c r) : Reads w (vs ++ [.slice a r.length c]) (l ++ [r]) := by
  refine ⟨by simp [h.1], fun i hi => ?_⟩
  by_cases hlt : i < l.length
  · obtain ⟨ai, ci, h1, h2⟩ := h.2 i hlt
    have e : (l ++ [r]).getD i [] = l.getD i [] := by simp [List.getD, List.getElem?_append_left hlt]
    rw [e]
    exact ⟨ai, ci, by rw [List.getElem?_append_left (by rw [h.1]; exact hlt)]; exact h1, h2⟩
  · have hi' : i = l.length := by simp at hi; omega
    subst hi'
    have e : (l ++ [r]).getD l.length [] = r := by simp [List.getD]
    rw [e]
    exact ⟨a, c, by rw [← h.1]; simp, hr⟩
theorem CRow.rowIn {B : Nat} {xs : List C.Cl} {a : Option Addr} {n c : Nat} {w : World} (h : CRow B xs (.slice a n c) w) (hok : ∀ x ∈ xs, cOk x) : n = xs.length ∧ RowIn w w.heap.size a c xs := by
  obtain ⟨a', c', e, h1, h2⟩ := cRow_cls h
  injection e with e1 e2 e3
  subst e1; subst e3
  exact ⟨e2, ⟨h2.1, h2.2.1, h2.2.2, hok, h1⟩⟩

/-- a table of one's own: its block G, columns, slices, rows; no two rows share a block -/
structure Own (w : World) (B G : Nat) (t : Tb.T) (cv dv : Value) (vs : List Value) : Prop where
  two : Two w G 25 cv dv
  ge : B ≤ G
  gro : GRow B t.cols cv w
  vro : VRow B vs dv w
  len : vs.length = t.data.length
  row : ∀ i, i < t.data.length → ∃ v, vs[i]? = some v ∧ CRow B (t.data.getD i []) v w
  far : ∀ (i j : Nat) (v u : Value), i < j → vs[i]? = some v → vs[j]? = some u → v.ownBlock = none ∨ v.ownBlock ≠ u.ownBlock
  okG : ∀ c ∈ t.cols, gOk c
  okC : ∀ l ∈ t.data, ∀ x ∈ l, cOk x

/-- a block of cells -/
def KindC (w : World) (b : Nat) : Prop := ∃ c fz, w.heap[b]? = some (.cells c 30 fz)
/-- what a change leaves: a table that lies in blocks from B on -/
structure Out (w : World) (B G : Nat) (r : Tb.T) (cv dv : Value) (vs : List Value) : Prop where
  two : Two w G 25 cv dv
  gro : GRow B r.cols cv w
  vro : VRow B vs dv w
  len : vs.length = r.data.length
  row : ∀ i, i < r.data.length → ∃ ai ci, vs[i]? = some (.slice ai (r.data.getD i []).length ci) ∧ RowIn w w.heap.size ai ci (r.data.getD i []) ∧ ∀ b o s, ai = some ⟨b, o, s⟩ → B ≤ b ∧ KindC w b
  okG : ∀ c ∈ r.cols, gOk c
def ClPost (B G : Nat) (er : Nat) (r : Tb.T) (w : World) (e : Ending) (w' : World) : Prop :=
  e = .returned (.int .i64 (er : Nat)) ∧ Below B w w' ∧ (er = 0 → ∃ cv dv vs, Out w' B G r cv dv vs)
end Go.Proofs.Ytnjnalehfhfefaa
/- Two columns, two lists of columns compared: slices.Equal, hypostyleref.SameColumns. -/
namespace Go.Proofs.Ytnjnalehfhfefaa
open Go.RowKit
set_option linter.unusedVariables false

theorem col_neq (w : World) (c d : Tb.Col) : (binOp .neq 27 (gag c) (gag d)).run Try.prog w = .ok (.bool (decide (c ≠ d))) w := by
  have hs : Try.prog.stoodInHeld 27 = false := by kernel_rfl
  unfold gag
  rw [run_neq_struct, run_equalIn_agg w 9999 27 _ _ (by kernel_rfl) hs]
  obtain ⟨a1, a2⟩ := c
  obtain ⟨b1, b2⟩ := d
  simp only
  simp [Program.fieldsOf, Try.underlying27, Op.eqFields, go_sem]
  rw [str_toList, str_toList]
  by_cases h1 : a1 = b1
  · by_cases h2 : a2 = b2
    · simp [h1, h2]
    · simp [h1, h2]
  · simp [h1]
theorem guard_col : Try.prog.eqGuardType Try.prog.depth 27 = false := by kernel_rfl
theorem guards_col (op : BinOp) : ∀ w o o' xs ys, (eqGuard op 27 o o' (.agg xs) (.agg ys)).run Try.prog w = .ok () w := fun w o o' xs ys => run_eqGuard_agg (P := Try.prog) w op 27 o o' xs ys guard_col
theorem gtake_succ (l : List Tb.Col) (k : Nat) (h : k < l.length) : l.take (k + 1) = l.take k ++ [l.getD k Tb.nulC] := by
  rw [List.take_succ_eq_append_getElem h]; simp [List.getD, List.getElem?_eq_getElem h]
theorem gtake_eq_succ (l m : List Tb.Col) (k : Nat) (hlm : l.length = m.length) (hk : k < l.length) (h : l.take k = m.take k) (hq : l.getD k Tb.nulC = m.getD k Tb.nulC) : l.take (k + 1) = m.take (k + 1) := by
  rw [gtake_succ l k hk, gtake_succ m k (by omega), h, hq]
theorem gne_at (l m : List Tb.Col) (k : Nat) (hq : l.getD k Tb.nulC ≠ m.getD k Tb.nulC) : ¬ l = m := fun e => hq (by rw [e])
theorem gtake_eq_all (l m : List Tb.Col) (k : Nat) (hlm : l.length = m.length) (hk : l.length ≤ k) (h : l.take k = m.take k) : l = m := by
  rwa [List.take_of_length_le hk, List.take_of_length_le (by omega)] at h

set_option maxHeartbeats 400000 in
theorem geq_len (a a' : Option Addr) (n m c c' : Nat) (w : World) (h : ((n : Int) != (m : Int)) = true) :
    Calls Try.prog 71 #[.slice a n c, .slice a' m c'] w (BoolPost false w) := by
  go_enter Try.func71, Try.ntmps71
  go_wp2_with fail
  go_ret
  exact ⟨rfl, Below.refl _ _⟩

set_option maxHeartbeats 400000 in
theorem geq_nil (a a' : Option Addr) (c c' : Nat) (w : World) :
    Calls Try.prog 71 #[.slice a 0 c, .slice a' 0 c'] w (BoolPost true w) := by
  go_enter Try.func71, Try.ntmps71
  go_wp2_with fail
  refine wp_loop_rounds 1 ?_
  rw [rounds_succ]
  go_wp2_with fail
  go_ret
  exact ⟨rfl, Below.refl _ _⟩

set_option maxHeartbeats 1000000 in
set_option maxRecDepth 100000 in
theorem geq_any (a a' : Option Addr) (c c' : Nat) (l m : List Tb.Col) (w : World) (B : Nat) (h1 : Gls w B a l) (h2 : Gls w B a' m) (hl : l.length < 9223372036854775807) :
    Calls Try.prog 71 #[.slice a l.length c, .slice a' m.length c'] w (BoolPost (decide (l = m)) w) := by
  by_cases hlm' : ¬ l.length = m.length
  · have hlm := hlm'
    rw [decide_eq_false (fun e => hlm (by rw [e]))]
    exact geq_len a a' _ _ c c' w (by simpa using (by omega : ¬ (l.length : Int) = (m.length : Int)))
  have hlm : l.length = m.length := Classical.not_not.1 hlm'
  clear hlm'
  by_cases hn : l = []
  · subst hn
    obtain rfl : m = [] := List.eq_nil_of_length_eq_zero hlm.symm
    exact geq_nil a a' c c' w
  obtain ⟨b, off, rfl, _, h1⟩ := h1 hn
  obtain ⟨b', off', rfl, _, h2⟩ := h2 (by intro e; rw [e] at hlm; exact hn (List.eq_nil_of_length_eq_zero hlm))
  rw [← hlm]
  have H1 := Lib.hid h1
  have H2 := Lib.hid h2
  have HL := Lib.hid hlm
  clear h1 h2 hlm hn
  go_enter Try.func71, Try.ntmps71
  go_wp2_with fail
  go_loopw [5, 13] (fun _ i wr => ∃ k d : Nat, k ≤ l.length ∧ i = .int .i64 k ∧ wr = w.drewN d ∧ Hid (l.take k = m.take k)) (fun _ i _ => l.length - (intOf i).toNat)
  case atStart => exact ⟨0, 0, by omega, rfl, rfl, Lib.hid (by simp)⟩
  case round =>
    obtain ⟨k, d, hk, rfl, rfl, HK⟩ := hrel
    by_cases hlt : k < l.length
    · obtain ⟨c1, c2⟩ := H1.out k hlt
      obtain ⟨d1, d2⟩ := H2.out k (by rw [← HL.out]; exact hlt)
      have HQ := Lib.hid (fun hq => gtake_eq_succ l m k HL.out hlt HK.out hq)
      have HNQ := Lib.hid (fun hq => gne_at l m k hq)
      generalize l.getD k Tb.nulC = p at *
      generalize m.getD k Tb.nulC = q at *
      have hgd := guards_col .neq
      have hne := fun w => col_neq w p q
      unfold gag at hne
      by_cases hq : p = q
      · have HT := Lib.hid (HQ.out hq)
        rw [decide_eq_false (fun e => e hq)] at hne
        generalize p.kind = p1 at *
        generalize str p.name = p3 at *
        generalize q.kind = q1 at *
        generalize str q.name = q3 at *
        clear hq HQ HNQ
        go_wp2_with fail
        go_quiet (fail)
        clear hne hgd
        go_wp2_with fail
        exact ⟨⟨k + 1, d + nq, by omega, by go_num, rfl, HT⟩, by simp [intOf]; omega⟩
      · have HN := Lib.hid (HNQ.out hq)
        rw [decide_eq_true hq] at hne
        generalize p.kind = p1 at *
        generalize str p.name = p3 at *
        generalize q.kind = q1 at *
        generalize str q.name = q3 at *
        clear hq HQ HNQ
        go_wp2_with fail
        go_quiet (fail)
        clear hne hgd
        go_wp2_with fail
        go_ret
        exact ⟨by rw [decide_eq_false HN.out]; rfl, below_drewN (below_drewN (Below.refl _ _) _) _⟩
    · have HE := Lib.hid (gtake_eq_all l m k HL.out (by omega) HK.out)
      go_wp2_with fail
      go_ret
      exact ⟨by rw [decide_eq_true HE.out]; rfl, below_drewN (Below.refl _ _) _⟩

set_option maxHeartbeats 400000 in
theorem gsame_len (a a' : Option Addr) (n m c c' : Nat) (w : World) (h : ((n : Int) != (m : Int)) = true) :
    Calls Try.prog 63 #[.slice a n c, .slice a' m c'] w (BoolPost false w) := by
  go_enter Try.func63, Try.ntmps63
  go_wp2_with fail
  go_ret
  exact ⟨rfl, Below.refl _ _⟩

set_option maxHeartbeats 400000 in
theorem gsame_nil (a a' : Option Addr) (c c' : Nat) (w : World) :
    Calls Try.prog 63 #[.slice a 0 c, .slice a' 0 c'] w (BoolPost true w) := by
  go_enter Try.func63, Try.ntmps63
  go_wp2_with fail
  refine wp_loop_rounds 1 ?_
  rw [rounds_succ]
  go_wp2_with fail
  go_ret
  exact ⟨rfl, Below.refl _ _⟩

set_option maxHeartbeats 1000000 in
set_option maxRecDepth 100000 in
theorem gsame_any (a a' : Option Addr) (c c' : Nat) (l m : List Tb.Col) (w : World) (B : Nat) (h1 : Gls w B a l) (h2 : Gls w B a' m) (hl : l.length < 9223372036854775807) :
    Calls Try.prog 63 #[.slice a l.length c, .slice a' m.length c'] w (BoolPost (decide (l = m)) w) := by
  by_cases hlm' : ¬ l.length = m.length
  · have hlm := hlm'
    rw [decide_eq_false (fun e => hlm (by rw [e]))]
    exact gsame_len a a' _ _ c c' w (by simpa using (by omega : ¬ (l.length : Int) = (m.length : Int)))
  have hlm : l.length = m.length := Classical.not_not.1 hlm'
  clear hlm'
  by_cases hn : l = []
  · subst hn
    obtain rfl : m = [] := List.eq_nil_of_length_eq_zero hlm.symm
    exact gsame_nil a a' c c' w
  obtain ⟨b, off, rfl, _, h1⟩ := h1 hn
  obtain ⟨b', off', rfl, _, h2⟩ := h2 (by intro e; rw [e] at hlm; exact hn (List.eq_nil_of_length_eq_zero hlm))
  rw [← hlm]
  have H1 := Lib.hid h1
  have H2 := Lib.hid h2
  have HL := Lib.hid hlm
  clear h1 h2 hlm hn
  go_enter Try.func63, Try.ntmps63
  go_wp2_with fail
  go_loopw [5] (fun i wr => ∃ k d : Nat, k ≤ l.length ∧ i = .int .i64 k ∧ wr = w.drewN d ∧ Hid (l.take k = m.take k)) (fun i _ => l.length - (intOf i).toNat)
  case atStart => exact ⟨0, 0, by omega, rfl, rfl, Lib.hid (by simp)⟩
  case round =>
    obtain ⟨k, d, hk, rfl, rfl, HK⟩ := hrel
    by_cases hlt : k < l.length
    · obtain ⟨c1, c2⟩ := H1.out k hlt
      obtain ⟨d1, d2⟩ := H2.out k (by rw [← HL.out]; exact hlt)
      have HQ := Lib.hid (fun hq => gtake_eq_succ l m k HL.out hlt HK.out hq)
      have HNQ := Lib.hid (fun hq => gne_at l m k hq)
      generalize l.getD k Tb.nulC = p at *
      generalize m.getD k Tb.nulC = q at *
      have hgd := guards_col .neq
      have hne := fun w => col_neq w p q
      unfold gag at hne
      by_cases hq : p = q
      · have HT := Lib.hid (HQ.out hq)
        rw [decide_eq_false (fun e => e hq)] at hne
        generalize p.kind = p1 at *
        generalize str p.name = p3 at *
        generalize q.kind = q1 at *
        generalize str q.name = q3 at *
        clear hq HQ HNQ
        go_wp2_with fail
        go_quiet (fail)
        clear hne hgd
        go_wp2_with fail
        exact ⟨⟨k + 1, d + nq, by omega, by go_num, rfl, HT⟩, by simp [intOf]; omega⟩
      · have HN := Lib.hid (HNQ.out hq)
        rw [decide_eq_true hq] at hne
        generalize p.kind = p1 at *
        generalize str p.name = p3 at *
        generalize q.kind = q1 at *
        generalize str q.name = q3 at *
        clear hq HQ HNQ
        go_wp2_with fail
        go_quiet (fail)
        clear hne hgd
        go_wp2_with fail
        go_ret
        exact ⟨by rw [decide_eq_false HN.out]; rfl, below_drewN (below_drewN (Below.refl _ _) _) _⟩
    · have HE := Lib.hid (gtake_eq_all l m k HL.out (by omega) HK.out)
      go_wp2_with fail
      go_ret
      exact ⟨by rw [decide_eq_true HE.out]; rfl, below_drewN (Below.refl _ _) _⟩
end Go.Proofs.Ytnjnalehfhfefaa
/- Append of columns, of slices of cells, at an operation of whatever region. -/
namespace Go.Proofs.Ytnjnalehfhfefaa
open Go.RowKit
set_option linter.unusedVariables false

theorem gx_get (l : List Tb.Col) (i j : Nat) (hi : i < l.length) (hj : j < 2) : (l.flatMap gx)[i * 2 + j]? = (gx (l.getD i Tb.nulC))[j]? := fm_get (n := 2) (fun _ => rfl) l Tb.nulC i j hi hj
theorem gx_len (l : List Tb.Col) : (l.flatMap gx).length = l.length * 2 := fm_len (n := 2) (fun _ => rfl) l
theorem gls_news {w : World} {B : Nat} {ad : Addr} {l : List Tb.Col} (hu : Gls w B (some ad) l) : ∀ j u, (l.flatMap gx)[j]? = some u → w.cell? (ad.add j) = some u := by
  intro j u hj
  have hjl : j < l.length * 2 := by
    rcases Nat.lt_or_ge j (l.length * 2) with h | h
    · exact h
    · rw [List.getElem?_eq_none (by rw [gx_len]; exact h)] at hj; simp at hj
  obtain ⟨b, off, e, _, hc⟩ := hu (by intro e; rw [e] at hjl; simp at hjl)
  have e := Option.some.inj e
  subst e
  have hadd : (⟨b, off, none⟩ : Addr).add j = ⟨b, off + j, none⟩ := by unfold Addr.add; split <;> simp_all
  have hk : j / 2 < l.length := by omega
  obtain ⟨c0, c1⟩ := hc (j / 2) hk
  rw [hadd]
  have h2 : j % 2 = 0 ∨ j % 2 = 1 := by omega
  rcases h2 with h | h
  · have g := gx_get l (j / 2) 0 hk (by omega)
    rw [show off + j / 2 * 2 = off + j by omega] at c0
    rw [show j / 2 * 2 + 0 = j by omega] at g
    rw [c0, ← hj, g]; rfl
  · have g := gx_get l (j / 2) 1 hk (by omega)
    rw [show off + j / 2 * 2 + 1 = off + j by omega] at c1
    rw [show j / 2 * 2 + 1 = j by omega] at g
    rw [c1, ← hj, g]; rfl
theorem wp_append_gls {w : World} {o : Oper} {a : Act} {K : Act → World → Prop} {Q : Exit → Act → World → Prop} (s x : Operand)
    (ho : o.op = .call { callee := .builtin .append, args := #[s, x], argTypes := #[22, 22] }) (base : Nat)
    (v : Value) (xs : List Tb.Col) (hs : a.eval s = v) (hown : GRow base xs v w)
    (A : Option Addr) (m c : Nat) (l : List Tb.Col) (hm : l.length = m) (hx : a.eval x = .slice A m c) (hnil : A = none → c = 0) (hu : Gls w w.heap.size A l)
    (hbytes : (xs.length + m) * 24 ≤ 140737488355328) (hbase : base ≤ w.heap.size)
    (h : ∀ v' w', GRow base (xs ++ l) v' w' → Below base w w' → (∀ k, k < w.heap.size → some k ≠ v.ownBlock → w'.heap[k]? = w.heap[k]?) → w.heap.size ≤ w'.heap.size → K (a.put o.dst v') w') : o.wp Try.prog a w K Q := by
  obtain ⟨i, hi, hz0, hz1, hz2⟩ := info_parts info_col
  match A, hnil, hu, hx with
  | none, hnil, hu, hx =>
    have hl : l = [] := by
      by_cases hl : l = []
      · exact hl
      · obtain ⟨b, off, e, _⟩ := hu hl; cases e
    subst hl
    obtain rfl : m = 0 := hm.symm
    obtain rfl : c = 0 := hnil rfl
    have hrun := run_append_owned_none (P := Try.prog) (w := w) base 22 o.type 27 i 2 Try.underlying22 hi v xs.length (xs.flatMap gx) hown
    unfold Oper.wp
    simp [execOp, ho, resolve, invoke, builtin, hs, hx, hrun, Result.andThen]
    exact h v w (by simpa using hown) (Below.refl _ _) (fun _ _ _ => rfl) (Nat.le_refl _)
  | some ad, hnil, hu, hx =>
    refine wp_append_own w s x 22 ho base 27 i (.agg #[.string ByteArray.empty, .int .i64 0]) 2 24 Try.underlying22 hi hz0 hz1 hz2 rfl (by decide) v xs.length (xs.flatMap gx) hs hown ad m c (l.flatMap gx) hx (by rw [gx_len, hm]) (gls_news hu) ?_ (by unfold maxLen; omega) hbytes hbase (fun v' w' h1 h2 _ => h v' w' ?_ ?_ (fun k hk hne => h2.block k hk hne) h2.size)
    · intro u hu
      simp only [List.mem_flatMap] at hu
      obtain ⟨x, _, hx⟩ := hu
      simp [gx] at hx
      rcases hx with rfl | rfl <;> rfl
    · unfold GRow; rw [List.flatMap_append, List.length_append, hm]; exact h1
    · exact (Below.refl base w).grown h2 hbase (fun k hk => (hown.lt k hk).1)
theorem wpList_append_gls {w : World} {ops : Array Oper} {rest : List Oper} {o : Oper} {a : Act} {Q : Exit → Act → World → Prop} (hgd : o.guard = none) (s x : Operand)
    (ho : o.op = .call { callee := .builtin .append, args := #[s, x], argTypes := #[22, 22] }) (base : Nat)
    (v : Value) (xs : List Tb.Col) (hs : a.eval s = v) (hown : GRow base xs v w)
    (A : Option Addr) (m c : Nat) (l : List Tb.Col) (hm : l.length = m) (hx : a.eval x = .slice A m c) (hnil : A = none → c = 0) (hu : Gls w w.heap.size A l)
    (hbytes : (xs.length + m) * 24 ≤ 140737488355328) (hbase : base ≤ w.heap.size)
    (h : ∀ v' w', GRow base (xs ++ l) v' w' → Below base w w' → (∀ k, k < w.heap.size → some k ≠ v.ownBlock → w'.heap[k]? = w.heap[k]?) → w.heap.size ≤ w'.heap.size → wpList Try.prog ops Q rest (a.put o.dst v') w') : wpList Try.prog ops Q (o :: rest) a w := by
  exact wpList_plain hgd fun _ hK => wp_append_gls s x ho base v xs hs hown A m c l hm hx hnil hu hbytes hbase (fun v' w' h1 h2 h3 h4 => hK _ _ (h v' w' h1 h2 h3 h4))
theorem step_append_gls {w : World} {ops : Array Oper} {o : Oper} {a : Act} {K : Act → World → Prop} {Q : Exit → Act → World → Prop} {E : Prop} (hw : Region.wanted o (yielded ops a.tmps) = true) (s x : Operand)
    (ho : o.op = .call { callee := .builtin .append, args := #[s, x], argTypes := #[22, 22] }) (base : Nat)
    (v : Value) (xs : List Tb.Col) (hs : a.eval s = v) (hown : GRow base xs v w)
    (A : Option Addr) (m c : Nat) (l : List Tb.Col) (hm : l.length = m) (hx : a.eval x = .slice A m c) (hnil : A = none → c = 0) (hu : Gls w w.heap.size A l)
    (hbytes : (xs.length + m) * 24 ≤ 140737488355328) (hbase : base ≤ w.heap.size)
    (h : ∀ v' w', GRow base (xs ++ l) v' w' → Below base w w' → (∀ k, k < w.heap.size → some k ≠ v.ownBlock → w'.heap[k]? = w.heap[k]?) → w.heap.size ≤ w'.heap.size → K (a.put o.dst v') w') :
    if Region.wanted o (yielded ops a.tmps) = true then Oper.wp Try.prog o a w K Q else E := by
  rw [if_pos hw]
  exact wp_append_gls s x ho base v xs hs hown A m c l hm hx hnil hu hbytes hbase h
theorem gempty (B : Nat) (w : World) (hB : B ≤ w.heap.size) : GRow B [] (.slice (some ⟨w.heap.size, 0, none⟩) 0 0) (w.alloc (.cells #[] 27)) :=
  ⟨by simp, Or.inr ⟨w.heap.size, 0, #[], rfl, hB, heap_alloc_new w _, Nat.le_refl _, by unfold maxLen; omega, rfl, rfl⟩⟩

/-- one slice of cells more, out of a block that holds it -/
theorem wp_append_v {w : World} {o : Oper} {a : Act} {K : Act → World → Prop} {Q : Exit → Act → World → Prop} (s x : Operand)
    (ho : o.op = .call { callee := .builtin .append, args := #[s, x], argTypes := #[23, 23] }) (base : Nat)
    (v : Value) (xs : List Value) (hs : a.eval s = v) (hown : VRow base xs v w)
    (g : Nat) (u : Value) (hx : a.eval x = .slice (some ⟨g, 0, none⟩) 1 1) (hu : w.cell? ⟨g, 0, none⟩ = some u) (hu1 : u.oneCell' = true)
    (hbytes : (xs.length + 1) * 24 ≤ 140737488355328) (hbase : base ≤ w.heap.size)
    (h : ∀ v' w', VRow base (xs ++ [u]) v' w' → Below base w w' → (∀ k, k < w.heap.size → some k ≠ v.ownBlock → w'.heap[k]? = w.heap[k]?) → w.heap.size ≤ w'.heap.size → K (a.put o.dst v') w') : o.wp Try.prog a w K Q := by
  obtain ⟨i, hi, hz0, hz1, hz2⟩ := info_parts info_row
  refine wp_append_own w s x 23 ho base 34 i (.slice none 0 0) 1 24 Try.underlying23 hi hz0 hz1 hz2 rfl (by decide) v xs.length xs hs hown ⟨g, 0, none⟩ 1 1 [u] hx rfl ?_ ?_ (by unfold maxLen; omega) hbytes hbase (fun v' w' h1 h2 _ => h v' w' ?_ ?_ (fun k hk hne => h2.block k hk hne) h2.size)
  · intro j y hj
    match j, hj with
    | 0, hj => simp at hj; subst hj; simpa [Addr.add] using hu
  · intro y hy; rw [List.mem_singleton.1 hy]; exact hu1
  · unfold VRow; rw [List.length_append]; exact h1
  · exact (Below.refl base w).grown h2 hbase (fun k hk => (hown.lt k hk).1)
theorem wpList_append_v {w : World} {ops : Array Oper} {rest : List Oper} {o : Oper} {a : Act} {Q : Exit → Act → World → Prop} (hgd : o.guard = none) (s x : Operand)
    (ho : o.op = .call { callee := .builtin .append, args := #[s, x], argTypes := #[23, 23] }) (base : Nat)
    (v : Value) (xs : List Value) (hs : a.eval s = v) (hown : VRow base xs v w)
    (g : Nat) (u : Value) (hx : a.eval x = .slice (some ⟨g, 0, none⟩) 1 1) (hu : w.cell? ⟨g, 0, none⟩ = some u) (hu1 : u.oneCell' = true)
    (hbytes : (xs.length + 1) * 24 ≤ 140737488355328) (hbase : base ≤ w.heap.size)
    (h : ∀ v' w', VRow base (xs ++ [u]) v' w' → Below base w w' → (∀ k, k < w.heap.size → some k ≠ v.ownBlock → w'.heap[k]? = w.heap[k]?) → w.heap.size ≤ w'.heap.size → wpList Try.prog ops Q rest (a.put o.dst v') w') : wpList Try.prog ops Q (o :: rest) a w := by
  exact wpList_plain hgd fun _ hK => wp_append_v s x ho base v xs hs hown g u hx hu hu1 hbytes hbase (fun v' w' h1 h2 h3 h4 => hK _ _ (h v' w' h1 h2 h3 h4))
theorem step_append_v {w : World} {ops : Array Oper} {o : Oper} {a : Act} {K : Act → World → Prop} {Q : Exit → Act → World → Prop} {E : Prop} (hw : Region.wanted o (yielded ops a.tmps) = true) (s x : Operand)
    (ho : o.op = .call { callee := .builtin .append, args := #[s, x], argTypes := #[23, 23] }) (base : Nat)
    (v : Value) (xs : List Value) (hs : a.eval s = v) (hown : VRow base xs v w)
    (g : Nat) (u : Value) (hx : a.eval x = .slice (some ⟨g, 0, none⟩) 1 1) (hu : w.cell? ⟨g, 0, none⟩ = some u) (hu1 : u.oneCell' = true)
    (hbytes : (xs.length + 1) * 24 ≤ 140737488355328) (hbase : base ≤ w.heap.size)
    (h : ∀ v' w', VRow base (xs ++ [u]) v' w' → Below base w w' → (∀ k, k < w.heap.size → some k ≠ v.ownBlock → w'.heap[k]? = w.heap[k]?) → w.heap.size ≤ w'.heap.size → K (a.put o.dst v') w') :
    if Region.wanted o (yielded ops a.tmps) = true then Oper.wp Try.prog o a w K Q else E := by
  rw [if_pos hw]
  exact wp_append_v s x ho base v xs hs hown g u hx hu hu1 hbytes hbase h
theorem wpList_append_cs {w : World} {ops : Array Oper} {rest : List Oper} {o : Oper} {a : Act} {Q : Exit → Act → World → Prop} (hgd : o.guard = none) (s x : Operand)
    (ho : o.op = .call { callee := .builtin .append, args := #[s, x], argTypes := #[34, 34] }) (base : Nat)
    (v : Value) (xs : List C.Cl) (hs : a.eval s = v) (hown : CRow base xs v w)
    (A : Option Addr) (m c : Nat) (l : List C.Cl) (hm : l.length = m) (hx : a.eval x = .slice A m c) (hnil : A = none → c = 0) (hu : Cls w w.heap.size A l)
    (hbytes : (xs.length + m) * 32 ≤ 140737488355328) (hbase : base ≤ w.heap.size)
    (h : ∀ v' w', CRow base (xs ++ l) v' w' → Below base w w' → (∀ k, k < w.heap.size → some k ≠ v.ownBlock → w'.heap[k]? = w.heap[k]?) → w.heap.size ≤ w'.heap.size → wpList Try.prog ops Q rest (a.put o.dst v') w') : wpList Try.prog ops Q (o :: rest) a w := by
  exact wpList_plain hgd fun _ hK => wp_append_cells s x ho base v xs hs hown A m c l hm hx hnil hu hbytes hbase (fun v' w' h1 h2 h3 h4 => hK _ _ (h v' w' h1 h2 h3 h4))
end Go.Proofs.Ytnjnalehfhfefaa
/- A table of one's own: how it is carried, read, and grows. -/
namespace Go.Proofs.Ytnjnalehfhfefaa
open Go.RowKit
set_option linter.unusedVariables false

theorem row_move {w w' : World} {B : Nat} {e : TypeId} {sz : Nat} {v : Value} {n : Nat} {xs : List Value} (h : w.ownsRow B e sz v n xs) (hs : ∀ g, v.ownBlock = some g → w'.heap[g]? = w.heap[g]?) : w'.ownsRow B e sz v n xs := by
  refine ⟨h.1, ?_⟩
  rcases h.2 with hn | ⟨g, cap, cur, e1, e2, e3, e4⟩
  · exact Or.inl hn
  · exact Or.inr ⟨g, cap, cur, e1, e2, (hs g (by rw [e1]; rfl)).trans e3, e4⟩
/-- rows of unlike kinds share no block -/
theorem row_kinds {w : World} {B B' : Nat} {e e' : TypeId} {sz sz' : Nat} {v v' : Value} {n n' : Nat} {xs xs' : List Value} (h : w.ownsRow B e sz v n xs) (h' : w.ownsRow B' e' sz' v' n' xs') (hne : e ≠ e') {g : Nat} (hg : v.ownBlock = some g) : some g ≠ v'.ownBlock := by
  intro hg'
  obtain ⟨c, fz, k1⟩ := Lib.ownsRow_kind h g hg
  obtain ⟨c', fz', k2⟩ := Lib.ownsRow_kind h' g hg'.symm
  rw [k1] at k2
  injection k2 with k2
  injection k2 with k3 k4
  exact hne k4
theorem two_kind {w : World} {B G : Nat} {e t : TypeId} {sz : Nat} {v v0 v1 : Value} {n : Nat} {xs : List Value} (h : w.ownsRow B e sz v n xs) (h' : Two w G t v0 v1) (hne : e ≠ t) : some G ≠ v.ownBlock := by
  intro hg
  obtain ⟨c, fz, k1⟩ := Lib.ownsRow_kind h G hg.symm
  unfold Two at h'
  rw [k1] at h'
  injection h' with k2
  injection k2 with k3 k4
  exact hne k4
theorem heap_set (w : World) (a : Addr) (u : Value) (k : Nat) (h : k ≠ a.block) : (w.setCell a u).heap[k]? = w.heap[k]? := Below.heap_setCell w a u k h

section
variable {w : World} {B G : Nat} {t : Tb.T} {cv dv : Value} {vs : List Value}
theorem Own.gG (h : Own w B G t cv dv vs) : some G ≠ cv.ownBlock := two_kind h.gro h.two (by decide)
theorem Own.gD (h : Own w B G t cv dv vs) : some G ≠ dv.ownBlock := two_kind h.vro h.two (by decide)
theorem Own.lt (h : Own w B G t cv dv vs) : G < w.heap.size := h.two.lt
theorem Own.base (h : Own w B G t cv dv vs) : B ≤ w.heap.size := Nat.le_trans h.ge (Nat.le_of_lt h.lt)
theorem Own.move {w' : World} (h : Own w B G t cv dv vs) (hb : Below w.heap.size w w') : Own w' B G t cv dv vs where
  two := h.two.next hb
  ge := h.ge
  gro := h.gro.below hb
  vro := h.vro.below hb
  len := h.len
  row := fun i hi => by
    obtain ⟨v, h1, h2⟩ := h.row i hi
    exact ⟨v, h1, h2.below hb⟩
  far := h.far
  okG := h.okG
  okC := h.okC
theorem Own.reads (h : Own w B G t cv dv vs) : Reads w vs t.data := ⟨h.len, fun i hi => by
  obtain ⟨v, h1, h2⟩ := h.row i hi
  obtain ⟨a, c, rfl, h3, h4⟩ := cRow_cls h2
  have hm : t.data.getD i [] ∈ t.data := by
    simp only [List.getD, List.getElem?_eq_getElem hi, Option.getD_some]
    exact List.getElem_mem hi
  exact ⟨a, c, h1, ⟨h4.1, h4.2.1, h4.2.2, h.okC _ hm, h3⟩⟩⟩
theorem Own.tbl (h : Own w B G t cv dv vs) : ∃ ca cc da dc, cv = .slice ca t.cols.length cc ∧ dv = .slice da t.data.length dc ∧ Tbl w w.heap.size ca cc da dc t := by
  obtain ⟨ca, cc, rfl, h1, h2⟩ := grow_gls h.gro
  obtain ⟨da, dc, rfl, h3, h4⟩ := vrow_dat h.vro h.reads
  exact ⟨ca, cc, da, dc, rfl, rfl, h1, h3, h.okG, h2, h4⟩
end

/-- a row more -/
theorem Own.push {wr w9 w4 : World} {B G : Nat} {cols : List Tb.Col} {l : List (List C.Cl)} {cv dv v' u : Value} {vs : List Value} {row : List C.Cl} {o : Obj} (h : Own wr B G ⟨cols, l⟩ cv dv vs) (hb : Below wr.heap.size wr w9) (hu : CRow wr.heap.size row u w9)
    (hok : ∀ x ∈ row, cOk x) (h4 : VRow B (vs ++ [u]) v' w4) (hfar : ∀ k, k < (w9.alloc o).heap.size → some k ≠ dv.ownBlock → w4.heap[k]? = (w9.alloc o).heap[k]?) : Own (w4.setCell ⟨G, 1, none⟩ v') B G ⟨cols, l ++ [row]⟩ cv v' (vs ++ [u]) := by
  have h9 := h.move hb
  have hal : Below w9.heap.size w9 (w9.alloc o) := (Below.refl _ _).alloc (Nat.le_refl _) _
  have hA := h9.move hal
  have hu9 : CRow wr.heap.size row u (w9.alloc o) := hu.below hal
  have same : ∀ g, g < (w9.alloc o).heap.size → some g ≠ dv.ownBlock → g ≠ G → (w4.setCell ⟨G, 1, none⟩ v').heap[g]? = (w9.alloc o).heap[g]? := fun g h1 h2 h3 => by
    rw [heap_set _ _ _ _ h3]; exact hfar g h1 h2
  have hrow : ∀ {r v}, CRow B r v (w9.alloc o) → CRow B r v (w4.setCell ⟨G, 1, none⟩ v') := fun {r v} hr => row_move hr (fun g hg => same g (hr.lt g hg).2 (row_kinds hr hA.vro (by decide) hg) (fun e => two_kind hr hA.two (by decide) (by rw [hg, e])))
  have hlw : wr.heap.size ≤ (w9.alloc o).heap.size := Nat.le_trans hb.size hal.size
  have tw4 : Two w4 G 25 cv dv := (hfar G hA.lt hA.gD).trans hA.two
  refine ⟨tw4.s1 v', h.ge, ?_, ?_, ?_, ?_, ?_, h.okG, ?_⟩
  · exact row_move hA.gro (fun g hg => same g (hA.gro.lt g hg).2 (row_kinds hA.gro hA.vro (by decide) hg) (fun e => hA.gG (by rw [hg, e])))
  · exact row_move h4 (fun g hg => heap_set _ _ _ _ (fun e => two_kind h4 tw4 (by decide) (by rw [hg, e])))
  · simp [h.len]
  · intro i hi
    by_cases hlt : i < l.length
    · obtain ⟨v, h1, h2⟩ := hA.row i hlt
      have e : (l ++ [row]).getD i [] = l.getD i [] := by simp [List.getD, List.getElem?_append_left hlt]
      exact ⟨v, by rw [List.getElem?_append_left (by rw [h.len]; exact hlt)]; exact h1, by show CRow B ((l ++ [row]).getD i []) v _; rw [e]; exact hrow h2⟩
    · have hi' : i = l.length := by simp at hi; omega
      subst hi'
      have e : (l ++ [row]).getD l.length [] = row := by simp [List.getD]
      refine ⟨u, by have := h.len; simp only at this; rw [← this]; simp, ?_⟩
      show CRow B ((l ++ [row]).getD l.length []) u _
      rw [e]
      exact hrow (hu9.weak h.base)
  · intro i j v x hij hv hx
    by_cases hj : j < vs.length
    · rw [List.getElem?_append_left hj] at hx
      rw [List.getElem?_append_left (by omega)] at hv
      exact h.far i j v x hij hv hx
    · by_cases hj2 : j = vs.length
      · subst hj2
        have hx' : x = u := by simp at hx; exact hx.symm
        subst hx'
        rw [List.getElem?_append_left hij] at hv
        have hl := h.len
        simp only at hl
        obtain ⟨v2, h1, h2⟩ := h.row i (by simp only; omega)
        have : v = v2 := by rw [hv] at h1; exact Option.some.inj h1
        subst this
        cases hvb : v.ownBlock with
        | none => exact Or.inl rfl
        | some g =>
          right
          intro hg
          have k1 := (h2.lt g hvb).2
          have k2 := (hu.lt g hg.symm).1
          omega
      · rw [List.getElem?_eq_none (by simp; omega)] at hx; cases hx
  · intro r hr
    rcases List.mem_append.1 hr with hr | hr
    · exact h.okC r hr
    · rw [List.mem_singleton.1 hr]; exact hok
/-- the beginning: columns, no row -/
theorem Own.start {w : World} {B : Nat} {cols : List Tb.Col} {cv : Value} (hg : GRow B cols cv w) (hB : B ≤ w.heap.size) (hok : ∀ c ∈ cols, gOk c) : Own (w.alloc (.cells #[cv, .slice none 0 0] 25)) B w.heap.size ⟨cols, []⟩ cv (.slice none 0 0) [] where
  two := two_new _ _ _ _
  ge := hB
  gro := World.ownsRow.alloc hg _
  vro := vnilRow _ _
  len := rfl
  row := fun i hi => absurd hi (by simp)
  far := fun i j v u _ hv _ => by simp at hv
  okG := hok
  okC := fun l hl => by simp at hl
theorem Own.out {w : World} {B G : Nat} {t : Tb.T} {cv dv : Value} {vs : List Value} (h : Own w B G t cv dv vs) : Out w B G t cv dv vs where
  two := h.two
  gro := h.gro
  vro := h.vro
  len := h.len
  okG := h.okG
  row := fun i hi => by
    obtain ⟨v, h1, h2⟩ := h.row i hi
    obtain ⟨a, c, rfl, h3, h4⟩ := cRow_cls h2
    have hm : t.data.getD i [] ∈ t.data := by
      simp only [List.getD, List.getElem?_eq_getElem hi, Option.getD_some]
      exact List.getElem_mem hi
    exact ⟨a, c, h1, ⟨h4.1, h4.2.1, h4.2.2, h.okC _ hm, h3⟩, fun b o s e => ⟨(h2.lt b (by rw [e]; rfl)).1, Lib.ownsRow_kind h2 b (by rw [e]; rfl)⟩⟩
theorem Out.gG {w : World} {B G : Nat} {t : Tb.T} {cv dv : Value} {vs : List Value} (h : Out w B G t cv dv vs) : some G ≠ cv.ownBlock := two_kind h.gro h.two (by decide)
theorem Out.gD {w : World} {B G : Nat} {t : Tb.T} {cv dv : Value} {vs : List Value} (h : Out w B G t cv dv vs) : some G ≠ dv.ownBlock := two_kind h.vro h.two (by decide)
theorem RowIn.same {w w' : World} {a : Option Addr} {c : Nat} {r : List C.Cl} (h : RowIn w w.heap.size a c r) (hs : ∀ b o s, a = some ⟨b, o, s⟩ → w'.heap[b]? = w.heap[b]?) (hsz : w.heap.size ≤ w'.heap.size) : RowIn w' w'.heap.size a c r := by
  refine ⟨h.len, h.cap, h.nil, h.ok, ?_⟩
  intro hne
  obtain ⟨b, off, rfl, hb, hc⟩ := h.cls hne
  have hk := hs b off none rfl
  refine ⟨b, off, rfl, by omega, fun j hj => ?_⟩
  obtain ⟨c0, c1, c2⟩ := hc j hj
  exact ⟨(World.cell?_of_block (a := ⟨b, off + j * 3, none⟩) hk).trans c0, (World.cell?_of_block (a := ⟨b, off + j * 3 + 1, none⟩) hk).trans c1, (World.cell?_of_block (a := ⟨b, off + j * 3 + 2, none⟩) hk).trans c2⟩
theorem KindC.lt {w : World} {b : Nat} (h : KindC w b) : b < w.heap.size := by
  obtain ⟨c, fz, h⟩ := h
  exact lt_of_block h
theorem Out.move {w w' : World} {B G : Nat} {t : Tb.T} {cv dv : Value} {vs : List Value} (h : Out w B G t cv dv vs) (hb : Below w.heap.size w w') : Out w' B G t cv dv vs where
  two := h.two.next hb
  gro := h.gro.below hb
  vro := h.vro.below hb
  len := h.len
  okG := h.okG
  row := fun i hi => by
    obtain ⟨ai, ci, h1, h2, h3⟩ := h.row i hi
    refine ⟨ai, ci, h1, h2.next hb, fun b o s e => ⟨(h3 b o s e).1, ?_⟩⟩
    obtain ⟨c, fz, k⟩ := (h3 b o s e).2
    exact ⟨c, fz, (hb.block b (lt_of_block k)).trans k⟩
/-- a row's slice stored in the slice of rows -/
theorem Out.set {w : World} {B G g n c : Nat} {t : Tb.T} {cv : Value} {vs : List Value} {i : Nat} {a : Option Addr} {ci : Nat} {row : List C.Cl} (h : Out w B G t cv (.slice (some ⟨g, 0, none⟩) n c) vs) (hi : i < t.data.length)
    (hr : RowIn w w.heap.size a ci row) (hk : ∀ b o s, a = some ⟨b, o, s⟩ → B ≤ b ∧ KindC w b) :
    Out (w.setCell ⟨g, i, none⟩ (.slice a row.length ci)) B G ⟨t.cols, t.data.set i row⟩ cv (.slice (some ⟨g, 0, none⟩) n c) (vs.set i (.slice a row.length ci)) := by
  have hn : n = vs.length := by
    rcases h.vro.2 with ⟨e, _⟩ | ⟨g', cap, cur, e, _⟩
    · cases e
    · injection e with _ e2 _
  subst hn
  have same : ∀ k, k ≠ g → (w.setCell ⟨g, i, none⟩ (.slice a row.length ci)).heap[k]? = w.heap[k]? := fun k hk => heap_set _ _ _ _ hk
  have hkg : ∀ {b}, KindC w b → b ≠ g := fun {b} hb e => by
    obtain ⟨c1, f1, k1⟩ := hb
    obtain ⟨c2, f2, k2⟩ := Lib.ownsRow_kind h.vro g rfl
    rw [e, k2] at k1
    injection k1 with k1
    injection k1 with _ k3 _
    exact absurd k3 (by decide)
  have kk : ∀ {b}, KindC w b → KindC (w.setCell ⟨g, i, none⟩ (.slice a row.length ci)) b := fun {b} hb => by
    have hne := hkg hb
    obtain ⟨c1, f1, k1⟩ := hb
    exact ⟨c1, f1, (same b hne).trans k1⟩
  have hsz : w.heap.size ≤ (w.setCell ⟨g, i, none⟩ (.slice a row.length ci)).heap.size := by simp
  refine ⟨(same G (fun e => h.gD (by rw [e]; rfl))).trans h.two, ?_, ?_, by simp [h.len], ?_, h.okG⟩
  · exact row_move h.gro (fun k hk => same k (fun e => row_kinds h.gro h.vro (by decide) hk (by rw [e]; rfl)))
  · have hr := (World.ownsRow.stored h.vro i (.slice a row.length ci)).1
    unfold VRow
    rw [List.length_set]
    exact hr
  · intro j hj
    simp only [List.length_set] at hj
    by_cases hij : i = j
    · subst hij
      have e : (t.data.set i row).getD i [] = row := by simp [List.getD, hi]
      show ∃ ai ci', _ = some (Value.slice ai ((t.data.set i row).getD i []).length ci') ∧ RowIn _ _ ai ci' ((t.data.set i row).getD i []) ∧ _
      rw [e]
      refine ⟨a, ci, by rw [List.getElem?_set_self (by rw [h.len]; exact hi)], hr.same (fun b o s e => same b (hkg (hk b o s e).2)) hsz, fun b o s e => ⟨(hk b o s e).1, kk (hk b o s e).2⟩⟩
    · have e : (t.data.set i row).getD j [] = t.data.getD j [] := by simp [List.getD, List.getElem?_set_ne hij]
      show ∃ ai ci', _ = some (Value.slice ai ((t.data.set i row).getD j []).length ci') ∧ RowIn _ _ ai ci' ((t.data.set i row).getD j []) ∧ _
      rw [e]
      obtain ⟨aj, cj, h1, h2, h3⟩ := h.row j hj
      exact ⟨aj, cj, by rw [List.getElem?_set_ne hij]; exact h1, h2.same (fun b o s e => same b (hkg (h3 b o s e).2)) hsz, fun b o s e => ⟨(h3 b o s e).1, kk (h3 b o s e).2⟩⟩
theorem Out.tbl {w W : World} {B G : Nat} {r : Tb.T} {cv dv : Value} {vs : List Value} (h : Out w B G r cv dv vs) (hag : ∀ k, B ≤ k → k < w.heap.size → W.heap[k]? = w.heap[k]?) (hsz : w.heap.size ≤ W.heap.size) :
    ∃ ca cc da dc, cv = .slice ca r.cols.length cc ∧ dv = .slice da r.data.length dc ∧ Tbl W W.heap.size ca cc da dc r := by
  have hg : GRow B r.cols cv W := row_move h.gro (fun g hg => hag g (h.gro.lt g hg).1 (h.gro.lt g hg).2)
  have hv : VRow B vs dv W := row_move h.vro (fun g hg => hag g (h.vro.lt g hg).1 (h.vro.lt g hg).2)
  have hr : Reads W vs r.data := ⟨h.len, fun i hi => by
    obtain ⟨ai, ci, h1, h2, h3⟩ := h.row i hi
    refine ⟨ai, ci, h1, h2.len, h2.cap, h2.nil, h2.ok, ?_⟩
    intro hne
    obtain ⟨b, off, rfl, hb, hc⟩ := h2.cls hne
    have hk := hag b (h3 b off none rfl).1 hb
    refine ⟨b, off, rfl, by omega, fun j hj => ?_⟩
    obtain ⟨c0, c1, c2⟩ := hc j hj
    exact ⟨(World.cell?_of_block (a := ⟨b, off + j * 3, none⟩) hk).trans c0, (World.cell?_of_block (a := ⟨b, off + j * 3 + 1, none⟩) hk).trans c1, (World.cell?_of_block (a := ⟨b, off + j * 3 + 2, none⟩) hk).trans c2⟩⟩
  obtain ⟨ca, cc, rfl, h1, h2⟩ := grow_gls hg
  obtain ⟨da, dc, rfl, h3, h4⟩ := vrow_dat hv hr
  exact ⟨ca, cc, da, dc, rfl, rfl, h1, h3, h.okG, h2, h4⟩
end Go.Proofs.Ytnjnalehfhfefaa
/- What the walks of the table's calls want. -/
namespace Go.Proofs.Ytnjnalehfhfefaa
open Go.RowKit
set_option linter.unusedVariables false

theorem Tri.next' {w w' : World} {b : Nat} {v0 v1 v2 : Value} (h : Tri w b v0 v1 v2) (hb : Below w.heap.size w w') : Tri w' b v0 v1 v2 := (hb.block b h.lt).trans h
/-- stores into a block below leave the table -/
theorem ftab_set {w0 w1 : World} {ra : Option Addr} {rc : Nat} {rda : Option Addr} {rdc RB B : Nat} {r : Tb.T} (h : FTab w0.heap.size w1 ra rc rda rdc r) (hl : RB < w0.heap.size) (hB : B ≤ w0.heap.size) (u v : Value) :
    FTab B ((w1.setCell ⟨RB, 0, none⟩ u).setCell ⟨RB, 1, none⟩ v) ra rc rda rdc r := fun W hW hsz => h W (fun k hk hk2 => by
  rw [hW k (by omega) (by simp; omega), heap_set _ _ _ _ (by simp; omega), heap_set _ _ _ _ (by simp; omega)]) (by simp at hsz; exact hsz)
theorem Tb.addE_lt (t : Tb.T) (c : Tb.Col) (x : C.Cl) : Tb.addE t c x < 9 := by
  unfold Tb.addE
  have h1 := Tb.fresh_lt t.cols c
  have h2 := Tb.chk_lt9 c.kind x
  split
  · exact h1
  · split
    · omega
    · exact h2
theorem Tb.dropE_lt (t : Tb.T) (n : List UInt8) : Tb.dropE t n < 9 := by unfold Tb.dropE; split <;> omega
theorem Tb.renE_lt (t : Tb.T) (o n : List UInt8) : Tb.renE t o n < 9 := by
  unfold Tb.renE
  split
  · omega
  · split
    · omega
    · split <;> omega
theorem Tb.redE_lt (t : Tb.T) (n : List UInt8) (p : List O.Cd) : Tb.redE t n p < 9 := by
  unfold Tb.redE
  have := O.check_lt p (Tb.kinds t)
  split
  · omega
  · exact this
theorem Tb.keepE_lt (t : Tb.T) (p : List O.Cd) : Tb.keepE t p < 9 := O.check_lt p (Tb.kinds t)
theorem Tb.projE_lt (t : Tb.T) : ∀ (d : List Tb.Col) (ns : List (List UInt8)), Tb.projE t d ns < 9
  | d, [] => by unfold Tb.projE; omega
  | d, n :: r => by
    unfold Tb.projE
    split
    · omega
    · split
      · omega
      · exact Tb.projE_lt t _ r
theorem Tb.sliE_lt (f m : Int) : Tb.sliE f m < 9 := by unfold Tb.sliE; split <;> omega
theorem Tb.appE_lt (a b : Tb.T) : Tb.appE a b < 9 := by
  unfold Tb.appE
  have := Tb.check_lt b
  split
  · exact this
  · split
    · omega
    · split <;> omega
end Go.Proofs.Ytnjnalehfhfefaa
