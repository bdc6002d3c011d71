/- MPlain, TPlain, NPlain, SPlain, BlPlain, OPlain, BaseC, CBase, TStr, CEq, TLess, CW6, OSl, OW1. -/
import Derived.Lib.Hide
import Derived.WalkKit
import Derived.Lib.SlicesCompact
import Derived.Sort.KeysCollected
import Derived.Test.YtnjnalehfhfefaaRows
import Derived.WalkSpells
import Derived.WalkLawsBesides
import Derived.Lib.Strings
import Derived.Deep.RegionWith
import Derived.Deep.RegionHeld3
import Derived.Deep.QuietTactic
import Derived.BigQuiet
import Derived.StillTailTactics
import Derived.RegionTactic
import Derived.BigRegion
import Derived.OneCell
import Derived.Deep.AppendLies
import Derived.Laws.AppendOwnNone
import Derived.Laws.BytesArg
import Derived.Laws.OwnMore
import Derived.Sort.Walk0
import Derived.Laws.StructEq
/- Plain mathematics of marks: counting, selecting, mark by mark. -/
namespace Go.Proofs.Ytnjnalehfhfefaa.M
set_option linter.unusedVariables false

/-- how many are true -/
def cnt : List Bool → Nat
  | [] => 0
  | b :: l => (if b then 1 else 0) + cnt l

theorem cnt_append (a b : List Bool) : cnt (a ++ b) = cnt a + cnt b := by
  induction a with
  | nil => simp [cnt]
  | cons x a ih => simp only [List.cons_append, cnt, ih]; omega
theorem cnt_le (l : List Bool) : cnt l ≤ l.length := by
  induction l with
  | nil => simp [cnt]
  | cons x l ih => simp only [cnt, List.length_cons]; split <;> omega
theorem take_snoc (l : List Bool) (k : Nat) (h : k < l.length) : l.take (k + 1) = l.take k ++ [l.getD k false] := by
  rw [List.take_succ_eq_append_getElem h]; simp [List.getD, List.getElem?_eq_getElem h]
theorem cnt_snoc (l : List Bool) (k : Nat) (h : k < l.length) : cnt (l.take (k + 1)) = cnt (l.take k) + if l.getD k false = true then 1 else 0 := by
  rw [take_snoc l k h, cnt_append]; simp [cnt]
theorem cnt_take_le (l : List Bool) (k : Nat) : cnt (l.take k) ≤ cnt l := by
  have := cnt_append (l.take k) (l.drop k); rw [List.take_append_drop] at this; omega
theorem cnt_mono (l : List Bool) (i j : Nat) (h : i ≤ j) : cnt (l.take i) ≤ cnt (l.take j) := by
  have := cnt_take_le (l.take j) i
  rwa [List.take_take, Nat.min_eq_left h] at this

/-- the place of the true one ahead of which k are true -/
def selN : List Bool → Nat → Option Nat
  | [], _ => none
  | false :: l, k => (selN l k).map (· + 1)
  | true :: _, 0 => some 0
  | true :: l, k + 1 => (selN l k).map (· + 1)

theorem selN_some (l : List Bool) : ∀ (k i : Nat), selN l k = some i ↔ (i < l.length ∧ l.getD i false = true ∧ cnt (l.take i) = k) := by
  induction l with
  | nil => intro k i; simp [selN]
  | cons b l ih =>
    intro k i
    cases b with
    | false =>
      simp only [selN, Option.map_eq_some_iff]
      cases i with
      | zero => simp
      | succ i =>
        constructor
        · rintro ⟨j, hj, e⟩
          obtain rfl : j = i := by omega
          have := (ih k j).1 hj
          simpa [cnt] using this
        · intro h; exact ⟨i, (ih k i).2 (by simpa [cnt] using h), rfl⟩
    | true =>
      cases k with
      | zero =>
        simp only [selN, Option.some.injEq]
        constructor
        · rintro rfl; simp [cnt]
        · intro h
          cases i with
          | zero => rfl
          | succ i => simp [cnt] at h
      | succ k =>
        simp only [selN, Option.map_eq_some_iff]
        cases i with
        | zero => simp [cnt]
        | succ i =>
          constructor
          · rintro ⟨j, hj, e⟩
            obtain rfl : j = i := by omega
            have := (ih k j).1 hj
            simp only [List.length_cons, List.getD_cons_succ, List.take_succ_cons, cnt]
            exact ⟨by omega, this.2.1, by simp only [↓reduceIte]; omega⟩
          · intro h
            simp only [List.length_cons, List.getD_cons_succ, List.take_succ_cons, cnt] at h
            refine ⟨i, (ih k i).2 ⟨by omega, h.2.1, ?_⟩, rfl⟩
            have := h.2.2; simp only [↓reduceIte] at this; omega

theorem selN_none (l : List Bool) : ∀ k : Nat, selN l k = none ↔ cnt l ≤ k := by
  induction l with
  | nil => intro k; simp [selN, cnt]
  | cons b l ih =>
    intro k
    cases b with
    | false => simp only [selN, Option.map_eq_none_iff, ih]; simp [cnt]
    | true =>
      cases k with
      | zero => simp [selN, cnt]
      | succ k => simp only [selN, Option.map_eq_none_iff, ih]; simp [cnt]; omega

theorem drop_cons (l : List Bool) (i : Nat) (h : i < l.length) : l.drop i = l.getD i false :: l.drop (i + 1) := by
  rw [List.drop_eq_getElem_cons h]; simp [List.getD, List.getElem?_eq_getElem h]
theorem map_add (o : Option Nat) (i : Nat) : (o.map (· + 1)).map (· + i) = o.map (· + (i + 1)) := by
  cases o <;> simp; omega

def rankR (l : List Bool) (at_ : Int) : Nat × Nat := if at_ < 0 ∨ (l.length : Int) < at_ then (0, 3) else (cnt (l.take at_.toNat), 0)
def selO : Option Nat → Nat × Nat
  | some i => (i, 0)
  | none => (0, 5)
def selR (l : List Bool) (k : Int) : Nat × Nat := if k < 0 then (0, 3) else selO (selN l k.toNat)

/-- marks of lists, side by side -/
def rows (m : List Bool → Bool) (ls : List (List Bool)) (n : Nat) : List Bool := (List.range n).map fun i => m (ls.map fun l => l.getD i false)
theorem rows_length (m : List Bool → Bool) (ls : List (List Bool)) (n : Nat) : (rows m ls n).length = n := by simp [rows]
theorem rows_snoc (m : List Bool → Bool) (ls : List (List Bool)) (n : Nat) : rows m ls (n + 1) = rows m ls n ++ [m (ls.map fun l => l.getD n false)] := by
  simp [rows, List.range_succ]
def fitN (ns : List Nat) : Nat := if ∃ n ∈ ns, 64 < n then 2 else if ∃ n ∈ ns, n ≠ ns.getD 0 0 then 1 else 0
def mAnd (ms : List Bool) : Bool := decide (cnt ms = ms.length)
def mOr (ms : List Bool) : Bool := decide (0 < cnt ms)
def mNot (ms : List Bool) : Bool := decide (cnt ms = 0)
def eachR (m : List Bool → Bool) (ls : List (List Bool)) : List Bool × Nat :=
  if fitN (ls.map List.length) = 0 then (rows m ls (ls.getD 0 []).length, 0) else ([], fitN (ls.map List.length))

/-- two lists mark by mark, by their own words -/
def zipB (f : Bool → Bool → Bool) (a b : List Bool) : List Bool := (List.range a.length).map fun i => f (a.getD i false) (b.getD i false)
def pairR (f : Bool → Bool → Bool) (a b : List Bool) : List Bool × Nat :=
  if 64 < a.length ∨ 64 < b.length then ([], 2) else if a.length ≠ b.length then ([], 1) else (zipB f a b, 0)
def notL (a : List Bool) : List Bool := a.map (!·)
def notR (a : List Bool) : List Bool × Nat := if 64 < a.length then ([], 2) else (notL a, 0)

theorem each_two (m : List Bool → Bool) (f : Bool → Bool → Bool) (h : ∀ x y, m [x, y] = f x y) (a b : List Bool) : eachR m [a, b] = pairR f a b := by
  have e0 : (∃ n ∈ [a.length, b.length], 64 < n) ↔ (64 < a.length ∨ 64 < b.length) := by simp
  have e1 : (∃ n ∈ [a.length, b.length], n ≠ [a.length, b.length].getD 0 0) ↔ a.length ≠ b.length := by simp; omega
  simp only [eachR, pairR, fitN, List.map_cons, List.map_nil, e0, e1]
  by_cases h0 : 64 < a.length ∨ 64 < b.length
  · simp [h0]
  · by_cases h1 : a.length = b.length
    · simp only [if_neg h0]; simp [h1, rows, zipB, h]
    · simp only [if_neg h0]; simp [h1]
theorem each_one (m : List Bool → Bool) (h : ∀ x, m [x] = !x) (a : List Bool) : eachR m [a] = notR a := by
  have e0 : (∃ n ∈ [a.length], 64 < n) ↔ 64 < a.length := by simp
  have e1 : ¬ (∃ n ∈ [a.length], n ≠ [a.length].getD 0 0) := by simp
  simp only [eachR, notR, fitN, List.map_cons, List.map_nil, e0, e1]
  by_cases h0 : 64 < a.length
  · simp [h0]
  · simp only [h0, if_false, rows, notL, if_true]
    refine Prod.ext ?_ rfl
    apply List.ext_getElem
    · simp
    · intro i h1 h2
      simp only [List.length_map, List.length_range, List.getD_cons_zero] at h1
      simp [List.getD, List.getElem?_eq_getElem h1, h]
theorem mAnd_two (x y : Bool) : mAnd [x, y] = (x && y) := by cases x <;> cases y <;> rfl
theorem mOr_two (x y : Bool) : mOr [x, y] = (x || y) := by cases x <;> cases y <;> rfl
theorem mNot_one (x : Bool) : mNot [x] = !x := by cases x <;> rfl
end Go.Proofs.Ytnjnalehfhfefaa.M
/- Plain mathematics of books. -/
namespace Go.Proofs.Ytnjnalehfhfefaa.T
set_option linter.unusedVariables false
abbrev Tx := List UInt8

/-- rising, each once -/
def Up (b : List Tx) : Prop := b.Pairwise (· < ·)
theorem lt_irr (a : Tx) : ¬ a < a := List.lt_irrefl a
theorem lt_tr {a b c : Tx} (h1 : a < b) (h2 : b < c) : a < c := List.lt_trans h1 h2
theorem le_tr {a b c : Tx} (h1 : a ≤ b) (h2 : b ≤ c) : a ≤ c := List.le_trans h1 h2
theorem not_lt {a b : Tx} : ¬ a < b ↔ b ≤ a := Iff.rfl
theorem lt_of_le_ne {a b : Tx} (h : a ≤ b) (hne : a ≠ b) : a < b := by
  rcases Classical.em (a < b) with h1 | h1
  · exact h1
  · exact absurd (List.le_antisymm h h1) hne
theorem le_of_lt {a b : Tx} (h : a < b) : a ≤ b := fun h2 => lt_irr a (lt_tr h h2)
theorem lt_le {a b c : Tx} (h1 : a < b) (h2 : b ≤ c) : a < c := by
  rcases Classical.em (b = c) with e | e
  · rw [← e]; exact h1
  · exact lt_tr h1 (lt_of_le_ne h2 e)
theorem le_lt {a b c : Tx} (h1 : a ≤ b) (h2 : b < c) : a < c := by
  rcases Classical.em (a = b) with e | e
  · rw [e]; exact h2
  · exact lt_tr (lt_of_le_ne h1 e) h2
theorem tri (a b : Tx) : a < b ∨ a = b ∨ b < a := by
  rcases Classical.em (a < b) with h | h
  · exact Or.inl h
  · rcases Classical.em (b < a) with h2 | h2
    · exact Or.inr (Or.inr h2)
    · exact Or.inr (Or.inl (List.le_antisymm h2 h))

/-- the book of a list -/
def bk (l : List Tx) : List Tx := Lib.compact (l.mergeSort fun x y => decide (x ≤ y))

theorem compact_up (s : List Tx) (hs : s.Pairwise (· ≤ ·)) : Up (Lib.compact s) ∧ ∀ x, x ∈ Lib.compact s ↔ x ∈ s := by
  have get : ∀ j (h : j < s.length), s.toArray[j]! = s[j] := fun j h => by simp [h]
  have hle : ∀ i j (hi : i < s.length) (hj : j < s.length), i ≤ j → s[i] ≤ s[j] := by
    intro i j hi hj hij
    rcases Nat.lt_or_eq_of_le hij with h | h
    · exact List.pairwise_iff_getElem.1 hs i j hi hj h
    · subst h; exact lt_irr _
  have main : ∀ m, m ≤ s.length → Up (Lib.compactUpTo s.toArray m) ∧ ∀ x, x ∈ Lib.compactUpTo s.toArray m ↔ ∃ j, ∃ h : j < s.length, j < m ∧ s[j] = x := by
    intro m
    induction m with
    | zero => intro _; refine ⟨by simp [Lib.compactUpTo, Up], fun x => by simp [Lib.compactUpTo]⟩
    | succ m ih =>
      intro hm
      obtain ⟨h1, h2⟩ := ih (by omega)
      rw [Lib.compactUpTo_succ, get m (by omega)]
      by_cases hk : Lib.keeps s.toArray m = true
      · rw [if_pos hk]
        have hk' : m = 0 ∨ s[m] ≠ s[m - 1] := by
          unfold Lib.keeps at hk
          rw [decide_eq_true_iff, get m (by omega), get (m - 1) (by omega)] at hk
          exact hk
        refine ⟨?_, fun x => ?_⟩
        · refine List.pairwise_append.2 ⟨h1, by simp, fun x hx y hy => ?_⟩
          obtain rfl : y = s[m] := by simpa using hy
          obtain ⟨j, hj, hjm, rfl⟩ := (h2 x).1 hx
          rcases hk' with h | h
          · omega
          · have a1 := hle j (m - 1) hj (by omega) (by omega)
            have a2 := hle (m - 1) m (by omega) (by omega) (by omega)
            exact le_lt a1 (lt_of_le_ne a2 (fun e => h e.symm))
        · rw [List.mem_append, h2 x]
          constructor
          · rintro (⟨j, hj, hjm, rfl⟩ | h)
            · exact ⟨j, hj, by omega, rfl⟩
            · exact ⟨m, by omega, by omega, (by simpa using h : x = s[m]).symm⟩
          · rintro ⟨j, hj, hjm, rfl⟩
            by_cases e : j = m
            · subst e; exact Or.inr (by simp)
            · exact Or.inl ⟨j, hj, by omega, rfl⟩
      · rw [if_neg hk, List.append_nil]
        refine ⟨h1, fun x => ?_⟩
        have hk' : m ≠ 0 ∧ s[m] = s[m - 1] := by
          unfold Lib.keeps at hk
          rw [decide_eq_true_iff, get m (by omega), get (m - 1) (by omega)] at hk
          exact ⟨fun e => hk (Or.inl e), Classical.byContradiction fun e => hk (Or.inr e)⟩
        rw [h2 x]
        constructor
        · rintro ⟨j, hj, hjm, rfl⟩; exact ⟨j, hj, by omega, rfl⟩
        · rintro ⟨j, hj, hjm, rfl⟩
          by_cases e : j = m
          · subst e; exact ⟨j - 1, by omega, by have := hk'.1; omega, hk'.2.symm⟩
          · exact ⟨j, hj, by omega, rfl⟩
  have h := main s.length (Nat.le_refl _)
  unfold Lib.compact
  refine ⟨h.1, fun x => ?_⟩
  rw [h.2 x]
  constructor
  · rintro ⟨j, hj, _, rfl⟩; exact List.getElem_mem hj
  · intro hx
    obtain ⟨j, hj, e⟩ := List.mem_iff_getElem.1 hx
    exact ⟨j, hj, hj, e⟩

theorem sorted (l : List Tx) : (l.mergeSort fun x y => decide (x ≤ y)).Pairwise (· ≤ ·) := by
  have tr : ∀ a b c : Tx, decide (a ≤ b) = true → decide (b ≤ c) = true → decide (a ≤ c) = true := fun a b c h1 h2 => by
    rw [decide_eq_true_iff] at *; exact List.le_trans h1 h2
  have to : ∀ a b : Tx, (decide (a ≤ b) || decide (b ≤ a)) = true := fun a b => by
    rw [Bool.or_eq_true, decide_eq_true_iff, decide_eq_true_iff]; exact List.le_total a b
  exact (List.pairwise_mergeSort tr to l).imp (fun h => by simpa using h)
theorem bk_up (l : List Tx) : Up (bk l) := (compact_up _ (sorted l)).1
theorem bk_mem (l : List Tx) (x : Tx) : x ∈ bk l ↔ x ∈ l := by
  unfold bk
  rw [(compact_up _ (sorted l)).2 x]
  exact (List.mergeSort_perm l _).mem_iff

theorem up_get {b : List Tx} (h : Up b) {i j : Nat} (hi : i < b.length) (hj : j < b.length) (hij : i < j) : b[i] < b[j] := List.pairwise_iff_getElem.1 h i j hi hj hij
theorem up_inj {b : List Tx} (h : Up b) {i j : Nat} (hi : i < b.length) (hj : j < b.length) (e : b[i] = b[j]) : i = j := by
  rcases Nat.lt_trichotomy i j with hh | hh | hh
  · have := up_get h hi hj hh; rw [e] at this; exact absurd this (lt_irr _)
  · exact hh
  · have := up_get h hj hi hh; rw [e] at this; exact absurd this (lt_irr _)
theorem up_lt {b : List Tx} (h : Up b) {i j : Nat} (hi : i < b.length) (hj : j < b.length) : b[i] < b[j] ↔ i < j := by
  constructor
  · intro hh
    rcases Nat.lt_trichotomy i j with k | k | k
    · exact k
    · subst k; exact absurd hh (lt_irr _)
    · exact absurd (lt_tr hh (up_get h hj hi k)) (lt_irr _)
  · exact up_get h hi hj
theorem up_nodup {b : List Tx} (h : Up b) : b.Nodup := h.imp (fun {a c} hh e => by rw [e] at hh; exact lt_irr _ hh)

/-- the place of a text: of the first one that is not below it -/
def plc (b : List Tx) (x : Tx) : Nat := b.findIdx fun y => !decide (y < x)
/-- of the first one that is above it -/
def plA (b : List Tx) (x : Tx) : Nat := b.findIdx fun y => decide (x < y)
theorem plc_le (b : List Tx) (x : Tx) : plc b x ≤ b.length := List.findIdx_le_length
theorem plA_le (b : List Tx) (x : Tx) : plA b x ≤ b.length := List.findIdx_le_length
theorem plc_at {b : List Tx} (h : Up b) {i : Nat} (hi : i < b.length) : plc b b[i] = i := by
  unfold plc
  rw [List.findIdx_eq hi]
  refine ⟨by simp [lt_irr], fun j hj => ?_⟩
  have := up_get h (by omega) hi hj
  simp [this]
theorem plc_mem {b : List Tx} (h : Up b) {x : Tx} (hx : x ∈ b) : plc b x < b.length ∧ b.getD (plc b x) [] = x := by
  obtain ⟨i, hi, rfl⟩ := List.mem_iff_getElem.1 hx
  rw [plc_at h hi]
  exact ⟨hi, by simp [List.getD, List.getElem?_eq_getElem hi]⟩
theorem plc_lt {b : List Tx} (h : Up b) {x y : Tx} (hx : x ∈ b) (hy : y ∈ b) : plc b x < plc b y ↔ x < y := by
  obtain ⟨i, hi, rfl⟩ := List.mem_iff_getElem.1 hx
  obtain ⟨j, hj, rfl⟩ := List.mem_iff_getElem.1 hy
  rw [plc_at h hi, plc_at h hj, up_lt h hi hj]
theorem plc_eq {b : List Tx} (h : Up b) {x y : Tx} (hx : x ∈ b) (hy : y ∈ b) : plc b x = plc b y ↔ x = y := by
  obtain ⟨i, hi, rfl⟩ := List.mem_iff_getElem.1 hx
  obtain ⟨j, hj, rfl⟩ := List.mem_iff_getElem.1 hy
  rw [plc_at h hi, plc_at h hj]
  exact ⟨fun e => by subst e; rfl, up_inj h hi hj⟩
/-- at or behind the place of low: not below low -/
theorem plc_ge {b : List Tx} (h : Up b) (low : Tx) {i : Nat} (hi : i < b.length) : plc b low ≤ i ↔ low ≤ b[i] := by
  constructor
  · intro hp
    have hlt : plc b low < b.length := by omega
    have h1 := List.findIdx_getElem (w := hlt)
    have h2 : ¬ b[plc b low] < low := by
      have h3 := h1
      simp only [Bool.not_eq_true', decide_eq_false_iff_not] at h3
      exact h3
    rcases Nat.lt_or_eq_of_le hp with k | k
    · exact le_tr h2 (le_of_lt (up_get h hlt hi k))
    · have : b[plc b low] = b[i] := by congr 1
      rw [← this]; exact h2
  · intro hl
    rcases Nat.lt_or_ge i (plc b low) with k | k
    · have := List.not_of_lt_findIdx k
      have h2 : b[i] < low := by simpa using this
      exact absurd h2 hl
    · exact k
theorem plA_gt {b : List Tx} (h : Up b) (high : Tx) {i : Nat} (hi : i < b.length) : plA b high ≤ i ↔ high < b[i] := by
  constructor
  · intro hp
    have hlt : plA b high < b.length := by omega
    have h1 := List.findIdx_getElem (w := hlt)
    have h2 : high < b[plA b high] := by
      have h3 := h1
      simp only [decide_eq_true_eq] at h3
      exact h3
    rcases Nat.lt_or_eq_of_le hp with k | k
    · exact lt_tr h2 (up_get h hlt hi k)
    · have : b[plA b high] = b[i] := by congr 1
      rw [← this]; exact h2
  · intro hl
    rcases Nat.lt_or_ge i (plA b high) with k | k
    · have := List.not_of_lt_findIdx k
      have h2 : ¬ high < b[i] := by simpa using this
      exact absurd hl h2
    · exact k
end Go.Proofs.Ytnjnalehfhfefaa.T
/- Plain mathematics of cells that may be missing. -/
namespace Go.Proofs.Ytnjnalehfhfefaa.C
set_option linter.unusedVariables false
/-- a cell: its kind, its number, its text -/
structure Cl where
  kind : Int
  num : Nat
  txt : List UInt8
deriving DecidableEq
def null : Cl := ⟨0, 0, []⟩

/-- what is wrong with a cell of a column -/
def cellE (k : Int) (c : Cl) : Nat :=
  if c.kind ≠ 0 ∧ c.kind ≠ k then 7 else if (c.kind ≠ 1 ∧ c.num ≠ 0) ∨ (c.kind ≠ 2 ∧ c.txt ≠ []) then 1 else if 16 < c.txt.length then 2 else 0
def chkL (k : Int) : List Cl → Nat
  | [] => 0
  | c :: t => if cellE k c ≠ 0 then cellE k c else chkL k t
def chk (k : Int) (l : List Cl) : Nat := if k ≠ 1 ∧ k ≠ 2 then 7 else if 64 < l.length then 2 else chkL k l
def here (c : Cl) : Bool := decide (c.kind ≠ 0)
def dense (l : List Cl) : List Cl := l.filter here
theorem chkL_zero (k : Int) : ∀ l : List Cl, chkL k l = 0 ↔ ∀ c ∈ l, cellE k c = 0 := by
  intro l
  induction l with
  | nil => simp [chkL]
  | cons c t ih =>
    rw [chkL]
    by_cases h : cellE k c ≠ 0
    · rw [if_pos h]
      exact ⟨fun e => absurd e h, fun e => absurd (e c (by simp)) h⟩
    · rw [if_neg h, ih]
      constructor
      · intro hh x hx
        rcases List.mem_cons.1 hx with e | e
        · subst e; omega
        · exact hh x e
      · exact fun hh x hx => hh x (by simp [hx])
theorem chkL_at (k : Int) : ∀ (l : List Cl) (i : Nat) (hi : i < l.length), (∀ j (hj : j < i), cellE k (l[j]'(by omega)) = 0) → cellE k l[i] ≠ 0 → chkL k l = cellE k l[i] := by
  intro l
  induction l with
  | nil => intro i hi; simp at hi
  | cons c t ih =>
    intro i hi h0 h1
    rw [chkL]
    cases i with
    | zero =>
      have h1' : cellE k c ≠ 0 := h1
      rw [if_pos h1']; rfl
    | succ i =>
      have h := h0 0 (by omega)
      have h' : cellE k c = 0 := h
      rw [if_neg (by omega)]
      exact ih i (by simpa using hi) (fun j hj => h0 (j + 1) (by omega)) h1
theorem chk_ok {k : Int} {l : List Cl} (h : chk k l = 0) : (k = 1 ∨ k = 2) ∧ l.length ≤ 64 ∧ ∀ c ∈ l, cellE k c = 0 := by
  unfold chk at h
  by_cases h1 : k ≠ 1 ∧ k ≠ 2
  · rw [if_pos h1] at h; exact absurd h (by decide)
  rw [if_neg h1] at h
  by_cases h2 : 64 < l.length
  · rw [if_pos h2] at h; exact absurd h (by decide)
  rw [if_neg h2] at h
  exact ⟨by omega, by omega, (chkL_zero k l).1 h⟩
theorem chk_of {k : Int} {l : List Cl} (hk : k = 1 ∨ k = 2) (hl : l.length ≤ 64) (h : ∀ c ∈ l, cellE k c = 0) : chk k l = 0 := by
  unfold chk
  rw [if_neg (by omega), if_neg (by omega)]
  exact (chkL_zero k l).2 h
theorem cell_ok {k : Int} {c : Cl} (h : cellE k c = 0) : (c.kind = 0 → c = null) ∧ (c.kind = 0 ∨ c.kind = k) ∧ c.txt.length ≤ 16 ∧ (c.kind = 1 ∨ c.num = 0) ∧ (c.kind = 2 ∨ c.txt = []) := by
  unfold cellE at h
  by_cases h1 : c.kind ≠ 0 ∧ c.kind ≠ k
  · rw [if_pos h1] at h; exact absurd h (by decide)
  rw [if_neg h1] at h
  by_cases h2 : (c.kind ≠ 1 ∧ c.num ≠ 0) ∨ (c.kind ≠ 2 ∧ c.txt ≠ [])
  · rw [if_pos h2] at h; exact absurd h (by decide)
  rw [if_neg h2] at h
  by_cases h3 : 16 < c.txt.length
  · rw [if_pos h3] at h; exact absurd h (by decide)
  have a1 : c.kind = 1 ∨ c.num = 0 := by
    rcases Classical.em (c.kind = 1) with e | e
    · exact Or.inl e
    · rcases Classical.em (c.num = 0) with e2 | e2
      · exact Or.inr e2
      · exact absurd (Or.inl ⟨e, e2⟩) h2
  have a2 : c.kind = 2 ∨ c.txt = [] := by
    rcases Classical.em (c.kind = 2) with e | e
    · exact Or.inl e
    · rcases Classical.em (c.txt = []) with e2 | e2
      · exact Or.inr e2
      · exact absurd (Or.inr ⟨e, e2⟩) h2
  refine ⟨fun e => ?_, by omega, by omega, a1, a2⟩
  obtain ⟨ck, cn, ct⟩ := c
  simp only at e a1 a2
  have b1 : cn = 0 := a1.resolve_left (by omega)
  have b2 : ct = [] := a2.resolve_left (by omega)
  subst e; subst b1; subst b2; rfl
theorem dense_ok {k : Int} {l : List Cl} (h : chk k l = 0) : chk k (dense l) = 0 := by
  obtain ⟨h1, h2, h3⟩ := chk_ok h
  refine chk_of h1 (Nat.le_trans (List.length_filter_le _ _) h2) fun c hc => h3 c (List.mem_filter.1 hc).1
theorem dense_cnt : ∀ l : List Cl, M.cnt (l.map here) = (dense l).length := by
  intro l
  induction l with
  | nil => rfl
  | cons c t ih =>
    have hd : dense (c :: t) = if here c = true then c :: dense t else dense t := by
      unfold dense; rw [List.filter_cons]
    rw [hd, List.map_cons, M.cnt, ih]
    cases here c
    · simp
    · simp; omega

/-- marks and cells put together -/
def join : List Bool → List Cl → List Cl
  | [], _ => []
  | true :: m, c :: d => c :: join m d
  | true :: m, [] => null :: join m []
  | false :: m, d => null :: join m d
theorem join_length : ∀ (m : List Bool) (d : List Cl), (join m d).length = m.length := by
  intro m
  induction m with
  | nil => intro d; cases d <;> rfl
  | cons b m ih =>
    intro d
    cases b
    · rw [join, List.length_cons, List.length_cons, ih]
    · cases d with
      | nil => rw [join, List.length_cons, List.length_cons, ih]
      | cons c d => rw [join, List.length_cons, List.length_cons, ih]
theorem join_at : ∀ (m : List Bool) (d : List Cl) (i : Nat) (hi : i < m.length), (join m d).getD i null = if m.getD i false = true then d.getD (M.cnt (m.take i)) null else null := by
  intro m
  induction m with
  | nil => intro d i hi; simp at hi
  | cons b m ih =>
    intro d i hi
    cases i with
    | zero =>
      cases b
      · rw [join]; rfl
      · cases d with
        | nil => rw [join]; rfl
        | cons c d => rw [join]; rfl
    | succ i =>
      have hi' : i < m.length := by simpa using hi
      cases b
      · rw [join]
        show (join m d).getD i null = _
        rw [ih d i hi']
        have : M.cnt ((false :: m).take (i + 1)) = M.cnt (m.take i) := by rw [List.take_succ_cons, M.cnt]; simp
        rw [this]; rfl
      · have hc : M.cnt ((true :: m).take (i + 1)) = M.cnt (m.take i) + 1 := by rw [List.take_succ_cons, M.cnt]; simp; try omega
        rw [hc]
        cases d with
        | nil =>
          rw [join]
          show (join m []).getD i null = _
          rw [ih [] i hi']; rfl
        | cons c d =>
          rw [join]
          show (join m d).getD i null = _
          rw [ih d i hi']; rfl
/-- what was split is joined as it was -/
theorem join_back : ∀ l : List Cl, (∀ c ∈ l, c.kind = 0 → c = null) → join (l.map here) (dense l) = l := by
  intro l
  induction l with
  | nil => intro _; rfl
  | cons c t ih =>
    intro h
    have hi := ih (fun x hx => h x (by simp [hx]))
    have hd : dense (c :: t) = if here c = true then c :: dense t else dense t := by
      unfold dense; rw [List.filter_cons]
    rw [hd, List.map_cons]
    by_cases hc : c.kind = 0
    · have : here c = false := by simp [here, hc]
      rw [this, if_neg (by simp), join, hi, ← h c (by simp) hc]
    · have : here c = true := by simp [here, hc]
      rw [this, if_pos rfl, join, hi]
def joinR (k : Int) (m : List Bool) (l : List Cl) : List Cl × Nat :=
  if chk k l ≠ 0 then ([], chk k l) else if (dense l).length < l.length then ([], 7) else if 64 < m.length then ([], 2) else if M.cnt m ≠ l.length then ([], 1) else (join m l, 0)
theorem dense_dense (l : List Cl) : dense (dense l) = dense l := by unfold dense; rw [List.filter_filter]; simp
theorem joinR_back {k : Int} {l : List Cl} (h : chk k l = 0) : joinR k (l.map here) (dense l) = (l, 0) := by
  obtain ⟨h1, h2, h3⟩ := chk_ok h
  unfold joinR
  rw [if_neg (by rw [dense_ok h]; simp), if_neg (by rw [dense_dense]; omega), if_neg (by simp; omega), if_neg (by rw [dense_cnt]; simp), join_back l fun c hc => (cell_ok (h3 c hc)).1]

/-- the order of cells -/
def less (a b : Cl) : Bool :=
  if a.kind = 0 ∧ b.kind ≠ 0 then true else if b.kind = 0 ∧ a.kind ≠ 0 then false else if a.kind ≠ b.kind then decide (a.kind < b.kind) else if a.num ≠ b.num then decide (a.num < b.num) else decide (a.txt < b.txt)
/-- as one order of keys -/
def Less (a b : Cl) : Prop := (a.kind = 0 ∧ b.kind ≠ 0) ∨ ((a.kind = 0 ↔ b.kind = 0) ∧ (a.kind < b.kind ∨ (a.kind = b.kind ∧ (a.num < b.num ∨ (a.num = b.num ∧ a.txt < b.txt)))))
theorem less_iff (a b : Cl) : less a b = true ↔ Less a b := by
  unfold less Less
  by_cases h1 : a.kind = 0 ∧ b.kind ≠ 0
  · rw [if_pos h1]; exact ⟨fun _ => Or.inl h1, fun _ => rfl⟩
  rw [if_neg h1]
  by_cases h2 : b.kind = 0 ∧ a.kind ≠ 0
  · rw [if_pos h2]
    refine ⟨fun h => by simp at h, ?_⟩
    rintro (h | ⟨h, _⟩)
    · exact absurd h h1
    · exact absurd (h.2 h2.1) h2.2
  rw [if_neg h2]
  have hiff : a.kind = 0 ↔ b.kind = 0 := by
    constructor
    · intro e
      rcases Classical.em (b.kind = 0) with k | k
      · exact k
      · exact absurd ⟨e, k⟩ h1
    · intro e
      rcases Classical.em (a.kind = 0) with k | k
      · exact k
      · exact absurd ⟨e, k⟩ h2
  by_cases h3 : a.kind ≠ b.kind
  · rw [if_pos h3, decide_eq_true_iff]
    refine ⟨fun h => Or.inr ⟨hiff, Or.inl h⟩, ?_⟩
    rintro (h | ⟨_, h | h⟩)
    · exact absurd h h1
    · exact h
    · exact absurd h.1 h3
  rw [if_neg h3]
  have h3' : a.kind = b.kind := Classical.not_not.1 h3
  by_cases h4 : a.num ≠ b.num
  · rw [if_pos h4, decide_eq_true_iff]
    refine ⟨fun h => Or.inr ⟨hiff, Or.inr ⟨h3', Or.inl h⟩⟩, ?_⟩
    rintro (h | ⟨_, h | ⟨_, h | h⟩⟩)
    · exact absurd h h1
    · omega
    · exact h
    · exact absurd h.1 h4
  rw [if_neg h4, decide_eq_true_iff]
  have h4' : a.num = b.num := Classical.not_not.1 h4
  refine ⟨fun h => Or.inr ⟨hiff, Or.inr ⟨h3', Or.inr ⟨h4', h⟩⟩⟩, ?_⟩
  rintro (h | ⟨_, h | ⟨_, h | h⟩⟩)
  · exact absurd h h1
  · omega
  · omega
  · exact h.2
theorem less_irr (a : Cl) : ¬ Less a a := by
  rintro (h | ⟨_, h | ⟨_, h | h⟩⟩)
  · exact h.2 h.1
  · omega
  · omega
  · exact T.lt_irr _ h.2
theorem less_tr {a b c : Cl} (h1 : Less a b) (h2 : Less b c) : Less a c := by
  rcases h1 with h1 | ⟨i1, h1⟩
  · rcases h2 with h2 | ⟨i2, h2⟩
    · exact absurd h2.1 h1.2
    · exact Or.inl ⟨h1.1, fun e => h1.2 (i2.2 e)⟩
  · rcases h2 with h2 | ⟨i2, h2⟩
    · exact Or.inl ⟨i1.2 h2.1, h2.2⟩
    · refine Or.inr ⟨i1.trans i2, ?_⟩
      rcases h1 with h1 | ⟨e1, h1⟩
      · rcases h2 with h2 | ⟨e2, h2⟩
        · exact Or.inl (by omega)
        · exact Or.inl (by omega)
      · rcases h2 with h2 | ⟨e2, h2⟩
        · exact Or.inl (by omega)
        · refine Or.inr ⟨by omega, ?_⟩
          rcases h1 with h1 | ⟨n1, h1⟩
          · rcases h2 with h2 | ⟨n2, h2⟩
            · exact Or.inl (by omega)
            · exact Or.inl (by omega)
          · rcases h2 with h2 | ⟨n2, h2⟩
            · exact Or.inl (by omega)
            · exact Or.inr ⟨by omega, T.lt_tr h1 h2⟩
theorem less_tri (a b : Cl) : Less a b ∨ a = b ∨ Less b a := by
  by_cases hk : a.kind = b.kind
  · rcases Nat.lt_trichotomy a.num b.num with h | h | h
    · exact Or.inl (Or.inr ⟨by rw [hk], Or.inr ⟨hk, Or.inl h⟩⟩)
    · rcases T.tri a.txt b.txt with t | t | t
      · exact Or.inl (Or.inr ⟨by rw [hk], Or.inr ⟨hk, Or.inr ⟨h, t⟩⟩⟩)
      · refine Or.inr (Or.inl ?_)
        obtain ⟨ak, an, at_⟩ := a
        obtain ⟨bk, bn, bt⟩ := b
        simp only at hk h t
        subst hk; subst h; subst t; rfl
      · exact Or.inr (Or.inr (Or.inr ⟨by rw [hk], Or.inr ⟨hk.symm, Or.inr ⟨h.symm, t⟩⟩⟩))
    · exact Or.inr (Or.inr (Or.inr ⟨by rw [hk], Or.inr ⟨hk.symm, Or.inl h⟩⟩))
  · by_cases ha : a.kind = 0
    · exact Or.inl (Or.inl ⟨ha, fun e => hk (by omega)⟩)
    · by_cases hb : b.kind = 0
      · exact Or.inr (Or.inr (Or.inl ⟨hb, ha⟩))
      · rcases Int.lt_or_lt_of_ne hk with h | h
        · exact Or.inl (Or.inr ⟨⟨fun e => absurd e ha, fun e => absurd e hb⟩, Or.inl h⟩)
        · exact Or.inr (Or.inr (Or.inr ⟨⟨fun e => absurd e hb, fun e => absurd e ha⟩, Or.inl h⟩))
/-- the law: just one of two that differ, and what is less than what is less is less -/
theorem less_law (a b c : Cl) : ((less a b || less b a) == decide (a ≠ b)) = true ∧ (less a b && less b a) = false ∧ (!less a b || !less b c || less a c) = true := by
  have i1 := less_iff a b
  have i2 := less_iff b a
  have i3 := less_iff b c
  have i4 := less_iff a c
  refine ⟨?_, ?_, ?_⟩
  · rw [beq_iff_eq, Bool.eq_iff_iff, Bool.or_eq_true, decide_eq_true_iff, i1, i2]
    constructor
    · rintro (h | h) e
      · subst e; exact less_irr _ h
      · subst e; exact less_irr _ h
    · intro h
      rcases less_tri a b with k | k | k
      · exact Or.inl k
      · exact absurd k h
      · exact Or.inr k
  · rw [Bool.eq_false_iff]
    intro h
    rw [Bool.and_eq_true, i1, i2] at h
    exact less_irr _ (less_tr h.1 h.2)
  · cases h1 : less a b with
    | false => rfl
    | true =>
      cases h2 : less b c with
      | false => rfl
      | true =>
        have := i4.2 (less_tr (i1.1 h1) (i3.1 h2))
        rw [this]; rfl
end Go.Proofs.Ytnjnalehfhfefaa.C
/- Plain mathematics of what is known of a column. -/
namespace Go.Proofs.Ytnjnalehfhfefaa.S
open C
set_option linter.unusedVariables false

/-- what is known: how many rows, how many Nulls, the least and the greatest cell -/
structure St where
  rows : Int
  nulls : Int
  least : Cl
  most : Cl
deriving DecidableEq
def zero : St := ⟨0, 0, null, null⟩

theorem lirr (a : Cl) : less a a = false := by
  cases h : less a a with
  | false => rfl
  | true => exact absurd ((less_iff a a).1 h) (less_irr a)
theorem ltr {a b c : Cl} (h1 : less a b = true) (h2 : less b c = true) : less a c = true := (less_iff a c).2 (less_tr ((less_iff a b).1 h1) ((less_iff b c).1 h2))
theorem lasym {a b : Cl} (h : less a b = true) : less b a = false := by
  cases h2 : less b a with
  | false => rfl
  | true => have := ltr h h2; rw [lirr] at this; exact absurd this (by decide)
theorem ltri {a b : Cl} (h1 : less a b = false) (h2 : less b a = false) : a = b := by
  rcases less_tri a b with h | h | h
  · rw [(less_iff a b).2 h] at h1; exact absurd h1 (by decide)
  · exact h
  · rw [(less_iff b a).2 h] at h2; exact absurd h2 (by decide)
/-- not above, not above: not above -/
theorem le_tr {a b c : Cl} (h1 : less b a = false) (h2 : less c b = false) : less c a = false := by
  cases h : less c a with
  | false => rfl
  | true =>
    cases h3 : less b c with
    | true => have := ltr h3 h; rw [h1] at this; exact absurd this (by decide)
    | false =>
      have e := ltri h3 h2
      subst e
      rw [h1] at h; exact absurd h (by decide)

/-- the least of a list, the greatest -/
def isL (d : List Cl) (m : Cl) : Prop := m ∈ d ∧ ∀ x ∈ d, less x m = false
def isM (d : List Cl) (m : Cl) : Prop := m ∈ d ∧ ∀ x ∈ d, less m x = false
theorem isL_one {d : List Cl} {m n : Cl} (h : isL d m) (k : isL d n) : m = n := ltri (k.2 m h.1) (h.2 n k.1)
theorem isM_one {d : List Cl} {m n : Cl} (h : isM d m) (k : isM d n) : m = n := ltri (h.2 n k.1) (k.2 m h.1)
def mn (a b : Cl) : Cl := if less b a = true then b else a
def mx (a b : Cl) : Cl := if less a b = true then b else a
theorem mn_cases (a b : Cl) : (mn a b = a ∧ less b a = false) ∨ (mn a b = b ∧ less a b = false) := by
  unfold mn
  cases h : less b a with
  | true => exact Or.inr ⟨if_pos rfl, lasym h⟩
  | false => exact Or.inl ⟨if_neg (by decide), rfl⟩
theorem mx_cases (a b : Cl) : (mx a b = a ∧ less a b = false) ∨ (mx a b = b ∧ less b a = false) := by
  unfold mx
  cases h : less a b with
  | true => exact Or.inr ⟨if_pos rfl, lasym h⟩
  | false => exact Or.inl ⟨if_neg (by decide), rfl⟩
theorem mn_le (a b : Cl) : less a (mn a b) = false ∧ less b (mn a b) = false := by
  rcases mn_cases a b with ⟨e, h⟩ | ⟨e, h⟩
  · rw [e]; exact ⟨lirr a, h⟩
  · rw [e]; exact ⟨h, lirr b⟩
theorem mx_le (a b : Cl) : less (mx a b) a = false ∧ less (mx a b) b = false := by
  rcases mx_cases a b with ⟨e, h⟩ | ⟨e, h⟩
  · rw [e]; exact ⟨lirr a, h⟩
  · rw [e]; exact ⟨h, lirr b⟩
theorem mn_isL (d e : List Cl) (a b : Cl) (ha : isL d a) (hb : isL e b) : isL (d ++ e) (mn a b) := by
  refine ⟨?_, fun x hx => ?_⟩
  · rcases mn_cases a b with ⟨h, _⟩ | ⟨h, _⟩
    · rw [h]; exact List.mem_append_left _ ha.1
    · rw [h]; exact List.mem_append_right _ hb.1
  · rcases List.mem_append.1 hx with h | h
    · exact le_tr (mn_le a b).1 (ha.2 x h)
    · exact le_tr (mn_le a b).2 (hb.2 x h)
theorem mx_isM (d e : List Cl) (a b : Cl) (ha : isM d a) (hb : isM e b) : isM (d ++ e) (mx a b) := by
  refine ⟨?_, fun x hx => ?_⟩
  · rcases mx_cases a b with ⟨h, _⟩ | ⟨h, _⟩
    · rw [h]; exact List.mem_append_left _ ha.1
    · rw [h]; exact List.mem_append_right _ hb.1
  · rcases List.mem_append.1 hx with h | h
    · exact le_tr (ha.2 x h) (mx_le a b).1
    · exact le_tr (hb.2 x h) (mx_le a b).2
theorem isL_single (a : Cl) : isL [a] a := ⟨by simp, fun x hx => by simp at hx; subst hx; exact lirr _⟩
theorem isM_single (a : Cl) : isM [a] a := ⟨by simp, fun x hx => by simp at hx; subst hx; exact lirr _⟩
def least : List Cl → Cl
  | [] => null
  | c :: t => t.foldl mn c
def most : List Cl → Cl
  | [] => null
  | c :: t => t.foldl mx c
theorem fold_isL : ∀ (t d : List Cl) (c : Cl), isL d c → isL (d ++ t) (t.foldl mn c) := by
  intro t
  induction t with
  | nil => intro d c h; simpa using h
  | cons x t ih =>
    intro d c h
    have := ih (d ++ [x]) (mn c x) (mn_isL d [x] c x h (isL_single x))
    rw [List.append_assoc] at this
    exact this
theorem fold_isM : ∀ (t d : List Cl) (c : Cl), isM d c → isM (d ++ t) (t.foldl mx c) := by
  intro t
  induction t with
  | nil => intro d c h; simpa using h
  | cons x t ih =>
    intro d c h
    have := ih (d ++ [x]) (mx c x) (mx_isM d [x] c x h (isM_single x))
    rw [List.append_assoc] at this
    exact this
theorem least_isL {d : List Cl} (h : d ≠ []) : isL d (least d) := by
  cases d with
  | nil => exact absurd rfl h
  | cons c t => exact fold_isL t [c] c (isL_single c)
theorem most_isM {d : List Cl} (h : d ≠ []) : isM d (most d) := by
  cases d with
  | nil => exact absurd rfl h
  | cons c t => exact fold_isM t [c] c (isM_single c)
theorem least_of {d : List Cl} {m : Cl} (h : isL d m) : least d = m := isL_one (least_isL (fun e => by rw [e] at h; exact absurd h.1 (by simp))) h
theorem most_of {d : List Cl} {m : Cl} (h : isM d m) : most d = m := isM_one (most_isM (fun e => by rw [e] at h; exact absurd h.1 (by simp))) h
theorem least_snoc (d : List Cl) (c : Cl) (h : d ≠ []) : least (d ++ [c]) = mn (least d) c := least_of (mn_isL d [c] _ _ (least_isL h) (isL_single c))
theorem most_snoc (d : List Cl) (c : Cl) (h : d ≠ []) : most (d ++ [c]) = mx (most d) c := most_of (mx_isM d [c] _ _ (most_isM h) (isM_single c))

/-- what is known of a list -/
def known (l : List Cl) : St := ⟨l.length, (l.length : Int) - ((dense l).length : Int), least (dense l), most (dense l)⟩
/-- is that what may be known? -/
def ck (k : Int) (s : St) : Nat :=
  if k ≠ 1 ∧ k ≠ 2 then 7
  else if s.rows < 0 ∨ 128 < s.rows ∨ s.nulls < 0 ∨ s.rows < s.nulls then 3
  else if cellE k s.least ≠ 0 then cellE k s.least
  else if cellE k s.most ≠ 0 then cellE k s.most
  else if (s.nulls = s.rows ∧ (s.least.kind ≠ 0 ∨ s.most.kind ≠ 0)) ∨ (s.nulls < s.rows ∧ (s.least.kind = 0 ∨ s.most.kind = 0)) ∨ less s.most s.least = true then 4 else 0
/-- the lesser of two that may be Nulls; the greater -/
def lo (x y : Cl) : Cl := if x.kind = 0 then y else if y.kind = 0 then x else mn x y
def hi (x y : Cl) : Cl := if x.kind = 0 then y else if y.kind = 0 then x else mx x y
def plus (a b : St) : St := ⟨a.rows + b.rows, a.nulls + b.nulls, lo a.least b.least, hi a.most b.most⟩
def mg (k : Int) (a b : St) : St × Nat :=
  if ck k a ≠ 0 then (zero, ck k a) else if ck k b ≠ 0 then (zero, ck k b) else if 128 < a.rows + b.rows then (zero, 2) else (plus a b, 0)

/-- what a Check of nought says -/
structure Ok (k : Int) (s : St) : Prop where
  kind : k = 1 ∨ k = 2
  r0 : 0 ≤ s.rows
  r1 : s.rows ≤ 128
  n0 : 0 ≤ s.nulls
  n1 : s.nulls ≤ s.rows
  le : cellE k s.least = 0
  me : cellE k s.most = 0
  lm : less s.most s.least = false
  st : (s.nulls = s.rows ∧ s.least = null ∧ s.most = null) ∨ (s.nulls < s.rows ∧ s.least.kind = k ∧ s.most.kind = k)
theorem ck_ok {k : Int} {s : St} (h : ck k s = 0) : Ok k s := by
  unfold ck at h
  by_cases h1 : k ≠ 1 ∧ k ≠ 2
  · rw [if_pos h1] at h; exact absurd h (by decide)
  rw [if_neg h1] at h
  by_cases h2 : s.rows < 0 ∨ 128 < s.rows ∨ s.nulls < 0 ∨ s.rows < s.nulls
  · rw [if_pos h2] at h; exact absurd h (by decide)
  rw [if_neg h2] at h
  by_cases h3 : cellE k s.least ≠ 0
  · rw [if_pos h3] at h; exact absurd h h3
  rw [if_neg h3] at h
  by_cases h4 : cellE k s.most ≠ 0
  · rw [if_pos h4] at h; exact absurd h h4
  rw [if_neg h4] at h
  by_cases h5 : (s.nulls = s.rows ∧ (s.least.kind ≠ 0 ∨ s.most.kind ≠ 0)) ∨ (s.nulls < s.rows ∧ (s.least.kind = 0 ∨ s.most.kind = 0)) ∨ less s.most s.least = true
  · rw [if_pos h5] at h; exact absurd h (by decide)
  have h3' : cellE k s.least = 0 := Classical.not_not.1 h3
  have h4' : cellE k s.most = 0 := Classical.not_not.1 h4
  obtain ⟨c1, c2, _⟩ := cell_ok h3'
  obtain ⟨d1, d2, _⟩ := cell_ok h4'
  have lm : less s.most s.least = false := by
    cases hq : less s.most s.least with
    | false => rfl
    | true => exact absurd (Or.inr (Or.inr hq)) h5
  refine ⟨by omega, by omega, by omega, by omega, by omega, h3', h4', lm, ?_⟩
  by_cases hn : s.nulls = s.rows
  · have e1 : s.least.kind = 0 := by
      rcases Classical.em (s.least.kind = 0) with e | e
      · exact e
      · exact absurd (Or.inl ⟨hn, Or.inl e⟩) h5
    have e2 : s.most.kind = 0 := by
      rcases Classical.em (s.most.kind = 0) with e | e
      · exact e
      · exact absurd (Or.inl ⟨hn, Or.inr e⟩) h5
    exact Or.inl ⟨hn, c1 e1, d1 e2⟩
  · have hl : s.nulls < s.rows := by omega
    have e1 : s.least.kind ≠ 0 := fun e => h5 (Or.inr (Or.inl ⟨hl, Or.inl e⟩))
    have e2 : s.most.kind ≠ 0 := fun e => h5 (Or.inr (Or.inl ⟨hl, Or.inr e⟩))
    exact Or.inr ⟨hl, c2.resolve_left e1, d2.resolve_left e2⟩
theorem ck_of {k : Int} {s : St} (h : Ok k s) : ck k s = 0 := by
  unfold ck
  obtain ⟨a, b, c, d, e, f, g, i, j⟩ := h
  rw [if_neg (by omega), if_neg (by omega), if_neg (by simp [f]), if_neg (by simp [g]), if_neg]
  rintro (⟨h1, h2⟩ | ⟨h1, h2⟩ | h1)
  · rcases j with ⟨_, j1, j2⟩ | ⟨j0, _⟩
    · rcases h2 with h2 | h2
      · exact h2 (by rw [j1]; rfl)
      · exact h2 (by rw [j2]; rfl)
    · omega
  · rcases j with ⟨j0, _⟩ | ⟨_, j1, j2⟩
    · omega
    · rcases h2 with h2 | h2
      · omega
      · omega
  · rw [i] at h1; exact absurd h1 (by decide)
theorem null_kind : null.kind = 0 := rfl
theorem Ok.zero {k : Int} (h : k = 1 ∨ k = 2) : Ok k S.zero := by
  have e : cellE k null = 0 := by unfold cellE null; simp
  exact ⟨h, by decide, by decide, by decide, by decide, e, e, lirr _, Or.inl ⟨rfl, rfl, rfl⟩⟩
/-- the four cells of two that are known -/
theorem four {k : Int} {a b : St} (ha : Ok k a) (hb : Ok k b) : least (dense [a.least, a.most, b.least, b.most]) = lo a.least b.least ∧ most (dense [a.least, a.most, b.least, b.most]) = hi a.most b.most := by
  have hk := ha.kind
  have hd : ∀ (x : Cl) (t : List Cl), dense (x :: t) = if x.kind = 0 then dense t else x :: dense t := fun x t => by
    unfold dense
    rw [List.filter_cons]
    by_cases h : x.kind = 0
    · have : here x = false := by simp [here, h]
      rw [this, if_pos h, if_neg (by decide)]
    · have : here x = true := by simp [here, h]
      rw [this, if_neg h, if_pos rfl]
  have hn : dense [] = [] := rfl
  rw [hd, hd, hd, hd, hn]
  unfold lo hi
  rcases ha.st with ⟨_, a1, a2⟩ | ⟨_, a1, a2⟩
  · have x1 : a.least.kind = 0 := by rw [a1]; rfl
    have x2 : a.most.kind = 0 := by rw [a2]; rfl
    simp only [if_pos x1, if_pos x2]
    rcases hb.st with ⟨_, b1, b2⟩ | ⟨_, b1, b2⟩
    · have y1 : b.least.kind = 0 := by rw [b1]; rfl
      have y2 : b.most.kind = 0 := by rw [b2]; rfl
      simp only [if_pos y1, if_pos y2]
      rw [b1, b2]; exact ⟨rfl, rfl⟩
    · have y1 : ¬ b.least.kind = 0 := by omega
      have y2 : ¬ b.most.kind = 0 := by omega
      simp only [if_neg y1, if_neg y2]
      have hl := hb.lm
      refine ⟨least_of ⟨by simp, ?_⟩, most_of ⟨by simp, ?_⟩⟩
      · intro x hx; simp at hx; rcases hx with rfl | rfl
        · exact lirr _
        · exact hl
      · intro x hx; simp at hx; rcases hx with rfl | rfl
        · exact hl
        · exact lirr _
  · have x1 : ¬ a.least.kind = 0 := by omega
    have x2 : ¬ a.most.kind = 0 := by omega
    simp only [if_neg x1, if_neg x2]
    have hl := ha.lm
    rcases hb.st with ⟨_, b1, b2⟩ | ⟨_, b1, b2⟩
    · have y1 : b.least.kind = 0 := by rw [b1]; rfl
      have y2 : b.most.kind = 0 := by rw [b2]; rfl
      simp only [if_pos y1, if_pos y2]
      refine ⟨least_of ⟨by simp, ?_⟩, most_of ⟨by simp, ?_⟩⟩
      · intro x hx; simp at hx; rcases hx with rfl | rfl
        · exact lirr _
        · exact hl
      · intro x hx; simp at hx; rcases hx with rfl | rfl
        · exact hl
        · exact lirr _
    · have y1 : ¬ b.least.kind = 0 := by omega
      have y2 : ¬ b.most.kind = 0 := by omega
      simp only [if_neg y1, if_neg y2]
      have hl2 := hb.lm
      have ia : isL [a.least, a.most] a.least := ⟨by simp, fun x hx => by
        simp at hx; rcases hx with rfl | rfl
        · exact lirr _
        · exact hl⟩
      have ib : isL [b.least, b.most] b.least := ⟨by simp, fun x hx => by
        simp at hx; rcases hx with rfl | rfl
        · exact lirr _
        · exact hl2⟩
      have ja : isM [a.least, a.most] a.most := ⟨by simp, fun x hx => by
        simp at hx; rcases hx with rfl | rfl
        · exact hl
        · exact lirr _⟩
      have jb : isM [b.least, b.most] b.most := ⟨by simp, fun x hx => by
        simp at hx; rcases hx with rfl | rfl
        · exact hl2
        · exact lirr _⟩
      exact ⟨least_of (mn_isL _ _ _ _ ia ib), most_of (mx_isM _ _ _ _ ja jb)⟩

theorem mn_comm (a b : Cl) : mn a b = mn b a := by
  have h1 := mn_isL [a] [b] a b (isL_single a) (isL_single b)
  have h2 := mn_isL [b] [a] b a (isL_single b) (isL_single a)
  refine isL_one h1 ⟨?_, fun x hx => h2.2 x ?_⟩
  · have := h2.1; simp at this ⊢; exact this.symm
  · simp at hx ⊢; exact hx.symm
theorem mx_comm (a b : Cl) : mx a b = mx b a := by
  have h1 := mx_isM [a] [b] a b (isM_single a) (isM_single b)
  have h2 := mx_isM [b] [a] b a (isM_single b) (isM_single a)
  refine isM_one h1 ⟨?_, fun x hx => h2.2 x ?_⟩
  · have := h2.1; simp at this ⊢; exact this.symm
  · simp at hx ⊢; exact hx.symm
theorem mn_assoc (a b c : Cl) : mn (mn a b) c = mn a (mn b c) := by
  have h1 := mn_isL _ _ _ _ (mn_isL [a] [b] a b (isL_single a) (isL_single b)) (isL_single c)
  have h2 := mn_isL _ _ _ _ (isL_single a) (mn_isL [b] [c] b c (isL_single b) (isL_single c))
  exact isL_one h1 h2
theorem mx_assoc (a b c : Cl) : mx (mx a b) c = mx a (mx b c) := by
  have h1 := mx_isM _ _ _ _ (mx_isM [a] [b] a b (isM_single a) (isM_single b)) (isM_single c)
  have h2 := mx_isM _ _ _ _ (isM_single a) (mx_isM [b] [c] b c (isM_single b) (isM_single c))
  exact isM_one h1 h2
theorem mn_kind {a b : Cl} (ha : a.kind ≠ 0) (hb : b.kind ≠ 0) : (mn a b).kind ≠ 0 := by
  rcases mn_cases a b with ⟨e, _⟩ | ⟨e, _⟩ <;> rw [e] <;> assumption
theorem mx_kind {a b : Cl} (ha : a.kind ≠ 0) (hb : b.kind ≠ 0) : (mx a b).kind ≠ 0 := by
  rcases mx_cases a b with ⟨e, _⟩ | ⟨e, _⟩ <;> rw [e] <;> assumption
/-- a Null is nothing else -/
def Nl (x : Cl) : Prop := x.kind = 0 → x = null
theorem lo_comm {a b : Cl} (ha : Nl a) (hb : Nl b) : lo a b = lo b a := by
  unfold lo
  by_cases h1 : a.kind = 0
  · by_cases h2 : b.kind = 0
    · rw [if_pos h1, if_pos h2, ha h1, hb h2]
    · rw [if_pos h1, if_neg h2, if_pos h1]
  · by_cases h2 : b.kind = 0
    · rw [if_neg h1, if_pos h2, if_pos h2]
    · rw [if_neg h1, if_neg h2, if_neg h2, if_neg h1, mn_comm]
theorem hi_comm {a b : Cl} (ha : Nl a) (hb : Nl b) : hi a b = hi b a := by
  unfold hi
  by_cases h1 : a.kind = 0
  · by_cases h2 : b.kind = 0
    · rw [if_pos h1, if_pos h2, ha h1, hb h2]
    · rw [if_pos h1, if_neg h2, if_pos h1]
  · by_cases h2 : b.kind = 0
    · rw [if_neg h1, if_pos h2, if_pos h2]
    · rw [if_neg h1, if_neg h2, if_neg h2, if_neg h1, mx_comm]
theorem lo_assoc (a b c : Cl) : lo (lo a b) c = lo a (lo b c) := by
  unfold lo
  by_cases h1 : a.kind = 0
  · rw [if_pos h1, if_pos h1]
  · rw [if_neg h1, if_neg h1]
    by_cases h2 : b.kind = 0
    · rw [if_pos h2, if_neg h1, if_pos h2]
    · rw [if_neg h2, if_neg (mn_kind h1 h2), if_neg h2]
      by_cases h3 : c.kind = 0
      · rw [if_pos h3, if_pos h3, if_neg h2]
      · rw [if_neg h3, if_neg h3, if_neg (mn_kind h2 h3), mn_assoc]
theorem hi_assoc (a b c : Cl) : hi (hi a b) c = hi a (hi b c) := by
  unfold hi
  by_cases h1 : a.kind = 0
  · rw [if_pos h1, if_pos h1]
  · rw [if_neg h1, if_neg h1]
    by_cases h2 : b.kind = 0
    · rw [if_pos h2, if_neg h1, if_pos h2]
    · rw [if_neg h2, if_neg (mx_kind h1 h2), if_neg h2]
      by_cases h3 : c.kind = 0
      · rw [if_pos h3, if_pos h3, if_neg h2]
      · rw [if_neg h3, if_neg h3, if_neg (mx_kind h2 h3), mx_assoc]
theorem Ok.nl {k : Int} {s : St} (h : Ok k s) : Nl s.least ∧ Nl s.most := ⟨(cell_ok h.le).1, (cell_ok h.me).1⟩
theorem plus_comm {k : Int} {a b : St} (ha : Ok k a) (hb : Ok k b) : plus a b = plus b a := by
  unfold plus
  rw [lo_comm ha.nl.1 hb.nl.1, hi_comm ha.nl.2 hb.nl.2, Int.add_comm a.rows, Int.add_comm a.nulls]
theorem plus_assoc (a b c : St) : plus (plus a b) c = plus a (plus b c) := by
  unfold plus
  simp only [lo_assoc, hi_assoc, Int.add_assoc]
theorem plus_zero {k : Int} {a : St} (ha : Ok k a) : plus a S.zero = a := by
  obtain ⟨r, n, x, y⟩ := a
  have h1 := ha.nl.1
  have h2 := ha.nl.2
  simp only at h1 h2
  unfold plus S.zero lo hi
  simp only [Int.add_zero]
  have e1 : (if x.kind = 0 then null else if null.kind = 0 then x else mn x null) = x := by
    by_cases h : x.kind = 0
    · rw [if_pos h, h1 h]
    · rw [if_neg h, if_pos null_kind]
  have e2 : (if y.kind = 0 then null else if null.kind = 0 then y else mx y null) = y := by
    by_cases h : y.kind = 0
    · rw [if_pos h, h2 h]
    · rw [if_neg h, if_pos null_kind]
  rw [e1, e2]
theorem lo_is (x y : Cl) : lo x y = x ∨ lo x y = y := by
  unfold lo
  by_cases h1 : x.kind = 0
  · rw [if_pos h1]; exact Or.inr rfl
  · by_cases h2 : y.kind = 0
    · rw [if_neg h1, if_pos h2]; exact Or.inl rfl
    · rw [if_neg h1, if_neg h2]
      rcases mn_cases x y with ⟨e, _⟩ | ⟨e, _⟩
      · exact Or.inl e
      · exact Or.inr e
theorem hi_is (x y : Cl) : hi x y = x ∨ hi x y = y := by
  unfold hi
  by_cases h1 : x.kind = 0
  · rw [if_pos h1]; exact Or.inr rfl
  · by_cases h2 : y.kind = 0
    · rw [if_neg h1, if_pos h2]; exact Or.inl rfl
    · rw [if_neg h1, if_neg h2]
      rcases mx_cases x y with ⟨e, _⟩ | ⟨e, _⟩
      · exact Or.inl e
      · exact Or.inr e
/-- what is merged may be known -/
theorem Ok.plus {k : Int} {a b : St} (ha : Ok k a) (hb : Ok k b) (hr : a.rows + b.rows ≤ 128) : Ok k (plus a b) := by
  have a0 := ha.r0
  have a2 := ha.n0
  have a3 := ha.n1
  have b0 := hb.r0
  have b2 := hb.n0
  have b3 := hb.n1
  have hk := ha.kind
  have c1 : cellE k (lo a.least b.least) = 0 := by
    rcases lo_is a.least b.least with e | e <;> rw [e]
    · exact ha.le
    · exact hb.le
  have c2 : cellE k (hi a.most b.most) = 0 := by
    rcases hi_is a.most b.most with e | e <;> rw [e]
    · exact ha.me
    · exact hb.me
  refine ⟨hk, by simp only [S.plus]; omega, by simp only [S.plus]; omega, by simp only [S.plus]; omega, by simp only [S.plus]; omega, c1, c2, ?_, ?_⟩
  · show less (hi a.most b.most) (lo a.least b.least) = false
    unfold lo hi
    rcases ha.st with ⟨_, a1, a2⟩ | ⟨_, a1, a2⟩
    · have x1 : a.least.kind = 0 := by rw [a1]; rfl
      have x2 : a.most.kind = 0 := by rw [a2]; rfl
      simp only [if_pos x1, if_pos x2]; exact hb.lm
    · have x1 : ¬ a.least.kind = 0 := by omega
      have x2 : ¬ a.most.kind = 0 := by omega
      simp only [if_neg x1, if_neg x2]
      rcases hb.st with ⟨_, b1, b2⟩ | ⟨_, b1, b2⟩
      · have y1 : b.least.kind = 0 := by rw [b1]; rfl
        have y2 : b.most.kind = 0 := by rw [b2]; rfl
        simp only [if_pos y1, if_pos y2]; exact ha.lm
      · have y1 : ¬ b.least.kind = 0 := by omega
        have y2 : ¬ b.most.kind = 0 := by omega
        simp only [if_neg y1, if_neg y2]
        exact le_tr (mn_le a.least b.least).1 (le_tr ha.lm (mx_le a.most b.most).1)
  · show (a.nulls + b.nulls = a.rows + b.rows ∧ lo a.least b.least = null ∧ hi a.most b.most = null) ∨ (a.nulls + b.nulls < a.rows + b.rows ∧ (lo a.least b.least).kind = k ∧ (hi a.most b.most).kind = k)
    unfold lo hi
    rcases ha.st with ⟨x0, a1, a2⟩ | ⟨x0, a1, a2⟩
    · have x1 : a.least.kind = 0 := by rw [a1]; rfl
      have x2 : a.most.kind = 0 := by rw [a2]; rfl
      simp only [if_pos x1, if_pos x2]
      rcases hb.st with ⟨y0, y1, y2⟩ | ⟨y0, y1, y2⟩
      · exact Or.inl ⟨by omega, y1, y2⟩
      · exact Or.inr ⟨by omega, y1, y2⟩
    · have x1 : ¬ a.least.kind = 0 := by omega
      have x2 : ¬ a.most.kind = 0 := by omega
      simp only [if_neg x1, if_neg x2]
      rcases hb.st with ⟨y0, b1, b2⟩ | ⟨y0, b1, b2⟩
      · have y1 : b.least.kind = 0 := by rw [b1]; rfl
        have y2 : b.most.kind = 0 := by rw [b2]; rfl
        simp only [if_pos y1, if_pos y2]
        exact Or.inr ⟨by omega, a1, a2⟩
      · have y1 : ¬ b.least.kind = 0 := by omega
        have y2 : ¬ b.most.kind = 0 := by omega
        simp only [if_neg y1, if_neg y2]
        refine Or.inr ⟨by omega, ?_, ?_⟩
        · rcases mn_cases a.least b.least with ⟨e, _⟩ | ⟨e, _⟩ <;> rw [e] <;> assumption
        · rcases mx_cases a.most b.most with ⟨e, _⟩ | ⟨e, _⟩ <;> rw [e] <;> assumption
theorem mg_ok {k : Int} {a b : St} (h : (mg k a b).2 = 0) : Ok k a ∧ Ok k b ∧ a.rows + b.rows ≤ 128 ∧ mg k a b = (plus a b, 0) := by
  unfold mg at *
  by_cases h1 : ck k a ≠ 0
  · rw [if_pos h1] at h; exact absurd h h1
  rw [if_neg h1] at h
  by_cases h2 : ck k b ≠ 0
  · rw [if_pos h2] at h; exact absurd h h2
  rw [if_neg h2] at h
  by_cases h3 : 128 < a.rows + b.rows
  · rw [if_pos h3] at h; exact absurd h (by decide)
  exact ⟨ck_ok (Classical.not_not.1 h1), ck_ok (Classical.not_not.1 h2), by omega, by rw [if_neg h1, if_neg h2, if_neg h3]⟩
theorem mg_of {k : Int} {a b : St} (ha : Ok k a) (hb : Ok k b) (hr : a.rows + b.rows ≤ 128) : mg k a b = (plus a b, 0) := by
  unfold mg
  rw [if_neg (by rw [ck_of ha]; simp), if_neg (by rw [ck_of hb]; simp), if_neg (by omega)]
theorem mg_bad {k : Int} {a b : St} (h : (mg k a b).2 ≠ 0) : (mg k a b).1 = zero := by
  unfold mg at *
  by_cases h1 : ck k a ≠ 0
  · rw [if_pos h1]
  rw [if_neg h1] at h ⊢
  by_cases h2 : ck k b ≠ 0
  · rw [if_pos h2]
  rw [if_neg h2] at h ⊢
  by_cases h3 : 128 < a.rows + b.rows
  · rw [if_pos h3]
  · rw [if_neg h3] at h; exact absurd rfl h

theorem dense_append (a b : List Cl) : dense (a ++ b) = dense a ++ dense b := by unfold dense; rw [List.filter_append]
theorem dense_here {d : List Cl} {l : List Cl} (h : d = dense l) : ∀ x ∈ d, x.kind ≠ 0 := fun x hx => by
  subst h
  have := (List.mem_filter.1 hx).2
  simpa [here] using this
theorem least_kind {d : List Cl} (hd : ∀ x ∈ d, x.kind ≠ 0) : (least d).kind = 0 ↔ d = [] := by
  constructor
  · intro h
    rcases Classical.em (d = []) with e | e
    · exact e
    · exact absurd h (hd _ (least_isL e).1)
  · rintro rfl; rfl
theorem most_kind {d : List Cl} (hd : ∀ x ∈ d, x.kind ≠ 0) : (most d).kind = 0 ↔ d = [] := by
  constructor
  · intro h
    rcases Classical.em (d = []) with e | e
    · exact e
    · exact absurd h (hd _ (most_isM e).1)
  · rintro rfl; rfl
theorem known_append (a b : List Cl) : known (a ++ b) = plus (known a) (known b) := by
  have ha : ∀ x ∈ dense a, x.kind ≠ 0 := dense_here rfl
  have hb : ∀ x ∈ dense b, x.kind ≠ 0 := dense_here rfl
  unfold known plus
  rw [dense_append]
  have e1 : least (dense a ++ dense b) = lo (least (dense a)) (least (dense b)) := by
    unfold lo
    by_cases h1 : dense a = []
    · rw [if_pos ((least_kind ha).2 h1), h1]; rfl
    · rw [if_neg (fun e => h1 ((least_kind ha).1 e))]
      by_cases h2 : dense b = []
      · rw [if_pos ((least_kind hb).2 h2), h2, List.append_nil]
      · rw [if_neg (fun e => h2 ((least_kind hb).1 e))]
        exact least_of (mn_isL _ _ _ _ (least_isL h1) (least_isL h2))
  have e2 : most (dense a ++ dense b) = hi (most (dense a)) (most (dense b)) := by
    unfold hi
    by_cases h1 : dense a = []
    · rw [if_pos ((most_kind ha).2 h1), h1]; rfl
    · rw [if_neg (fun e => h1 ((most_kind ha).1 e))]
      by_cases h2 : dense b = []
      · rw [if_pos ((most_kind hb).2 h2), h2, List.append_nil]
      · rw [if_neg (fun e => h2 ((most_kind hb).1 e))]
        exact most_of (mx_isM _ _ _ _ (most_isM h1) (most_isM h2))
  rw [e1, e2]
  simp only [List.length_append, Int.natCast_add]
  congr 1
  omega
/-- what is known of a column that is right may be known -/
theorem known_ok {k : Int} {l : List Cl} (h : chk k l = 0) : Ok k (known l) := by
  obtain ⟨h1, h2, h3⟩ := chk_ok h
  have hle : (dense l).length ≤ l.length := List.length_filter_le _ _
  have hd : ∀ x ∈ dense l, x.kind ≠ 0 := dense_here rfl
  have hin : ∀ x ∈ dense l, cellE k x = 0 := fun x hx => h3 x (List.mem_filter.1 hx).1
  have en : cellE k null = 0 := by unfold cellE null; simp
  have hk : ∀ x ∈ dense l, x.kind = k := fun x hx => ((cell_ok (hin x hx)).2.1).resolve_left (hd x hx)
  by_cases h0 : dense l = []
  · refine ⟨h1, by simp only [known]; omega, by simp only [known]; omega, by simp only [known]; omega, by simp only [known]; omega, ?_, ?_, ?_, Or.inl ⟨?_, ?_, ?_⟩⟩
    · simp only [known]; rw [h0]; exact en
    · simp only [known]; rw [h0]; exact en
    · simp only [known]; rw [h0]; exact lirr _
    · simp only [known]; rw [h0]; simp
    · simp only [known]; rw [h0]; rfl
    · simp only [known]; rw [h0]; rfl
  · have il := least_isL h0
    have im := most_isM h0
    have hp := List.length_pos_iff.2 h0
    refine ⟨h1, by simp only [known]; omega, by simp only [known]; omega, by simp only [known]; omega, by simp only [known]; omega, hin _ il.1, hin _ im.1, il.2 _ im.1, Or.inr ⟨?_, hk _ il.1, hk _ im.1⟩⟩
    simp only [known]; omega

/-- is number i not above any of the first k? not below? -/
def minAt (ds : List Cl) (i k : Nat) : Bool := (ds.take k).all fun x => !less x (ds.getD i null)
def maxAt (ds : List Cl) (i k : Nat) : Bool := (ds.take k).all fun x => !less (ds.getD i null) x
theorem take_next (ds : List Cl) (k : Nat) (h : k < ds.length) : ds.take (k + 1) = ds.take k ++ [ds.getD k null] := by
  rw [List.take_succ_eq_append_getElem h]; simp [List.getD, List.getElem?_eq_getElem h]
theorem minAt_next (ds : List Cl) (i k : Nat) (h : k < ds.length) : minAt ds i (k + 1) = (minAt ds i k && !less (ds.getD k null) (ds.getD i null)) := by
  unfold minAt; rw [take_next ds k h, List.all_append]
  simp only [List.all_cons, List.all_nil, Bool.and_true]
theorem maxAt_next (ds : List Cl) (i k : Nat) (h : k < ds.length) : maxAt ds i (k + 1) = (maxAt ds i k && !less (ds.getD i null) (ds.getD k null)) := by
  unfold maxAt; rw [take_next ds k h, List.all_append]
  simp only [List.all_cons, List.all_nil, Bool.and_true]
/-- the last one of the first i that is not above any; not below -/
def pickL (ds : List Cl) : Nat → Cl
  | 0 => null
  | i + 1 => if minAt ds i ds.length = true then ds.getD i null else pickL ds i
def pickM (ds : List Cl) : Nat → Cl
  | 0 => null
  | i + 1 => if maxAt ds i ds.length = true then ds.getD i null else pickM ds i
theorem getD_in {ds : List Cl} {i : Nat} (h : i < ds.length) : ds.getD i null ∈ ds := by
  simp only [List.getD, List.getElem?_eq_getElem h, Option.getD_some]; exact List.getElem_mem h
theorem minAt_isL {ds : List Cl} {i : Nat} (h : i < ds.length) : minAt ds i ds.length = true ↔ isL ds (ds.getD i null) := by
  unfold minAt isL
  rw [List.take_length, List.all_eq_true]
  constructor
  · intro hh
    refine ⟨getD_in h, fun x hx => ?_⟩
    have := hh x hx
    rwa [Bool.not_eq_true'] at this
  · intro hh x hx
    rw [Bool.not_eq_true']; exact hh.2 x hx
theorem maxAt_isM {ds : List Cl} {i : Nat} (h : i < ds.length) : maxAt ds i ds.length = true ↔ isM ds (ds.getD i null) := by
  unfold maxAt isM
  rw [List.take_length, List.all_eq_true]
  constructor
  · intro hh
    refine ⟨getD_in h, fun x hx => ?_⟩
    have := hh x hx
    rwa [Bool.not_eq_true'] at this
  · intro hh x hx
    rw [Bool.not_eq_true']; exact hh.2 x hx
theorem pickL_of (ds : List Cl) (m : Cl) (hm : isL ds m) : ∀ j, j ≤ ds.length → (∃ i, i < j ∧ ds.getD i null = m) → pickL ds j = m := by
  intro j
  induction j with
  | zero => rintro _ ⟨i, h, _⟩; exact absurd h (Nat.not_lt_zero _)
  | succ j ih =>
    rintro hj ⟨i, hi, he⟩
    unfold pickL
    by_cases h : minAt ds j ds.length = true
    · rw [if_pos h]; exact isL_one ((minAt_isL (by omega)).1 h) hm
    · rw [if_neg h]
      refine ih (by omega) ⟨i, ?_, he⟩
      rcases Nat.lt_or_ge i j with h2 | h2
      · exact h2
      · obtain rfl : i = j := by omega
        exact absurd ((minAt_isL (by omega)).2 (by rw [he]; exact hm)) h
theorem pickM_of (ds : List Cl) (m : Cl) (hm : isM ds m) : ∀ j, j ≤ ds.length → (∃ i, i < j ∧ ds.getD i null = m) → pickM ds j = m := by
  intro j
  induction j with
  | zero => rintro _ ⟨i, h, _⟩; exact absurd h (Nat.not_lt_zero _)
  | succ j ih =>
    rintro hj ⟨i, hi, he⟩
    unfold pickM
    by_cases h : maxAt ds j ds.length = true
    · rw [if_pos h]; exact isM_one ((maxAt_isM (by omega)).1 h) hm
    · rw [if_neg h]
      refine ih (by omega) ⟨i, ?_, he⟩
      rcases Nat.lt_or_ge i j with h2 | h2
      · exact h2
      · obtain rfl : i = j := by omega
        exact absurd ((maxAt_isM (by omega)).2 (by rw [he]; exact hm)) h
theorem in_getD {ds : List Cl} {m : Cl} (h : m ∈ ds) : ∃ i, i < ds.length ∧ ds.getD i null = m := by
  obtain ⟨i, hi, e⟩ := List.mem_iff_getElem.1 h
  exact ⟨i, hi, by simp only [List.getD, List.getElem?_eq_getElem hi, Option.getD_some]; exact e⟩
theorem pick_all (ds : List Cl) : pickL ds ds.length = least ds ∧ pickM ds ds.length = most ds := by
  rcases Classical.em (ds = []) with e | e
  · subst e; exact ⟨rfl, rfl⟩
  · exact ⟨pickL_of ds _ (least_isL e) _ (Nat.le_refl _) (in_getD (least_isL e).1), pickM_of ds _ (most_isM e) _ (Nat.le_refl _) (in_getD (most_isM e).1)⟩

/- The laws, as they will be asked. -/
theorem mg_comm {k : Int} {a b : St} (h : (mg k a b).2 = 0) : mg k b a = mg k a b := by
  obtain ⟨ha, hb, hr, e⟩ := mg_ok h
  rw [e, mg_of hb ha (by omega), plus_comm ha hb]
theorem mg_zero {k : Int} {a b : St} (h : (mg k a b).2 = 0) : mg k a zero = (a, 0) := by
  obtain ⟨ha, hb, hr, e⟩ := mg_ok h
  have h1 := ha.r1
  rw [mg_of ha (Ok.zero ha.kind) (by show a.rows + 0 ≤ 128; omega), plus_zero ha]
theorem mg_assoc {k : Int} {a b c : St} (h1 : (mg k a b).2 = 0) (h2 : (mg k (mg k a b).1 c).2 = 0) (h3 : (mg k b c).2 = 0) : mg k a (mg k b c).1 = mg k (mg k a b).1 c := by
  obtain ⟨ha, hb, hr, e⟩ := mg_ok h1
  obtain ⟨_, hc, hr2, e2⟩ := mg_ok h3
  rw [e] at h2 ⊢
  rw [e2]
  obtain ⟨hab, _, hr3, e3⟩ := mg_ok h2
  rw [e3]
  have hr4 : a.rows + (plus b c).rows ≤ 128 := by
    have q1 : (plus a b).rows = a.rows + b.rows := rfl
    have q2 : (plus b c).rows = b.rows + c.rows := rfl
    have q3 : (plus a b).rows + c.rows ≤ 128 := hr3
    omega
  rw [mg_of ha (hb.plus hc hr2) hr4, plus_assoc]
theorem chk_part {k : Int} {l : List Cl} (h : chk k l = 0) (j : Nat) : chk k (l.take j) = 0 ∧ chk k (l.drop j) = 0 := by
  obtain ⟨h1, h2, h3⟩ := chk_ok h
  exact ⟨chk_of h1 (by rw [List.length_take]; omega) fun c hc => h3 c (List.mem_of_mem_take hc), chk_of h1 (by rw [List.length_drop]; omega) fun c hc => h3 c (List.mem_of_mem_drop hc)⟩
theorem whole {k : Int} {l : List Cl} (h : chk k l = 0) (j : Nat) : mg k (known (l.take j)) (known (l.drop j)) = (known l, 0) := by
  obtain ⟨h1, h2⟩ := chk_part h j
  obtain ⟨_, hl, _⟩ := chk_ok h
  rw [mg_of (known_ok h1) (known_ok h2) (by
    show ((l.take j).length : Int) + ((l.drop j).length : Int) ≤ 128
    rw [List.length_take, List.length_drop]; omega), ← known_append, List.take_append_drop]
theorem bound {l : List Cl} {x : Cl} (hx : x ∈ l) (hk : x.kind ≠ 0) : less x (known l).least = false ∧ less (known l).most x = false := by
  have hd : x ∈ dense l := List.mem_filter.2 ⟨hx, by simp [here, hk]⟩
  have hne : dense l ≠ [] := fun e => by rw [e] at hd; simp at hd
  exact ⟨(least_isL hne).2 x hd, (most_isM hne).2 x hd⟩
theorem bound_in {l : List Cl} (h : dense l ≠ []) : ((known l).least ∈ l ∧ (known l).least.kind ≠ 0) ∧ (known l).most ∈ l ∧ (known l).most.kind ≠ 0 := by
  have hd : ∀ x ∈ dense l, x ∈ l ∧ x.kind ≠ 0 := fun x hx => ⟨(List.mem_filter.1 hx).1, dense_here rfl x hx⟩
  exact ⟨hd _ (least_isL h).1, hd _ (most_isM h).1⟩
end Go.Proofs.Ytnjnalehfhfefaa.S
/- Filters as functions from words: what a hash is, what is marked, what may be there. -/
namespace Go.Proofs.Ytnjnalehfhfefaa.Bl

theorem fold_snoc {α β : Type} (f : β → α → β) (a : List α) (b : α) (h : β) : (a ++ [b]).foldl f h = f (a.foldl f h) b := by simp
theorem fold_lt {α : Type} (f : Nat → α → Nat) (N : Nat) (hf : ∀ h b, f h b < N) (l : List α) (h : Nat) (hh : h < N) : l.foldl f h < N := by
  induction l generalizing h with
  | nil => simpa using hh
  | cons b l ih => simpa using ih _ (hf h b)
/-- a hash, and a byte more -/
def stp (h b : Nat) : Nat := (h ^^^ b) * 1099511628211 % 18446744073709551616
def stir (h : Nat) (l : List Nat) : Nat := l.foldl stp h
theorem stp_lt (h b : Nat) : stp h b < 18446744073709551616 := by
  unfold stp
  generalize (h ^^^ b) * 1099511628211 = x
  omega
theorem stir_lt (l : List Nat) (h : Nat) (hh : h < 18446744073709551616) : stir h l < 18446744073709551616 := fold_lt stp _ stp_lt l h hh
theorem stir_append (a b : List Nat) (h : Nat) : stir h (a ++ b) = stir (stir h a) b := List.foldl_append
theorem stir_snoc (a : List Nat) (b h : Nat) : stir h (a ++ [b]) = stp (stir h a) b := fold_snoc stp a b h

def eight (n : Nat) : List Nat := [n / 72057594037927936, n / 281474976710656, n / 1099511627776, n / 4294967296, n / 16777216, n / 65536, n / 256, n]
def low (k : Int) : Nat := (k % 256).toNat
theorem low_lt (k : Int) : low k < 256 := by unfold low; omega
theorem low_cast (k : Int) : ((low k : Nat) : Int) = k % 256 := by unfold low; omega
def bytes (c : C.Cl) : List Nat := [low c.kind] ++ (eight c.num).map (fun x => x % 256) ++ c.txt.map UInt8.toNat
def hash (c : C.Cl) : Nat := stir 14695981039346656037 (bytes c)
theorem hash_lt (c : C.Cl) : hash c < 18446744073709551616 := stir_lt _ _ (by omega)

/-- or, with a byte in the lowest eight bits, leaves what is above -/
theorem xor_low (h s : Nat) (hs : s < 256) : (h ^^^ s) = h - h % 256 + (h % 256 ^^^ s) := by
  have hx : (h % 256 ^^^ s) < 256 := Nat.xor_lt_two_pow (n := 8) (Nat.mod_lt _ (by omega)) hs
  have e1 : (h ^^^ s) / 256 = h / 256 := by
    have := Nat.shiftRight_xor_distrib (a := h) (b := s) (i := 8)
    rw [Nat.shiftRight_eq_div_pow, Nat.shiftRight_eq_div_pow, Nat.shiftRight_eq_div_pow] at this
    rw [show (256 : Nat) = 2 ^ 8 from rfl, this, Nat.div_eq_of_lt (show s < 2 ^ 8 from hs), Nat.xor_zero]
  have e2 : (h ^^^ s) % 256 = (h % 256 ^^^ s) := by
    have := Nat.xor_mod_two_pow (a := h) (b := s) (n := 8)
    rw [show (256 : Nat) = 2 ^ 8 from rfl, this, Nat.mod_eq_of_lt (show s < 2 ^ 8 from hs)]
  have := Nat.div_add_mod (h ^^^ s) 256
  have := Nat.div_add_mod h 256
  omega

theorem hash_three (k : Int) (n : Nat) (t : List UInt8) : hash ⟨k, n, t⟩ = stir (stir (stir 14695981039346656037 [low k]) ((eight n).map (fun x => x % 256))) (t.map UInt8.toNat) := by
  unfold hash bytes
  rw [stir_append, stir_append]

abbrev F := Nat → Nat
def none_ : F := fun _ => 0
def fOk (f : F) : Prop := ∀ j, j < 4 → f j < 18446744073709551616
def orf (f g : F) : F := fun j => f j ||| g j
def upd (f : F) (k x : Nat) : F := fun j => if j = k then x else f j
/-- one mark -/
def mk (m : Nat) : F := fun j => if j = m / 64 then 2 ^ (m % 64) else 0
def has (f : F) (m : Nat) : Bool := (f (m / 64)).testBit (m % 64)
def m0 (h : Nat) : Nat := h % 256
def m1 (h : Nat) : Nat := h / 1048576 % 256
def m2 (h : Nat) : Nat := h / 1099511627776 % 256
def put (f : F) (m : Nat) : F := upd f (m / 64) (f (m / 64) ||| 2 ^ (m % 64))
def marks (h : Nat) : F := put (put (put none_ (m0 h)) (m1 h)) (m2 h)
def add (f : F) (c : C.Cl) : F := orf f (marks (hash c))
def fil (f : F) (l : List C.Cl) : F := l.foldl add f
def may (f : F) (c : C.Cl) : Bool := has f (m0 (hash c)) && has f (m1 (hash c)) && has f (m2 (hash c))

theorem orf_ok {f g : F} (hf : fOk f) (hg : fOk g) : fOk (orf f g) := fun j hj => Nat.or_lt_two_pow (n := 64) (hf j hj) (hg j hj)
theorem none_ok : fOk none_ := fun _ _ => by unfold none_; omega
theorem put_ok {f : F} (hf : fOk f) (m : Nat) : fOk (put f m) := by
  intro j hj
  unfold put upd
  split
  · rename_i h
    exact Nat.or_lt_two_pow (n := 64) (hf _ (by omega)) (Nat.pow_lt_pow_right (by omega) (Nat.mod_lt _ (by omega)))
  · exact hf j hj
theorem marks_ok (h : Nat) : fOk (marks h) := put_ok (put_ok (put_ok none_ok _) _) _
theorem add_ok {f : F} (hf : fOk f) (c : C.Cl) : fOk (add f c) := orf_ok hf (marks_ok _)
theorem fil_ok {f : F} (hf : fOk f) (l : List C.Cl) : fOk (fil f l) := by
  induction l generalizing f with
  | nil => exact hf
  | cons c l ih => exact ih (add_ok hf c)
theorem put_eq (f : F) (m : Nat) : put f m = orf f (mk m) := by
  funext j
  unfold put upd orf mk
  by_cases h : j = m / 64
  · rw [if_pos h, if_pos h, h]
  · rw [if_neg h, if_neg h, Nat.or_zero]
theorem orf_assoc (f g h : F) : orf (orf f g) h = orf f (orf g h) := by funext j; exact Nat.or_assoc _ _ _
theorem orf_comm (f g : F) : orf f g = orf g f := by funext j; exact Nat.or_comm _ _
theorem orf_self (f : F) : orf f f = f := by funext j; exact Nat.or_self _
theorem orf_none (f : F) : orf f none_ = f := by funext j; exact Nat.or_zero _
theorem none_orf (f : F) : orf none_ f = f := by funext j; exact Nat.zero_or _
theorem marks_eq (h : Nat) : marks h = orf (orf (mk (m0 h)) (mk (m1 h))) (mk (m2 h)) := by
  unfold marks; rw [put_eq, put_eq, put_eq, none_orf]
/-- the three marks of a cell, one after the other -/
theorem add_put (f : F) (c : C.Cl) : add f c = put (put (put f (m0 (hash c))) (m1 (hash c))) (m2 (hash c)) := by
  unfold add; rw [marks_eq, put_eq, put_eq, put_eq, orf_assoc, orf_assoc, orf_assoc]

theorem has_orf (f g : F) (m : Nat) : has (orf f g) m = (has f m || has g m) := by
  unfold has orf; rw [Nat.testBit_or]
theorem has_mk (m : Nat) : has (mk m) m = true := by
  unfold has mk; rw [if_pos rfl, Nat.testBit_two_pow_self]
theorem has_put (f : F) (m : Nat) : has (put f m) m = true := by rw [put_eq, has_orf, has_mk, Bool.or_true]
theorem mod_succ (x k : Nat) : x % 2 ^ (k + 1) = x % 2 ^ k + (if x.testBit k = true then 2 ^ k else 0) := by
  rw [Nat.pow_succ, Nat.mod_mul, Nat.testBit_eq_decide_div_mod_eq]
  have := Nat.mod_two_eq_zero_or_one (x / 2 ^ k)
  rcases this with h | h <;> simp [h]
theorem or_has {x k : Nat} (h : x.testBit k = true) : x ||| 2 ^ k = x := by
  apply Nat.eq_of_testBit_eq
  intro i
  rw [Nat.testBit_or, Nat.testBit_two_pow]
  by_cases e : k = i
  · subst e; rw [h]; rfl
  · rw [decide_eq_false e, Bool.or_false]
theorem put_has {f : F} {m : Nat} (h : has f m = true) : put f m = f := by
  funext j
  unfold put upd
  split
  · rename_i e; rw [e]; exact or_has h
  · rfl
/-- what is not marked is marked by a sum -/
theorem put_add {x k : Nat} (h : x.testBit k = false) : x ||| 2 ^ k = x + 2 ^ k := by
  have hx : x &&& 2 ^ k = 0 := by
    apply Nat.eq_of_testBit_eq
    intro i
    rw [Nat.testBit_and, Nat.testBit_two_pow, Nat.zero_testBit]
    by_cases e : k = i
    · subst e; rw [h]; rfl
    · rw [decide_eq_false e, Bool.and_false]
  have e := Nat.div_add_mod x (2 ^ (k + 1))
  have hb : x % 2 ^ (k + 1) < 2 ^ k := by
    rw [mod_succ, h]
    simpa using Nat.mod_lt x (Nat.two_pow_pos k)
  apply Nat.eq_of_testBit_eq
  intro i
  rw [Nat.testBit_or, Nat.testBit_two_pow]
  have hc : x + 2 ^ k = 2 ^ (k + 1) * (x / 2 ^ (k + 1)) + (2 ^ k + x % 2 ^ (k + 1)) := by omega
  have hp := Nat.pow_succ 2 k
  have hlt : 2 ^ k + x % 2 ^ (k + 1) < 2 ^ (k + 1) := by omega
  rw [hc, Nat.testBit_two_pow_mul_add _ hlt]
  rcases Nat.lt_trichotomy i k with hi | hi | hi
  · rw [if_pos (by omega), Nat.testBit_two_pow_add_gt hi, Nat.testBit_mod_two_pow, decide_eq_false (by omega), Bool.or_false, decide_eq_true (by omega), Bool.true_and]
  · subst hi
    rw [if_pos (by omega), Nat.testBit_two_pow_add_eq, Nat.testBit_lt_two_pow hb, decide_eq_true rfl]; simp
  · rw [if_neg (by omega), decide_eq_false (by omega), Bool.or_false, Nat.testBit_div_two_pow, Nat.sub_add_cancel (by omega)]

theorem may_add (f : F) (c : C.Cl) : may f c = true ↔ add f c = f := by
  constructor
  · intro h
    unfold may at h
    simp only [Bool.and_eq_true] at h
    obtain ⟨⟨a, b⟩, d⟩ := h
    rw [add_put, put_has a, put_has b, put_has d]
  · intro h
    have e : ∀ m, has f m = (has f m || has (marks (hash c)) m) := fun m => by
      have := has_orf f (marks (hash c)) m
      rw [show orf f (marks (hash c)) = f from h] at this; exact this
    unfold may
    rw [e (m0 _), e (m1 _), e (m2 _), marks_eq]
    simp only [has_orf, has_mk, Bool.true_or, Bool.or_true, Bool.and_true]
/-- word by word -/
theorem ext4 {f g : F} (h : ∀ j, j < 4 → f j = g j) (m : Nat) (hm : m < 256) : has f m = has g m := by unfold has; rw [h _ (by omega)]
theorem may_words (f : F) (c : C.Cl) : may f c = true ↔ ∀ j, j < 4 → add f c j = f j := by
  constructor
  · intro h j _; rw [(may_add f c).1 h]
  · intro h
    have e : ∀ m, m < 256 → has f m = (has f m || has (marks (hash c)) m) := fun m hm => by
      have := has_orf f (marks (hash c)) m
      rw [ext4 (f := orf f (marks (hash c))) (g := f) h m hm] at this; exact this
    unfold may
    rw [e (m0 _) (Nat.mod_lt _ (by omega)), e (m1 _) (Nat.mod_lt _ (by omega)), e (m2 _) (Nat.mod_lt _ (by omega)), marks_eq]
    simp only [has_orf, has_mk, Bool.true_or, Bool.or_true, Bool.and_true]

theorem fil_append (f : F) (a b : List C.Cl) : fil f (a ++ b) = fil (fil f a) b := List.foldl_append
theorem fil_snoc (f : F) (a : List C.Cl) (c : C.Cl) : fil f (a ++ [c]) = add (fil f a) c := by rw [fil_append]; rfl
theorem fil_orf (f g : F) (l : List C.Cl) : fil (orf f g) l = orf f (fil g l) := by
  induction l generalizing g with
  | nil => rfl
  | cons c l ih =>
    show fil (add (orf f g) c) l = orf f (fil (add g c) l)
    rw [show add (orf f g) c = orf f (add g c) from orf_assoc _ _ _, ih]
theorem fil_union (a b : List C.Cl) : fil none_ (a ++ b) = orf (fil none_ a) (fil none_ b) := by
  have h := fil_orf (fil none_ a) none_ b
  rw [orf_none] at h
  rw [fil_append, h]
theorem may_more {f : F} {c : C.Cl} (h : may f c = true) (g : F) : may (orf f g) c = true := by
  rw [may_add] at h ⊢
  show orf (orf f g) _ = _
  rw [orf_assoc, orf_comm g, ← orf_assoc, show orf f (marks (hash c)) = f from h]
theorem may_here (f : F) (c : C.Cl) : may (add f c) c = true := by
  rw [may_add]; show orf (orf f _) _ = _; rw [orf_assoc, orf_self]; rfl
theorem fil_more (f : F) (l : List C.Cl) : fil f l = orf f (fil none_ l) := by have h := fil_orf f none_ l; rwa [orf_none] at h
theorem may_never (f : F) (a b : List C.Cl) (c : C.Cl) : may (fil (add (fil f a) c) b) c = true := by
  rw [fil_more]; exact may_more (may_here _ _) _

/-- both ones' marks, from the lowest on: so many of them -/
def part (f g : F) (i : Nat) : F := fun j => (f j ||| g j) % 2 ^ (i - 64 * j)
theorem part_zero (f g : F) : part f g 0 = none_ := by funext j; unfold part none_; rw [Nat.zero_sub, Nat.pow_zero, Nat.mod_one]
theorem part_all {f g : F} (hf : fOk f) (hg : fOk g) (j : Nat) (hj : j < 4) : part f g 256 j = orf f g j := by
  unfold part
  refine Nat.mod_eq_of_lt (Nat.lt_of_lt_of_le (orf_ok hf hg j hj) ?_)
  exact Nat.pow_le_pow_right (n := 2) (i := 64) (by omega) (by omega)
theorem part_other {f g : F} (hf : fOk f) (hg : fOk g) (i j : Nat) (hj : j < 4) (h : j ≠ i / 64) : part f g (i + 1) j = part f g i j := by
  unfold part
  by_cases hi : i < 64 * j
  · rw [show i + 1 - 64 * j = 0 by omega, show i - 64 * j = 0 by omega]
  · have ho := orf_ok hf hg j hj
    have h64 : 64 ≤ i - 64 * j := by omega
    have hp : ∀ n, 64 ≤ n → (f j ||| g j) % 2 ^ n = (f j ||| g j) := fun n hn => Nat.mod_eq_of_lt (Nat.lt_of_lt_of_le ho (Nat.pow_le_pow_right (n := 2) (i := 64) (by omega) hn))
    rw [hp _ (by omega), hp _ h64]
theorem part_here (f g : F) (i : Nat) : part f g (i + 1) (i / 64) = part f g i (i / 64) + (if (has f i || has g i) = true then 2 ^ (i % 64) else 0) := by
  unfold part
  have e : i - 64 * (i / 64) = i % 64 := by omega
  rw [show i + 1 - 64 * (i / 64) = i % 64 + 1 by omega, e, mod_succ, Nat.testBit_or]
  rfl

/-- the first so many words of both, the rest of one -/
def mixf (f g : F) (k : Nat) : F := fun j => if j < k then f j ||| g j else f j
theorem mixf_here (f g : F) (k : Nat) : mixf f g k k = f k := by unfold mixf; rw [if_neg (by omega)]
theorem mixf_step (f g : F) (k : Nat) : upd (mixf f g k) k (f k ||| g k) = mixf f g (k + 1) := by
  funext j
  unfold upd mixf
  by_cases h : j = k
  · subst h; rw [if_pos rfl, if_pos (by omega)]
  · rw [if_neg h]
    by_cases h2 : j < k
    · rw [if_pos h2, if_pos (by omega)]
    · rw [if_neg h2, if_neg (by omega)]
theorem mixf_zero (f g : F) : mixf f g 0 = f := by funext j; unfold mixf; rw [if_neg (by omega)]
theorem mixf_all (f g : F) (j : Nat) (hj : j < 4) : mixf f g 4 j = orf f g j := by unfold mixf orf; rw [if_pos hj]

theorem has_div (f : F) (m : Nat) : has f m = decide (f (m / 64) / 2 ^ (m % 64) % 2 = 1) := by
  unfold has; rw [Nat.testBit_eq_decide_div_mod_eq]
end Go.Proofs.Ytnjnalehfhfefaa.Bl
/- Conditions: how a list of nodes is read as a tree, what it is of a row, and what it may be of columns. -/
namespace Go.Proofs.Ytnjnalehfhfefaa.O
set_option linter.unusedVariables false

structure Cd where
  op : Int
  col : Int
  c : C.Cl
deriving DecidableEq
def nullC : Cd := ⟨0, 0, C.null⟩
def parts (op : Int) : Nat := if op = 5 ∨ op = 6 then 2 else if op = 7 then 1 else 0
/-- a node by itself -/
def alone (ks : List Int) (c : Cd) : Nat :=
  if c.op < 1 ∨ 7 < c.op then 7
  else if 5 ≤ c.op then (if c.col ≠ 0 ∨ c.c ≠ C.null then 1 else 0)
  else if c.col < 0 ∨ (ks.length : Int) ≤ c.col then 3
  else if ks.getD c.col.toNat 0 ≠ 1 ∧ ks.getD c.col.toNat 0 ≠ 2 then 7
  else if c.op = 4 then (if c.c ≠ C.null then 1 else 0)
  else if C.cellE (ks.getD c.col.toNat 0) c.c ≠ 0 then C.cellE (ks.getD c.col.toNat 0) c.c
  else if c.c.kind = 0 then 7 else 0
def nodeE (ks : List Int) (free : Nat) (c : Cd) : Nat := if alone ks c ≠ 0 then alone ks c else if free < parts c.op then 1 else 0
def chk (ks : List Int) : Nat → List Cd → Nat
  | free, [] => if free ≠ 1 then 1 else 0
  | free, c :: p => if nodeE ks free c ≠ 0 then nodeE ks free c else chk ks (free + 1 - parts c.op) p
def check (p : List Cd) (ks : List Int) : Nat := if 16 < p.length then 2 else chk ks 0 p

theorem parts_cases (op : Int) : (parts op = 0 ∧ op ≠ 5 ∧ op ≠ 6 ∧ op ≠ 7) ∨ (parts op = 1 ∧ op = 7) ∨ (parts op = 2 ∧ (op = 5 ∨ op = 6)) := by
  unfold parts
  by_cases h : op = 5 ∨ op = 6
  · rw [if_pos h]; exact Or.inr (Or.inr ⟨rfl, h⟩)
  · rw [if_neg h]
    by_cases h7 : op = 7
    · rw [if_pos h7]; exact Or.inr (Or.inl ⟨rfl, h7⟩)
    · rw [if_neg h7]; exact Or.inl ⟨rfl, fun e => h (Or.inl e), fun e => h (Or.inr e), h7⟩
theorem parts_le (op : Int) : parts op ≤ 2 := by rcases parts_cases op with h | h | h <;> omega

inductive T where
  | leaf (c : Cd)
  | one (c : Cd) (t : T)
  | two (c : Cd) (t u : T)
def flat : T → List Cd
  | .leaf c => [c]
  | .one c t => flat t ++ [c]
  | .two c t u => flat t ++ flat u ++ [c]
def ok (ks : List Int) : T → Prop
  | .leaf c => parts c.op = 0 ∧ alone ks c = 0
  | .one c t => parts c.op = 1 ∧ alone ks c = 0 ∧ ok ks t
  | .two c t u => parts c.op = 2 ∧ alone ks c = 0 ∧ ok ks t ∧ ok ks u
/-- the trees that belong to nobody, the last one first -/
def flatsR : List T → List Cd
  | [] => []
  | t :: st => flatsR st ++ flat t
theorem flat_pos : ∀ t : T, 0 < (flat t).length
  | .leaf c => by simp [flat]
  | .one c t => by simp [flat]
  | .two c t u => by simp [flat]; omega

theorem nodeE_zero {ks : List Int} {free : Nat} {c : Cd} (h : nodeE ks free c = 0) : alone ks c = 0 ∧ parts c.op ≤ free := by
  unfold nodeE at h
  by_cases h1 : alone ks c ≠ 0
  · rw [if_pos h1] at h; exact absurd h h1
  · rw [if_neg h1] at h
    by_cases h2 : free < parts c.op
    · rw [if_pos h2] at h; cases h
    · exact ⟨by omega, by omega⟩
theorem nodeE_of {ks : List Int} {free : Nat} {c : Cd} (h : alone ks c = 0) (h2 : parts c.op ≤ free) : nodeE ks free c = 0 := by
  unfold nodeE; rw [if_neg (by omega), if_neg (by omega)]
theorem chk_cons {ks : List Int} {free : Nat} {c : Cd} {p : List Cd} (h : alone ks c = 0) (h2 : parts c.op ≤ free) : chk ks free (c :: p) = chk ks (free + 1 - parts c.op) p := by
  rw [chk, if_neg (by rw [nodeE_of h h2]; omega)]

theorem parse (ks : List Int) : ∀ (p : List Cd) (st : List T), (∀ t ∈ st, ok ks t) → chk ks st.length p = 0 → ∃ t, ok ks t ∧ flat t = flatsR st ++ p := by
  intro p
  induction p with
  | nil =>
    intro st hst h
    unfold chk at h
    match st with
    | [] => simp at h
    | [t] => exact ⟨t, hst t (by simp), by simp [flatsR]⟩
    | t :: u :: st => simp at h
  | cons c p ih =>
    intro st hst h
    rw [chk] at h
    by_cases hn : nodeE ks st.length c ≠ 0
    · rw [if_pos hn] at h; exact absurd h hn
    · rw [if_neg hn] at h
      obtain ⟨ha, hp⟩ := nodeE_zero (show nodeE ks st.length c = 0 by omega)
      rcases parts_cases c.op with hc | hc | hc
      · obtain ⟨t, ht, hf⟩ := ih (.leaf c :: st) (by intro t ht; rcases List.mem_cons.1 ht with rfl | ht; exact ⟨hc.1, ha⟩; exact hst t ht) (by rw [List.length_cons]; rw [hc.1] at h; exact h)
        exact ⟨t, ht, by rw [hf]; simp [flatsR, flat]⟩
      · match st, hst, hp, h with
        | x :: st, hst, hp, h =>
          obtain ⟨t, ht, hf⟩ := ih (.one c x :: st) (by intro t ht; rcases List.mem_cons.1 ht with rfl | ht; exact ⟨hc.1, ha, hst x (by simp)⟩; exact hst t (by simp [ht])) (by
            rw [List.length_cons] at h ⊢; rw [hc.1] at h; exact h)
          exact ⟨t, ht, by rw [hf]; simp [flatsR, flat]⟩
        | [], _, hp, _ => rw [hc.1] at hp; simp at hp
      · match st, hst, hp, h with
        | y :: x :: st, hst, hp, h =>
          obtain ⟨t, ht, hf⟩ := ih (.two c x y :: st) (by intro t ht; rcases List.mem_cons.1 ht with rfl | ht; exact ⟨hc.1, ha, hst x (by simp), hst y (by simp)⟩; exact hst t (by simp [ht])) (by
            simp only [List.length_cons] at h ⊢; rw [hc.1] at h; exact h)
          exact ⟨t, ht, by rw [hf]; simp [flatsR, flat]⟩
        | [y], _, hp, _ => rw [hc.1] at hp; simp at hp
        | [], _, hp, _ => rw [hc.1] at hp; simp at hp
theorem tree {p : List Cd} {ks : List Int} (h : check p ks = 0) : p.length ≤ 16 ∧ ∃ t, ok ks t ∧ flat t = p := by
  unfold check at h
  by_cases h1 : 16 < p.length
  · rw [if_pos h1] at h; cases h
  · rw [if_neg h1] at h
    obtain ⟨t, ht, hf⟩ := parse ks p [] (by simp) h
    exact ⟨by omega, t, ht, by rw [hf]; simp [flatsR]⟩
theorem chk_flat (ks : List Int) : ∀ (t : T), ok ks t → ∀ (free : Nat) (r : List Cd), chk ks free (flat t ++ r) = chk ks (free + 1) r
  | .leaf c, h, free, r => by
    show chk ks free (c :: r) = _
    rw [chk_cons h.2 (by rw [h.1]; omega), h.1, Nat.sub_zero]
  | .one c t, h, free, r => by
    rw [flat, List.append_assoc, chk_flat ks t h.2.2, List.singleton_append, chk_cons h.2.1 (by rw [h.1]; omega), h.1, Nat.add_sub_cancel]
  | .two c t u, h, free, r => by
    rw [flat, List.append_assoc, List.append_assoc, chk_flat ks t h.2.2.1, chk_flat ks u h.2.2.2, List.singleton_append, chk_cons h.2.1 (by rw [h.1]; omega), h.1, show free + 1 + 1 + 1 - 2 = free + 1 by omega]
theorem check_flat {ks : List Int} {t : T} (h : ok ks t) (hl : (flat t).length ≤ 16) : check (flat t) ks = 0 := by
  unfold check
  rw [if_neg (by omega)]
  have := chk_flat ks t h 0 []
  rw [List.append_nil] at this
  rw [this]; rfl

/-- the nodes in their order: what a leaf is, and what comes of those that a node is of -/
def step (ask : Cd → Nat) (jo : Int → Nat → Nat → Nat) (st : List Nat) (c : Cd) : List Nat :=
  if parts c.op = 0 then st ++ [ask c] else st.take (st.length - parts c.op) ++ [jo c.op (st.getD (st.length - parts c.op) 0) (st.getD (st.length - 1) 0)]
def run (ask : Cd → Nat) (jo : Int → Nat → Nat → Nat) (st : List Nat) (p : List Cd) : List Nat := p.foldl (step ask jo) st
def ev (ask : Cd → Nat) (jo : Int → Nat → Nat → Nat) : T → Nat
  | .leaf c => ask c
  | .one c t => jo c.op (ev ask jo t) (ev ask jo t)
  | .two c t u => jo c.op (ev ask jo t) (ev ask jo u)
theorem run_snoc (ask : Cd → Nat) (jo : Int → Nat → Nat → Nat) (st : List Nat) (p : List Cd) (c : Cd) : run ask jo st (p ++ [c]) = step ask jo (run ask jo st p) c := by simp [run]
theorem run_append (ask : Cd → Nat) (jo : Int → Nat → Nat → Nat) (st : List Nat) (p q : List Cd) : run ask jo st (p ++ q) = run ask jo (run ask jo st p) q := List.foldl_append
theorem run_flat (ask : Cd → Nat) (jo : Int → Nat → Nat → Nat) (ks : List Int) : ∀ (t : T), ok ks t → ∀ st, run ask jo st (flat t) = st ++ [ev ask jo t]
  | .leaf c, h, st => by
    show step ask jo st c = _
    rw [step, if_pos h.1]; rfl
  | .one c t, h, st => by
    rw [flat, run_snoc, run_flat ask jo ks t h.2.2, step, if_neg (by rw [h.1]; omega), h.1]
    simp [ev, List.getD]
  | .two c t u, h, st => by
    rw [flat, run_snoc, run_append, run_flat ask jo ks t h.2.2.1, run_flat ask jo ks u h.2.2.2, step, if_neg (by rw [h.1]; omega), h.1]
    simp [ev, List.getD]
/-- how many stand behind k nodes -/
theorem run_len (ask : Cd → Nat) (jo : Int → Nat → Nat → Nat) (st : List Nat) (c : Cd) (h : parts c.op ≤ st.length) : (step ask jo st c).length = st.length + 1 - parts c.op := by
  unfold step
  split
  · rename_i h0; rw [h0]; simp
  · rw [List.length_append, List.length_take]; simp; omega

/-- what a leaf is of a cell -/
def told (c : Cd) (x : C.Cl) : Nat :=
  if c.op = 4 then (if x.kind = 0 then 2 else 0)
  else if x.kind = 0 then 1
  else if (if c.op = 2 then C.less x c.c else if c.op = 3 then C.less c.c x else decide (x = c.c)) = true then 2 else 0
def jo (op : Int) (a b : Nat) : Nat := if op = 5 then min a b else if op = 6 then max a b else 2 - a
theorem told_le (c : Cd) (x : C.Cl) : told c x ≤ 2 := by
  unfold told
  (repeat' split) <;> omega
theorem jo_le (op : Int) (a b : Nat) (ha : a ≤ 2) (hb : b ≤ 2) : jo op a b ≤ 2 := by
  unfold jo
  (repeat' split) <;> omega
theorem ev_le (ask : Cd → Nat) (h : ∀ c, ask c ≤ 2) : ∀ t : T, ev ask jo t ≤ 2
  | .leaf c => h c
  | .one c t => jo_le _ _ _ (ev_le ask h t) (ev_le ask h t)
  | .two c t u => jo_le _ _ _ (ev_le ask h t) (ev_le ask h u)
def askL (row : List C.Cl) (c : Cd) : Nat := told c (row.getD c.col.toNat C.null)
def rowE : List Int → List C.Cl → Nat
  | k :: ks, c :: cs => if C.chk k [c] ≠ 0 then C.chk k [c] else rowE ks cs
  | _, _ => 0
def askR (p : List Cd) (ks : List Int) (row : List C.Cl) : Nat × Nat :=
  if check p ks ≠ 0 then (0, check p ks) else if row.length ≠ ks.length then (0, 1) else if rowE ks row ≠ 0 then (0, rowE ks row) else ((run (askL row) jo [] p).getD 0 0, 0)
theorem askR_tree {p : List Cd} {ks : List Int} {row : List C.Cl} {t : T} (h : ok ks t) (hf : flat t = p) (hl : p.length ≤ 16) (h1 : row.length = ks.length) (h2 : rowE ks row = 0) : askR p ks row = (ev (askL row) jo t, 0) := by
  unfold askR
  rw [if_neg (by rw [← hf, check_flat h (by rw [hf]; exact hl)]; omega), if_neg (by omega), if_neg (by omega), ← hf, run_flat _ _ ks t h]
  rfl

/-- sets of truth values: a bit for each -/
def has (s t : Nat) : Bool := s / 2 ^ t % 2 == 1
def mj (op : Int) (a b : Nat) : Nat → Nat
  | 0 => 0
  | n + 1 => if has a (n / 3) && has b (n % 3) then mj op a b n ||| 2 ^ jo op (n / 3) (n % 3) else mj op a b n
def joS (op : Int) (a b : Nat) : Nat := mj op a b 9
def there (c : Cd) (s : S.St) (f : Bl.F) : Nat :=
  if c.op ≠ 1 then 2 ^ told c s.least ||| 2 ^ told c s.most
  else if C.less c.c s.least || C.less s.most c.c || !Bl.may f c.c then 1
  else if s.least = s.most then 4 else 5
def mayBe (c : Cd) (s : S.St) (f : Bl.F) : Nat :=
  (if 0 < s.nulls then 2 ^ told c C.null else 0) ||| (if s.nulls < s.rows then there c s f else 0)
def askS (s : List S.St) (f : List Bl.F) (c : Cd) : Nat := mayBe c (s.getD c.col.toNat S.zero) (f.getD c.col.toNat Bl.none_)
def knownE : List Int → List S.St → Nat
  | k :: ks, c :: cs => if S.ck k c ≠ 0 then S.ck k c else knownE ks cs
  | _, _ => 0
def pruneR (p : List Cd) (ks : List Int) (s : List S.St) (f : List Bl.F) : Nat × Nat :=
  if check p ks ≠ 0 then (0, check p ks) else if s.length ≠ ks.length ∨ f.length ≠ ks.length then (0, 1) else if knownE ks s ≠ 0 then (0, knownE ks s) else ((run (askS s f) joS [] p).getD 0 0, 0)
theorem pruneR_tree {p : List Cd} {ks : List Int} {s : List S.St} {f : List Bl.F} {t : T} (h : ok ks t) (hf : flat t = p) (hl : p.length ≤ 16) (h1 : s.length = ks.length) (h3 : f.length = ks.length) (h2 : knownE ks s = 0) : pruneR p ks s f = (ev (askS s f) joS t, 0) := by
  unfold pruneR
  rw [if_neg (by rw [← hf, check_flat h (by rw [hf]; exact hl)]; omega), if_neg (by omega), if_neg (by omega), ← hf, run_flat _ _ ks t h]
  rfl
theorem three (t : Nat) (h : t ≤ 2) : t = 0 ∨ t = 1 ∨ t = 2 := by omega
theorem pow_le (t : Nat) (h : t ≤ 2) : 2 ^ t ≤ 4 := by rcases three t h with rfl | rfl | rfl <;> decide
theorem or_lt8 (a b : Nat) (ha : a < 8) (hb : b < 8) : a ||| b < 8 := Nat.or_lt_two_pow (n := 3) ha hb
theorem mj_lt (op : Int) (a b : Nat) : ∀ n, n ≤ 9 → mj op a b n < 8
  | 0, _ => by simp [mj]
  | n + 1, h => by
    have ih := mj_lt op a b n (by omega)
    rw [mj]
    split
    · refine or_lt8 _ _ ih ?_
      have := pow_le _ (jo_le op (n / 3) (n % 3) (by omega) (by omega))
      omega
    · exact ih
theorem joS_lt (op : Int) (a b : Nat) : joS op a b < 8 := mj_lt op a b 9 (by omega)
theorem there_lt (c : Cd) (s : S.St) (f : Bl.F) : there c s f < 8 := by
  unfold there
  have h1 := pow_le _ (told_le c s.least)
  have h2 := pow_le _ (told_le c s.most)
  split
  · exact or_lt8 _ _ (by omega) (by omega)
  · repeat' split
    all_goals omega
theorem mayBe_lt (c : Cd) (s : S.St) (f : Bl.F) : mayBe c s f < 8 := by
  unfold mayBe
  have h1 := pow_le _ (told_le c C.null)
  have h2 := there_lt c s f
  refine or_lt8 _ _ ?_ ?_
  · split <;> omega
  · split <;> omega
theorem evS_lt (ask : Cd → Nat) (h : ∀ c, ask c < 8) : ∀ t : T, ev ask joS t < 8
  | .leaf c => h c
  | .one c t => joS_lt _ _ _
  | .two c t u => joS_lt _ _ _
end Go.Proofs.Ytnjnalehfhfefaa.O
/- Words for memory and texts that all walks of this seat use: those that want no slice of numbers. -/
namespace Go.Proofs.Ytnjnalehfhfefaa
open Go.RowKit
set_option linter.unusedVariables false

theorem bcell {W w1 : World} (hb : Below W.heap.size W w1) : (∀ b o, b < W.heap.size → w1.cell? ⟨b, o, none⟩ = W.cell? ⟨b, o, none⟩) ∧ (∀ b o, b < W.heap.size → w1.frozen? ⟨b, o, none⟩ = W.frozen? ⟨b, o, none⟩) :=
  ⟨fun b o h => hb.cell (p := ⟨b, o, none⟩) h, fun b o h => hb.frozen (p := ⟨b, o, none⟩) h⟩

/-- a text of bytes -/
def str (l : List UInt8) : ByteArray := ⟨l.toArray⟩
theorem str_data (l : List UInt8) : (str l).data.toList = l := rfl
theorem str_size (l : List UInt8) : (str l).size = l.length := by simp [str, ByteArray.size]

theorem str_of (l : List UInt8) : strOfNums (l.map fun b => (b.toNat : Int)) = str l := by
  have : ((fun n : Int => UInt8.ofNat n.toNat) ∘ fun b : UInt8 => (b.toNat : Int)) = id := by funext b; simp
  simp [strOfNums, str, this]

theorem Calls.quiet_same {P : Program} {f : FuncId} {args : Array Value} {w : World} {n : Nat} {v : Value}
    (h : Calls P f args (w.drewN n) fun e w' => e = .returned v ∧ w.drewN n = w') : Calls P f args (w.drewN n) fun e w'' => e = .returned v ∧ ∃ m, w'' = w.drewN m :=
  h.mono fun _ _ ⟨he, hm⟩ => ⟨he, n, hm.symm⟩

theorem len_data (s : ByteArray) : s.data.toList.length = s.size := Array.length_toList
theorem head_cons (s : ByteArray) (h0 : 0 < s.size) : ∃ l, s.data.toList = s[0] :: l := by
  obtain ⟨c, t, hd⟩ := List.exists_cons_of_length_pos (l := s.data.toList) (by rw [len_data]; exact h0)
  have : s.data.toList[0]? = some c := by rw [hd]; rfl
  rw [Array.getElem?_toList, Array.getElem?_eq_getElem h0] at this
  exact ⟨t, by rw [hd, ← Option.some.inj this]; rfl⟩

theorem byte_at (s : ByteArray) (j : Nat) (hj : j + 1 < s.size) : (s.data.toList.drop 1)[j]? = some s[j + 1] := by
  rw [List.getElem?_drop, Nat.add_comm, Array.getElem?_toList]
  exact Array.getElem?_eq_getElem hj

def nv (l : List Nat) : List Value := l.map fun x : Nat => Value.int .u64 (x : Int)
theorem nv_length (l : List Nat) : (nv l).length = l.length := by simp [nv]

theorem info_u64 : (Try.prog.info? 28).map (fun i => (i.zero, i.size, i.bytes)) = some (some (.int .u64 0), 1, 8) := by kernel_rfl

theorem empty_true (r : ByteArray) (h : r.size = 0) : r.toList.isEmpty = true := by
  rw [ByteArray.toList_eq, List.isEmpty_iff_length_eq_zero, len_data]; exact h
theorem empty_false (r : ByteArray) (h : ¬ r.size = 0) : r.toList.isEmpty = false := by
  rw [ByteArray.toList_eq, ← Bool.not_eq_true, List.isEmpty_iff_length_eq_zero, len_data]; exact h
theorem data_empty (r : ByteArray) (h : r.size = 0) : r.data.toList = [] := List.eq_nil_of_length_eq_zero (by rw [len_data]; exact h)

theorem data_ne (r : ByteArray) (h : ¬ r.size = 0) : r.data.toList ≠ [] := fun e => h (by rw [← len_data, e]; rfl)
theorem cut_data (r : ByteArray) (k : Nat) : (r.extract k r.size).data.toList = r.data.toList.drop k := by
  rw [Lib.extract_data, ← len_data, List.take_of_length_le (by rw [List.length_drop]; omega)]
def strSize : Value → Nat
  | .string r => r.size
  | _ => 0

/-- a slice's numbers, read below block B -/
def Nums (w : World) (B : Nat) (a : Option Addr) (l : List Nat) : Prop :=
  l ≠ [] → ∃ b off, a = some ⟨b, off, none⟩ ∧ b < B ∧ ∀ i, i < l.length → w.cell? ⟨b, off + i, none⟩ = some (.int .u64 ((l.getD i 0 : Nat) : Int))

theorem Nums.below {w w' : World} {B : Nat} {a : Option Addr} {l : List Nat} (h : Nums w B a l) (hb : Below B w w') : Nums w' B a l := by
  intro hl
  obtain ⟨b, off, e, hlt, hc⟩ := h hl
  exact ⟨b, off, e, hlt, fun i hi => by rw [hb.cell (p := ⟨b, off + i, none⟩) hlt]; exact hc i hi⟩
theorem Nums.mono {w : World} {B B' : Nat} {a : Option Addr} {l : List Nat} (h : Nums w B a l) (hB : B ≤ B') : Nums w B' a l := by
  intro hl
  obtain ⟨b, off, e, hlt, hc⟩ := h hl
  exact ⟨b, off, e, by omega, hc⟩
theorem Nums.nil (w : World) (B : Nat) (a : Option Addr) : Nums w B a [] := fun h => absurd rfl h

theorem take_eq_succ (l m : List Nat) (k : Nat) (hlm : l.length = m.length) (hk : k < l.length) (h : l.take k = m.take k) (hq : l.getD k 0 = m.getD k 0) : l.take (k + 1) = m.take (k + 1) := by
  rw [List.take_succ_eq_append_getElem hk, List.take_succ_eq_append_getElem (show k < m.length by omega), h]
  simp only [List.getD, List.getElem?_eq_getElem hk, List.getElem?_eq_getElem (show k < m.length by omega), Option.getD_some] at hq
  rw [hq]
theorem ne_at (l m : List Nat) (k : Nat) (hq : l.getD k 0 ≠ m.getD k 0) : ¬ l = m := fun e => hq (by rw [e])
theorem take_eq_all (l m : List Nat) (k : Nat) (hlm : l.length = m.length) (hk : l.length ≤ k) (h : l.take k = m.take k) : l = m := by
  rwa [List.take_of_length_le hk, List.take_of_length_le (by omega)] at h

def BoolPost (b : Bool) (w : World) (e : Ending) (w' : World) : Prop := e = .returned (.bool b) ∧ Below w.heap.size w w'

theorem below_then {w w1 w2 : World} (h : Below w.heap.size w w1) (k : Below w1.heap.size w1 w2) : Below w.heap.size w w2 := h.trans (k.mono h.size)
theorem ret_bool {b c : Bool} (h : b = c) : Ending.returned (.bool b) = .returned (.bool c) := by rw [h]
theorem str_toList (l : List UInt8) : (str l).toList = l := by rw [ByteArray.toList_eq]; rfl
theorem take_data (r : ByteArray) (k : Nat) : (r.extract 0 k).data.toList = r.data.toList.take k := by
  rw [Lib.extract_data]; simp
def AllPost (r : List Nat × Nat) (w : World) (e : Ending) (w' : World) : Prop :=
  ∃ a c, e = .returned (.tuple #[.slice a r.1.length c, .int .i64 r.2]) ∧ Nums w' w'.heap.size a r.1 ∧ Below w.heap.size w w'

theorem row_below {w w' : World} {B : Nat} {e : TypeId} {sz : Nat} {v : Value} {n : Nat} {xs : List Value} (h : w.ownsRow B e sz v n xs) (hb : Below w.heap.size w w') : w'.ownsRow B e sz v n xs := by
  refine ⟨h.1, ?_⟩
  rcases h.2 with hn | ⟨g, cap, cur, e1, e2, e3, e4⟩
  · exact Or.inl hn
  · exact Or.inr ⟨g, cap, cur, e1, e2, (hb.block g (lt_of_block e3)).trans e3, e4⟩

theorem getD_mem (l : List Nat) (k : Nat) (hk : k < l.length) : l.getD k 0 ∈ l := by
  simp only [List.getD, List.getElem?_eq_getElem hk, Option.getD_some]
  exact List.getElem_mem hk

/-- a slice of numbers that the call made -/
def NumRow (B : Nat) (xs : List Nat) (v : Value) (wr : World) : Prop := wr.ownsRow B 28 1 v xs.length (nv xs)

theorem numRow_nums {B : Nat} {xs : List Nat} {v : Value} {w : World} (h : NumRow B xs v w) : ∃ a c, v = .slice a xs.length c ∧ Nums w w.heap.size a xs := by
  unfold NumRow at h
  rcases h.2 with ⟨rfl, h0⟩ | ⟨g, cap, cur, rfl, e2, e3, e4⟩
  · refine ⟨none, 0, by rw [h0], ?_⟩
    rw [List.eq_nil_of_length_eq_zero h0]; exact Nums.nil _ _ _
  · refine ⟨some ⟨g, 0, none⟩, cap, rfl, fun _ => ⟨g, 0, rfl, lt_of_block e3, fun i hi => ?_⟩⟩
    rw [Nat.zero_add, h.cellAt i (by omega)]
    simp [nv, List.getElem?_eq_getElem hi]

theorem Nums.next {w w' : World} {a : Option Addr} {l : List Nat} (h : Nums w w.heap.size a l) (hb : Below w.heap.size w w') : Nums w' w'.heap.size a l := (h.below hb).mono hb.size

end Go.Proofs.Ytnjnalehfhfefaa
/- Words for cells of columns, and slices of them. -/
namespace Go.Proofs.Ytnjnalehfhfefaa
open Go.RowKit
set_option linter.unusedVariables false

/-- the three values of a cell -/
def cx (c : C.Cl) : List Value := [.int .i64 c.kind, .int .u64 (c.num : Int), .string (str c.txt)]
def cag (c : C.Cl) : Value := .agg #[.int .i64 c.kind, .int .u64 (c.num : Int), .string (str c.txt)]
/-- what fits the types -/
def cOk (c : C.Cl) : Prop := -9223372036854775808 ≤ c.kind ∧ c.kind ≤ 9223372036854775807 ∧ c.num < 18446744073709551616 ∧ c.txt.length ≤ maxLen
theorem cOk_null : cOk C.null := by unfold cOk C.null; simp [maxLen]

/-- a slice's cells, read below block B -/
def Cls (w : World) (B : Nat) (a : Option Addr) (l : List C.Cl) : Prop :=
  l ≠ [] → ∃ b off, a = some ⟨b, off, none⟩ ∧ b < B ∧ ∀ i, i < l.length → w.cell? ⟨b, off + i * 3, none⟩ = some (.int .i64 (l.getD i C.null).kind) ∧ w.cell? ⟨b, off + i * 3 + 1, none⟩ = some (.int .u64 ((l.getD i C.null).num : Int)) ∧ w.cell? ⟨b, off + i * 3 + 2, none⟩ = some (.string (str (l.getD i C.null).txt))

theorem Cls.below {w w' : World} {B : Nat} {a : Option Addr} {l : List C.Cl} (h : Cls w B a l) (hb : Below B w w') : Cls w' B a l := by
  intro hl
  obtain ⟨b, off, e, hlt, hc⟩ := h hl
  exact ⟨b, off, e, hlt, fun i hi => ⟨(hb.cell (p := ⟨b, off + i * 3, none⟩) hlt).trans (hc i hi).1, (hb.cell (p := ⟨b, off + i * 3 + 1, none⟩) hlt).trans (hc i hi).2.1, (hb.cell (p := ⟨b, off + i * 3 + 2, none⟩) hlt).trans (hc i hi).2.2⟩⟩
theorem Cls.mono {w : World} {B B' : Nat} {a : Option Addr} {l : List C.Cl} (h : Cls w B a l) (hB : B ≤ B') : Cls w B' a l := by
  intro hl
  obtain ⟨b, off, e, hlt, hc⟩ := h hl
  exact ⟨b, off, e, by omega, hc⟩
theorem Cls.nil (w : World) (B : Nat) (a : Option Addr) : Cls w B a [] := fun h => absurd rfl h
theorem Cls.next {w w' : World} {a : Option Addr} {l : List C.Cl} (h : Cls w w.heap.size a l) (hb : Below w.heap.size w w') : Cls w' w'.heap.size a l := (h.below hb).mono hb.size

def cv (l : List C.Cl) : List Value := l.flatMap cx
theorem cv_cons (c : C.Cl) (l : List C.Cl) : cv (c :: l) = .int .i64 c.kind :: .int .u64 (c.num : Int) :: .string (str c.txt) :: cv l := rfl
theorem cv_length (l : List C.Cl) : (cv l).length = l.length * 3 := by
  induction l with
  | nil => rfl
  | cons c l ih => rw [cv_cons]; simp only [List.length_cons, ih]; omega
theorem cv_append (a b : List C.Cl) : cv (a ++ b) = cv a ++ cv b := by simp [cv]
theorem cv_get (l : List C.Cl) (i : Nat) (hi : i < l.length) : (cv l)[i * 3]? = some (.int .i64 (l.getD i C.null).kind) ∧ (cv l)[i * 3 + 1]? = some (.int .u64 ((l.getD i C.null).num : Int)) ∧ (cv l)[i * 3 + 2]? = some (.string (str (l.getD i C.null).txt)) := by
  induction l generalizing i with
  | nil => simp at hi
  | cons c l ih =>
    cases i with
    | zero => simp [cv_cons]
    | succ i =>
      have := ih i (by simpa using hi)
      rw [cv_cons, show (i + 1) * 3 = i * 3 + 1 + 1 + 1 by omega, show i * 3 + 1 + 1 + 1 + 1 = (i * 3 + 1) + 1 + 1 + 1 by omega, show i * 3 + 1 + 1 + 1 + 2 = (i * 3 + 2) + 1 + 1 + 1 by omega]
      simpa using this
theorem cv_set (l : List C.Cl) (i : Nat) (c : C.Cl) (hi : i < l.length) : (((cv l).set (i * 3) (.int .i64 c.kind)).set (i * 3 + 1) (.int .u64 (c.num : Int))).set (i * 3 + 2) (.string (str c.txt)) = cv (l.set i c) := by
  induction l generalizing i with
  | nil => simp at hi
  | cons r l ih =>
    cases i with
    | zero => simp [cv_cons]
    | succ i =>
      have := ih i (by simpa using hi)
      rw [cv_cons, show (i + 1) * 3 = i * 3 + 1 + 1 + 1 by omega, show i * 3 + 1 + 1 + 1 + 1 = (i * 3 + 1) + 1 + 1 + 1 by omega, show i * 3 + 1 + 1 + 1 + 2 = (i * 3 + 2) + 1 + 1 + 1 by omega]
      simp [this, cv_cons]

theorem info_cell : (Try.prog.info? 30).map (fun i => (i.zero, i.size, i.bytes)) = some (some (.agg #[.int .i64 0, .int .u64 0, .string ByteArray.empty]), 3, 32) := by kernel_rfl

/-- a slice of cells that the call made -/
def CRow (B : Nat) (xs : List C.Cl) (v : Value) (wr : World) : Prop := wr.ownsRow B 30 3 v xs.length (cv xs)
theorem cRow_cls {B : Nat} {xs : List C.Cl} {v : Value} {w : World} (h : CRow B xs v w) : ∃ a c, v = .slice a xs.length c ∧ Cls w w.heap.size a xs ∧ (xs.length ≤ c ∧ c ≤ maxLen ∧ (a = none → c = 0)) := by
  unfold CRow at h
  rcases h.2 with ⟨rfl, h0⟩ | ⟨g, cap, cur, rfl, e2, e3, e4, e5, e6, e7⟩
  · refine ⟨none, 0, by rw [h0], ?_, by omega, by unfold maxLen; omega, fun _ => rfl⟩
    rw [List.eq_nil_of_length_eq_zero h0]; exact Cls.nil _ _ _
  · refine ⟨some ⟨g, 0, none⟩, cap, rfl, fun _ => ⟨g, 0, rfl, lt_of_block e3, fun i hi => ?_⟩, e4, e5, fun h => by cases h⟩
    rw [Nat.zero_add, h.cellAt (i * 3) (by omega), h.cellAt (i * 3 + 1) (by omega), h.cellAt (i * 3 + 2) (by omega)]
    exact cv_get xs i hi
theorem CRow.below {B : Nat} {xs : List C.Cl} {v : Value} {w w' : World} (h : CRow B xs v w) (hb : Below w.heap.size w w') : CRow B xs v w' := row_below h hb
theorem CRow.alloc_ {B : Nat} {xs : List C.Cl} {v : Value} {w : World} (h : CRow B xs v w) (o : Obj) : CRow B xs v (w.alloc o) := World.ownsRow.alloc h o
theorem cnilRow (B : Nat) (w : World) : CRow B [] (.slice none 0 0) w := ⟨rfl, Or.inl ⟨rfl, rfl⟩⟩
theorem CRow.form {B : Nat} {xs : List C.Cl} {a : Option Addr} {n c : Nat} {w : World} (h : CRow B xs (.slice a n c) w) (hne : xs ≠ []) : ∃ g, a = some ⟨g, 0, none⟩ ∧ n = xs.length ∧ B ≤ g ∧ g < w.heap.size := by
  unfold CRow at h
  rcases h.2 with ⟨he, h0⟩ | ⟨g, cap, cur, he, e2, e3, e4⟩
  · exact absurd (List.eq_nil_of_length_eq_zero h0) hne
  · injection he with h1 h2 h3
    exact ⟨g, h1, h2, e2, lt_of_block e3⟩

/-- append of one cell onto a row of the call's own -/
theorem wpList_append_onec {w : World} {ops : Array Oper} {rest : List Oper} {o : Oper} {a : Act} {Q : Exit → Act → World → Prop} (hgd : o.guard = none) (s x : Operand)
    (ho : o.op = .call { callee := .builtin .append, args := #[s, x], argTypes := #[34, 34] }) (base : Nat)
    (v : Value) (xs : List C.Cl) (hs : a.eval s = v) (hown : CRow base xs v w)
    (g : Nat) (y : C.Cl) (hx : a.eval x = .slice (some ⟨g, 0, none⟩) 1 1) (hc0 : w.cell? ⟨g, 0, none⟩ = some (.int .i64 y.kind)) (hc1 : w.cell? ⟨g, 1, none⟩ = some (.int .u64 (y.num : Int))) (hc2 : w.cell? ⟨g, 2, none⟩ = some (.string (str y.txt)))
    (hbytes : (xs.length + 1) * 32 ≤ 140737488355328) (hbase : base ≤ w.heap.size)
    (h : ∀ v' w', CRow base (xs ++ [y]) v' w' → Below base w w' → w.grownBy w' v.ownBlock → wpList Try.prog ops Q rest (a.put o.dst v') w') : wpList Try.prog ops Q (o :: rest) a w := by
  obtain ⟨i, hi, hz0, hz1, hz2⟩ := info_parts info_cell
  refine wpList_append_own w hgd s x 34 ho base 30 i (.agg #[.int .i64 0, .int .u64 0, .string ByteArray.empty]) 3 32 Try.underlying34 hi hz0 hz1 hz2 rfl (by decide) v xs.length (cv xs) hs hown ⟨g, 0, none⟩ 1 1 (cx y) hx rfl ?_ ?_ (by unfold maxLen; omega) hbytes hbase (fun v' w' h1 h2 _ => h v' w' ?_ ?_ h2)
  · intro j u hj
    match j, hj with
    | 0, hj => simp [cx] at hj; subst hj; simpa [Addr.add] using hc0
    | 1, hj => simp [cx] at hj; subst hj; simpa [Addr.add] using hc1
    | 2, hj => simp [cx] at hj; subst hj; simpa [Addr.add] using hc2
  · intro u hu; simp [cx] at hu; rcases hu with rfl | rfl | rfl <;> rfl
  · unfold CRow; rw [cv_append, List.length_append]; simpa [cv] using h1
  · exact (Below.refl base w).grown h2 hbase (fun k hk => (hown.lt k hk).1)

def CellsPost (r : List C.Cl × Nat) (w : World) (e : Ending) (w' : World) : Prop :=
  ∃ a c, e = .returned (.tuple #[.slice a r.1.length c, .int .i64 (r.2 : Nat)]) ∧ Cls w' w'.heap.size a r.1 ∧ Below w.heap.size w w'
theorem CellsPost.none {w w' : World} (er : Nat) (h : Below w.heap.size w w') : CellsPost ([], er) w (.returned (.tuple #[.slice none 0 0, .int .i64 er])) w' :=
  ⟨Option.none, 0, rfl, Cls.nil _ _ _, h⟩
def CErrPost (n : Nat) (w : World) (e : Ending) (w' : World) : Prop := e = .returned (.int .i64 (n : Int)) ∧ Below w.heap.size w w'

theorem cls_lit (w : World) (l : List C.Cl) : Cls (w.alloc (.cells (cv l).toArray 30)) (w.alloc (.cells (cv l).toArray 30)).heap.size (some ⟨w.heap.size, 0, none⟩) l := by
  intro _
  refine ⟨w.heap.size, 0, rfl, by simp, fun i hi => ?_⟩
  rw [Nat.zero_add, World.cell?_alloc_new, World.cell?_alloc_new, World.cell?_alloc_new]
  simpa using cv_get l i hi

theorem ctake_succ (l : List C.Cl) (k : Nat) (h : k < l.length) : l.take (k + 1) = l.take k ++ [l.getD k C.null] := by
  rw [List.take_succ_eq_append_getElem h]; simp [List.getD, List.getElem?_eq_getElem h]
theorem cgetD_mem (l : List C.Cl) (k : Nat) (hk : k < l.length) : l.getD k C.null ∈ l := by
  simp only [List.getD, List.getElem?_eq_getElem hk, Option.getD_some]
  exact List.getElem_mem hk

theorem CRow.far {B : Nat} {xs : List C.Cl} {v : Value} {w : World} (h : CRow B xs v w) (g i : Nat) (x : Value) (hg : g < B) : CRow B xs v (w.setCell ⟨g, i, none⟩ x) := by
  unfold CRow at *
  refine ⟨h.1, ?_⟩
  rcases h.2 with h2 | ⟨g', cap, cur, e1, e2, e3, e4⟩
  · exact Or.inl h2
  · refine Or.inr ⟨g', cap, cur, e1, e2, ?_, e4⟩
    simp [World.setCell, Array.getElem?_modify, e3, show ¬ g = g' by omega]
theorem CRow.weak {B B' : Nat} {xs : List C.Cl} {v : Value} {w : World} (h : CRow B xs v w) (hB : B' ≤ B) : CRow B' xs v w := by
  unfold CRow at *
  refine ⟨h.1, ?_⟩
  rcases h.2 with h2 | ⟨g', cap, cur, e1, e2, e3⟩
  · exact Or.inl h2
  · exact Or.inr ⟨g', cap, cur, e1, by omega, e3⟩

theorem dense_snoc (l : List C.Cl) (j : Nat) (h : j < l.length) : C.dense (l.take (j + 1)) = if (l.getD j C.null).kind = 0 then C.dense (l.take j) else C.dense (l.take j) ++ [l.getD j C.null] := by
  rw [ctake_succ l j h]
  unfold C.dense
  rw [List.filter_append]
  by_cases hk : (l.getD j C.null).kind = 0
  · rw [if_pos hk]; generalize l.getD j C.null = y at *; simp [C.here, hk]
  · rw [if_neg hk]; generalize l.getD j C.null = y at *; simp [C.here, hk]
theorem dense_le (l : List C.Cl) (j : Nat) : (C.dense (l.take j)).length ≤ j := Nat.le_trans (List.length_filter_le _ _) (by rw [List.length_take]; omega)

/-- a block of one cell -/
def Tri (w : World) (b : Nat) (v0 v1 v2 : Value) : Prop := w.heap[b]? = some (.cells #[v0, v1, v2] 30 (0, 0))
theorem Tri.c0 {w : World} {b : Nat} {v0 v1 v2 : Value} (h : Tri w b v0 v1 v2) : w.cell? ⟨b, 0, none⟩ = some v0 := by unfold Tri at h; simp [World.cell?, h]
theorem Tri.c1 {w : World} {b : Nat} {v0 v1 v2 : Value} (h : Tri w b v0 v1 v2) : w.cell? ⟨b, 1, none⟩ = some v1 := by unfold Tri at h; simp [World.cell?, h]
theorem Tri.c2 {w : World} {b : Nat} {v0 v1 v2 : Value} (h : Tri w b v0 v1 v2) : w.cell? ⟨b, 2, none⟩ = some v2 := by unfold Tri at h; simp [World.cell?, h]
theorem Tri.free {w : World} {b : Nat} {v0 v1 v2 : Value} (h : Tri w b v0 v1 v2) (i : Nat) : w.frozen? ⟨b, i, none⟩ = false := by unfold Tri at h; simp [World.frozen?, h]
theorem Tri.lt {w : World} {b : Nat} {v0 v1 v2 : Value} (h : Tri w b v0 v1 v2) : b < w.heap.size := lt_of_block h
theorem Tri.next {w w' : World} {b : Nat} {v0 v1 v2 : Value} (h : Tri w b v0 v1 v2) (hb : Below w.heap.size w w') : Tri w' b v0 v1 v2 := (hb.block b h.lt).trans h
theorem Tri.s0 {w : World} {b : Nat} {v0 v1 v2 : Value} (h : Tri w b v0 v1 v2) (x : Value) : Tri (w.setCell ⟨b, 0, none⟩ x) b x v1 v2 := by
  unfold Tri at *; simp [World.setCell, Array.getElem?_modify, h]
theorem Tri.s1 {w : World} {b : Nat} {v0 v1 v2 : Value} (h : Tri w b v0 v1 v2) (x : Value) : Tri (w.setCell ⟨b, 1, none⟩ x) b v0 x v2 := by
  unfold Tri at *; simp [World.setCell, Array.getElem?_modify, h]
theorem Tri.s2 {w : World} {b : Nat} {v0 v1 v2 : Value} (h : Tri w b v0 v1 v2) (x : Value) : Tri (w.setCell ⟨b, 2, none⟩ x) b v0 v1 x := by
  unfold Tri at *; simp [World.setCell, Array.getElem?_modify, h]
theorem tri_new (w : World) (v0 v1 v2 : Value) : Tri (w.alloc (.cells #[v0, v1, v2] 30)) w.heap.size v0 v1 v2 := heap_alloc_new _ _

def ValPost (v : Value) (w : World) (e : Ending) (w' : World) : Prop := e = .returned v ∧ w = w'
def CellsRowPost (r : List C.Cl) (w : World) (e : Ending) (w' : World) : Prop := ∃ v, e = .returned v ∧ CRow w.heap.size r v w' ∧ Below w.heap.size w w'
theorem cag_null : cag C.null = .agg #[.int .i64 0, .int .u64 0, .string ⟨#[]⟩] := rfl
theorem Cls.take {w : World} {B : Nat} {a : Option Addr} {l : List C.Cl} (h : Cls w B a l) (k : Nat) : Cls w B a (l.take k) := by
  intro hl
  obtain ⟨b, off, e, hlt, hc⟩ := h (by intro e; rw [e] at hl; simp at hl)
  refine ⟨b, off, e, hlt, fun i hi => ?_⟩
  have hi' : i < l.length := by simp only [List.length_take] at hi; omega
  have hk : i < k := by simp only [List.length_take] at hi; omega
  have e : (l.take k).getD i C.null = l.getD i C.null := by simp [List.getD, List.getElem?_take_of_lt hk]
  rw [e]; exact hc i hi'

theorem Cls.drop {w : World} {B' b off : Nat} {l : List C.Cl} (h : Cls w B' (some ⟨b, off, none⟩) l) (k : Nat) : Cls w B' (some ⟨b, off + k * 3, none⟩) (l.drop k) := by
  intro hl
  have hk : k < l.length := by
    rcases Nat.lt_or_ge k l.length with h | h
    · exact h
    · exact absurd (List.drop_eq_nil_of_le h) hl
  obtain ⟨b', off', e, hb, hc⟩ := h (by intro e; subst e; simp at hk)
  injection e with e
  injection e with e1 e2
  subst e1 e2
  refine ⟨b, off + k * 3, rfl, hb, fun i hi => ?_⟩
  rw [List.length_drop] at hi
  have := hc (k + i) (by omega)
  rw [show off + (k + i) * 3 = off + k * 3 + i * 3 by omega] at this
  have e : (l.drop k).getD i C.null = l.getD (k + i) C.null := by simp [List.getD, List.getElem?_drop]
  rw [e]; exact this

theorem Cls.cutIf {w : World} {B' b off c : Nat} {l : List C.Cl} (h : Cls w B' (some ⟨b, off, none⟩) l) (hl : l.length ≤ c) : Cls w B' (if c = 1 then some ⟨b, off, none⟩ else some ⟨b, off + 3, none⟩) (l.drop 1) := by
  by_cases hk : c = 1
  · rw [if_pos hk, List.drop_eq_nil_of_le (by omega)]; exact Cls.nil _ _ _
  · rw [if_neg hk]; exact h.drop 1

end Go.Proofs.Ytnjnalehfhfefaa
/- Texts, compared. -/
namespace Go.Proofs.Ytnjnalehfhfefaa
open Go.RowKit
set_option linter.unusedVariables false

theorem str_inj {a b : List UInt8} (h : str a = str b) : a = b := by
  have := congrArg (fun s : ByteArray => s.data.toList) h
  simpa [str] using this
theorem less_eq (a b : List UInt8) : Op.bytesLess (str a).toList (str b).toList = decide (a < b) := by
  rw [str_toList, str_toList]; exact Go.Proofs.bytesLess_eq a b

theorem str_at (x : List UInt8) (i : Nat) (h : i < (str x).size) (h2 : i < x.length) : (str x)[i] = x[i] := by
  simp [str, ByteArray.getElem_eq_getElem_data]
theorem tl_eq (x y : List UInt8) : ((str x).toList == (str y).toList) = decide (x = y) := by
  rw [str_toList, str_toList]
  by_cases h : x = y
  · subst h; simp
  · simp [h]
end Go.Proofs.Ytnjnalehfhfefaa
/- Two cells, compared. -/
namespace Go.Proofs.Ytnjnalehfhfefaa
open Go.RowKit
set_option linter.unusedVariables false

theorem cell_neq_cell (w : World) (c d : C.Cl) : (binOp .neq 30 (cag c) (cag d)).run Try.prog w = .ok (.bool (decide (c ≠ d))) w := by
  have hs : Try.prog.stoodInHeld 30 = false := by kernel_rfl
  unfold cag
  rw [run_neq_struct, run_equalIn_agg w 9999 30 _ _ (by kernel_rfl) hs]
  obtain ⟨a1, a2, a3⟩ := c
  obtain ⟨b1, b2, b3⟩ := d
  simp only
  simp [Program.fieldsOf, Try.underlying30, Op.eqFields, go_sem]
  rw [str_toList, str_toList]
  by_cases h1 : a1 = b1
  · by_cases h2 : a2 = b2
    · by_cases h3 : a3 = b3
      · simp [h1, h2, h3]
      · simp [h1, h2, h3]
    · have h2' : ¬ (a2 : Int) = (b2 : Int) := by omega
      simp [h1, h2, h2']
  · simp [h1]
theorem cell_eql_cell (w : World) (c d : C.Cl) : (binOp .eql 30 (cag c) (cag d)).run Try.prog w = .ok (.bool (decide (c = d))) w := by
  have hs : Try.prog.stoodInHeld 30 = false := by kernel_rfl
  unfold cag
  rw [run_eql_struct, run_equalIn_agg w 9999 30 _ _ (by kernel_rfl) hs]
  obtain ⟨a1, a2, a3⟩ := c
  obtain ⟨b1, b2, b3⟩ := d
  simp only
  simp [Program.fieldsOf, Try.underlying30, Op.eqFields, go_sem]
  rw [str_toList, str_toList]
  by_cases h1 : a1 = b1
  · by_cases h2 : a2 = b2
    · by_cases h3 : a3 = b3
      · simp [h1, h2, h3]
      · simp [h1, h2, h3]
    · have h2' : ¬ (a2 : Int) = (b2 : Int) := by omega
      simp [h1, h2, h2']
  · simp [h1]
theorem guard_cell : Try.prog.eqGuardType Try.prog.depth 30 = false := by kernel_rfl
theorem guards_cell (op : BinOp) : ∀ w o o' xs ys, (eqGuard op 30 o o' (.agg xs) (.agg ys)).run Try.prog w = .ok () w := fun w o o' xs ys => run_eqGuard_agg (P := Try.prog) w op 30 o o' xs ys guard_cell
end Go.Proofs.Ytnjnalehfhfefaa
/- The walk of hypostyleref.TextLess. -/
namespace Go.Proofs.Ytnjnalehfhfefaa
open Go.RowKit
set_option linter.unusedVariables false

theorem tcons_ne {x y : UInt8} {s t : List UInt8} (h : x ≠ y) : decide (x :: s < y :: t) = decide (x < y) := by
  rw [decide_eq_decide, List.cons_lt_cons_iff]
  exact ⟨fun hh => hh.resolve_right fun e => h e.1, Or.inl⟩
theorem tcons_eq {x y : UInt8} {s t : List UInt8} (h : x = y) : decide (x :: s < y :: t) = decide (s < t) := by
  subst h
  rw [decide_eq_decide, List.cons_lt_cons_iff]
  exact ⟨fun hh => by
    rcases hh with hh | ⟨_, hh⟩
    · exact absurd hh (UInt8.lt_irrefl x)
    · exact hh, fun hh => Or.inr ⟨rfl, hh⟩⟩
theorem tnil_left (t : List UInt8) : decide ([] < t) = decide (0 < t.length) := by
  rw [decide_eq_decide]
  cases t with
  | nil => simp
  | cons x t => simp
theorem tnil_right (s : List UInt8) : decide (s < []) = false := by
  rw [decide_eq_false_iff_not]; exact List.not_lt_nil s

set_option maxHeartbeats 1000000 in
set_option maxRecDepth 100000 in
theorem tless_core (x y : List UInt8) (X Y : ByteArray) (w : World) (hx : x.length ≤ 9223372036854775807) (hy : y.length ≤ 9223372036854775807) (hsx : X.size = x.length) (hsy : Y.size = y.length)
    (hxa : ∀ i (h : i < X.size) (h2 : i < x.length), X[i] = x[i]) (hya : ∀ i (h : i < Y.size) (h2 : i < y.length), Y[i] = y[i]) :
    Calls Try.prog 100 #[.string X, .string Y] w fun e w' => e = .returned (.bool (decide (x < y))) ∧ ∃ d, w' = w.drewN d := by
  have HXA := Lib.hid hxa
  have HYA := Lib.hid hya
  clear hxa hya
  obtain ⟨R, hR⟩ : ∃ R, R = decide (x < y) := ⟨_, rfl⟩
  have HD0 := Lib.hid (show R = decide (x.drop 0 < y.drop 0) by rw [hR]; rfl)
  rw [← hR]
  have HNE := Lib.hid (fun i (h : R = decide (x.drop i < y.drop i)) (h1 : i < x.length) (h2 : i < y.length) (hn : x[i] ≠ y[i]) => show R = decide (x[i].toNat < y[i].toNat) by
    rw [h, List.drop_eq_getElem_cons h1, List.drop_eq_getElem_cons h2, tcons_ne hn, decide_eq_decide]; exact UInt8.lt_iff_toNat_lt)
  have HEQ := Lib.hid (fun i (h : R = decide (x.drop i < y.drop i)) (h1 : i < x.length) (h2 : i < y.length) (hn : x[i] = y[i]) => show R = decide (x.drop (i + 1) < y.drop (i + 1)) by
    rw [h, List.drop_eq_getElem_cons h1, List.drop_eq_getElem_cons h2, tcons_eq hn])
  have HEX := Lib.hid (fun i (h : R = decide (x.drop i < y.drop i)) (h1 : i ≤ x.length) (h2 : i ≤ y.length) (hh : i = x.length ∨ i = y.length) => show R = decide (x.length < y.length) by
    rw [h]
    rcases hh with hh | hh
    · rw [hh, List.drop_length, tnil_left, List.length_drop, decide_eq_decide]; omega
    · rw [hh, List.drop_length, tnil_right]; exact (decide_eq_false (by omega)).symm)
  clear hR
  obtain ⟨n, hn⟩ : ∃ n, n = X.size := ⟨_, rfl⟩
  obtain ⟨m, hm⟩ : ∃ m, m = Y.size := ⟨_, rfl⟩
  have HN := Lib.hid hn
  have HM := Lib.hid hm
  have HSX := Lib.hid hsx
  have HSY := Lib.hid hsy
  have hX : X.size ≤ 9223372036854775807 := by omega
  have hY : Y.size ≤ 9223372036854775807 := by omega
  clear hn hm hsx hsy hx hy
  go_enter Try.func100, Try.ntmps100
  go_wp2_with fail
  go_loopw [5] (fun i wr => ∃ k d : Nat, k ≤ X.size ∧ k ≤ Y.size ∧ i = .int .i64 k ∧ wr = w.drewN d ∧ Hid (R = decide (x.drop k < y.drop k))) (fun i _ => X.size - (intOf i).toNat)
  case atStart => exact ⟨0, 0, by omega, by omega, rfl, rfl, HD0⟩
  case round =>
    obtain ⟨k, d, hk1, hk2, rfl, rfl, HJ⟩ := hrel
    by_cases hlt1 : k < X.size
    · by_cases hlt2 : k < Y.size
      · have h1 : k < x.length := by have := HSX.out; omega
        have h2 : k < y.length := by have := HSY.out; omega
        have ex := HXA.out k hlt1 h1
        have ey := HYA.out k hlt2 h2
        have hne := HNE.out k HJ.out h1 h2
        have heq := HEQ.out k HJ.out h1 h2
        generalize x[k] = p at *
        generalize y[k] = q at *
        have hk1I : (k : Int) < (X.size : Int) := by omega
        have hk2I : (k : Int) < (Y.size : Int) := by omega
        by_cases hpq : p = q
        · have HN1 := Lib.hid (heq hpq)
          have g1 : ((p.toNat : Int) != (q.toNat : Int)) = false := by subst hpq; simp
          have g2 : ((p.toNat) != (q.toNat)) = false := by subst hpq; simp
          clear hne heq hpq
          go_wp2_with fail
          go_quiet (fail)
          go_wp2_with fail
          exact ⟨⟨k + 1, d + nq, by omega, by omega, by go_num, by first | rfl | exact World.drewN_drewN _ _ _, HN1⟩, by simp [intOf]; omega⟩
        · have HN1 := Lib.hid (hne hpq)
          have hne2 : ¬ p.toNat = q.toNat := fun e => hpq (UInt8.toNat_inj.1 e)
          have g1 : ((p.toNat : Int) != (q.toNat : Int)) = true := by rw [bne_iff_ne]; omega
          clear hne heq hpq
          go_wp2_with fail
          go_quiet (fail)
          go_wp2_with fail
          go_quiet (fail)
          go_wp2_with fail
          go_ret
          exact ⟨by rw [HN1.out]; simp, _, by first | rfl | simp only [World.drewN_drewN] ; rfl⟩
      · have HE := Lib.hid (HEX.out k HJ.out (by have := HSX.out; omega) (by have := HSY.out; omega) (Or.inr (by have := HSY.out; omega)))
        have HE2 := Lib.hid (show R = decide (X.size < Y.size) by rw [HE.out, decide_eq_decide]; have := HSX.out; have := HSY.out; omega)
        have g1 : decide ((k : Int) < (X.size : Int)) = true := decide_eq_true (by omega)
        have g2 : decide ((k : Int) < (Y.size : Int)) = false := decide_eq_false (by omega)
        go_wp2_with fail
        go_ret
        exact ⟨by rw [HE2.out]; rfl, d, rfl⟩
    · have HE := Lib.hid (HEX.out k HJ.out (by have := HSX.out; omega) (by have := HSY.out; omega) (Or.inl (by have := HSX.out; omega)))
      have HE2 := Lib.hid (show R = decide (X.size < Y.size) by rw [HE.out, decide_eq_decide]; have := HSX.out; have := HSY.out; omega)
      have g1 : decide ((k : Int) < (X.size : Int)) = false := decide_eq_false (by omega)
      go_wp2_with fail
      go_ret
      exact ⟨by rw [HE2.out]; rfl, d, rfl⟩

theorem tless_any (x y : List UInt8) (w : World) (hx : x.length ≤ maxLen) (hy : y.length ≤ maxLen) :
    Calls Try.prog 100 #[.string (str x), .string (str y)] w fun e w' => e = .returned (.bool (decide (x < y))) ∧ ∃ d, w' = w.drewN d :=
  tless_core x y (str x) (str y) w (by unfold maxLen at hx; omega) (by unfold maxLen at hy; omega) (str_size x) (str_size y) (fun i h h2 => str_at x i h h2) (fun i h h2 => str_at y i h h2)
end Go.Proofs.Ytnjnalehfhfefaa
/- The walks of cmp.Compare, cmp.Or, nulls.Less, hypostyleref.CellLess. -/
namespace Go.Proofs.Ytnjnalehfhfefaa
open Go.RowKit
set_option linter.unusedVariables false

def cmp3 (lt gt : Bool) : Int := if lt then -1 else if gt then 1 else 0

theorem vq {P : Program} {f : FuncId} {args : Array Value} {w : World} {v : Value} (h : Calls P f args w (ValPost v w)) : Calls P f args w fun e w'' => e = .returned v ∧ w'' = w := h.mono fun _ _ k => ⟨k.1, k.2.symm⟩

theorem nan_int (x : Int) (w : World) : Calls Try.prog 107 #[.int .i64 x] w (ValPost (.bool false) w) := by
  go_enter Try.func107, Try.ntmps107
  go_wp2_with fail
  go_ret
  exact ⟨rfl, rfl⟩
theorem nan_u64 (x : Int) (w : World) : Calls Try.prog 108 #[.int .u64 x] w (ValPost (.bool false) w) := by
  go_enter Try.func108, Try.ntmps108
  go_wp2_with fail
  go_ret
  exact ⟨rfl, rfl⟩
theorem nan_str (x : ByteArray) (w : World) : Calls Try.prog 109 #[.string x] w (ValPost (.bool false) w) := by
  go_enter Try.func109, Try.ntmps109
  go_wp2_with fail
  go_ret
  exact ⟨rfl, rfl⟩

theorem cmp_int (x y : Int) (w : World) : Calls Try.prog 104 #[.int .i64 x, .int .i64 y] w (ValPost (.int .i64 (cmp3 (decide (x < y)) (decide (y < x)))) w) := by
  have H := Lib.hid (fun x => nan_int x w)
  generalize hl : decide (x < y) = lt
  generalize hg : decide (y < x) = gt
  cases lt
  · cases gt
    all_goals
      go_enter Try.func104, Try.ntmps104
      go_wp2_with fail
      refine (H.out _).mono ?_
      rintro e w1 ⟨rfl, rfl⟩
      go_wp2_with fail
      refine (H.out _).mono ?_
      rintro e w1 ⟨rfl, rfl⟩
      go_wp2_with fail
      go_ret
      exact ⟨rfl, rfl⟩
  · go_enter Try.func104, Try.ntmps104
    go_wp2_with fail
    refine (H.out _).mono ?_
    rintro e w1 ⟨rfl, rfl⟩
    go_wp2_with fail
    refine (H.out _).mono ?_
    rintro e w1 ⟨rfl, rfl⟩
    go_wp2_with fail
    go_ret
    exact ⟨rfl, rfl⟩
theorem cmp_u64 (x y : Int) (w : World) : Calls Try.prog 105 #[.int .u64 x, .int .u64 y] w (ValPost (.int .i64 (cmp3 (decide (x < y)) (decide (y < x)))) w) := by
  have H := Lib.hid (fun x => nan_u64 x w)
  generalize hl : decide (x < y) = lt
  generalize hg : decide (y < x) = gt
  cases lt
  · cases gt
    all_goals
      go_enter Try.func105, Try.ntmps105
      go_wp2_with fail
      refine (H.out _).mono ?_
      rintro e w1 ⟨rfl, rfl⟩
      go_wp2_with fail
      refine (H.out _).mono ?_
      rintro e w1 ⟨rfl, rfl⟩
      go_wp2_with fail
      go_ret
      exact ⟨rfl, rfl⟩
  · go_enter Try.func105, Try.ntmps105
    go_wp2_with fail
    refine (H.out _).mono ?_
    rintro e w1 ⟨rfl, rfl⟩
    go_wp2_with fail
    refine (H.out _).mono ?_
    rintro e w1 ⟨rfl, rfl⟩
    go_wp2_with fail
    go_ret
    exact ⟨rfl, rfl⟩
theorem cmp_str (x y : ByteArray) (w : World) : Calls Try.prog 106 #[.string x, .string y] w (ValPost (.int .i64 (cmp3 (Op.bytesLess x.toList y.toList) (!(x.toList == y.toList)))) w) := by
  have H := Lib.hid (fun x => nan_str x w)
  generalize hl : Op.bytesLess x.toList y.toList = lt
  generalize hg : (x.toList == y.toList) = gt
  cases lt
  · cases gt
    all_goals
      go_enter Try.func106, Try.ntmps106
      go_wp2_with fail
      refine (H.out _).mono ?_
      rintro e w1 ⟨rfl, rfl⟩
      go_wp2_with fail
      refine (H.out _).mono ?_
      rintro e w1 ⟨rfl, rfl⟩
      go_wp2_with fail
      go_ret
      exact ⟨rfl, rfl⟩
  · go_enter Try.func106, Try.ntmps106
    go_wp2_with fail
    refine (H.out _).mono ?_
    rintro e w1 ⟨rfl, rfl⟩
    go_wp2_with fail
    refine (H.out _).mono ?_
    rintro e w1 ⟨rfl, rfl⟩
    go_wp2_with fail
    go_ret
    exact ⟨rfl, rfl⟩

/-- the first of three that is not nought -/
def or3 (a b c : Int) : Int := if a ≠ 0 then a else if b ≠ 0 then b else c
set_option maxHeartbeats 1000000 in
theorem or_any (a b c : Int) (g : Nat) (w : World) (h0 : w.cell? ⟨g, 0, none⟩ = some (.int .i64 a)) (h1 : w.cell? ⟨g, 1, none⟩ = some (.int .i64 b)) (h2 : w.cell? ⟨g, 2, none⟩ = some (.int .i64 c)) :
    Calls Try.prog 103 #[.slice (some ⟨g, 0, none⟩) 3 3] w (ValPost (.int .i64 (or3 a b c)) w) := by
  by_cases ha : a = 0
  · subst ha
    by_cases hb : b = 0
    · subst hb
      have HR := Lib.hid (show or3 0 0 c = c by simp [or3])
      by_cases hc : c = 0
      · subst hc
        go_enter Try.func103, Try.ntmps103
        go_wp2_with fail
        refine wp_loop_rounds 4 ?_
        rw [rounds_succ]
        go_wp2_with fail
        rw [rounds_succ]
        go_wp2_with fail
        rw [rounds_succ]
        go_wp2_with fail
        rw [rounds_succ]
        go_wp2_with fail
        go_ret
        exact ⟨by rw [HR.out]; rfl, rfl⟩
      · have g1 : (c != 0) = true := by rw [bne_iff_ne]; exact hc
        go_enter Try.func103, Try.ntmps103
        go_wp2_with fail
        refine wp_loop_rounds 4 ?_
        rw [rounds_succ]
        go_wp2_with fail
        rw [rounds_succ]
        go_wp2_with fail
        rw [rounds_succ]
        go_wp2_with fail
        go_ret
        exact ⟨by rw [HR.out]; rfl, rfl⟩
    · have HR := Lib.hid (show or3 0 b c = b by simp [or3, hb])
      have g1 : (b != 0) = true := by rw [bne_iff_ne]; exact hb
      go_enter Try.func103, Try.ntmps103
      go_wp2_with fail
      refine wp_loop_rounds 4 ?_
      rw [rounds_succ]
      go_wp2_with fail
      rw [rounds_succ]
      go_wp2_with fail
      go_ret
      exact ⟨by rw [HR.out]; rfl, rfl⟩
  · have HR := Lib.hid (show or3 a b c = a by simp [or3, ha])
    have g1 : (a != 0) = true := by rw [bne_iff_ne]; exact ha
    go_enter Try.func103, Try.ntmps103
    go_wp2_with fail
    refine wp_loop_rounds 4 ?_
    rw [rounds_succ]
    go_wp2_with fail
    go_ret
    exact ⟨by rw [HR.out]; rfl, rfl⟩

theorem less_or (a b : C.Cl) (h : ¬ ((a.kind = 0 ∧ b.kind ≠ 0) ∨ (a.kind ≠ 0 ∧ b.kind = 0))) :
    C.less a b = decide (or3 (cmp3 (decide (a.kind < b.kind)) (decide (b.kind < a.kind))) (cmp3 (decide ((a.num : Int) < (b.num : Int))) (decide ((b.num : Int) < (a.num : Int)))) (cmp3 (Op.bytesLess (str a.txt).toList (str b.txt).toList) (!((str a.txt).toList == (str b.txt).toList))) < 0) := by
  rw [less_eq, tl_eq]
  obtain ⟨ak, an, ax⟩ := a
  obtain ⟨bk, bn, bx⟩ := b
  unfold C.less
  simp only at h ⊢
  rw [if_neg (fun e => h (Or.inl e)), if_neg (fun e => h (Or.inr ⟨e.2, e.1⟩))]
  unfold or3 cmp3
  by_cases h1 : ak = bk
  · subst h1
    rw [if_neg (by simp)]
    by_cases h2 : an = bn
    · subst h2
      rw [if_neg (by simp)]
      simp
      by_cases h3 : ax < bx
      · simp [h3]
      · by_cases h4 : ax = bx
        · subst h4; simp [h3]
        · simp [h3, h4]
    · rw [if_pos h2]
      have : ¬ (an : Int) = bn := by omega
      by_cases h3 : an < bn
      · simp [h3]
      · have h4 : bn < an := by omega
        simp [h3, h4]
  · rw [if_pos h1]
    by_cases h3 : ak < bk
    · simp [h3]
    · have h4 : bk < ak := by omega
      simp [h3, h4]

theorem tri_two (w : World) (a b : C.Cl) : ∀ W0 : World, W0 = (w.alloc (.cells #[.int .i64 a.kind, .int .u64 (a.num : Int), .string (str a.txt)] 30)).alloc (.cells #[.int .i64 b.kind, .int .u64 (b.num : Int), .string (str b.txt)] 30) →
    (W0.drew.cell? ⟨w.heap.size, 0, none⟩ = some (.int .i64 a.kind) ∧ W0.drew.cell? ⟨w.heap.size, 1, none⟩ = some (.int .u64 (a.num : Int)) ∧ W0.drew.cell? ⟨w.heap.size, 2, none⟩ = some (.string (str a.txt))) ∧
    W0.drew.cell? ⟨w.heap.size + 1, 0, none⟩ = some (.int .i64 b.kind) ∧ W0.drew.cell? ⟨w.heap.size + 1, 1, none⟩ = some (.int .u64 (b.num : Int)) ∧ W0.drew.cell? ⟨w.heap.size + 1, 2, none⟩ = some (.string (str b.txt)) := by
  rintro W0 rfl
  have hs : (w.alloc (.cells #[.int .i64 a.kind, .int .u64 (a.num : Int), .string (str a.txt)] 30)).heap.size = w.heap.size + 1 := by simp
  have hA : ∀ i, ((w.alloc (.cells #[.int .i64 a.kind, .int .u64 (a.num : Int), .string (str a.txt)] 30)).alloc (.cells #[.int .i64 b.kind, .int .u64 (b.num : Int), .string (str b.txt)] 30)).drew.cell? ⟨w.heap.size, i, none⟩ = (w.alloc (.cells #[.int .i64 a.kind, .int .u64 (a.num : Int), .string (str a.txt)] 30)).cell? ⟨w.heap.size, i, none⟩ := fun i =>
    (((Below.refl _ _).alloc (Nat.le_refl _) _).cell (p := ⟨w.heap.size, i, none⟩) (by show w.heap.size < _; rw [hs]; exact Nat.lt_succ_self _))
  have hB : ∀ i, ((w.alloc (.cells #[.int .i64 a.kind, .int .u64 (a.num : Int), .string (str a.txt)] 30)).alloc (.cells #[.int .i64 b.kind, .int .u64 (b.num : Int), .string (str b.txt)] 30)).drew.cell? ⟨w.heap.size + 1, i, none⟩ = (#[.int .i64 b.kind, .int .u64 (b.num : Int), .string (str b.txt)] : Array Value)[i]? := fun i => by
    rw [← hs]; exact World.cell?_alloc_new _ _ _ _
  refine ⟨⟨?_, ?_, ?_⟩, ?_, ?_, ?_⟩
  · rw [hA, World.cell?_alloc_new]; rfl
  · rw [hA, World.cell?_alloc_new]; rfl
  · rw [hA, World.cell?_alloc_new]; rfl
  · rw [hB]; rfl
  · rw [hB]; rfl
  · rw [hB]; rfl

set_option maxHeartbeats 2000000 in
set_option maxRecDepth 100000 in
theorem nless_any (a b : C.Cl) (w : World) : Calls Try.prog 97 #[cag a, cag b] w (BoolPost (C.less a b) w) := by
  have hbel : Below w.heap.size w ((w.alloc (.cells #[.int .i64 a.kind, .int .u64 (a.num : Int), .string (str a.txt)] 30)).alloc (.cells #[.int .i64 b.kind, .int .u64 (b.num : Int), .string (str b.txt)] 30)) := ((Below.refl _ _).alloc (Nat.le_refl _) _).alloc (by simp) _
  have HB := Lib.hid hbel
  clear hbel
  have HT := Lib.hid (tri_two w a b)
  by_cases h : (a.kind = 0 ∧ b.kind ≠ 0) ∨ (a.kind ≠ 0 ∧ b.kind = 0)
  · have HR := Lib.hid (show C.less a b = decide (a.kind = 0) by
      rcases h with ⟨h1, h2⟩ | ⟨h1, h2⟩
      · simp [C.less, h1, h2]
      · simp [C.less, h1, h2])
    generalize C.less a b = r at *
    unfold cag
    generalize a.num = an at *
    generalize b.num = bn at *
    generalize str a.txt = ax at *
    generalize str b.txt = bx at *
    generalize a.kind = ak at *
    generalize b.kind = bk at *
    rcases h with ⟨rfl, h2⟩ | ⟨h1, rfl⟩
    · have g1 : (bk == 0) = false := by rw [beq_eq_false_iff_ne]; exact h2
      go_enter Try.func97, Try.ntmps97
      go_wp2_with fail
      go_ret
      exact ⟨by rw [HR.out]; rfl, HB.out⟩
    · have g1 : (ak == 0) = false := by rw [beq_eq_false_iff_ne]; exact h1
      go_enter Try.func97, Try.ntmps97
      go_wp2_with fail
      go_ret
      exact ⟨by rw [HR.out, decide_eq_false h1]; rfl, HB.out⟩
  · have HR := Lib.hid (less_or a b h)
    have HKI := Lib.hid (fun W => cmp_int a.kind b.kind W)
    have HKU := Lib.hid (fun W => cmp_u64 (a.num : Int) (b.num : Int) W)
    have HKS := Lib.hid (fun W => cmp_str (str a.txt) (str b.txt) W)
    have hbeq : (a.kind == 0) = (b.kind == 0) := by
      by_cases h0 : a.kind = 0
      · by_cases h1 : b.kind = 0
        · rw [h0, h1]
        · exact absurd (Or.inl ⟨h0, h1⟩) h
      · by_cases h1 : b.kind = 0
        · exact absurd (Or.inr ⟨h0, h1⟩) h
        · rw [beq_eq_false_iff_ne.2 h0, beq_eq_false_iff_ne.2 h1]
    have HOR := Lib.hid (fun x y z g W h0 h1 h2 => or_any x y z g W h0 h1 h2)
    generalize C.less a b = r at *
    unfold cag
    generalize cmp3 (decide (a.kind < b.kind)) (decide (b.kind < a.kind)) = r0 at *
    generalize cmp3 (decide ((a.num : Int) < (b.num : Int))) (decide ((b.num : Int) < (a.num : Int))) = r1 at *
    generalize cmp3 (Op.bytesLess (str a.txt).toList (str b.txt).toList) (!((str a.txt).toList == (str b.txt).toList)) = r2 at *
    generalize a.num = an at *
    generalize b.num = bn at *
    generalize str a.txt = ax at *
    generalize str b.txt = bx at *
    generalize a.kind = ak at *
    generalize b.kind = bk at *
    have hq : ((ak == 0) == (bk == 0)) = true := by rw [hbeq]; simp
    clear h hbeq
    go_enter Try.func97, Try.ntmps97
    go_wp2_with fail
    obtain ⟨W0, hW0⟩ : ∃ W0, W0 = (w.alloc (.cells #[.int .i64 ak, .int .u64 (an : Int), .string ax] 30)).alloc (.cells #[.int .i64 bk, .int .u64 (bn : Int), .string bx] 30) := ⟨_, rfl⟩
    obtain ⟨⟨t0, t1, t2⟩, u0, u1, u2⟩ := HT.out W0 hW0
    rw [← hW0] at HB ⊢
    clear HT hW0
    have hB0 : Below w.heap.size w W0.drew := HB.out.drew
    refine wp_region_still_tail 15 (by kernel_rfl) (by kernel_rfl) ?_
    simp only [List.take_succ_cons, List.take_zero, List.drop_succ_cons, List.drop_zero]
    rw [show ({ W0 with drawn := W0.drawn + 1 } : World) = W0.drew from rfl]
    clear HB
    generalize W0.drew = W1 at *
    repeat still_step
    still_call (vq (HKI.out _))
    repeat still_step
    still_call (vq (HKU.out _))
    repeat still_step
    still_call (vq (HKS.out _))
    refine wpStill_nil ?_
    have hOR := HOR.out r0 r1 r2 W1.heap.size (W1.alloc (.cells #[.int .i64 r0, .int .i64 r1, .int .i64 r2] 3)) (World.cell?_alloc_new _ _ _ _) (World.cell?_alloc_new _ _ _ _) (World.cell?_alloc_new _ _ _ _)
    have HO := Lib.hid hOR
    clear hOR
    go_wp2_with fail
    refine (HO.out).mono ?_
    rintro e w2 ⟨rfl, rfl⟩
    go_wp2_with fail
    go_ret
    exact ⟨by rw [HR.out]; rfl, hB0.alloc hB0.size _⟩
end Go.Proofs.Ytnjnalehfhfefaa
/- Words for conditions, lists of them, of what is known, of filters, of kinds, in memory. -/
namespace Go.Proofs.Ytnjnalehfhfefaa
open Go.RowKit
set_option linter.unusedVariables false

def dag (c : O.Cd) : Value := .agg #[.int .i64 c.op, .int .i64 c.col, .int .i64 c.c.kind, .int .u64 (c.c.num : Int), .string (str c.c.txt)]
def dOk (c : O.Cd) : Prop := (-9223372036854775808 ≤ c.op ∧ c.op ≤ 9223372036854775807) ∧ (-9223372036854775808 ≤ c.col ∧ c.col ≤ 9223372036854775807) ∧ cOk c.c

/-- a slice whose elements lie n cells apart, each as P says, below block B -/
def Sl {α : Type} (P : World → Nat → Nat → α → Prop) (n : Nat) (z : α) (w : World) (B : Nat) (a : Option Addr) (l : List α) : Prop :=
  l ≠ [] → ∃ b off, a = some ⟨b, off, none⟩ ∧ b < B ∧ ∀ i, i < l.length → P w b (off + i * n) (l.getD i z)
def Firm {α : Type} (P : World → Nat → Nat → α → Prop) : Prop := ∀ (w w' : World) (b o : Nat) (x : α), (∀ i, w'.cell? ⟨b, i, none⟩ = w.cell? ⟨b, i, none⟩) → P w b o x → P w' b o x
section
variable {α : Type} {P : World → Nat → Nat → α → Prop} {n : Nat} {z : α}
theorem Sl.nil (w : World) (B : Nat) (a : Option Addr) : Sl P n z w B a [] := fun h => absurd rfl h
theorem Sl.below (hP : Firm P) {w w' : World} {B : Nat} {a : Option Addr} {l : List α} (h : Sl P n z w B a l) (hb : Below B w w') : Sl P n z w' B a l := by
  intro hl
  obtain ⟨b, off, e, hlt, hc⟩ := h hl
  exact ⟨b, off, e, hlt, fun i hi => hP w w' b _ _ (fun j => hb.cell (p := ⟨b, j, none⟩) hlt) (hc i hi)⟩
theorem Sl.mono {w : World} {B B' : Nat} {a : Option Addr} {l : List α} (h : Sl P n z w B a l) (hB : B ≤ B') : Sl P n z w B' a l := by
  intro hl
  obtain ⟨b, off, e, hlt, hc⟩ := h hl
  exact ⟨b, off, e, by omega, hc⟩
theorem Sl.next (hP : Firm P) {w w' : World} {a : Option Addr} {l : List α} (h : Sl P n z w w.heap.size a l) (hb : Below w.heap.size w w') : Sl P n z w' w'.heap.size a l := (h.below hP hb).mono hb.size
theorem Sl.take {w : World} {B : Nat} {a : Option Addr} {l : List α} (h : Sl P n z w B a l) (k : Nat) : Sl P n z w B a (l.take k) := by
  intro hl
  obtain ⟨b, off, e, hlt, hc⟩ := h (fun e => hl (by rw [e]; simp))
  refine ⟨b, off, e, hlt, fun i hi => ?_⟩
  rw [List.length_take] at hi
  have := hc i (by omega)
  rwa [show (l.take k).getD i z = l.getD i z by simp only [List.getD]; rw [List.getElem?_take_of_lt (by omega)]]
theorem Sl.drop {w : World} {B b off : Nat} {l : List α} (h : Sl P n z w B (some ⟨b, off, none⟩) l) (k : Nat) : Sl P n z w B (some ⟨b, off + k * n, none⟩) (l.drop k) := by
  intro hl
  obtain ⟨b', off', e, hlt, hc⟩ := h (fun e => hl (by rw [e]; simp))
  have e' := Option.some.inj e
  obtain ⟨rfl, rfl⟩ : b = b' ∧ off = off' := by simpa using e'
  refine ⟨b, _, rfl, hlt, fun i hi => ?_⟩
  rw [List.length_drop] at hi
  have := hc (k + i) (by omega)
  rw [show off + k * n + i * n = off + (k + i) * n by rw [Nat.add_mul]; omega, show (l.drop k).getD i z = l.getD (k + i) z by simp only [List.getD]; rw [List.getElem?_drop]]
  exact this
end

def at5 (w : World) (b o : Nat) (c : O.Cd) : Prop := w.cell? ⟨b, o, none⟩ = some (.int .i64 c.op) ∧ w.cell? ⟨b, o + 1, none⟩ = some (.int .i64 c.col) ∧ w.cell? ⟨b, o + 2, none⟩ = some (.int .i64 c.c.kind) ∧ w.cell? ⟨b, o + 3, none⟩ = some (.int .u64 (c.c.num : Int)) ∧ w.cell? ⟨b, o + 4, none⟩ = some (.string (str c.c.txt))
theorem at5_firm : Firm at5 := fun w w' b o x h ⟨h0, h1, h2, h3, h4⟩ => ⟨by rw [h]; exact h0, by rw [h]; exact h1, by rw [h]; exact h2, by rw [h]; exact h3, by rw [h]; exact h4⟩
abbrev Cds (w : World) (B : Nat) (a : Option Addr) (l : List O.Cd) : Prop := Sl at5 5 O.nullC w B a l
def at1 (w : World) (b o : Nat) (k : Int) : Prop := w.cell? ⟨b, o, none⟩ = some (.int .i64 k)
theorem at1_firm : Firm at1 := fun w w' b o x h h0 => by unfold at1 at *; rw [h]; exact h0
abbrev Ints (w : World) (B : Nat) (a : Option Addr) (l : List Int) : Prop := Sl at1 1 (0 : Int) w B a l
def at8 (w : World) (b o : Nat) (s : S.St) : Prop := w.cell? ⟨b, o, none⟩ = some (.int .i64 s.rows) ∧ w.cell? ⟨b, o + 1, none⟩ = some (.int .i64 s.nulls) ∧ w.cell? ⟨b, o + 2, none⟩ = some (.int .i64 s.least.kind) ∧ w.cell? ⟨b, o + 3, none⟩ = some (.int .u64 (s.least.num : Int)) ∧ w.cell? ⟨b, o + 4, none⟩ = some (.string (str s.least.txt)) ∧
  w.cell? ⟨b, o + 5, none⟩ = some (.int .i64 s.most.kind) ∧ w.cell? ⟨b, o + 6, none⟩ = some (.int .u64 (s.most.num : Int)) ∧ w.cell? ⟨b, o + 7, none⟩ = some (.string (str s.most.txt))
theorem at8_firm : Firm at8 := fun w w' b o x h ⟨h0, h1, h2, h3, h4, h5, h6, h7⟩ => ⟨by rw [h]; exact h0, by rw [h]; exact h1, by rw [h]; exact h2, by rw [h]; exact h3, by rw [h]; exact h4, by rw [h]; exact h5, by rw [h]; exact h6, by rw [h]; exact h7⟩
abbrev Sts (w : World) (B : Nat) (a : Option Addr) (l : List S.St) : Prop := Sl at8 8 S.zero w B a l
def at4 (w : World) (b o : Nat) (f : Bl.F) : Prop := w.cell? ⟨b, o, none⟩ = some (.int .u64 (f 0 : Nat)) ∧ w.cell? ⟨b, o + 1, none⟩ = some (.int .u64 (f 1 : Nat)) ∧ w.cell? ⟨b, o + 2, none⟩ = some (.int .u64 (f 2 : Nat)) ∧ w.cell? ⟨b, o + 3, none⟩ = some (.int .u64 (f 3 : Nat))
theorem at4_firm : Firm at4 := fun w w' b o x h ⟨h0, h1, h2, h3⟩ => ⟨by rw [h]; exact h0, by rw [h]; exact h1, by rw [h]; exact h2, by rw [h]; exact h3⟩
abbrev Fls (w : World) (B : Nat) (a : Option Addr) (l : List Bl.F) : Prop := Sl at4 4 Bl.none_ w B a l

/-- a block that holds a condition -/
def Pen (w : World) (b : Nat) (v0 v1 v2 v3 v4 : Value) : Prop := w.heap[b]? = some (.cells #[v0, v1, v2, v3, v4] 59 (0, 0))
section
variable {w w' : World} {b : Nat} {v0 v1 v2 v3 v4 : Value}
theorem Pen.all (h : Pen w b v0 v1 v2 v3 v4) : w.cell? ⟨b, 0, none⟩ = some v0 ∧ w.cell? ⟨b, 1, none⟩ = some v1 ∧ w.cell? ⟨b, 2, none⟩ = some v2 ∧ w.cell? ⟨b, 3, none⟩ = some v3 ∧ w.cell? ⟨b, 4, none⟩ = some v4 := by
  unfold Pen at h; simp [World.cell?, h]
theorem Pen.lt (h : Pen w b v0 v1 v2 v3 v4) : b < w.heap.size := lt_of_block h
theorem Pen.next (h : Pen w b v0 v1 v2 v3 v4) (hb : Below w.heap.size w w') : Pen w' b v0 v1 v2 v3 v4 := (hb.block b h.lt).trans h
theorem pen_new (w : World) (v0 v1 v2 v3 v4 : Value) : Pen (w.alloc (.cells #[v0, v1, v2, v3, v4] 59)) w.heap.size v0 v1 v2 v3 v4 := heap_alloc_new _ _
end
theorem cag_is (c : C.Cl) : cag c = .agg #[.int .i64 c.kind, .int .u64 (c.num : Int), .string (str c.txt)] := rfl
theorem cneq (k : Int) (n : Nat) (t : List UInt8) (k' : Int) (n' : Nat) (t' : List UInt8) (w : World) :
    (binOp .neq 30 (.agg #[.int .i64 k, .int .u64 (n : Int), .string (str t)]) (.agg #[.int .i64 k', .int .u64 (n' : Int), .string (str t')])).run Try.prog w = .ok (.bool (decide ((⟨k, n, t⟩ : C.Cl) ≠ ⟨k', n', t'⟩))) w := cell_neq_cell w ⟨k, n, t⟩ ⟨k', n', t'⟩
theorem ceql (k : Int) (n : Nat) (t : List UInt8) (k' : Int) (n' : Nat) (t' : List UInt8) (w : World) :
    (binOp .eql 30 (.agg #[.int .i64 k, .int .u64 (n : Int), .string (str t)]) (.agg #[.int .i64 k', .int .u64 (n' : Int), .string (str t')])).run Try.prog w = .ok (.bool (decide ((⟨k, n, t⟩ : C.Cl) = ⟨k', n', t'⟩))) w := cell_eql_cell w ⟨k, n, t⟩ ⟨k', n', t'⟩
end Go.Proofs.Ytnjnalehfhfefaa
/- The walks of pred.parts, whether, only, empty, joined. -/
namespace Go.Proofs.Ytnjnalehfhfefaa
open Go.RowKit
set_option linter.unusedVariables false

set_option maxHeartbeats 1000000 in
theorem parts_any (op : Int) (w : World) : Calls Try.prog 95 #[.int .i64 op] w (ValPost (.int .i64 (O.parts op : Nat)) w) := by
  rcases O.parts_cases op with ⟨hp, h5, h6, h7⟩ | ⟨hp, rfl⟩ | ⟨hp, rfl | rfl⟩
  · rw [hp]
    go_enter Try.func95, Try.ntmps95
    go_wp2_with fail
    go_ret
    exact ⟨rfl, rfl⟩
  all_goals
    go_enter Try.func95, Try.ntmps95
    go_wp2_with fail
    go_ret
    exact ⟨rfl, rfl⟩
theorem whether_any (b : Bool) (w : World) : Calls Try.prog 96 #[.bool b] w (ValPost (.int .i64 ((if b = true then 2 else 0 : Nat) : Int)) w) := by
  cases b
  all_goals
    go_enter Try.func96, Try.ntmps96
    go_wp2_with fail
    go_ret
    exact ⟨rfl, rfl⟩
set_option maxHeartbeats 1000000 in
theorem joined_any (op : Int) (a b : Nat) (w : World) (ha : a ≤ 2) (hb : b ≤ 2) : Calls Try.prog 81 #[.int .i64 op, .int .i64 a, .int .i64 b] w (ValPost (.int .i64 (O.jo op a b : Nat)) w) := by
  by_cases h5 : op = 5
  · subst h5
    rcases O.three a ha with rfl | rfl | rfl <;> rcases O.three b hb with rfl | rfl | rfl
    all_goals
      go_enter Try.func81, Try.ntmps81
      go_wp2_with fail
      go_ret
      exact ⟨rfl, rfl⟩
  by_cases h6 : op = 6
  · subst h6
    rcases O.three a ha with rfl | rfl | rfl <;> rcases O.three b hb with rfl | rfl | rfl
    all_goals
      go_enter Try.func81, Try.ntmps81
      go_wp2_with fail
      go_ret
      exact ⟨rfl, rfl⟩
  · have hj : O.jo op a b = 2 - a := by unfold O.jo; rw [if_neg h5, if_neg h6]
    rw [hj]
    rcases O.three a ha with rfl | rfl | rfl
    all_goals
      go_enter Try.func81, Try.ntmps81
      go_wp2_with fail
      go_ret
      exact ⟨rfl, rfl⟩
set_option maxHeartbeats 1000000 in
set_option maxRecDepth 100000 in
theorem empty_any (c : C.Cl) (w : World) : Calls Try.prog 102 #[cag c] w (CErrPost (if c ≠ C.null then 1 else 0) w) := by
  obtain ⟨k, n, t⟩ := c
  have hgd := guards_cell .neq
  have hne : ∀ W, (binOp .neq 30 (.agg #[.int .i64 k, .int .u64 (n : Int), .string (str t)]) (.agg #[.int .i64 0, .int .u64 0, .string ⟨#[]⟩])).run Try.prog W = .ok (.bool (decide ((⟨k, n, t⟩ : C.Cl) ≠ C.null))) W := fun W => cneq k n t 0 0 [] W
  have hal : Below w.heap.size w (w.alloc (.cells #[.int .i64 k, .int .u64 (n : Int), .string (str t)] 30)) := (Below.refl _ _).alloc (Nat.le_refl _) _
  unfold cag
  simp only
  by_cases h : (⟨k, n, t⟩ : C.Cl) ≠ C.null
  · rw [if_pos h]
    rw [decide_eq_true h] at hne
    generalize str t = X at *
    clear h
    go_enter Try.func102, Try.ntmps102
    go_wp2_with fail
    go_ret
    exact ⟨rfl, hal⟩
  · rw [if_neg h]
    rw [decide_eq_false h] at hne
    generalize str t = X at *
    clear h
    go_enter Try.func102, Try.ntmps102
    go_wp2_with fail
    go_ret
    exact ⟨rfl, hal⟩
end Go.Proofs.Ytnjnalehfhfefaa
