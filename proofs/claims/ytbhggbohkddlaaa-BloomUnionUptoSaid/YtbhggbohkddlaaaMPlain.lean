/- Plain mathematics of marks: counting, selecting, mark by mark. -/
import Derived.Lib.Hide
namespace Go.Proofs.Ytbhggbohkddlaaa.M
set_option linter.unusedVariables false

/-- how many are true -/
def cnt : List Bool → Nat
  | [] => 0
  | b :: l => (if b then 1 else 0) + cnt l

theorem cnt_append (a b : List Bool) : cnt (a ++ b) = cnt a + cnt b := by
  induction a with
  | nil => simp [cnt]
  | cons x a ih => simp only [List.cons_append, cnt, ih]; omega
theorem cnt_le (l : List Bool) : cnt l ≤ l.length := by
  induction l with
  | nil => simp [cnt]
  | cons x l ih => simp only [cnt, List.length_cons]; split <;> omega
theorem take_snoc (l : List Bool) (k : Nat) (h : k < l.length) : l.take (k + 1) = l.take k ++ [l.getD k false] := by
  rw [List.take_succ_eq_append_getElem h]; simp [List.getD, List.getElem?_eq_getElem h]
theorem cnt_snoc (l : List Bool) (k : Nat) (h : k < l.length) : cnt (l.take (k + 1)) = cnt (l.take k) + if l.getD k false = true then 1 else 0 := by
  rw [take_snoc l k h, cnt_append]; simp [cnt]
theorem cnt_take_le (l : List Bool) (k : Nat) : cnt (l.take k) ≤ cnt l := by
  have := cnt_append (l.take k) (l.drop k); rw [List.take_append_drop] at this; omega
theorem cnt_mono (l : List Bool) (i j : Nat) (h : i ≤ j) : cnt (l.take i) ≤ cnt (l.take j) := by
  have := cnt_take_le (l.take j) i
  rwa [List.take_take, Nat.min_eq_left h] at this

/-- the place of the true one ahead of which k are true -/
def selN : List Bool → Nat → Option Nat
  | [], _ => none
  | false :: l, k => (selN l k).map (· + 1)
  | true :: _, 0 => some 0
  | true :: l, k + 1 => (selN l k).map (· + 1)

theorem selN_some (l : List Bool) : ∀ (k i : Nat), selN l k = some i ↔ (i < l.length ∧ l.getD i false = true ∧ cnt (l.take i) = k) := by
  induction l with
  | nil => intro k i; simp [selN]
  | cons b l ih =>
    intro k i
    cases b with
    | false =>
      simp only [selN, Option.map_eq_some_iff]
      cases i with
      | zero => simp
      | succ i =>
        constructor
        · rintro ⟨j, hj, e⟩
          obtain rfl : j = i := by omega
          have := (ih k j).1 hj
          simpa [cnt] using this
        · intro h; exact ⟨i, (ih k i).2 (by simpa [cnt] using h), rfl⟩
    | true =>
      cases k with
      | zero =>
        simp only [selN, Option.some.injEq]
        constructor
        · rintro rfl; simp [cnt]
        · intro h
          cases i with
          | zero => rfl
          | succ i => simp [cnt] at h
      | succ k =>
        simp only [selN, Option.map_eq_some_iff]
        cases i with
        | zero => simp [cnt]
        | succ i =>
          constructor
          · rintro ⟨j, hj, e⟩
            obtain rfl : j = i := by omega
            have := (ih k j).1 hj
            simp only [List.length_cons, List.getD_cons_succ, List.take_succ_cons, cnt]
            exact ⟨by omega, this.2.1, by simp only [↓reduceIte]; omega⟩
          · intro h
            simp only [List.length_cons, List.getD_cons_succ, List.take_succ_cons, cnt] at h
            refine ⟨i, (ih k i).2 ⟨by omega, h.2.1, ?_⟩, rfl⟩
            have := h.2.2; simp only [↓reduceIte] at this; omega

theorem selN_none (l : List Bool) : ∀ k : Nat, selN l k = none ↔ cnt l ≤ k := by
  induction l with
  | nil => intro k; simp [selN, cnt]
  | cons b l ih =>
    intro k
    cases b with
    | false => simp only [selN, Option.map_eq_none_iff, ih]; simp [cnt]
    | true =>
      cases k with
      | zero => simp [selN, cnt]
      | succ k => simp only [selN, Option.map_eq_none_iff, ih]; simp [cnt]; omega

theorem drop_cons (l : List Bool) (i : Nat) (h : i < l.length) : l.drop i = l.getD i false :: l.drop (i + 1) := by
  rw [List.drop_eq_getElem_cons h]; simp [List.getD, List.getElem?_eq_getElem h]
theorem map_add (o : Option Nat) (i : Nat) : (o.map (· + 1)).map (· + i) = o.map (· + (i + 1)) := by
  cases o <;> simp; omega

def rankR (l : List Bool) (at_ : Int) : Nat × Nat := if at_ < 0 ∨ (l.length : Int) < at_ then (0, 3) else (cnt (l.take at_.toNat), 0)
def selO : Option Nat → Nat × Nat
  | some i => (i, 0)
  | none => (0, 5)
def selR (l : List Bool) (k : Int) : Nat × Nat := if k < 0 then (0, 3) else selO (selN l k.toNat)

/-- marks of lists, side by side -/
def rows (m : List Bool → Bool) (ls : List (List Bool)) (n : Nat) : List Bool := (List.range n).map fun i => m (ls.map fun l => l.getD i false)
theorem rows_length (m : List Bool → Bool) (ls : List (List Bool)) (n : Nat) : (rows m ls n).length = n := by simp [rows]
theorem rows_snoc (m : List Bool → Bool) (ls : List (List Bool)) (n : Nat) : rows m ls (n + 1) = rows m ls n ++ [m (ls.map fun l => l.getD n false)] := by
  simp [rows, List.range_succ]
def fitN (ns : List Nat) : Nat := if ∃ n ∈ ns, 64 < n then 2 else if ∃ n ∈ ns, n ≠ ns.getD 0 0 then 1 else 0
def mAnd (ms : List Bool) : Bool := decide (cnt ms = ms.length)
def mOr (ms : List Bool) : Bool := decide (0 < cnt ms)
def mNot (ms : List Bool) : Bool := decide (cnt ms = 0)
def eachR (m : List Bool → Bool) (ls : List (List Bool)) : List Bool × Nat :=
  if fitN (ls.map List.length) = 0 then (rows m ls (ls.getD 0 []).length, 0) else ([], fitN (ls.map List.length))

/-- two lists mark by mark, by their own words -/
def zipB (f : Bool → Bool → Bool) (a b : List Bool) : List Bool := (List.range a.length).map fun i => f (a.getD i false) (b.getD i false)
def pairR (f : Bool → Bool → Bool) (a b : List Bool) : List Bool × Nat :=
  if 64 < a.length ∨ 64 < b.length then ([], 2) else if a.length ≠ b.length then ([], 1) else (zipB f a b, 0)
def notL (a : List Bool) : List Bool := a.map (!·)
def notR (a : List Bool) : List Bool × Nat := if 64 < a.length then ([], 2) else (notL a, 0)

theorem each_two (m : List Bool → Bool) (f : Bool → Bool → Bool) (h : ∀ x y, m [x, y] = f x y) (a b : List Bool) : eachR m [a, b] = pairR f a b := by
  have e0 : (∃ n ∈ [a.length, b.length], 64 < n) ↔ (64 < a.length ∨ 64 < b.length) := by simp
  have e1 : (∃ n ∈ [a.length, b.length], n ≠ [a.length, b.length].getD 0 0) ↔ a.length ≠ b.length := by simp; omega
  simp only [eachR, pairR, fitN, List.map_cons, List.map_nil, e0, e1]
  by_cases h0 : 64 < a.length ∨ 64 < b.length
  · simp [h0]
  · by_cases h1 : a.length = b.length
    · simp only [if_neg h0]; simp [h1, rows, zipB, h]
    · simp only [if_neg h0]; simp [h1]
theorem each_one (m : List Bool → Bool) (h : ∀ x, m [x] = !x) (a : List Bool) : eachR m [a] = notR a := by
  have e0 : (∃ n ∈ [a.length], 64 < n) ↔ 64 < a.length := by simp
  have e1 : ¬ (∃ n ∈ [a.length], n ≠ [a.length].getD 0 0) := by simp
  simp only [eachR, notR, fitN, List.map_cons, List.map_nil, e0, e1]
  by_cases h0 : 64 < a.length
  · simp [h0]
  · simp only [h0, if_false, rows, notL, if_true]
    refine Prod.ext ?_ rfl
    apply List.ext_getElem
    · simp
    · intro i h1 h2
      simp only [List.length_map, List.length_range, List.getD_cons_zero] at h1
      simp [List.getD, List.getElem?_eq_getElem h1, h]
theorem mAnd_two (x y : Bool) : mAnd [x, y] = (x && y) := by cases x <;> cases y <;> rfl
theorem mOr_two (x y : Bool) : mOr [x, y] = (x || y) := by cases x <;> cases y <;> rfl
theorem mNot_one (x : Bool) : mNot [x] = !x := by cases x <;> rfl
end Go.Proofs.Ytbhggbohkddlaaa.M
