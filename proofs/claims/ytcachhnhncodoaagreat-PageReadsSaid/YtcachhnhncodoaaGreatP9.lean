/- MPlain, NPlain, CBase, CW1, CW2, CNull, MBase, CSplit, MW1, CW3, CPut, CW4, CDense, CCells, CNum, CR1, CEq, CSame, MW4. -/
import Derived.Lib.Hide
import Derived.Laws.OwnMore
import Derived.RangeFuncBox
import Derived.Laws.StructEq
import Derived.Test.YtcachhnhncodoaaGreatP8
namespace Go.Proofs.YtcachhnhncodoaaGreat.M
set_option linter.unusedVariables false
def cnt : List Bool → Nat
  | [] => 0
  | b :: l => (if b then 1 else 0) + cnt l
theorem cnt_append (a b : List Bool) : cnt (a ++ b) = cnt a + cnt b := by
  induction a with
  | nil => simp [cnt]
  | cons x a ih => simp only [List.cons_append, cnt, ih]; omega
theorem cnt_le (l : List Bool) : cnt l ≤ l.length := by
  induction l with
  | nil => simp [cnt]
  | cons x l ih => simp only [cnt, List.length_cons]; split <;> omega
theorem take_snoc (l : List Bool) (k : Nat) (h : k < l.length) : l.take (k + 1) = l.take k ++ [l.getD k false] := by
  rw [List.take_succ_eq_append_getElem h]; simp [List.getD, List.getElem?_eq_getElem h]
theorem cnt_snoc (l : List Bool) (k : Nat) (h : k < l.length) : cnt (l.take (k + 1)) = cnt (l.take k) + if l.getD k false = true then 1 else 0 := by
  rw [take_snoc l k h, cnt_append]; simp [cnt]
theorem cnt_take_le (l : List Bool) (k : Nat) : cnt (l.take k) ≤ cnt l := by
  have := cnt_append (l.take k) (l.drop k); rw [List.take_append_drop] at this; omega
theorem cnt_mono (l : List Bool) (i j : Nat) (h : i ≤ j) : cnt (l.take i) ≤ cnt (l.take j) := by
  have := cnt_take_le (l.take j) i
  rwa [List.take_take, Nat.min_eq_left h] at this
def selN : List Bool → Nat → Option Nat
  | [], _ => none
  | false :: l, k => (selN l k).map (· + 1)
  | true :: _, 0 => some 0
  | true :: l, k + 1 => (selN l k).map (· + 1)
theorem selN_some (l : List Bool) : ∀ (k i : Nat), selN l k = some i ↔ (i < l.length ∧ l.getD i false = true ∧ cnt (l.take i) = k) := by
  induction l with
  | nil => intro k i; simp [selN]
  | cons b l ih =>
    intro k i
    cases b with
    | false =>
      simp only [selN, Option.map_eq_some_iff]
      cases i with
      | zero => simp
      | succ i =>
        constructor
        · rintro ⟨j, hj, e⟩
          obtain rfl : j = i := by omega
          have := (ih k j).1 hj
          simpa [cnt] using this
        · intro h; exact ⟨i, (ih k i).2 (by simpa [cnt] using h), rfl⟩
    | true =>
      cases k with
      | zero =>
        simp only [selN, Option.some.injEq]
        constructor
        · rintro rfl; simp [cnt]
        · intro h
          cases i with
          | zero => rfl
          | succ i => simp [cnt] at h
      | succ k =>
        simp only [selN, Option.map_eq_some_iff]
        cases i with
        | zero => simp [cnt]
        | succ i =>
          constructor
          · rintro ⟨j, hj, e⟩
            obtain rfl : j = i := by omega
            have := (ih k j).1 hj
            simp only [List.length_cons, List.getD_cons_succ, List.take_succ_cons, cnt]
            exact ⟨by omega, this.2.1, by simp only [↓reduceIte]; omega⟩
          · intro h
            simp only [List.length_cons, List.getD_cons_succ, List.take_succ_cons, cnt] at h
            refine ⟨i, (ih k i).2 ⟨by omega, h.2.1, ?_⟩, rfl⟩
            have := h.2.2; simp only [↓reduceIte] at this; omega
theorem selN_none (l : List Bool) : ∀ k : Nat, selN l k = none ↔ cnt l ≤ k := by
  induction l with
  | nil => intro k; simp [selN, cnt]
  | cons b l ih =>
    intro k
    cases b with
    | false => simp only [selN, Option.map_eq_none_iff, ih]; simp [cnt]
    | true =>
      cases k with
      | zero => simp [selN, cnt]
      | succ k => simp only [selN, Option.map_eq_none_iff, ih]; simp [cnt]; omega
theorem drop_cons (l : List Bool) (i : Nat) (h : i < l.length) : l.drop i = l.getD i false :: l.drop (i + 1) := by
  rw [List.drop_eq_getElem_cons h]; simp [List.getD, List.getElem?_eq_getElem h]
theorem map_add (o : Option Nat) (i : Nat) : (o.map (· + 1)).map (· + i) = o.map (· + (i + 1)) := by
  cases o <;> simp; omega
def rankR (l : List Bool) (at_ : Int) : Nat × Nat := if at_ < 0 ∨ (l.length : Int) < at_ then (0, 3) else (cnt (l.take at_.toNat), 0)
def selO : Option Nat → Nat × Nat
  | some i => (i, 0)
  | none => (0, 5)
def selR (l : List Bool) (k : Int) : Nat × Nat := if k < 0 then (0, 3) else selO (selN l k.toNat)
def rows (m : List Bool → Bool) (ls : List (List Bool)) (n : Nat) : List Bool := (List.range n).map fun i => m (ls.map fun l => l.getD i false)
theorem rows_length (m : List Bool → Bool) (ls : List (List Bool)) (n : Nat) : (rows m ls n).length = n := by simp [rows]
theorem rows_snoc (m : List Bool → Bool) (ls : List (List Bool)) (n : Nat) : rows m ls (n + 1) = rows m ls n ++ [m (ls.map fun l => l.getD n false)] := by
  simp [rows, List.range_succ]
def fitN (ns : List Nat) : Nat := if ∃ n ∈ ns, 64 < n then 2 else if ∃ n ∈ ns, n ≠ ns.getD 0 0 then 1 else 0
def mAnd (ms : List Bool) : Bool := decide (cnt ms = ms.length)
def mOr (ms : List Bool) : Bool := decide (0 < cnt ms)
def mNot (ms : List Bool) : Bool := decide (cnt ms = 0)
def eachR (m : List Bool → Bool) (ls : List (List Bool)) : List Bool × Nat :=
  if fitN (ls.map List.length) = 0 then (rows m ls (ls.getD 0 []).length, 0) else ([], fitN (ls.map List.length))
def zipB (f : Bool → Bool → Bool) (a b : List Bool) : List Bool := (List.range a.length).map fun i => f (a.getD i false) (b.getD i false)
def pairR (f : Bool → Bool → Bool) (a b : List Bool) : List Bool × Nat :=
  if 64 < a.length ∨ 64 < b.length then ([], 2) else if a.length ≠ b.length then ([], 1) else (zipB f a b, 0)
def notL (a : List Bool) : List Bool := a.map (!·)
def notR (a : List Bool) : List Bool × Nat := if 64 < a.length then ([], 2) else (notL a, 0)
theorem each_two (m : List Bool → Bool) (f : Bool → Bool → Bool) (h : ∀ x y, m [x, y] = f x y) (a b : List Bool) : eachR m [a, b] = pairR f a b := by
  have e0 : (∃ n ∈ [a.length, b.length], 64 < n) ↔ (64 < a.length ∨ 64 < b.length) := by simp
  have e1 : (∃ n ∈ [a.length, b.length], n ≠ [a.length, b.length].getD 0 0) ↔ a.length ≠ b.length := by simp; omega
  simp only [eachR, pairR, fitN, List.map_cons, List.map_nil, e0, e1]
  by_cases h0 : 64 < a.length ∨ 64 < b.length
  · simp [h0]
  · by_cases h1 : a.length = b.length
    · simp only [if_neg h0]; simp [h1, rows, zipB, h]
    · simp only [if_neg h0]; simp [h1]
theorem each_one (m : List Bool → Bool) (h : ∀ x, m [x] = !x) (a : List Bool) : eachR m [a] = notR a := by
  have e0 : (∃ n ∈ [a.length], 64 < n) ↔ 64 < a.length := by simp
  have e1 : ¬ (∃ n ∈ [a.length], n ≠ [a.length].getD 0 0) := by simp
  simp only [eachR, notR, fitN, List.map_cons, List.map_nil, e0, e1]
  by_cases h0 : 64 < a.length
  · simp [h0]
  · simp only [h0, if_false, rows, notL, if_true]
    refine Prod.ext ?_ rfl
    apply List.ext_getElem
    · simp
    · intro i h1 h2
      simp only [List.length_map, List.length_range, List.getD_cons_zero] at h1
      simp [List.getD, List.getElem?_eq_getElem h1, h]
theorem mAnd_two (x y : Bool) : mAnd [x, y] = (x && y) := by cases x <;> cases y <;> rfl
theorem mOr_two (x y : Bool) : mOr [x, y] = (x || y) := by cases x <;> cases y <;> rfl
theorem mNot_one (x : Bool) : mNot [x] = !x := by cases x <;> rfl
end Go.Proofs.YtcachhnhncodoaaGreat.M
namespace Go.Proofs.YtcachhnhncodoaaGreat.C
set_option linter.unusedVariables false
structure Cl where
  kind : Int
  num : Nat
  txt : List UInt8
deriving DecidableEq
def null : Cl := ⟨0, 0, []⟩
def cellE (k : Int) (c : Cl) : Nat :=
  if c.kind ≠ 0 ∧ c.kind ≠ k then 7 else if (c.kind ≠ 1 ∧ c.num ≠ 0) ∨ (c.kind ≠ 2 ∧ c.txt ≠ []) then 1 else if 16 < c.txt.length then 2 else 0
def chkL (k : Int) : List Cl → Nat
  | [] => 0
  | c :: t => if cellE k c ≠ 0 then cellE k c else chkL k t
def chk (k : Int) (l : List Cl) : Nat := if k ≠ 1 ∧ k ≠ 2 then 7 else if 64 < l.length then 2 else chkL k l
def here (c : Cl) : Bool := decide (c.kind ≠ 0)
def dense (l : List Cl) : List Cl := l.filter here
theorem chkL_zero (k : Int) : ∀ l : List Cl, chkL k l = 0 ↔ ∀ c ∈ l, cellE k c = 0 := by
  intro l
  induction l with
  | nil => simp [chkL]
  | cons c t ih =>
    rw [chkL]
    by_cases h : cellE k c ≠ 0
    · rw [if_pos h]
      exact ⟨fun e => absurd e h, fun e => absurd (e c (by simp)) h⟩
    · rw [if_neg h, ih]
      constructor
      · intro hh x hx
        rcases List.mem_cons.1 hx with e | e
        · subst e; omega
        · exact hh x e
      · exact fun hh x hx => hh x (by simp [hx])
theorem chkL_at (k : Int) : ∀ (l : List Cl) (i : Nat) (hi : i < l.length), (∀ j (hj : j < i), cellE k (l[j]'(by omega)) = 0) → cellE k l[i] ≠ 0 → chkL k l = cellE k l[i] := by
  intro l
  induction l with
  | nil => intro i hi; simp at hi
  | cons c t ih =>
    intro i hi h0 h1
    rw [chkL]
    cases i with
    | zero =>
      have h1' : cellE k c ≠ 0 := h1
      rw [if_pos h1']; rfl
    | succ i =>
      have h := h0 0 (by omega)
      have h' : cellE k c = 0 := h
      rw [if_neg (by omega)]
      exact ih i (by simpa using hi) (fun j hj => h0 (j + 1) (by omega)) h1
theorem chk_ok {k : Int} {l : List Cl} (h : chk k l = 0) : (k = 1 ∨ k = 2) ∧ l.length ≤ 64 ∧ ∀ c ∈ l, cellE k c = 0 := by
  unfold chk at h
  by_cases h1 : k ≠ 1 ∧ k ≠ 2
  · rw [if_pos h1] at h; exact absurd h (by decide)
  rw [if_neg h1] at h
  by_cases h2 : 64 < l.length
  · rw [if_pos h2] at h; exact absurd h (by decide)
  rw [if_neg h2] at h
  exact ⟨by omega, by omega, (chkL_zero k l).1 h⟩
theorem chk_of {k : Int} {l : List Cl} (hk : k = 1 ∨ k = 2) (hl : l.length ≤ 64) (h : ∀ c ∈ l, cellE k c = 0) : chk k l = 0 := by
  unfold chk
  rw [if_neg (by omega), if_neg (by omega)]
  exact (chkL_zero k l).2 h
theorem cell_ok {k : Int} {c : Cl} (h : cellE k c = 0) : (c.kind = 0 → c = null) ∧ (c.kind = 0 ∨ c.kind = k) ∧ c.txt.length ≤ 16 ∧ (c.kind = 1 ∨ c.num = 0) ∧ (c.kind = 2 ∨ c.txt = []) := by
  unfold cellE at h
  by_cases h1 : c.kind ≠ 0 ∧ c.kind ≠ k
  · rw [if_pos h1] at h; exact absurd h (by decide)
  rw [if_neg h1] at h
  by_cases h2 : (c.kind ≠ 1 ∧ c.num ≠ 0) ∨ (c.kind ≠ 2 ∧ c.txt ≠ [])
  · rw [if_pos h2] at h; exact absurd h (by decide)
  rw [if_neg h2] at h
  by_cases h3 : 16 < c.txt.length
  · rw [if_pos h3] at h; exact absurd h (by decide)
  have a1 : c.kind = 1 ∨ c.num = 0 := by
    rcases Classical.em (c.kind = 1) with e | e
    · exact Or.inl e
    · rcases Classical.em (c.num = 0) with e2 | e2
      · exact Or.inr e2
      · exact absurd (Or.inl ⟨e, e2⟩) h2
  have a2 : c.kind = 2 ∨ c.txt = [] := by
    rcases Classical.em (c.kind = 2) with e | e
    · exact Or.inl e
    · rcases Classical.em (c.txt = []) with e2 | e2
      · exact Or.inr e2
      · exact absurd (Or.inr ⟨e, e2⟩) h2
  refine ⟨fun e => ?_, by omega, by omega, a1, a2⟩
  obtain ⟨ck, cn, ct⟩ := c
  simp only at e a1 a2
  have b1 : cn = 0 := a1.resolve_left (by omega)
  have b2 : ct = [] := a2.resolve_left (by omega)
  subst e; subst b1; subst b2; rfl
theorem dense_ok {k : Int} {l : List Cl} (h : chk k l = 0) : chk k (dense l) = 0 := by
  obtain ⟨h1, h2, h3⟩ := chk_ok h
  refine chk_of h1 (Nat.le_trans (List.length_filter_le _ _) h2) fun c hc => h3 c (List.mem_filter.1 hc).1
theorem dense_cnt : ∀ l : List Cl, M.cnt (l.map here) = (dense l).length := by
  intro l
  induction l with
  | nil => rfl
  | cons c t ih =>
    have hd : dense (c :: t) = if here c = true then c :: dense t else dense t := by
      unfold dense; rw [List.filter_cons]
    rw [hd, List.map_cons, M.cnt, ih]
    cases here c
    · simp
    · simp; omega
def join : List Bool → List Cl → List Cl
  | [], _ => []
  | true :: m, c :: d => c :: join m d
  | true :: m, [] => null :: join m []
  | false :: m, d => null :: join m d
theorem join_length : ∀ (m : List Bool) (d : List Cl), (join m d).length = m.length := by
  intro m
  induction m with
  | nil => intro d; cases d <;> rfl
  | cons b m ih =>
    intro d
    cases b
    · rw [join, List.length_cons, List.length_cons, ih]
    · cases d with
      | nil => rw [join, List.length_cons, List.length_cons, ih]
      | cons c d => rw [join, List.length_cons, List.length_cons, ih]
theorem join_at : ∀ (m : List Bool) (d : List Cl) (i : Nat) (hi : i < m.length), (join m d).getD i null = if m.getD i false = true then d.getD (M.cnt (m.take i)) null else null := by
  intro m
  induction m with
  | nil => intro d i hi; simp at hi
  | cons b m ih =>
    intro d i hi
    cases i with
    | zero =>
      cases b
      · rw [join]; rfl
      · cases d with
        | nil => rw [join]; rfl
        | cons c d => rw [join]; rfl
    | succ i =>
      have hi' : i < m.length := by simpa using hi
      cases b
      · rw [join]
        show (join m d).getD i null = _
        rw [ih d i hi']
        have : M.cnt ((false :: m).take (i + 1)) = M.cnt (m.take i) := by rw [List.take_succ_cons, M.cnt]; simp
        rw [this]; rfl
      · have hc : M.cnt ((true :: m).take (i + 1)) = M.cnt (m.take i) + 1 := by rw [List.take_succ_cons, M.cnt]; simp; try omega
        rw [hc]
        cases d with
        | nil =>
          rw [join]
          show (join m []).getD i null = _
          rw [ih [] i hi']; rfl
        | cons c d =>
          rw [join]
          show (join m d).getD i null = _
          rw [ih d i hi']; rfl
theorem join_back : ∀ l : List Cl, (∀ c ∈ l, c.kind = 0 → c = null) → join (l.map here) (dense l) = l := by
  intro l
  induction l with
  | nil => intro _; rfl
  | cons c t ih =>
    intro h
    have hi := ih (fun x hx => h x (by simp [hx]))
    have hd : dense (c :: t) = if here c = true then c :: dense t else dense t := by
      unfold dense; rw [List.filter_cons]
    rw [hd, List.map_cons]
    by_cases hc : c.kind = 0
    · have : here c = false := by simp [here, hc]
      rw [this, if_neg (by simp), join, hi, ← h c (by simp) hc]
    · have : here c = true := by simp [here, hc]
      rw [this, if_pos rfl, join, hi]
def joinR (k : Int) (m : List Bool) (l : List Cl) : List Cl × Nat :=
  if chk k l ≠ 0 then ([], chk k l) else if (dense l).length < l.length then ([], 7) else if 64 < m.length then ([], 2) else if M.cnt m ≠ l.length then ([], 1) else (join m l, 0)
theorem dense_dense (l : List Cl) : dense (dense l) = dense l := by unfold dense; rw [List.filter_filter]; simp
theorem joinR_back {k : Int} {l : List Cl} (h : chk k l = 0) : joinR k (l.map here) (dense l) = (l, 0) := by
  obtain ⟨h1, h2, h3⟩ := chk_ok h
  unfold joinR
  rw [if_neg (by rw [dense_ok h]; simp), if_neg (by rw [dense_dense]; omega), if_neg (by simp; omega), if_neg (by rw [dense_cnt]; simp), join_back l fun c hc => (cell_ok (h3 c hc)).1]
def less (a b : Cl) : Bool :=
  if a.kind = 0 ∧ b.kind ≠ 0 then true else if b.kind = 0 ∧ a.kind ≠ 0 then false else if a.kind ≠ b.kind then decide (a.kind < b.kind) else if a.num ≠ b.num then decide (a.num < b.num) else decide (a.txt < b.txt)
def Less (a b : Cl) : Prop := (a.kind = 0 ∧ b.kind ≠ 0) ∨ ((a.kind = 0 ↔ b.kind = 0) ∧ (a.kind < b.kind ∨ (a.kind = b.kind ∧ (a.num < b.num ∨ (a.num = b.num ∧ a.txt < b.txt)))))
theorem less_iff (a b : Cl) : less a b = true ↔ Less a b := by
  unfold less Less
  by_cases h1 : a.kind = 0 ∧ b.kind ≠ 0
  · rw [if_pos h1]; exact ⟨fun _ => Or.inl h1, fun _ => rfl⟩
  rw [if_neg h1]
  by_cases h2 : b.kind = 0 ∧ a.kind ≠ 0
  · rw [if_pos h2]
    refine ⟨fun h => by simp at h, ?_⟩
    rintro (h | ⟨h, _⟩)
    · exact absurd h h1
    · exact absurd (h.2 h2.1) h2.2
  rw [if_neg h2]
  have hiff : a.kind = 0 ↔ b.kind = 0 := by
    constructor
    · intro e
      rcases Classical.em (b.kind = 0) with k | k
      · exact k
      · exact absurd ⟨e, k⟩ h1
    · intro e
      rcases Classical.em (a.kind = 0) with k | k
      · exact k
      · exact absurd ⟨e, k⟩ h2
  by_cases h3 : a.kind ≠ b.kind
  · rw [if_pos h3, decide_eq_true_iff]
    refine ⟨fun h => Or.inr ⟨hiff, Or.inl h⟩, ?_⟩
    rintro (h | ⟨_, h | h⟩)
    · exact absurd h h1
    · exact h
    · exact absurd h.1 h3
  rw [if_neg h3]
  have h3' : a.kind = b.kind := Classical.not_not.1 h3
  by_cases h4 : a.num ≠ b.num
  · rw [if_pos h4, decide_eq_true_iff]
    refine ⟨fun h => Or.inr ⟨hiff, Or.inr ⟨h3', Or.inl h⟩⟩, ?_⟩
    rintro (h | ⟨_, h | ⟨_, h | h⟩⟩)
    · exact absurd h h1
    · omega
    · exact h
    · exact absurd h.1 h4
  rw [if_neg h4, decide_eq_true_iff]
  have h4' : a.num = b.num := Classical.not_not.1 h4
  refine ⟨fun h => Or.inr ⟨hiff, Or.inr ⟨h3', Or.inr ⟨h4', h⟩⟩⟩, ?_⟩
  rintro (h | ⟨_, h | ⟨_, h | h⟩⟩)
  · exact absurd h h1
  · omega
  · omega
  · exact h.2
theorem less_irr (a : Cl) : ¬ Less a a := by
  rintro (h | ⟨_, h | ⟨_, h | h⟩⟩)
  · exact h.2 h.1
  · omega
  · omega
  · exact T.lt_irr _ h.2
theorem less_tr {a b c : Cl} (h1 : Less a b) (h2 : Less b c) : Less a c := by
  rcases h1 with h1 | ⟨i1, h1⟩
  · rcases h2 with h2 | ⟨i2, h2⟩
    · exact absurd h2.1 h1.2
    · exact Or.inl ⟨h1.1, fun e => h1.2 (i2.2 e)⟩
  · rcases h2 with h2 | ⟨i2, h2⟩
    · exact Or.inl ⟨i1.2 h2.1, h2.2⟩
    · refine Or.inr ⟨i1.trans i2, ?_⟩
      rcases h1 with h1 | ⟨e1, h1⟩
      · rcases h2 with h2 | ⟨e2, h2⟩
        · exact Or.inl (by omega)
        · exact Or.inl (by omega)
      · rcases h2 with h2 | ⟨e2, h2⟩
        · exact Or.inl (by omega)
        · refine Or.inr ⟨by omega, ?_⟩
          rcases h1 with h1 | ⟨n1, h1⟩
          · rcases h2 with h2 | ⟨n2, h2⟩
            · exact Or.inl (by omega)
            · exact Or.inl (by omega)
          · rcases h2 with h2 | ⟨n2, h2⟩
            · exact Or.inl (by omega)
            · exact Or.inr ⟨by omega, T.lt_tr h1 h2⟩
theorem less_tri (a b : Cl) : Less a b ∨ a = b ∨ Less b a := by
  by_cases hk : a.kind = b.kind
  · rcases Nat.lt_trichotomy a.num b.num with h | h | h
    · exact Or.inl (Or.inr ⟨by rw [hk], Or.inr ⟨hk, Or.inl h⟩⟩)
    · rcases T.tri a.txt b.txt with t | t | t
      · exact Or.inl (Or.inr ⟨by rw [hk], Or.inr ⟨hk, Or.inr ⟨h, t⟩⟩⟩)
      · refine Or.inr (Or.inl ?_)
        obtain ⟨ak, an, at_⟩ := a
        obtain ⟨bk, bn, bt⟩ := b
        simp only at hk h t
        subst hk; subst h; subst t; rfl
      · exact Or.inr (Or.inr (Or.inr ⟨by rw [hk], Or.inr ⟨hk.symm, Or.inr ⟨h.symm, t⟩⟩⟩))
    · exact Or.inr (Or.inr (Or.inr ⟨by rw [hk], Or.inr ⟨hk.symm, Or.inl h⟩⟩))
  · by_cases ha : a.kind = 0
    · exact Or.inl (Or.inl ⟨ha, fun e => hk (by omega)⟩)
    · by_cases hb : b.kind = 0
      · exact Or.inr (Or.inr (Or.inl ⟨hb, ha⟩))
      · rcases Int.lt_or_lt_of_ne hk with h | h
        · exact Or.inl (Or.inr ⟨⟨fun e => absurd e ha, fun e => absurd e hb⟩, Or.inl h⟩)
        · exact Or.inr (Or.inr (Or.inr ⟨⟨fun e => absurd e hb, fun e => absurd e ha⟩, Or.inl h⟩))
theorem less_law (a b c : Cl) : ((less a b || less b a) == decide (a ≠ b)) = true ∧ (less a b && less b a) = false ∧ (!less a b || !less b c || less a c) = true := by
  have i1 := less_iff a b
  have i2 := less_iff b a
  have i3 := less_iff b c
  have i4 := less_iff a c
  refine ⟨?_, ?_, ?_⟩
  · rw [beq_iff_eq, Bool.eq_iff_iff, Bool.or_eq_true, decide_eq_true_iff, i1, i2]
    constructor
    · rintro (h | h) e
      · subst e; exact less_irr _ h
      · subst e; exact less_irr _ h
    · intro h
      rcases less_tri a b with k | k | k
      · exact Or.inl k
      · exact absurd k h
      · exact Or.inr k
  · rw [Bool.eq_false_iff]
    intro h
    rw [Bool.and_eq_true, i1, i2] at h
    exact less_irr _ (less_tr h.1 h.2)
  · cases h1 : less a b with
    | false => rfl
    | true =>
      cases h2 : less b c with
      | false => rfl
      | true =>
        have := i4.2 (less_tr (i1.1 h1) (i3.1 h2))
        rw [this]; rfl
end Go.Proofs.YtcachhnhncodoaaGreat.C
namespace Go.Proofs.YtcachhnhncodoaaGreat
open Go.RowKit
set_option linter.unusedVariables false
def cx (c : C.Cl) : List Value := [.int .i64 c.kind, .int .u64 (c.num : Int), .string (str c.txt)]
def cag (c : C.Cl) : Value := .agg #[.int .i64 c.kind, .int .u64 (c.num : Int), .string (str c.txt)]
def cOk (c : C.Cl) : Prop := -9223372036854775808 ≤ c.kind ∧ c.kind ≤ 9223372036854775807 ∧ c.num < 18446744073709551616 ∧ c.txt.length ≤ maxLen
theorem cOk_null : cOk C.null := by unfold cOk C.null; simp [maxLen]
def Cls (w : World) (B : Nat) (a : Option Addr) (l : List C.Cl) : Prop :=
  l ≠ [] → ∃ b off, a = some ⟨b, off, none⟩ ∧ b < B ∧ ∀ i, i < l.length → w.cell? ⟨b, off + i * 3, none⟩ = some (.int .i64 (l.getD i C.null).kind) ∧ w.cell? ⟨b, off + i * 3 + 1, none⟩ = some (.int .u64 ((l.getD i C.null).num : Int)) ∧ w.cell? ⟨b, off + i * 3 + 2, none⟩ = some (.string (str (l.getD i C.null).txt))
theorem Cls.below {w w' : World} {B : Nat} {a : Option Addr} {l : List C.Cl} (h : Cls w B a l) (hb : Below B w w') : Cls w' B a l := by
  intro hl
  obtain ⟨b, off, e, hlt, hc⟩ := h hl
  exact ⟨b, off, e, hlt, fun i hi => ⟨(hb.cell (p := ⟨b, off + i * 3, none⟩) hlt).trans (hc i hi).1, (hb.cell (p := ⟨b, off + i * 3 + 1, none⟩) hlt).trans (hc i hi).2.1, (hb.cell (p := ⟨b, off + i * 3 + 2, none⟩) hlt).trans (hc i hi).2.2⟩⟩
theorem Cls.mono {w : World} {B B' : Nat} {a : Option Addr} {l : List C.Cl} (h : Cls w B a l) (hB : B ≤ B') : Cls w B' a l := by
  intro hl
  obtain ⟨b, off, e, hlt, hc⟩ := h hl
  exact ⟨b, off, e, by omega, hc⟩
theorem Cls.nil (w : World) (B : Nat) (a : Option Addr) : Cls w B a [] := fun h => absurd rfl h
theorem Cls.next {w w' : World} {a : Option Addr} {l : List C.Cl} (h : Cls w w.heap.size a l) (hb : Below w.heap.size w w') : Cls w' w'.heap.size a l := (h.below hb).mono hb.size
def cv (l : List C.Cl) : List Value := l.flatMap cx
theorem cv_cons (c : C.Cl) (l : List C.Cl) : cv (c :: l) = .int .i64 c.kind :: .int .u64 (c.num : Int) :: .string (str c.txt) :: cv l := rfl
theorem cv_length (l : List C.Cl) : (cv l).length = l.length * 3 := by
  induction l with
  | nil => rfl
  | cons c l ih => rw [cv_cons]; simp only [List.length_cons, ih]; omega
theorem cv_append (a b : List C.Cl) : cv (a ++ b) = cv a ++ cv b := by simp [cv]
theorem cv_get (l : List C.Cl) (i : Nat) (hi : i < l.length) : (cv l)[i * 3]? = some (.int .i64 (l.getD i C.null).kind) ∧ (cv l)[i * 3 + 1]? = some (.int .u64 ((l.getD i C.null).num : Int)) ∧ (cv l)[i * 3 + 2]? = some (.string (str (l.getD i C.null).txt)) := by
  induction l generalizing i with
  | nil => simp at hi
  | cons c l ih =>
    cases i with
    | zero => simp [cv_cons]
    | succ i =>
      have := ih i (by simpa using hi)
      rw [cv_cons, show (i + 1) * 3 = i * 3 + 1 + 1 + 1 by omega, show i * 3 + 1 + 1 + 1 + 1 = (i * 3 + 1) + 1 + 1 + 1 by omega, show i * 3 + 1 + 1 + 1 + 2 = (i * 3 + 2) + 1 + 1 + 1 by omega]
      simpa using this
theorem cv_set (l : List C.Cl) (i : Nat) (c : C.Cl) (hi : i < l.length) : (((cv l).set (i * 3) (.int .i64 c.kind)).set (i * 3 + 1) (.int .u64 (c.num : Int))).set (i * 3 + 2) (.string (str c.txt)) = cv (l.set i c) := by
  induction l generalizing i with
  | nil => simp at hi
  | cons r l ih =>
    cases i with
    | zero => simp [cv_cons]
    | succ i =>
      have := ih i (by simpa using hi)
      rw [cv_cons, show (i + 1) * 3 = i * 3 + 1 + 1 + 1 by omega, show i * 3 + 1 + 1 + 1 + 1 = (i * 3 + 1) + 1 + 1 + 1 by omega, show i * 3 + 1 + 1 + 1 + 2 = (i * 3 + 2) + 1 + 1 + 1 by omega]
      simp [this, cv_cons]
theorem info_cell : (Tryz.prog.info? 50).map (fun i => (i.zero, i.size, i.bytes)) = some (some (.agg #[.int .i64 0, .int .u64 0, .string ByteArray.empty]), 3, 32) := by kernel_rfl
def CRow (B : Nat) (xs : List C.Cl) (v : Value) (wr : World) : Prop := wr.ownsRow B 50 3 v xs.length (cv xs)
theorem cRow_cls {B : Nat} {xs : List C.Cl} {v : Value} {w : World} (h : CRow B xs v w) : ∃ a c, v = .slice a xs.length c ∧ Cls w w.heap.size a xs ∧ (xs.length ≤ c ∧ c ≤ maxLen ∧ (a = none → c = 0)) := by
  unfold CRow at h
  rcases h.2 with ⟨rfl, h0⟩ | ⟨g, cap, cur, rfl, e2, e3, e4, e5, e6, e7⟩
  · refine ⟨none, 0, by rw [h0], ?_, by omega, by unfold maxLen; omega, fun _ => rfl⟩
    rw [List.eq_nil_of_length_eq_zero h0]; exact Cls.nil _ _ _
  · refine ⟨some ⟨g, 0, none⟩, cap, rfl, fun _ => ⟨g, 0, rfl, lt_of_block e3, fun i hi => ?_⟩, e4, e5, fun h => by cases h⟩
    rw [Nat.zero_add, h.cellAt (i * 3) (by omega), h.cellAt (i * 3 + 1) (by omega), h.cellAt (i * 3 + 2) (by omega)]
    exact cv_get xs i hi
theorem CRow.below {B : Nat} {xs : List C.Cl} {v : Value} {w w' : World} (h : CRow B xs v w) (hb : Below w.heap.size w w') : CRow B xs v w' := row_below h hb
theorem CRow.alloc_ {B : Nat} {xs : List C.Cl} {v : Value} {w : World} (h : CRow B xs v w) (o : Obj) : CRow B xs v (w.alloc o) := World.ownsRow.alloc h o
theorem cnilRow (B : Nat) (w : World) : CRow B [] (.slice none 0 0) w := ⟨rfl, Or.inl ⟨rfl, rfl⟩⟩
theorem CRow.form {B : Nat} {xs : List C.Cl} {a : Option Addr} {n c : Nat} {w : World} (h : CRow B xs (.slice a n c) w) (hne : xs ≠ []) : ∃ g, a = some ⟨g, 0, none⟩ ∧ n = xs.length ∧ B ≤ g ∧ g < w.heap.size := by
  unfold CRow at h
  rcases h.2 with ⟨he, h0⟩ | ⟨g, cap, cur, he, e2, e3, e4⟩
  · exact absurd (List.eq_nil_of_length_eq_zero h0) hne
  · injection he with h1 h2 h3
    exact ⟨g, h1, h2, e2, lt_of_block e3⟩
theorem wpList_append_onec {w : World} {ops : Array Oper} {rest : List Oper} {o : Oper} {a : Act} {Q : Exit → Act → World → Prop} (hgd : o.guard = none) (s x : Operand)
    (ho : o.op = .call { callee := .builtin .append, args := #[s, x], argTypes := #[22, 22] }) (base : Nat)
    (v : Value) (xs : List C.Cl) (hs : a.eval s = v) (hown : CRow base xs v w)
    (g : Nat) (y : C.Cl) (hx : a.eval x = .slice (some ⟨g, 0, none⟩) 1 1) (hc0 : w.cell? ⟨g, 0, none⟩ = some (.int .i64 y.kind)) (hc1 : w.cell? ⟨g, 1, none⟩ = some (.int .u64 (y.num : Int))) (hc2 : w.cell? ⟨g, 2, none⟩ = some (.string (str y.txt)))
    (hbytes : (xs.length + 1) * 32 ≤ 140737488355328) (hbase : base ≤ w.heap.size)
    (h : ∀ v' w', CRow base (xs ++ [y]) v' w' → Below base w w' → w.grownBy w' v.ownBlock → wpList Tryz.prog ops Q rest (a.put o.dst v') w') : wpList Tryz.prog ops Q (o :: rest) a w := by
  obtain ⟨i, hi, hz0, hz1, hz2⟩ := info_parts info_cell
  refine wpList_append_own w hgd s x 22 ho base 50 i (.agg #[.int .i64 0, .int .u64 0, .string ByteArray.empty]) 3 32 Tryz.underlying22 hi hz0 hz1 hz2 rfl (by decide) v xs.length (cv xs) hs hown ⟨g, 0, none⟩ 1 1 (cx y) hx rfl ?_ ?_ (by unfold maxLen; omega) hbytes hbase (fun v' w' h1 h2 _ => h v' w' ?_ ?_ h2)
  · intro j u hj
    match j, hj with
    | 0, hj => simp [cx] at hj; subst hj; simpa [Addr.add] using hc0
    | 1, hj => simp [cx] at hj; subst hj; simpa [Addr.add] using hc1
    | 2, hj => simp [cx] at hj; subst hj; simpa [Addr.add] using hc2
  · intro u hu; simp [cx] at hu; rcases hu with rfl | rfl | rfl <;> rfl
  · unfold CRow; rw [cv_append, List.length_append]; simpa [cv] using h1
  · exact (Below.refl base w).grown h2 hbase (fun k hk => (hown.lt k hk).1)
def CellsPost (r : List C.Cl × Nat) (w : World) (e : Ending) (w' : World) : Prop :=
  ∃ a c, e = .returned (.tuple #[.slice a r.1.length c, .int .i64 (r.2 : Nat)]) ∧ Cls w' w'.heap.size a r.1 ∧ Below w.heap.size w w'
theorem CellsPost.none {w w' : World} (er : Nat) (h : Below w.heap.size w w') : CellsPost ([], er) w (.returned (.tuple #[.slice none 0 0, .int .i64 er])) w' :=
  ⟨Option.none, 0, rfl, Cls.nil _ _ _, h⟩
def CErrPost (n : Nat) (w : World) (e : Ending) (w' : World) : Prop := e = .returned (.int .i64 (n : Int)) ∧ Below w.heap.size w w'
theorem cls_lit (w : World) (l : List C.Cl) : Cls (w.alloc (.cells (cv l).toArray 50)) (w.alloc (.cells (cv l).toArray 50)).heap.size (some ⟨w.heap.size, 0, none⟩) l := by
  intro _
  refine ⟨w.heap.size, 0, rfl, by simp, fun i hi => ?_⟩
  rw [Nat.zero_add, World.cell?_alloc_new, World.cell?_alloc_new, World.cell?_alloc_new]
  simpa using cv_get l i hi
theorem ctake_succ (l : List C.Cl) (k : Nat) (h : k < l.length) : l.take (k + 1) = l.take k ++ [l.getD k C.null] := by
  rw [List.take_succ_eq_append_getElem h]; simp [List.getD, List.getElem?_eq_getElem h]
theorem cgetD_mem (l : List C.Cl) (k : Nat) (hk : k < l.length) : l.getD k C.null ∈ l := by
  simp only [List.getD, List.getElem?_eq_getElem hk, Option.getD_some]
  exact List.getElem_mem hk
theorem CRow.far {B : Nat} {xs : List C.Cl} {v : Value} {w : World} (h : CRow B xs v w) (g i : Nat) (x : Value) (hg : g < B) : CRow B xs v (w.setCell ⟨g, i, none⟩ x) := by
  unfold CRow at *
  refine ⟨h.1, ?_⟩
  rcases h.2 with h2 | ⟨g', cap, cur, e1, e2, e3, e4⟩
  · exact Or.inl h2
  · refine Or.inr ⟨g', cap, cur, e1, e2, ?_, e4⟩
    simp [World.setCell, Array.getElem?_modify, e3, show ¬ g = g' by omega]
theorem CRow.weak {B B' : Nat} {xs : List C.Cl} {v : Value} {w : World} (h : CRow B xs v w) (hB : B' ≤ B) : CRow B' xs v w := by
  unfold CRow at *
  refine ⟨h.1, ?_⟩
  rcases h.2 with h2 | ⟨g', cap, cur, e1, e2, e3⟩
  · exact Or.inl h2
  · exact Or.inr ⟨g', cap, cur, e1, by omega, e3⟩
theorem dense_snoc (l : List C.Cl) (j : Nat) (h : j < l.length) : C.dense (l.take (j + 1)) = if (l.getD j C.null).kind = 0 then C.dense (l.take j) else C.dense (l.take j) ++ [l.getD j C.null] := by
  rw [ctake_succ l j h]
  unfold C.dense
  rw [List.filter_append]
  by_cases hk : (l.getD j C.null).kind = 0
  · rw [if_pos hk]; generalize l.getD j C.null = y at *; simp [C.here, hk]
  · rw [if_neg hk]; generalize l.getD j C.null = y at *; simp [C.here, hk]
theorem dense_le (l : List C.Cl) (j : Nat) : (C.dense (l.take j)).length ≤ j := Nat.le_trans (List.length_filter_le _ _) (by rw [List.length_take]; omega)
def Tri (w : World) (b : Nat) (v0 v1 v2 : Value) : Prop := w.heap[b]? = some (.cells #[v0, v1, v2] 50 (0, 0))
theorem Tri.c0 {w : World} {b : Nat} {v0 v1 v2 : Value} (h : Tri w b v0 v1 v2) : w.cell? ⟨b, 0, none⟩ = some v0 := by unfold Tri at h; simp [World.cell?, h]
theorem Tri.c1 {w : World} {b : Nat} {v0 v1 v2 : Value} (h : Tri w b v0 v1 v2) : w.cell? ⟨b, 1, none⟩ = some v1 := by unfold Tri at h; simp [World.cell?, h]
theorem Tri.c2 {w : World} {b : Nat} {v0 v1 v2 : Value} (h : Tri w b v0 v1 v2) : w.cell? ⟨b, 2, none⟩ = some v2 := by unfold Tri at h; simp [World.cell?, h]
theorem Tri.free {w : World} {b : Nat} {v0 v1 v2 : Value} (h : Tri w b v0 v1 v2) (i : Nat) : w.frozen? ⟨b, i, none⟩ = false := by unfold Tri at h; simp [World.frozen?, h]
theorem Tri.lt {w : World} {b : Nat} {v0 v1 v2 : Value} (h : Tri w b v0 v1 v2) : b < w.heap.size := lt_of_block h
theorem Tri.next {w w' : World} {b : Nat} {v0 v1 v2 : Value} (h : Tri w b v0 v1 v2) (hb : Below w.heap.size w w') : Tri w' b v0 v1 v2 := (hb.block b h.lt).trans h
theorem Tri.s0 {w : World} {b : Nat} {v0 v1 v2 : Value} (h : Tri w b v0 v1 v2) (x : Value) : Tri (w.setCell ⟨b, 0, none⟩ x) b x v1 v2 := by
  unfold Tri at *; simp [World.setCell, Array.getElem?_modify, h]
theorem Tri.s1 {w : World} {b : Nat} {v0 v1 v2 : Value} (h : Tri w b v0 v1 v2) (x : Value) : Tri (w.setCell ⟨b, 1, none⟩ x) b v0 x v2 := by
  unfold Tri at *; simp [World.setCell, Array.getElem?_modify, h]
theorem Tri.s2 {w : World} {b : Nat} {v0 v1 v2 : Value} (h : Tri w b v0 v1 v2) (x : Value) : Tri (w.setCell ⟨b, 2, none⟩ x) b v0 v1 x := by
  unfold Tri at *; simp [World.setCell, Array.getElem?_modify, h]
theorem tri_new (w : World) (v0 v1 v2 : Value) : Tri (w.alloc (.cells #[v0, v1, v2] 50)) w.heap.size v0 v1 v2 := heap_alloc_new _ _
def ValPost (v : Value) (w : World) (e : Ending) (w' : World) : Prop := e = .returned v ∧ w = w'
def CellsRowPost (r : List C.Cl) (w : World) (e : Ending) (w' : World) : Prop := ∃ v, e = .returned v ∧ CRow w.heap.size r v w' ∧ Below w.heap.size w w'
theorem cag_null : cag C.null = .agg #[.int .i64 0, .int .u64 0, .string ⟨#[]⟩] := rfl
theorem Cls.take {w : World} {B : Nat} {a : Option Addr} {l : List C.Cl} (h : Cls w B a l) (k : Nat) : Cls w B a (l.take k) := by
  intro hl
  obtain ⟨b, off, e, hlt, hc⟩ := h (by intro e; rw [e] at hl; simp at hl)
  refine ⟨b, off, e, hlt, fun i hi => ?_⟩
  have hi' : i < l.length := by simp only [List.length_take] at hi; omega
  have hk : i < k := by simp only [List.length_take] at hi; omega
  have e : (l.take k).getD i C.null = l.getD i C.null := by simp [List.getD, List.getElem?_take_of_lt hk]
  rw [e]; exact hc i hi'
theorem Cls.drop {w : World} {B' b off : Nat} {l : List C.Cl} (h : Cls w B' (some ⟨b, off, none⟩) l) (k : Nat) : Cls w B' (some ⟨b, off + k * 3, none⟩) (l.drop k) := by
  intro hl
  have hk : k < l.length := by
    rcases Nat.lt_or_ge k l.length with h | h
    · exact h
    · exact absurd (List.drop_eq_nil_of_le h) hl
  obtain ⟨b', off', e, hb, hc⟩ := h (by intro e; subst e; simp at hk)
  injection e with e
  injection e with e1 e2
  subst e1 e2
  refine ⟨b, off + k * 3, rfl, hb, fun i hi => ?_⟩
  rw [List.length_drop] at hi
  have := hc (k + i) (by omega)
  rw [show off + (k + i) * 3 = off + k * 3 + i * 3 by omega] at this
  have e : (l.drop k).getD i C.null = l.getD (k + i) C.null := by simp [List.getD, List.getElem?_drop]
  rw [e]; exact this
theorem Cls.cutIf {w : World} {B' b off c : Nat} {l : List C.Cl} (h : Cls w B' (some ⟨b, off, none⟩) l) (hl : l.length ≤ c) : Cls w B' (if c = 1 then some ⟨b, off, none⟩ else some ⟨b, off + 3, none⟩) (l.drop 1) := by
  by_cases hk : c = 1
  · rw [if_pos hk, List.drop_eq_nil_of_le (by omega)]; exact Cls.nil _ _ _
  · rw [if_neg hk]; exact h.drop 1
end Go.Proofs.YtcachhnhncodoaaGreat
namespace Go.Proofs.YtcachhnhncodoaaGreat
open Go.RowKit
set_option linter.unusedVariables false
set_option maxHeartbeats 1000000 in
set_option maxRecDepth 100000 in
theorem cchk_any (Cb : Nat) (k : Int) (c : C.Cl) (w : World) (hc : cOk c) (hB : Boxed w Cb 3 (.int .i64 k)) :
    Calls Tryz.prog 58 #[cag c, .pointer (some ⟨Cb, 0, none⟩)] w (CErrPost (C.cellE k c) w) := by
  have c0 := hB.cell
  have hlt := hB.lt
  have hne : ¬ Cb = w.heap.size := by omega
  have hne2 : ¬ w.heap.size = Cb := by omega
  obtain ⟨z, n, x⟩ := c
  unfold cOk at hc
  simp only at hc
  unfold cag
  simp only
  clear hB
  by_cases hz : z = 0
  · subst hz
    by_cases hn : n = 0
    · subst hn
      by_cases hx : x = []
      · subst hx
        have HR := Lib.hid (show C.cellE k ⟨0, 0, []⟩ = 0 by simp [C.cellE])
        have e1 : (str []).toList.isEmpty = true := by rw [str_toList]; rfl
        have e2 : (str []).size = 0 := rfl
        have e3 : (str []).toList = [] := str_toList _
        go_enter Tryz.func58, Tryz.ntmps58
        go_wp2_with fail
        go_ret
        exact ⟨by rw [HR.out]; rfl, (Below.refl _ _).alloc (Nat.le_refl _) _⟩
      · skip
        have HR := Lib.hid (show C.cellE k ⟨0, 0, x⟩ = 1 by simp [C.cellE, hx])
        have e1 : (str x).toList.isEmpty = false := by rw [str_toList]; cases x with | nil => exact absurd rfl hx | cons a t => rfl
        have e2 : 0 < (str x).size := by rw [str_size]; exact List.length_pos_iff.2 hx
        have e3 : decide ((0 : Int) < ((str x).size : Int)) = true := decide_eq_true (by omega)
        have e4 : ¬ (str x).toList = [] := by rw [str_toList]; exact hx
        generalize str x = X at *
        clear hx
        go_enter Tryz.func58, Tryz.ntmps58
        go_wp2_with fail
        go_ret
        exact ⟨by rw [HR.out]; rfl, (Below.refl _ _).alloc (Nat.le_refl _) _⟩
    · skip
      have HR := Lib.hid (show C.cellE k ⟨0, n, x⟩ = 1 by simp [C.cellE, hn])
      have f1 : ((n : Int) != 0) = true := by rw [bne_iff_ne]; omega
      have f2 : ¬ (n : Int) = 0 := by omega
      generalize str x = X at *
      go_enter Tryz.func58, Tryz.ntmps58
      go_wp2_with fail
      go_ret
      exact ⟨by rw [HR.out]; rfl, (Below.refl _ _).alloc (Nat.le_refl _) _⟩
  by_cases hk : z = k
  · subst hk
    by_cases hn : n = 0
    · subst hn
      by_cases hx : x = []
      · subst hx
        by_cases h1 : z = 1
        · subst h1
          have HR := Lib.hid (show C.cellE 1 ⟨1, 0, []⟩ = 0 by simp [C.cellE])
          have e1 : (str []).toList.isEmpty = true := by rw [str_toList]; rfl
          have e2 : (str []).size = 0 := rfl
          have e3 : (str []).toList = [] := str_toList _
          go_enter Tryz.func58, Tryz.ntmps58
          go_wp2_with fail
          go_ret
          exact ⟨by rw [HR.out]; rfl, (Below.refl _ _).alloc (Nat.le_refl _) _⟩
        by_cases h2 : z = 2
        · subst h2
          have HR := Lib.hid (show C.cellE 2 ⟨2, 0, []⟩ = 0 by simp [C.cellE])
          have e1 : (str []).toList.isEmpty = true := by rw [str_toList]; rfl
          have e2 : (str []).size = 0 := rfl
          have e3 : (str []).toList = [] := str_toList _
          go_enter Tryz.func58, Tryz.ntmps58
          go_wp2_with fail
          go_ret
          exact ⟨by rw [HR.out]; rfl, (Below.refl _ _).alloc (Nat.le_refl _) _⟩
        have HR := Lib.hid (show C.cellE z ⟨z, 0, []⟩ = 0 by simp [C.cellE, hz])
        have z1 : (z != 0) = true := by rw [bne_iff_ne]; exact hz
        have z2 : (z != z) = false := by rw [bne_eq_false_iff_eq]
        have z3 : (z != 1) = true := by rw [bne_iff_ne]; exact h1
        have z4 : (z != 2) = true := by rw [bne_iff_ne]; exact h2
        have e1 : (str []).toList.isEmpty = true := by rw [str_toList]; rfl
        have e2 : (str []).size = 0 := rfl
        have e3 : (str []).toList = [] := str_toList _
        go_enter Tryz.func58, Tryz.ntmps58
        go_wp2_with fail
        go_ret
        exact ⟨by rw [HR.out]; rfl, (Below.refl _ _).alloc (Nat.le_refl _) _⟩
      · by_cases h2 : z = 2
        · subst h2
          by_cases hl : 16 < x.length
          · skip
            have HR := Lib.hid (show C.cellE 2 ⟨2, 0, x⟩ = 2 by simp [C.cellE, hx, hl])
            have e1 : (str x).toList.isEmpty = false := by rw [str_toList]; cases x with | nil => exact absurd rfl hx | cons a t => rfl
            have e2 : 0 < (str x).size := by rw [str_size]; exact List.length_pos_iff.2 hx
            have e3 : decide ((0 : Int) < ((str x).size : Int)) = true := decide_eq_true (by omega)
            have e4 : ¬ (str x).toList = [] := by rw [str_toList]; exact hx
            have l1 : 16 < (str x).size := by rw [str_size]; exact hl
            have l2 : decide ((16 : Int) < ((str x).size : Int)) = true := decide_eq_true (by omega)
            generalize str x = X at *
            clear hx hl
            go_enter Tryz.func58, Tryz.ntmps58
            go_wp2_with fail
            go_ret
            exact ⟨by rw [HR.out]; rfl, (Below.refl _ _).alloc (Nat.le_refl _) _⟩
          · skip
            have HR := Lib.hid (show C.cellE 2 ⟨2, 0, x⟩ = 0 by simp [C.cellE, hx, hl])
            have e1 : (str x).toList.isEmpty = false := by rw [str_toList]; cases x with | nil => exact absurd rfl hx | cons a t => rfl
            have e2 : 0 < (str x).size := by rw [str_size]; exact List.length_pos_iff.2 hx
            have e3 : decide ((0 : Int) < ((str x).size : Int)) = true := decide_eq_true (by omega)
            have e4 : ¬ (str x).toList = [] := by rw [str_toList]; exact hx
            have l1 : ¬ 16 < (str x).size := by rw [str_size]; exact hl
            have l2 : decide ((16 : Int) < ((str x).size : Int)) = false := decide_eq_false (by omega)
            generalize str x = X at *
            clear hx hl
            go_enter Tryz.func58, Tryz.ntmps58
            go_wp2_with fail
            go_ret
            exact ⟨by rw [HR.out]; rfl, (Below.refl _ _).alloc (Nat.le_refl _) _⟩
        · by_cases h1 : z = 1
          · subst h1
            have HR := Lib.hid (show C.cellE 1 ⟨1, 0, x⟩ = 1 by simp [C.cellE, hx])
            have e1 : (str x).toList.isEmpty = false := by rw [str_toList]; cases x with | nil => exact absurd rfl hx | cons a t => rfl
            have e2 : 0 < (str x).size := by rw [str_size]; exact List.length_pos_iff.2 hx
            have e3 : decide ((0 : Int) < ((str x).size : Int)) = true := decide_eq_true (by omega)
            have e4 : ¬ (str x).toList = [] := by rw [str_toList]; exact hx
            generalize str x = X at *
            clear hx
            go_enter Tryz.func58, Tryz.ntmps58
            go_wp2_with fail
            go_ret
            exact ⟨by rw [HR.out]; rfl, (Below.refl _ _).alloc (Nat.le_refl _) _⟩
          have HR := Lib.hid (show C.cellE z ⟨z, 0, x⟩ = 1 by simp [C.cellE, hx, hz, h2])
          have z1 : (z != 0) = true := by rw [bne_iff_ne]; exact hz
          have z2 : (z != z) = false := by rw [bne_eq_false_iff_eq]
          have z3 : (z != 1) = true := by rw [bne_iff_ne]; exact h1
          have z4 : (z != 2) = true := by rw [bne_iff_ne]; exact h2
          have e1 : (str x).toList.isEmpty = false := by rw [str_toList]; cases x with | nil => exact absurd rfl hx | cons a t => rfl
          have e2 : 0 < (str x).size := by rw [str_size]; exact List.length_pos_iff.2 hx
          have e3 : decide ((0 : Int) < ((str x).size : Int)) = true := decide_eq_true (by omega)
          have e4 : ¬ (str x).toList = [] := by rw [str_toList]; exact hx
          generalize str x = X at *
          clear hx
          go_enter Tryz.func58, Tryz.ntmps58
          go_wp2_with fail
          go_ret
          exact ⟨by rw [HR.out]; rfl, (Below.refl _ _).alloc (Nat.le_refl _) _⟩
    · by_cases h1 : z = 1
      · subst h1
        by_cases hx : x = []
        · subst hx
          have HR := Lib.hid (show C.cellE 1 ⟨1, n, []⟩ = 0 by simp [C.cellE, hn])
          have f1 : ((n : Int) != 0) = true := by rw [bne_iff_ne]; omega
          have f2 : ¬ (n : Int) = 0 := by omega
          have e1 : (str []).toList.isEmpty = true := by rw [str_toList]; rfl
          have e2 : (str []).size = 0 := rfl
          have e3 : (str []).toList = [] := str_toList _
          go_enter Tryz.func58, Tryz.ntmps58
          go_wp2_with fail
          go_ret
          exact ⟨by rw [HR.out]; rfl, (Below.refl _ _).alloc (Nat.le_refl _) _⟩
        · skip
          have HR := Lib.hid (show C.cellE 1 ⟨1, n, x⟩ = 1 by simp [C.cellE, hn, hx])
          have f1 : ((n : Int) != 0) = true := by rw [bne_iff_ne]; omega
          have f2 : ¬ (n : Int) = 0 := by omega
          have e1 : (str x).toList.isEmpty = false := by rw [str_toList]; cases x with | nil => exact absurd rfl hx | cons a t => rfl
          have e2 : 0 < (str x).size := by rw [str_size]; exact List.length_pos_iff.2 hx
          have e3 : decide ((0 : Int) < ((str x).size : Int)) = true := decide_eq_true (by omega)
          have e4 : ¬ (str x).toList = [] := by rw [str_toList]; exact hx
          generalize str x = X at *
          clear hx
          go_enter Tryz.func58, Tryz.ntmps58
          go_wp2_with fail
          go_ret
          exact ⟨by rw [HR.out]; rfl, (Below.refl _ _).alloc (Nat.le_refl _) _⟩
      · skip
        have HR := Lib.hid (show C.cellE z ⟨z, n, x⟩ = 1 by simp [C.cellE, hn, hz, h1])
        have f1 : ((n : Int) != 0) = true := by rw [bne_iff_ne]; omega
        have f2 : ¬ (n : Int) = 0 := by omega
        have z1 : (z != 0) = true := by rw [bne_iff_ne]; exact hz
        have z2 : (z != z) = false := by rw [bne_eq_false_iff_eq]
        have z3 : (z != 1) = true := by rw [bne_iff_ne]; exact h1
        generalize str x = X at *
        go_enter Tryz.func58, Tryz.ntmps58
        go_wp2_with fail
        go_ret
        exact ⟨by rw [HR.out]; rfl, (Below.refl _ _).alloc (Nat.le_refl _) _⟩
  have HR := Lib.hid (show C.cellE k ⟨z, n, x⟩ = 7 by simp [C.cellE, hz, hk])
  have z1 : (z != 0) = true := by rw [bne_iff_ne]; exact hz
  have z2 : (z != k) = true := by rw [bne_iff_ne]; exact hk
  generalize str x = X at *
  go_enter Tryz.func58, Tryz.ntmps58
  go_wp2_with fail
  go_ret
  exact ⟨by rw [HR.out]; rfl, (Below.refl _ _).alloc (Nat.le_refl _) _⟩
set_option maxHeartbeats 1000000 in
set_option maxRecDepth 100000 in
theorem rchk_any (k : Int) (c : C.Cl) (w : World) (hc : cOk c) (hk64 : -9223372036854775808 ≤ k ∧ k ≤ 9223372036854775807) :
    Calls Tryz.prog 53 #[.int .i64 k, cag c] w (CErrPost (C.cellE k c) w) := by
  obtain ⟨z, n, x⟩ := c
  unfold cOk at hc
  simp only at hc
  unfold cag
  simp only
  by_cases hz : z = 0
  · subst hz
    by_cases hn : n = 0
    · subst hn
      by_cases hx : x = []
      · subst hx
        have HR := Lib.hid (show C.cellE k ⟨0, 0, []⟩ = 0 by simp [C.cellE])
        have e1 : (str []).toList.isEmpty = true := by rw [str_toList]; rfl
        have e2 : (str []).size = 0 := rfl
        have e3 : (str []).toList = [] := str_toList _
        go_enter Tryz.func53, Tryz.ntmps53
        go_wp2_with fail
        go_ret
        exact ⟨by rw [HR.out]; rfl, (Below.refl _ _).alloc (Nat.le_refl _) _⟩
      · skip
        have HR := Lib.hid (show C.cellE k ⟨0, 0, x⟩ = 1 by simp [C.cellE, hx])
        have e1 : (str x).toList.isEmpty = false := by rw [str_toList]; cases x with | nil => exact absurd rfl hx | cons a t => rfl
        have e2 : 0 < (str x).size := by rw [str_size]; exact List.length_pos_iff.2 hx
        have e3 : decide ((0 : Int) < ((str x).size : Int)) = true := decide_eq_true (by omega)
        have e4 : ¬ (str x).toList = [] := by rw [str_toList]; exact hx
        generalize str x = X at *
        clear hx
        go_enter Tryz.func53, Tryz.ntmps53
        go_wp2_with fail
        go_ret
        exact ⟨by rw [HR.out]; rfl, (Below.refl _ _).alloc (Nat.le_refl _) _⟩
    · skip
      have HR := Lib.hid (show C.cellE k ⟨0, n, x⟩ = 1 by simp [C.cellE, hn])
      have f1 : ((n : Int) != 0) = true := by rw [bne_iff_ne]; omega
      have f2 : ¬ (n : Int) = 0 := by omega
      generalize str x = X at *
      go_enter Tryz.func53, Tryz.ntmps53
      go_wp2_with fail
      go_ret
      exact ⟨by rw [HR.out]; rfl, (Below.refl _ _).alloc (Nat.le_refl _) _⟩
  by_cases hk : z = k
  · subst hk
    by_cases hn : n = 0
    · subst hn
      by_cases hx : x = []
      · subst hx
        by_cases h1 : z = 1
        · subst h1
          have HR := Lib.hid (show C.cellE 1 ⟨1, 0, []⟩ = 0 by simp [C.cellE])
          have e1 : (str []).toList.isEmpty = true := by rw [str_toList]; rfl
          have e2 : (str []).size = 0 := rfl
          have e3 : (str []).toList = [] := str_toList _
          go_enter Tryz.func53, Tryz.ntmps53
          go_wp2_with fail
          go_ret
          exact ⟨by rw [HR.out]; rfl, (Below.refl _ _).alloc (Nat.le_refl _) _⟩
        by_cases h2 : z = 2
        · subst h2
          have HR := Lib.hid (show C.cellE 2 ⟨2, 0, []⟩ = 0 by simp [C.cellE])
          have e1 : (str []).toList.isEmpty = true := by rw [str_toList]; rfl
          have e2 : (str []).size = 0 := rfl
          have e3 : (str []).toList = [] := str_toList _
          go_enter Tryz.func53, Tryz.ntmps53
          go_wp2_with fail
          go_ret
          exact ⟨by rw [HR.out]; rfl, (Below.refl _ _).alloc (Nat.le_refl _) _⟩
        have HR := Lib.hid (show C.cellE z ⟨z, 0, []⟩ = 0 by simp [C.cellE, hz])
        have z1 : (z != 0) = true := by rw [bne_iff_ne]; exact hz
        have z2 : (z != z) = false := by rw [bne_eq_false_iff_eq]
        have z3 : (z != 1) = true := by rw [bne_iff_ne]; exact h1
        have z4 : (z != 2) = true := by rw [bne_iff_ne]; exact h2
        have e1 : (str []).toList.isEmpty = true := by rw [str_toList]; rfl
        have e2 : (str []).size = 0 := rfl
        have e3 : (str []).toList = [] := str_toList _
        go_enter Tryz.func53, Tryz.ntmps53
        go_wp2_with fail
        go_ret
        exact ⟨by rw [HR.out]; rfl, (Below.refl _ _).alloc (Nat.le_refl _) _⟩
      · by_cases h2 : z = 2
        · subst h2
          by_cases hl : 16 < x.length
          · skip
            have HR := Lib.hid (show C.cellE 2 ⟨2, 0, x⟩ = 2 by simp [C.cellE, hx, hl])
            have e1 : (str x).toList.isEmpty = false := by rw [str_toList]; cases x with | nil => exact absurd rfl hx | cons a t => rfl
            have e2 : 0 < (str x).size := by rw [str_size]; exact List.length_pos_iff.2 hx
            have e3 : decide ((0 : Int) < ((str x).size : Int)) = true := decide_eq_true (by omega)
            have e4 : ¬ (str x).toList = [] := by rw [str_toList]; exact hx
            have l1 : 16 < (str x).size := by rw [str_size]; exact hl
            have l2 : decide ((16 : Int) < ((str x).size : Int)) = true := decide_eq_true (by omega)
            generalize str x = X at *
            clear hx hl
            go_enter Tryz.func53, Tryz.ntmps53
            go_wp2_with fail
            go_ret
            exact ⟨by rw [HR.out]; rfl, (Below.refl _ _).alloc (Nat.le_refl _) _⟩
          · skip
            have HR := Lib.hid (show C.cellE 2 ⟨2, 0, x⟩ = 0 by simp [C.cellE, hx, hl])
            have e1 : (str x).toList.isEmpty = false := by rw [str_toList]; cases x with | nil => exact absurd rfl hx | cons a t => rfl
            have e2 : 0 < (str x).size := by rw [str_size]; exact List.length_pos_iff.2 hx
            have e3 : decide ((0 : Int) < ((str x).size : Int)) = true := decide_eq_true (by omega)
            have e4 : ¬ (str x).toList = [] := by rw [str_toList]; exact hx
            have l1 : ¬ 16 < (str x).size := by rw [str_size]; exact hl
            have l2 : decide ((16 : Int) < ((str x).size : Int)) = false := decide_eq_false (by omega)
            generalize str x = X at *
            clear hx hl
            go_enter Tryz.func53, Tryz.ntmps53
            go_wp2_with fail
            go_ret
            exact ⟨by rw [HR.out]; rfl, (Below.refl _ _).alloc (Nat.le_refl _) _⟩
        · by_cases h1 : z = 1
          · subst h1
            have HR := Lib.hid (show C.cellE 1 ⟨1, 0, x⟩ = 1 by simp [C.cellE, hx])
            have e1 : (str x).toList.isEmpty = false := by rw [str_toList]; cases x with | nil => exact absurd rfl hx | cons a t => rfl
            have e2 : 0 < (str x).size := by rw [str_size]; exact List.length_pos_iff.2 hx
            have e3 : decide ((0 : Int) < ((str x).size : Int)) = true := decide_eq_true (by omega)
            have e4 : ¬ (str x).toList = [] := by rw [str_toList]; exact hx
            generalize str x = X at *
            clear hx
            go_enter Tryz.func53, Tryz.ntmps53
            go_wp2_with fail
            go_ret
            exact ⟨by rw [HR.out]; rfl, (Below.refl _ _).alloc (Nat.le_refl _) _⟩
          have HR := Lib.hid (show C.cellE z ⟨z, 0, x⟩ = 1 by simp [C.cellE, hx, hz, h2])
          have z1 : (z != 0) = true := by rw [bne_iff_ne]; exact hz
          have z2 : (z != z) = false := by rw [bne_eq_false_iff_eq]
          have z3 : (z != 1) = true := by rw [bne_iff_ne]; exact h1
          have z4 : (z != 2) = true := by rw [bne_iff_ne]; exact h2
          have e1 : (str x).toList.isEmpty = false := by rw [str_toList]; cases x with | nil => exact absurd rfl hx | cons a t => rfl
          have e2 : 0 < (str x).size := by rw [str_size]; exact List.length_pos_iff.2 hx
          have e3 : decide ((0 : Int) < ((str x).size : Int)) = true := decide_eq_true (by omega)
          have e4 : ¬ (str x).toList = [] := by rw [str_toList]; exact hx
          generalize str x = X at *
          clear hx
          go_enter Tryz.func53, Tryz.ntmps53
          go_wp2_with fail
          go_ret
          exact ⟨by rw [HR.out]; rfl, (Below.refl _ _).alloc (Nat.le_refl _) _⟩
    · by_cases h1 : z = 1
      · subst h1
        by_cases hx : x = []
        · subst hx
          have HR := Lib.hid (show C.cellE 1 ⟨1, n, []⟩ = 0 by simp [C.cellE, hn])
          have f1 : ((n : Int) != 0) = true := by rw [bne_iff_ne]; omega
          have f2 : ¬ (n : Int) = 0 := by omega
          have e1 : (str []).toList.isEmpty = true := by rw [str_toList]; rfl
          have e2 : (str []).size = 0 := rfl
          have e3 : (str []).toList = [] := str_toList _
          go_enter Tryz.func53, Tryz.ntmps53
          go_wp2_with fail
          go_ret
          exact ⟨by rw [HR.out]; rfl, (Below.refl _ _).alloc (Nat.le_refl _) _⟩
        · skip
          have HR := Lib.hid (show C.cellE 1 ⟨1, n, x⟩ = 1 by simp [C.cellE, hn, hx])
          have f1 : ((n : Int) != 0) = true := by rw [bne_iff_ne]; omega
          have f2 : ¬ (n : Int) = 0 := by omega
          have e1 : (str x).toList.isEmpty = false := by rw [str_toList]; cases x with | nil => exact absurd rfl hx | cons a t => rfl
          have e2 : 0 < (str x).size := by rw [str_size]; exact List.length_pos_iff.2 hx
          have e3 : decide ((0 : Int) < ((str x).size : Int)) = true := decide_eq_true (by omega)
          have e4 : ¬ (str x).toList = [] := by rw [str_toList]; exact hx
          generalize str x = X at *
          clear hx
          go_enter Tryz.func53, Tryz.ntmps53
          go_wp2_with fail
          go_ret
          exact ⟨by rw [HR.out]; rfl, (Below.refl _ _).alloc (Nat.le_refl _) _⟩
      · skip
        have HR := Lib.hid (show C.cellE z ⟨z, n, x⟩ = 1 by simp [C.cellE, hn, hz, h1])
        have f1 : ((n : Int) != 0) = true := by rw [bne_iff_ne]; omega
        have f2 : ¬ (n : Int) = 0 := by omega
        have z1 : (z != 0) = true := by rw [bne_iff_ne]; exact hz
        have z2 : (z != z) = false := by rw [bne_eq_false_iff_eq]
        have z3 : (z != 1) = true := by rw [bne_iff_ne]; exact h1
        generalize str x = X at *
        go_enter Tryz.func53, Tryz.ntmps53
        go_wp2_with fail
        go_ret
        exact ⟨by rw [HR.out]; rfl, (Below.refl _ _).alloc (Nat.le_refl _) _⟩
  have HR := Lib.hid (show C.cellE k ⟨z, n, x⟩ = 7 by simp [C.cellE, hz, hk])
  have z1 : (z != 0) = true := by rw [bne_iff_ne]; exact hz
  have z2 : (z != k) = true := by rw [bne_iff_ne]; exact hk
  generalize str x = X at *
  go_enter Tryz.func53, Tryz.ntmps53
  go_wp2_with fail
  go_ret
  exact ⟨by rw [HR.out]; rfl, (Below.refl _ _).alloc (Nat.le_refl _) _⟩
end Go.Proofs.YtcachhnhncodoaaGreat
namespace Go.Proofs.YtcachhnhncodoaaGreat
open Go.RowKit
set_option linter.unusedVariables false
def listE (e : C.Cl → Nat) : List C.Cl → Nat
  | [] => 0
  | c :: t => if e c ≠ 0 then e c else listE e t
theorem listE_step (e : C.Cl → Nat) (l : List C.Cl) (j : Nat) (h : j < l.length) : listE e (l.drop j) = if e (l.getD j C.null) ≠ 0 then e (l.getD j C.null) else listE e (l.drop (j + 1)) := by
  rw [List.drop_eq_getElem_cons h, listE]
  simp [List.getD, List.getElem?_eq_getElem h]
theorem chkL_listE (k : Int) : ∀ l : List C.Cl, C.chkL k l = listE (C.cellE k) l := by
  intro l
  induction l with
  | nil => rfl
  | cons c t ih => rw [C.chkL, listE, ih]
set_option maxHeartbeats 1000000 in
set_option maxRecDepth 100000 in
theorem first_chk (w : World) (Cb : Nat) (k : Int) (hB : Boxed w Cb 3 (.int .i64 k)) (a : Option Addr) (c : Nat) (l : List C.Cl) (hl : l.length ≤ 64) (hx : ∀ x ∈ l, cOk x) (hu : Cls w w.heap.size a l) :
    Calls Tryz.prog 57 #[.slice a l.length c, .func (.func 58) #[] #[.pointer (some ⟨Cb, 0, none⟩)]] w (CErrPost (listE (C.cellE k) l) w) := by
  have HU := Lib.hid hu
  have HST := Lib.hid (fun j h => listE_step (C.cellE k) l j h)
  have HC := Lib.hid (fun x W (hx : cOk x) (hb : Below w.heap.size w W) => cchk_any Cb k x W hx ((hb.block Cb hB.lt).trans hB))
  have HOK := Lib.hid (fun j (h : j < l.length) => hx _ (cgetD_mem l j h))
  have HR0 := Lib.hid (show listE (C.cellE k) l = listE (C.cellE k) (l.drop 0) from rfl)
  generalize (C.cellE k) = p at *
  obtain ⟨R, hR⟩ : ∃ R, R = listE p l := ⟨_, rfl⟩
  rw [← hR] at HR0 ⊢
  clear hu hx hR hB
  go_enter Tryz.func57, Tryz.ntmps57
  go_wp2_with fail
  go_loopw [6, 7, 10] (fun _ _ i wr => ∃ j : Nat, j ≤ l.length ∧ i = .int .i64 j ∧ Below w.heap.size w wr ∧ Hid (R = listE p (l.drop j))) (fun _ _ i _ => l.length - (intOf i).toNat)
  case atStart => exact ⟨0, by omega, rfl, Below.refl _ _, HR0⟩
  case round =>
    obtain ⟨j, hj, rfl, hbw, HJ⟩ := hrel
    by_cases hlt : j < l.length
    · obtain ⟨b, off, rfl, hb, hcc⟩ := HU.out (fun e => by rw [e] at hlt; simp at hlt)
      obtain ⟨k0, k1, k2⟩ := hcc j hlt
      have c0 := (hbw.cell (p := ⟨b, off + j * 3, none⟩) hb).trans k0
      have c1 := (hbw.cell (p := ⟨b, off + j * 3 + 1, none⟩) hb).trans k1
      have c2 := (hbw.cell (p := ⟨b, off + j * 3 + 2, none⟩) hb).trans k2
      have hst := HST.out j hlt
      have hok := HOK.out j hlt
      have hcall := HC.out (l.getD j C.null) (wr.alloc (.cells #[.int .i64 (l.getD j C.null).kind, .int .u64 ((l.getD j C.null).num : Int), .string (str (l.getD j C.null).txt)] 50)) hok (hbw.alloc hbw.size _)
      unfold cag at hcall
      generalize (l.getD j C.null).kind = z at *
      generalize (l.getD j C.null).num = n at *
      generalize str (l.getD j C.null).txt = X at *
      generalize p (l.getD j C.null) = er at *
      have HCX := Lib.hid hcall
      have hjI : (j : Int) < (l.length : Int) := by omega
      clear k0 k1 k2 hcc hcall hok
      by_cases ho : er ≠ 0
      · rw [if_pos ho] at hst
        have HRJ := Lib.hid (show R = er by rw [HJ.out, hst])
        have g1 : ((er : Int) != 0) = true := by rw [bne_iff_ne]; omega
        clear hst ho
        go_wp2_with fail
        refine (HCX.out).mono ?_
        rintro e w1 ⟨rfl, hb1⟩
        go_wp2_with fail
        go_ret
        exact ⟨by rw [HRJ.out]; rfl, below_then (hbw.alloc hbw.size _) hb1⟩
      · obtain rfl : er = 0 := by omega
        rw [if_neg (by simp)] at hst
        have HN := Lib.hid (show R = listE p (l.drop (j + 1)) by rw [HJ.out, hst])
        clear hst ho
        go_wp2_with fail
        refine (HCX.out).mono ?_
        rintro e w1 ⟨rfl, hb1⟩
        go_wp2_with fail
        exact ⟨⟨j + 1, by omega, by go_num, below_then (hbw.alloc hbw.size _) hb1, HN⟩, by simp [intOf]; omega⟩
    · obtain rfl : j = l.length := by omega
      have HRE := Lib.hid (show R = 0 by rw [HJ.out, List.drop_length]; rfl)
      go_wp2_with fail
      go_ret
      exact ⟨by rw [HRE.out]; rfl, hbw⟩
theorem chk_kind {k : Int} {l : List C.Cl} (h : k ≠ 1 ∧ k ≠ 2) : C.chk k l = 7 := by unfold C.chk; rw [if_pos h]
theorem chk_many {k : Int} {l : List C.Cl} (h : ¬ (k ≠ 1 ∧ k ≠ 2)) (h2 : 64 < l.length) : C.chk k l = 2 := by unfold C.chk; rw [if_neg h, if_pos h2]
theorem chk_list {k : Int} {l : List C.Cl} (h : ¬ (k ≠ 1 ∧ k ≠ 2)) (h2 : ¬ 64 < l.length) : C.chk k l = listE (C.cellE k) l := by unfold C.chk; rw [if_neg h, if_neg h2, chkL_listE]
theorem boxed_new (w : World) (v : Value) (t : TypeId) : Boxed (w.alloc (.cells #[v] t)) w.heap.size t v := heap_alloc_new _ _
set_option maxHeartbeats 1000000 in
set_option maxRecDepth 100000 in
theorem ncheck_any (k : Int) (a : Option Addr) (c : Nat) (l : List C.Cl) (w : World) (hm : l.length ≤ maxLen) (hx : ∀ x ∈ l, cOk x) (hu : Cls w w.heap.size a l) :
    Calls Tryz.prog 28 #[.int .i64 k, .slice a l.length c] w (CErrPost (C.chk k l) w) := by
  unfold maxLen at hm
  have hal : Below w.heap.size w (w.alloc (.cells #[.int .i64 k] 3)) := (Below.refl _ _).alloc (Nat.le_refl _) _
  by_cases hk : k ≠ 1 ∧ k ≠ 2
  · have HR := Lib.hid (chk_kind (l := l) hk)
    have g1 : (k != 1) = true := by rw [bne_iff_ne]; exact hk.1
    have g2 : (k != 2) = true := by rw [bne_iff_ne]; exact hk.2
    clear hu hx
    go_enter Tryz.func28, Tryz.ntmps28
    go_wp2_with fail
    go_ret
    exact ⟨by rw [HR.out]; rfl, hal⟩
  by_cases hl : 64 < l.length
  · have HR := Lib.hid (chk_many hk hl)
    have g3 : decide ((64 : Int) < (l.length : Int)) = true := decide_eq_true (by omega)
    clear hu hx
    have hk2 : k = 1 ∨ k = 2 := by omega
    rcases hk2 with rfl | rfl
    · go_enter Tryz.func28, Tryz.ntmps28
      go_wp2_with fail
      go_ret
      exact ⟨by rw [HR.out]; rfl, hal⟩
    · go_enter Tryz.func28, Tryz.ntmps28
      go_wp2_with fail
      go_ret
      exact ⟨by rw [HR.out]; rfl, hal⟩
  · have HR := Lib.hid (chk_list hk hl)
    have HF := Lib.hid (first_chk (w.alloc (.cells #[.int .i64 k] 3)) w.heap.size k (boxed_new _ _ _) a c l (by omega) hx (hu.next hal))
    have g3 : decide ((64 : Int) < (l.length : Int)) = false := decide_eq_false (by omega)
    clear hu hx
    have hk2 : k = 1 ∨ k = 2 := by omega
    rcases hk2 with rfl | rfl
    · go_enter Tryz.func28, Tryz.ntmps28
      go_wp2_with fail
      refine (HF.out).mono ?_
      rintro e w1 ⟨rfl, hb1⟩
      go_wp2_with fail
      go_ret
      exact ⟨by rw [HR.out]; rfl, below_then hal hb1⟩
    · go_enter Tryz.func28, Tryz.ntmps28
      go_wp2_with fail
      refine (HF.out).mono ?_
      rintro e w1 ⟨rfl, hb1⟩
      go_wp2_with fail
      go_ret
      exact ⟨by rw [HR.out]; rfl, below_then hal hb1⟩
set_option maxHeartbeats 1000000 in
set_option maxRecDepth 100000 in
theorem crcheck_any (k : Int) (a : Option Addr) (c : Nat) (l : List C.Cl) (w : World) (hk64 : -9223372036854775808 ≤ k ∧ k ≤ 9223372036854775807) (hm : l.length ≤ maxLen) (hx : ∀ x ∈ l, cOk x) (hu : Cls w w.heap.size a l) :
    Calls Tryz.prog 23 #[.int .i64 k, .slice a l.length c] w (CErrPost (C.chk k l) w) := by
  unfold maxLen at hm
  by_cases hk : k ≠ 1 ∧ k ≠ 2
  · have HR := Lib.hid (chk_kind (l := l) hk)
    have g1 : (k != 1) = true := by rw [bne_iff_ne]; exact hk.1
    have g2 : (k != 2) = true := by rw [bne_iff_ne]; exact hk.2
    clear hu hx
    go_enter Tryz.func23, Tryz.ntmps23
    go_wp2_with fail
    go_ret
    exact ⟨by rw [HR.out]; rfl, Below.refl _ _⟩
  by_cases hl : 64 < l.length
  · have HR := Lib.hid (chk_many hk hl)
    have g3 : decide ((64 : Int) < (l.length : Int)) = true := decide_eq_true (by omega)
    clear hu hx
    have hk2 : k = 1 ∨ k = 2 := by omega
    rcases hk2 with rfl | rfl
    · go_enter Tryz.func23, Tryz.ntmps23
      go_wp2_with fail
      go_ret
      exact ⟨by rw [HR.out]; rfl, Below.refl _ _⟩
    · go_enter Tryz.func23, Tryz.ntmps23
      go_wp2_with fail
      go_ret
      exact ⟨by rw [HR.out]; rfl, Below.refl _ _⟩
  have HU := Lib.hid hu
  have HST := Lib.hid (fun j h => listE_step (C.cellE k) l j h)
  have HC := Lib.hid (fun x W (hx : cOk x) => rchk_any k x W hx hk64)
  have HOK := Lib.hid (fun j (h : j < l.length) => hx _ (cgetD_mem l j h))
  have HR0 := Lib.hid (show listE (C.cellE k) l = listE (C.cellE k) (l.drop 0) from rfl)
  rw [chk_list hk hl]
  generalize (C.cellE k) = p at *
  obtain ⟨R, hR⟩ : ∃ R, R = listE p l := ⟨_, rfl⟩
  rw [← hR] at HR0 ⊢
  have g3 : decide ((64 : Int) < (l.length : Int)) = false := decide_eq_false (by omega)
  have hg : ((k != 1) && (k != 2)) = false := by
    have hk2 : k = 1 ∨ k = 2 := by omega
    rcases hk2 with rfl | rfl <;> rfl
  clear hu hx hR
  have hk2 : k = 1 ∨ k = 2 := by omega
  rcases hk2 with rfl | rfl
  · go_enter Tryz.func23, Tryz.ntmps23
    go_wp2_with fail
    go_loopw [5, 6] (fun i _ wr => ∃ j : Nat, j ≤ l.length ∧ i = .int .i64 j ∧ Below w.heap.size w wr ∧ Hid (R = listE p (l.drop j))) (fun i _ _ => l.length - (intOf i).toNat)
    case atStart => exact ⟨0, by omega, rfl, Below.refl _ _, HR0⟩
    case round =>
      obtain ⟨j, hj, rfl, hbw, HJ⟩ := hrel
      by_cases hlt : j < l.length
      · obtain ⟨b, off, rfl, hb, hcc⟩ := HU.out (fun e => by rw [e] at hlt; simp at hlt)
        obtain ⟨k0, k1, k2⟩ := hcc j hlt
        have c0 := (hbw.cell (p := ⟨b, off + j * 3, none⟩) hb).trans k0
        have c1 := (hbw.cell (p := ⟨b, off + j * 3 + 1, none⟩) hb).trans k1
        have c2 := (hbw.cell (p := ⟨b, off + j * 3 + 2, none⟩) hb).trans k2
        have hst := HST.out j hlt
        have hok := HOK.out j hlt
        have hcall := HC.out (l.getD j C.null) wr hok
        unfold cag at hcall
        generalize (l.getD j C.null).kind = z at *
        generalize (l.getD j C.null).num = n at *
        generalize str (l.getD j C.null).txt = X at *
        generalize p (l.getD j C.null) = er at *
        have HCX := Lib.hid hcall
        have hjI : (j : Int) < (l.length : Int) := by omega
        clear k0 k1 k2 hcc hcall hok
        by_cases ho : er ≠ 0
        · rw [if_pos ho] at hst
          have HRJ := Lib.hid (show R = er by rw [HJ.out, hst])
          have g1 : ((er : Int) != 0) = true := by rw [bne_iff_ne]; omega
          clear hst ho
          go_wp2_with fail
          refine (HCX.out).mono ?_
          rintro e w1 ⟨rfl, hb1⟩
          go_wp2_with fail
          go_ret
          exact ⟨by rw [HRJ.out]; rfl, below_then hbw hb1⟩
        · obtain rfl : er = 0 := by omega
          rw [if_neg (by simp)] at hst
          have HN := Lib.hid (show R = listE p (l.drop (j + 1)) by rw [HJ.out, hst])
          clear hst ho
          go_wp2_with fail
          refine (HCX.out).mono ?_
          rintro e w1 ⟨rfl, hb1⟩
          go_wp2_with fail
          exact ⟨⟨j + 1, by omega, by go_num, below_then hbw hb1, HN⟩, by simp [intOf]; omega⟩
      · obtain rfl : j = l.length := by omega
        have HRE := Lib.hid (show R = 0 by rw [HJ.out, List.drop_length]; rfl)
        go_wp2_with fail
        go_ret
        exact ⟨by rw [HRE.out]; rfl, hbw⟩
  · go_enter Tryz.func23, Tryz.ntmps23
    go_wp2_with fail
    go_loopw [5, 6] (fun i _ wr => ∃ j : Nat, j ≤ l.length ∧ i = .int .i64 j ∧ Below w.heap.size w wr ∧ Hid (R = listE p (l.drop j))) (fun i _ _ => l.length - (intOf i).toNat)
    case atStart => exact ⟨0, by omega, rfl, Below.refl _ _, HR0⟩
    case round =>
      obtain ⟨j, hj, rfl, hbw, HJ⟩ := hrel
      by_cases hlt : j < l.length
      · obtain ⟨b, off, rfl, hb, hcc⟩ := HU.out (fun e => by rw [e] at hlt; simp at hlt)
        obtain ⟨k0, k1, k2⟩ := hcc j hlt
        have c0 := (hbw.cell (p := ⟨b, off + j * 3, none⟩) hb).trans k0
        have c1 := (hbw.cell (p := ⟨b, off + j * 3 + 1, none⟩) hb).trans k1
        have c2 := (hbw.cell (p := ⟨b, off + j * 3 + 2, none⟩) hb).trans k2
        have hst := HST.out j hlt
        have hok := HOK.out j hlt
        have hcall := HC.out (l.getD j C.null) wr hok
        unfold cag at hcall
        generalize (l.getD j C.null).kind = z at *
        generalize (l.getD j C.null).num = n at *
        generalize str (l.getD j C.null).txt = X at *
        generalize p (l.getD j C.null) = er at *
        have HCX := Lib.hid hcall
        have hjI : (j : Int) < (l.length : Int) := by omega
        clear k0 k1 k2 hcc hcall hok
        by_cases ho : er ≠ 0
        · rw [if_pos ho] at hst
          have HRJ := Lib.hid (show R = er by rw [HJ.out, hst])
          have g1 : ((er : Int) != 0) = true := by rw [bne_iff_ne]; omega
          clear hst ho
          go_wp2_with fail
          refine (HCX.out).mono ?_
          rintro e w1 ⟨rfl, hb1⟩
          go_wp2_with fail
          go_ret
          exact ⟨by rw [HRJ.out]; rfl, below_then hbw hb1⟩
        · obtain rfl : er = 0 := by omega
          rw [if_neg (by simp)] at hst
          have HN := Lib.hid (show R = listE p (l.drop (j + 1)) by rw [HJ.out, hst])
          clear hst ho
          go_wp2_with fail
          refine (HCX.out).mono ?_
          rintro e w1 ⟨rfl, hb1⟩
          go_wp2_with fail
          exact ⟨⟨j + 1, by omega, by go_num, below_then hbw hb1, HN⟩, by simp [intOf]; omega⟩
      · obtain rfl : j = l.length := by omega
        have HRE := Lib.hid (show R = 0 by rw [HJ.out, List.drop_length]; rfl)
        go_wp2_with fail
        go_ret
        exact ⟨by rw [HRE.out]; rfl, hbw⟩
end Go.Proofs.YtcachhnhncodoaaGreat
namespace Go.Proofs.YtcachhnhncodoaaGreat
open Go.RowKit
set_option linter.unusedVariables false
def nullE (c : C.Cl) : Nat := if c.kind = 0 then 7 else 0
set_option maxHeartbeats 400000 in
theorem cnull_any (c : C.Cl) (w : World) :
    Calls Tryz.prog 122 #[cag c] w (CErrPost (nullE c) w) := by
  obtain ⟨z, n, x⟩ := c
  unfold cag
  simp only
  generalize hX : str x = X
  by_cases hz : z = 0
  · subst hz
    go_enter Tryz.func122, Tryz.ntmps122
    go_wp2_with fail
    go_ret
    exact ⟨rfl, (Below.refl _ _).alloc (Nat.le_refl _) _⟩
  · have HR := Lib.hid (show nullE ⟨z, n, x⟩ = 0 from if_neg hz)
    generalize nullE ⟨z, n, x⟩ = R at *
    have z1 : (z == 0) = false := by rw [beq_eq_false_iff_ne]; exact hz
    go_enter Tryz.func122, Tryz.ntmps122
    go_wp2_with fail
    go_ret
    exact ⟨by rw [HR.out]; rfl, (Below.refl _ _).alloc (Nat.le_refl _) _⟩
theorem nullE_list : ∀ l : List C.Cl, listE nullE l = if (C.dense l).length < l.length then 7 else 0 := by
  intro l
  induction l with
  | nil => rfl
  | cons c t ih =>
    have hd : C.dense (c :: t) = if C.here c = true then c :: C.dense t else C.dense t := by
      unfold C.dense; rw [List.filter_cons]
    have hle : (C.dense t).length ≤ t.length := List.length_filter_le _ _
    rw [listE, hd, ih]
    by_cases hc : c.kind = 0
    · have h1 : nullE c = 7 := if_pos hc
      have h2 : C.here c = false := by simp [C.here, hc]
      rw [h1, if_pos (by decide), h2, if_neg Bool.false_ne_true, List.length_cons, if_pos (by omega)]
    · have h1 : nullE c = 0 := if_neg hc
      have h2 : C.here c = true := by simp [C.here, hc]
      rw [h1, if_neg (by simp), h2, if_pos rfl, List.length_cons, List.length_cons]
      by_cases h : (C.dense t).length < t.length
      · rw [if_pos h, if_pos (by omega)]
      · rw [if_neg h, if_neg (by omega)]
set_option maxHeartbeats 1000000 in
set_option maxRecDepth 100000 in
theorem first_null (w : World) (a : Option Addr) (c : Nat) (l : List C.Cl) (hl : l.length ≤ 64) (hx : ∀ x ∈ l, cOk x) (hu : Cls w w.heap.size a l) :
    Calls Tryz.prog 57 #[.slice a l.length c, .func (.func 122) #[] #[]] w (CErrPost (listE nullE l) w) := by
  have HU := Lib.hid hu
  have HST := Lib.hid (fun j h => listE_step (nullE) l j h)
  have HC := Lib.hid (fun x W (hx : cOk x) (hb : Below w.heap.size w W) => cnull_any x W)
  have HOK := Lib.hid (fun j (h : j < l.length) => hx _ (cgetD_mem l j h))
  have HR0 := Lib.hid (show listE (nullE) l = listE (nullE) (l.drop 0) from rfl)
  generalize (nullE) = p at *
  obtain ⟨R, hR⟩ : ∃ R, R = listE p l := ⟨_, rfl⟩
  rw [← hR] at HR0 ⊢
  clear hu hx hR
  go_enter Tryz.func57, Tryz.ntmps57
  go_wp2_with fail
  go_loopw [6, 7, 10] (fun _ _ i wr => ∃ j : Nat, j ≤ l.length ∧ i = .int .i64 j ∧ Below w.heap.size w wr ∧ Hid (R = listE p (l.drop j))) (fun _ _ i _ => l.length - (intOf i).toNat)
  case atStart => exact ⟨0, by omega, rfl, Below.refl _ _, HR0⟩
  case round =>
    obtain ⟨j, hj, rfl, hbw, HJ⟩ := hrel
    by_cases hlt : j < l.length
    · obtain ⟨b, off, rfl, hb, hcc⟩ := HU.out (fun e => by rw [e] at hlt; simp at hlt)
      obtain ⟨k0, k1, k2⟩ := hcc j hlt
      have c0 := (hbw.cell (p := ⟨b, off + j * 3, none⟩) hb).trans k0
      have c1 := (hbw.cell (p := ⟨b, off + j * 3 + 1, none⟩) hb).trans k1
      have c2 := (hbw.cell (p := ⟨b, off + j * 3 + 2, none⟩) hb).trans k2
      have hst := HST.out j hlt
      have hok := HOK.out j hlt
      have hcall := HC.out (l.getD j C.null) (wr.alloc (.cells #[.int .i64 (l.getD j C.null).kind, .int .u64 ((l.getD j C.null).num : Int), .string (str (l.getD j C.null).txt)] 50)) hok (hbw.alloc hbw.size _)
      unfold cag at hcall
      generalize (l.getD j C.null).kind = z at *
      generalize (l.getD j C.null).num = n at *
      generalize str (l.getD j C.null).txt = X at *
      generalize p (l.getD j C.null) = er at *
      have HCX := Lib.hid hcall
      have hjI : (j : Int) < (l.length : Int) := by omega
      clear k0 k1 k2 hcc hcall hok
      by_cases ho : er ≠ 0
      · rw [if_pos ho] at hst
        have HRJ := Lib.hid (show R = er by rw [HJ.out, hst])
        have g1 : ((er : Int) != 0) = true := by rw [bne_iff_ne]; omega
        clear hst ho
        go_wp2_with fail
        refine (HCX.out).mono ?_
        rintro e w1 ⟨rfl, hb1⟩
        go_wp2_with fail
        go_ret
        exact ⟨by rw [HRJ.out]; rfl, below_then (hbw.alloc hbw.size _) hb1⟩
      · obtain rfl : er = 0 := by omega
        rw [if_neg (by simp)] at hst
        have HN := Lib.hid (show R = listE p (l.drop (j + 1)) by rw [HJ.out, hst])
        clear hst ho
        go_wp2_with fail
        refine (HCX.out).mono ?_
        rintro e w1 ⟨rfl, hb1⟩
        go_wp2_with fail
        exact ⟨⟨j + 1, by omega, by go_num, below_then (hbw.alloc hbw.size _) hb1, HN⟩, by simp [intOf]; omega⟩
    · obtain rfl : j = l.length := by omega
      have HRE := Lib.hid (show R = 0 by rw [HJ.out, List.drop_length]; rfl)
      go_wp2_with fail
      go_ret
      exact ⟨by rw [HRE.out]; rfl, hbw⟩
end Go.Proofs.YtcachhnhncodoaaGreat
namespace Go.Proofs.YtcachhnhncodoaaGreat
open Go.RowKit
set_option linter.unusedVariables false
def Bools (w : World) (B : Nat) (a : Option Addr) (l : List Bool) : Prop :=
  l ≠ [] → ∃ b off, a = some ⟨b, off, none⟩ ∧ b < B ∧ ∀ i, i < l.length → w.cell? ⟨b, off + i, none⟩ = some (.bool (l.getD i false))
theorem Bools.below {w w' : World} {B : Nat} {a : Option Addr} {l : List Bool} (h : Bools w B a l) (hb : Below B w w') : Bools w' B a l := by
  intro hl
  obtain ⟨b, off, e, hlt, hc⟩ := h hl
  exact ⟨b, off, e, hlt, fun i hi => by rw [hb.cell (p := ⟨b, off + i, none⟩) hlt]; exact hc i hi⟩
theorem Bools.mono {w : World} {B B' : Nat} {a : Option Addr} {l : List Bool} (h : Bools w B a l) (hB : B ≤ B') : Bools w B' a l := by
  intro hl
  obtain ⟨b, off, e, hlt, hc⟩ := h hl
  exact ⟨b, off, e, by omega, hc⟩
theorem Bools.nil (w : World) (B : Nat) (a : Option Addr) : Bools w B a [] := fun h => absurd rfl h
theorem Bools.next {w w' : World} {a : Option Addr} {l : List Bool} (h : Bools w w.heap.size a l) (hb : Below w.heap.size w w') : Bools w' w'.heap.size a l := (h.below hb).mono hb.size
theorem Bools.take {w : World} {B : Nat} {a : Option Addr} {l : List Bool} (h : Bools w B a l) (k : Nat) : Bools w B a (l.take k) := by
  intro hl
  obtain ⟨b, off, e, hlt, hc⟩ := h (by intro e; rw [e] at hl; simp at hl)
  refine ⟨b, off, e, hlt, fun i hi => ?_⟩
  have hi' : i < l.length := by simp only [List.length_take] at hi; omega
  have hk : i < k := by simp only [List.length_take] at hi; omega
  rw [hc i hi']; simp [List.getD, List.getElem?_take_of_lt hk]
def mv (l : List Bool) : List Value := l.map Value.bool
theorem info_bool : (Tryz.prog.info? 4).map (fun i => (i.zero, i.size, i.bytes)) = some (some (.bool false), 1, 1) := by kernel_rfl
def MarkRow (B : Nat) (xs : List Bool) (v : Value) (wr : World) : Prop := wr.ownsRow B 4 1 v xs.length (mv xs)
def MBlk (w : World) (g : Nat) (l : List Bool) : Prop := w.heap[g]? = some (.cells (mv l).toArray 4 (0, 0))
theorem MBlk.cell {w : World} {g : Nat} {l : List Bool} (h : MBlk w g l) (i : Nat) (hi : i < l.length) : w.cell? ⟨g, i, none⟩ = some (.bool (l.getD i false)) := by
  unfold MBlk at h
  simp [World.cell?, h, mv, List.getElem?_eq_getElem hi]
theorem MBlk.free {w : World} {g : Nat} {l : List Bool} (h : MBlk w g l) (i : Nat) : w.frozen? ⟨g, i, none⟩ = false := by
  unfold MBlk at h
  simp [World.frozen?, h]
theorem MBlk.lt {w : World} {g : Nat} {l : List Bool} (h : MBlk w g l) : g < w.heap.size := lt_of_block h
theorem MBlk.put {w : World} {g : Nat} {l : List Bool} (h : MBlk w g l) (i : Nat) (x : Bool) : MBlk (w.setCell ⟨g, i, none⟩ (.bool x)) g (l.set i x) := by
  unfold MBlk at *
  simp [World.setCell, Array.getElem?_modify, h, mv, List.map_set]
theorem MBlk.below {w w' : World} {g : Nat} {l : List Bool} (h : MBlk w g l) (hb : Below w.heap.size w w') : MBlk w' g l := (hb.block g h.lt).trans h
theorem MBlk.bools {w : World} {g : Nat} {l : List Bool} (h : MBlk w g l) : Bools w w.heap.size (some ⟨g, 0, none⟩) l := by
  intro _
  exact ⟨g, 0, rfl, h.lt, fun i hi => by rw [Nat.zero_add]; exact h.cell i hi⟩
theorem made_mblk {w' : World} {g n B' : Nat} (h : w'.ownsRow B' 4 1 (.slice (some ⟨g, 0, none⟩) n n) n (madeCells (Value.bool false).cells (n * 1)).toList) : MBlk w' g (List.replicate n false) := by
  rcases h.2 with ⟨he, _⟩ | ⟨g', cap, cur, he, _, hh, _, _, hs, ht⟩
  · cases he
  · injection he with h1 h2 h3
    injection h1 with h1
    injection h1 with h1
    subst h1 h3
    unfold MBlk
    rw [hh]
    have e : cur = (mv (List.replicate n false)).toArray := by
      apply Array.toList_inj.mp
      rw [List.take_of_length_le (by rw [Array.length_toList, hs]; omega)] at ht
      rw [ht]
      apply List.ext_getElem
      · simp [madeCells, mv]
      · intro i h1 h2
        simp [madeCells, mv, Value.cells, Nat.mod_one]
    rw [e]
def MarkPost (r : List Bool × Nat) (w : World) (e : Ending) (w' : World) : Prop :=
  ∃ a c, e = .returned (.tuple #[.slice a r.1.length c, .int .i64 r.2]) ∧ Bools w' w'.heap.size a r.1 ∧ Below w.heap.size w w'
end Go.Proofs.YtcachhnhncodoaaGreat
namespace Go.Proofs.YtcachhnhncodoaaGreat
open Go.RowKit
set_option linter.unusedVariables false
def mks (l : List C.Cl) (j : Nat) : List Bool := (l.map C.here).take j ++ List.replicate (l.length - j) false
theorem mks_length (l : List C.Cl) (j : Nat) (h : j ≤ l.length) : (mks l j).length = l.length := by simp [mks]; omega
theorem mks_next (l : List C.Cl) (j : Nat) (h : j < l.length) : mks l (j + 1) = if (l.getD j C.null).kind = 0 then mks l j else (mks l j).set j true := by
  have h1 : l.length - j = (l.length - (j + 1)) + 1 := by omega
  have hs : (l.map C.here).take (j + 1) = (l.map C.here).take j ++ [C.here (l.getD j C.null)] := by
    rw [List.take_succ_eq_append_getElem (by simpa using h)]; simp [List.getD, List.getElem?_eq_getElem h]
  unfold mks
  rw [hs, h1, List.replicate_succ]
  by_cases hk : (l.getD j C.null).kind = 0
  · rw [if_pos hk, show C.here (l.getD j C.null) = false by unfold C.here; rw [hk]; rfl]; simp
  · rw [if_neg hk, show C.here (l.getD j C.null) = true by unfold C.here; exact decide_eq_true hk, List.set_append_right _ _ (by rw [List.length_take]; omega)]
    have h2 : j - ((l.map C.here).take j).length = 0 := by simp; omega
    rw [h2]; simp
theorem mks_all (l : List C.Cl) : mks l l.length = l.map C.here := by unfold mks; rw [Nat.sub_self, List.take_of_length_le (by simp)]; simp
def SplitPost (r : List Bool × List C.Cl × Nat) (w : World) (e : Ending) (w' : World) : Prop :=
  ∃ am cm v, e = .returned (.tuple #[.slice am r.1.length cm, v, .int .i64 (r.2.2 : Nat)]) ∧ Bools w' w'.heap.size am r.1 ∧ (r.1.length ≤ cm ∧ cm ≤ maxLen ∧ (am = none → cm = 0)) ∧ CRow w.heap.size r.2.1 v w' ∧ Below w.heap.size w w'
def splitR (k : Int) (l : List C.Cl) : List Bool × List C.Cl × Nat := if C.chk k l ≠ 0 then ([], [], C.chk k l) else (l.map C.here, C.dense l, 0)
set_option maxHeartbeats 2000000 in
set_option maxRecDepth 100000 in
theorem nsplit_any (k : Int) (a : Option Addr) (c : Nat) (l : List C.Cl) (w : World) (hm : l.length ≤ maxLen) (hx : ∀ x ∈ l, cOk x) (hu : Cls w w.heap.size a l) :
    Calls Tryz.prog 18 #[.int .i64 k, .slice a l.length c] w (SplitPost (splitR k l) w) := by
  have HC := Lib.hid (ncheck_any k a c l w hm hx hu)
  by_cases h1 : C.chk k l ≠ 0
  · have HR := Lib.hid (show splitR k l = ([], [], C.chk k l) from if_pos h1)
    generalize C.chk k l = er at *
    have g1 : ((er : Int) != 0) = true := by rw [bne_iff_ne]; omega
    clear hu hx h1
    go_enter Tryz.func18, Tryz.ntmps18
    go_wp2_with fail
    refine (HC.out).mono ?_
    rintro e w1 ⟨rfl, hb1⟩
    go_wp2_with fail
    go_ret3
    refine ⟨none, 0, .slice none 0 0, by rw [HR.out]; rfl, by rw [HR.out]; exact Bools.nil _ _ _, by rw [HR.out]; exact ⟨Nat.le_refl _, by unfold maxLen; omega, fun _ => rfl⟩, by rw [HR.out]; exact cnilRow _ _, hb1⟩
  have h1' : C.chk k l = 0 := Classical.not_not.1 h1
  obtain ⟨_, hl64, _⟩ := C.chk_ok h1'
  have HR := Lib.hid (show splitR k l = (l.map C.here, C.dense l, 0) from if_neg h1)
  rw [h1'] at HC
  have HU := Lib.hid hu
  have HD := Lib.hid (fun j h => dense_snoc l j h)
  have HDL := Lib.hid (fun j => dense_le l j)
  have HMN := Lib.hid (fun j h => mks_next l j h)
  have HML := Lib.hid (fun j h => mks_length l j h)
  obtain ⟨i0, hi, hz0, hz1, hz2⟩ := info_parts info_bool
  clear hu hx h1 h1' hm
  generalize splitR k l = R at *
  go_enter Tryz.func18, Tryz.ntmps18
  go_wp2_with fail
  refine (HC.out).mono ?_
  rintro e w1 ⟨rfl, hb1⟩
  go_wp2_with (at_make; refine wpList_make_full _ rfl (.tmp 19) (.tmp 19) 39 rfl w1.heap.size 4 i0 (.bool false) 1 Tryz.underlying39 hi hz0 hz1 .i64 .i64 _ _ l.length rfl rfl rfl rfl (by rw [hz2]; omega) (by unfold maxLen; omega) (Nat.le_refl _) ?_; intro w2 hown hgrow; have hb2 : Below w1.heap.size w1 w2 := (Below.refl _ _).grown hgrow (Nat.le_refl _) (fun k hk => by cases hk); have hblk := made_mblk hown; clear hown hgrow)
  have hgo := hblk.lt
  have hw2 := below_then hb1 hb2
  have hs1 := hb1.size
  obtain ⟨go, hgoe⟩ : ∃ go, go = w1.heap.size := ⟨_, rfl⟩
  rw [← hgoe] at hblk hgo hs1 ⊢
  obtain ⟨B, hBe⟩ : ∃ B, B = w2.heap.size := ⟨_, rfl⟩
  rw [← hBe] at hgo
  have hBs : B ≤ w2.heap.size := by omega
  have hBw : w.heap.size ≤ B := by omega
  clear hb1 hb2 hgoe hBe
  go_loopw [9, 10, 11, 23] (fun v _ _ i wr => ∃ j : Nat, j ≤ l.length ∧ i = .int .i64 j ∧ CRow B (C.dense (l.take j)) v wr ∧ MBlk wr go (mks l j) ∧ B ≤ wr.heap.size ∧ Below w.heap.size w wr) (fun _ _ _ i _ => l.length - (intOf i).toNat)
  case atStart => exact ⟨0, by omega, rfl, cnilRow _ _, hblk, hBs, hw2⟩
  case round =>
    clear hw2 hBs hblk
    obtain ⟨j, hj, rfl, hrow, hbo, hBr, hbw⟩ := hrel
    by_cases hlt : j < l.length
    · obtain ⟨b, off, rfl, hb, hcc⟩ := HU.out (fun e => by rw [e] at hlt; simp at hlt)
      obtain ⟨k0, k1, k2⟩ := hcc j hlt
      have c0 := (hbw.cell (p := ⟨b, off + j * 3, none⟩) hb).trans k0
      have c1 := (hbw.cell (p := ⟨b, off + j * 3 + 1, none⟩) hb).trans k1
      have c2 := (hbw.cell (p := ⟨b, off + j * 3 + 2, none⟩) hb).trans k2
      have hd := HD.out j hlt
      have hmn := HMN.out j hlt
      have hml := HML.out j hj
      have hal := HDL.out j
      have hjI : (j : Int) < (l.length : Int) := by omega
      obtain ⟨y, hy⟩ : ∃ y, y = l.getD j C.null := ⟨_, rfl⟩
      rw [← hy] at c0 c1 c2 hd hmn
      obtain ⟨z, n, x⟩ := y
      simp only at c0 c1 c2 hd hmn
      generalize C.dense (l.take j) = acc at *
      generalize mks l j = ms at *
      clear k0 k1 k2 hcc hy
      by_cases hz : z = 0
      · subst hz
        rw [if_pos rfl] at hd hmn
        have HDN := Lib.hid hd
        have HMJ := Lib.hid hmn
        clear hd hmn
        generalize hX : str x = X at *
        go_wp2_with fail
        refine ⟨⟨j + 1, by omega, by go_num, by rw [HDN.out]; exact hrow.alloc_ _, by rw [HMJ.out]; exact hbo.below ((Below.refl _ _).alloc (Nat.le_refl _) _), by simp; omega, hbw.alloc hbw.size _⟩, by simp [intOf]; omega⟩
      · rw [if_neg hz] at hd hmn
        have HDN := Lib.hid hd
        have HMJ := Lib.hid hmn
        have g1 : (z != 0) = true := by rw [bne_iff_ne]; exact hz
        generalize hX : str x = X at *
        have hne : go ≠ wr.heap.size := by omega
        have q := hbo.below ((Below.refl wr.heap.size wr).alloc (Nat.le_refl _) (.cells #[.int .i64 z, .int .u64 (n : Int), .string X] 50))
        have o1 := q.cell j (by rw [hml]; exact hlt)
        have o2 := q.free j
        have p := q.put j true
        have hrow2 := (hrow.alloc_ (.cells #[.int .i64 z, .int .u64 (n : Int), .string X] 50)).far go j (.bool true) (by omega)
        have s0 : ((wr.alloc (.cells #[.int .i64 z, .int .u64 (n : Int), .string X] 50)).setCell ⟨go, j, none⟩ (.bool true)).cell? ⟨wr.heap.size, 0, none⟩ = some (.int .i64 z) := by
          rw [World.cell?_setCell_far _ _ _ _ hne, World.cell?_alloc_new]; rfl
        have s1 : ((wr.alloc (.cells #[.int .i64 z, .int .u64 (n : Int), .string X] 50)).setCell ⟨go, j, none⟩ (.bool true)).cell? ⟨wr.heap.size, 1, none⟩ = some (.int .u64 (n : Int)) := by
          rw [World.cell?_setCell_far _ _ _ _ hne, World.cell?_alloc_new]; rfl
        have s2 : ((wr.alloc (.cells #[.int .i64 z, .int .u64 (n : Int), .string X] 50)).setCell ⟨go, j, none⟩ (.bool true)).cell? ⟨wr.heap.size, 2, none⟩ = some (.string X) := by
          rw [World.cell?_setCell_far _ _ _ _ hne, World.cell?_alloc_new]; rfl
        have hbw2 : Below w.heap.size w ((wr.alloc (.cells #[.int .i64 z, .int .u64 (n : Int), .string X] 50)).setCell ⟨go, j, none⟩ (.bool true)) := (hbw.alloc hbw.size _).setCell (p := ⟨go, j, none⟩) (by show w.heap.size ≤ go; omega) _
        have hsz : B ≤ ((wr.alloc (.cells #[.int .i64 z, .int .u64 (n : Int), .string X] 50)).setCell ⟨go, j, none⟩ (.bool true)).heap.size := by simp; omega
        have HROW := Lib.hid hrow2
        have hs2 : ((wr.alloc (.cells #[.int .i64 z, .int .u64 (n : Int), .string X] 50)).setCell ⟨go, j, none⟩ (.bool true)).heap.size = wr.heap.size + 1 := by simp
        have e0 : (((wr.alloc (.cells #[.int .i64 z, .int .u64 (n : Int), .string X] 50)).setCell ⟨go, j, none⟩ (.bool true)).alloc (.cells #[.int .i64 z, .int .u64 (n : Int), .string X] 50)).cell? ⟨wr.heap.size + 1, 0, none⟩ = some (.int .i64 z) := by rw [← hs2, World.cell?_alloc_new]; rfl
        have e1 : (((wr.alloc (.cells #[.int .i64 z, .int .u64 (n : Int), .string X] 50)).setCell ⟨go, j, none⟩ (.bool true)).alloc (.cells #[.int .i64 z, .int .u64 (n : Int), .string X] 50)).cell? ⟨wr.heap.size + 1, 1, none⟩ = some (.int .u64 (n : Int)) := by rw [← hs2, World.cell?_alloc_new]; rfl
        have e2 : (((wr.alloc (.cells #[.int .i64 z, .int .u64 (n : Int), .string X] 50)).setCell ⟨go, j, none⟩ (.bool true)).alloc (.cells #[.int .i64 z, .int .u64 (n : Int), .string X] 50)).cell? ⟨wr.heap.size + 1, 2, none⟩ = some (.string (str x)) := by rw [← hs2, World.cell?_alloc_new, hX]; rfl
        have hb5 : B ≤ (((wr.alloc (.cells #[.int .i64 z, .int .u64 (n : Int), .string X] 50)).setCell ⟨go, j, none⟩ (.bool true)).alloc (.cells #[.int .i64 z, .int .u64 (n : Int), .string X] 50)).heap.size := by simp; omega
        have HB3 := Lib.hid (hbw2.alloc hbw2.size (.cells #[.int .i64 z, .int .u64 (n : Int), .string X] 50))
        have HE := Lib.hid (And.intro e0 (And.intro e1 e2))
        have hp3 := p.below ((Below.refl _ _).alloc (Nat.le_refl _) (.cells #[.int .i64 z, .int .u64 (n : Int), .string X] 50))
        have HP := Lib.hid hp3
        have hlb : (acc.length + 1) * 32 ≤ 140737488355328 := by omega
        generalize ms.getD j false = om at *
        clear hd hmn hrow hbo q p hrow2 hz e0 e1 e2 hp3 hbw2
        go_wp2_with (at_builtin; refine wpList_append_onec rfl (.tmp 34) (.tmp 36) rfl B _ acc rfl (HROW.out.alloc_ _) (wr.heap.size + 1) ⟨z, n, x⟩ rfl HE.out.1 HE.out.2.1 HE.out.2.2 hlb hb5 ?_)
        intro v' w5 hown5 hb5w hg5
        have hbw5 : Below w.heap.size w w5 := HB3.out.trans (hb5w.mono hBw)
        have hm5 : MBlk w5 go (ms.set j true) := (hb5w.block go hgo).trans HP.out
        have hs5 := hb5w.size
        have hB5 : B ≤ w5.heap.size := by omega
        clear hb5w
        go_wp2_with fail
        exact ⟨⟨j + 1, by omega, by go_num, by rw [HDN.out]; exact hown5, by rw [HMJ.out]; exact hm5, hB5, hbw5⟩, by simp [intOf]; omega⟩
    · obtain rfl : j = l.length := by omega
      have HDA := Lib.hid (show C.dense (l.take l.length) = C.dense l by rw [List.take_length])
      have HMA := Lib.hid (mks_all l)
      have hrw := hrow.weak hBw
      have hbs := hbo.bools
      rw [HMA.out] at hbs
      rw [HDA.out] at hrw
      clear hrow hbo
      go_wp2_with fail
      go_ret3
      rw [HR.out]
      refine ⟨some ⟨go, 0, none⟩, l.length, _, ?_, hbs, ⟨by simp, by unfold maxLen; omega, fun h => by cases h⟩, hrw, hbw⟩
      simp
end Go.Proofs.YtcachhnhncodoaaGreat
namespace Go.Proofs.YtcachhnhncodoaaGreat
open Go.RowKit
set_option linter.unusedVariables false
def IntPost (n : Nat) (w : World) (e : Ending) (w' : World) : Prop := e = .returned (.int .i64 (n : Int)) ∧ w = w'
set_option maxHeartbeats 400000 in
theorem count_some (b off c : Nat) (l : List Bool) (w : World) (hl : l.length ≤ maxLen)
    (hc : ∀ i, i < l.length → w.cell? ⟨b, off + i, none⟩ = some (.bool (l.getD i false))) :
    Calls Tryz.prog 83 #[.slice (some ⟨b, off, none⟩) l.length c] w (IntPost (M.cnt l) w) := by
  unfold maxLen at hl
  have HC := Lib.hid hc
  clear hc
  go_enter Tryz.func83, Tryz.ntmps83
  go_wp2_with fail
  go_loop [3, 5, 8] (fun n _ i => ∃ k : Nat, k ≤ l.length ∧ i = .int .i64 k ∧ n = .int .i64 (M.cnt (l.take k) : Nat)) (fun _ _ i => l.length - (intOf i).toNat)
  case atStart => exact ⟨0, by omega, rfl, rfl⟩
  case round =>
    obtain ⟨k, hk, rfl, rfl⟩ := hrel
    have hcb : M.cnt (l.take k) ≤ k := by have := M.cnt_le (l.take k); simp only [List.length_take] at this; omega
    by_cases hlt : k < l.length
    · have hcell := HC.out k hlt
      have hsn := M.cnt_snoc l k hlt
      cases hx : l.getD k false with
      | true =>
        rw [hx] at hcell hsn
        have HS := Lib.hid hsn
        clear hsn hx
        generalize M.cnt (l.take k) = n at *
        go_wp2_with fail
        exact ⟨⟨k + 1, by omega, by go_num, by rw [HS.out]; simp⟩, by simp [intOf]; omega⟩
      | false =>
        rw [hx] at hcell hsn
        have HS := Lib.hid hsn
        clear hsn hx
        generalize M.cnt (l.take k) = n at *
        go_wp2_with fail
        exact ⟨⟨k + 1, by omega, by go_num, by rw [HS.out]; simp⟩, by simp [intOf]; omega⟩
    · obtain rfl : k = l.length := by omega
      rw [List.take_length]
      go_wp2_with fail
      go_ret
      exact ⟨rfl, rfl⟩
set_option maxHeartbeats 400000 in
theorem count_nil (a : Option Addr) (c : Nat) (w : World) :
    Calls Tryz.prog 83 #[.slice a 0 c] w (IntPost 0 w) := by
  go_enter Tryz.func83, Tryz.ntmps83
  go_wp2_with fail
  refine wp_loop_rounds 1 ?_
  rw [rounds_succ]
  go_wp2_with fail
  go_ret
  exact ⟨rfl, rfl⟩
theorem count_any (a : Option Addr) (c : Nat) (l : List Bool) (w : World) (B' : Nat) (hl : l.length ≤ maxLen) (hu : Bools w B' a l) :
    Calls Tryz.prog 83 #[.slice a l.length c] w (IntPost (M.cnt l) w) := by
  by_cases hn : l = []
  · subst hn; exact count_nil a c w
  · obtain ⟨b, off, rfl, _, hc⟩ := hu hn
    exact count_some b off c l w hl hc
end Go.Proofs.YtcachhnhncodoaaGreat
namespace Go.Proofs.YtcachhnhncodoaaGreat
open Go.RowKit
set_option linter.unusedVariables false
def fitC (k : Int) (m : List Bool) (l : List C.Cl) : Nat := if C.chk k l ≠ 0 then C.chk k l else if (C.dense l).length < l.length then 7 else if 64 < m.length then 2 else if M.cnt m ≠ l.length then 1 else 0
theorem fitC_join (k : Int) (m : List Bool) (l : List C.Cl) : C.joinR k m l = if fitC k m l ≠ 0 then ([], fitC k m l) else (C.join m l, 0) := by
  unfold C.joinR fitC
  by_cases h1 : C.chk k l ≠ 0
  · simp [h1]
  · by_cases h2 : (C.dense l).length < l.length
    · simp [h1, h2]
    · by_cases h3 : 64 < m.length
      · simp [h1, h2, h3]
      · by_cases h4 : M.cnt m ≠ l.length
        · simp [h1, h2, h3, h4]
        · simp [h1, h2, h3, h4]
theorem fitC_ok {k : Int} {m : List Bool} {l : List C.Cl} (h : fitC k m l = 0) : C.chk k l = 0 ∧ ¬ (C.dense l).length < l.length ∧ m.length ≤ 64 ∧ M.cnt m = l.length := by
  unfold fitC at h
  by_cases h1 : C.chk k l ≠ 0
  · rw [if_pos h1] at h; exact absurd h h1
  rw [if_neg h1] at h
  by_cases h2 : (C.dense l).length < l.length
  · rw [if_pos h2] at h; exact absurd h (by decide)
  rw [if_neg h2] at h
  by_cases h3 : 64 < m.length
  · rw [if_pos h3] at h; exact absurd h (by decide)
  rw [if_neg h3] at h
  by_cases h4 : M.cnt m ≠ l.length
  · rw [if_pos h4] at h; exact absurd h (by decide)
  exact ⟨Classical.not_not.1 h1, h2, by omega, Classical.not_not.1 h4⟩
set_option maxHeartbeats 1000000 in
set_option maxRecDepth 100000 in
theorem cfit_any (k : Int) (am : Option Addr) (cm : Nat) (m : List Bool) (a : Option Addr) (c : Nat) (l : List C.Cl) (w : World) (hmm : m.length ≤ maxLen) (hum : Bools w w.heap.size am m) (hm : l.length ≤ maxLen) (hx : ∀ x ∈ l, cOk x) (hu : Cls w w.heap.size a l) :
    Calls Tryz.prog 90 #[.int .i64 k, .slice am m.length cm, .slice a l.length c] w (CErrPost (fitC k m l) w) := by
  have HC := Lib.hid (ncheck_any k a c l w hm hx hu)
  by_cases h1 : C.chk k l ≠ 0
  · have HR := Lib.hid (show fitC k m l = C.chk k l from if_pos h1)
    generalize C.chk k l = er at *
    have g1 : ((er : Int) != 0) = true := by rw [bne_iff_ne]; omega
    clear hu hum hx h1
    go_enter Tryz.func90, Tryz.ntmps90
    go_wp2_with fail
    refine (HC.out).mono ?_
    rintro e w1 ⟨rfl, hb1⟩
    go_wp2_with fail
    go_ret
    exact ⟨by rw [HR.out]; rfl, hb1⟩
  · have h1' : C.chk k l = 0 := Classical.not_not.1 h1
    obtain ⟨_, hl64, _⟩ := C.chk_ok h1'
    rw [h1'] at HC
    have HF := Lib.hid (fun w1 (hb : Below w.heap.size w w1) => first_null w1 a c l hl64 hx (hu.next hb))
    rw [nullE_list] at HF
    by_cases h2 : (C.dense l).length < l.length
    · have HR := Lib.hid (show fitC k m l = 7 by unfold fitC; rw [if_neg h1, if_pos h2])
      rw [if_pos h2] at HF
      clear hu hum hx h1 h1' h2
      go_enter Tryz.func90, Tryz.ntmps90
      go_wp2_with fail
      refine (HC.out).mono ?_
      rintro e w1 ⟨rfl, hb1⟩
      go_wp2_with fail
      refine (HF.out w1 hb1).mono ?_
      rintro e w2 ⟨rfl, hb2⟩
      go_wp2_with fail
      go_ret
      exact ⟨by rw [HR.out]; rfl, below_then hb1 hb2⟩
    · rw [if_neg h2] at HF
      by_cases h3 : 64 < m.length
      · have HR := Lib.hid (show fitC k m l = 2 by unfold fitC; rw [if_neg h1, if_neg h2, if_pos h3])
        have g3 : decide ((64 : Int) < (m.length : Int)) = true := decide_eq_true (by omega)
        clear hu hum hx h1 h1' h2
        go_enter Tryz.func90, Tryz.ntmps90
        go_wp2_with fail
        refine (HC.out).mono ?_
        rintro e w1 ⟨rfl, hb1⟩
        go_wp2_with fail
        refine (HF.out w1 hb1).mono ?_
        rintro e w2 ⟨rfl, hb2⟩
        go_wp2_with fail
        go_ret
        exact ⟨by rw [HR.out]; rfl, below_then hb1 hb2⟩
      · have HN := Lib.hid (fun w1 (hb : Below w.heap.size w w1) => count_any am cm m w1 w.heap.size hmm (hum.below hb))
        have hR : fitC k m l = if M.cnt m ≠ l.length then 1 else 0 := by unfold fitC; rw [if_neg h1, if_neg h2, if_neg h3]
        have g3 : decide ((64 : Int) < (m.length : Int)) = false := decide_eq_false (by omega)
        have hcl := M.cnt_le m
        generalize fitC k m l = R at *
        generalize M.cnt m = n at *
        by_cases h4 : n ≠ l.length
        · rw [if_pos h4] at hR
          have HR := Lib.hid hR
          have g4 : ((n : Int) != (l.length : Int)) = true := by rw [bne_iff_ne]; omega
          clear hu hum hx h1 h1' h2 h4 hR
          go_enter Tryz.func90, Tryz.ntmps90
          go_wp2_with fail
          refine (HC.out).mono ?_
          rintro e w1 ⟨rfl, hb1⟩
          go_wp2_with fail
          refine (HF.out w1 hb1).mono ?_
          rintro e w2 ⟨rfl, hb2⟩
          have hb3 := below_then hb1 hb2
          go_wp2_with fail
          refine (HN.out w2 hb3).mono ?_
          rintro e w3 ⟨rfl, rfl⟩
          go_wp2_with fail
          go_ret
          exact ⟨by rw [HR.out]; rfl, hb3⟩
        · rw [if_neg h4] at hR
          have HR := Lib.hid hR
          have g4 : ((n : Int) != (l.length : Int)) = false := by rw [bne_eq_false_iff_eq]; omega
          clear hu hum hx h1 h1' h2 h4 hR
          go_enter Tryz.func90, Tryz.ntmps90
          go_wp2_with fail
          refine (HC.out).mono ?_
          rintro e w1 ⟨rfl, hb1⟩
          go_wp2_with fail
          refine (HF.out w1 hb1).mono ?_
          rintro e w2 ⟨rfl, hb2⟩
          have hb3 := below_then hb1 hb2
          go_wp2_with fail
          refine (HN.out w2 hb3).mono ?_
          rintro e w3 ⟨rfl, rfl⟩
          go_wp2_with fail
          go_ret
          exact ⟨by rw [HR.out]; rfl, hb3⟩
end Go.Proofs.YtcachhnhncodoaaGreat
namespace Go.Proofs.YtcachhnhncodoaaGreat
open Go.RowKit
set_option linter.unusedVariables false
theorem CRow.put {B : Nat} {xs : List C.Cl} {g n c : Nat} {w : World} (h : CRow B xs (.slice (some ⟨g, 0, none⟩) n c) w) (i : Nat) (x : C.Cl) (hi : i < xs.length) :
    CRow B (xs.set i x) (.slice (some ⟨g, 0, none⟩) n c) (((w.setCell ⟨g, i * 3, none⟩ (.int .i64 x.kind)).setCell ⟨g, i * 3 + 1, none⟩ (.int .u64 (x.num : Int))).setCell ⟨g, i * 3 + 2, none⟩ (.string (str x.txt))) := by
  have hn : n = xs.length := by
    obtain ⟨a', c', e, _⟩ := cRow_cls h
    injection e
  subst hn
  unfold CRow at *
  have := (((h.stored (i * 3) (.int .i64 x.kind)).1.stored (i * 3 + 1) (.int .u64 (x.num : Int))).1.stored (i * 3 + 2) (.string (str x.txt))).1
  rw [cv_set xs i x hi] at this
  rw [List.length_set]; exact this
theorem crow_len {B : Nat} {xs : List C.Cl} {a : Option Addr} {n c : Nat} {w : World} (h : CRow B xs (.slice a n c) w) : n = xs.length := by
  obtain ⟨a', c', e, _⟩ := cRow_cls h
  injection e
theorem CRow.stores {B : Nat} {xs : List C.Cl} {g n c : Nat} {w : World} (h : CRow B xs (.slice (some ⟨g, 0, none⟩) n c) w) (i : Nat) (u v : Value) (hi : i < xs.length) :
    (∃ a, w.cell? ⟨g, i * 3, none⟩ = some a) ∧ (∃ a, (w.setCell ⟨g, i * 3, none⟩ u).cell? ⟨g, i * 3 + 1, none⟩ = some a) ∧ (∃ a, ((w.setCell ⟨g, i * 3, none⟩ u).setCell ⟨g, i * 3 + 1, none⟩ v).cell? ⟨g, i * 3 + 2, none⟩ = some a) ∧
    w.frozen? ⟨g, i * 3, none⟩ = false ∧ (w.setCell ⟨g, i * 3, none⟩ u).frozen? ⟨g, i * 3 + 1, none⟩ = false ∧ ((w.setCell ⟨g, i * 3, none⟩ u).setCell ⟨g, i * 3 + 1, none⟩ v).frozen? ⟨g, i * 3 + 2, none⟩ = false := by
  have hn := crow_len h
  subst hn
  unfold CRow at h
  have h2 := (h.stored (i * 3) u).1
  have h3 := (h2.stored (i * 3 + 1) v).1
  have hl := cv_length xs
  refine ⟨?_, ?_, ?_, h.frozenAt _, h2.frozenAt _, h3.frozenAt _⟩
  · rw [h.cellAt (i * 3) (by omega)]; exact ⟨_, List.getElem?_eq_getElem (by omega)⟩
  · rw [h2.cellAt (i * 3 + 1) (by omega)]; exact ⟨_, List.getElem?_eq_getElem (by simp; omega)⟩
  · rw [h3.cellAt (i * 3 + 2) (by omega)]; exact ⟨_, List.getElem?_eq_getElem (by simp; omega)⟩
theorem cv_rep (n : Nat) : cv (List.replicate n C.null) = (madeCells (Value.agg #[.int .i64 0, .int .u64 0, .string ByteArray.empty]).cells (n * 3)).toList := by
  apply List.ext_getElem?
  intro i
  by_cases hi : i < n * 3
  · have h3 : i % 3 = 0 ∨ i % 3 = 1 ∨ i % 3 = 2 := by omega
    have hk : i / 3 < n := by omega
    obtain ⟨g0, g1, g2⟩ := cv_get (List.replicate n C.null) (i / 3) (by simpa using hk)
    have e : (List.replicate n C.null).getD (i / 3) C.null = C.null := by simp [List.getD, hk]
    rw [e] at g0 g1 g2
    have hz : (Value.agg #[.int .i64 0, .int .u64 0, .string ByteArray.empty]).cells = #[.int .i64 0, .int .u64 0, .string ByteArray.empty] := by simp [Value.cells]
    rw [hz]
    rcases h3 with h | h | h
    · rw [show i / 3 * 3 = i by omega] at g0
      rw [g0]; simp [madeCells, hi, h]; rfl
    · rw [show i / 3 * 3 + 1 = i by omega] at g1
      rw [g1]; simp [madeCells, hi, h]; rfl
    · rw [show i / 3 * 3 + 2 = i by omega] at g2
      rw [g2]; simp [madeCells, hi, h]; rfl
  · rw [List.getElem?_eq_none (by rw [cv_length]; simp; omega), List.getElem?_eq_none (by simp [madeCells]; omega)]
theorem made_crow {w' : World} {g n B' : Nat} (h : w'.ownsRow B' 50 3 (.slice (some ⟨g, 0, none⟩) n n) n (madeCells (Value.agg #[.int .i64 0, .int .u64 0, .string ByteArray.empty]).cells (n * 3)).toList) : CRow B' (List.replicate n C.null) (.slice (some ⟨g, 0, none⟩) n n) w' := by
  unfold CRow
  rw [List.length_replicate, cv_rep]; exact h
end Go.Proofs.YtcachhnhncodoaaGreat
namespace Go.Proofs.YtcachhnhncodoaaGreat
open Go.RowKit
set_option linter.unusedVariables false
def JoinPost (r : List C.Cl × Nat) (w : World) (e : Ending) (w' : World) : Prop :=
  ∃ v, e = .returned (.tuple #[v, .int .i64 (r.2 : Nat)]) ∧ CRow w.heap.size r.1 v w' ∧ Below w.heap.size w w'
def jns (m : List Bool) (l : List C.Cl) (j : Nat) : List C.Cl := (C.join m l).take j ++ List.replicate (m.length - j) C.null
theorem jns_length (m : List Bool) (l : List C.Cl) (j : Nat) (h : j ≤ m.length) : (jns m l j).length = m.length := by
  simp [jns, C.join_length]; omega
theorem jns_next (m : List Bool) (l : List C.Cl) (j : Nat) (h : j < m.length) : jns m l (j + 1) = if m.getD j false = true then (jns m l j).set j (l.getD (M.cnt (m.take j)) C.null) else jns m l j := by
  have h1 : m.length - j = (m.length - (j + 1)) + 1 := by omega
  have hj : j < (C.join m l).length := by rw [C.join_length]; exact h
  unfold jns
  rw [ctake_succ (C.join m l) j hj, C.join_at m l j h, h1, List.replicate_succ]
  cases m.getD j false
  · rw [if_neg (by simp), if_neg (by simp)]; simp
  · rw [if_pos rfl, if_pos rfl, List.set_append_right _ _ (by rw [List.length_take]; omega)]
    have h2 : j - ((C.join m l).take j).length = 0 := by simp [C.join_length]; omega
    rw [h2]; simp
theorem jns_all (m : List Bool) (l : List C.Cl) : jns m l m.length = C.join m l := by
  unfold jns; rw [Nat.sub_self, List.take_of_length_le (by rw [C.join_length]; exact Nat.le_refl _)]; simp
set_option maxHeartbeats 2000000 in
set_option maxRecDepth 100000 in
theorem njoin_any (k : Int) (am : Option Addr) (cm : Nat) (m : List Bool) (a : Option Addr) (c : Nat) (l : List C.Cl) (w : World) (hmm : m.length ≤ maxLen) (hum : Bools w w.heap.size am m) (hm : l.length ≤ maxLen) (hq : l.length ≤ c ∧ c ≤ maxLen ∧ (a = none → c = 0)) (hx : ∀ x ∈ l, cOk x) (hu : Cls w w.heap.size a l) :
    Calls Tryz.prog 62 #[.int .i64 k, .slice am m.length cm, .slice a l.length c] w (JoinPost (C.joinR k m l) w) := by
  have HC := Lib.hid (cfit_any k am cm m a c l w hmm hum hm hx hu)
  rw [fitC_join]
  by_cases h1 : fitC k m l ≠ 0
  · rw [if_pos h1]
    generalize fitC k m l = er at *
    have g1 : ((er : Int) != 0) = true := by rw [bne_iff_ne]; omega
    clear hu hx h1 hum hq hm hmm
    go_enter Tryz.func62, Tryz.ntmps62
    go_wp2_with fail
    refine (HC.out).mono ?_
    rintro e w1 ⟨rfl, hb1⟩
    go_wp2_with fail
    go_ret2
    exact ⟨.slice none 0 0, rfl, cnilRow _ _, hb1⟩
  have h1' : fitC k m l = 0 := Classical.not_not.1 h1
  rw [if_neg h1]
  obtain ⟨hchk, _, hm64, hcnt⟩ := fitC_ok h1'
  obtain ⟨_, hl64, _⟩ := C.chk_ok hchk
  rw [h1'] at HC
  have HM := Lib.hid hum
  have HU := Lib.hid hu
  have HN := Lib.hid (fun j h => jns_next m l j h)
  have HL := Lib.hid (fun j h => jns_length m l j h)
  have HA := Lib.hid (jns_all m l)
  have HS := Lib.hid (fun j h => M.cnt_snoc m j h)
  have HCL := Lib.hid (fun j => show M.cnt (m.take j) ≤ l.length by rw [← hcnt]; exact M.cnt_take_le m j)
  have hcap := hq.1
  have hcapm := hq.2.1
  unfold maxLen at hcapm
  have HAN := Lib.hid hq.2.2
  obtain ⟨i0, hi, hz0, hz1, hz2⟩ := info_parts info_cell
  have hJ0 : jns m l 0 = List.replicate m.length C.null := by simp [jns]
  have hC0 : M.cnt (m.take 0) = 0 := by simp [M.cnt]
  clear hu hx h1 h1' hm hmm hum hchk hq hcnt
  generalize C.join m l = out at *
  generalize jns m l = jn at *
  go_enter Tryz.func62, Tryz.ntmps62
  go_wp2_with fail
  refine (HC.out).mono ?_
  rintro e w1 ⟨rfl, hb1⟩
  go_wp2_with (at_make; refine wpList_make_full _ rfl (.tmp 20) (.tmp 20) 22 rfl w1.heap.size 50 i0 (.agg #[.int .i64 0, .int .u64 0, .string ByteArray.empty]) 3 Tryz.underlying22 hi hz0 hz1 .i64 .i64 _ _ m.length rfl rfl rfl rfl (by rw [hz2]; omega) (by unfold maxLen; omega) (Nat.le_refl _) ?_; intro w2 hown hgrow; have hb2 : Below w1.heap.size w1 w2 := (Below.refl _ _).grown hgrow (Nat.le_refl _) (fun k hk => by cases hk); have hrow0 := made_crow hown; clear hown hgrow)
  have hw2 := below_then hb1 hb2
  have hs1 := hb1.size
  have hrow1 : CRow w.heap.size (List.replicate m.length C.null) (.slice (some ⟨w1.heap.size, 0, none⟩) m.length m.length) w2 := hrow0.weak hs1
  obtain ⟨g, hge⟩ : ∃ g, g = w1.heap.size := ⟨_, rfl⟩
  rw [← hge] at hrow1 hs1 ⊢
  clear hb1 hb2 hge hrow0
  go_loopw [2, 10, 11, 24] (fun v _ _ i wr => ∃ (j q c' : Nat) (a' : Option Addr), j ≤ m.length ∧ i = .int .i64 j ∧ q = M.cnt (m.take j) ∧ q ≤ l.length ∧ v = .slice a' (l.length - q) c' ∧ l.length - q ≤ c' ∧ c' ≤ 9223372036854775807 ∧ Cls w w.heap.size a' (l.drop q) ∧ CRow w.heap.size (jn j) (.slice (some ⟨g, 0, none⟩) m.length m.length) wr ∧ Below w.heap.size w wr) (fun _ _ _ i _ => m.length - (intOf i).toNat)
  case atStart => exact ⟨0, 0, c, a, by omega, rfl, hC0.symm, by omega, rfl, by omega, by omega, by simpa using HU.out, by rw [hJ0]; exact hrow1, hw2⟩
  case round =>
    clear hw2 hrow1
    obtain ⟨j, q, c', a', hj, rfl, hqe, hql, rfl, hc', hcm', hcl, hrow, hbw⟩ := hrel
    by_cases hlt : j < m.length
    · obtain ⟨mb, moff, rfl, hmb, hmc⟩ := HM.out (fun e => by rw [e] at hlt; simp at hlt)
      have k0 := (hbw.cell (p := ⟨mb, moff + j, none⟩) hmb).trans (hmc j hlt)
      have hn := HN.out j hlt
      have hs := HS.out j hlt
      have hq1 := HCL.out (j + 1)
      have hjl := HL.out j hj
      have hjI : (j : Int) < (m.length : Int) := by omega
      rw [← hqe] at hn hs
      clear hmc
      cases hb : m.getD j false with
      | false =>
        rw [hb] at k0 hn hs
        rw [if_neg (by simp)] at hn hs
        have HJN := Lib.hid hn
        have HSN := Lib.hid hs
        clear hn hs hb hq1
        go_wp2_with fail
        exact ⟨⟨j + 1, q, c', a', by omega, by go_num, by rw [HSN.out]; rfl, hql, rfl, hc', hcm', hcl, by rw [HJN.out]; exact hrow, hbw⟩, by simp [intOf]; omega⟩
      | true =>
        rw [hb] at k0 hn hs
        rw [if_pos rfl] at hn hs
        have hq2 : q + 1 ≤ l.length := by rw [hs] at hq1; exact hq1
        have HSN := Lib.hid hs
        have HCLS := Lib.hid hcl
        obtain ⟨b, off, rfl, hbb, hcc⟩ := hcl (fun e => by have := congrArg List.length e; simp at this; omega)
        have hcut := (HCLS.out).cutIf (c := c') (by rw [List.length_drop]; exact hc')
        rw [List.drop_drop] at hcut
        have HCUT := Lib.hid hcut
        obtain ⟨t0, t1, t2⟩ := hcc 0 (by rw [List.length_drop]; omega)
        have hgd : (l.drop q).getD 0 C.null = l.getD q C.null := by simp [List.getD, List.getElem?_drop]
        rw [hgd] at t0 t1 t2
        simp only [Nat.zero_mul, Nat.add_zero] at t0 t1 t2
        obtain ⟨y, hy⟩ : ∃ y, y = l.getD q C.null := ⟨_, rfl⟩
        rw [← hy] at t0 t1 t2 hn
        have HJN := Lib.hid hn
        have c0 : wr.drew.cell? ⟨b, off, none⟩ = some (.int .i64 y.kind) := (hbw.cell (p := ⟨b, off, none⟩) hbb).trans t0
        have c1 : wr.drew.cell? ⟨b, off + 1, none⟩ = some (.int .u64 (y.num : Int)) := (hbw.cell (p := ⟨b, off + 1, none⟩) hbb).trans t1
        have c2 : wr.drew.cell? ⟨b, off + 2, none⟩ = some (.string (str y.txt)) := (hbw.cell (p := ⟨b, off + 2, none⟩) hbb).trans t2
        have hrow2 : CRow w.heap.size (jn j) (.slice (some ⟨g, 0, none⟩) m.length m.length) wr := hrow
        obtain ⟨⟨o0, d0⟩, ⟨o1, d1⟩, ⟨o2, d2⟩, f0, f1, f2⟩ := hrow2.stores j (.int .i64 y.kind) (.int .u64 (y.num : Int)) (by rw [hjl]; exact hlt)
        have o0d : wr.drew.cell? ⟨g, j * 3, none⟩ = some o0 := d0
        have f0d : wr.drew.frozen? ⟨g, j * 3, none⟩ = false := f0
        have o1d : (wr.setCell ⟨g, j * 3, none⟩ (.int .i64 y.kind)).drew.cell? ⟨g, j * 3 + 1, none⟩ = some o1 := d1
        have f1d : (wr.setCell ⟨g, j * 3, none⟩ (.int .i64 y.kind)).drew.frozen? ⟨g, j * 3 + 1, none⟩ = false := f1
        have o2d : ((wr.setCell ⟨g, j * 3, none⟩ (.int .i64 y.kind)).setCell ⟨g, j * 3 + 1, none⟩ (.int .u64 (y.num : Int))).drew.cell? ⟨g, j * 3 + 2, none⟩ = some o2 := d2
        have f2d : ((wr.setCell ⟨g, j * 3, none⟩ (.int .i64 y.kind)).setCell ⟨g, j * 3 + 1, none⟩ (.int .u64 (y.num : Int))).drew.frozen? ⟨g, j * 3 + 2, none⟩ = false := f2
        have hput := hrow2.put j y (by rw [hjl]; exact hlt)
        have hbp : Below w.heap.size w (((wr.setCell ⟨g, j * 3, none⟩ (.int .i64 y.kind)).setCell ⟨g, j * 3 + 1, none⟩ (.int .u64 (y.num : Int))).setCell ⟨g, j * 3 + 2, none⟩ (.string (str y.txt))) :=
          ((hbw.setCell (p := ⟨g, j * 3, none⟩) hs1 _).setCell (p := ⟨g, j * 3 + 1, none⟩) hs1 _).setCell (p := ⟨g, j * 3 + 2, none⟩) hs1 _
        have HPUT := Lib.hid (And.intro hput hbp)
        have hqI : (0 : Int) < ((l.length - q : Nat) : Int) := by omega
        obtain ⟨p, hp⟩ : ∃ p, l.length - q = p + 1 := ⟨l.length - q - 1, by omega⟩
        have hp2 : l.length - (q + 1) = p := by omega
        have HP2 := Lib.hid hp2
        have HQ2 := Lib.hid hq2
        have hcp : p + 1 ≤ c' := by omega
        have hpI : (1 : Int) ≤ (p : Int) + 1 := by omega
        rw [hp]
        generalize y.kind = z at *
        generalize y.num = n at *
        generalize str y.txt = X at *
        clear hn hs hb hq1 t0 t1 t2 hcc hy hgd hput hbp hrow hrow2 hqe hcut hp hp2 hqI hc' hq2
        go_wp2_with fail
        go_region
        all_goals go_wp2_with fail
        all_goals
          exact ⟨⟨j + 1, q + 1, c' - 1, _, by omega, by go_num, HSN.out.symm, HQ2.out, by rw [HP2.out], by rw [HP2.out]; omega, by omega, HCUT.out, by rw [HJN.out]; exact HPUT.out.1, HPUT.out.2.drew⟩, by simp [intOf]; omega⟩
    · obtain rfl : j = m.length := by omega
      have HJA := HA.out
      rw [HJA] at hrow
      clear HJA
      have HRW := Lib.hid hrow
      clear hrow hqe hcl
      go_wp2_with fail
      go_ret2
      exact ⟨_, rfl, HRW.out, hbw⟩
end Go.Proofs.YtcachhnhncodoaaGreat
namespace Go.Proofs.YtcachhnhncodoaaGreat
open Go.RowKit
set_option linter.unusedVariables false
set_option maxHeartbeats 1000000 in
set_option maxRecDepth 100000 in
theorem denseOf_any (a : Option Addr) (c : Nat) (l : List C.Cl) (w : World) (hl : l.length * 32 ≤ 140737488355320) (hu : Cls w w.heap.size a l) :
    Calls Tryz.prog 34 #[.slice a l.length c] w (CellsRowPost (C.dense l) w) := by
  have HU := Lib.hid hu
  have HD := Lib.hid (fun j h => dense_snoc l j h)
  have HDL := Lib.hid (fun j => dense_le l j)
  have HA := Lib.hid (show C.dense (l.take l.length) = C.dense l by rw [List.take_length])
  clear hu
  go_enter Tryz.func34, Tryz.ntmps34
  go_wp2_with fail
  go_loopw [3, 4] (fun v i wr => ∃ k : Nat, k ≤ l.length ∧ i = .int .i64 k ∧ CRow w.heap.size (C.dense (l.take k)) v wr ∧ Below w.heap.size w wr) (fun _ i _ => l.length - (intOf i).toNat)
  case atStart => exact ⟨0, by omega, rfl, cnilRow _ _, Below.refl _ _⟩
  case round =>
    obtain ⟨k, hk, rfl, hrow, hbw⟩ := hrel
    by_cases hlt : k < l.length
    · obtain ⟨b, off, rfl, hb, hcc⟩ := HU.out (fun e => by rw [e] at hlt; simp at hlt)
      obtain ⟨k0, k1, k2⟩ := hcc k hlt
      have c0 := (hbw.cell (p := ⟨b, off + k * 3, none⟩) hb).trans k0
      have c1 := (hbw.cell (p := ⟨b, off + k * 3 + 1, none⟩) hb).trans k1
      have c2 := (hbw.cell (p := ⟨b, off + k * 3 + 2, none⟩) hb).trans k2
      have hd := HD.out k hlt
      have hal := HDL.out k
      have hkI : (k : Int) < (l.length : Int) := by omega
      obtain ⟨y, hy⟩ : ∃ y, y = l.getD k C.null := ⟨_, rfl⟩
      rw [← hy] at c0 c1 c2 hd
      obtain ⟨z, n, x⟩ := y
      simp only at c0 c1 c2 hd
      generalize C.dense (l.take k) = acc at *
      clear k0 k1 k2 hcc hy
      by_cases hz : z = 0
      · subst hz
        rw [if_pos rfl] at hd
        have HDN := Lib.hid hd
        clear hd
        go_wp2_with fail
        exact ⟨⟨k + 1, by omega, by go_num, by rw [HDN.out]; exact hrow, hbw⟩, by simp [intOf]; omega⟩
      · rw [if_neg hz] at hd
        have HDN := Lib.hid hd
        have g1 : (z != 0) = true := by rw [bne_iff_ne]; exact hz
        generalize hX : str x = X at *
        have HROW := Lib.hid hrow
        have hlb : (acc.length + 1) * 32 ≤ 140737488355328 := by omega
        have hb5 : w.heap.size ≤ (wr.alloc (.cells #[.int .i64 z, .int .u64 (n : Int), .string X] 50)).heap.size := by have := hbw.size; simp; omega
        clear hrow hd hz
        go_wp2_with (at_builtin; refine wpList_append_onec rfl (.tmp 17) (.tmp 22) rfl w.heap.size _ acc rfl (HROW.out.alloc_ _) wr.heap.size ⟨z, n, x⟩ rfl (World.cell?_alloc_new _ _ _ _) (World.cell?_alloc_new _ _ _ _) (by rw [hX]; exact World.cell?_alloc_new _ _ _ _) hlb hb5 ?_)
        intro v' w5 hown5 hb5w hg5
        have hbw5 : Below w.heap.size w w5 := (hbw.alloc hbw.size _).trans hb5w
        clear hb5w hg5
        go_wp2_with fail
        exact ⟨⟨k + 1, by omega, by go_num, by rw [HDN.out]; exact hown5, hbw5⟩, by simp [intOf]; omega⟩
    · obtain rfl : k = l.length := by omega
      rw [HA.out] at hrow
      go_wp2_with fail
      go_ret
      exact ⟨_, rfl, hrow, hbw⟩
end Go.Proofs.YtcachhnhncodoaaGreat
namespace Go.Proofs.YtcachhnhncodoaaGreat
open Go.RowKit
set_option linter.unusedVariables false
theorem ccells_any (v : Value) (w : World) : Calls Tryz.prog 25 #[v] w (ValPost v w) := by
  go_enter Tryz.func25, Tryz.ntmps25
  go_wp2_with fail
  go_ret
  exact ⟨rfl, rfl⟩
def CellPost (v : Value) (w : World) (e : Ending) (w' : World) : Prop := e = .returned v ∧ Below w.heap.size w w'
end Go.Proofs.YtcachhnhncodoaaGreat
namespace Go.Proofs.YtcachhnhncodoaaGreat
open Go.RowKit
set_option linter.unusedVariables false
set_option maxHeartbeats 1000000 in
set_option maxRecDepth 100000 in
theorem cnum_any (n : Int) (w : World) : Calls Tryz.prog 26 #[.int .u64 n] w (CellPost (.agg #[.int .i64 1, .int .u64 n, .string ⟨#[]⟩]) w) := by
  have q0 := tri_new w (.int .i64 0) (.int .u64 0) (.string ByteArray.empty)
  have hal : Below w.heap.size w (w.alloc (.cells #[.int .i64 0, .int .u64 0, .string ByteArray.empty] 50)) := (Below.refl _ _).alloc (Nat.le_refl _) _
  go_enter Tryz.func26, Tryz.ntmps26
  go_wp2_with fail
  refine bodyPost_ret (v := .agg #[.int .i64 1, .int .u64 n, .string ⟨#[]⟩]) (by simp [results, Tryz.results26, go_sem]) rfl ⟨rfl, ?_⟩
  exact (Below.refl _ _).alloc (Nat.le_refl _) _
end Go.Proofs.YtcachhnhncodoaaGreat
namespace Go.Proofs.YtcachhnhncodoaaGreat
open Go.RowKit
set_option linter.unusedVariables false
theorem markRow_slice2 {B : Nat} {xs : List Bool} {v : Value} {w : World} (h : MarkRow B xs v w) : ∃ a c, v = .slice a xs.length c ∧ Bools w w.heap.size a xs ∧ (xs.length ≤ c ∧ c ≤ maxLen ∧ (a = none → c = 0)) := by
  have h' := h
  unfold MarkRow at h
  rcases h.2 with ⟨rfl, h0⟩ | ⟨g, cap, cur, rfl, e2, e3, e4, e5, e6, e7⟩
  · refine ⟨none, 0, by rw [h0], ?_, by omega, by unfold maxLen; omega, fun _ => rfl⟩
    rw [List.eq_nil_of_length_eq_zero h0]; exact Bools.nil _ _ _
  · refine ⟨some ⟨g, 0, none⟩, cap, rfl, fun _ => ⟨g, 0, rfl, lt_of_block e3, fun i hi => ?_⟩, e4, e5, fun h => by cases h⟩
    rw [Nat.zero_add, h.cellAt i (by omega)]
    simp [mv, List.getElem?_eq_getElem hi]
theorem wpList_append_onem {w : World} {ops : Array Oper} {rest : List Oper} {o : Oper} {a : Act} {Q : Exit → Act → World → Prop} (hgd : o.guard = none) (s x : Operand)
    (ho : o.op = .call { callee := .builtin .append, args := #[s, x], argTypes := #[39, 39] }) (base : Nat)
    (v : Value) (xs : List Bool) (hs : a.eval s = v) (hown : MarkRow base xs v w)
    (g : Nat) (y : Bool) (hx : a.eval x = .slice (some ⟨g, 0, none⟩) 1 1) (hc0 : w.cell? ⟨g, 0, none⟩ = some (.bool y))
    (hbytes : (xs.length + 1) * 1 ≤ 140737488355328) (hbase : base ≤ w.heap.size)
    (h : ∀ v' w', MarkRow base (xs ++ [y]) v' w' → Below base w w' → w.grownBy w' v.ownBlock → wpList Tryz.prog ops Q rest (a.put o.dst v') w') : wpList Tryz.prog ops Q (o :: rest) a w := by
  obtain ⟨i, hi, hz0, hz1, hz2⟩ := info_parts info_bool
  refine wpList_append_own w hgd s x 39 ho base 4 i (.bool false) 1 1 Tryz.underlying39 hi hz0 hz1 hz2 rfl (by decide) v xs.length (mv xs) hs hown ⟨g, 0, none⟩ 1 1 [.bool y] hx rfl ?_ ?_ (by unfold maxLen; omega) hbytes hbase (fun v' w' h1 h2 _ => h v' w' ?_ ?_ h2)
  · intro j u hj
    match j, hj with
    | 0, hj => simp at hj; subst hj; simpa [Addr.add] using hc0
  · intro u hu; simp at hu; subst hu; rfl
  · unfold MarkRow; rw [List.length_append]; simpa [mv] using h1
  · exact (Below.refl base w).grown h2 hbase (fun k hk => (hown.lt k hk).1)
def MarksRowPost (r : List Bool) (w : World) (e : Ending) (w' : World) : Prop := ∃ v, e = .returned v ∧ MarkRow w.heap.size r v w' ∧ Below w.heap.size w w'
theorem there_snoc (l : List C.Cl) (j : Nat) (h : j < l.length) : (l.take (j + 1)).map C.here = (l.take j).map C.here ++ [(l.getD j C.null).kind != 0] := by
  rw [ctake_succ l j h, List.map_append]
  have : C.here (l.getD j C.null) = ((l.getD j C.null).kind != 0) := by
    unfold C.here; rw [Bool.eq_iff_iff, decide_eq_true_iff, bne_iff_ne]
  simp only [List.map_cons, List.map_nil, this]
set_option maxHeartbeats 1000000 in
set_option maxRecDepth 100000 in
theorem thereOf_any (a : Option Addr) (c : Nat) (l : List C.Cl) (w : World) (hl : l.length ≤ 140737488355327) (hu : Cls w w.heap.size a l) :
    Calls Tryz.prog 37 #[.slice a l.length c] w (MarksRowPost (l.map C.here) w) := by
  have HU := Lib.hid hu
  have HS := Lib.hid (fun j h => there_snoc l j h)
  have HTL := Lib.hid (fun j => show ((l.take j).map C.here).length ≤ j by simp; omega)
  have HA := Lib.hid (show (l.take l.length).map C.here = l.map C.here by rw [List.take_length])
  clear hu
  go_enter Tryz.func37, Tryz.ntmps37
  go_wp2_with fail
  go_loopw [3, 4] (fun v i wr => ∃ k : Nat, k ≤ l.length ∧ i = .int .i64 k ∧ MarkRow w.heap.size ((l.take k).map C.here) v wr ∧ Below w.heap.size w wr) (fun _ i _ => l.length - (intOf i).toNat)
  case atStart => exact ⟨0, by omega, rfl, ⟨rfl, Or.inl ⟨rfl, rfl⟩⟩, Below.refl _ _⟩
  case round =>
    obtain ⟨k, hk, rfl, hrow, hbw⟩ := hrel
    by_cases hlt : k < l.length
    · obtain ⟨b, off, rfl, hb, hcc⟩ := HU.out (fun e => by rw [e] at hlt; simp at hlt)
      have c0 := (hbw.cell (p := ⟨b, off + k * 3, none⟩) hb).trans (hcc k hlt).1
      have HSN := Lib.hid (HS.out k hlt)
      have hal := HTL.out k
      have hkI : (k : Int) < (l.length : Int) := by omega
      generalize (l.getD k C.null).kind = z at *
      generalize (l.take k).map C.here = acc at *
      have HROW := Lib.hid hrow
      have hlb : (acc.length + 1) * 1 ≤ 140737488355328 := by omega
      obtain ⟨y, hy⟩ : ∃ y, y = (z != 0) := ⟨_, rfl⟩
      rw [← hy] at HSN
      have hb5 : w.heap.size ≤ (wr.alloc (.cells #[.bool y] 4)).heap.size := by have := hbw.size; simp; omega
      have hy2 : (z != 0) = y := hy.symm
      clear hrow hcc hy
      go_wp2_with (at_builtin; refine wpList_append_onem rfl (.tmp 11) (.tmp 18) rfl w.heap.size _ acc rfl (World.ownsRow.alloc HROW.out _) wr.heap.size y rfl (World.cell?_alloc_new _ _ _ _) hlb hb5 ?_)
      intro v' w5 hown5 hb5w hg5
      have hbw5 : Below w.heap.size w w5 := (hbw.alloc hbw.size _).trans hb5w
      clear hb5w hg5
      go_wp2_with fail
      exact ⟨⟨k + 1, by omega, by go_num, by rw [HSN.out]; exact hown5, hbw5⟩, by simp [intOf]; omega⟩
    · obtain rfl : k = l.length := by omega
      rw [HA.out] at hrow
      go_wp2_with fail
      go_ret
      exact ⟨_, rfl, hrow, hbw⟩
end Go.Proofs.YtcachhnhncodoaaGreat
namespace Go.Proofs.YtcachhnhncodoaaGreat
open Go.RowKit
set_option linter.unusedVariables false
theorem cell_neq_cell (w : World) (c d : C.Cl) : (binOp .neq 50 (cag c) (cag d)).run Tryz.prog w = .ok (.bool (decide (c ≠ d))) w := by
  have hs : Tryz.prog.stoodInHeld 50 = false := by kernel_rfl
  unfold cag
  rw [run_neq_struct, run_equalIn_agg w 9999 50 _ _ (by kernel_rfl) hs]
  obtain ⟨a1, a2, a3⟩ := c
  obtain ⟨b1, b2, b3⟩ := d
  simp only
  simp [Program.fieldsOf, Tryz.underlying50, Op.eqFields, go_sem]
  rw [str_toList, str_toList]
  by_cases h1 : a1 = b1
  · by_cases h2 : a2 = b2
    · by_cases h3 : a3 = b3
      · simp [h1, h2, h3]
      · simp [h1, h2, h3]
    · have h2' : ¬ (a2 : Int) = (b2 : Int) := by omega
      simp [h1, h2, h2']
  · simp [h1]
theorem guard_cell : Tryz.prog.eqGuardType Tryz.prog.depth 50 = false := by kernel_rfl
theorem guards_cell (op : BinOp) : ∀ w o o' xs ys, (eqGuard op 50 o o' (.agg xs) (.agg ys)).run Tryz.prog w = .ok () w := fun w o o' xs ys => run_eqGuard_agg (P := Tryz.prog) w op 50 o o' xs ys guard_cell
end Go.Proofs.YtcachhnhncodoaaGreat
namespace Go.Proofs.YtcachhnhncodoaaGreat
open Go.RowKit
set_option linter.unusedVariables false
theorem ctake_eq_succ (l m : List C.Cl) (k : Nat) (hlm : l.length = m.length) (hk : k < l.length) (h : l.take k = m.take k) (hq : l.getD k C.null = m.getD k C.null) : l.take (k + 1) = m.take (k + 1) := by
  rw [ctake_succ l k hk, ctake_succ m k (by omega), h, hq]
theorem cne_at (l m : List C.Cl) (k : Nat) (hq : l.getD k C.null ≠ m.getD k C.null) : ¬ l = m := fun e => hq (by rw [e])
theorem ctake_eq_all (l m : List C.Cl) (k : Nat) (hlm : l.length = m.length) (hk : l.length ≤ k) (h : l.take k = m.take k) : l = m := by
  rwa [List.take_of_length_le hk, List.take_of_length_le (by omega)] at h
set_option maxHeartbeats 400000 in
theorem csame_len (a a' : Option Addr) (n m c c' : Nat) (w : World) (h : ((n : Int) != (m : Int)) = true) :
    Calls Tryz.prog 14 #[.slice a n c, .slice a' m c'] w (BoolPost false w) := by
  go_enter Tryz.func14, Tryz.ntmps14
  go_wp2_with fail
  go_ret
  exact ⟨rfl, Below.refl _ _⟩
set_option maxHeartbeats 400000 in
theorem csame_nil (a a' : Option Addr) (c c' : Nat) (w : World) :
    Calls Tryz.prog 14 #[.slice a 0 c, .slice a' 0 c'] w (BoolPost true w) := by
  go_enter Tryz.func14, Tryz.ntmps14
  go_wp2_with fail
  refine wp_loop_rounds 1 ?_
  rw [rounds_succ]
  go_wp2_with fail
  go_ret
  exact ⟨rfl, Below.refl _ _⟩
set_option maxHeartbeats 1000000 in
set_option maxRecDepth 100000 in
theorem csame_any (a a' : Option Addr) (c c' : Nat) (l m : List C.Cl) (w : World) (B : Nat) (h1 : Cls w B a l) (h2 : Cls w B a' m) (hl : l.length < 9223372036854775807) :
    Calls Tryz.prog 14 #[.slice a l.length c, .slice a' m.length c'] w (BoolPost (decide (l = m)) w) := by
  by_cases hlm' : ¬ l.length = m.length
  · have hlm := hlm'
    rw [decide_eq_false (fun e => hlm (by rw [e]))]
    exact csame_len a a' _ _ c c' w (by simpa using (by omega : ¬ (l.length : Int) = (m.length : Int)))
  have hlm : l.length = m.length := Classical.not_not.1 hlm'
  clear hlm'
  by_cases hn : l = []
  · subst hn
    obtain rfl : m = [] := List.eq_nil_of_length_eq_zero hlm.symm
    exact csame_nil a a' c c' w
  obtain ⟨b, off, rfl, _, h1⟩ := h1 hn
  obtain ⟨b', off', rfl, _, h2⟩ := h2 (by intro e; rw [e] at hlm; exact hn (List.eq_nil_of_length_eq_zero hlm))
  rw [← hlm]
  have H1 := Lib.hid h1
  have H2 := Lib.hid h2
  have HL := Lib.hid hlm
  clear h1 h2 hlm hn
  go_enter Tryz.func14, Tryz.ntmps14
  go_wp2_with fail
  go_loopw [5] (fun i wr => ∃ k d : Nat, k ≤ l.length ∧ i = .int .i64 k ∧ wr = w.drewN d ∧ Hid (l.take k = m.take k)) (fun i _ => l.length - (intOf i).toNat)
  case atStart => exact ⟨0, 0, by omega, rfl, rfl, Lib.hid (by simp)⟩
  case round =>
    obtain ⟨k, d, hk, rfl, rfl, HK⟩ := hrel
    by_cases hlt : k < l.length
    · obtain ⟨c1, c2, c3⟩ := H1.out k hlt
      obtain ⟨d1, d2, d3⟩ := H2.out k (by rw [← HL.out]; exact hlt)
      have HQ := Lib.hid (fun hq => ctake_eq_succ l m k HL.out hlt HK.out hq)
      have HNQ := Lib.hid (fun hq => cne_at l m k hq)
      generalize l.getD k C.null = p at *
      generalize m.getD k C.null = q at *
      have hgd := guards_cell .neq
      have hne := fun w => cell_neq_cell w p q
      unfold cag at hne
      by_cases hq : p = q
      · have HT := Lib.hid (HQ.out hq)
        rw [decide_eq_false (fun e => e hq)] at hne
        generalize p.kind = p1 at *
        generalize p.num = p2 at *
        generalize str p.txt = p3 at *
        generalize q.kind = q1 at *
        generalize q.num = q2 at *
        generalize str q.txt = q3 at *
        clear hq HQ HNQ
        go_wp2_with fail
        go_quiet (fail)
        clear hne hgd
        go_wp2_with fail
        exact ⟨⟨k + 1, d + nq, by omega, by go_num, rfl, HT⟩, by simp [intOf]; omega⟩
      · have HN := Lib.hid (HNQ.out hq)
        rw [decide_eq_true hq] at hne
        generalize p.kind = p1 at *
        generalize p.num = p2 at *
        generalize str p.txt = p3 at *
        generalize q.kind = q1 at *
        generalize q.num = q2 at *
        generalize str q.txt = q3 at *
        clear hq HQ HNQ
        go_wp2_with fail
        go_quiet (fail)
        clear hne hgd
        go_wp2_with fail
        go_ret
        exact ⟨by rw [decide_eq_false HN.out]; rfl, below_drewN (below_drewN (Below.refl _ _) _) _⟩
    · have HE := Lib.hid (ctake_eq_all l m k HL.out (by omega) HK.out)
      go_wp2_with fail
      go_ret
      exact ⟨by rw [decide_eq_true HE.out]; rfl, below_drewN (Below.refl _ _) _⟩
end Go.Proofs.YtcachhnhncodoaaGreat
namespace Go.Proofs.YtcachhnhncodoaaGreat
open Go.RowKit
set_option linter.unusedVariables false
theorem put_next (l : List Bool) (k n : Nat) (hn : l.length = n) (hk : k < n) : (l.take k ++ List.replicate (n - k) false).set k (l.getD k false) = l.take (k + 1) ++ List.replicate (n - (k + 1)) false := by
  have h1 : n - k = (n - (k + 1)) + 1 := by omega
  rw [h1, List.replicate_succ, List.set_append_right _ _ (by rw [List.length_take]; omega), M.take_snoc l k (by omega)]
  have h2 : k - (l.take k).length = 0 := by simp; omega
  rw [h2]; simp
end Go.Proofs.YtcachhnhncodoaaGreat
