/- Plain mathematics of cells that may be missing. -/
import Derived.Test.YtbhggbohkddlaaaMPlain
import Derived.Test.YtbhggbohkddlaaaTPlain
namespace Go.Proofs.Ytbhggbohkddlaaa.C
set_option linter.unusedVariables false
/-- a cell: its kind, its number, its text -/
structure Cl where
  kind : Int
  num : Nat
  txt : List UInt8
deriving DecidableEq
def null : Cl := ⟨0, 0, []⟩

/-- what is wrong with a cell of a column -/
def cellE (k : Int) (c : Cl) : Nat :=
  if c.kind ≠ 0 ∧ c.kind ≠ k then 7 else if (c.kind ≠ 1 ∧ c.num ≠ 0) ∨ (c.kind ≠ 2 ∧ c.txt ≠ []) then 1 else if 16 < c.txt.length then 2 else 0
def chkL (k : Int) : List Cl → Nat
  | [] => 0
  | c :: t => if cellE k c ≠ 0 then cellE k c else chkL k t
def chk (k : Int) (l : List Cl) : Nat := if k ≠ 1 ∧ k ≠ 2 then 7 else if 64 < l.length then 2 else chkL k l
def here (c : Cl) : Bool := decide (c.kind ≠ 0)
def dense (l : List Cl) : List Cl := l.filter here
theorem chkL_zero (k : Int) : ∀ l : List Cl, chkL k l = 0 ↔ ∀ c ∈ l, cellE k c = 0 := by
  intro l
  induction l with
  | nil => simp [chkL]
  | cons c t ih =>
    rw [chkL]
    by_cases h : cellE k c ≠ 0
    · rw [if_pos h]
      exact ⟨fun e => absurd e h, fun e => absurd (e c (by simp)) h⟩
    · rw [if_neg h, ih]
      constructor
      · intro hh x hx
        rcases List.mem_cons.1 hx with e | e
        · subst e; omega
        · exact hh x e
      · exact fun hh x hx => hh x (by simp [hx])
theorem chkL_at (k : Int) : ∀ (l : List Cl) (i : Nat) (hi : i < l.length), (∀ j (hj : j < i), cellE k (l[j]'(by omega)) = 0) → cellE k l[i] ≠ 0 → chkL k l = cellE k l[i] := by
  intro l
  induction l with
  | nil => intro i hi; simp at hi
  | cons c t ih =>
    intro i hi h0 h1
    rw [chkL]
    cases i with
    | zero =>
      have h1' : cellE k c ≠ 0 := h1
      rw [if_pos h1']; rfl
    | succ i =>
      have h := h0 0 (by omega)
      have h' : cellE k c = 0 := h
      rw [if_neg (by omega)]
      exact ih i (by simpa using hi) (fun j hj => h0 (j + 1) (by omega)) h1
theorem chk_ok {k : Int} {l : List Cl} (h : chk k l = 0) : (k = 1 ∨ k = 2) ∧ l.length ≤ 64 ∧ ∀ c ∈ l, cellE k c = 0 := by
  unfold chk at h
  by_cases h1 : k ≠ 1 ∧ k ≠ 2
  · rw [if_pos h1] at h; exact absurd h (by decide)
  rw [if_neg h1] at h
  by_cases h2 : 64 < l.length
  · rw [if_pos h2] at h; exact absurd h (by decide)
  rw [if_neg h2] at h
  exact ⟨by omega, by omega, (chkL_zero k l).1 h⟩
theorem chk_of {k : Int} {l : List Cl} (hk : k = 1 ∨ k = 2) (hl : l.length ≤ 64) (h : ∀ c ∈ l, cellE k c = 0) : chk k l = 0 := by
  unfold chk
  rw [if_neg (by omega), if_neg (by omega)]
  exact (chkL_zero k l).2 h
theorem cell_ok {k : Int} {c : Cl} (h : cellE k c = 0) : (c.kind = 0 → c = null) ∧ (c.kind = 0 ∨ c.kind = k) ∧ c.txt.length ≤ 16 ∧ (c.kind = 1 ∨ c.num = 0) ∧ (c.kind = 2 ∨ c.txt = []) := by
  unfold cellE at h
  by_cases h1 : c.kind ≠ 0 ∧ c.kind ≠ k
  · rw [if_pos h1] at h; exact absurd h (by decide)
  rw [if_neg h1] at h
  by_cases h2 : (c.kind ≠ 1 ∧ c.num ≠ 0) ∨ (c.kind ≠ 2 ∧ c.txt ≠ [])
  · rw [if_pos h2] at h; exact absurd h (by decide)
  rw [if_neg h2] at h
  by_cases h3 : 16 < c.txt.length
  · rw [if_pos h3] at h; exact absurd h (by decide)
  have a1 : c.kind = 1 ∨ c.num = 0 := by
    rcases Classical.em (c.kind = 1) with e | e
    · exact Or.inl e
    · rcases Classical.em (c.num = 0) with e2 | e2
      · exact Or.inr e2
      · exact absurd (Or.inl ⟨e, e2⟩) h2
  have a2 : c.kind = 2 ∨ c.txt = [] := by
    rcases Classical.em (c.kind = 2) with e | e
    · exact Or.inl e
    · rcases Classical.em (c.txt = []) with e2 | e2
      · exact Or.inr e2
      · exact absurd (Or.inr ⟨e, e2⟩) h2
  refine ⟨fun e => ?_, by omega, by omega, a1, a2⟩
  obtain ⟨ck, cn, ct⟩ := c
  simp only at e a1 a2
  have b1 : cn = 0 := a1.resolve_left (by omega)
  have b2 : ct = [] := a2.resolve_left (by omega)
  subst e; subst b1; subst b2; rfl
theorem dense_ok {k : Int} {l : List Cl} (h : chk k l = 0) : chk k (dense l) = 0 := by
  obtain ⟨h1, h2, h3⟩ := chk_ok h
  refine chk_of h1 (Nat.le_trans (List.length_filter_le _ _) h2) fun c hc => h3 c (List.mem_filter.1 hc).1
theorem dense_cnt : ∀ l : List Cl, M.cnt (l.map here) = (dense l).length := by
  intro l
  induction l with
  | nil => rfl
  | cons c t ih =>
    have hd : dense (c :: t) = if here c = true then c :: dense t else dense t := by
      unfold dense; rw [List.filter_cons]
    rw [hd, List.map_cons, M.cnt, ih]
    cases here c
    · simp
    · simp; omega

/-- marks and cells put together -/
def join : List Bool → List Cl → List Cl
  | [], _ => []
  | true :: m, c :: d => c :: join m d
  | true :: m, [] => null :: join m []
  | false :: m, d => null :: join m d
theorem join_length : ∀ (m : List Bool) (d : List Cl), (join m d).length = m.length := by
  intro m
  induction m with
  | nil => intro d; cases d <;> rfl
  | cons b m ih =>
    intro d
    cases b
    · rw [join, List.length_cons, List.length_cons, ih]
    · cases d with
      | nil => rw [join, List.length_cons, List.length_cons, ih]
      | cons c d => rw [join, List.length_cons, List.length_cons, ih]
theorem join_at : ∀ (m : List Bool) (d : List Cl) (i : Nat) (hi : i < m.length), (join m d).getD i null = if m.getD i false = true then d.getD (M.cnt (m.take i)) null else null := by
  intro m
  induction m with
  | nil => intro d i hi; simp at hi
  | cons b m ih =>
    intro d i hi
    cases i with
    | zero =>
      cases b
      · rw [join]; rfl
      · cases d with
        | nil => rw [join]; rfl
        | cons c d => rw [join]; rfl
    | succ i =>
      have hi' : i < m.length := by simpa using hi
      cases b
      · rw [join]
        show (join m d).getD i null = _
        rw [ih d i hi']
        have : M.cnt ((false :: m).take (i + 1)) = M.cnt (m.take i) := by rw [List.take_succ_cons, M.cnt]; simp
        rw [this]; rfl
      · have hc : M.cnt ((true :: m).take (i + 1)) = M.cnt (m.take i) + 1 := by rw [List.take_succ_cons, M.cnt]; simp; try omega
        rw [hc]
        cases d with
        | nil =>
          rw [join]
          show (join m []).getD i null = _
          rw [ih [] i hi']; rfl
        | cons c d =>
          rw [join]
          show (join m d).getD i null = _
          rw [ih d i hi']; rfl
/-- what was split is joined as it was -/
theorem join_back : ∀ l : List Cl, (∀ c ∈ l, c.kind = 0 → c = null) → join (l.map here) (dense l) = l := by
  intro l
  induction l with
  | nil => intro _; rfl
  | cons c t ih =>
    intro h
    have hi := ih (fun x hx => h x (by simp [hx]))
    have hd : dense (c :: t) = if here c = true then c :: dense t else dense t := by
      unfold dense; rw [List.filter_cons]
    rw [hd, List.map_cons]
    by_cases hc : c.kind = 0
    · have : here c = false := by simp [here, hc]
      rw [this, if_neg (by simp), join, hi, ← h c (by simp) hc]
    · have : here c = true := by simp [here, hc]
      rw [this, if_pos rfl, join, hi]
def joinR (k : Int) (m : List Bool) (l : List Cl) : List Cl × Nat :=
  if chk k l ≠ 0 then ([], chk k l) else if (dense l).length < l.length then ([], 7) else if 64 < m.length then ([], 2) else if M.cnt m ≠ l.length then ([], 1) else (join m l, 0)
theorem dense_dense (l : List Cl) : dense (dense l) = dense l := by unfold dense; rw [List.filter_filter]; simp
theorem joinR_back {k : Int} {l : List Cl} (h : chk k l = 0) : joinR k (l.map here) (dense l) = (l, 0) := by
  obtain ⟨h1, h2, h3⟩ := chk_ok h
  unfold joinR
  rw [if_neg (by rw [dense_ok h]; simp), if_neg (by rw [dense_dense]; omega), if_neg (by simp; omega), if_neg (by rw [dense_cnt]; simp), join_back l fun c hc => (cell_ok (h3 c hc)).1]

/-- the order of cells -/
def less (a b : Cl) : Bool :=
  if a.kind = 0 ∧ b.kind ≠ 0 then true else if b.kind = 0 ∧ a.kind ≠ 0 then false else if a.kind ≠ b.kind then decide (a.kind < b.kind) else if a.num ≠ b.num then decide (a.num < b.num) else decide (a.txt < b.txt)
/-- as one order of keys -/
def Less (a b : Cl) : Prop := (a.kind = 0 ∧ b.kind ≠ 0) ∨ ((a.kind = 0 ↔ b.kind = 0) ∧ (a.kind < b.kind ∨ (a.kind = b.kind ∧ (a.num < b.num ∨ (a.num = b.num ∧ a.txt < b.txt)))))
theorem less_iff (a b : Cl) : less a b = true ↔ Less a b := by
  unfold less Less
  by_cases h1 : a.kind = 0 ∧ b.kind ≠ 0
  · rw [if_pos h1]; exact ⟨fun _ => Or.inl h1, fun _ => rfl⟩
  rw [if_neg h1]
  by_cases h2 : b.kind = 0 ∧ a.kind ≠ 0
  · rw [if_pos h2]
    refine ⟨fun h => by simp at h, ?_⟩
    rintro (h | ⟨h, _⟩)
    · exact absurd h h1
    · exact absurd (h.2 h2.1) h2.2
  rw [if_neg h2]
  have hiff : a.kind = 0 ↔ b.kind = 0 := by
    constructor
    · intro e
      rcases Classical.em (b.kind = 0) with k | k
      · exact k
      · exact absurd ⟨e, k⟩ h1
    · intro e
      rcases Classical.em (a.kind = 0) with k | k
      · exact k
      · exact absurd ⟨e, k⟩ h2
  by_cases h3 : a.kind ≠ b.kind
  · rw [if_pos h3, decide_eq_true_iff]
    refine ⟨fun h => Or.inr ⟨hiff, Or.inl h⟩, ?_⟩
    rintro (h | ⟨_, h | h⟩)
    · exact absurd h h1
    · exact h
    · exact absurd h.1 h3
  rw [if_neg h3]
  have h3' : a.kind = b.kind := Classical.not_not.1 h3
  by_cases h4 : a.num ≠ b.num
  · rw [if_pos h4, decide_eq_true_iff]
    refine ⟨fun h => Or.inr ⟨hiff, Or.inr ⟨h3', Or.inl h⟩⟩, ?_⟩
    rintro (h | ⟨_, h | ⟨_, h | h⟩⟩)
    · exact absurd h h1
    · omega
    · exact h
    · exact absurd h.1 h4
  rw [if_neg h4, decide_eq_true_iff]
  have h4' : a.num = b.num := Classical.not_not.1 h4
  refine ⟨fun h => Or.inr ⟨hiff, Or.inr ⟨h3', Or.inr ⟨h4', h⟩⟩⟩, ?_⟩
  rintro (h | ⟨_, h | ⟨_, h | h⟩⟩)
  · exact absurd h h1
  · omega
  · omega
  · exact h.2
theorem less_irr (a : Cl) : ¬ Less a a := by
  rintro (h | ⟨_, h | ⟨_, h | h⟩⟩)
  · exact h.2 h.1
  · omega
  · omega
  · exact T.lt_irr _ h.2
theorem less_tr {a b c : Cl} (h1 : Less a b) (h2 : Less b c) : Less a c := by
  rcases h1 with h1 | ⟨i1, h1⟩
  · rcases h2 with h2 | ⟨i2, h2⟩
    · exact absurd h2.1 h1.2
    · exact Or.inl ⟨h1.1, fun e => h1.2 (i2.2 e)⟩
  · rcases h2 with h2 | ⟨i2, h2⟩
    · exact Or.inl ⟨i1.2 h2.1, h2.2⟩
    · refine Or.inr ⟨i1.trans i2, ?_⟩
      rcases h1 with h1 | ⟨e1, h1⟩
      · rcases h2 with h2 | ⟨e2, h2⟩
        · exact Or.inl (by omega)
        · exact Or.inl (by omega)
      · rcases h2 with h2 | ⟨e2, h2⟩
        · exact Or.inl (by omega)
        · refine Or.inr ⟨by omega, ?_⟩
          rcases h1 with h1 | ⟨n1, h1⟩
          · rcases h2 with h2 | ⟨n2, h2⟩
            · exact Or.inl (by omega)
            · exact Or.inl (by omega)
          · rcases h2 with h2 | ⟨n2, h2⟩
            · exact Or.inl (by omega)
            · exact Or.inr ⟨by omega, T.lt_tr h1 h2⟩
theorem less_tri (a b : Cl) : Less a b ∨ a = b ∨ Less b a := by
  by_cases hk : a.kind = b.kind
  · rcases Nat.lt_trichotomy a.num b.num with h | h | h
    · exact Or.inl (Or.inr ⟨by rw [hk], Or.inr ⟨hk, Or.inl h⟩⟩)
    · rcases T.tri a.txt b.txt with t | t | t
      · exact Or.inl (Or.inr ⟨by rw [hk], Or.inr ⟨hk, Or.inr ⟨h, t⟩⟩⟩)
      · refine Or.inr (Or.inl ?_)
        obtain ⟨ak, an, at_⟩ := a
        obtain ⟨bk, bn, bt⟩ := b
        simp only at hk h t
        subst hk; subst h; subst t; rfl
      · exact Or.inr (Or.inr (Or.inr ⟨by rw [hk], Or.inr ⟨hk.symm, Or.inr ⟨h.symm, t⟩⟩⟩))
    · exact Or.inr (Or.inr (Or.inr ⟨by rw [hk], Or.inr ⟨hk.symm, Or.inl h⟩⟩))
  · by_cases ha : a.kind = 0
    · exact Or.inl (Or.inl ⟨ha, fun e => hk (by omega)⟩)
    · by_cases hb : b.kind = 0
      · exact Or.inr (Or.inr (Or.inl ⟨hb, ha⟩))
      · rcases Int.lt_or_lt_of_ne hk with h | h
        · exact Or.inl (Or.inr ⟨⟨fun e => absurd e ha, fun e => absurd e hb⟩, Or.inl h⟩)
        · exact Or.inr (Or.inr (Or.inr ⟨⟨fun e => absurd e hb, fun e => absurd e ha⟩, Or.inl h⟩))
/-- the law: just one of two that differ, and what is less than what is less is less -/
theorem less_law (a b c : Cl) : ((less a b || less b a) == decide (a ≠ b)) = true ∧ (less a b && less b a) = false ∧ (!less a b || !less b c || less a c) = true := by
  have i1 := less_iff a b
  have i2 := less_iff b a
  have i3 := less_iff b c
  have i4 := less_iff a c
  refine ⟨?_, ?_, ?_⟩
  · rw [beq_iff_eq, Bool.eq_iff_iff, Bool.or_eq_true, decide_eq_true_iff, i1, i2]
    constructor
    · rintro (h | h) e
      · subst e; exact less_irr _ h
      · subst e; exact less_irr _ h
    · intro h
      rcases less_tri a b with k | k | k
      · exact Or.inl k
      · exact absurd k h
      · exact Or.inr k
  · rw [Bool.eq_false_iff]
    intro h
    rw [Bool.and_eq_true, i1, i2] at h
    exact less_irr _ (less_tr h.1 h.2)
  · cases h1 : less a b with
    | false => rfl
    | true =>
      cases h2 : less b c with
      | false => rfl
      | true =>
        have := i4.2 (less_tr (i1.1 h1) (i3.1 h2))
        rw [this]; rfl
end Go.Proofs.Ytbhggbohkddlaaa.C
