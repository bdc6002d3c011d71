/- Plain mathematics of what is known of a column. -/
import Derived.Test.YtgkhkfmlldnogaaNPlain
namespace Go.Proofs.Ytgkhkfmlldnogaa.S
open C
set_option linter.unusedVariables false

/-- what is known: how many rows, how many Nulls, the least and the greatest cell -/
structure St where
  rows : Int
  nulls : Int
  least : Cl
  most : Cl
deriving DecidableEq
def zero : St := ⟨0, 0, null, null⟩

theorem lirr (a : Cl) : less a a = false := by
  cases h : less a a with
  | false => rfl
  | true => exact absurd ((less_iff a a).1 h) (less_irr a)
theorem ltr {a b c : Cl} (h1 : less a b = true) (h2 : less b c = true) : less a c = true := (less_iff a c).2 (less_tr ((less_iff a b).1 h1) ((less_iff b c).1 h2))
theorem lasym {a b : Cl} (h : less a b = true) : less b a = false := by
  cases h2 : less b a with
  | false => rfl
  | true => have := ltr h h2; rw [lirr] at this; exact absurd this (by decide)
theorem ltri {a b : Cl} (h1 : less a b = false) (h2 : less b a = false) : a = b := by
  rcases less_tri a b with h | h | h
  · rw [(less_iff a b).2 h] at h1; exact absurd h1 (by decide)
  · exact h
  · rw [(less_iff b a).2 h] at h2; exact absurd h2 (by decide)
/-- not above, not above: not above -/
theorem le_tr {a b c : Cl} (h1 : less b a = false) (h2 : less c b = false) : less c a = false := by
  cases h : less c a with
  | false => rfl
  | true =>
    cases h3 : less b c with
    | true => have := ltr h3 h; rw [h1] at this; exact absurd this (by decide)
    | false =>
      have e := ltri h3 h2
      subst e
      rw [h1] at h; exact absurd h (by decide)

/-- the least of a list, the greatest -/
def isL (d : List Cl) (m : Cl) : Prop := m ∈ d ∧ ∀ x ∈ d, less x m = false
def isM (d : List Cl) (m : Cl) : Prop := m ∈ d ∧ ∀ x ∈ d, less m x = false
theorem isL_one {d : List Cl} {m n : Cl} (h : isL d m) (k : isL d n) : m = n := ltri (k.2 m h.1) (h.2 n k.1)
theorem isM_one {d : List Cl} {m n : Cl} (h : isM d m) (k : isM d n) : m = n := ltri (h.2 n k.1) (k.2 m h.1)
def mn (a b : Cl) : Cl := if less b a = true then b else a
def mx (a b : Cl) : Cl := if less a b = true then b else a
theorem mn_cases (a b : Cl) : (mn a b = a ∧ less b a = false) ∨ (mn a b = b ∧ less a b = false) := by
  unfold mn
  cases h : less b a with
  | true => exact Or.inr ⟨if_pos rfl, lasym h⟩
  | false => exact Or.inl ⟨if_neg (by decide), rfl⟩
theorem mx_cases (a b : Cl) : (mx a b = a ∧ less a b = false) ∨ (mx a b = b ∧ less b a = false) := by
  unfold mx
  cases h : less a b with
  | true => exact Or.inr ⟨if_pos rfl, lasym h⟩
  | false => exact Or.inl ⟨if_neg (by decide), rfl⟩
theorem mn_le (a b : Cl) : less a (mn a b) = false ∧ less b (mn a b) = false := by
  rcases mn_cases a b with ⟨e, h⟩ | ⟨e, h⟩
  · rw [e]; exact ⟨lirr a, h⟩
  · rw [e]; exact ⟨h, lirr b⟩
theorem mx_le (a b : Cl) : less (mx a b) a = false ∧ less (mx a b) b = false := by
  rcases mx_cases a b with ⟨e, h⟩ | ⟨e, h⟩
  · rw [e]; exact ⟨lirr a, h⟩
  · rw [e]; exact ⟨h, lirr b⟩
theorem mn_isL (d e : List Cl) (a b : Cl) (ha : isL d a) (hb : isL e b) : isL (d ++ e) (mn a b) := by
  refine ⟨?_, fun x hx => ?_⟩
  · rcases mn_cases a b with ⟨h, _⟩ | ⟨h, _⟩
    · rw [h]; exact List.mem_append_left _ ha.1
    · rw [h]; exact List.mem_append_right _ hb.1
  · rcases List.mem_append.1 hx with h | h
    · exact le_tr (mn_le a b).1 (ha.2 x h)
    · exact le_tr (mn_le a b).2 (hb.2 x h)
theorem mx_isM (d e : List Cl) (a b : Cl) (ha : isM d a) (hb : isM e b) : isM (d ++ e) (mx a b) := by
  refine ⟨?_, fun x hx => ?_⟩
  · rcases mx_cases a b with ⟨h, _⟩ | ⟨h, _⟩
    · rw [h]; exact List.mem_append_left _ ha.1
    · rw [h]; exact List.mem_append_right _ hb.1
  · rcases List.mem_append.1 hx with h | h
    · exact le_tr (ha.2 x h) (mx_le a b).1
    · exact le_tr (hb.2 x h) (mx_le a b).2
theorem isL_single (a : Cl) : isL [a] a := ⟨by simp, fun x hx => by simp at hx; subst hx; exact lirr _⟩
theorem isM_single (a : Cl) : isM [a] a := ⟨by simp, fun x hx => by simp at hx; subst hx; exact lirr _⟩
def least : List Cl → Cl
  | [] => null
  | c :: t => t.foldl mn c
def most : List Cl → Cl
  | [] => null
  | c :: t => t.foldl mx c
theorem fold_isL : ∀ (t d : List Cl) (c : Cl), isL d c → isL (d ++ t) (t.foldl mn c) := by
  intro t
  induction t with
  | nil => intro d c h; simpa using h
  | cons x t ih =>
    intro d c h
    have := ih (d ++ [x]) (mn c x) (mn_isL d [x] c x h (isL_single x))
    rw [List.append_assoc] at this
    exact this
theorem fold_isM : ∀ (t d : List Cl) (c : Cl), isM d c → isM (d ++ t) (t.foldl mx c) := by
  intro t
  induction t with
  | nil => intro d c h; simpa using h
  | cons x t ih =>
    intro d c h
    have := ih (d ++ [x]) (mx c x) (mx_isM d [x] c x h (isM_single x))
    rw [List.append_assoc] at this
    exact this
theorem least_isL {d : List Cl} (h : d ≠ []) : isL d (least d) := by
  cases d with
  | nil => exact absurd rfl h
  | cons c t => exact fold_isL t [c] c (isL_single c)
theorem most_isM {d : List Cl} (h : d ≠ []) : isM d (most d) := by
  cases d with
  | nil => exact absurd rfl h
  | cons c t => exact fold_isM t [c] c (isM_single c)
theorem least_of {d : List Cl} {m : Cl} (h : isL d m) : least d = m := isL_one (least_isL (fun e => by rw [e] at h; exact absurd h.1 (by simp))) h
theorem most_of {d : List Cl} {m : Cl} (h : isM d m) : most d = m := isM_one (most_isM (fun e => by rw [e] at h; exact absurd h.1 (by simp))) h
theorem least_snoc (d : List Cl) (c : Cl) (h : d ≠ []) : least (d ++ [c]) = mn (least d) c := least_of (mn_isL d [c] _ _ (least_isL h) (isL_single c))
theorem most_snoc (d : List Cl) (c : Cl) (h : d ≠ []) : most (d ++ [c]) = mx (most d) c := most_of (mx_isM d [c] _ _ (most_isM h) (isM_single c))

/-- what is known of a list -/
def known (l : List Cl) : St := ⟨l.length, (l.length : Int) - ((dense l).length : Int), least (dense l), most (dense l)⟩
/-- is that what may be known? -/
def ck (k : Int) (s : St) : Nat :=
  if k ≠ 1 ∧ k ≠ 2 then 7
  else if s.rows < 0 ∨ 128 < s.rows ∨ s.nulls < 0 ∨ s.rows < s.nulls then 3
  else if cellE k s.least ≠ 0 then cellE k s.least
  else if cellE k s.most ≠ 0 then cellE k s.most
  else if (s.nulls = s.rows ∧ (s.least.kind ≠ 0 ∨ s.most.kind ≠ 0)) ∨ (s.nulls < s.rows ∧ (s.least.kind = 0 ∨ s.most.kind = 0)) ∨ less s.most s.least = true then 4 else 0
/-- the lesser of two that may be Nulls; the greater -/
def lo (x y : Cl) : Cl := if x.kind = 0 then y else if y.kind = 0 then x else mn x y
def hi (x y : Cl) : Cl := if x.kind = 0 then y else if y.kind = 0 then x else mx x y
def plus (a b : St) : St := ⟨a.rows + b.rows, a.nulls + b.nulls, lo a.least b.least, hi a.most b.most⟩
def mg (k : Int) (a b : St) : St × Nat :=
  if ck k a ≠ 0 then (zero, ck k a) else if ck k b ≠ 0 then (zero, ck k b) else if 128 < a.rows + b.rows then (zero, 2) else (plus a b, 0)

/-- what a Check of nought says -/
structure Ok (k : Int) (s : St) : Prop where
  kind : k = 1 ∨ k = 2
  r0 : 0 ≤ s.rows
  r1 : s.rows ≤ 128
  n0 : 0 ≤ s.nulls
  n1 : s.nulls ≤ s.rows
  le : cellE k s.least = 0
  me : cellE k s.most = 0
  lm : less s.most s.least = false
  st : (s.nulls = s.rows ∧ s.least = null ∧ s.most = null) ∨ (s.nulls < s.rows ∧ s.least.kind = k ∧ s.most.kind = k)
theorem ck_ok {k : Int} {s : St} (h : ck k s = 0) : Ok k s := by
  unfold ck at h
  by_cases h1 : k ≠ 1 ∧ k ≠ 2
  · rw [if_pos h1] at h; exact absurd h (by decide)
  rw [if_neg h1] at h
  by_cases h2 : s.rows < 0 ∨ 128 < s.rows ∨ s.nulls < 0 ∨ s.rows < s.nulls
  · rw [if_pos h2] at h; exact absurd h (by decide)
  rw [if_neg h2] at h
  by_cases h3 : cellE k s.least ≠ 0
  · rw [if_pos h3] at h; exact absurd h h3
  rw [if_neg h3] at h
  by_cases h4 : cellE k s.most ≠ 0
  · rw [if_pos h4] at h; exact absurd h h4
  rw [if_neg h4] at h
  by_cases h5 : (s.nulls = s.rows ∧ (s.least.kind ≠ 0 ∨ s.most.kind ≠ 0)) ∨ (s.nulls < s.rows ∧ (s.least.kind = 0 ∨ s.most.kind = 0)) ∨ less s.most s.least = true
  · rw [if_pos h5] at h; exact absurd h (by decide)
  have h3' : cellE k s.least = 0 := Classical.not_not.1 h3
  have h4' : cellE k s.most = 0 := Classical.not_not.1 h4
  obtain ⟨c1, c2, _⟩ := cell_ok h3'
  obtain ⟨d1, d2, _⟩ := cell_ok h4'
  have lm : less s.most s.least = false := by
    cases hq : less s.most s.least with
    | false => rfl
    | true => exact absurd (Or.inr (Or.inr hq)) h5
  refine ⟨by omega, by omega, by omega, by omega, by omega, h3', h4', lm, ?_⟩
  by_cases hn : s.nulls = s.rows
  · have e1 : s.least.kind = 0 := by
      rcases Classical.em (s.least.kind = 0) with e | e
      · exact e
      · exact absurd (Or.inl ⟨hn, Or.inl e⟩) h5
    have e2 : s.most.kind = 0 := by
      rcases Classical.em (s.most.kind = 0) with e | e
      · exact e
      · exact absurd (Or.inl ⟨hn, Or.inr e⟩) h5
    exact Or.inl ⟨hn, c1 e1, d1 e2⟩
  · have hl : s.nulls < s.rows := by omega
    have e1 : s.least.kind ≠ 0 := fun e => h5 (Or.inr (Or.inl ⟨hl, Or.inl e⟩))
    have e2 : s.most.kind ≠ 0 := fun e => h5 (Or.inr (Or.inl ⟨hl, Or.inr e⟩))
    exact Or.inr ⟨hl, c2.resolve_left e1, d2.resolve_left e2⟩
theorem ck_of {k : Int} {s : St} (h : Ok k s) : ck k s = 0 := by
  unfold ck
  obtain ⟨a, b, c, d, e, f, g, i, j⟩ := h
  rw [if_neg (by omega), if_neg (by omega), if_neg (by simp [f]), if_neg (by simp [g]), if_neg]
  rintro (⟨h1, h2⟩ | ⟨h1, h2⟩ | h1)
  · rcases j with ⟨_, j1, j2⟩ | ⟨j0, _⟩
    · rcases h2 with h2 | h2
      · exact h2 (by rw [j1]; rfl)
      · exact h2 (by rw [j2]; rfl)
    · omega
  · rcases j with ⟨j0, _⟩ | ⟨_, j1, j2⟩
    · omega
    · rcases h2 with h2 | h2
      · omega
      · omega
  · rw [i] at h1; exact absurd h1 (by decide)
theorem null_kind : null.kind = 0 := rfl
theorem Ok.zero {k : Int} (h : k = 1 ∨ k = 2) : Ok k S.zero := by
  have e : cellE k null = 0 := by unfold cellE null; simp
  exact ⟨h, by decide, by decide, by decide, by decide, e, e, lirr _, Or.inl ⟨rfl, rfl, rfl⟩⟩
/-- the four cells of two that are known -/
theorem four {k : Int} {a b : St} (ha : Ok k a) (hb : Ok k b) : least (dense [a.least, a.most, b.least, b.most]) = lo a.least b.least ∧ most (dense [a.least, a.most, b.least, b.most]) = hi a.most b.most := by
  have hk := ha.kind
  have hd : ∀ (x : Cl) (t : List Cl), dense (x :: t) = if x.kind = 0 then dense t else x :: dense t := fun x t => by
    unfold dense
    rw [List.filter_cons]
    by_cases h : x.kind = 0
    · have : here x = false := by simp [here, h]
      rw [this, if_pos h, if_neg (by decide)]
    · have : here x = true := by simp [here, h]
      rw [this, if_neg h, if_pos rfl]
  have hn : dense [] = [] := rfl
  rw [hd, hd, hd, hd, hn]
  unfold lo hi
  rcases ha.st with ⟨_, a1, a2⟩ | ⟨_, a1, a2⟩
  · have x1 : a.least.kind = 0 := by rw [a1]; rfl
    have x2 : a.most.kind = 0 := by rw [a2]; rfl
    simp only [if_pos x1, if_pos x2]
    rcases hb.st with ⟨_, b1, b2⟩ | ⟨_, b1, b2⟩
    · have y1 : b.least.kind = 0 := by rw [b1]; rfl
      have y2 : b.most.kind = 0 := by rw [b2]; rfl
      simp only [if_pos y1, if_pos y2]
      rw [b1, b2]; exact ⟨rfl, rfl⟩
    · have y1 : ¬ b.least.kind = 0 := by omega
      have y2 : ¬ b.most.kind = 0 := by omega
      simp only [if_neg y1, if_neg y2]
      have hl := hb.lm
      refine ⟨least_of ⟨by simp, ?_⟩, most_of ⟨by simp, ?_⟩⟩
      · intro x hx; simp at hx; rcases hx with rfl | rfl
        · exact lirr _
        · exact hl
      · intro x hx; simp at hx; rcases hx with rfl | rfl
        · exact hl
        · exact lirr _
  · have x1 : ¬ a.least.kind = 0 := by omega
    have x2 : ¬ a.most.kind = 0 := by omega
    simp only [if_neg x1, if_neg x2]
    have hl := ha.lm
    rcases hb.st with ⟨_, b1, b2⟩ | ⟨_, b1, b2⟩
    · have y1 : b.least.kind = 0 := by rw [b1]; rfl
      have y2 : b.most.kind = 0 := by rw [b2]; rfl
      simp only [if_pos y1, if_pos y2]
      refine ⟨least_of ⟨by simp, ?_⟩, most_of ⟨by simp, ?_⟩⟩
      · intro x hx; simp at hx; rcases hx with rfl | rfl
        · exact lirr _
        · exact hl
      · intro x hx; simp at hx; rcases hx with rfl | rfl
        · exact hl
        · exact lirr _
    · have y1 : ¬ b.least.kind = 0 := by omega
      have y2 : ¬ b.most.kind = 0 := by omega
      simp only [if_neg y1, if_neg y2]
      have hl2 := hb.lm
      have ia : isL [a.least, a.most] a.least := ⟨by simp, fun x hx => by
        simp at hx; rcases hx with rfl | rfl
        · exact lirr _
        · exact hl⟩
      have ib : isL [b.least, b.most] b.least := ⟨by simp, fun x hx => by
        simp at hx; rcases hx with rfl | rfl
        · exact lirr _
        · exact hl2⟩
      have ja : isM [a.least, a.most] a.most := ⟨by simp, fun x hx => by
        simp at hx; rcases hx with rfl | rfl
        · exact hl
        · exact lirr _⟩
      have jb : isM [b.least, b.most] b.most := ⟨by simp, fun x hx => by
        simp at hx; rcases hx with rfl | rfl
        · exact hl2
        · exact lirr _⟩
      exact ⟨least_of (mn_isL _ _ _ _ ia ib), most_of (mx_isM _ _ _ _ ja jb)⟩

theorem mn_comm (a b : Cl) : mn a b = mn b a := by
  have h1 := mn_isL [a] [b] a b (isL_single a) (isL_single b)
  have h2 := mn_isL [b] [a] b a (isL_single b) (isL_single a)
  refine isL_one h1 ⟨?_, fun x hx => h2.2 x ?_⟩
  · have := h2.1; simp at this ⊢; exact this.symm
  · simp at hx ⊢; exact hx.symm
theorem mx_comm (a b : Cl) : mx a b = mx b a := by
  have h1 := mx_isM [a] [b] a b (isM_single a) (isM_single b)
  have h2 := mx_isM [b] [a] b a (isM_single b) (isM_single a)
  refine isM_one h1 ⟨?_, fun x hx => h2.2 x ?_⟩
  · have := h2.1; simp at this ⊢; exact this.symm
  · simp at hx ⊢; exact hx.symm
theorem mn_assoc (a b c : Cl) : mn (mn a b) c = mn a (mn b c) := by
  have h1 := mn_isL _ _ _ _ (mn_isL [a] [b] a b (isL_single a) (isL_single b)) (isL_single c)
  have h2 := mn_isL _ _ _ _ (isL_single a) (mn_isL [b] [c] b c (isL_single b) (isL_single c))
  exact isL_one h1 h2
theorem mx_assoc (a b c : Cl) : mx (mx a b) c = mx a (mx b c) := by
  have h1 := mx_isM _ _ _ _ (mx_isM [a] [b] a b (isM_single a) (isM_single b)) (isM_single c)
  have h2 := mx_isM _ _ _ _ (isM_single a) (mx_isM [b] [c] b c (isM_single b) (isM_single c))
  exact isM_one h1 h2
theorem mn_kind {a b : Cl} (ha : a.kind ≠ 0) (hb : b.kind ≠ 0) : (mn a b).kind ≠ 0 := by
  rcases mn_cases a b with ⟨e, _⟩ | ⟨e, _⟩ <;> rw [e] <;> assumption
theorem mx_kind {a b : Cl} (ha : a.kind ≠ 0) (hb : b.kind ≠ 0) : (mx a b).kind ≠ 0 := by
  rcases mx_cases a b with ⟨e, _⟩ | ⟨e, _⟩ <;> rw [e] <;> assumption
/-- a Null is nothing else -/
def Nl (x : Cl) : Prop := x.kind = 0 → x = null
theorem lo_comm {a b : Cl} (ha : Nl a) (hb : Nl b) : lo a b = lo b a := by
  unfold lo
  by_cases h1 : a.kind = 0
  · by_cases h2 : b.kind = 0
    · rw [if_pos h1, if_pos h2, ha h1, hb h2]
    · rw [if_pos h1, if_neg h2, if_pos h1]
  · by_cases h2 : b.kind = 0
    · rw [if_neg h1, if_pos h2, if_pos h2]
    · rw [if_neg h1, if_neg h2, if_neg h2, if_neg h1, mn_comm]
theorem hi_comm {a b : Cl} (ha : Nl a) (hb : Nl b) : hi a b = hi b a := by
  unfold hi
  by_cases h1 : a.kind = 0
  · by_cases h2 : b.kind = 0
    · rw [if_pos h1, if_pos h2, ha h1, hb h2]
    · rw [if_pos h1, if_neg h2, if_pos h1]
  · by_cases h2 : b.kind = 0
    · rw [if_neg h1, if_pos h2, if_pos h2]
    · rw [if_neg h1, if_neg h2, if_neg h2, if_neg h1, mx_comm]
theorem lo_assoc (a b c : Cl) : lo (lo a b) c = lo a (lo b c) := by
  unfold lo
  by_cases h1 : a.kind = 0
  · rw [if_pos h1, if_pos h1]
  · rw [if_neg h1, if_neg h1]
    by_cases h2 : b.kind = 0
    · rw [if_pos h2, if_neg h1, if_pos h2]
    · rw [if_neg h2, if_neg (mn_kind h1 h2), if_neg h2]
      by_cases h3 : c.kind = 0
      · rw [if_pos h3, if_pos h3, if_neg h2]
      · rw [if_neg h3, if_neg h3, if_neg (mn_kind h2 h3), mn_assoc]
theorem hi_assoc (a b c : Cl) : hi (hi a b) c = hi a (hi b c) := by
  unfold hi
  by_cases h1 : a.kind = 0
  · rw [if_pos h1, if_pos h1]
  · rw [if_neg h1, if_neg h1]
    by_cases h2 : b.kind = 0
    · rw [if_pos h2, if_neg h1, if_pos h2]
    · rw [if_neg h2, if_neg (mx_kind h1 h2), if_neg h2]
      by_cases h3 : c.kind = 0
      · rw [if_pos h3, if_pos h3, if_neg h2]
      · rw [if_neg h3, if_neg h3, if_neg (mx_kind h2 h3), mx_assoc]
theorem Ok.nl {k : Int} {s : St} (h : Ok k s) : Nl s.least ∧ Nl s.most := ⟨(cell_ok h.le).1, (cell_ok h.me).1⟩
theorem plus_comm {k : Int} {a b : St} (ha : Ok k a) (hb : Ok k b) : plus a b = plus b a := by
  unfold plus
  rw [lo_comm ha.nl.1 hb.nl.1, hi_comm ha.nl.2 hb.nl.2, Int.add_comm a.rows, Int.add_comm a.nulls]
theorem plus_assoc (a b c : St) : plus (plus a b) c = plus a (plus b c) := by
  unfold plus
  simp only [lo_assoc, hi_assoc, Int.add_assoc]
theorem plus_zero {k : Int} {a : St} (ha : Ok k a) : plus a S.zero = a := by
  obtain ⟨r, n, x, y⟩ := a
  have h1 := ha.nl.1
  have h2 := ha.nl.2
  simp only at h1 h2
  unfold plus S.zero lo hi
  simp only [Int.add_zero]
  have e1 : (if x.kind = 0 then null else if null.kind = 0 then x else mn x null) = x := by
    by_cases h : x.kind = 0
    · rw [if_pos h, h1 h]
    · rw [if_neg h, if_pos null_kind]
  have e2 : (if y.kind = 0 then null else if null.kind = 0 then y else mx y null) = y := by
    by_cases h : y.kind = 0
    · rw [if_pos h, h2 h]
    · rw [if_neg h, if_pos null_kind]
  rw [e1, e2]
theorem lo_is (x y : Cl) : lo x y = x ∨ lo x y = y := by
  unfold lo
  by_cases h1 : x.kind = 0
  · rw [if_pos h1]; exact Or.inr rfl
  · by_cases h2 : y.kind = 0
    · rw [if_neg h1, if_pos h2]; exact Or.inl rfl
    · rw [if_neg h1, if_neg h2]
      rcases mn_cases x y with ⟨e, _⟩ | ⟨e, _⟩
      · exact Or.inl e
      · exact Or.inr e
theorem hi_is (x y : Cl) : hi x y = x ∨ hi x y = y := by
  unfold hi
  by_cases h1 : x.kind = 0
  · rw [if_pos h1]; exact Or.inr rfl
  · by_cases h2 : y.kind = 0
    · rw [if_neg h1, if_pos h2]; exact Or.inl rfl
    · rw [if_neg h1, if_neg h2]
      rcases mx_cases x y with ⟨e, _⟩ | ⟨e, _⟩
      · exact Or.inl e
      · exact Or.inr e
/-- what is merged may be known -/
theorem Ok.plus {k : Int} {a b : St} (ha : Ok k a) (hb : Ok k b) (hr : a.rows + b.rows ≤ 128) : Ok k (plus a b) := by
  have a0 := ha.r0
  have a2 := ha.n0
  have a3 := ha.n1
  have b0 := hb.r0
  have b2 := hb.n0
  have b3 := hb.n1
  have hk := ha.kind
  have c1 : cellE k (lo a.least b.least) = 0 := by
    rcases lo_is a.least b.least with e | e <;> rw [e]
    · exact ha.le
    · exact hb.le
  have c2 : cellE k (hi a.most b.most) = 0 := by
    rcases hi_is a.most b.most with e | e <;> rw [e]
    · exact ha.me
    · exact hb.me
  refine ⟨hk, by simp only [S.plus]; omega, by simp only [S.plus]; omega, by simp only [S.plus]; omega, by simp only [S.plus]; omega, c1, c2, ?_, ?_⟩
  · show less (hi a.most b.most) (lo a.least b.least) = false
    unfold lo hi
    rcases ha.st with ⟨_, a1, a2⟩ | ⟨_, a1, a2⟩
    · have x1 : a.least.kind = 0 := by rw [a1]; rfl
      have x2 : a.most.kind = 0 := by rw [a2]; rfl
      simp only [if_pos x1, if_pos x2]; exact hb.lm
    · have x1 : ¬ a.least.kind = 0 := by omega
      have x2 : ¬ a.most.kind = 0 := by omega
      simp only [if_neg x1, if_neg x2]
      rcases hb.st with ⟨_, b1, b2⟩ | ⟨_, b1, b2⟩
      · have y1 : b.least.kind = 0 := by rw [b1]; rfl
        have y2 : b.most.kind = 0 := by rw [b2]; rfl
        simp only [if_pos y1, if_pos y2]; exact ha.lm
      · have y1 : ¬ b.least.kind = 0 := by omega
        have y2 : ¬ b.most.kind = 0 := by omega
        simp only [if_neg y1, if_neg y2]
        exact le_tr (mn_le a.least b.least).1 (le_tr ha.lm (mx_le a.most b.most).1)
  · show (a.nulls + b.nulls = a.rows + b.rows ∧ lo a.least b.least = null ∧ hi a.most b.most = null) ∨ (a.nulls + b.nulls < a.rows + b.rows ∧ (lo a.least b.least).kind = k ∧ (hi a.most b.most).kind = k)
    unfold lo hi
    rcases ha.st with ⟨x0, a1, a2⟩ | ⟨x0, a1, a2⟩
    · have x1 : a.least.kind = 0 := by rw [a1]; rfl
      have x2 : a.most.kind = 0 := by rw [a2]; rfl
      simp only [if_pos x1, if_pos x2]
      rcases hb.st with ⟨y0, y1, y2⟩ | ⟨y0, y1, y2⟩
      · exact Or.inl ⟨by omega, y1, y2⟩
      · exact Or.inr ⟨by omega, y1, y2⟩
    · have x1 : ¬ a.least.kind = 0 := by omega
      have x2 : ¬ a.most.kind = 0 := by omega
      simp only [if_neg x1, if_neg x2]
      rcases hb.st with ⟨y0, b1, b2⟩ | ⟨y0, b1, b2⟩
      · have y1 : b.least.kind = 0 := by rw [b1]; rfl
        have y2 : b.most.kind = 0 := by rw [b2]; rfl
        simp only [if_pos y1, if_pos y2]
        exact Or.inr ⟨by omega, a1, a2⟩
      · have y1 : ¬ b.least.kind = 0 := by omega
        have y2 : ¬ b.most.kind = 0 := by omega
        simp only [if_neg y1, if_neg y2]
        refine Or.inr ⟨by omega, ?_, ?_⟩
        · rcases mn_cases a.least b.least with ⟨e, _⟩ | ⟨e, _⟩ <;> rw [e] <;> assumption
        · rcases mx_cases a.most b.most with ⟨e, _⟩ | ⟨e, _⟩ <;> rw [e] <;> assumption
theorem mg_ok {k : Int} {a b : St} (h : (mg k a b).2 = 0) : Ok k a ∧ Ok k b ∧ a.rows + b.rows ≤ 128 ∧ mg k a b = (plus a b, 0) := by
  unfold mg at *
  by_cases h1 : ck k a ≠ 0
  · rw [if_pos h1] at h; exact absurd h h1
  rw [if_neg h1] at h
  by_cases h2 : ck k b ≠ 0
  · rw [if_pos h2] at h; exact absurd h h2
  rw [if_neg h2] at h
  by_cases h3 : 128 < a.rows + b.rows
  · rw [if_pos h3] at h; exact absurd h (by decide)
  exact ⟨ck_ok (Classical.not_not.1 h1), ck_ok (Classical.not_not.1 h2), by omega, by rw [if_neg h1, if_neg h2, if_neg h3]⟩
theorem mg_of {k : Int} {a b : St} (ha : Ok k a) (hb : Ok k b) (hr : a.rows + b.rows ≤ 128) : mg k a b = (plus a b, 0) := by
  unfold mg
  rw [if_neg (by rw [ck_of ha]; simp), if_neg (by rw [ck_of hb]; simp), if_neg (by omega)]
theorem mg_bad {k : Int} {a b : St} (h : (mg k a b).2 ≠ 0) : (mg k a b).1 = zero := by
  unfold mg at *
  by_cases h1 : ck k a ≠ 0
  · rw [if_pos h1]
  rw [if_neg h1] at h ⊢
  by_cases h2 : ck k b ≠ 0
  · rw [if_pos h2]
  rw [if_neg h2] at h ⊢
  by_cases h3 : 128 < a.rows + b.rows
  · rw [if_pos h3]
  · rw [if_neg h3] at h; exact absurd rfl h

theorem dense_append (a b : List Cl) : dense (a ++ b) = dense a ++ dense b := by unfold dense; rw [List.filter_append]
theorem dense_here {d : List Cl} {l : List Cl} (h : d = dense l) : ∀ x ∈ d, x.kind ≠ 0 := fun x hx => by
  subst h
  have := (List.mem_filter.1 hx).2
  simpa [here] using this
theorem least_kind {d : List Cl} (hd : ∀ x ∈ d, x.kind ≠ 0) : (least d).kind = 0 ↔ d = [] := by
  constructor
  · intro h
    rcases Classical.em (d = []) with e | e
    · exact e
    · exact absurd h (hd _ (least_isL e).1)
  · rintro rfl; rfl
theorem most_kind {d : List Cl} (hd : ∀ x ∈ d, x.kind ≠ 0) : (most d).kind = 0 ↔ d = [] := by
  constructor
  · intro h
    rcases Classical.em (d = []) with e | e
    · exact e
    · exact absurd h (hd _ (most_isM e).1)
  · rintro rfl; rfl
theorem known_append (a b : List Cl) : known (a ++ b) = plus (known a) (known b) := by
  have ha : ∀ x ∈ dense a, x.kind ≠ 0 := dense_here rfl
  have hb : ∀ x ∈ dense b, x.kind ≠ 0 := dense_here rfl
  unfold known plus
  rw [dense_append]
  have e1 : least (dense a ++ dense b) = lo (least (dense a)) (least (dense b)) := by
    unfold lo
    by_cases h1 : dense a = []
    · rw [if_pos ((least_kind ha).2 h1), h1]; rfl
    · rw [if_neg (fun e => h1 ((least_kind ha).1 e))]
      by_cases h2 : dense b = []
      · rw [if_pos ((least_kind hb).2 h2), h2, List.append_nil]
      · rw [if_neg (fun e => h2 ((least_kind hb).1 e))]
        exact least_of (mn_isL _ _ _ _ (least_isL h1) (least_isL h2))
  have e2 : most (dense a ++ dense b) = hi (most (dense a)) (most (dense b)) := by
    unfold hi
    by_cases h1 : dense a = []
    · rw [if_pos ((most_kind ha).2 h1), h1]; rfl
    · rw [if_neg (fun e => h1 ((most_kind ha).1 e))]
      by_cases h2 : dense b = []
      · rw [if_pos ((most_kind hb).2 h2), h2, List.append_nil]
      · rw [if_neg (fun e => h2 ((most_kind hb).1 e))]
        exact most_of (mx_isM _ _ _ _ (most_isM h1) (most_isM h2))
  rw [e1, e2]
  simp only [List.length_append, Int.natCast_add]
  congr 1
  omega
/-- what is known of a column that is right may be known -/
theorem known_ok {k : Int} {l : List Cl} (h : chk k l = 0) : Ok k (known l) := by
  obtain ⟨h1, h2, h3⟩ := chk_ok h
  have hle : (dense l).length ≤ l.length := List.length_filter_le _ _
  have hd : ∀ x ∈ dense l, x.kind ≠ 0 := dense_here rfl
  have hin : ∀ x ∈ dense l, cellE k x = 0 := fun x hx => h3 x (List.mem_filter.1 hx).1
  have en : cellE k null = 0 := by unfold cellE null; simp
  have hk : ∀ x ∈ dense l, x.kind = k := fun x hx => ((cell_ok (hin x hx)).2.1).resolve_left (hd x hx)
  by_cases h0 : dense l = []
  · refine ⟨h1, by simp only [known]; omega, by simp only [known]; omega, by simp only [known]; omega, by simp only [known]; omega, ?_, ?_, ?_, Or.inl ⟨?_, ?_, ?_⟩⟩
    · simp only [known]; rw [h0]; exact en
    · simp only [known]; rw [h0]; exact en
    · simp only [known]; rw [h0]; exact lirr _
    · simp only [known]; rw [h0]; simp
    · simp only [known]; rw [h0]; rfl
    · simp only [known]; rw [h0]; rfl
  · have il := least_isL h0
    have im := most_isM h0
    have hp := List.length_pos_iff.2 h0
    refine ⟨h1, by simp only [known]; omega, by simp only [known]; omega, by simp only [known]; omega, by simp only [known]; omega, hin _ il.1, hin _ im.1, il.2 _ im.1, Or.inr ⟨?_, hk _ il.1, hk _ im.1⟩⟩
    simp only [known]; omega

/-- is number i not above any of the first k? not below? -/
def minAt (ds : List Cl) (i k : Nat) : Bool := (ds.take k).all fun x => !less x (ds.getD i null)
def maxAt (ds : List Cl) (i k : Nat) : Bool := (ds.take k).all fun x => !less (ds.getD i null) x
theorem take_next (ds : List Cl) (k : Nat) (h : k < ds.length) : ds.take (k + 1) = ds.take k ++ [ds.getD k null] := by
  rw [List.take_succ_eq_append_getElem h]; simp [List.getD, List.getElem?_eq_getElem h]
theorem minAt_next (ds : List Cl) (i k : Nat) (h : k < ds.length) : minAt ds i (k + 1) = (minAt ds i k && !less (ds.getD k null) (ds.getD i null)) := by
  unfold minAt; rw [take_next ds k h, List.all_append]
  simp only [List.all_cons, List.all_nil, Bool.and_true]
theorem maxAt_next (ds : List Cl) (i k : Nat) (h : k < ds.length) : maxAt ds i (k + 1) = (maxAt ds i k && !less (ds.getD i null) (ds.getD k null)) := by
  unfold maxAt; rw [take_next ds k h, List.all_append]
  simp only [List.all_cons, List.all_nil, Bool.and_true]
/-- the last one of the first i that is not above any; not below -/
def pickL (ds : List Cl) : Nat → Cl
  | 0 => null
  | i + 1 => if minAt ds i ds.length = true then ds.getD i null else pickL ds i
def pickM (ds : List Cl) : Nat → Cl
  | 0 => null
  | i + 1 => if maxAt ds i ds.length = true then ds.getD i null else pickM ds i
theorem getD_in {ds : List Cl} {i : Nat} (h : i < ds.length) : ds.getD i null ∈ ds := by
  simp only [List.getD, List.getElem?_eq_getElem h, Option.getD_some]; exact List.getElem_mem h
theorem minAt_isL {ds : List Cl} {i : Nat} (h : i < ds.length) : minAt ds i ds.length = true ↔ isL ds (ds.getD i null) := by
  unfold minAt isL
  rw [List.take_length, List.all_eq_true]
  constructor
  · intro hh
    refine ⟨getD_in h, fun x hx => ?_⟩
    have := hh x hx
    rwa [Bool.not_eq_true'] at this
  · intro hh x hx
    rw [Bool.not_eq_true']; exact hh.2 x hx
theorem maxAt_isM {ds : List Cl} {i : Nat} (h : i < ds.length) : maxAt ds i ds.length = true ↔ isM ds (ds.getD i null) := by
  unfold maxAt isM
  rw [List.take_length, List.all_eq_true]
  constructor
  · intro hh
    refine ⟨getD_in h, fun x hx => ?_⟩
    have := hh x hx
    rwa [Bool.not_eq_true'] at this
  · intro hh x hx
    rw [Bool.not_eq_true']; exact hh.2 x hx
theorem pickL_of (ds : List Cl) (m : Cl) (hm : isL ds m) : ∀ j, j ≤ ds.length → (∃ i, i < j ∧ ds.getD i null = m) → pickL ds j = m := by
  intro j
  induction j with
  | zero => rintro _ ⟨i, h, _⟩; exact absurd h (Nat.not_lt_zero _)
  | succ j ih =>
    rintro hj ⟨i, hi, he⟩
    unfold pickL
    by_cases h : minAt ds j ds.length = true
    · rw [if_pos h]; exact isL_one ((minAt_isL (by omega)).1 h) hm
    · rw [if_neg h]
      refine ih (by omega) ⟨i, ?_, he⟩
      rcases Nat.lt_or_ge i j with h2 | h2
      · exact h2
      · obtain rfl : i = j := by omega
        exact absurd ((minAt_isL (by omega)).2 (by rw [he]; exact hm)) h
theorem pickM_of (ds : List Cl) (m : Cl) (hm : isM ds m) : ∀ j, j ≤ ds.length → (∃ i, i < j ∧ ds.getD i null = m) → pickM ds j = m := by
  intro j
  induction j with
  | zero => rintro _ ⟨i, h, _⟩; exact absurd h (Nat.not_lt_zero _)
  | succ j ih =>
    rintro hj ⟨i, hi, he⟩
    unfold pickM
    by_cases h : maxAt ds j ds.length = true
    · rw [if_pos h]; exact isM_one ((maxAt_isM (by omega)).1 h) hm
    · rw [if_neg h]
      refine ih (by omega) ⟨i, ?_, he⟩
      rcases Nat.lt_or_ge i j with h2 | h2
      · exact h2
      · obtain rfl : i = j := by omega
        exact absurd ((maxAt_isM (by omega)).2 (by rw [he]; exact hm)) h
theorem in_getD {ds : List Cl} {m : Cl} (h : m ∈ ds) : ∃ i, i < ds.length ∧ ds.getD i null = m := by
  obtain ⟨i, hi, e⟩ := List.mem_iff_getElem.1 h
  exact ⟨i, hi, by simp only [List.getD, List.getElem?_eq_getElem hi, Option.getD_some]; exact e⟩
theorem pick_all (ds : List Cl) : pickL ds ds.length = least ds ∧ pickM ds ds.length = most ds := by
  rcases Classical.em (ds = []) with e | e
  · subst e; exact ⟨rfl, rfl⟩
  · exact ⟨pickL_of ds _ (least_isL e) _ (Nat.le_refl _) (in_getD (least_isL e).1), pickM_of ds _ (most_isM e) _ (Nat.le_refl _) (in_getD (most_isM e).1)⟩

/- The laws, as they will be asked. -/
theorem mg_comm {k : Int} {a b : St} (h : (mg k a b).2 = 0) : mg k b a = mg k a b := by
  obtain ⟨ha, hb, hr, e⟩ := mg_ok h
  rw [e, mg_of hb ha (by omega), plus_comm ha hb]
theorem mg_zero {k : Int} {a b : St} (h : (mg k a b).2 = 0) : mg k a zero = (a, 0) := by
  obtain ⟨ha, hb, hr, e⟩ := mg_ok h
  have h1 := ha.r1
  rw [mg_of ha (Ok.zero ha.kind) (by show a.rows + 0 ≤ 128; omega), plus_zero ha]
theorem mg_assoc {k : Int} {a b c : St} (h1 : (mg k a b).2 = 0) (h2 : (mg k (mg k a b).1 c).2 = 0) (h3 : (mg k b c).2 = 0) : mg k a (mg k b c).1 = mg k (mg k a b).1 c := by
  obtain ⟨ha, hb, hr, e⟩ := mg_ok h1
  obtain ⟨_, hc, hr2, e2⟩ := mg_ok h3
  rw [e] at h2 ⊢
  rw [e2]
  obtain ⟨hab, _, hr3, e3⟩ := mg_ok h2
  rw [e3]
  have hr4 : a.rows + (plus b c).rows ≤ 128 := by
    have q1 : (plus a b).rows = a.rows + b.rows := rfl
    have q2 : (plus b c).rows = b.rows + c.rows := rfl
    have q3 : (plus a b).rows + c.rows ≤ 128 := hr3
    omega
  rw [mg_of ha (hb.plus hc hr2) hr4, plus_assoc]
theorem chk_part {k : Int} {l : List Cl} (h : chk k l = 0) (j : Nat) : chk k (l.take j) = 0 ∧ chk k (l.drop j) = 0 := by
  obtain ⟨h1, h2, h3⟩ := chk_ok h
  exact ⟨chk_of h1 (by rw [List.length_take]; omega) fun c hc => h3 c (List.mem_of_mem_take hc), chk_of h1 (by rw [List.length_drop]; omega) fun c hc => h3 c (List.mem_of_mem_drop hc)⟩
theorem whole {k : Int} {l : List Cl} (h : chk k l = 0) (j : Nat) : mg k (known (l.take j)) (known (l.drop j)) = (known l, 0) := by
  obtain ⟨h1, h2⟩ := chk_part h j
  obtain ⟨_, hl, _⟩ := chk_ok h
  rw [mg_of (known_ok h1) (known_ok h2) (by
    show ((l.take j).length : Int) + ((l.drop j).length : Int) ≤ 128
    rw [List.length_take, List.length_drop]; omega), ← known_append, List.take_append_drop]
theorem bound {l : List Cl} {x : Cl} (hx : x ∈ l) (hk : x.kind ≠ 0) : less x (known l).least = false ∧ less (known l).most x = false := by
  have hd : x ∈ dense l := List.mem_filter.2 ⟨hx, by simp [here, hk]⟩
  have hne : dense l ≠ [] := fun e => by rw [e] at hd; simp at hd
  exact ⟨(least_isL hne).2 x hd, (most_isM hne).2 x hd⟩
theorem bound_in {l : List Cl} (h : dense l ≠ []) : ((known l).least ∈ l ∧ (known l).least.kind ≠ 0) ∧ (known l).most ∈ l ∧ (known l).most.kind ≠ 0 := by
  have hd : ∀ x ∈ dense l, x ∈ l ∧ x.kind ≠ 0 := fun x hx => ⟨(List.mem_filter.1 hx).1, dense_here rfl x hx⟩
  exact ⟨hd _ (least_isL h).1, hd _ (most_isM h).1⟩
end Go.Proofs.Ytgkhkfmlldnogaa.S
