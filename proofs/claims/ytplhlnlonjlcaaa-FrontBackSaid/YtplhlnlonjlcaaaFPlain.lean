/- Plain mathematics of texts by what they share. -/
import Derived.Test.YtplhlnlonjlcaaaVaryPlain
import Derived.Test.YtplhlnlonjlcaaaTPlain
namespace Go.Proofs.Ytplhlnlonjlcaaa.F
set_option linter.unusedVariables false
abbrev Tx := List UInt8

/-- with how many bytes two texts begin alike -/
def sh : Tx → Tx → Nat
  | x :: s, y :: t => if x = y then sh s t + 1 else 0
  | _, _ => 0
theorem sh_nil_left (b : Tx) : sh [] b = 0 := by cases b <;> rfl
theorem sh_nil_right (a : Tx) : sh a [] = 0 := by cases a <;> rfl
theorem sh_cons_eq (x : UInt8) (s t : Tx) : sh (x :: s) (x :: t) = sh s t + 1 := by rw [sh, if_pos rfl]
theorem sh_cons_ne {x y : UInt8} (h : x ≠ y) (s t : Tx) : sh (x :: s) (y :: t) = 0 := by rw [sh, if_neg h]
theorem sh_comm : ∀ a b : Tx, sh a b = sh b a := by
  intro a
  induction a with
  | nil => intro b; rw [sh_nil_left, sh_nil_right]
  | cons x s ih =>
    intro b
    cases b with
    | nil => rfl
    | cons y t =>
      by_cases h : x = y
      · subst h; rw [sh_cons_eq, sh_cons_eq, ih]
      · rw [sh_cons_ne h, sh_cons_ne (fun e => h e.symm)]
theorem sh_self (a : Tx) : sh a a = a.length := by
  induction a with
  | nil => rfl
  | cons x s ih => rw [sh_cons_eq, ih]; rfl
theorem sh_le_left : ∀ a b : Tx, sh a b ≤ a.length := by
  intro a
  induction a with
  | nil => intro b; rw [sh_nil_left]; exact Nat.zero_le _
  | cons x s ih =>
    intro b
    cases b with
    | nil => rw [sh_nil_right]; exact Nat.zero_le _
    | cons y t =>
      by_cases h : x = y
      · subst h; rw [sh_cons_eq]; have := ih t; simp; omega
      · rw [sh_cons_ne h]; exact Nat.zero_le _
theorem sh_le_right (a b : Tx) : sh a b ≤ b.length := by rw [sh_comm]; exact sh_le_left b a
theorem sh_take : ∀ a b : Tx, a.take (sh a b) = b.take (sh a b) := by
  intro a
  induction a with
  | nil => intro b; rw [sh_nil_left]; simp
  | cons x s ih =>
    intro b
    cases b with
    | nil => rw [sh_nil_right]; simp
    | cons y t =>
      by_cases h : x = y
      · subst h; rw [sh_cons_eq, List.take_succ_cons, List.take_succ_cons, ih]
      · rw [sh_cons_ne h]; simp
theorem sh_ge : ∀ (n : Nat) (a b : Tx), n ≤ a.length → n ≤ b.length → a.take n = b.take n → n ≤ sh a b := by
  intro n
  induction n with
  | zero => intros; exact Nat.zero_le _
  | succ n ih =>
    intro a b ha hb h
    cases a with
    | nil => simp at ha
    | cons x s =>
      cases b with
      | nil => simp at hb
      | cons y t =>
        rw [List.take_succ_cons, List.take_succ_cons] at h
        injection h with h1 h2
        subst h1
        rw [sh_cons_eq]
        have := ih s t (by simpa using ha) (by simpa using hb) h2
        omega
theorem take_le {a b : Tx} {n m : Nat} (h : a.take n = b.take n) (hm : m ≤ n) : a.take m = b.take m := by
  have e : ∀ l : Tx, (l.take n).take m = l.take m := fun l => by rw [List.take_take, Nat.min_eq_left hm]
  rw [← e a, ← e b, h]
theorem sh_ultra (a b c : Tx) : min (sh a b) (sh b c) ≤ sh a c := by
  refine sh_ge _ a c ?_ ?_ ?_
  · have := sh_le_left a b; omega
  · have := sh_le_right b c; omega
  · rw [take_le (sh_take a b) (Nat.min_le_left _ _), take_le (sh_take b c) (Nat.min_le_right _ _)]
theorem sh_eq {a b : Tx} (h : a.length = b.length) : sh a b = a.length ↔ a = b := by
  constructor
  · intro e
    have := sh_take a b
    rw [e, List.take_length, h, List.take_length] at this
    exact this
  · intro e; subst e; exact sh_self a
/-- where two texts part, the lesser one has the lesser byte there, or ends -/
theorem sh_rises : ∀ a b c : Tx, ¬ b < a → ¬ c < b → sh a c = min (sh a b) (sh b c) := by
  intro a
  induction a with
  | nil => intro b c _ _; rw [sh_nil_left, sh_nil_left]; simp
  | cons x s ih =>
    intro b c h1 h2
    cases b with
    | nil => exact absurd (List.nil_lt_cons x s) h1
    | cons y t =>
      cases c with
      | nil => exact absurd (List.nil_lt_cons y t) h2
      | cons z u =>
        rw [List.cons_lt_cons_iff] at h1 h2
        by_cases hxy : x = y
        · subst hxy
          by_cases hyz : x = z
          · subst hyz
            rw [sh_cons_eq, sh_cons_eq, sh_cons_eq, ih t u (fun h => h1 (Or.inr ⟨rfl, h⟩)) (fun h => h2 (Or.inr ⟨rfl, h⟩))]
            omega
          · rw [sh_cons_ne hyz, sh_cons_ne hyz]; simp
        · rw [sh_cons_ne hxy]
          have hxz : x ≠ z := by
            intro e
            subst e
            rcases Nat.lt_trichotomy x.toNat y.toNat with k | k | k
            · exact h2 (Or.inl (UInt8.lt_iff_toNat_lt.2 k))
            · exact hxy (UInt8.toNat_inj.1 k)
            · exact h1 (Or.inl (UInt8.lt_iff_toNat_lt.2 k))
          rw [sh_cons_ne hxz]; simp

/-- the bytes of a list behind a text -/
def fb : Tx → List Tx → List UInt8
  | _, [] => []
  | last, x :: t => V.enc (sh last x) ++ V.enc (x.length - sh last x) ++ x.drop (sh last x) ++ fb x t
theorem fb_snoc : ∀ (l : List Tx) (last x : Tx), fb last (l ++ [x]) = fb last l ++ (V.enc (sh (l.getLastD last) x) ++ V.enc (x.length - sh (l.getLastD last) x) ++ x.drop (sh (l.getLastD last) x)) := by
  intro l
  induction l with
  | nil => intro last x; simp [fb]
  | cons y t ih =>
    intro last x
    rw [List.cons_append, fb, ih, fb]
    have e : (y :: t).getLastD last = t.getLastD y := by cases t <;> rfl
    rw [e]
    simp only [List.append_assoc]
/-- how many bytes, if each text is short -/
def fl : Tx → List Tx → Nat
  | _, [] => 0
  | last, x :: t => 2 + (x.length - sh last x) + fl x t
theorem enc_one {n : Nat} (h : n < 128) : (V.enc n).length = 1 := by
  rw [V.enc_length]; have := V.sz_spec n; omega
theorem fb_length : ∀ (l : List Tx) (last : Tx), (∀ x ∈ l, x.length ≤ 16) → (fb last l).length = fl last l := by
  intro l
  induction l with
  | nil => intro last _; rfl
  | cons x t ih =>
    intro last h
    have hx := h x (by simp)
    have hs := sh_le_right last x
    rw [fb, fl, List.length_append, List.length_append, List.length_append, enc_one (by omega), enc_one (by omega), List.length_drop, ih x (fun y hy => h y (by simp [hy]))]

/-- so many texts of bytes, behind a text -/
def fr : Nat → Tx → List UInt8 → List Tx × Nat
  | 0, _, s => if s = [] then ([], 0) else ([], 1)
  | k + 1, last, s =>
    if (V.rd s).2.2 ≠ 0 then ([], (V.rd s).2.2)
    else if (V.rd (s.drop (V.rd s).2.1)).2.2 ≠ 0 then ([], (V.rd (s.drop (V.rd s).2.1)).2.2)
    else if last.length < (V.rd s).1 then ([], 3)
    else if 16 < (V.rd s).1 + (V.rd (s.drop (V.rd s).2.1)).1 then ([], 2)
    else if (s.drop ((V.rd s).2.1 + (V.rd (s.drop (V.rd s).2.1)).2.1)).length < (V.rd (s.drop (V.rd s).2.1)).1 then ([], 5)
    else if sh last (last.take (V.rd s).1 ++ (s.drop ((V.rd s).2.1 + (V.rd (s.drop (V.rd s).2.1)).2.1)).take (V.rd (s.drop (V.rd s).2.1)).1) ≠ (V.rd s).1 then ([], 1)
    else
      let t := last.take (V.rd s).1 ++ (s.drop ((V.rd s).2.1 + (V.rd (s.drop (V.rd s).2.1)).2.1)).take (V.rd (s.drop (V.rd s).2.1)).1
      let z := fr k t ((s.drop ((V.rd s).2.1 + (V.rd (s.drop (V.rd s).2.1)).2.1)).drop (V.rd (s.drop (V.rd s).2.1)).1)
      if z.2 ≠ 0 then ([], z.2) else (t :: z.1, 0)
theorem take_share {last x : Tx} : last.take (sh last x) ++ x.drop (sh last x) = x := by
  rw [sh_take, List.take_append_drop]
/-- what is written is read as it was -/
theorem fr_fb : ∀ (l : List Tx) (last : Tx), (∀ x ∈ l, x.length ≤ 16) → fr l.length last (fb last l) = (l, 0) := by
  intro l
  induction l with
  | nil => intro last _; rfl
  | cons x t ih =>
    intro last h
    have hx := h x (by simp)
    have hs := sh_le_right last x
    have hs2 := sh_le_left last x
    have r1 : V.rd (fb last (x :: t)) = (sh last x, V.sz (sh last x), 0) := by
      rw [fb, List.append_assoc, List.append_assoc]; exact V.rd_enc _ (by omega) _
    have d1 : (fb last (x :: t)).drop (V.sz (sh last x)) = V.enc (x.length - sh last x) ++ (x.drop (sh last x) ++ fb x t) := by
      rw [fb, List.append_assoc, List.append_assoc, List.drop_left' (V.enc_length _)]
    have r2 := V.rd_enc (x.length - sh last x) (by omega) (x.drop (sh last x) ++ fb x t)
    have d2 : (fb last (x :: t)).drop (V.sz (sh last x) + V.sz (x.length - sh last x)) = x.drop (sh last x) ++ fb x t := by
      rw [← List.drop_drop, d1, List.drop_left' (V.enc_length _)]
    have t2 : (x.drop (sh last x) ++ fb x t).take (x.length - sh last x) = x.drop (sh last x) := List.take_left' (by simp)
    have t3 : (x.drop (sh last x) ++ fb x t).drop (x.length - sh last x) = fb x t := List.drop_left' (by simp)
    have hi := ih x (fun y hy => h y (by simp [hy]))
    rw [List.length_cons, fr]
    simp only [r1, d1, r2, d2, t2, t3, take_share, hi]
    rw [if_neg (by simp), if_neg (by simp), if_neg (by omega), if_neg (by omega), if_neg (by simp), if_neg (by simp), if_neg (by simp)]
/-- what is read is written as it stood -/
theorem fr_ok : ∀ (k : Nat) (last : Tx) (s : List UInt8) (l : List Tx), fr k last s = (l, 0) → fb last l = s ∧ l.length = k ∧ ∀ x ∈ l, x.length ≤ 16 := by
  intro k
  induction k with
  | zero =>
    intro last s l h
    rw [fr] at h
    by_cases hs : s = []
    · rw [if_pos hs] at h
      obtain rfl : l = [] := ((Prod.mk.injEq _ _ _ _).mp h).1.symm
      exact ⟨by rw [hs]; rfl, rfl, by simp⟩
    · rw [if_neg hs] at h
      exact absurd ((Prod.mk.injEq _ _ _ _).mp h).2 (by decide)
  | succ k ih =>
    intro last s l h
    rw [fr] at h
    have no : ∀ e : Nat, e ≠ 0 → (([], e) : List Tx × Nat) = (l, 0) → False := fun e he hh => he ((Prod.mk.injEq _ _ _ _).mp hh).2
    by_cases h1 : (V.rd s).2.2 ≠ 0
    · rw [if_pos h1] at h; exact (no _ h1 h).elim
    rw [if_neg h1] at h
    by_cases h2 : (V.rd (s.drop (V.rd s).2.1)).2.2 ≠ 0
    · rw [if_pos h2] at h; exact (no _ h2 h).elim
    rw [if_neg h2] at h
    by_cases h3 : last.length < (V.rd s).1
    · rw [if_pos h3] at h; exact (no _ (by decide) h).elim
    rw [if_neg h3] at h
    by_cases h4 : 16 < (V.rd s).1 + (V.rd (s.drop (V.rd s).2.1)).1
    · rw [if_pos h4] at h; exact (no _ (by decide) h).elim
    rw [if_neg h4] at h
    by_cases h5 : (s.drop ((V.rd s).2.1 + (V.rd (s.drop (V.rd s).2.1)).2.1)).length < (V.rd (s.drop (V.rd s).2.1)).1
    · rw [if_pos h5] at h; exact (no _ (by decide) h).elim
    rw [if_neg h5] at h
    obtain ⟨n, a, e, hr⟩ : ∃ n a e, V.rd s = (n, a, e) := ⟨_, _, _, rfl⟩
    rw [hr] at h h1 h2 h3 h4 h5
    simp only at h h1 h2 h3 h4 h5
    obtain ⟨m, b, f, hq⟩ : ∃ m b f, V.rd (s.drop a) = (m, b, f) := ⟨_, _, _, rfl⟩
    rw [hq] at h h2 h4 h5
    simp only at h h2 h4 h5
    obtain rfl : e = 0 := by omega
    obtain rfl : f = 0 := by omega
    obtain ⟨_, ha, ea, _, _, sa⟩ := V.rd_ok s n a hr
    obtain ⟨_, hb, eb, _, _, sb⟩ := V.rd_ok (s.drop a) m b hq
    obtain ⟨s2, hs2⟩ : ∃ s2, s2 = s.drop (a + b) := ⟨_, rfl⟩
    rw [← hs2] at h h5
    by_cases h6 : sh last (last.take n ++ s2.take m) ≠ n
    · rw [if_pos h6] at h; exact (no _ (by decide) h).elim
    rw [if_neg h6] at h
    have h6' : sh last (last.take n ++ s2.take m) = n := by omega
    obtain ⟨t, ht⟩ : ∃ t, t = last.take n ++ s2.take m := ⟨_, rfl⟩
    rw [← ht] at h h6'
    have tl : t.length = n + m := by rw [ht, List.length_append, List.length_take, List.length_take]; omega
    obtain ⟨z, g, hz⟩ : ∃ z g, fr k t (s2.drop m) = (z, g) := ⟨_, _, rfl⟩
    simp only [hz] at h
    by_cases h7 : g ≠ 0
    · rw [if_pos h7] at h; exact (no _ h7 h).elim
    rw [if_neg h7] at h
    obtain rfl : g = 0 := by omega
    obtain rfl : l = t :: z := ((Prod.mk.injEq _ _ _ _).mp h).1.symm
    obtain ⟨i1, i2, i3⟩ := ih t (s2.drop m) z hz
    refine ⟨?_, by simp [i2], ?_⟩
    · rw [fb, h6', i1, ea, tl, Nat.add_sub_cancel_left, eb]
      have td : t.drop n = s2.take m := by
        rw [ht]; exact List.drop_left' (by rw [List.length_take]; omega)
      rw [td, List.append_assoc, List.append_assoc, List.take_append_drop]
      have : s2 = (s.drop a).drop b := by rw [hs2, List.drop_drop]
      rw [this, List.take_append_drop, List.take_append_drop]
    · intro x hx
      rcases List.mem_cons.1 hx with hx | hx
      · rw [hx, tl]; omega
      · exact i3 x hx
theorem fr_err : ∀ (k : Nat) (last : Tx) (s : List UInt8), (fr k last s).2 ≠ 0 → (fr k last s).1 = [] := by
  intro k
  cases k with
  | zero => intro last s h; rw [fr] at h ⊢; split at h <;> split <;> simp_all
  | succ k =>
    intro last s h
    rw [fr] at h ⊢
    by_cases h1 : (V.rd s).2.2 ≠ 0
    · rw [if_pos h1]
    rw [if_neg h1] at h ⊢
    by_cases h2 : (V.rd (s.drop (V.rd s).2.1)).2.2 ≠ 0
    · rw [if_pos h2]
    rw [if_neg h2] at h ⊢
    by_cases h3 : last.length < (V.rd s).1
    · rw [if_pos h3]
    rw [if_neg h3] at h ⊢
    by_cases h4 : 16 < (V.rd s).1 + (V.rd (s.drop (V.rd s).2.1)).1
    · rw [if_pos h4]
    rw [if_neg h4] at h ⊢
    by_cases h5 : (s.drop ((V.rd s).2.1 + (V.rd (s.drop (V.rd s).2.1)).2.1)).length < (V.rd (s.drop (V.rd s).2.1)).1
    · rw [if_pos h5]
    rw [if_neg h5] at h ⊢
    split at h
    · rename_i h6; rw [if_pos h6]
    · rename_i h6; rw [if_neg h6]
      simp only at h ⊢
      split at h
      · rename_i h7; rw [if_pos h7]
      · exact absurd rfl h
end Go.Proofs.Ytplhlnlonjlcaaa.F
