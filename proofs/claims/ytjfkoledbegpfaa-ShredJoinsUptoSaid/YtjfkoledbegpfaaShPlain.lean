/- Forms as forests: what is asked of a form, and the forest that it is the text of; no dump is read. -/
import GoSem.Op.String
namespace Go.Proofs.Ytjfkoledbegpfaa.Sh

/-- a field: its rule, how many kids it has -/
abbrev Fd := Int × Int
def fd0 : Fd := (0, 0)
/-- field by field, so many wanted -/
def chkL : List Fd → Int → Nat
  | [], w => if w ≠ 0 then 1 else 0
  | f :: t, w => if f.1 < 0 ∨ 2 < f.1 then 7 else if f.2 < 0 ∨ 4 < f.2 then 3 else if w = 0 then 1 else chkL t (w + (f.2 - 1))
def check (l : List Fd) : Nat :=
  if 12 < l.length then 2 else if chkL l 1 ≠ 0 then chkL l 1 else if (l.getD 0 fd0).1 ≠ 0 ∨ (l.getD 0 fd0).2 = 0 then 4 else 0
theorem chkL_step (l : List Fd) (j : Nat) (h : j < l.length) (w : Int) : chkL (l.drop j) w =
    if (l.getD j fd0).1 < 0 ∨ 2 < (l.getD j fd0).1 then 7 else if (l.getD j fd0).2 < 0 ∨ 4 < (l.getD j fd0).2 then 3 else if w = 0 then 1 else chkL (l.drop (j + 1)) (w + ((l.getD j fd0).2 - 1)) := by
  rw [List.drop_eq_getElem_cons h, chkL]
  simp [List.getD, List.getElem?_eq_getElem h]
theorem chkL_le (l : List Fd) (w : Int) : chkL l w ≤ 7 := by
  induction l generalizing w with
  | nil => unfold chkL; split <;> omega
  | cons f t ih => rw [chkL]; split; omega; split; omega; split; omega; exact ih _

/-- fields side by side, each with those below it -/
inductive F where
  | nil : F
  | cons (r : Nat) (k s : F) : F
def len : F → Nat
  | .nil => 0
  | .cons _ _ s => 1 + len s
def size : F → Nat
  | .nil => 0
  | .cons _ k s => 1 + size k + size s
def flat : F → List Fd
  | .nil => []
  | .cons r k s => ((r : Int), (len k : Int)) :: (flat k ++ flat s)
def app : F → F → F
  | .nil, g => g
  | .cons r k s, g => .cons r k (app s g)
/-- rules are rules, and no field has more than four kids -/
def ok : F → Prop
  | .nil => True
  | .cons r k s => r ≤ 2 ∧ len k ≤ 4 ∧ ok k ∧ ok s
theorem flat_length (f : F) : (flat f).length = size f := by
  induction f with
  | nil => rfl
  | cons r k s hk hs => simp [flat, size, hk, hs]; omega
theorem len_le (f : F) : len f ≤ size f := by
  induction f with
  | nil => exact Nat.le_refl _
  | cons r k s _ hs => simp only [len, size]; omega
theorem len_app (f g : F) : len (app f g) = len f + len g := by
  induction f with
  | nil => simp [app, len]
  | cons r k s _ hs => simp [app, len, hs]; omega
theorem flat_app (f g : F) : flat (app f g) = flat f ++ flat g := by
  induction f with
  | nil => rfl
  | cons r k s _ hs => simp [app, flat, hs]
theorem ok_app (f g : F) : ok (app f g) ↔ ok f ∧ ok g := by
  induction f with
  | nil => simp [app, ok]
  | cons r k s _ hs => simp [app, ok, hs, and_assoc]
/-- the first so many of them, and the rest -/
theorem split_at (f : F) : ∀ n, n ≤ len f → ∃ a b, f = app a b ∧ len a = n := by
  induction f with
  | nil => intro n h; exact ⟨.nil, .nil, rfl, by simp [len] at h ⊢; omega⟩
  | cons r k s _ hs =>
    intro n h
    cases n with
    | zero => exact ⟨.nil, .cons r k s, rfl, rfl⟩
    | succ n =>
      obtain ⟨a, b, e, hl⟩ := hs n (by simp [len] at h; omega)
      exact ⟨.cons r k a, b, by rw [e]; rfl, by simp [len, hl]; omega⟩
theorem chk_forest : ∀ (l : List Fd) (w : Nat), chkL l w = 0 → ∃ f, len f = w ∧ flat f = l ∧ ok f
  | [], w, h => by
    unfold chkL at h
    have : w = 0 := by
      by_cases e : w = 0
      · exact e
      · rw [if_pos (by omega)] at h; omega
    exact ⟨.nil, by simp [len, this], rfl, trivial⟩
  | f :: t, w, h => by
    rw [chkL] at h
    by_cases h1 : f.1 < 0 ∨ 2 < f.1
    · rw [if_pos h1] at h; omega
    · rw [if_neg h1] at h
      by_cases h2 : f.2 < 0 ∨ 4 < f.2
      · rw [if_pos h2] at h; omega
      · rw [if_neg h2] at h
        by_cases h3 : (w : Int) = 0
        · rw [if_pos h3] at h; omega
        · rw [if_neg h3] at h
          obtain ⟨k, hk⟩ : ∃ k : Nat, f.2 = k := ⟨f.2.toNat, by omega⟩
          obtain ⟨r, hr⟩ : ∃ r : Nat, f.1 = r := ⟨f.1.toNat, by omega⟩
          have e : (w : Int) + (f.2 - 1) = ((w - 1 + k : Nat) : Int) := by omega
          rw [e] at h
          obtain ⟨g, hl, hf, ho⟩ := chk_forest t _ h
          obtain ⟨a, b, rfl, ha⟩ := split_at g k (by omega)
          rw [len_app] at hl
          rw [flat_app] at hf
          rw [ok_app] at ho
          refine ⟨.cons r a b, by simp [len]; omega, ?_, by omega, by omega, ho.1, ho.2⟩
          simp only [flat]
          rw [ha, ← hk, ← hr, hf]
/-- a form that is right is the text of one field that is there once, and has kids -/
theorem check_form {l : List Fd} (h : check l = 0) : ∃ k, k ≠ F.nil ∧ flat (.cons 0 k .nil) = l ∧ ok (.cons 0 k .nil) ∧ l.length ≤ 12 := by
  unfold check at h
  by_cases h1 : 12 < l.length
  · rw [if_pos h1] at h; omega
  · rw [if_neg h1] at h
    by_cases h2 : chkL l 1 ≠ 0
    · rw [if_pos h2] at h; exact absurd h h2
    · rw [if_neg h2] at h
      by_cases h3 : (l.getD 0 fd0).1 ≠ 0 ∨ (l.getD 0 fd0).2 = 0
      · rw [if_pos h3] at h; omega
      · obtain ⟨f, hl, hf, ho⟩ := chk_forest l 1 (Classical.not_not.1 h2)
        match f, hl, hf, ho with
        | .nil, hl, _, _ => simp [len] at hl
        | .cons r k s, hl, hf, ho =>
          have hs : s = .nil := by
            cases s with
            | nil => rfl
            | cons r' k' s' => simp [len] at hl
          subst hs
          have e : l.getD 0 fd0 = ((r : Int), (len k : Int)) := by rw [← hf]; rfl
          rw [e] at h3
          simp only at h3
          have hr : r = 0 := by omega
          subst hr
          refine ⟨k, ?_, hf, ho, by omega⟩
          intro hk
          subst hk
          exact h3 (Or.inr rfl)
theorem size_app (f g : F) : size (app f g) = size f + size g := by
  induction f with
  | nil => simp [app, size]
  | cons r k s _ hs => simp [app, size, hs]; omega
theorem app_nil (f : F) : app f .nil = f := by
  induction f with
  | nil => rfl
  | cons r k s _ hs => simp [app, hs]
theorem app_app (f : F) (r : Nat) (k s : F) : app (app f (.cons r k .nil)) s = app f (.cons r k s) := by
  induction f with
  | nil => rfl
  | cons r' k' s' _ hs => simp [app, hs]
/-- leaves below fields side by side -/
def leaves : F → Nat
  | .nil => 0
  | .cons _ .nil s => 1 + leaves s
  | .cons _ (.cons r k t) s => leaves (.cons r k t) + leaves s
theorem leaves_count (f : F) : leaves f = ((flat f).filter fun x => x.2 = 0).length := by
  induction f with
  | nil => rfl
  | cons r k s hk hs =>
    cases k with
    | nil => simp [leaves, flat, len, hs]; omega
    | cons r' k' s' =>
      have e : flat (.cons r (.cons r' k' s') s) = ((r : Int), (len (.cons r' k' s') : Int)) :: (flat (.cons r' k' s') ++ flat s) := rfl
      have h : ¬ decide (((r : Int), (len (.cons r' k' s') : Int)).2 = 0) = true := by
        rw [decide_eq_true_iff]
        show ¬ ((len (.cons r' k' s') : Int) = 0)
        simp only [len]
        omega
      rw [e, List.filter_cons, if_neg h, List.filter_append, List.length_append, ← hs, ← hk]
      rfl
theorem leaves_le (f : F) : leaves f ≤ size f := by
  rw [leaves_count, ← flat_length]; exact List.length_filter_le _ _
theorem leaves_app (f g : F) : leaves (app f g) = leaves f + leaves g := by
  rw [leaves_count, leaves_count, leaves_count, flat_app, List.filter_append, List.length_append]
end Go.Proofs.Ytjfkoledbegpfaa.Sh
