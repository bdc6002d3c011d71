/- Plain: an entry entered into a directory that rises, or taken out of it. -/
import Derived.Test.YtmjcdjekakaigaaFsPl
namespace Go.Proofs.Ytmjcdjekakaigaa.Fs
set_option linter.unusedVariables false

abbrev Up (l : List En) : Prop := l.Pairwise (fun x y => x.name < y.name)
theorem filt_all {α : Type} {p : α → Bool} {l : List α} (h : ∀ x ∈ l, p x = true) : l.filter p = l := List.filter_eq_self.2 h
theorem filt_none {α : Type} {p : α → Bool} {l : List α} (h : ∀ x ∈ l, p x = false) : l.filter p = [] := List.filter_eq_nil_iff.2 (fun x hx => by rw [h x hx]; simp)
theorem take_below {l : List En} (n : S) : ∀ x ∈ l.take (pos l n), x.name < n := by
  intro x hx
  obtain ⟨i, hi, rfl⟩ := List.mem_iff_getElem.1 hx
  have hi' : i < pos l n ∧ i < l.length := by simp at hi; omega
  have := pos_below l n i hi'.1
  rw [getD_at l nulE i hi'.2] at this
  simpa using this
theorem drop_above {l : List En} (hu : Up l) (n : S) : ∀ x ∈ l.drop (pos l n), ¬ x.name < n := by
  intro x hx hh
  obtain ⟨i, hi, rfl⟩ := List.mem_iff_getElem.1 hx
  have hi' : pos l n + i < l.length := by simp at hi; omega
  rw [List.getElem_drop] at hh
  have h0 := pos_not l n (by omega)
  by_cases e : i = 0
  · subst e
    rw [getD_at l nulE _ (by omega)] at h0
    exact h0 (by simpa using hh)
  · have := up_at hu (show pos l n < pos l n + i by omega) hi'
    rw [getD_at l nulE (pos l n + i) hi'] at this
    exact h0 (List.lt_trans this hh)
theorem lt_or {a b : S} (h : ¬ a < b) (hne : a ≠ b) : b < a := by
  rcases Classical.em (b < a) with h2 | h2
  · exact h2
  · exact absurd (List.le_antisymm h2 h) hne
theorem drop_after {l : List En} (hu : Up l) {n : S} (hh : has l n = true) : ∀ x ∈ l.drop (pos l n + 1), n < x.name := by
  obtain ⟨h1, h2⟩ := (has_iff hu n).1 hh
  intro x hx
  obtain ⟨i, hi, rfl⟩ := List.mem_iff_getElem.1 hx
  have hi' : pos l n + 1 + i < l.length := by simp at hi; omega
  rw [List.getElem_drop]
  have := up_at hu (show pos l n < pos l n + 1 + i by omega) hi'
  rw [h2, getD_at l nulE _ hi'] at this
  exact this
theorem withE_in {l : List En} (hu : Up l) (n : S) (k : Int) (hh : has l n = true) : withE l ⟨n, k⟩ = l.set (pos l n) ⟨n, k⟩ := by
  obtain ⟨h1, h2⟩ := (has_iff hu n).1 hh
  have e : l = l.take (pos l n) ++ l.getD (pos l n) nulE :: l.drop (pos l n + 1) := by rw [← drop_cons l nulE _ h1, List.take_append_drop]
  have hl : (l.take (pos l n)).length = pos l n := by rw [List.length_take]; omega
  have f1 : l.filter (fun e => decide (e.name < n)) = l.take (pos l n) := by
    conv => lhs; rw [e]
    rw [List.filter_append, filt_all (fun x hx => decide_eq_true (take_below n x hx)), List.filter_cons_of_neg (by rw [h2, decide_eq_false (lt_irr n)]; simp), filt_none (fun x hx => decide_eq_false (fun h3 => lt_irr n (List.lt_trans (drop_after hu hh x hx) h3))), List.append_nil]
  have f2 : l.filter (fun e => decide (n < e.name)) = l.drop (pos l n + 1) := by
    conv => lhs; rw [e]
    rw [List.filter_append, filt_none (fun x hx => decide_eq_false (fun h3 => lt_irr n (List.lt_trans h3 (take_below n x hx)))), List.filter_cons_of_neg (by rw [h2, decide_eq_false (lt_irr n)]; simp), filt_all (fun x hx => decide_eq_true (drop_after hu hh x hx)), List.nil_append]
  unfold withE
  simp only
  rw [f1, f2]
  generalize pos l n = q at *
  have e2 : l.set q ⟨n, k⟩ = (l.take q ++ l.getD q nulE :: l.drop (q + 1)).set q ⟨n, k⟩ := by rw [← e]
  rw [e2, List.set_append_right _ _ (by omega), hl, Nat.sub_self, List.set_cons_zero]
theorem withE_out {l : List En} (hu : Up l) (n : S) (k : Int) (hh : has l n = false) : withE l ⟨n, k⟩ = l.take (pos l n) ++ ⟨n, k⟩ :: l.drop (pos l n) := by
  have e : l = l.take (pos l n) ++ l.drop (pos l n) := (List.take_append_drop _ _).symm
  have hne : ∀ x ∈ l, x.name ≠ n := fun x hx e2 => by
    have : has l n = true := List.any_eq_true.2 ⟨x, hx, by simpa using e2⟩
    rw [hh] at this; cases this
  have hgt : ∀ x ∈ l.drop (pos l n), n < x.name := fun x hx => lt_or (drop_above hu n x hx) (hne x (List.mem_of_mem_drop hx))
  have f1 : l.filter (fun e => decide (e.name < n)) = l.take (pos l n) := by
    conv => lhs; rw [e]
    rw [List.filter_append, filt_all (fun x hx => decide_eq_true (take_below n x hx)), filt_none (fun x hx => decide_eq_false (drop_above hu n x hx)), List.append_nil]
  have f2 : l.filter (fun e => decide (n < e.name)) = l.drop (pos l n) := by
    conv => lhs; rw [e]
    rw [List.filter_append, filt_none (fun x hx => decide_eq_false (fun h3 => lt_irr n (List.lt_trans h3 (take_below n x hx)))), filt_all (fun x hx => decide_eq_true (hgt x hx)), List.nil_append]
  unfold withE
  simp only
  rw [f1, f2]
theorem less_in {l : List En} (hu : Up l) {n : S} (hh : has l n = true) : less l n = l.take (pos l n) ++ l.drop (pos l n + 1) := by
  obtain ⟨h1, h2⟩ := (has_iff hu n).1 hh
  have e : l = l.take (pos l n) ++ l.getD (pos l n) nulE :: l.drop (pos l n + 1) := by rw [← drop_cons l nulE _ h1, List.take_append_drop]
  unfold less
  conv => lhs; rw [e]
  rw [List.filter_append, filt_all (p := fun e : En => decide (e.name ≠ n)) (fun x hx => decide_eq_true (fun e2 => by have := take_below n x hx; rw [e2] at this; exact lt_irr n this)), List.filter_cons_of_neg (by rw [h2]; simp), filt_all (p := fun e : En => decide (e.name ≠ n)) (fun x hx => decide_eq_true (fun e2 => by have := drop_after hu hh x hx; rw [e2] at this; exact lt_irr n this))]
theorem less_up {l : List En} (hu : Up l) (n : S) : Up (less l n) := List.Pairwise.filter _ hu
theorem less_has (l : List En) (n : S) : has (less l n) n = false := by
  unfold has less
  rw [← Bool.not_eq_true, List.any_eq_true]
  rintro ⟨x, hx, e⟩
  have := (List.mem_filter.1 hx).2
  simp at this e
  exact this e
theorem mem_less {l : List En} {n : S} {x : En} : x ∈ less l n ↔ x ∈ l ∧ x.name ≠ n := by
  unfold less
  rw [List.mem_filter]
  simp
theorem mem_withE {l : List En} {x y : En} : y ∈ withE l x ↔ y = x ∨ (y ∈ l ∧ (y.name < x.name ∨ x.name < y.name)) := by
  unfold withE
  rw [List.mem_append, List.mem_cons, List.mem_filter, List.mem_filter]
  simp only [decide_eq_true_eq]
  constructor
  · rintro (⟨a, b⟩ | a | ⟨a, b⟩)
    · exact Or.inr ⟨a, Or.inl b⟩
    · exact Or.inl a
    · exact Or.inr ⟨a, Or.inr b⟩
  · rintro (a | ⟨a, b | b⟩)
    · exact Or.inr (Or.inl a)
    · exact Or.inl ⟨a, b⟩
    · exact Or.inr (Or.inr ⟨a, b⟩)
theorem ne_lt {a b : S} : (a < b ∨ b < a) ↔ a ≠ b := by
  constructor
  · rintro (h | h) e
    · rw [e] at h; exact lt_irr b h
    · rw [e] at h; exact lt_irr b h
  · intro h
    rcases Classical.em (a < b) with h2 | h2
    · exact Or.inl h2
    · exact Or.inr (lt_or h2 h)
theorem withE_up {l : List En} (hu : Up l) (x : En) : Up (withE l x) := by
  unfold withE
  rw [Up, List.pairwise_append]
  refine ⟨List.Pairwise.filter _ hu, ?_, ?_⟩
  · rw [List.pairwise_cons]
    exact ⟨fun y hy => by simpa using (List.mem_filter.1 hy).2, List.Pairwise.filter _ hu⟩
  · intro a ha b hb
    have h1 : a.name < x.name := by simpa using (List.mem_filter.1 ha).2
    rcases List.mem_cons.1 hb with e | hb
    · rw [e]; exact h1
    · exact List.lt_trans h1 (by simpa using (List.mem_filter.1 hb).2)
theorem del_len {l : List En} (q : Nat) (hq : q < l.length) : (l.take q ++ l.drop (q + 1)).length = l.length - 1 := by
  rw [List.length_append, List.length_take, List.length_drop]; omega
theorem less_len {l : List En} (n : S) : (less l n).length ≤ l.length := List.length_filter_le _ _
theorem has_mem {l : List En} {n : S} : has l n = true ↔ ∃ x ∈ l, x.name = n := by
  unfold has
  rw [List.any_eq_true]
  simp
theorem nodeOf_mem {l : List En} (hu : Up l) {n : S} (h : has l n = true) : (⟨n, nodeOf l n⟩ : En) ∈ l := by
  obtain ⟨h1, h2⟩ := (has_iff hu n).1 h
  have := getD_mem l nulE _ h1
  rw [nodeOf_at hu h]
  generalize l.getD (pos l n) nulE = x at *
  obtain ⟨a, b⟩ := x
  simp only at h2
  subst h2
  exact this
end Go.Proofs.Ytmjcdjekakaigaa.Fs
