/- Plain laws of tables: what is added and dropped, renamed and renamed back. -/
import Derived.Test.YtnjnalehfhfefaaTbPlain
namespace Go.Proofs.Ytnjnalehfhfefaa.Tb
set_option linter.unusedVariables false

theorem chg_or (t : T) (e : Nat) (r : T) : ((chg t e r).2 ≠ 0 ∧ (chg t e r).1 = nul) ∨ (check t = 0 ∧ e = 0 ∧ chg t e r = (r, 0)) := by
  unfold chg
  by_cases h : check t ≠ 0
  · rw [if_pos h]; exact Or.inl ⟨h, rfl⟩
  · rw [if_neg h]
    by_cases h2 : e ≠ 0
    · rw [if_pos h2]; exact Or.inl ⟨h2, rfl⟩
    · rw [if_neg h2]; exact Or.inr ⟨by omega, by omega, rfl⟩
theorem chg_ok {t : T} {e : Nat} {r : T} (h : check t = 0) (he : e = 0) : chg t e r = (r, 0) := by
  unfold chg; rw [if_neg (by omega), if_neg (by omega)]

theorem getD_app_l {α : Type} (l m : List α) (z : α) {i : Nat} (h : i < l.length) : (l ++ m).getD i z = l.getD i z := by
  simp [List.getD, List.getElem?_append_left h]
theorem getD_app_len {α : Type} (l : List α) (a z : α) : (l ++ [a]).getD l.length z = a := by
  simp [List.getD]
theorem getD_big {α : Type} (l : List α) (z : α) {i : Nat} (h : l.length ≤ i) : l.getD i z = z := by
  simp [List.getD, List.getElem?_eq_none h]
theorem Ok.rows_le {t : T} (h : Ok t) : Tb.rows t ≤ 128 := by
  unfold Tb.rows
  by_cases h0 : 0 < t.cols.length
  · exact h.many 0 h0
  · rw [getD_big _ _ (by have := h.len; omega)]; simp
theorem replicate_getD {α : Type} (n : Nat) (x z : α) {j : Nat} (h : j < n) : (List.replicate n x).getD j z = x := by
  simp [List.getD, h]
theorem addE_zero {t : T} {c : Col} {x : C.Cl} (h : addE t c x = 0) : fresh t.cols c = 0 ∧ t.cols.length ≠ 6 ∧ C.chk c.kind [x] = 0 := by
  unfold addE at h
  by_cases h1 : fresh t.cols c ≠ 0
  · rw [if_pos h1] at h; exact absurd h h1
  · rw [if_neg h1] at h
    by_cases h2 : t.cols.length = 6
    · rw [if_pos h2] at h; exact absurd h (by decide)
    · rw [if_neg h2] at h; exact ⟨by omega, h2, h⟩
theorem fresh_zero {l : List Col} {c : Col} (h : fresh l c = 0) : isName c.name = true ∧ ¬ has l c.name ∧ (c.kind = 1 ∨ c.kind = 2) := by
  unfold fresh at h
  by_cases h1 : isName c.name = false
  · rw [if_pos h1] at h; exact absurd h (by decide)
  · rw [if_neg h1] at h
    by_cases h2 : has l c.name
    · rw [if_pos h2] at h; exact absurd h (by decide)
    · rw [if_neg h2] at h; exact ⟨by simpa using h1, h2, (chk_nil _).1 h⟩
theorem Ok.add {t : T} {c : Col} {x : C.Cl} (h : Ok t) (he : addE t c x = 0) : Ok (Tb.add t c x) := by
  obtain ⟨h1, h2, h3⟩ := addE_zero he
  obtain ⟨f1, f2, f3⟩ := fresh_zero h1
  have hl := h.len
  have hsix := h.six
  have cl : (Tb.add t c x).cols = t.cols ++ [c] := rfl
  have dl : (Tb.add t c x).data = t.data ++ [List.replicate (Tb.rows t) x] := rfl
  have hlen : (Tb.add t c x).cols.length = t.cols.length + 1 := by rw [cl]; simp
  have hr : Tb.rows (Tb.add t c x) = Tb.rows t := by
    unfold Tb.rows
    rw [dl]
    by_cases h0 : 0 < t.data.length
    · rw [getD_app_l _ _ _ h0]
    · have : t.data = [] := List.eq_nil_of_length_eq_zero (by omega)
      rw [this]; simp [List.getD, Tb.rows, this]
  have at_ : ∀ i, i < (Tb.add t c x).cols.length → (i < t.cols.length ∧ (Tb.add t c x).cols.getD i nulC = t.cols.getD i nulC ∧ (Tb.add t c x).data.getD i [] = t.data.getD i []) ∨ (i = t.cols.length ∧ (Tb.add t c x).cols.getD i nulC = c ∧ (Tb.add t c x).data.getD i [] = List.replicate (Tb.rows t) x) := by
    intro i hi
    rw [hlen] at hi
    by_cases hi2 : i < t.cols.length
    · exact Or.inl ⟨hi2, by rw [cl, getD_app_l _ _ _ hi2], by rw [dl, getD_app_l _ _ _ (by omega)]⟩
    · obtain rfl : i = t.cols.length := by omega
      exact Or.inr ⟨rfl, by rw [cl, getD_app_len], by rw [dl, ← hl, getD_app_len]⟩
  refine ⟨by rw [hlen]; omega, by rw [hlen, dl]; simp; omega, ?_, ?_, ?_, ?_, ?_, ?_⟩
  · intro i hi
    rcases at_ i hi with ⟨a, b, d⟩ | ⟨a, b, d⟩ <;> rw [b]
    · exact h.name i a
    · exact f1
  · intro i hi
    rcases at_ i hi with ⟨a, b, d⟩ | ⟨a, b, d⟩ <;> rw [b, cl]
    · rw [List.take_append_of_le_length (by omega)]; exact h.once i a
    · rw [a, List.take_append_of_le_length (by omega), List.take_length]; exact f2
  · intro i hi
    rcases at_ i hi with ⟨a, b, d⟩ | ⟨a, b, d⟩ <;> rw [b]
    · exact h.kind i a
    · exact f3
  · intro i hi
    rcases at_ i hi with ⟨a, b, d⟩ | ⟨a, b, d⟩ <;> rw [d]
    · exact h.many i a
    · simpa using h.rows_le
  · intro i hi j hj
    rcases at_ i hi with ⟨a, b, d⟩ | ⟨a, b, d⟩ <;> rw [d] at hj ⊢ <;> rw [b]
    · exact h.cell i a j hj
    · rw [replicate_getD _ _ _ (by simpa using hj)]; exact h3
  · intro i hi
    rw [hr]
    rcases at_ i hi with ⟨a, b, d⟩ | ⟨a, b, d⟩ <;> rw [d]
    · exact h.rows i a
    · simp
theorem pos_app_new {l : List Col} {c : Col} (h : ¬ has l c.name) : pos (l ++ [c]) c.name = l.length := by
  refine pos_hit (by simp) (fun i hi => ?_) (by rw [getD_app_len])
  rw [getD_app_l _ _ _ hi]
  exact fun e => h (has_iff.2 ⟨i, hi, e⟩)
theorem add_drop {t : T} {c : Col} {x : C.Cl} (h : Ok t) (he : addE t c x = 0) : dropE (Tb.add t c x) c.name = 0 ∧ drop (Tb.add t c x) c.name = t := by
  obtain ⟨h1, h2, h3⟩ := addE_zero he
  obtain ⟨f1, f2, f3⟩ := fresh_zero h1
  have hp : pos (Tb.add t c x).cols c.name = t.cols.length := pos_app_new f2
  constructor
  · unfold dropE
    rw [if_pos]
    show pos _ _ < _
    rw [hp]; simp [Tb.add]
  · unfold drop
    rw [hp]
    have e1 : (Tb.add t c x).cols.eraseIdx t.cols.length = t.cols := by
      show (t.cols ++ [c]).eraseIdx t.cols.length = t.cols
      rw [List.eraseIdx_append_of_length_le (Nat.le_refl _)]; simp
    have e2 : (Tb.add t c x).data.eraseIdx t.cols.length = t.data := by
      show (t.data ++ [_]).eraseIdx t.cols.length = t.data
      rw [List.eraseIdx_append_of_length_le (by rw [h.len]; exact Nat.le_refl _), h.len]; simp
    rw [e1, e2]
theorem chg_add (t : T) (c : Col) (x : C.Cl) : ((chg t (addE t c x) (add t c x)).2 ≠ 0) ∨ (Ok t ∧ ∃ u, chg t (addE t c x) (add t c x) = (u, 0) ∧ chg u (dropE u c.name) (drop u c.name) = (t, 0)) := by
  rcases chg_or t (addE t c x) (add t c x) with ⟨h, _⟩ | ⟨h1, h2, h3⟩
  · exact Or.inl h
  · have ho := check_ok h1
    obtain ⟨a1, a2⟩ := add_drop ho h2
    exact Or.inr ⟨ho, _, h3, by rw [chg_ok (ok_check (ho.add h2)) a1, a2]⟩

theorem getD_set {α : Type} (l : List α) (p i : Nat) (a z : α) (hp : p < l.length) : (l.set p a).getD i z = if i = p then a else l.getD i z := by
  by_cases h : i = p
  · subst h; simp [List.getD, hp]
  · simp [List.getD, h, Ne.symm h]
theorem renE_zero {t : T} {o n : List UInt8} (h : renE t o n = 0) : has t.cols o ∧ isName n = true ∧ (has t.cols n → pos t.cols n = pos t.cols o) := by
  unfold renE at h
  by_cases h1 : ¬ has t.cols o
  · rw [if_pos h1] at h; exact absurd h (by decide)
  · rw [if_neg h1] at h
    by_cases h2 : isName n = false
    · rw [if_pos h2] at h; exact absurd h (by decide)
    · rw [if_neg h2] at h
      by_cases h3 : has t.cols n ∧ pos t.cols n ≠ pos t.cols o
      · rw [if_pos h3] at h; exact absurd h (by decide)
      · exact ⟨Classical.not_not.1 h1, by simpa using h2, fun hn => Classical.byContradiction fun hc => h3 ⟨hn, hc⟩⟩
/-- no other column has the new name -/
theorem ren_other {t : T} {o n : List UInt8} (h : Ok t) (he : renE t o n = 0) {i : Nat} (hi : i < t.cols.length) (hne : i ≠ pos t.cols o) : (t.cols.getD i nulC).name ≠ n := by
  obtain ⟨h1, h2, h3⟩ := renE_zero he
  intro e
  have hn : has t.cols n := has_iff.2 ⟨i, hi, e⟩
  have hp := h3 hn
  have hle : pos t.cols n ≤ i := Nat.not_lt.1 fun hlt => pos_before hlt e
  have hlt : pos t.cols n < i := by omega
  refine h.once i hi (has_iff.2 ⟨pos t.cols n, by rw [List.length_take]; omega, ?_⟩)
  rw [e]
  have := pos_name hn
  simpa [List.getD, List.getElem?_take, hlt] using this
/-- and no other has the old one -/
theorem old_other {t : T} {o : List UInt8} (h : Ok t) {i : Nat} (ho : has t.cols o) (hi : i < t.cols.length) (hne : i ≠ pos t.cols o) : (t.cols.getD i nulC).name ≠ o := by
  intro e
  have hle : pos t.cols o ≤ i := Nat.not_lt.1 fun hlt => pos_before hlt e
  have hlt : pos t.cols o < i := by omega
  refine h.once i hi (has_iff.2 ⟨pos t.cols o, by rw [List.length_take]; omega, ?_⟩)
  rw [e]
  have := pos_name ho
  simpa [List.getD, List.getElem?_take, hlt] using this
theorem ren_cols (t : T) (o n : List UInt8) (h1 : has t.cols o) (i : Nat) : (ren t o n).cols.getD i nulC = if i = pos t.cols o then ⟨n, (t.cols.getD (pos t.cols o) nulC).kind⟩ else t.cols.getD i nulC := getD_set _ _ _ _ _ h1
theorem ren_len (t : T) (o n : List UInt8) : (ren t o n).cols.length = t.cols.length := by simp [ren]
theorem Ok.ren {t : T} {o n : List UInt8} (h : Ok t) (he : renE t o n = 0) : Ok (Tb.ren t o n) := by
  obtain ⟨h1, h2, h3⟩ := renE_zero he
  have hk : ∀ i, ((Tb.ren t o n).cols.getD i nulC).kind = (t.cols.getD i nulC).kind := by
    intro i
    rw [ren_cols t o n h1 i]
    split
    · rename_i e; rw [e]
    · rfl
  have dl : (Tb.ren t o n).data = t.data := rfl
  have hr : Tb.rows (Tb.ren t o n) = Tb.rows t := rfl
  refine ⟨by rw [ren_len]; exact h.six, by rw [ren_len, dl]; exact h.len, ?_, ?_, ?_, ?_, ?_, ?_⟩
  · intro i hi
    rw [ren_len] at hi
    rw [ren_cols t o n h1 i]
    split
    · exact h2
    · exact h.name i hi
  · intro i hi hh
    rw [ren_len] at hi
    obtain ⟨j, hj, e⟩ := has_iff.1 hh
    rw [List.length_take, ren_len] at hj
    have hji : j < i := by omega
    have e2 : ((Tb.ren t o n).cols.getD j nulC).name = ((Tb.ren t o n).cols.getD i nulC).name := by
      simpa [List.getD, List.getElem?_take, hji] using e
    rw [ren_cols t o n h1 i, ren_cols t o n h1 j] at e2
    by_cases hip : i = pos t.cols o
    · rw [if_pos hip, if_neg (by omega)] at e2
      exact ren_other h he (by omega) (by omega) e2
    · rw [if_neg hip] at e2
      by_cases hjp : j = pos t.cols o
      · rw [if_pos hjp] at e2
        exact ren_other h he hi hip e2.symm
      · rw [if_neg hjp] at e2
        refine h.once i hi (has_iff.2 ⟨j, by rw [List.length_take]; omega, ?_⟩)
        simpa [List.getD, List.getElem?_take, hji] using e2
  · intro i hi
    rw [ren_len] at hi
    rw [hk]; exact h.kind i hi
  · intro i hi
    rw [ren_len] at hi
    exact h.many i hi
  · intro i hi j hj
    rw [ren_len] at hi
    rw [hk]; exact h.cell i hi j hj
  · intro i hi
    rw [ren_len] at hi
    exact h.rows i hi
theorem ren_ren {t : T} {o n : List UInt8} (h : Ok t) (he : renE t o n = 0) : renE (Tb.ren t o n) n o = 0 ∧ Tb.ren (Tb.ren t o n) n o = t := by
  obtain ⟨h1, h2, h3⟩ := renE_zero he
  have hp : pos (Tb.ren t o n).cols n = pos t.cols o := by
    refine pos_hit (by rw [ren_len]; exact h1) (fun i hi => ?_) ?_
    · rw [ren_cols t o n h1 i, if_neg (by omega)]
      exact ren_other h he (by have := pos_le t.cols o; omega) (by omega)
    · rw [ren_cols t o n h1, if_pos rfl]
  have ho : isName o = true := by
    have := h.name _ h1
    rwa [pos_name h1] at this
  constructor
  · unfold renE
    rw [if_neg (by rw [Classical.not_not]; show pos _ _ < _; rw [hp, ren_len]; exact h1), if_neg (by rw [ho]; simp), if_neg]
    rintro ⟨a, b⟩
    rw [hp] at b
    have hlt : pos (Tb.ren t o n).cols o < t.cols.length := by rw [← ren_len t o n]; exact a
    have e := pos_name a
    rw [ren_cols t o n h1, if_neg b] at e
    exact old_other h h1 hlt b e
  · have e : (Tb.ren (Tb.ren t o n) n o).cols = t.cols := by
      show (Tb.ren t o n).cols.set (pos (Tb.ren t o n).cols n) _ = _
      rw [hp, ren_cols t o n h1, if_pos rfl]
      show (t.cols.set (pos t.cols o) _).set (pos t.cols o) _ = _
      rw [List.set_set]
      have e1 := pos_name h1
      have : (⟨o, (t.cols.getD (pos t.cols o) nulC).kind⟩ : Col) = t.cols[pos t.cols o]'h1 := by
        have e2 : t.cols.getD (pos t.cols o) nulC = t.cols[pos t.cols o]'h1 := by simp [List.getD, List.getElem?_eq_getElem h1]
        rw [e2] at e1 ⊢
        cases hc : t.cols[pos t.cols o]'h1 with
        | mk a b => rw [hc] at e1; simp at e1; rw [e1]
      show t.cols.set (pos t.cols o) (⟨o, (t.cols.getD (pos t.cols o) nulC).kind⟩ : Col) = t.cols
      rw [this]
      exact List.set_getElem_self h1
    have : Tb.ren (Tb.ren t o n) n o = ⟨(Tb.ren (Tb.ren t o n) n o).cols, t.data⟩ := rfl
    rw [this, e]
theorem chg_ren (t : T) (o n : List UInt8) : ((chg t (renE t o n) (ren t o n)).2 ≠ 0 ∧ (chg t (renE t o n) (ren t o n)).1 = nul) ∨ (Ok t ∧ ∃ u, chg t (renE t o n) (ren t o n) = (u, 0) ∧ chg u (renE u n o) (ren u n o) = (t, 0)) := by
  rcases chg_or t (renE t o n) (ren t o n) with ⟨h, h0⟩ | ⟨h1, h2, h3⟩
  · exact Or.inl ⟨h, h0⟩
  · have ho := check_ok h1
    obtain ⟨a1, a2⟩ := ren_ren ho h2
    exact Or.inr ⟨ho, _, h3, by rw [chg_ok (ok_check (ho.ren h2)) a1, a2]⟩
end Go.Proofs.Ytnjnalehfhfefaa.Tb
