/- TbLawU, TbLawS, TbLawK, TbLawR, TbLawP. -/
import Derived.Test.YtnjnalehfhfefaaTa
/- Plain laws of tables: what is added and dropped, renamed and renamed back. -/
namespace Go.Proofs.Ytnjnalehfhfefaa.Tb
set_option linter.unusedVariables false

theorem chg_or (t : T) (e : Nat) (r : T) : ((chg t e r).2 ≠ 0 ∧ (chg t e r).1 = nul) ∨ (check t = 0 ∧ e = 0 ∧ chg t e r = (r, 0)) := by
  unfold chg
  by_cases h : check t ≠ 0
  · rw [if_pos h]; exact Or.inl ⟨h, rfl⟩
  · rw [if_neg h]
    by_cases h2 : e ≠ 0
    · rw [if_pos h2]; exact Or.inl ⟨h2, rfl⟩
    · rw [if_neg h2]; exact Or.inr ⟨by omega, by omega, rfl⟩
theorem chg_ok {t : T} {e : Nat} {r : T} (h : check t = 0) (he : e = 0) : chg t e r = (r, 0) := by
  unfold chg; rw [if_neg (by omega), if_neg (by omega)]

theorem getD_app_l {α : Type} (l m : List α) (z : α) {i : Nat} (h : i < l.length) : (l ++ m).getD i z = l.getD i z := by
  simp [List.getD, List.getElem?_append_left h]
theorem getD_app_len {α : Type} (l : List α) (a z : α) : (l ++ [a]).getD l.length z = a := by
  simp [List.getD]
theorem getD_big {α : Type} (l : List α) (z : α) {i : Nat} (h : l.length ≤ i) : l.getD i z = z := by
  simp [List.getD, List.getElem?_eq_none h]
theorem Ok.rows_le {t : T} (h : Ok t) : Tb.rows t ≤ 128 := by
  unfold Tb.rows
  by_cases h0 : 0 < t.cols.length
  · exact h.many 0 h0
  · rw [getD_big _ _ (by have := h.len; omega)]; simp
theorem replicate_getD {α : Type} (n : Nat) (x z : α) {j : Nat} (h : j < n) : (List.replicate n x).getD j z = x := by
  simp [List.getD, h]
theorem addE_zero {t : T} {c : Col} {x : C.Cl} (h : addE t c x = 0) : fresh t.cols c = 0 ∧ t.cols.length ≠ 6 ∧ C.chk c.kind [x] = 0 := by
  unfold addE at h
  by_cases h1 : fresh t.cols c ≠ 0
  · rw [if_pos h1] at h; exact absurd h h1
  · rw [if_neg h1] at h
    by_cases h2 : t.cols.length = 6
    · rw [if_pos h2] at h; exact absurd h (by decide)
    · rw [if_neg h2] at h; exact ⟨by omega, h2, h⟩
theorem fresh_zero {l : List Col} {c : Col} (h : fresh l c = 0) : isName c.name = true ∧ ¬ has l c.name ∧ (c.kind = 1 ∨ c.kind = 2) := by
  unfold fresh at h
  by_cases h1 : isName c.name = false
  · rw [if_pos h1] at h; exact absurd h (by decide)
  · rw [if_neg h1] at h
    by_cases h2 : has l c.name
    · rw [if_pos h2] at h; exact absurd h (by decide)
    · rw [if_neg h2] at h; exact ⟨by simpa using h1, h2, (chk_nil _).1 h⟩
theorem Ok.add {t : T} {c : Col} {x : C.Cl} (h : Ok t) (he : addE t c x = 0) : Ok (Tb.add t c x) := by
  obtain ⟨h1, h2, h3⟩ := addE_zero he
  obtain ⟨f1, f2, f3⟩ := fresh_zero h1
  have hl := h.len
  have hsix := h.six
  have cl : (Tb.add t c x).cols = t.cols ++ [c] := rfl
  have dl : (Tb.add t c x).data = t.data ++ [List.replicate (Tb.rows t) x] := rfl
  have hlen : (Tb.add t c x).cols.length = t.cols.length + 1 := by rw [cl]; simp
  have hr : Tb.rows (Tb.add t c x) = Tb.rows t := by
    unfold Tb.rows
    rw [dl]
    by_cases h0 : 0 < t.data.length
    · rw [getD_app_l _ _ _ h0]
    · have : t.data = [] := List.eq_nil_of_length_eq_zero (by omega)
      rw [this]; simp [List.getD, Tb.rows, this]
  have at_ : ∀ i, i < (Tb.add t c x).cols.length → (i < t.cols.length ∧ (Tb.add t c x).cols.getD i nulC = t.cols.getD i nulC ∧ (Tb.add t c x).data.getD i [] = t.data.getD i []) ∨ (i = t.cols.length ∧ (Tb.add t c x).cols.getD i nulC = c ∧ (Tb.add t c x).data.getD i [] = List.replicate (Tb.rows t) x) := by
    intro i hi
    rw [hlen] at hi
    by_cases hi2 : i < t.cols.length
    · exact Or.inl ⟨hi2, by rw [cl, getD_app_l _ _ _ hi2], by rw [dl, getD_app_l _ _ _ (by omega)]⟩
    · obtain rfl : i = t.cols.length := by omega
      exact Or.inr ⟨rfl, by rw [cl, getD_app_len], by rw [dl, ← hl, getD_app_len]⟩
  refine ⟨by rw [hlen]; omega, by rw [hlen, dl]; simp; omega, ?_, ?_, ?_, ?_, ?_, ?_⟩
  · intro i hi
    rcases at_ i hi with ⟨a, b, d⟩ | ⟨a, b, d⟩ <;> rw [b]
    · exact h.name i a
    · exact f1
  · intro i hi
    rcases at_ i hi with ⟨a, b, d⟩ | ⟨a, b, d⟩ <;> rw [b, cl]
    · rw [List.take_append_of_le_length (by omega)]; exact h.once i a
    · rw [a, List.take_append_of_le_length (by omega), List.take_length]; exact f2
  · intro i hi
    rcases at_ i hi with ⟨a, b, d⟩ | ⟨a, b, d⟩ <;> rw [b]
    · exact h.kind i a
    · exact f3
  · intro i hi
    rcases at_ i hi with ⟨a, b, d⟩ | ⟨a, b, d⟩ <;> rw [d]
    · exact h.many i a
    · simpa using h.rows_le
  · intro i hi j hj
    rcases at_ i hi with ⟨a, b, d⟩ | ⟨a, b, d⟩ <;> rw [d] at hj ⊢ <;> rw [b]
    · exact h.cell i a j hj
    · rw [replicate_getD _ _ _ (by simpa using hj)]; exact h3
  · intro i hi
    rw [hr]
    rcases at_ i hi with ⟨a, b, d⟩ | ⟨a, b, d⟩ <;> rw [d]
    · exact h.rows i a
    · simp
theorem pos_app_new {l : List Col} {c : Col} (h : ¬ has l c.name) : pos (l ++ [c]) c.name = l.length := by
  refine pos_hit (by simp) (fun i hi => ?_) (by rw [getD_app_len])
  rw [getD_app_l _ _ _ hi]
  exact fun e => h (has_iff.2 ⟨i, hi, e⟩)
theorem add_drop {t : T} {c : Col} {x : C.Cl} (h : Ok t) (he : addE t c x = 0) : dropE (Tb.add t c x) c.name = 0 ∧ drop (Tb.add t c x) c.name = t := by
  obtain ⟨h1, h2, h3⟩ := addE_zero he
  obtain ⟨f1, f2, f3⟩ := fresh_zero h1
  have hp : pos (Tb.add t c x).cols c.name = t.cols.length := pos_app_new f2
  constructor
  · unfold dropE
    rw [if_pos]
    show pos _ _ < _
    rw [hp]; simp [Tb.add]
  · unfold drop
    rw [hp]
    have e1 : (Tb.add t c x).cols.eraseIdx t.cols.length = t.cols := by
      show (t.cols ++ [c]).eraseIdx t.cols.length = t.cols
      rw [List.eraseIdx_append_of_length_le (Nat.le_refl _)]; simp
    have e2 : (Tb.add t c x).data.eraseIdx t.cols.length = t.data := by
      show (t.data ++ [_]).eraseIdx t.cols.length = t.data
      rw [List.eraseIdx_append_of_length_le (by rw [h.len]; exact Nat.le_refl _), h.len]; simp
    rw [e1, e2]
theorem chg_add (t : T) (c : Col) (x : C.Cl) : ((chg t (addE t c x) (add t c x)).2 ≠ 0) ∨ (Ok t ∧ ∃ u, chg t (addE t c x) (add t c x) = (u, 0) ∧ chg u (dropE u c.name) (drop u c.name) = (t, 0)) := by
  rcases chg_or t (addE t c x) (add t c x) with ⟨h, _⟩ | ⟨h1, h2, h3⟩
  · exact Or.inl h
  · have ho := check_ok h1
    obtain ⟨a1, a2⟩ := add_drop ho h2
    exact Or.inr ⟨ho, _, h3, by rw [chg_ok (ok_check (ho.add h2)) a1, a2]⟩

theorem getD_set {α : Type} (l : List α) (p i : Nat) (a z : α) (hp : p < l.length) : (l.set p a).getD i z = if i = p then a else l.getD i z := by
  by_cases h : i = p
  · subst h; simp [List.getD, hp]
  · simp [List.getD, h, Ne.symm h]
theorem renE_zero {t : T} {o n : List UInt8} (h : renE t o n = 0) : has t.cols o ∧ isName n = true ∧ (has t.cols n → pos t.cols n = pos t.cols o) := by
  unfold renE at h
  by_cases h1 : ¬ has t.cols o
  · rw [if_pos h1] at h; exact absurd h (by decide)
  · rw [if_neg h1] at h
    by_cases h2 : isName n = false
    · rw [if_pos h2] at h; exact absurd h (by decide)
    · rw [if_neg h2] at h
      by_cases h3 : has t.cols n ∧ pos t.cols n ≠ pos t.cols o
      · rw [if_pos h3] at h; exact absurd h (by decide)
      · exact ⟨Classical.not_not.1 h1, by simpa using h2, fun hn => Classical.byContradiction fun hc => h3 ⟨hn, hc⟩⟩
/-- no other column has the new name -/
theorem ren_other {t : T} {o n : List UInt8} (h : Ok t) (he : renE t o n = 0) {i : Nat} (hi : i < t.cols.length) (hne : i ≠ pos t.cols o) : (t.cols.getD i nulC).name ≠ n := by
  obtain ⟨h1, h2, h3⟩ := renE_zero he
  intro e
  have hn : has t.cols n := has_iff.2 ⟨i, hi, e⟩
  have hp := h3 hn
  have hle : pos t.cols n ≤ i := Nat.not_lt.1 fun hlt => pos_before hlt e
  have hlt : pos t.cols n < i := by omega
  refine h.once i hi (has_iff.2 ⟨pos t.cols n, by rw [List.length_take]; omega, ?_⟩)
  rw [e]
  have := pos_name hn
  simpa [List.getD, List.getElem?_take, hlt] using this
/-- and no other has the old one -/
theorem old_other {t : T} {o : List UInt8} (h : Ok t) {i : Nat} (ho : has t.cols o) (hi : i < t.cols.length) (hne : i ≠ pos t.cols o) : (t.cols.getD i nulC).name ≠ o := by
  intro e
  have hle : pos t.cols o ≤ i := Nat.not_lt.1 fun hlt => pos_before hlt e
  have hlt : pos t.cols o < i := by omega
  refine h.once i hi (has_iff.2 ⟨pos t.cols o, by rw [List.length_take]; omega, ?_⟩)
  rw [e]
  have := pos_name ho
  simpa [List.getD, List.getElem?_take, hlt] using this
theorem ren_cols (t : T) (o n : List UInt8) (h1 : has t.cols o) (i : Nat) : (ren t o n).cols.getD i nulC = if i = pos t.cols o then ⟨n, (t.cols.getD (pos t.cols o) nulC).kind⟩ else t.cols.getD i nulC := getD_set _ _ _ _ _ h1
theorem ren_len (t : T) (o n : List UInt8) : (ren t o n).cols.length = t.cols.length := by simp [ren]
theorem Ok.ren {t : T} {o n : List UInt8} (h : Ok t) (he : renE t o n = 0) : Ok (Tb.ren t o n) := by
  obtain ⟨h1, h2, h3⟩ := renE_zero he
  have hk : ∀ i, ((Tb.ren t o n).cols.getD i nulC).kind = (t.cols.getD i nulC).kind := by
    intro i
    rw [ren_cols t o n h1 i]
    split
    · rename_i e; rw [e]
    · rfl
  have dl : (Tb.ren t o n).data = t.data := rfl
  have hr : Tb.rows (Tb.ren t o n) = Tb.rows t := rfl
  refine ⟨by rw [ren_len]; exact h.six, by rw [ren_len, dl]; exact h.len, ?_, ?_, ?_, ?_, ?_, ?_⟩
  · intro i hi
    rw [ren_len] at hi
    rw [ren_cols t o n h1 i]
    split
    · exact h2
    · exact h.name i hi
  · intro i hi hh
    rw [ren_len] at hi
    obtain ⟨j, hj, e⟩ := has_iff.1 hh
    rw [List.length_take, ren_len] at hj
    have hji : j < i := by omega
    have e2 : ((Tb.ren t o n).cols.getD j nulC).name = ((Tb.ren t o n).cols.getD i nulC).name := by
      simpa [List.getD, List.getElem?_take, hji] using e
    rw [ren_cols t o n h1 i, ren_cols t o n h1 j] at e2
    by_cases hip : i = pos t.cols o
    · rw [if_pos hip, if_neg (by omega)] at e2
      exact ren_other h he (by omega) (by omega) e2
    · rw [if_neg hip] at e2
      by_cases hjp : j = pos t.cols o
      · rw [if_pos hjp] at e2
        exact ren_other h he hi hip e2.symm
      · rw [if_neg hjp] at e2
        refine h.once i hi (has_iff.2 ⟨j, by rw [List.length_take]; omega, ?_⟩)
        simpa [List.getD, List.getElem?_take, hji] using e2
  · intro i hi
    rw [ren_len] at hi
    rw [hk]; exact h.kind i hi
  · intro i hi
    rw [ren_len] at hi
    exact h.many i hi
  · intro i hi j hj
    rw [ren_len] at hi
    rw [hk]; exact h.cell i hi j hj
  · intro i hi
    rw [ren_len] at hi
    exact h.rows i hi
theorem ren_ren {t : T} {o n : List UInt8} (h : Ok t) (he : renE t o n = 0) : renE (Tb.ren t o n) n o = 0 ∧ Tb.ren (Tb.ren t o n) n o = t := by
  obtain ⟨h1, h2, h3⟩ := renE_zero he
  have hp : pos (Tb.ren t o n).cols n = pos t.cols o := by
    refine pos_hit (by rw [ren_len]; exact h1) (fun i hi => ?_) ?_
    · rw [ren_cols t o n h1 i, if_neg (by omega)]
      exact ren_other h he (by have := pos_le t.cols o; omega) (by omega)
    · rw [ren_cols t o n h1, if_pos rfl]
  have ho : isName o = true := by
    have := h.name _ h1
    rwa [pos_name h1] at this
  constructor
  · unfold renE
    rw [if_neg (by rw [Classical.not_not]; show pos _ _ < _; rw [hp, ren_len]; exact h1), if_neg (by rw [ho]; simp), if_neg]
    rintro ⟨a, b⟩
    rw [hp] at b
    have hlt : pos (Tb.ren t o n).cols o < t.cols.length := by rw [← ren_len t o n]; exact a
    have e := pos_name a
    rw [ren_cols t o n h1, if_neg b] at e
    exact old_other h h1 hlt b e
  · have e : (Tb.ren (Tb.ren t o n) n o).cols = t.cols := by
      show (Tb.ren t o n).cols.set (pos (Tb.ren t o n).cols n) _ = _
      rw [hp, ren_cols t o n h1, if_pos rfl]
      show (t.cols.set (pos t.cols o) _).set (pos t.cols o) _ = _
      rw [List.set_set]
      have e1 := pos_name h1
      have : (⟨o, (t.cols.getD (pos t.cols o) nulC).kind⟩ : Col) = t.cols[pos t.cols o]'h1 := by
        have e2 : t.cols.getD (pos t.cols o) nulC = t.cols[pos t.cols o]'h1 := by simp [List.getD, List.getElem?_eq_getElem h1]
        rw [e2] at e1 ⊢
        cases hc : t.cols[pos t.cols o]'h1 with
        | mk a b => rw [hc] at e1; simp at e1; rw [e1]
      show t.cols.set (pos t.cols o) (⟨o, (t.cols.getD (pos t.cols o) nulC).kind⟩ : Col) = t.cols
      rw [this]
      exact List.set_getElem_self h1
    have : Tb.ren (Tb.ren t o n) n o = ⟨(Tb.ren (Tb.ren t o n) n o).cols, t.data⟩ := rfl
    rw [this, e]
theorem chg_ren (t : T) (o n : List UInt8) : ((chg t (renE t o n) (ren t o n)).2 ≠ 0 ∧ (chg t (renE t o n) (ren t o n)).1 = nul) ∨ (Ok t ∧ ∃ u, chg t (renE t o n) (ren t o n) = (u, 0) ∧ chg u (renE u n o) (ren u n o) = (t, 0)) := by
  rcases chg_or t (renE t o n) (ren t o n) with ⟨h, h0⟩ | ⟨h1, h2, h3⟩
  · exact Or.inl ⟨h, h0⟩
  · have ho := check_ok h1
    obtain ⟨a1, a2⟩ := ren_ren ho h2
    exact Or.inr ⟨ho, _, h3, by rw [chg_ok (ok_check (ho.ren h2)) a1, a2]⟩
end Go.Proofs.Ytnjnalehfhfefaa.Tb
/- Plain laws of tables: rows that are taken. -/
namespace Go.Proofs.Ytnjnalehfhfefaa.Tb
set_option linter.unusedVariables false

theorem getD_map {α β : Type} (f : α → β) (l : List α) (i : Nat) (z : α) (y : β) (hy : f z = y) : (l.map f).getD i y = f (l.getD i z) := by
  subst hy
  by_cases h : i < l.length
  · simp [List.getD, List.getElem?_eq_getElem h]
  · rw [getD_big _ _ (by simpa using h), getD_big _ _ (by omega)]
theorem getD_mem {α : Type} (l : List α) (z : α) {i : Nat} (h : i < l.length) : l.getD i z ∈ l := by
  rw [show l.getD i z = l[i] by simp [List.getD, List.getElem?_eq_getElem h]]
  exact List.getElem_mem h
theorem mem_getD {α : Type} {l : List α} {x : α} (z : α) (h : x ∈ l) : ∃ i, i < l.length ∧ l.getD i z = x := by
  obtain ⟨i, hi, rfl⟩ := List.mem_iff_getElem.1 h
  exact ⟨i, hi, by simp [List.getD, List.getElem?_eq_getElem hi]⟩

/-- other cells under the same columns -/
structure Sub (t u : T) : Prop where
  cols : u.cols = t.cols
  len : u.data.length = t.data.length
  many : ∀ i, i < t.cols.length → (u.data.getD i []).length ≤ (t.data.getD i []).length
  mem : ∀ i, i < t.cols.length → ∀ x ∈ u.data.getD i [], x ∈ t.data.getD i [] ∨ C.chk (t.cols.getD i nulC).kind [x] = 0
  same : ∀ i, i < t.cols.length → (u.data.getD i []).length = (u.data.getD 0 []).length
theorem Sub.ok {t u : T} (h : Ok t) (s : Sub t u) : Ok u := by
  have c := s.cols
  refine ⟨by rw [c]; exact h.six, by rw [c, s.len]; exact h.len, ?_, ?_, ?_, ?_, ?_, ?_⟩ <;> rw [c]
  · exact h.name
  · exact h.once
  · exact h.kind
  · intro i hi; exact Nat.le_trans (s.many i hi) (h.many i hi)
  · intro i hi j hj
    rcases s.mem i hi _ (getD_mem (u.data.getD i []) C.null hj) with hm | hm
    · obtain ⟨k, hk, e⟩ := mem_getD C.null hm
      rw [← e]; exact h.cell i hi k hk
    · exact hm
  · intro i hi; exact s.same i hi

theorem Ok.lens {t : T} (h : Ok t) : ∀ l ∈ t.data, l.length = Tb.rows t := by
  intro l hl
  obtain ⟨i, hi, rfl⟩ := mem_getD [] hl
  exact h.rows i (by have := h.len; omega)
/-- each column's cells by the same rule, which leaves some of them -/
theorem sub_map {t : T} (f : List C.Cl → List C.Cl) (h : Ok t) (hf0 : f [] = []) (hl : ∀ l, l.length = Tb.rows t → (f l).length = (f (t.data.getD 0 [])).length) (hm : ∀ l, ∀ x ∈ f l, x ∈ l) (hlen : ∀ l, (f l).length ≤ l.length) : Sub t ⟨t.cols, t.data.map f⟩ := by
  refine ⟨rfl, by simp, ?_, ?_, ?_⟩
  · intro i hi
    show ((t.data.map f).getD i []).length ≤ _
    rw [getD_map f _ _ [] [] hf0]; exact hlen _
  · intro i hi x hx
    replace hx : x ∈ (t.data.map f).getD i [] := hx
    rw [getD_map f _ _ [] [] hf0] at hx; exact Or.inl (hm _ x hx)
  · intro i hi
    show ((t.data.map f).getD i []).length = ((t.data.map f).getD 0 []).length
    rw [getD_map f _ _ [] [] hf0, getD_map f _ _ [] [] hf0]
    exact hl _ (h.rows i hi)
theorem sli_sub {t : T} (h : Ok t) (f m : Int) : Sub t (sli t f m) := by
  refine sub_map (fun l => (l.drop (sliF t f)).take (sliN t f m)) h (by simp) ?_ ?_ ?_
  · intro l hl
    simp only [List.length_take, List.length_drop]
    show _ = min _ (Tb.rows t - _)
    rw [hl]
  · intro l x hx
    exact List.mem_of_mem_drop (List.mem_of_mem_take hx)
  · intro l
    simp only [List.length_take, List.length_drop]
    omega
theorem Ok.sli {t : T} (h : Ok t) (f m : Int) : Ok (Tb.sli t f m) := (sli_sub h f m).ok h
theorem sliE_zero {f m : Int} (hf : ¬ f < 0) (hm : ¬ m < 0) : sliE f m = 0 := by unfold sliE; rw [if_neg (by omega)]
theorem rows_map (t : T) (f : List C.Cl → List C.Cl) (hf0 : f [] = []) : Tb.rows ⟨t.cols, t.data.map f⟩ = (f (t.data.getD 0 [])).length := by
  unfold Tb.rows
  rw [show (T.mk t.cols (t.data.map f)).data = t.data.map f from rfl, getD_map f _ _ [] [] hf0]

/-- the first rows, and all behind them -/
def fst (t : T) (q : Nat) : T := ⟨t.cols, t.data.map fun l => l.take q⟩
def snd (t : T) (q : Nat) : T := ⟨t.cols, t.data.map fun l => l.drop q⟩
theorem map_congr' {α β : Type} {f g : α → β} {l : List α} (h : ∀ x ∈ l, f x = g x) : l.map f = l.map g := List.map_congr_left h
theorem sli_fst {t : T} (h : Ok t) (k : Int) : Tb.sli t 0 k = fst t (min k.toNat (Tb.rows t)) := by
  unfold Tb.sli fst
  have h1 : sliF t 0 = 0 := by unfold sliF; simp
  have h2 : sliN t 0 k = min k.toNat (Tb.rows t) := by unfold sliN; rw [h1]; simp
  rw [h1, h2]
  simp
theorem sli_snd {t : T} (h : Ok t) (k : Int) : Tb.sli t k 128 = snd t (min k.toNat (Tb.rows t)) := by
  unfold Tb.sli snd
  have h1 : sliF t k = min k.toNat (Tb.rows t) := rfl
  have h2 : sliN t k 128 = Tb.rows t - min k.toNat (Tb.rows t) := by
    have := h.rows_le
    unfold sliN; rw [h1]
    show min 128 _ = _
    omega
  rw [h1, h2]
  refine congrArg (T.mk t.cols) (map_congr' fun l hl => ?_)
  rw [List.take_of_length_le]
  rw [List.length_drop, h.lens l hl]
  exact Nat.le_refl _
theorem rows_fst (t : T) (q : Nat) : Tb.rows (fst t q) = min q (Tb.rows t) := by
  unfold fst; rw [rows_map _ _ (by simp), List.length_take]; rfl
theorem rows_snd (t : T) (q : Nat) : Tb.rows (snd t q) = Tb.rows t - q := by
  unfold snd; rw [rows_map _ _ (by simp), List.length_drop]; rfl
theorem zip_maps {α β : Type} (f g : α → List β) (h : α → List β) (l : List α) (e : ∀ x ∈ l, f x ++ g x = h x) : List.zipWith (· ++ ·) (l.map f) (l.map g) = l.map h := by
  induction l with
  | nil => rfl
  | cons x l ih =>
    simp only [List.map_cons, List.zipWith_cons_cons]
    rw [e x (by simp), ih (fun y hy => e y (by simp [hy]))]
theorem app_parts (t : T) (q : Nat) : Tb.app (fst t q) (snd t q) = t := by
  unfold Tb.app fst snd
  show T.mk t.cols (List.zipWith (· ++ ·) (t.data.map _) (t.data.map _)) = t
  rw [zip_maps _ _ id t.data (fun l _ => by simp)]
  simp
theorem appE_zero {a b : T} (hb : check b = 0) (hc : a.cols = b.cols) (hr : Tb.rows a + Tb.rows b ≤ 128) : appE a b = 0 := by
  unfold appE
  rw [if_neg (by omega), if_neg (by rw [Classical.not_not]; exact hc), if_neg (by omega)]

theorem marked_nil (m : List Bool) : marked [] m = [] := by simp [marked]
theorem marked_len (l l' : List C.Cl) (m : List Bool) (h : l.length = l'.length) : (marked l m).length = (marked l' m).length := by
  induction l generalizing l' m with
  | nil =>
    obtain rfl : l' = [] := List.eq_nil_of_length_eq_zero (by simpa using h.symm)
    rfl
  | cons x l ih =>
    match l', h with
    | y :: l', h =>
      match m with
      | [] => simp [marked]
      | b :: m =>
        have := ih l' m (by simpa using h)
        unfold marked at *
        cases b
        · simpa using this
        · simpa using this
theorem marked_mem (l : List C.Cl) (m : List Bool) : ∀ x ∈ marked l m, x ∈ l := by
  intro x hx
  unfold marked at hx
  obtain ⟨y, hy, rfl⟩ := List.mem_map.1 hx
  exact (List.of_mem_zip (List.mem_filter.1 hy).1).1
theorem marked_le (l : List C.Cl) (m : List Bool) : (marked l m).length ≤ l.length := by
  unfold marked
  rw [List.length_map]
  exact Nat.le_trans (List.length_filter_le _ _) (by rw [List.length_zip]; omega)
theorem marked_append (l1 l2 : List C.Cl) (m1 m2 : List Bool) (h : l1.length = m1.length) : marked (l1 ++ l2) (m1 ++ m2) = marked l1 m1 ++ marked l2 m2 := by
  unfold marked
  rw [List.zip_append h, List.filter_append, List.map_append]
theorem keep_sub {t : T} (h : Ok t) (p : List O.Cd) : Sub t (Tb.keep t p) :=
  sub_map (fun l => marked l (marks t p)) h (marked_nil _) (fun l hl => marked_len _ _ _ (by rw [hl]; rfl)) (fun l => marked_mem l _) (fun l => marked_le l _)
theorem Ok.keep {t : T} (h : Ok t) (p : List O.Cd) : Ok (Tb.keep t p) := (keep_sub h p).ok h
theorem rows_keep_le (t : T) (p : List O.Cd) : Tb.rows (Tb.keep t p) ≤ Tb.rows t := by
  unfold Tb.keep; rw [rows_map _ _ (marked_nil _)]; exact marked_le _ _
theorem getD_take {α : Type} (l : List α) (z : α) {i q : Nat} (h : i < q) : (l.take q).getD i z = l.getD i z := by
  simp [List.getD, h]
theorem getD_drop {α : Type} (l : List α) (z : α) (i q : Nat) : (l.drop q).getD i z = l.getD (q + i) z := by
  simp [List.getD, List.getElem?_drop]
theorem tru_fst (t : T) (p : List O.Cd) {i q : Nat} (h : i < q) : tru (fst t q) p i = tru t p i := by
  unfold tru
  rw [show rowAt (fst t q) i = rowAt t i by
    unfold rowAt fst
    rw [List.map_map]
    exact map_congr' fun l _ => getD_take l _ h]
  rfl
theorem tru_snd (t : T) (p : List O.Cd) (i q : Nat) : tru (snd t q) p i = tru t p (q + i) := by
  unfold tru
  rw [show rowAt (snd t q) i = rowAt t (q + i) by
    unfold rowAt snd
    rw [List.map_map]
    exact map_congr' fun l _ => getD_drop l _ i q]
  rfl
theorem marks_len (t : T) (p : List O.Cd) : (marks t p).length = Tb.rows t := by simp [marks]
theorem marks_parts {t : T} (p : List O.Cd) {q : Nat} (hq : q ≤ Tb.rows t) : marks t p = marks (fst t q) p ++ marks (snd t q) p := by
  apply List.ext_getElem
  · rw [List.length_append, marks_len, marks_len, marks_len, rows_fst, rows_snd]; omega
  · intro i h1 h2
    rw [marks_len] at h1
    by_cases hi : i < q
    · rw [List.getElem_append_left (by rw [marks_len, rows_fst]; omega)]
      simp only [marks, List.getElem_map, List.getElem_range]
      rw [tru_fst t p hi]
    · rw [List.getElem_append_right (by rw [marks_len, rows_fst]; omega)]
      simp only [marks, List.getElem_map, List.getElem_range]
      rw [tru_snd]
      congr 1
      rw [List.length_map, List.length_range, rows_fst]; omega
theorem keep_parts {t : T} (h : Ok t) (p : List O.Cd) {q : Nat} (hq : q ≤ Tb.rows t) : Tb.app (Tb.keep (fst t q) p) (Tb.keep (snd t q) p) = Tb.keep t p := by
  have e1 : Tb.keep (fst t q) p = ⟨t.cols, t.data.map fun l => marked (l.take q) (marks (fst t q) p)⟩ := by
    unfold Tb.keep
    show T.mk t.cols ((t.data.map fun l => l.take q).map _) = _
    rw [List.map_map]; rfl
  have e2 : Tb.keep (snd t q) p = ⟨t.cols, t.data.map fun l => marked (l.drop q) (marks (snd t q) p)⟩ := by
    unfold Tb.keep
    show T.mk t.cols ((t.data.map fun l => l.drop q).map _) = _
    rw [List.map_map]; rfl
  rw [e1, e2]
  unfold Tb.app Tb.keep
  show T.mk t.cols (List.zipWith (· ++ ·) (t.data.map _) (t.data.map _)) = _
  rw [zip_maps _ _ (fun l => marked l (marks t p)) t.data]
  intro l hl
  have hll := h.lens l hl
  rw [marks_parts p hq, ← marked_append _ _ _ _ (by rw [marks_len, rows_fst, List.length_take, hll]), List.take_append_drop]
theorem ok_fst {t : T} (h : Ok t) (q : Nat) : Ok (fst t q) := by
  refine (sub_map (fun l => l.take q) h (by simp) ?_ (fun l x hx => List.mem_of_mem_take hx) (fun l => by rw [List.length_take]; omega)).ok h
  intro l hl
  rw [List.length_take, List.length_take, hl]; rfl
theorem ok_snd {t : T} (h : Ok t) (q : Nat) : Ok (snd t q) := by
  refine (sub_map (fun l => l.drop q) h (by simp) ?_ (fun l x hx => List.mem_of_mem_drop hx) (fun l => by rw [List.length_drop]; omega)).ok h
  intro l hl
  rw [List.length_drop, List.length_drop, hl]; rfl
/-- all that TableParts asks -/
theorem parts_law {t : T} (h : Ok t) (k : Int) (hk : ¬ k < 0) (p : List O.Cd) : ∃ a b, chg t (sliE 0 k) (sli t 0 k) = (a, 0) ∧ chg t (sliE k 128) (sli t k 128) = (b, 0) ∧ chg a (appE a b) (app a b) = (t, 0) ∧
    (((chg t (keepE t p) (keep t p)).2 ≠ 0 ∧ (chg t (keepE t p) (keep t p)).1 = nul) ∨ ∃ d x y, chg t (keepE t p) (keep t p) = (d, 0) ∧ chg a (keepE a p) (keep a p) = (x, 0) ∧ chg b (keepE b p) (keep b p) = (y, 0) ∧ chg x (appE x y) (app x y) = (d, 0) ∧ Ok d) := by
  have hc := ok_check h
  have hq : min k.toNat (Tb.rows t) ≤ Tb.rows t := Nat.min_le_right _ _
  generalize hqe : min k.toNat (Tb.rows t) = q at hq
  have ha := ok_check (ok_fst h q)
  have hb := ok_check (ok_snd h q)
  refine ⟨fst t q, snd t q, ?_, ?_, ?_, ?_⟩
  · rw [chg_ok hc (sliE_zero (by omega) hk), sli_fst h, hqe]
  · rw [chg_ok hc (sliE_zero hk (by omega)), sli_snd h, hqe]
  · rw [chg_ok ha (appE_zero (a := fst t q) hb rfl ?_), app_parts]
    rw [rows_fst, rows_snd]; have := h.rows_le; omega
  · rcases chg_or t (keepE t p) (keep t p) with hx | ⟨_, h2, h3⟩
    · exact Or.inl hx
    · refine Or.inr ⟨_, _, _, h3, chg_ok ha h2, chg_ok hb h2, ?_, h.keep p⟩
      rw [chg_ok (ok_check ((ok_fst h q).keep p)) (appE_zero (a := keep (fst t q) p) (ok_check ((ok_snd h q).keep p)) rfl ?_), keep_parts h p hq]
      have := rows_keep_le (fst t q) p
      have := rows_keep_le (snd t q) p
      rw [rows_fst] at *
      rw [rows_snd] at *
      have := h.rows_le
      omega
end Go.Proofs.Ytnjnalehfhfefaa.Tb
/- Plain laws of tables: rows that are kept, cells that are redacted. -/
namespace Go.Proofs.Ytnjnalehfhfefaa.Tb
set_option linter.unusedVariables false

theorem rowE_zero : ∀ (ks : List Int) (row : List C.Cl), (∀ i, i < ks.length → i < row.length → C.chk (ks.getD i 0) [row.getD i C.null] = 0) → O.rowE ks row = 0
  | [], _, _ => rfl
  | k :: ks, [], _ => rfl
  | k :: ks, c :: cs, h => by
    unfold O.rowE
    have h0 := h 0 (by simp) (by simp)
    simp [List.getD] at h0
    rw [if_neg (by rw [h0]; simp)]
    exact rowE_zero ks cs (fun i h1 h2 => by
      have := h (i + 1) (by simpa using h1) (by simpa using h2)
      simpa [List.getD] using this)
theorem rowAt_len (t : T) (i : Nat) : (rowAt t i).length = t.data.length := by simp [rowAt]
theorem kinds_len' (t : T) : (kinds t).length = t.cols.length := by simp [kinds]
theorem kinds_getD (t : T) (i : Nat) : (kinds t).getD i 0 = (t.cols.getD i nulC).kind := getD_map _ _ _ nulC 0 rfl
theorem rowAt_getD (t : T) (i c : Nat) : (rowAt t i).getD c C.null = (t.data.getD c []).getD i C.null := by
  unfold rowAt
  rw [getD_map (fun l : List C.Cl => l.getD i C.null) t.data c [] C.null (by simp)]
theorem Ok.row {t : T} (h : Ok t) {i : Nat} (hi : i < Tb.rows t) : O.rowE (kinds t) (rowAt t i) = 0 := by
  refine rowE_zero _ _ (fun c hc hc2 => ?_)
  rw [kinds_len'] at hc
  rw [kinds_getD, rowAt_getD]
  exact h.cell c hc i (by rw [h.rows c hc]; exact hi)
/-- what a condition is of a row of a table that is right -/
theorem Ok.ask {t : T} (h : Ok t) {i : Nat} (hi : i < Tb.rows t) {p : List O.Cd} {s : O.T} (hs : O.ok (kinds t) s) (hp : O.flat s = p) (hl : p.length ≤ 16) : O.askR p (kinds t) (rowAt t i) = (O.ev (O.askL (rowAt t i)) O.jo s, 0) :=
  O.askR_tree hs hp hl (by rw [rowAt_len, kinds_len', h.len]) (h.row hi)

/-- what is kept of a list by a rule on places -/
def sel (f : Nat → Bool) (l : List C.Cl) (n : Nat) : List C.Cl := marked l ((List.range n).map f)
theorem marked_filter (l : List C.Cl) (f : Nat → Bool) (n : Nat) (h : l.length = n) : marked l ((List.range n).map f) = ((List.range n).filter f).map (fun i => l.getD i C.null) := by
  subst h
  have key : ∀ (l : List C.Cl) (k : Nat), marked l ((List.range' k l.length).map f) = ((List.range' k l.length).filter f).map (fun i => l.getD (i - k) C.null) := by
    intro l
    induction l with
    | nil => intro k; simp [marked]
    | cons x l ih =>
      intro k
      rw [List.length_cons, List.range'_succ, List.map_cons]
      have hm : ∀ (b : Bool) (m : List Bool), marked (x :: l) (b :: m) = (if b then [x] else []) ++ marked l m := by
        intro b m; unfold marked; cases b <;> simp
      rw [hm, ih (k + 1), List.filter_cons]
      have e : ((List.range' (k + 1) l.length).filter f).map (fun i => l.getD (i - (k + 1)) C.null) = ((List.range' (k + 1) l.length).filter f).map (fun i => (x :: l).getD (i - k) C.null) := by
        refine map_congr' fun i hi => ?_
        have h1 := (List.mem_range'_1.1 (List.mem_filter.1 hi).1).1
        rw [show i - k = (i - (k + 1)) + 1 by omega]
        simp [List.getD]
      rw [e]
      cases f k
      · simp
      · simp [List.getD]
  have := key l 0
  rw [← List.range_eq_range'] at this
  simpa using this
/-- the rows of a table that a condition is True of -/
def hits (t : T) (p : List O.Cd) : List Nat := (List.range (Tb.rows t)).filter (tru t p)
def picked (t : T) (at_ : List Nat) : T := ⟨t.cols, t.data.map fun l => at_.map fun i => l.getD i C.null⟩
theorem keep_picked {t : T} (h : Ok t) (p : List O.Cd) : Tb.keep t p = picked t (hits t p) := by
  unfold Tb.keep picked
  refine congrArg (T.mk t.cols) (map_congr' fun l hl => ?_)
  exact marked_filter l (tru t p) (Tb.rows t) (h.lens l hl)
theorem rows_picked {t : T} (h : Ok t) (a : List Nat) (h0 : 0 < t.cols.length) : Tb.rows (picked t a) = a.length := by
  unfold Tb.rows picked
  have : 0 < t.data.length := by rw [h.len]; exact h0
  show ((t.data.map _).getD 0 []).length = _
  rw [show (t.data.map fun l => a.map fun i => l.getD i C.null).getD 0 [] = a.map fun i => (t.data.getD 0 []).getD i C.null by
    simp [List.getD, List.getElem?_eq_getElem this]]
  simp
theorem getD_nats (a : List Nat) {j : Nat} (h : j < a.length) : a.getD j 0 = a[j] := by simp [List.getD, List.getElem?_eq_getElem h]
theorem tru_picked (t : T) (a : List Nat) (p : List O.Cd) {j : Nat} (h : j < a.length) : tru (picked t a) p j = tru t p (a.getD j 0) := by
  unfold tru
  rw [show rowAt (picked t a) j = rowAt t (a.getD j 0) by
    unfold rowAt picked
    rw [List.map_map]
    refine map_congr' fun l _ => ?_
    show (a.map fun i => l.getD i C.null).getD j C.null = _
    simp [List.getD, List.getElem?_eq_getElem h]]
  rfl
theorem range_filter_map (a : List Nat) (f : Nat → Bool) : ((List.range a.length).filter fun j => f (a.getD j 0)).map (fun j => a.getD j 0) = a.filter f := by
  have key : ∀ (a : List Nat) (k : Nat), ((List.range' k a.length).filter fun j => f (a.getD (j - k) 0)).map (fun j => a.getD (j - k) 0) = a.filter f := by
    intro a
    induction a with
    | nil => intro k; simp
    | cons x a ih =>
      intro k
      rw [List.length_cons, List.range'_succ, List.filter_cons, List.filter_cons, ← ih (k + 1)]
      have e : ∀ i ∈ List.range' (k + 1) a.length, (x :: a).getD (i - k) 0 = a.getD (i - (k + 1)) 0 := by
        intro i hi
        have h1 := (List.mem_range'_1.1 hi).1
        rw [show i - k = (i - (k + 1)) + 1 by omega]
        simp [List.getD]
      have e1 : (List.range' (k + 1) a.length).filter (fun j => f ((x :: a).getD (j - k) 0)) = (List.range' (k + 1) a.length).filter (fun j => f (a.getD (j - (k + 1)) 0)) :=
        List.filter_congr fun i hi => by rw [e i hi]
      have e2 : ((List.range' (k + 1) a.length).filter (fun j => f (a.getD (j - (k + 1)) 0))).map (fun j => (x :: a).getD (j - k) 0) = ((List.range' (k + 1) a.length).filter (fun j => f (a.getD (j - (k + 1)) 0))).map (fun j => a.getD (j - (k + 1)) 0) :=
        map_congr' fun i hi => e i (List.mem_filter.1 hi).1
      rw [e1, Nat.sub_self]
      have e0 : (x :: a).getD 0 0 = x := by simp [List.getD]
      rw [e0]
      cases hf : f x
      · simp only [Bool.false_eq_true, if_false]
        rw [e2]
      · simp only [if_true, List.map_cons]
        rw [e2, Nat.sub_self, e0]
  have := key a 0
  rw [← List.range_eq_range'] at this
  simpa using this
/-- kept of what was kept: one picks once -/
theorem keep_pick {t : T} (h : Ok t) (a : List Nat) (hok : Ok (picked t a)) (p : List O.Cd) : Tb.keep (picked t a) p = picked t (a.filter (tru t p)) := by
  by_cases h0 : 0 < t.cols.length
  · rw [keep_picked hok]
    unfold hits
    rw [rows_picked h a h0, ← range_filter_map a (tru t p)]
    unfold picked
    show T.mk t.cols ((t.data.map _).map _) = T.mk t.cols (t.data.map _)
    rw [List.map_map]
    refine congrArg (T.mk t.cols) (map_congr' fun l hl => ?_)
    show ((List.range a.length).filter (tru (picked t a) p)).map (fun i => (a.map fun i => l.getD i C.null).getD i C.null) = _
    rw [List.map_map, List.filter_congr (q := fun j => tru t p (a.getD j 0)) (fun j hj => tru_picked t a p (List.mem_range.1 hj))]
    refine map_congr' fun j hj => ?_
    have hj := List.mem_range.1 (List.mem_filter.1 hj).1
    simp [List.getD, List.getElem?_eq_getElem hj]
  · have hd : t.data = [] := List.eq_nil_of_length_eq_zero (by have := h.len; omega)
    unfold Tb.keep picked
    rw [hd]; rfl
theorem ok_picked {t : T} (h : Ok t) (p : List O.Cd) : Ok (picked t (hits t p)) := by rw [← keep_picked h]; exact h.keep p
theorem filter_twice (a : List Nat) (f g : Nat → Bool) : (a.filter f).filter g = a.filter fun x => f x && g x := by
  rw [List.filter_filter]
  exact List.filter_congr fun x _ => Bool.and_comm _ _
theorem cop_alone' (ks : List Int) : O.alone ks ⟨5, 0, C.null⟩ = 0 := by
  unfold O.alone
  rw [if_neg (by show ¬ ((5 : Int) < 1 ∨ 7 < (5 : Int)); omega), if_pos (by show (5 : Int) ≤ 5; omega), if_neg (by show ¬ ((0 : Int) ≠ 0 ∨ C.null ≠ C.null); simp)]
theorem both_check {ks : List Int} {p q : List O.Cd} (hp : O.check p ks = 0) (hq : O.check q ks = 0) (hl : p.length + q.length < 16) : O.check (p ++ q ++ [⟨5, 0, C.null⟩]) ks = 0 := by
  obtain ⟨_, s, hs, rfl⟩ := O.tree hp
  obtain ⟨_, u, hu, rfl⟩ := O.tree hq
  exact O.check_flat (t := .two ⟨5, 0, C.null⟩ s u) ⟨rfl, cop_alone' ks, hs, hu⟩ (by simp [O.flat]; omega)
theorem min_two (x y : Nat) (a : x ≤ 2) (b : y ≤ 2) : decide (min x y = 2) = (decide (x = 2) && decide (y = 2)) := by
  by_cases hx : x = 2
  · by_cases hy : y = 2
    · subst hx; subst hy; rfl
    · rw [decide_eq_false (by omega), decide_eq_false hy]; simp
  · rw [decide_eq_false (by omega), decide_eq_false hx]; rfl
theorem both_tru {t : T} (h : Ok t) {p q : List O.Cd} (hp : O.check p (kinds t) = 0) (hq : O.check q (kinds t) = 0) (hl : p.length + q.length < 16) {i : Nat} (hi : i < Tb.rows t) : tru t (p ++ q ++ [⟨5, 0, C.null⟩]) i = (tru t p i && tru t q i) := by
  obtain ⟨l1, s, hs, rfl⟩ := O.tree hp
  obtain ⟨l2, u, hu, rfl⟩ := O.tree hq
  unfold tru
  have e : O.flat (.two ⟨5, 0, C.null⟩ s u) = O.flat s ++ O.flat u ++ [⟨5, 0, C.null⟩] := rfl
  rw [h.ask hi hs rfl l1, h.ask hi hu rfl l2, h.ask hi (s := .two ⟨5, 0, C.null⟩ s u) ⟨rfl, cop_alone' _, hs, hu⟩ e (by simp; omega)]
  exact min_two _ _ (O.ev_le (O.askL (rowAt t i)) (fun c => O.told_le _ _) s) (O.ev_le (O.askL (rowAt t i)) (fun c => O.told_le _ _) u)
/-- all that TableKeeps asks -/
theorem keeps_law (t : T) (p q : List O.Cd) : ((chg t (keepE t p) (keep t p)).2 ≠ 0 ∧ (chg t (keepE t p) (keep t p)).1 = nul) ∨ ∃ a, chg t (keepE t p) (keep t p) = (a, 0) ∧ chg a (keepE a p) (keep a p) = (a, 0) ∧ Ok a ∧
    ((chg t (keepE t q) (keep t q)).2 ≠ 0 ∨ ∃ b, chg t (keepE t q) (keep t q) = (b, 0) ∧ (p.length + q.length < 16 → ∃ x, chg a (keepE a q) (keep a q) = (x, 0) ∧ chg b (keepE b p) (keep b p) = (x, 0) ∧ chg t (keepE t (p ++ q ++ [⟨5, 0, C.null⟩])) (keep t (p ++ q ++ [⟨5, 0, C.null⟩])) = (x, 0) ∧ Ok x)) := by
  rcases chg_or t (keepE t p) (keep t p) with hx | ⟨h1, h2, h3⟩
  · exact Or.inl hx
  · have h := check_ok h1
    refine Or.inr ⟨_, h3, ?_, h.keep p, ?_⟩
    · rw [chg_ok (ok_check (h.keep p)) (show keepE (Tb.keep t p) p = 0 from h2), keep_picked h, keep_pick h _ (ok_picked h p)]
      unfold hits
      rw [filter_twice]; simp
    · rcases chg_or t (keepE t q) (keep t q) with hx | ⟨_, k2, k3⟩
      · exact Or.inl hx.1
      · refine Or.inr ⟨_, k3, fun hl => ⟨_, chg_ok (ok_check (h.keep p)) k2, ?_, ?_, (h.keep p).keep q⟩⟩
        · rw [chg_ok (ok_check (h.keep q)) (show keepE (Tb.keep t q) p = 0 from h2), keep_picked h p, keep_picked h q, keep_pick h _ (ok_picked h p), keep_pick h _ (ok_picked h q)]
          unfold hits
          rw [filter_twice, filter_twice]
          congr 2
          exact List.filter_congr fun x _ => Bool.and_comm _ _
        · rw [chg_ok h1 (show keepE t (p ++ q ++ [⟨5, 0, C.null⟩]) = 0 from both_check h2 k2 hl), keep_picked h p, keep_pick h _ (ok_picked h p), keep_picked h]
          unfold hits
          rw [filter_twice]
          congr 2
          exact List.filter_congr fun x hx => both_tru h h2 k2 hl (List.mem_range.1 hx)
end Go.Proofs.Ytnjnalehfhfefaa.Tb
/- Plain laws of tables: cells that are redacted. -/
namespace Go.Proofs.Ytnjnalehfhfefaa.Tb
set_option linter.unusedVariables false

theorem nulled_len' : ∀ (l : List C.Cl) (m : List Bool), (nulled l m).length = l.length
  | [], _ => rfl
  | x :: l, [] => rfl
  | x :: l, b :: m => by rw [nulled, List.length_cons, List.length_cons, nulled_len' l m]
theorem nulled_mem : ∀ (l : List C.Cl) (m : List Bool), ∀ x ∈ nulled l m, x ∈ l ∨ x = C.null
  | [], _, x, hx => Or.inl hx
  | y :: l, [], x, hx => Or.inl hx
  | y :: l, b :: m, x, hx => by
    rw [nulled] at hx
    rcases List.mem_cons.1 hx with rfl | hx
    · cases b
      · exact Or.inl (by simp)
      · exact Or.inr rfl
    · rcases nulled_mem l m x hx with h | h
      · exact Or.inl (by simp [h])
      · exact Or.inr h
theorem nulled_getD : ∀ (l : List C.Cl) (m : List Bool) (i : Nat), i < l.length → i < m.length → (nulled l m).getD i C.null = if m.getD i false then C.null else l.getD i C.null
  | [], _, _, h, _ => by simp at h
  | x :: l, [], _, _, h => by simp at h
  | x :: l, b :: m, 0, _, _ => by simp [nulled, List.getD]
  | x :: l, b :: m, i + 1, h, h2 => by
    have := nulled_getD l m i (by simpa using h) (by simpa using h2)
    exact this
theorem nulled_twice : ∀ (l : List C.Cl) (m : List Bool), nulled (nulled l m) m = nulled l m
  | [], m => by cases m <;> rfl
  | x :: l, [] => rfl
  | x :: l, b :: m => by
    rw [nulled, nulled, nulled_twice l m]
    cases b <;> rfl
theorem chk_null {k : Int} (h : k = 1 ∨ k = 2) : C.chk k [C.null] = 0 := by
  rcases h with rfl | rfl <;> decide
theorem red_cols (t : T) (n : List UInt8) (p : List O.Cd) : (red t n p).cols = t.cols := rfl
theorem red_dat {t : T} (h : Ok t) {n : List UInt8} (hn : has t.cols n) (p : List O.Cd) (i : Nat) : (red t n p).data.getD i [] = if i = pos t.cols n then nulled (t.data.getD (pos t.cols n) []) (marks t p) else t.data.getD i [] :=
  getD_set _ _ _ _ _ (by rw [h.len]; exact hn)
theorem red_sub {t : T} (h : Ok t) {n : List UInt8} (hn : has t.cols n) (p : List O.Cd) : Sub t (red t n p) := by
  have hl : ∀ i, i < t.cols.length → ((red t n p).data.getD i []).length = (t.data.getD i []).length := by
    intro i hi
    rw [red_dat h hn]
    split
    · rename_i e; rw [nulled_len', e]
    · rfl
  refine ⟨rfl, by simp [red], ?_, ?_, ?_⟩
  · intro i hi; rw [hl i hi]; exact Nat.le_refl _
  · intro i hi x hx
    rw [red_dat h hn] at hx
    split at hx
    · rename_i e
      rcases nulled_mem _ _ x hx with h1 | rfl
      · left; rw [e]; exact h1
      · right; exact chk_null (h.kind i hi)
    · exact Or.inl hx
  · intro i hi
    rw [hl i hi, hl 0 (by omega), h.rows i hi]; rfl
theorem Ok.red {t : T} (h : Ok t) {n : List UInt8} (hn : has t.cols n) (p : List O.Cd) : Ok (Tb.red t n p) := (red_sub h hn p).ok h
theorem rows_red {t : T} (h : Ok t) {n : List UInt8} (hn : has t.cols n) (p : List O.Cd) : Tb.rows (Tb.red t n p) = Tb.rows t := by
  have h0 : 0 < t.cols.length := Nat.lt_of_le_of_lt (Nat.zero_le _) hn
  have := (h.red hn p).rows 0 h0
  unfold Tb.rows
  rw [red_dat h hn]
  split
  · rename_i e; rw [nulled_len', ← e]
  · rfl
theorem marks_getD (t : T) (p : List O.Cd) {i : Nat} (hi : i < Tb.rows t) : (marks t p).getD i false = tru t p i := by
  unfold marks
  simp [List.getD, hi]
theorem set_map {α β : Type} (f : α → β) (l : List α) (i : Nat) (a : α) : (l.set i a).map f = (l.map f).set i (f a) := List.map_set
theorem set_same {α : Type} (l : List α) (i : Nat) (z : α) (h : i < l.length) : l.set i (l.getD i z) = l := by
  rw [show l.getD i z = l[i] by simp [List.getD, List.getElem?_eq_getElem h]]
  exact List.set_getElem_self h
theorem rowAt_red {t : T} (h : Ok t) {n : List UInt8} (hn : has t.cols n) (p : List O.Cd) {i : Nat} (hi : i < Tb.rows t) : rowAt (Tb.red t n p) i = if tru t p i then (rowAt t i).set (pos t.cols n) C.null else rowAt t i := by
  have hl : i < (t.data.getD (pos t.cols n) []).length := by rw [h.rows _ hn]; exact hi
  unfold rowAt Tb.red
  show (t.data.set (pos t.cols n) _).map _ = _
  rw [set_map, nulled_getD _ _ _ hl (by rw [marks_len]; exact hi), marks_getD t p hi]
  cases tru t p i
  · simp only [Bool.false_eq_true, if_false]
    have := set_same (t.data.map fun l => l.getD i C.null) (pos t.cols n) C.null (by rw [List.length_map, h.len]; exact hn)
    rw [getD_map (fun l : List C.Cl => l.getD i C.null) t.data _ [] C.null (by simp)] at this
    exact this
  · simp only [if_true]
/-- does it ask of a column? -/
def ownC (p : List O.Cd) (k : Nat) : Bool := p.any fun c => decide (c.op ≤ 4) && decide (c.col = (k : Int))
theorem ev_other {ks : List Int} (row : List C.Cl) (k : Nat) (x : C.Cl) : ∀ s : O.T, O.ok ks s → ownC (O.flat s) k = false → O.ev (O.askL (row.set k x)) O.jo s = O.ev (O.askL row) O.jo s
  | .leaf c, h, ho => by
    obtain ⟨h1, h2⟩ := h
    have hop : 1 ≤ c.op ∧ c.op ≤ 4 ∧ 0 ≤ c.col := by
      rcases O.parts_cases c.op with ⟨_, a, b, d⟩ | ⟨a, b⟩ | ⟨a, b⟩
      · unfold O.alone at h2
        by_cases e1 : c.op < 1 ∨ 7 < c.op
        · rw [if_pos e1] at h2; exact absurd h2 (by decide)
        · rw [if_neg e1] at h2
          rw [if_neg (by omega)] at h2
          by_cases e2 : c.col < 0 ∨ (ks.length : Int) ≤ c.col
          · rw [if_pos e2] at h2; exact absurd h2 (by decide)
          · omega
      · omega
      · omega
    have hc : c.col ≠ (k : Int) := by
      simp only [ownC, O.flat, List.any_cons, List.any_nil, Bool.or_false] at ho
      intro e
      rw [decide_eq_true hop.2.1, decide_eq_true e] at ho
      cases ho
    have hn : c.col.toNat ≠ k := by omega
    show O.told c ((row.set k x).getD c.col.toNat C.null) = O.told c (row.getD c.col.toNat C.null)
    congr 1
    simp [List.getD, Ne.symm hn]
  | .one c s, h, ho => by
    simp only [ownC, O.flat, List.any_append, Bool.or_eq_false_iff] at ho
    have e := ev_other row k x s h.2.2 ho.1
    show O.jo c.op _ _ = O.jo c.op _ _
    rw [e]
  | .two c s u, h, ho => by
    simp only [ownC, O.flat, List.any_append, Bool.or_eq_false_iff] at ho
    have e := ev_other row k x s h.2.2.1 ho.1.1
    have e2 := ev_other row k x u h.2.2.2 ho.1.2
    show O.jo c.op _ _ = O.jo c.op _ _
    rw [e, e2]
theorem redE_zero {t : T} {n : List UInt8} {p : List O.Cd} (h : redE t n p = 0) : has t.cols n ∧ O.check p (kinds t) = 0 := by
  unfold redE at h
  by_cases h1 : ¬ has t.cols n
  · rw [if_pos h1] at h; exact absurd h (by decide)
  · rw [if_neg h1] at h; exact ⟨Classical.not_not.1 h1, h⟩
theorem red_red {t : T} (h : Ok t) {n : List UInt8} {p : List O.Cd} (hz : redE t n p = 0) (ho : ownC p (pos t.cols n) = false) : Tb.red (Tb.red t n p) n p = Tb.red t n p := by
  obtain ⟨hn, hp⟩ := redE_zero hz
  obtain ⟨l1, s, hs, rfl⟩ := O.tree hp
  have hr := rows_red h hn (O.flat s)
  have hm : marks (Tb.red t n (O.flat s)) (O.flat s) = marks t (O.flat s) := by
    unfold marks
    rw [hr]
    refine map_congr' fun i hi => ?_
    have hi := List.mem_range.1 hi
    unfold tru
    have e1 := h.ask hi hs rfl l1
    have e2 := (h.red hn (O.flat s)).ask (i := i) (by rw [hr]; exact hi) (s := s) hs rfl l1
    rw [e1, e2, rowAt_red h hn _ hi]
    cases tru t (O.flat s) i
    · rfl
    · simp only [if_true]
      rw [ev_other _ _ _ s hs ho]
  have hd := red_dat h hn (O.flat s) (pos t.cols n)
  rw [if_pos rfl] at hd
  show T.mk t.cols ((Tb.red t n (O.flat s)).data.set (pos t.cols n) (nulled ((Tb.red t n (O.flat s)).data.getD (pos t.cols n) []) (marks (Tb.red t n (O.flat s)) (O.flat s)))) = _
  rw [hm, hd, nulled_twice]
  show T.mk t.cols ((t.data.set (pos t.cols n) _).set (pos t.cols n) _) = T.mk t.cols _
  rw [List.set_set]
/-- all that TableRedacts asks -/
theorem redacts_law (t : T) (n : List UInt8) (p : List O.Cd) : ((chg t (redE t n p) (red t n p)).2 ≠ 0 ∧ (chg t (redE t n p) (red t n p)).1 = nul) ∨ ∃ a b, chg t (redE t n p) (red t n p) = (a, 0) ∧ Ok t ∧ Ok a ∧ has t.cols n ∧
    (∀ i : Nat, i < Tb.rows t → (O.askR p (kinds t) (rowAt t i)).2 = 0 ∧ rowR a i = (if (O.askR p (kinds t) (rowAt t i)).1 = 2 then (rowAt t i).set (pos t.cols n) C.null else rowAt t i, 0)) ∧
    chg a (redE a n p) (red a n p) = (b, 0) ∧ Ok b ∧ (ownC p (pos t.cols n) = false → b = a) := by
  rcases chg_or t (redE t n p) (red t n p) with hx | ⟨h1, h2, h3⟩
  · exact Or.inl hx
  · have h := check_ok h1
    obtain ⟨hn, hp⟩ := redE_zero h2
    have ha := h.red hn p
    refine Or.inr ⟨_, _, h3, h, ha, hn, ?_, chg_ok (ok_check ha) (show redE (Tb.red t n p) n p = 0 from h2), ha.red hn p, fun ho => red_red h h2 ho⟩
    intro i hi
    obtain ⟨l1, s, hs, hf⟩ := O.tree hp
    have e1 := h.ask hi hs hf l1
    constructor
    · rw [e1]
    · unfold rowR
      rw [if_neg (by rw [ok_check ha]; simp), if_neg (by rw [rows_red h hn]; omega)]
      rw [show ((i : Int).toNat) = i by simp, rowAt_red h hn p hi]
      have : tru t p i = decide ((O.askR p (kinds t) (rowAt t i)).1 = 2) := rfl
      rw [this]
      by_cases e : (O.askR p (kinds t) (rowAt t i)).1 = 2
      · rw [decide_eq_true e, if_pos rfl, if_pos e]
      · rw [decide_eq_false e, if_neg (by simp), if_neg e]
end Go.Proofs.Ytnjnalehfhfefaa.Tb
/- Plain laws of tables: columns that are picked. -/
namespace Go.Proofs.Ytnjnalehfhfefaa.Tb
set_option linter.unusedVariables false

theorem nodup_len : ∀ (k : Nat) (l : List Nat), l.Nodup → (∀ x ∈ l, x < k) → l.length ≤ k
  | 0, l, _, h => by
    match l, h with
    | [], _ => simp
    | x :: l, h => exact absurd (h x (by simp)) (by omega)
  | k + 1, l, hn, h => by
    by_cases hk : k ∈ l
    · have h1 := nodup_len k (l.erase k) (hn.erase k) (fun x hx => by
        have h2 := h x (List.mem_of_mem_erase hx)
        have h3 : x ≠ k := fun e => by subst e; exact (hn.not_mem_erase) hx
        omega)
      rw [List.length_erase_of_mem hk] at h1
      omega
    · have := nodup_len k l hn (fun x hx => by
        have h2 := h x hx
        have h3 : x ≠ k := fun e => by subst e; exact hk hx
        omega)
      omega
theorem has_app {l : List Col} {c : Col} {n : List UInt8} : has (l ++ [c]) n ↔ has l n ∨ c.name = n := by
  rw [has_iff, has_iff]
  constructor
  · rintro ⟨i, hi, e⟩
    rw [List.length_append, List.length_singleton] at hi
    by_cases h : i < l.length
    · rw [getD_app_l _ _ _ h] at e; exact Or.inl ⟨i, h, e⟩
    · obtain rfl : i = l.length := by omega
      rw [getD_app_len] at e; exact Or.inr e
  · rintro (⟨i, hi, e⟩ | e)
    · exact ⟨i, by rw [List.length_append]; omega, by rw [getD_app_l _ _ _ hi]; exact e⟩
    · exact ⟨l.length, by simp, by rw [getD_app_len]; exact e⟩
theorem projE_zero (t : T) : ∀ (ns : List (List UInt8)) (d : List Col), projE t d ns = 0 → (∀ n ∈ ns, has t.cols n ∧ ¬ has d n) ∧ ns.Nodup
  | [], d, _ => ⟨by simp, by simp⟩
  | n :: r, d, h => by
    unfold projE at h
    by_cases h1 : ¬ has t.cols n
    · rw [if_pos h1] at h; exact absurd h (by decide)
    rw [if_neg h1] at h
    by_cases h2 : has d n
    · rw [if_pos h2] at h; exact absurd h (by decide)
    rw [if_neg h2] at h
    have h1 := Classical.not_not.1 h1
    obtain ⟨a, b⟩ := projE_zero t r _ h
    have hd : ∀ m ∈ r, ¬ has d m ∧ n ≠ m := fun m hm => by
      have := (a m hm).2
      rw [has_app, pos_name h1] at this
      exact ⟨fun e => this (Or.inl e), fun e => this (Or.inr e)⟩
    refine ⟨fun m hm => ?_, ?_⟩
    · rcases List.mem_cons.1 hm with rfl | hm
      · exact ⟨h1, h2⟩
      · exact ⟨(a m hm).1, (hd m hm).1⟩
    · exact List.nodup_cons.2 ⟨fun hm => (hd n hm).2 rfl, b⟩
theorem projE_mk (t : T) : ∀ (ns : List (List UInt8)) (d : List Col), (∀ n ∈ ns, has t.cols n ∧ ¬ has d n) → ns.Nodup → projE t d ns = 0
  | [], d, _, _ => rfl
  | n :: r, d, h, hn => by
    obtain ⟨h1, h2⟩ := h n (by simp)
    unfold projE
    rw [if_neg (by rw [Classical.not_not]; exact h1), if_neg h2]
    obtain ⟨n1, n2⟩ := List.nodup_cons.1 hn
    refine projE_mk t r _ (fun m hm => ⟨(h m (by simp [hm])).1, ?_⟩) n2
    rw [has_app, pos_name h1]
    rintro (e | e)
    · exact (h m (by simp [hm])).2 e
    · subst e; exact n1 hm
theorem projE_cols {t u : T} (h : t.cols = u.cols) : ∀ (ns : List (List UInt8)) (d : List Col), projE t d ns = projE u d ns
  | [], d => rfl
  | n :: r, d => by
    unfold projE
    rw [h, projE_cols h r]
theorem proj_col (t : T) (ns : List (List UInt8)) {i : Nat} (h : i < ns.length) : (proj t ns).cols.getD i nulC = t.cols.getD (pos t.cols (ns.getD i [])) nulC := by
  show (ns.map fun n => t.cols.getD (pos t.cols n) nulC).getD i nulC = _
  simp [List.getD, List.getElem?_eq_getElem h]
theorem proj_dat (t : T) (ns : List (List UInt8)) {i : Nat} (h : i < ns.length) : (proj t ns).data.getD i [] = t.data.getD (pos t.cols (ns.getD i [])) [] := by
  show (ns.map fun n => t.data.getD (pos t.cols n) []).getD i [] = _
  simp [List.getD, List.getElem?_eq_getElem h]
theorem proj_len (t : T) (ns : List (List UInt8)) : (proj t ns).cols.length = ns.length ∧ (proj t ns).data.length = ns.length := by simp [proj]
theorem nodup_getD {ns : List (List UInt8)} (h : ns.Nodup) {i j : Nat} (hi : i < ns.length) (hj : j < ns.length) (e : ns.getD i [] = ns.getD j []) : i = j := by
  simp only [List.getD, List.getElem?_eq_getElem hi, List.getElem?_eq_getElem hj, Option.getD_some] at e
  exact (List.getElem_inj h).1 e
theorem Ok.proj {t : T} {ns : List (List UInt8)} (h : Ok t) (hz : projE t [] ns = 0) : Ok (Tb.proj t ns) := by
  obtain ⟨h1, h2⟩ := projE_zero t ns [] hz
  obtain ⟨cl, dl⟩ := proj_len t ns
  have ha : ∀ i, i < ns.length → pos t.cols (ns.getD i []) < t.cols.length := fun i hi => (h1 _ (getD_mem ns [] hi)).1
  have hnm : ∀ i, i < ns.length → ((Tb.proj t ns).cols.getD i nulC).name = ns.getD i [] := fun i hi => by
    rw [proj_col t ns hi]; exact pos_name (ha i hi)
  have hsix : ns.length ≤ 6 := by
    have := nodup_len t.cols.length (ns.map (pos t.cols)) (by
      rw [List.nodup_iff_pairwise_ne, List.pairwise_map]
      refine List.Pairwise.imp_of_mem ?_ (List.nodup_iff_pairwise_ne.1 h2)
      intro a b ha hb hne e
      have ea := pos_name (h1 a ha).1
      have eb := pos_name (h1 b hb).1
      rw [e] at ea
      exact hne (ea.symm.trans eb)) (by
      intro x hx
      obtain ⟨n, hn, rfl⟩ := List.mem_map.1 hx
      exact (h1 n hn).1)
    rw [List.length_map] at this
    have := h.six
    omega
  refine ⟨by rw [cl]; exact hsix, by rw [cl, dl], ?_, ?_, ?_, ?_, ?_, ?_⟩ <;> rw [cl]
  · intro i hi
    rw [proj_col t ns hi]; exact h.name _ (ha i hi)
  · intro i hi hh
    obtain ⟨j, hj, e⟩ := has_iff.1 hh
    rw [List.length_take, cl] at hj
    rw [getD_take _ _ (by omega), hnm i hi, hnm j (by omega)] at e
    have := nodup_getD h2 (by omega) hi e
    omega
  · intro i hi
    rw [proj_col t ns hi]; exact h.kind _ (ha i hi)
  · intro i hi
    rw [proj_dat t ns hi]; exact h.many _ (ha i hi)
  · intro i hi j hj
    rw [proj_dat t ns hi] at hj ⊢
    rw [proj_col t ns hi]
    exact h.cell _ (ha i hi) j hj
  · intro i hi
    have hr : Tb.rows (Tb.proj t ns) = Tb.rows t := by
      show ((Tb.proj t ns).data.getD 0 []).length = _
      rw [proj_dat t ns (by omega)]
      exact h.rows _ (ha 0 (by omega))
    rw [hr, proj_dat t ns hi]
    exact h.rows _ (ha i hi)
theorem rows_proj {t : T} {ns : List (List UInt8)} (h : Ok t) (hz : projE t [] ns = 0) (h0 : 0 < ns.length) : Tb.rows (Tb.proj t ns) = Tb.rows t := by
  show ((Tb.proj t ns).data.getD 0 []).length = _
  rw [proj_dat t ns h0]
  exact h.rows _ ((projE_zero t ns [] hz).1 _ (getD_mem ns [] h0)).1
theorem sli_proj {t : T} {ns : List (List UInt8)} (h : Ok t) (hz : projE t [] ns = 0) (f m : Int) : Tb.sli (Tb.proj t ns) f m = Tb.proj (Tb.sli t f m) ns := by
  match ns, hz with
  | [], _ => rfl
  | n :: r, hz =>
    have hr := rows_proj h hz (by simp)
    have e1 : sliF (Tb.proj t (n :: r)) f = sliF t f := by unfold sliF; rw [hr]
    have e2 : sliN (Tb.proj t (n :: r)) f m = sliN t f m := by unfold sliN; rw [hr, e1]
    unfold Tb.sli
    rw [e1, e2]
    show T.mk ((n :: r).map fun n => t.cols.getD (pos t.cols n) nulC) (((n :: r).map fun n => t.data.getD (pos t.cols n) []).map fun l => (l.drop (sliF t f)).take (sliN t f m)) = T.mk ((n :: r).map fun n => t.cols.getD (pos t.cols n) nulC) ((n :: r).map fun n => (t.data.map fun l => (l.drop (sliF t f)).take (sliN t f m)).getD (pos t.cols n) [])
    rw [List.map_map]
    refine congrArg (T.mk _) (map_congr' fun x _ => ?_)
    rw [getD_map _ _ _ [] [] (by simp)]
    rfl
theorem has_proj {t : T} {ns : List (List UInt8)} (h1 : ∀ n ∈ ns, has t.cols n) {n : List UInt8} (h : has (Tb.proj t ns).cols n) :
    has t.cols n ∧ (Tb.proj t ns).cols.getD (pos (Tb.proj t ns).cols n) nulC = t.cols.getD (pos t.cols n) nulC ∧ (Tb.proj t ns).data.getD (pos (Tb.proj t ns).cols n) [] = t.data.getD (pos t.cols n) [] := by
  have hl : pos (Tb.proj t ns).cols n < ns.length := by rw [← (proj_len t ns).1]; exact h
  have e := pos_name h
  rw [proj_col t ns hl] at e
  have hm := h1 _ (getD_mem ns [] hl)
  rw [pos_name hm] at e
  rw [proj_col t ns hl, proj_dat t ns hl, e]
  rw [e] at hm
  exact ⟨hm, rfl, rfl⟩
theorem proj_proj {t : T} {ns fw : List (List UInt8)} (h1 : ∀ n ∈ ns, has t.cols n) (hz : projE (Tb.proj t ns) [] fw = 0) : projE t [] fw = 0 ∧ Tb.proj (Tb.proj t ns) fw = Tb.proj t fw := by
  obtain ⟨a, b⟩ := projE_zero _ fw [] hz
  constructor
  · exact projE_mk t fw [] (fun n hn => ⟨(has_proj h1 (a n hn).1).1, (a n hn).2⟩) b
  · have e1 : fw.map (fun n => (Tb.proj t ns).cols.getD (pos (Tb.proj t ns).cols n) nulC) = fw.map (fun n => t.cols.getD (pos t.cols n) nulC) := map_congr' fun n hn => (has_proj h1 (a n hn).1).2.1
    have e2 : fw.map (fun n => (Tb.proj t ns).data.getD (pos (Tb.proj t ns).cols n) []) = fw.map (fun n => t.data.getD (pos t.cols n) []) := map_congr' fun n hn => (has_proj h1 (a n hn).1).2.2
    show T.mk _ _ = T.mk _ _
    rw [e1, e2]
/-- all that TableProjects asks -/
theorem proj_law (t : T) (ns fw : List (List UInt8)) (f m : Int) : ((chg t (projE t [] ns) (proj t ns)).2 ≠ 0 ∧ (chg t (projE t [] ns) (proj t ns)).1 = nul) ∨ ∃ u, chg t (projE t [] ns) (proj t ns) = (u, 0) ∧
    (¬ f < 0 → ¬ m < 0 → ∃ b s, chg u (sliE f m) (sli u f m) = (b, 0) ∧ chg t (sliE f m) (sli t f m) = (s, 0) ∧ chg s (projE s [] ns) (proj s ns) = (b, 0) ∧ Ok b) ∧
    (((chg u (projE u [] fw) (proj u fw)).2 ≠ 0 ∧ (chg u (projE u [] fw) (proj u fw)).1 = nul) ∨ ∃ y, chg u (projE u [] fw) (proj u fw) = (y, 0) ∧ chg t (projE t [] fw) (proj t fw) = (y, 0) ∧ Ok y) := by
  rcases chg_or t (projE t [] ns) (proj t ns) with hx | ⟨h1, h2, h3⟩
  · exact Or.inl hx
  · have h := check_ok h1
    have hu := h.proj h2
    refine Or.inr ⟨_, h3, ?_, ?_⟩
    · intro hf hm
      refine ⟨_, _, chg_ok (ok_check hu) (sliE_zero hf hm), chg_ok h1 (sliE_zero hf hm), ?_, hu.sli f m⟩
      rw [chg_ok (ok_check (h.sli f m)) (by rw [← h2]; exact projE_cols (t := Tb.sli t f m) (u := t) rfl _ _), sli_proj h h2]
    · rcases chg_or (Tb.proj t ns) (projE (Tb.proj t ns) [] fw) (Tb.proj (Tb.proj t ns) fw) with hx | ⟨k1, k2, k3⟩
      · exact Or.inl hx
      · obtain ⟨p1, p2⟩ := proj_proj (fun n hn => ((projE_zero t ns [] h2).1 n hn).1) k2
        refine Or.inr ⟨_, k3, ?_, hu.proj k2⟩
        rw [chg_ok h1 p1, p2]
end Go.Proofs.Ytnjnalehfhfefaa.Tb
