/- Plain laws of tables: rows that are taken. -/
import Derived.Test.YtnjnalehfhfefaaTbLawU
namespace Go.Proofs.Ytnjnalehfhfefaa.Tb
set_option linter.unusedVariables false

theorem getD_map {α β : Type} (f : α → β) (l : List α) (i : Nat) (z : α) (y : β) (hy : f z = y) : (l.map f).getD i y = f (l.getD i z) := by
  subst hy
  by_cases h : i < l.length
  · simp [List.getD, List.getElem?_eq_getElem h]
  · rw [getD_big _ _ (by simpa using h), getD_big _ _ (by omega)]
theorem getD_mem {α : Type} (l : List α) (z : α) {i : Nat} (h : i < l.length) : l.getD i z ∈ l := by
  rw [show l.getD i z = l[i] by simp [List.getD, List.getElem?_eq_getElem h]]
  exact List.getElem_mem h
theorem mem_getD {α : Type} {l : List α} {x : α} (z : α) (h : x ∈ l) : ∃ i, i < l.length ∧ l.getD i z = x := by
  obtain ⟨i, hi, rfl⟩ := List.mem_iff_getElem.1 h
  exact ⟨i, hi, by simp [List.getD, List.getElem?_eq_getElem hi]⟩

/-- other cells under the same columns -/
structure Sub (t u : T) : Prop where
  cols : u.cols = t.cols
  len : u.data.length = t.data.length
  many : ∀ i, i < t.cols.length → (u.data.getD i []).length ≤ (t.data.getD i []).length
  mem : ∀ i, i < t.cols.length → ∀ x ∈ u.data.getD i [], x ∈ t.data.getD i [] ∨ C.chk (t.cols.getD i nulC).kind [x] = 0
  same : ∀ i, i < t.cols.length → (u.data.getD i []).length = (u.data.getD 0 []).length
theorem Sub.ok {t u : T} (h : Ok t) (s : Sub t u) : Ok u := by
  have c := s.cols
  refine ⟨by rw [c]; exact h.six, by rw [c, s.len]; exact h.len, ?_, ?_, ?_, ?_, ?_, ?_⟩ <;> rw [c]
  · exact h.name
  · exact h.once
  · exact h.kind
  · intro i hi; exact Nat.le_trans (s.many i hi) (h.many i hi)
  · intro i hi j hj
    rcases s.mem i hi _ (getD_mem (u.data.getD i []) C.null hj) with hm | hm
    · obtain ⟨k, hk, e⟩ := mem_getD C.null hm
      rw [← e]; exact h.cell i hi k hk
    · exact hm
  · intro i hi; exact s.same i hi

theorem Ok.lens {t : T} (h : Ok t) : ∀ l ∈ t.data, l.length = Tb.rows t := by
  intro l hl
  obtain ⟨i, hi, rfl⟩ := mem_getD [] hl
  exact h.rows i (by have := h.len; omega)
/-- each column's cells by the same rule, which leaves some of them -/
theorem sub_map {t : T} (f : List C.Cl → List C.Cl) (h : Ok t) (hf0 : f [] = []) (hl : ∀ l, l.length = Tb.rows t → (f l).length = (f (t.data.getD 0 [])).length) (hm : ∀ l, ∀ x ∈ f l, x ∈ l) (hlen : ∀ l, (f l).length ≤ l.length) : Sub t ⟨t.cols, t.data.map f⟩ := by
  refine ⟨rfl, by simp, ?_, ?_, ?_⟩
  · intro i hi
    show ((t.data.map f).getD i []).length ≤ _
    rw [getD_map f _ _ [] [] hf0]; exact hlen _
  · intro i hi x hx
    replace hx : x ∈ (t.data.map f).getD i [] := hx
    rw [getD_map f _ _ [] [] hf0] at hx; exact Or.inl (hm _ x hx)
  · intro i hi
    show ((t.data.map f).getD i []).length = ((t.data.map f).getD 0 []).length
    rw [getD_map f _ _ [] [] hf0, getD_map f _ _ [] [] hf0]
    exact hl _ (h.rows i hi)
theorem sli_sub {t : T} (h : Ok t) (f m : Int) : Sub t (sli t f m) := by
  refine sub_map (fun l => (l.drop (sliF t f)).take (sliN t f m)) h (by simp) ?_ ?_ ?_
  · intro l hl
    simp only [List.length_take, List.length_drop]
    show _ = min _ (Tb.rows t - _)
    rw [hl]
  · intro l x hx
    exact List.mem_of_mem_drop (List.mem_of_mem_take hx)
  · intro l
    simp only [List.length_take, List.length_drop]
    omega
theorem Ok.sli {t : T} (h : Ok t) (f m : Int) : Ok (Tb.sli t f m) := (sli_sub h f m).ok h
theorem sliE_zero {f m : Int} (hf : ¬ f < 0) (hm : ¬ m < 0) : sliE f m = 0 := by unfold sliE; rw [if_neg (by omega)]
theorem rows_map (t : T) (f : List C.Cl → List C.Cl) (hf0 : f [] = []) : Tb.rows ⟨t.cols, t.data.map f⟩ = (f (t.data.getD 0 [])).length := by
  unfold Tb.rows
  rw [show (T.mk t.cols (t.data.map f)).data = t.data.map f from rfl, getD_map f _ _ [] [] hf0]

/-- the first rows, and all behind them -/
def fst (t : T) (q : Nat) : T := ⟨t.cols, t.data.map fun l => l.take q⟩
def snd (t : T) (q : Nat) : T := ⟨t.cols, t.data.map fun l => l.drop q⟩
theorem map_congr' {α β : Type} {f g : α → β} {l : List α} (h : ∀ x ∈ l, f x = g x) : l.map f = l.map g := List.map_congr_left h
theorem sli_fst {t : T} (h : Ok t) (k : Int) : Tb.sli t 0 k = fst t (min k.toNat (Tb.rows t)) := by
  unfold Tb.sli fst
  have h1 : sliF t 0 = 0 := by unfold sliF; simp
  have h2 : sliN t 0 k = min k.toNat (Tb.rows t) := by unfold sliN; rw [h1]; simp
  rw [h1, h2]
  simp
theorem sli_snd {t : T} (h : Ok t) (k : Int) : Tb.sli t k 128 = snd t (min k.toNat (Tb.rows t)) := by
  unfold Tb.sli snd
  have h1 : sliF t k = min k.toNat (Tb.rows t) := rfl
  have h2 : sliN t k 128 = Tb.rows t - min k.toNat (Tb.rows t) := by
    have := h.rows_le
    unfold sliN; rw [h1]
    show min 128 _ = _
    omega
  rw [h1, h2]
  refine congrArg (T.mk t.cols) (map_congr' fun l hl => ?_)
  rw [List.take_of_length_le]
  rw [List.length_drop, h.lens l hl]
  exact Nat.le_refl _
theorem rows_fst (t : T) (q : Nat) : Tb.rows (fst t q) = min q (Tb.rows t) := by
  unfold fst; rw [rows_map _ _ (by simp), List.length_take]; rfl
theorem rows_snd (t : T) (q : Nat) : Tb.rows (snd t q) = Tb.rows t - q := by
  unfold snd; rw [rows_map _ _ (by simp), List.length_drop]; rfl
theorem zip_maps {α β : Type} (f g : α → List β) (h : α → List β) (l : List α) (e : ∀ x ∈ l, f x ++ g x = h x) : List.zipWith (· ++ ·) (l.map f) (l.map g) = l.map h := by
  induction l with
  | nil => rfl
  | cons x l ih =>
    simp only [List.map_cons, List.zipWith_cons_cons]
    rw [e x (by simp), ih (fun y hy => e y (by simp [hy]))]
theorem app_parts (t : T) (q : Nat) : Tb.app (fst t q) (snd t q) = t := by
  unfold Tb.app fst snd
  show T.mk t.cols (List.zipWith (· ++ ·) (t.data.map _) (t.data.map _)) = t
  rw [zip_maps _ _ id t.data (fun l _ => by simp)]
  simp
theorem appE_zero {a b : T} (hb : check b = 0) (hc : a.cols = b.cols) (hr : Tb.rows a + Tb.rows b ≤ 128) : appE a b = 0 := by
  unfold appE
  rw [if_neg (by omega), if_neg (by rw [Classical.not_not]; exact hc), if_neg (by omega)]

theorem marked_nil (m : List Bool) : marked [] m = [] := by simp [marked]
theorem marked_len (l l' : List C.Cl) (m : List Bool) (h : l.length = l'.length) : (marked l m).length = (marked l' m).length := by
  induction l generalizing l' m with
  | nil =>
    obtain rfl : l' = [] := List.eq_nil_of_length_eq_zero (by simpa using h.symm)
    rfl
  | cons x l ih =>
    match l', h with
    | y :: l', h =>
      match m with
      | [] => simp [marked]
      | b :: m =>
        have := ih l' m (by simpa using h)
        unfold marked at *
        cases b
        · simpa using this
        · simpa using this
theorem marked_mem (l : List C.Cl) (m : List Bool) : ∀ x ∈ marked l m, x ∈ l := by
  intro x hx
  unfold marked at hx
  obtain ⟨y, hy, rfl⟩ := List.mem_map.1 hx
  exact (List.of_mem_zip (List.mem_filter.1 hy).1).1
theorem marked_le (l : List C.Cl) (m : List Bool) : (marked l m).length ≤ l.length := by
  unfold marked
  rw [List.length_map]
  exact Nat.le_trans (List.length_filter_le _ _) (by rw [List.length_zip]; omega)
theorem marked_append (l1 l2 : List C.Cl) (m1 m2 : List Bool) (h : l1.length = m1.length) : marked (l1 ++ l2) (m1 ++ m2) = marked l1 m1 ++ marked l2 m2 := by
  unfold marked
  rw [List.zip_append h, List.filter_append, List.map_append]
theorem keep_sub {t : T} (h : Ok t) (p : List O.Cd) : Sub t (Tb.keep t p) :=
  sub_map (fun l => marked l (marks t p)) h (marked_nil _) (fun l hl => marked_len _ _ _ (by rw [hl]; rfl)) (fun l => marked_mem l _) (fun l => marked_le l _)
theorem Ok.keep {t : T} (h : Ok t) (p : List O.Cd) : Ok (Tb.keep t p) := (keep_sub h p).ok h
theorem rows_keep_le (t : T) (p : List O.Cd) : Tb.rows (Tb.keep t p) ≤ Tb.rows t := by
  unfold Tb.keep; rw [rows_map _ _ (marked_nil _)]; exact marked_le _ _
theorem getD_take {α : Type} (l : List α) (z : α) {i q : Nat} (h : i < q) : (l.take q).getD i z = l.getD i z := by
  simp [List.getD, h]
theorem getD_drop {α : Type} (l : List α) (z : α) (i q : Nat) : (l.drop q).getD i z = l.getD (q + i) z := by
  simp [List.getD, List.getElem?_drop]
theorem tru_fst (t : T) (p : List O.Cd) {i q : Nat} (h : i < q) : tru (fst t q) p i = tru t p i := by
  unfold tru
  rw [show rowAt (fst t q) i = rowAt t i by
    unfold rowAt fst
    rw [List.map_map]
    exact map_congr' fun l _ => getD_take l _ h]
  rfl
theorem tru_snd (t : T) (p : List O.Cd) (i q : Nat) : tru (snd t q) p i = tru t p (q + i) := by
  unfold tru
  rw [show rowAt (snd t q) i = rowAt t (q + i) by
    unfold rowAt snd
    rw [List.map_map]
    exact map_congr' fun l _ => getD_drop l _ i q]
  rfl
theorem marks_len (t : T) (p : List O.Cd) : (marks t p).length = Tb.rows t := by simp [marks]
theorem marks_parts {t : T} (p : List O.Cd) {q : Nat} (hq : q ≤ Tb.rows t) : marks t p = marks (fst t q) p ++ marks (snd t q) p := by
  apply List.ext_getElem
  · rw [List.length_append, marks_len, marks_len, marks_len, rows_fst, rows_snd]; omega
  · intro i h1 h2
    rw [marks_len] at h1
    by_cases hi : i < q
    · rw [List.getElem_append_left (by rw [marks_len, rows_fst]; omega)]
      simp only [marks, List.getElem_map, List.getElem_range]
      rw [tru_fst t p hi]
    · rw [List.getElem_append_right (by rw [marks_len, rows_fst]; omega)]
      simp only [marks, List.getElem_map, List.getElem_range]
      rw [tru_snd]
      congr 1
      rw [List.length_map, List.length_range, rows_fst]; omega
theorem keep_parts {t : T} (h : Ok t) (p : List O.Cd) {q : Nat} (hq : q ≤ Tb.rows t) : Tb.app (Tb.keep (fst t q) p) (Tb.keep (snd t q) p) = Tb.keep t p := by
  have e1 : Tb.keep (fst t q) p = ⟨t.cols, t.data.map fun l => marked (l.take q) (marks (fst t q) p)⟩ := by
    unfold Tb.keep
    show T.mk t.cols ((t.data.map fun l => l.take q).map _) = _
    rw [List.map_map]; rfl
  have e2 : Tb.keep (snd t q) p = ⟨t.cols, t.data.map fun l => marked (l.drop q) (marks (snd t q) p)⟩ := by
    unfold Tb.keep
    show T.mk t.cols ((t.data.map fun l => l.drop q).map _) = _
    rw [List.map_map]; rfl
  rw [e1, e2]
  unfold Tb.app Tb.keep
  show T.mk t.cols (List.zipWith (· ++ ·) (t.data.map _) (t.data.map _)) = _
  rw [zip_maps _ _ (fun l => marked l (marks t p)) t.data]
  intro l hl
  have hll := h.lens l hl
  rw [marks_parts p hq, ← marked_append _ _ _ _ (by rw [marks_len, rows_fst, List.length_take, hll]), List.take_append_drop]
theorem ok_fst {t : T} (h : Ok t) (q : Nat) : Ok (fst t q) := by
  refine (sub_map (fun l => l.take q) h (by simp) ?_ (fun l x hx => List.mem_of_mem_take hx) (fun l => by rw [List.length_take]; omega)).ok h
  intro l hl
  rw [List.length_take, List.length_take, hl]; rfl
theorem ok_snd {t : T} (h : Ok t) (q : Nat) : Ok (snd t q) := by
  refine (sub_map (fun l => l.drop q) h (by simp) ?_ (fun l x hx => List.mem_of_mem_drop hx) (fun l => by rw [List.length_drop]; omega)).ok h
  intro l hl
  rw [List.length_drop, List.length_drop, hl]; rfl
/-- all that TableParts asks -/
theorem parts_law {t : T} (h : Ok t) (k : Int) (hk : ¬ k < 0) (p : List O.Cd) : ∃ a b, chg t (sliE 0 k) (sli t 0 k) = (a, 0) ∧ chg t (sliE k 128) (sli t k 128) = (b, 0) ∧ chg a (appE a b) (app a b) = (t, 0) ∧
    (((chg t (keepE t p) (keep t p)).2 ≠ 0 ∧ (chg t (keepE t p) (keep t p)).1 = nul) ∨ ∃ d x y, chg t (keepE t p) (keep t p) = (d, 0) ∧ chg a (keepE a p) (keep a p) = (x, 0) ∧ chg b (keepE b p) (keep b p) = (y, 0) ∧ chg x (appE x y) (app x y) = (d, 0) ∧ Ok d) := by
  have hc := ok_check h
  have hq : min k.toNat (Tb.rows t) ≤ Tb.rows t := Nat.min_le_right _ _
  generalize hqe : min k.toNat (Tb.rows t) = q at hq
  have ha := ok_check (ok_fst h q)
  have hb := ok_check (ok_snd h q)
  refine ⟨fst t q, snd t q, ?_, ?_, ?_, ?_⟩
  · rw [chg_ok hc (sliE_zero (by omega) hk), sli_fst h, hqe]
  · rw [chg_ok hc (sliE_zero hk (by omega)), sli_snd h, hqe]
  · rw [chg_ok ha (appE_zero (a := fst t q) hb rfl ?_), app_parts]
    rw [rows_fst, rows_snd]; have := h.rows_le; omega
  · rcases chg_or t (keepE t p) (keep t p) with hx | ⟨_, h2, h3⟩
    · exact Or.inl hx
    · refine Or.inr ⟨_, _, _, h3, chg_ok ha h2, chg_ok hb h2, ?_, h.keep p⟩
      rw [chg_ok (ok_check ((ok_fst h q).keep p)) (appE_zero (a := keep (fst t q) p) (ok_check ((ok_snd h q).keep p)) rfl ?_), keep_parts h p hq]
      have := rows_keep_le (fst t q) p
      have := rows_keep_le (snd t q) p
      rw [rows_fst] at *
      rw [rows_snd] at *
      have := h.rows_le
      omega
end Go.Proofs.Ytnjnalehfhfefaa.Tb
