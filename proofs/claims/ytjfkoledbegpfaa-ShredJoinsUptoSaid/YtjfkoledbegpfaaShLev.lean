/- Plain: what levels columns of records have; what numbers records of columns have. -/
import Derived.Test.YtjfkoledbegpfaaShOb
namespace Go.Proofs.Ytjfkoledbegpfaa.Sh
set_option linter.unusedVariables false

/-- of each leaf below fields side by side: repeated ones, and ones that may be missing, on the way to it -/
def most : F → Nat → Nat → List (Nat × Nat)
  | .nil, _, _ => []
  | .cons r k s, d, p => (if isNil k = true then [(rn r p, dn r d)] else most k (dn r d) (rn r p)) ++ most s d p
theorem dn_ge (r d : Nat) : d ≤ dn r d := by unfold dn; split <;> omega
theorem rn_ge (r p : Nat) : p ≤ rn r p := by unfold rn; split <;> omega
theorem rn_le_dn (r d p : Nat) (h : p ≤ d) : rn r p ≤ dn r d := by unfold rn dn; split <;> split <;> omega
theorem most_length : ∀ (f : F) (d p : Nat), (most f d p).length = leaves f
  | .nil, _, _ => rfl
  | .cons r .nil s, d, p => by
    show (_ ++ most s d p).length = _
    rw [List.length_append, most_length s d p]; rfl
  | .cons r (.cons r' k' s') s, d, p => by
    show (most (.cons r' k' s') (dn r d) (rn r p) ++ most s d p).length = leaves (.cons r' k' s') + leaves s
    rw [List.length_append, most_length, most_length]
theorem most_ge : ∀ (f : F) (d p : Nat) (x : Nat × Nat), x ∈ most f d p → p ≤ x.1 ∧ d ≤ x.2
  | .nil, _, _, x, h => by cases h
  | .cons r .nil s, d, p, x, h => by
    rcases List.mem_append.1 (show x ∈ [(rn r p, dn r d)] ++ most s d p from h) with h | h
    · rw [List.mem_singleton] at h; rw [h]; exact ⟨rn_ge r p, dn_ge r d⟩
    · exact most_ge s d p x h
  | .cons r (.cons r' k' s') s, d, p, x, h => by
    rcases List.mem_append.1 (show x ∈ most (.cons r' k' s') (dn r d) (rn r p) ++ most s d p from h) with h | h
    · have := most_ge _ _ _ x h
      have := rn_ge r p
      have := dn_ge r d
      omega
    · exact most_ge s d p x h
theorem most_le : ∀ (f : F) (d p : Nat) (x : Nat × Nat), x ∈ most f d p → x.1 ≤ p + size f ∧ x.2 ≤ d + size f
  | .nil, _, _, x, h => by cases h
  | .cons r .nil s, d, p, x, h => by
    have a := rn_le_dn r 0 0 (Nat.le_refl _)
    have h1 : rn r p ≤ p + 1 := by unfold rn; split <;> omega
    have h2 : dn r d ≤ d + 1 := by unfold dn; split <;> omega
    have e : size (.cons r .nil s) = 1 + 0 + size s := rfl
    rcases List.mem_append.1 (show x ∈ [(rn r p, dn r d)] ++ most s d p from h) with h | h
    · rw [List.mem_singleton] at h; rw [h]; simp only; omega
    · have := most_le s d p x h; omega
  | .cons r (.cons r' k' s') s, d, p, x, h => by
    have h1 : rn r p ≤ p + 1 := by unfold rn; split <;> omega
    have h2 : dn r d ≤ d + 1 := by unfold dn; split <;> omega
    have e : size (.cons r (.cons r' k' s') s) = 1 + size (.cons r' k' s') + size s := rfl
    rcases List.mem_append.1 (show x ∈ most (.cons r' k' s') (dn r d) (rn r p) ++ most s d p from h) with h | h
    · have := most_le _ _ _ x h; omega
    · have := most_le s d p x h; omega

/-- a level of a leaf of which so much is above it -/
def LvP (m : Nat × Nat) (l : Lv) : Prop := 0 ≤ l.1 ∧ l.1 ≤ (m.1 : Int) ∧ 0 ≤ l.2.1 ∧ l.2.1 ≤ (m.2 : Int) ∧ (l.2.1 < (m.2 : Int) → l.2.2 = 0) ∧ l.1 ≤ l.2.1 ∧ l.2.2 < 18446744073709551616
def LI (M : Nat → Nat × Nat) (st : Sd) : Prop := (∀ n ∈ st.1, n < 18446744073709551616) ∧ ∀ i, ∀ l ∈ st.2.getD i [], LvP (M i) l
theorem push_mem {cols : List (List Lv)} {c i : Nat} {x l : Lv} (h : l ∈ (push cols c x).getD i []) : (i = c ∧ l = x) ∨ l ∈ cols.getD i [] := by
  unfold push at h
  by_cases e : i = c
  · subst e
    by_cases hi : i < cols.length
    · unfold List.getD at h
      rw [List.getElem?_set_self hi] at h
      rcases List.mem_append.1 (show l ∈ cols.getD i [] ++ [x] from h) with h | h
      · exact Or.inr h
      · exact Or.inl ⟨rfl, by simpa using h⟩
    · unfold List.getD at h
      rw [List.getElem?_eq_none (by rw [List.length_set]; omega)] at h
      cases h
  · unfold List.getD at h
    rw [List.getElem?_set_ne (Ne.symm e)] at h
    exact Or.inr h
theorem li_push {M : Nat → Nat × Nat} {ls : List Nat} {cols : List (List Lv)} {c : Nat} {x : Lv} (h : LI M (ls, cols)) (hx : LvP (M c) x) : LI M (ls, push cols c x) := by
  refine ⟨h.1, fun i l hl => ?_⟩
  rcases push_mem hl with ⟨rfl, rfl⟩ | hl
  · exact hx
  · exact h.2 i l hl
theorem li_level {M : Nat → Nat × Nat} {st st' : Sd} {c rep d : Nat} {there : Bool} (h : LI M st) (hr : rep ≤ (M c).1) (hd : d ≤ (M c).2) (hrd : rep ≤ d) (ht : there = true → d = (M c).2) (hg : sdLevel st c rep d there = some st') : LI M st' := by
  obtain ⟨ls, cols⟩ := st
  cases there with
  | false =>
    cases hg
    exact li_push h ⟨by simp only; omega, by simp only; omega, by simp only; omega, by simp only; omega, fun _ => rfl, by simp only; omega, by simp only; omega⟩
  | true =>
    have := ht rfl
    cases ls with
    | nil => cases hg
    | cons n t =>
      cases hg
      have hn := h.1 n (List.mem_cons_self ..)
      exact li_push (ls := t) ⟨fun m hm => h.1 m (List.mem_cons_of_mem _ hm), h.2⟩ ⟨by simp only; omega, by simp only; omega, by simp only; omega, by simp only; omega, fun e => absurd e (by simp only; omega), by simp only; omega, hn⟩
theorem li_nulls {M : Nat → Nat × Nat} {rep d : Nat} (hrd : rep ≤ d) : ∀ (m c : Nat) (st st' : Sd), (∀ j, j < m → rep ≤ (M (c + j)).1 ∧ d ≤ (M (c + j)).2) → LI M st → nulls sdLevel m c rep d st = some st' → LI M st'
  | 0, c, st, st', _, h, hg => by cases hg; exact h
  | m + 1, c, st, st', hM, h, hg => by
    change (sdLevel st c rep d false).bind (nulls sdLevel m (c + 1) rep d) = _ at hg
    cases hx : sdLevel st c rep d false with
    | none => rw [hx] at hg; cases hg
    | some s1 =>
      rw [hx] at hg
      have h0 := hM 0 (by omega)
      exact li_nulls hrd m (c + 1) s1 st' (fun j hj => by have := hM (j + 1) (by omega); rwa [show c + (j + 1) = c + 1 + j by omega] at this) (li_level h h0.1 h0.2 hrd (fun e => by cases e) hx) hg
theorem li_times {M : Nat → Nat × Nat} {f : Nat → Sd → Option Sd} {P : Nat} (hf : ∀ rp st st', rp ≤ P → LI M st → f rp st = some st' → LI M st') : ∀ (n rep : Nat) (st st' : Sd), rep ≤ P → LI M st → times f n rep P st = some st' → LI M st'
  | 0, rep, st, st', _, h, hg => by cases hg; exact h
  | n + 1, rep, st, st', hr, h, hg => by
    change (f rep st).bind (times f n P P) = _ at hg
    cases hx : f rep st with
    | none => rw [hx] at hg; cases hg
    | some s1 =>
      rw [hx] at hg
      exact li_times hf n P s1 st' (Nat.le_refl _) (hf rep st s1 hr h hx) hg
theorem li_al (M : Nat → Nat × Nat) : ∀ (F : F) (d p c rep : Nat) (st st' : Sd), rep ≤ p → p ≤ d → (∀ j, j < leaves F → M (c + j) = (most F d p).getD j (0, 0)) → LI M st → al sdW F d p c rep st = some st' → LI M st'
  | .nil, d, p, c, rep, st, st', _, _, _, h, hg => by cases hg; exact h
  | .cons r k s, d, p, c, rep, st, st', hrp, hpd, hM, h, hg => by
    rw [leaves_cons] at hM
    have hl0 := lv1_pos k
    rw [al_cons] at hg
    have hmL : (if isNil k = true then [(rn r p, dn r d)] else most k (dn r d) (rn r p)).length = lv1 k := by
      cases k with
      | nil => rfl
      | cons r' k' s' => exact most_length (.cons r' k' s') _ _
    have hM1 : ∀ j, j < lv1 k → M (c + j) = (if isNil k = true then [(rn r p, dn r d)] else most k (dn r d) (rn r p)).getD j (0, 0) := fun j hj => by
      rw [hM j (by omega)]
      show (_ ++ most s d p).getD j (0, 0) = _
      unfold List.getD
      rw [List.getElem?_append_left (by omega)]
    have hM2 : ∀ j, j < leaves s → M (c + lv1 k + j) = (most s d p).getD j (0, 0) := fun j hj => by
      have := hM (lv1 k + j) (by omega)
      rw [← Nat.add_assoc] at this
      rw [this]
      show (_ ++ most s d p).getD (lv1 k + j) (0, 0) = _
      unfold List.getD
      rw [List.getElem?_append_right (by omega), hmL, Nat.add_sub_cancel_left]
    have hge : ∀ j, j < lv1 k → rn r p ≤ (M (c + j)).1 ∧ dn r d ≤ (M (c + j)).2 := fun j hj => by
      rw [hM1 j hj]
      cases k with
      | nil =>
        obtain rfl : j = 0 := by have : lv1 .nil = 1 := rfl; omega
        exact ⟨Nat.le_refl _, Nat.le_refl _⟩
      | cons r' k' s' =>
        have hj2 : j < (most (.cons r' k' s') (dn r d) (rn r p)).length := by rw [most_length]; exact hj
        refine most_ge (.cons r' k' s') (dn r d) (rn r p) _ ?_
        show (most (.cons r' k' s') (dn r d) (rn r p)).getD j (0, 0) ∈ _
        rw [show (most (.cons r' k' s') (dn r d) (rn r p)).getD j (0, 0) = (most (.cons r' k' s') (dn r d) (rn r p))[j] by simp [List.getD, hj2]]
        exact List.getElem_mem hj2
    have hPD := rn_le_dn r d p hpd
    have hpP := rn_ge r p
    have hdD := dn_ge r d
    have hb : ∀ rp st st', rp ≤ rn r p → LI M st → body sdW k (dn r d) (rn r p) c rp st = some st' → LI M st' := fun rp st st' hrp h hg => by
      cases k with
      | nil =>
        rw [body_nil] at hg
        have h0 := hM1 0 (by omega)
        rw [Nat.add_zero] at h0
        have h0 : M c = (rn r p, dn r d) := h0
        exact li_level (rep := rp) (d := dn r d) (there := true) h (by rw [h0]; exact hrp) (by rw [h0]; exact Nat.le_refl _) (by omega) (fun _ => by rw [h0]) hg
      | cons r' k' s' => exact li_al M (.cons r' k' s') (dn r d) (rn r p) c rp st st' hrp hPD (fun j hj => hM1 j hj) h hg
    have h1 : ∀ st', al1 sdW r k d p c rep st = some st' → LI M st' := fun st' hg => by
      by_cases h0 : r = 0
      · subst h0
        rw [al1_req] at hg
        exact li_times (P := rn 0 p) (fun rp st st' a b c => hb rp st st' a b c) 1 rep st st' hrp h hg
      · obtain ⟨ls, cols⟩ := st
        cases ls with
        | nil => rw [al1_none h0 rfl] at hg; cases hg
        | cons m t =>
          have ho : sdW.often (m :: t, cols) r (dn r d) (rn r p) c = if r = 1 ∧ 1 < m then none else some (m, (t, cols)) := rfl
          by_cases hbad : r = 1 ∧ 1 < m
          · rw [if_pos hbad] at ho; rw [al1_none h0 ho] at hg; cases hg
          · rw [if_neg hbad] at ho
            have hI : LI M (t, cols) := ⟨fun n hn => h.1 n (List.mem_cons_of_mem _ hn), h.2⟩
            by_cases hm : m = 0
            · subst hm
              rw [al1_zero h0 ho] at hg
              exact li_nulls (by omega) _ _ _ _ (fun j hj => by have := hge j hj; omega) hI hg
            · rw [al1_some h0 hm ho] at hg
              exact li_times (P := rn r p) hb m rep _ st' (by omega) hI hg
    cases hx : al1 sdW r k d p c rep st with
    | none => rw [hx] at hg; cases hg
    | some s1 =>
      rw [hx] at hg
      exact li_al M s d p (c + lv1 k) rep s1 st' hrp hpd hM2 (h1 s1 hx) hg
/-- what is most of the one field that a form is -/
def mostK (k : F) : List (Nat × Nat) := most (.cons 0 k .nil) 0 0
theorem li_recs (k : F) : ∀ (rs : List (List Nat)) (cols cols' : List (List Lv)), (∀ r ∈ rs, ∀ n ∈ r, n < 18446744073709551616) → (∀ i, ∀ l ∈ cols.getD i [], LvP ((mostK k).getD i (0, 0)) l) → recsS k rs cols = .ok cols' → ∀ i, ∀ l ∈ cols'.getD i [], LvP ((mostK k).getD i (0, 0)) l
  | [], cols, cols', _, h, hg => by cases hg; exact h
  | r :: t, cols, cols', hr, h, hg => by
    unfold recsS at hg
    cases hx : recS k r cols with
    | error e => rw [hx] at hg; cases hg
    | ok c1 =>
      rw [hx] at hg
      obtain ⟨-, h1⟩ := recS_ok hx
      have h2 := li_al (fun i => (mostK k).getD i (0, 0)) (.cons 0 k .nil) 0 0 0 0 (r, cols) ([], c1) (Nat.le_refl _) (Nat.le_refl _) (fun j hj => by rw [Nat.zero_add]; rfl) ⟨hr r (List.mem_cons_self ..), h⟩ (by
        rw [al_one]; exact h1)
      exact li_recs k t c1 cols' (fun r hr' => hr r (List.mem_cons_of_mem _ hr')) h2.2 hg
/-- no level is beyond what its leaf has above it -/
theorem levels (l : List Fd) (rs : List (List Nat)) (cols : List (List Lv)) (hr : ∀ r ∈ rs, ∀ n ∈ r, n < 18446744073709551616) (h : shR l rs = .ok cols) : ∀ i, ∀ x ∈ cols.getD i [], LvP ((mostK (formK l)).getD i (0, 0)) x := by
  unfold shR at h
  split at h
  · cases h
  · split at h
    · cases h
    · exact li_recs (formK l) rs _ cols hr (fun i x hx => by rw [rep_get] at hx; cases hx) h
theorem mostK_le (k : F) (i : Nat) : ((mostK k).getD i (0, 0)).1 ≤ 1 + size k ∧ ((mostK k).getD i (0, 0)).2 ≤ 1 + size k := by
  by_cases hi : i < (mostK k).length
  · have h := most_le (.cons 0 k .nil) 0 0 ((mostK k)[i]) (List.getElem_mem hi)
    rw [show (mostK k).getD i (0, 0) = (mostK k)[i] by simp [List.getD, hi]]
    have e : size (.cons 0 k .nil) = 1 + size k + 0 := rfl
    omega
  · rw [show (mostK k).getD i (0, 0) = (0, 0) by simp [List.getD, List.getElem?_eq_none (show (mostK k).length ≤ i by omega)]]
    simp only; omega

/-- what is so of all along a form -/
theorem keep_times {σ : Type} {I : σ → Prop} {f : Nat → σ → Option σ} (hf : ∀ rp st st', I st → f rp st = some st' → I st') : ∀ (n rep rep' : Nat) (st st' : σ), I st → times f n rep rep' st = some st' → I st'
  | 0, rep, rep', st, st', h, hg => by cases hg; exact h
  | n + 1, rep, rep', st, st', h, hg => by
    change (f rep st).bind (times f n rep' rep') = _ at hg
    cases hx : f rep st with
    | none => rw [hx] at hg; cases hg
    | some s1 => rw [hx] at hg; exact keep_times hf n rep' rep' s1 st' (hf rep st s1 h hx) hg
theorem keep_nulls {σ : Type} {I : σ → Prop} {lv : σ → Nat → Nat → Nat → Bool → Option σ} (hf : ∀ st c rep d t st', I st → lv st c rep d t = some st' → I st') (rep d : Nat) : ∀ (m c : Nat) (st st' : σ), I st → nulls lv m c rep d st = some st' → I st'
  | 0, c, st, st', h, hg => by cases hg; exact h
  | m + 1, c, st, st', h, hg => by
    change (lv st c rep d false).bind (nulls lv m (c + 1) rep d) = _ at hg
    cases hx : lv st c rep d false with
    | none => rw [hx] at hg; cases hg
    | some s1 => rw [hx] at hg; exact keep_nulls hf rep d m (c + 1) s1 st' (hf st c rep d false s1 h hx) hg
theorem keep_al {σ : Type} (W : Wk σ) (I : σ → Prop) (hO : ∀ st r D P c x, I st → W.often st r D P c = some x → I x.2) (hL : ∀ st c rep d t st', I st → W.level st c rep d t = some st' → I st') : ∀ (F : F) (d p c rep : Nat) (st st' : σ), I st → al W F d p c rep st = some st' → I st'
  | .nil, d, p, c, rep, st, st', h, hg => by cases hg; exact h
  | .cons r k s, d, p, c, rep, st, st', h, hg => by
    rw [al_cons] at hg
    have hb : ∀ rp st st', I st → body W k (dn r d) (rn r p) c rp st = some st' → I st' := fun rp st st' h hg => by
      cases k with
      | nil => rw [body_nil] at hg; exact hL _ _ _ _ _ _ h hg
      | cons r' k' s' => exact keep_al W I hO hL (.cons r' k' s') _ _ _ _ _ _ h hg
    have h1 : ∀ st', al1 W r k d p c rep st = some st' → I st' := fun st' hg => by
      by_cases h0 : r = 0
      · subst h0
        rw [al1_req] at hg
        exact keep_times (fun rp st st' b c => hb rp st st' b c) 1 rep _ st st' h hg
      · cases ho : W.often st r (dn r d) (rn r p) c with
        | none => rw [al1_none h0 ho] at hg; cases hg
        | some x =>
          obtain ⟨m, s1⟩ := x
          have hI := hO _ _ _ _ _ _ h ho
          by_cases hm : m = 0
          · subst hm
            rw [al1_zero h0 ho] at hg
            exact keep_nulls hL _ _ _ _ _ _ hI hg
          · rw [al1_some h0 hm ho] at hg
            exact keep_times hb m rep _ _ st' hI hg
    cases hx : al1 W r k d p c rep st with
    | none => rw [hx] at hg; cases hg
    | some s1 => rw [hx] at hg; exact keep_al W I hO hL s d p (c + lv1 k) rep s1 st' (h1 s1 hx) hg
/-- the assembler: its numbers fit the type -/
def AI (st : As) : Prop := (∀ n ∈ st.2, n < 18446744073709551616) ∧ ∀ i, (st.1.getD i []).length < 18446744073709551616 ∧ ∀ l ∈ st.1.getD i [], l.2.2 < 18446744073709551616
theorem asPut_fits {rec rec' : List Nat} {n : Nat} (h : ∀ m ∈ rec, m < 18446744073709551616) (hn : n < 18446744073709551616) (hg : asPut rec n = some rec') : ∀ m ∈ rec', m < 18446744073709551616 := by
  unfold asPut at hg
  split at hg
  · cases hg
  · cases hg
    intro m hm
    rcases List.mem_append.1 hm with hm | hm
    · exact h m hm
    · rw [List.mem_singleton] at hm; rw [hm]; exact hn
theorem ai_al (F : F) (d p c rep : Nat) (st st' : As) (h : AI st) (hg : al asW F d p c rep st = some st') : AI st' := by
  refine keep_al asW AI (fun st r D P c x h hg => ?_) (fun st c rep d t st' h hg => ?_) F d p c rep st st' h hg
  · change (asSeen st.1 r D P c).bind _ = _ at hg
    cases hs : asSeen st.1 r D P c with
    | none => rw [hs] at hg; cases hg
    | some m =>
      rw [hs] at hg
      change (asPut st.2 m).map _ = _ at hg
      cases hp : asPut st.2 m with
      | none => rw [hp] at hg; cases hg
      | some rec =>
        rw [hp] at hg
        cases hg
        refine ⟨asPut_fits h.1 ?_ hp, h.2⟩
        unfold asSeen at hs
        have hl := (h.2 c).1
        generalize st.1.getD c [] = col at hs hl
        cases col with
        | nil => cases hs
        | cons l t =>
          simp only [List.length_cons] at hl
          have := again_le (P : Int) t
          simp only at hs
          split at hs
          · cases hs; omega
          · split at hs
            · cases hs; omega
            · cases hs; omega
  · change asLevel st c rep d t = _ at hg
    unfold asLevel at hg
    have hl := h.2 c
    cases hcol : st.1.getD c [] with
    | nil => rw [hcol] at hg; cases hg
    | cons l u =>
      rw [hcol] at hg hl
      simp only at hg
      cases hp : (if t = true then asPut st.2 l.2.2 else some st.2) with
      | none => rw [hp] at hg; cases hg
      | some rec =>
        rw [hp] at hg
        simp only [Option.bind_some] at hg
        by_cases hq : l = ((rep : Int), (d : Int), if t = true then l.2.2 else 0)
        · rw [if_pos hq] at hg
          cases hg
          refine ⟨?_, fun i => ?_⟩
          · cases t with
            | true => rw [if_pos rfl] at hp; exact asPut_fits h.1 (hl.2 l (List.mem_cons_self ..)) hp
            | false => rw [if_neg (by simp)] at hp; cases hp; exact h.1
          · show ((st.1.set c u).getD i []).length < _ ∧ _
            by_cases e : i = c
            · subst e
              by_cases hi : i < st.1.length
              · rw [show (st.1.set i u).getD i [] = u by unfold List.getD; rw [List.getElem?_set_self hi]; rfl]
                exact ⟨by have := hl.1; simp only [List.length_cons] at this; omega, fun x hx => hl.2 x (List.mem_cons_of_mem _ hx)⟩
              · rw [show (st.1.set i u).getD i [] = [] by unfold List.getD; rw [List.getElem?_eq_none (by rw [List.length_set]; omega)]; rfl]
                exact ⟨by decide, fun x hx => by cases hx⟩
            · rw [show (st.1.set c u).getD i [] = st.1.getD i [] by unfold List.getD; rw [List.getElem?_set_ne (Ne.symm e)]]
              exact h.2 i
        · rw [if_neg hq] at hg; cases hg
theorem ai_recs (k : F) : ∀ (n : Nat) (lf : List (List Lv)) (out : List (List Nat)) (x : List (List Lv) × List (List Nat)), (∀ i, (lf.getD i []).length < 18446744073709551616 ∧ ∀ l ∈ lf.getD i [], l.2.2 < 18446744073709551616) → (∀ r ∈ out, ∀ m ∈ r, m < 18446744073709551616) → asmR k n lf out = some x → ∀ r ∈ x.2, ∀ m ∈ r, m < 18446744073709551616
  | 0, lf, out, x, h, ho, hg => by
    unfold asmR at hg
    split at hg
    · cases hg; exact ho
    · cases hg
  | n + 1, lf, out, x, h, ho, hg => by
    unfold asmR at hg
    split at hg
    · cases hg; exact ho
    · cases hx : al1 asW 0 k 0 0 0 0 (lf, []) with
      | none => rw [hx] at hg; cases hg
      | some st =>
        rw [hx] at hg
        simp only [Option.bind_some] at hg
        have hI := ai_al (.cons 0 k .nil) 0 0 0 0 (lf, []) st ⟨fun n hn => by (cases hn), h⟩ (by rw [al_one]; exact hx)
        refine ai_recs k n st.1 _ x hI.2 (fun r hr => ?_) hg
        rcases List.mem_append.1 hr with hr | hr
        · exact ho r hr
        · rw [List.mem_singleton] at hr; rw [hr]; exact hI.1
/-- numbers of records that were assembled fit the type -/
theorem fits (l : List Fd) (cols : List (List Lv)) (outs : List (List Nat)) (hc : ∀ i, (cols.getD i []).length < 18446744073709551616 ∧ ∀ x ∈ cols.getD i [], x.2.2 < 18446744073709551616) (h : asmbl l cols = .ok outs) : ∀ r ∈ outs, ∀ n ∈ r, n < 18446744073709551616 := by
  unfold asmbl at h
  split at h
  · cases h
  · split at h
    · cases h
    · cases ha : asR (formK l) cols with
      | none => rw [ha] at h; cases h
      | some o =>
        rw [ha] at h
        cases h
        unfold asR at ha
        cases hm : asmR (formK l) 8 cols [] with
        | none => rw [hm] at ha; cases ha
        | some x =>
          rw [hm] at ha
          simp only [Option.bind_some] at ha
          split at ha
          · cases ha
            exact ai_recs (formK l) 8 cols [] x hc (fun r hr => by cases hr) hm
          · cases ha
end Go.Proofs.Ytjfkoledbegpfaa.Sh
