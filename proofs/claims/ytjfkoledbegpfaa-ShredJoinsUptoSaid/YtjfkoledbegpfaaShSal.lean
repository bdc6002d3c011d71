/- Plain: columns of records as the reference makes them: each field's own, joined; the same as the walk along a form. -/
import Derived.Test.YtjfkoledbegpfaaShLev
namespace Go.Proofs.Ytjfkoledbegpfaa.Sh
set_option linter.unusedVariables false

/-- columns one behind the other, column by column -/
def zipA (a b : List (List Lv)) : List (List Lv) := List.zipWith (· ++ ·) a b
/-- what is left of the record, behind the columns -/
abbrev SR := Option (List (List Lv) × List Nat)
def sJoin (f : Nat → List Nat → SR) : Nat → Nat → Nat → List (List Lv) → List Nat → SR
  | 0, _, _, acc, ls => some (acc, ls)
  | n + 1, rep, P, acc, ls => (f rep ls).bind fun x => sJoin f n P P (zipA acc x.1) x.2
/-- one field, as often as it is there; f: each time -/
def sOne (f : Nat → List Nat → SR) (r L d P rep : Nat) (ls : List Nat) : SR :=
  if r = 0 then f rep ls else match ls with
    | [] => none
    | m :: t => if (r = 1 ∧ 1 < m) ∨ 64 < m then none else if m = 0 then some (List.replicate L [((rep : Int), (d : Int), 0)], t) else sJoin f m rep P (List.replicate L []) t
/-- fields side by side -/
def sal : F → Nat → Nat → Nat → List Nat → SR
  | .nil, _, _, _, ls => some ([], ls)
  | .cons r k s, d, p, rep, ls =>
    (sOne (fun rp l => if isNil k = true then (match l with | [] => none | n :: t => some ([[((rp : Int), (dn r d : Int), n)]], t)) else sal k (dn r d) (rn r p) rp l) r (lv1 k) d (rn r p) rep ls).bind fun x =>
      (sal s d p rep x.2).bind fun y => some (x.1 ++ y.1, y.2)
/-- what a field is made of that is there -/
def sIn (k : F) (D P rp : Nat) (l : List Nat) : SR := if isNil k = true then (match l with | [] => none | n :: t => some ([[((rp : Int), (D : Int), n)]], t)) else sal k D P rp l
theorem sal_cons (r : Nat) (k s : F) (d p rep : Nat) (ls : List Nat) : sal (.cons r k s) d p rep ls = (sOne (sIn k (dn r d) (rn r p)) r (lv1 k) d (rn r p) rep ls).bind fun x => (sal s d p rep x.2).bind fun y => some (x.1 ++ y.1, y.2) := rfl

/-- columns from c on, so many, as a function -/
def part (c : Nat) (D : List (List Lv)) (i : Nat) : List Lv := if c ≤ i ∧ i < c + D.length then D.getD (i - c) [] else []
theorem part_nil (c i : Nat) : part c [] i = [] := by unfold part; rw [if_neg (by simp)]
theorem part_append (c : Nat) (a b : List (List Lv)) (i : Nat) : part c (a ++ b) i = part c a i ++ part (c + a.length) b i := by
  unfold part
  rw [List.length_append]
  by_cases h1 : c ≤ i ∧ i < c + a.length
  · rw [if_pos h1, if_pos (by omega), if_neg (by omega), List.append_nil]
    unfold List.getD
    rw [List.getElem?_append_left (by omega)]
  · rw [if_neg h1, List.nil_append]
    by_cases h2 : c + a.length ≤ i ∧ i < c + a.length + b.length
    · rw [if_pos h2, if_pos (by omega)]
      unfold List.getD
      rw [List.getElem?_append_right (by omega)]
      congr 2; omega
    · rw [if_neg h2, if_neg (by omega)]
theorem zipA_length (a b : List (List Lv)) (h : a.length = b.length) : (zipA a b).length = a.length := by simp [zipA, h]
theorem zipA_get (a b : List (List Lv)) (h : a.length = b.length) (i : Nat) : (zipA a b).getD i [] = a.getD i [] ++ b.getD i [] := by
  unfold zipA List.getD
  rw [List.getElem?_zipWith]
  by_cases hi : i < a.length
  · rw [List.getElem?_eq_getElem hi, List.getElem?_eq_getElem (show i < b.length by omega)]; rfl
  · rw [List.getElem?_eq_none (by omega), List.getElem?_eq_none (show b.length ≤ i by omega)]; rfl
theorem part_zip (c : Nat) (a b : List (List Lv)) (h : a.length = b.length) (i : Nat) : part c (zipA a b) i = part c a i ++ part c b i := by
  unfold part
  rw [zipA_length a b h, ← h]
  by_cases h1 : c ≤ i ∧ i < c + a.length
  · rw [if_pos h1, if_pos h1, if_pos h1, zipA_get a b h]
  · rw [if_neg h1, if_neg h1, if_neg h1]; rfl
theorem part_replicate (c n i : Nat) : part c (List.replicate n []) i = [] := by
  unfold part
  split
  · exact rep_get _ _
  · rfl

/-- the walk g and the reference's s: the same, while a record is no longer than 64 -/
def SG (N c L : Nat) (g : Sd → Option Sd) (s : List Nat → SR) : Prop :=
  ∀ ls cols, cols.length = N → ls.length ≤ 64 → match s ls with
    | none => g (ls, cols) = none
    | some (D, ls') => D.length = L ∧ (∀ i, (D.getD i []).length + ls'.length ≤ ls.length) ∧ ∃ cols', g (ls, cols) = some (ls', cols') ∧ Ext cols cols' (part c D)
theorem SG.none {N c L : Nat} {g : Sd → Option Sd} {s : List Nat → SR} (h : SG N c L g s) {ls : List Nat} {cols : List (List Lv)} (hN : cols.length = N) (hl : ls.length ≤ 64) (hs : s ls = Option.none) : g (ls, cols) = Option.none := by
  have := h ls cols hN hl
  rw [hs] at this; exact this
theorem SG.some {N c L : Nat} {g : Sd → Option Sd} {s : List Nat → SR} (h : SG N c L g s) {ls ls' : List Nat} {cols D : List (List Lv)} (hN : cols.length = N) (hl : ls.length ≤ 64) (hs : s ls = Option.some (D, ls')) :
    D.length = L ∧ (∀ i, (D.getD i []).length + ls'.length ≤ ls.length) ∧ ∃ cols', g (ls, cols) = Option.some (ls', cols') ∧ Ext cols cols' (part c D) := by
  have := h ls cols hN hl
  rw [hs] at this; exact this
theorem SG.ext {N c L : Nat} {g g' : Sd → Option Sd} {s s' : List Nat → SR} (h : SG N c L g s) (hg : ∀ st, g' st = g st) (hs : ∀ ls, s' ls = s ls) : SG N c L g' s' := by
  have e1 : g' = g := funext hg
  have e2 : s' = s := funext hs
  rw [e1, e2]; exact h

/-- each field that is there takes a number at least -/
def Less (g : Sd → Option Sd) : Prop := ∀ st st', g st = some st' → st'.1.length < st.1.length
def Leq (g : Sd → Option Sd) : Prop := ∀ st st', g st = some st' → st'.1.length ≤ st.1.length
theorem leq_level (c rep d : Nat) (t : Bool) : Leq (fun st => sdLevel st c rep d t) := by
  intro st st' h
  obtain ⟨ls, cols⟩ := st
  cases t with
  | false => cases h; exact Nat.le_refl _
  | true =>
    cases ls with
    | nil => cases h
    | cons n u => cases h; simp
theorem less_level (c rep d : Nat) : Less (fun st => sdLevel st c rep d true) := by
  intro st st' h
  obtain ⟨ls, cols⟩ := st
  cases ls with
  | nil => cases h
  | cons n u => cases h; simp
theorem leq_nulls (rep d : Nat) : ∀ (m c : Nat), Leq (nulls sdLevel m c rep d)
  | 0, c => fun st st' h => by cases h; exact Nat.le_refl _
  | m + 1, c => fun st st' h => by
    change (sdLevel st c rep d false).bind (nulls sdLevel m (c + 1) rep d) = _ at h
    cases hx : sdLevel st c rep d false with
    | none => rw [hx] at h; cases h
    | some s1 =>
      rw [hx] at h
      exact Nat.le_trans (leq_nulls rep d m (c + 1) s1 st' h) (leq_level c rep d false st s1 hx)
theorem times_less {f : Nat → Sd → Option Sd} (hf : ∀ rp, Less (f rp)) : ∀ (n rep P : Nat) (st st' : Sd), times f n rep P st = some st' → st'.1.length + n ≤ st.1.length
  | 0, rep, P, st, st', h => by cases h; exact Nat.le_refl _
  | n + 1, rep, P, st, st', h => by
    change (f rep st).bind (times f n P P) = _ at h
    cases hx : f rep st with
    | none => rw [hx] at h; cases h
    | some s1 =>
      rw [hx] at h
      have h1 := times_less hf n P P s1 st' h
      have h2 := hf rep st s1 hx
      omega
theorem al_less : ∀ (F : F) (d p c rep : Nat), Leq (al sdW F d p c rep) ∧ (F ≠ .nil → Less (al sdW F d p c rep))
  | .nil, d, p, c, rep => ⟨fun st st' h => by cases h; exact Nat.le_refl _, fun h => absurd rfl h⟩
  | .cons r k s, d, p, c, rep => by
    have hb : ∀ rp, Less (body sdW k (dn r d) (rn r p) c rp) := fun rp => by
      cases k with
      | nil => intro st st' h; rw [body_nil] at h; exact less_level c rp _ st st' h
      | cons r' k' s' => exact (al_less (.cons r' k' s') (dn r d) (rn r p) c rp).2 (by simp)
    have h1 : Less (al1 sdW r k d p c rep) := fun st st' h => by
      by_cases h0 : r = 0
      · subst h0
        rw [al1_req] at h
        have := times_less hb 1 rep _ st st' h
        omega
      · obtain ⟨ls, cols⟩ := st
        cases ls with
        | nil => rw [al1_none h0 rfl] at h; cases h
        | cons m t =>
          have ho : sdW.often (m :: t, cols) r (dn r d) (rn r p) c = if r = 1 ∧ 1 < m then none else some (m, (t, cols)) := rfl
          by_cases hbad : r = 1 ∧ 1 < m
          · rw [if_pos hbad] at ho; rw [al1_none h0 ho] at h; cases h
          · rw [if_neg hbad] at ho
            by_cases hm : m = 0
            · subst hm
              rw [al1_zero h0 ho] at h
              have := leq_nulls rep d _ _ _ _ h
              simp only [List.length_cons] at this ⊢
              omega
            · rw [al1_some h0 hm ho] at h
              have := times_less hb m rep _ _ st' h
              simp only [List.length_cons] at this ⊢
              omega
    have h2 : Less (al sdW (.cons r k s) d p c rep) := fun st st' h => by
      rw [al_cons] at h
      cases hx : al1 sdW r k d p c rep st with
      | none => rw [hx] at h; cases h
      | some s1 =>
        rw [hx] at h
        exact Nat.lt_of_le_of_lt ((al_less s d p (c + lv1 k) rep).1 s1 st' h) (h1 st s1 hx)
    exact ⟨fun st st' h => Nat.le_of_lt (h2 st st' h), fun _ => h2⟩
theorem body_less (r : Nat) (k : F) (d p c : Nat) : ∀ rp, Less (body sdW k (dn r d) (rn r p) c rp) := fun rp => by
  cases k with
  | nil => intro st st' h; rw [body_nil] at h; exact less_level c rp _ st st' h
  | cons r' k' s' => exact (al_less (.cons r' k' s') (dn r d) (rn r p) c rp).2 (by simp)

/-- levels without a number, column by column -/
theorem nulls_ext (rep d : Nat) : ∀ (m c : Nat) (ls : List Nat) (cols : List (List Lv)), c + m ≤ cols.length → ∃ cols', nulls sdLevel m c rep d (ls, cols) = some (ls, cols') ∧ Ext cols cols' (part c (List.replicate m [((rep : Int), (d : Int), 0)]))
  | 0, c, ls, cols, h => ⟨cols, rfl, by
    have : part c (List.replicate 0 [((rep : Int), (d : Int), 0)]) = fun _ => [] := funext fun i => part_nil c i
    rw [this]; exact Ext.refl _⟩
  | m + 1, c, ls, cols, h => by
    obtain ⟨cols', h1, h2⟩ := nulls_ext rep d m (c + 1) ls (push cols c ((rep : Int), (d : Int), 0)) (by rw [push_length]; omega)
    refine ⟨cols', h1, ?_⟩
    have h3 := (ext_push cols c ((rep : Int), (d : Int), 0) (by omega)).trans h2
    have e : (fun i => at1 c ((rep : Int), (d : Int), 0) i ++ part (c + 1) (List.replicate m [((rep : Int), (d : Int), 0)]) i) = part c (List.replicate (m + 1) [((rep : Int), (d : Int), 0)]) := by
      funext i
      have := part_append c [[((rep : Int), (d : Int), 0)]] (List.replicate m [((rep : Int), (d : Int), 0)]) i
      rw [show List.replicate (m + 1) [((rep : Int), (d : Int), 0)] = [[((rep : Int), (d : Int), 0)]] ++ List.replicate m [((rep : Int), (d : Int), 0)] from rfl, this]
      congr 1
      unfold at1 part
      by_cases hi : i = c
      · subst hi; rw [if_pos rfl, if_pos (by simp)]; simp
      · rw [if_neg hi, if_neg (by simp only [List.length_cons, List.length_nil]; omega)]
    rw [← e]; exact h3
/-- so many times -/
theorem sg_times (N c L P : Nat) (g : Nat → Sd → Option Sd) (s : Nat → List Nat → SR) (h : ∀ rp, SG N c L (g rp) (s rp)) :
    ∀ (n rep : Nat) (acc : List (List Lv)) (ls ls0 : List Nat) (cols : List (List Lv)), acc.length = L → cols.length = N → ls.length ≤ 64 → (∀ i, (acc.getD i []).length + ls.length ≤ ls0.length) → match sJoin s n rep P acc ls with
      | none => times g n rep P (ls, cols) = none
      | some (D, ls') => D.length = L ∧ (∀ i, (D.getD i []).length + ls'.length ≤ ls0.length) ∧ ∃ E cols', times g n rep P (ls, cols) = some (ls', cols') ∧ Ext cols cols' E ∧ ∀ i, part c D i = part c acc i ++ E i
  | 0, rep, acc, ls, ls0, cols, ha, hN, hl, hb => ⟨ha, hb, fun _ => [], cols, rfl, Ext.refl _, fun i => by rw [List.append_nil]⟩
  | n + 1, rep, acc, ls, ls0, cols, ha, hN, hl, hb => by
    show match (s rep ls).bind fun x => sJoin s n P P (zipA acc x.1) x.2 with | none => _ | some (D, ls') => _
    cases hs : s rep ls with
    | none =>
      have := (h rep).none hN hl hs
      show (g rep (ls, cols)).bind _ = none
      rw [this]; rfl
    | some x =>
      obtain ⟨D1, l1⟩ := x
      obtain ⟨e1, e2, c1, e3, e4⟩ := (h rep).some hN hl hs
      have hl1 : l1.length ≤ ls.length := by have := e2 0; omega
      have hz : acc.length = D1.length := by rw [ha, e1]
      have ih := sg_times N c L P g s h n P (zipA acc D1) l1 ls0 c1 (by rw [zipA_length _ _ hz, ha]) (e4.1.trans hN) (by omega) (fun i => by
        rw [zipA_get _ _ hz, List.length_append]
        have := e2 i; have := hb i; omega)
      have et : times g (n + 1) rep P (ls, cols) = times g n P P (l1, c1) := by
        show (g rep (ls, cols)).bind (times g n P P) = _
        rw [e3]; rfl
      simp only [Option.bind_some]
      rw [et]
      cases hj : sJoin s n P P (zipA acc D1) l1 with
      | none => rw [hj] at ih; exact ih
      | some y =>
        rw [hj] at ih
        obtain ⟨D2, l2⟩ := y
        obtain ⟨f1, f2, E, c2, f3, f4, f5⟩ := ih
        refine ⟨f1, f2, fun i => part c D1 i ++ E i, c2, f3, e4.trans f4, fun i => ?_⟩
        rw [f5, part_zip _ _ _ hz, List.append_assoc]
theorem sg_level (N c rep d : Nat) (hc : c < N) : SG N c 1 (fun st => sdLevel st c rep d true) (fun l => match l with | [] => none | n :: t => some ([[((rep : Int), (d : Int), n)]], t)) := by
  intro ls cols hN hl
  cases ls with
  | nil => rfl
  | cons n t =>
    refine ⟨rfl, fun i => ?_, _, rfl, ?_⟩
    · cases i with
      | zero => simp; omega
      | succ i => simp
    · have h3 := ext_push cols c ((rep : Int), (d : Int), n) (by omega)
      have e : at1 c ((rep : Int), (d : Int), n) = part c [[((rep : Int), (d : Int), n)]] := by
        funext i
        unfold at1 part
        by_cases hi : i = c
        · subst hi; rw [if_pos rfl, if_pos (by simp)]; simp
        · rw [if_neg hi, if_neg (by simp only [List.length_cons, List.length_nil]; omega)]
      rw [← e]; exact h3
theorem sg_al (N : Nat) : ∀ (F : F) (d p c rep : Nat), c + leaves F ≤ N → SG N c (leaves F) (al sdW F d p c rep) (sal F d p rep)
  | .nil, d, p, c, rep, h => fun ls cols hN hl => ⟨rfl, fun i => by simp [List.getD], cols, rfl, by
    have : part c [] = fun _ => [] := funext fun i => part_nil c i
    rw [this]; exact Ext.refl _⟩
  | .cons r k s, d, p, c, rep, h => by
    rw [leaves_cons] at h ⊢
    have hl0 := lv1_pos k
    have hb : ∀ rp, SG N c (lv1 k) (body sdW k (dn r d) (rn r p) c rp) (sIn k (dn r d) (rn r p) rp) := fun rp => by
      cases k with
      | nil => exact (sg_level N c rp (dn r d) (by omega)).ext (fun st => body_nil _ _ _ _ _ st) (fun _ => rfl)
      | cons r' k' s' => exact sg_al N (.cons r' k' s') (dn r d) (rn r p) c rp (by
          have : lv1 (.cons r' k' s') = leaves (.cons r' k' s') := rfl
          omega)
    have hless := body_less r k d p c
    have h1 : SG N c (lv1 k) (al1 sdW r k d p c rep) (sOne (sIn k (dn r d) (rn r p)) r (lv1 k) d (rn r p) rep) := by
      by_cases h0 : r = 0
      · subst h0
        refine (hb rep).ext (fun st => ?_) (fun ls => by unfold sOne; rw [if_pos rfl])
        rw [al1_req]
        show (body sdW k (dn 0 d) (rn 0 p) c rep st).bind some = _
        exact bind_id _
      · intro ls cols hN hl
        unfold sOne
        rw [if_neg h0]
        cases ls with
        | nil => exact al1_none h0 rfl
        | cons m t =>
          have ho : sdW.often (m :: t, cols) r (dn r d) (rn r p) c = if r = 1 ∧ 1 < m then none else some (m, (t, cols)) := rfl
          simp only [List.length_cons] at hl
          by_cases hbad : r = 1 ∧ 1 < m
          · rw [if_pos hbad] at ho
            simp only
            rw [if_pos (Or.inl hbad)]
            exact al1_none h0 ho
          · rw [if_neg hbad] at ho
            by_cases h64 : 64 < m
            · simp only
              rw [if_pos (Or.inr h64)]
              show al1 sdW r k d p c rep (m :: t, cols) = none
              rw [al1_some h0 (by omega) ho]
              cases hx : times (body sdW k (dn r d) (rn r p) c) m rep (rn r p) (t, cols) with
              | none => rfl
              | some st' =>
                have := times_less hless m rep _ _ st' hx
                simp only at this
                omega
            · simp only
              rw [if_neg (by intro h; rcases h with h | h; exact hbad h; exact h64 h)]
              by_cases hm : m = 0
              · subst hm
                rw [if_pos rfl]
                obtain ⟨cols', e1, e2⟩ := nulls_ext rep d (lv1 k) c t cols (by omega)
                refine ⟨List.length_replicate, fun i => ?_, cols', ?_, e2⟩
                · by_cases hi : i < lv1 k
                  · simp [List.getD, hi]; omega
                  · simp [List.getD, hi]
                · rw [al1_zero h0 ho]; exact e1
              · rw [if_neg hm]
                have ht := sg_times N c (lv1 k) (rn r p) _ _ hb m rep (List.replicate (lv1 k) []) t (m :: t) cols List.length_replicate hN (by omega) (fun i => by rw [rep_get]; simp)
                have ea : al1 sdW r k d p c rep (m :: t, cols) = times (body sdW k (dn r d) (rn r p) c) m rep (rn r p) (t, cols) := al1_some h0 hm ho
                rw [ea]
                cases hj : sJoin (sIn k (dn r d) (rn r p)) m rep (rn r p) (List.replicate (lv1 k) []) t with
                | none => rw [hj] at ht; exact ht
                | some y =>
                  rw [hj] at ht
                  obtain ⟨D2, l2⟩ := y
                  obtain ⟨f1, f2, E, c2, f3, f4, f5⟩ := ht
                  refine ⟨f1, f2, c2, f3, ?_⟩
                  have : part c D2 = E := funext fun i => by rw [f5, part_replicate, List.nil_append]
                  rw [this]; exact f4
    intro ls cols hN hl
    rw [sal_cons]
    cases hs : sOne (sIn k (dn r d) (rn r p)) r (lv1 k) d (rn r p) rep ls with
    | none =>
      have := h1.none hN hl hs
      show al sdW (.cons r k s) d p c rep (ls, cols) = none
      rw [al_cons, this]; rfl
    | some x =>
      obtain ⟨D1, l1⟩ := x
      obtain ⟨e1, e2, c1, e3, e4⟩ := h1.some hN hl hs
      have hl1 : l1.length ≤ ls.length := by have := e2 0; omega
      have ea : al sdW (.cons r k s) d p c rep (ls, cols) = al sdW s d p (c + lv1 k) rep (l1, c1) := by rw [al_cons, e3]; rfl
      rw [ea]
      have h2 := sg_al N s d p (c + lv1 k) rep (by omega)
      simp only [Option.bind_some]
      cases hs2 : sal s d p rep l1 with
      | none => exact h2.none (e4.1.trans hN) (by omega) hs2
      | some y =>
        obtain ⟨D2, l2⟩ := y
        obtain ⟨f1, f2, c2, f3, f4⟩ := h2.some (e4.1.trans hN) (by omega) hs2
        refine ⟨by rw [List.length_append, e1, f1], fun i => ?_, c2, f3, ?_⟩
        · by_cases hi : i < D1.length
          · have e9 : (D1 ++ D2).getD i [] = D1.getD i [] := by unfold List.getD; rw [List.getElem?_append_left hi]
            have q1 := e2 i
            have q2 := f2 0
            show ((D1 ++ D2).getD i []).length + l2.length ≤ ls.length
            rw [e9]; omega
          · have e9 : (D1 ++ D2).getD i [] = D2.getD (i - D1.length) [] := by unfold List.getD; rw [List.getElem?_append_right (by omega)]
            have q2 := f2 (i - D1.length)
            show ((D1 ++ D2).getD i []).length + l2.length ≤ ls.length
            rw [e9]; omega
        · have h5 := e4.trans f4
          have e : (fun i => part c D1 i ++ part (c + lv1 k) D2 i) = part c (D1 ++ D2) := funext fun i => by rw [part_append, e1]
          rw [← e]; exact h5

/-- one record, as the reference does it -/
def sRec (k : F) (r : List Nat) : Except Nat (List (List Lv)) := if 64 < r.length then .error 2 else match sIn k 0 0 0 r with
  | none => .error 1
  | some (D, l) => if l = [] then .ok D else .error 1
def sRecs (k : F) : List (List Nat) → List (List Lv) → Except Nat (List (List Lv))
  | [], acc => .ok acc
  | r :: t, acc => match sRec k r with
    | .error e => .error e
    | .ok D => sRecs k t (zipA acc D)
theorem ext_part {cols cols' D : List (List Lv)} (h : Ext cols cols' (part 0 D)) (hl : cols.length = D.length) : cols' = zipA cols D := by
  refine cols_eq (by rw [h.1, zipA_length _ _ hl]) (fun i => ?_)
  rw [h.2, zipA_get _ _ hl]
  congr 1
  unfold part
  by_cases hi : i < D.length
  · rw [if_pos (by omega)]; rfl
  · rw [if_neg (by omega)]; simp [List.getD, List.getElem?_eq_none (show D.length ≤ i by omega)]
theorem sRec_is (k : F) (hk : k ≠ .nil) (r : List Nat) (cols : List (List Lv)) (hN : cols.length = lv1 k) : recS k r cols = (match sRec k r with | .error e => .error e | .ok D => .ok (zipA cols D)) ∧ ∀ D, sRec k r = .ok D → D.length = lv1 k ∧ ∀ i, (D.getD i []).length ≤ 64 := by
  have hz : SG (lv1 k) 0 (lv1 k) (al1 sdW 0 k 0 0 0 0) (sIn k 0 0 0) := by
    have h := sg_al (lv1 k) (.cons 0 k .nil) 0 0 0 0 (by rw [leaves_one]; omega)
    rw [leaves_one] at h
    refine h.ext (fun st => (al_one sdW k st).symm) (fun ls => ?_)
    rw [sal_cons]
    unfold sOne
    rw [if_pos rfl]
    have e0 : sIn k (dn 0 0) (rn 0 0) 0 ls = sIn k 0 0 0 ls := rfl
    rw [e0]
    cases hs : sIn k 0 0 0 ls with
    | none => rfl
    | some x => obtain ⟨D, l⟩ := x; show some (D, l) = some (D ++ [], l); rw [List.append_nil]
  unfold recS sRec
  by_cases h64 : 64 < r.length
  · rw [if_pos h64, if_pos h64]; exact ⟨rfl, fun D h => by cases h⟩
  · rw [if_neg h64, if_neg h64]
    cases hs : sIn k 0 0 0 r with
    | none =>
      rw [hz.none hN (by omega) hs]
      exact ⟨rfl, fun D h => by cases h⟩
    | some x =>
      obtain ⟨D, l⟩ := x
      obtain ⟨e1, e2, c1, e3, e4⟩ := hz.some hN (by omega) hs
      rw [e3]
      cases l with
      | nil =>
        refine ⟨?_, fun D' h => ?_⟩
        · show Except.ok c1 = Except.ok (zipA cols D)
          rw [ext_part e4 (by rw [hN, e1])]
        · simp at h
          subst h
          exact ⟨e1, fun i => by have := e2 i; omega⟩
      | cons n t => exact ⟨rfl, fun D' h => by simp at h⟩
theorem sRecs_is (k : F) (hk : k ≠ .nil) : ∀ (rs : List (List Nat)) (cols : List (List Lv)), cols.length = lv1 k → recsS k rs cols = sRecs k rs cols
  | [], cols, h => rfl
  | r :: t, cols, h => by
    obtain ⟨e1, e2⟩ := sRec_is k hk r cols h
    unfold recsS sRecs
    rw [e1]
    cases hs : sRec k r with
    | error e => rfl
    | ok D =>
      simp only
      exact sRecs_is k hk t _ (by rw [zipA_length _ _ (by rw [h, (e2 D hs).1]), h])
end Go.Proofs.Ytjfkoledbegpfaa.Sh
