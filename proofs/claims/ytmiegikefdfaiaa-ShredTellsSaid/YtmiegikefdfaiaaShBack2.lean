/- Plain: records of their columns; how many begin; parts. -/
import Derived.Test.YtmiegikefdfaiaaShBack
namespace Go.Proofs.Ytmiegikefdfaiaa.Sh
set_option linter.unusedVariables false

theorem bk_one (k : F) (ho : ok (.cons 0 k .nil)) : BK (lv1 k) 0 (lv1 k) (Colm 0 0 0) 0 (al1 sdW 0 k 0 0 0 0) (al1 asW 0 k 0 0 0 0) := by
  have h := bk_al (lv1 k) (.cons 0 k .nil) 0 0 0 0 ho (by rw [leaves_one]; omega)
  rw [leaves_one] at h
  exact bk_ext h (fun st => (al_one sdW k st).symm) (fun st => (al_one asW k st).symm)
theorem recS_ok {k : F} {r : List Nat} {cols cols' : List (List Lv)} (h : recS k r cols = .ok cols') : r.length ≤ 64 ∧ al1 sdW 0 k 0 0 0 0 (r, cols) = some ([], cols') := by
  unfold recS at h
  split at h
  · cases h
  · refine ⟨by omega, ?_⟩
    cases hx : al1 sdW 0 k 0 0 0 0 (r, cols) with
    | none => rw [hx] at h; cases h
    | some st =>
      obtain ⟨l, c⟩ := st
      rw [hx] at h
      cases l with
      | nil => cases h; rfl
      | cons a t => cases h
theorem recS_of {k : F} {r : List Nat} {cols cols' : List (List Lv)} (h1 : r.length ≤ 64) (h : al1 sdW 0 k 0 0 0 0 (r, cols) = some ([], cols')) : recS k r cols = .ok cols' := by
  unfold recS
  rw [if_neg (by omega), h]; rfl
theorem recs_spec (k : F) (ho : ok (.cons 0 k .nil)) : ∀ (rs : List (List Nat)) (cols cols' : List (List Lv)), cols.length = lv1 k → recsS k rs cols = .ok cols' →
    ∃ D, Ext cols cols' D ∧ (∀ i, i < lv1 k → Blk 0 0 0 rs.length (D i)) ∧ (∀ i, lv1 k ≤ i → D i = []) ∧
      (∀ cols2, cols2.length = lv1 k → ∃ cols2', recsS k rs cols2 = .ok cols2' ∧ Ext cols2 cols2' D) ∧
      ∀ (n : Nat) (lf : List (List Lv)) (out : List (List Nat)), rs.length ≤ n → lf.length = lv1 k → (∀ i, lf.getD i [] = D i) → ∃ lf', asmR k n lf out = some (lf', out ++ rs) ∧ Cons lf lf' D
  | [], cols, cols', hN, h => by
    cases h
    refine ⟨fun _ => [], Ext.refl _, fun i _ => rfl, fun _ _ => rfl, fun cols2 _ => ⟨cols2, rfl, Ext.refl _⟩, fun n lf out _ hl hd => ⟨lf, ?_, Cons.refl _⟩⟩
    have h0 := hd 0
    cases n with
    | zero => unfold asmR; rw [if_pos h0, List.append_nil]
    | succ n => unfold asmR; rw [if_pos h0, List.append_nil]
  | r :: t, cols, cols', hN, h => by
    unfold recsS at h
    cases hx : recS k r cols with
    | error e => rw [hx] at h; cases h
    | ok c1 =>
      rw [hx] at h
      obtain ⟨hr64, h1⟩ := recS_ok hx
      obtain ⟨nums, D1, e1, E1, q1, z1, p1, b1⟩ := bk_one k ho r cols [] c1 hN h1
      rw [List.append_nil] at e1
      subst e1
      obtain ⟨D2, E2, q2, z2, p2, b2⟩ := recs_spec k ho t c1 cols' (E1.1.trans hN) h
      refine ⟨fun i => D1 i ++ D2 i, E1.trans E2, fun i hi => ⟨D1 i, D2 i, rfl, q1 i (Nat.zero_le _) (by omega), q2 i hi⟩, fun i hi => ?_, fun cols2 h2 => ?_, fun n lf out hn hl hd => ?_⟩
      · show D1 i ++ D2 i = []
        rw [z1 i (by omega), z2 i hi]; rfl
      · obtain ⟨x1, a1, y1⟩ := p1 cols2 h2
        obtain ⟨x2, a2, y2⟩ := p2 x1 (y1.1.trans h2)
        refine ⟨x2, ?_, y1.trans y2⟩
        unfold recsS
        rw [recS_of hr64 a1]; exact a2
      · cases n with
        | zero => simp at hn
        | succ n =>
          have hhd : ∀ i, Hd 0 (D2 i) := fun i => by
            by_cases hi : i < lv1 k
            · have := blk_hd (p := 0) (rest := []) (q2 i hi) (Nat.le_refl _) (fun y t e => by cases e)
              rwa [List.append_nil] at this
            · rw [z2 i (by omega)]; intro y t e; cases e
          obtain ⟨lf1, a1, y1⟩ := b1 lf [] hl (by simpa using hr64) (fun i => ⟨D2 i, hd i, fun _ _ => hhd i⟩)
          obtain ⟨lf2, a2, y2⟩ := b2 n lf1 (out ++ [r]) (by simp at hn; omega) (y1.1.trans hl) (fun i => by
            have := y1.2 i
            rw [hd i] at this
            exact (List.append_cancel_left this).symm)
          refine ⟨lf2, ?_, y1.trans y2⟩
          have hne : lf.getD 0 [] ≠ [] := by
            rw [hd 0]
            obtain ⟨x, xs, e, -⟩ := q1 0 (Nat.le_refl _) (by have := lv1_pos k; omega)
            show D1 0 ++ D2 0 ≠ []
            rw [e]; simp
          unfold asmR
          rw [if_neg hne, a1]
          simp only [Option.bind_some, List.nil_append, a2, List.append_assoc]
          rfl
/-- what is shredded is assembled as it was -/
theorem back (l : List Fd) (rs : List (List Nat)) (cols : List (List Lv)) (h : shR l rs = .ok cols) : asmbl l cols = .ok rs := by
  unfold shR at h
  split at h
  · cases h
  · rename_i h0
    split at h
    · cases h
    · rename_i h1
      obtain ⟨k, hk, hfl, ho, -⟩ := check_form (Classical.not_not.1 h0)
      have hK := formK_is hfl
      rw [hK] at h
      obtain ⟨D, E, q, z, p, b⟩ := recs_spec k ho rs _ cols List.length_replicate h
      have hD : ∀ i, cols.getD i [] = D i := fun i => by rw [E.2, rep_get, List.nil_append]
      have hl : cols.length = lv1 k := by rw [E.1, List.length_replicate]
      obtain ⟨lf', a, y⟩ := b 8 cols [] (by omega) hl hD
      unfold asmbl
      rw [if_neg h0, hK, if_neg (by omega)]
      have : asR k cols = some rs := by
        unfold asR
        rw [a]
        simp only [Option.bind_some, List.nil_append]
        rw [if_pos]
        intro x hx
        obtain ⟨i, hi, rfl⟩ := List.mem_iff_getElem.1 hx
        have h2 := y.2 i
        rw [hD i] at h2
        have h3 : lf'.getD i [] = [] := by
          have h4 : D i ++ [] = D i ++ lf'.getD i [] := by rw [List.append_nil]; exact h2
          exact (List.append_cancel_left h4).symm
        simpa [List.getD, List.getElem?_eq_getElem hi] using h3
      rw [this]
/-- how many levels say rep 0 -/
def zeros (l : List Lv) : Nat := (l.filter fun x => x.1 = 0).length
theorem zeros_app (a b : List Lv) : zeros (a ++ b) = zeros a + zeros b := by unfold zeros; rw [List.filter_append, List.length_append]
theorem zeros_blk : ∀ (n : Nat) (l : List Lv), Blk 0 0 0 n l → zeros l = n
  | 0, l, h => by rw [show l = [] from h]; rfl
  | n + 1, l, h => by
    obtain ⟨a, b, e, ⟨x, xs, e2, e3, e4, -⟩, hb⟩ := h
    subst e e2
    rw [zeros_app, zeros_blk n b hb]
    have : zeros (x :: xs) = 1 := by
      unfold zeros
      have h1 : xs.filter (fun x => decide (x.1 = 0)) = [] := by
        rw [List.filter_eq_nil_iff]
        intro y hy
        have := e4 y hy
        simp; omega
      rw [List.filter_cons, if_pos (by simp [e3]), h1]; rfl
    omega
theorem starts (l : List Fd) (rs : List (List Nat)) (cols : List (List Lv)) (h : shR l rs = .ok cols) : 1 ≤ cols.length ∧ ∀ i, i < cols.length → zeros (cols.getD i []) = rs.length ∧ ∀ x t, cols.getD i [] = x :: t → x.1 = 0 := by
  unfold shR at h
  split at h
  · cases h
  · rename_i h0
    split at h
    · cases h
    · obtain ⟨k, hk, hfl, ho, -⟩ := check_form (Classical.not_not.1 h0)
      rw [formK_is hfl] at h
      obtain ⟨D, E, q, z, p, b⟩ := recs_spec k ho rs _ cols List.length_replicate h
      have hl : cols.length = lv1 k := by rw [E.1, List.length_replicate]
      refine ⟨by rw [hl]; exact lv1_pos k, fun i hi => ?_⟩
      rw [E.2, rep_get, List.nil_append]
      have hb := q i (by omega)
      refine ⟨zeros_blk _ _ hb, fun x t e => ?_⟩
      cases hr : rs with
      | nil => rw [hr] at hb; rw [show D i = [] from hb] at e; cases e
      | cons r rt =>
        rw [hr] at hb
        obtain ⟨a, b', e1, ⟨y, ys, e2, e3, -⟩, -⟩ := hb
        rw [e1, e2] at e
        simp only [List.cons_append] at e
        injection e with e5 e6
        rw [← e5, e3]; rfl
theorem recsS_app (k : F) : ∀ (a b : List (List Nat)) (cols : List (List Lv)), recsS k (a ++ b) cols = match recsS k a cols with | .error e => .error e | .ok c => recsS k b c
  | [], b, cols => rfl
  | r :: t, b, cols => by
    have e1 : recsS k (r :: (t ++ b)) cols = match recS k r cols with | .error e => .error e | .ok c => recsS k (t ++ b) c := rfl
    have e2 : recsS k (r :: t) cols = match recS k r cols with | .error e => .error e | .ok c => recsS k t c := rfl
    show recsS k (r :: (t ++ b)) cols = _
    rw [e1, e2]
    cases recS k r cols with
    | error e => rfl
    | ok c => exact recsS_app k t b c
/-- in parts -/
theorem parts (l : List Fd) (a b : List (List Nat)) (cols : List (List Lv)) (h : shR l (a ++ b) = .ok cols) : ∃ ca cb, shR l a = .ok ca ∧ shR l b = .ok cb ∧ ca.length = cols.length ∧ cb.length = cols.length ∧ ∀ i, cols.getD i [] = ca.getD i [] ++ cb.getD i [] := by
  unfold shR at h
  split at h
  · cases h
  · rename_i h0
    split at h
    · cases h
    · rename_i h8
      rw [List.length_append] at h8
      obtain ⟨k, hk, hfl, ho, -⟩ := check_form (Classical.not_not.1 h0)
      rw [formK_is hfl, recsS_app] at h
      cases hx : recsS k a (List.replicate (lv1 k) []) with
      | error e => rw [hx] at h; cases h
      | ok ca =>
        rw [hx] at h
        obtain ⟨D1, E1, -⟩ := recs_spec k ho a _ ca List.length_replicate hx
        have hl1 : ca.length = lv1 k := by rw [E1.1, List.length_replicate]
        obtain ⟨D2, E2, q2, z2, p2, b2⟩ := recs_spec k ho b ca cols hl1 h
        obtain ⟨cb, hb, E3⟩ := p2 (List.replicate (lv1 k) []) List.length_replicate
        refine ⟨ca, cb, ?_, ?_, E2.1.symm, by rw [E3.1, E2.1, List.length_replicate, hl1], fun i => by rw [E2.2, E3.2, rep_get, List.nil_append]⟩
        · unfold shR; rw [if_neg h0, if_neg (by omega), formK_is hfl, hx]
        · unfold shR; rw [if_neg h0, if_neg (by omega), formK_is hfl, hb]
end Go.Proofs.Ytmiegikefdfaiaa.Sh
