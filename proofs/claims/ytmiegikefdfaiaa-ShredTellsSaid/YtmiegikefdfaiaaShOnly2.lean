/- Plain: records of columns have just these columns. -/
import Derived.Test.YtmiegikefdfaiaaShA9
import Derived.Test.YtmiegikefdfaiaaShOnly
namespace Go.Proofs.Ytmiegikefdfaiaa.Sh
set_option linter.unusedVariables false

theorem bind_id {σ : Type} (x : Option σ) : x.bind some = x := by cases x <;> rfl
theorem al_one {σ : Type} (W : Wk σ) (k : F) (st : σ) : al W (.cons 0 k .nil) 0 0 0 0 st = al1 W 0 k 0 0 0 0 st := by
  rw [al_cons]
  show (al1 W 0 k 0 0 0 0 st).bind (fun st => some st) = _
  exact bind_id _
theorem leaves_one (k : F) : leaves (.cons 0 k .nil) = lv1 k := by rw [leaves_cons]; rfl
theorem sim_one (k : F) : Sim (lv1 k) (al1 asW 0 k 0 0 0 0) (al1 sdW 0 k 0 0 0 0) := by
  have h := sim_al (lv1 k) (.cons 0 k .nil) 0 0 0 0 (by rw [leaves_one]; omega)
  intro lf rec lf' rec' hN hf
  obtain ⟨nums, D, e, c, b, g⟩ := h lf rec lf' rec' hN (by rw [al_one]; exact hf)
  refine ⟨nums, D, e, c, b, fun tail cols hc => ?_⟩
  obtain ⟨x, h1, h2⟩ := g tail cols hc
  exact ⟨x, by rw [← al_one]; exact h1, h2⟩
theorem asmR_only (k : F) : ∀ (n : Nat) (lf : List (List Lv)) (out : List (List Nat)) (lf' : List (List Lv)) (outs : List (List Nat)), lf.length = lv1 k → asmR k n lf out = some (lf', outs) →
    ∃ new D, outs = out ++ new ∧ new.length ≤ n ∧ Cons lf lf' D ∧ ∀ c, c.length = lv1 k → ∃ c', recsS k new c = .ok c' ∧ Ext c c' D
  | 0, lf, out, lf', outs, hN, h => by
    unfold asmR at h
    split at h
    · cases h
      exact ⟨[], fun _ => [], by simp, Nat.le_refl _, Cons.refl _, fun c _ => ⟨c, rfl, Ext.refl _⟩⟩
    · cases h
  | n + 1, lf, out, lf', outs, hN, h => by
    unfold asmR at h
    split at h
    · cases h
      exact ⟨[], fun _ => [], by simp, Nat.zero_le _, Cons.refl _, fun c _ => ⟨c, rfl, Ext.refl _⟩⟩
    · cases hx : al1 asW 0 k 0 0 0 0 (lf, []) with
      | none => rw [hx] at h; cases h
      | some st =>
        obtain ⟨l1, r1⟩ := st
        rw [hx] at h
        simp only [Option.bind_some] at h
        obtain ⟨nums, D1, e1, c1, b1, g1⟩ := sim_one k lf [] l1 r1 hN hx
        obtain ⟨new, D2, e2, l2, c2, g2⟩ := asmR_only k n l1 (out ++ [r1]) lf' outs (c1.1.trans hN) h
        refine ⟨r1 :: new, fun i => D1 i ++ D2 i, by rw [e2]; simp, by simp; omega, c1.trans c2, fun c hc => ?_⟩
        obtain ⟨x1, h1, y1⟩ := g1 [] c hc
        obtain ⟨x2, h2, y2⟩ := g2 x1 (y1.1.trans hc)
        refine ⟨x2, ?_, y1.trans y2⟩
        have hr : recS k r1 c = .ok x1 := by
          unfold recS
          have hl := b1 (by simp)
          rw [if_neg (by omega)]
          rw [List.nil_append] at e1
          rw [e1]
          rw [List.append_nil] at h1
          rw [h1]; rfl
        unfold recsS
        rw [hr]; exact h2
theorem cols_eq {a b : List (List Lv)} (hl : a.length = b.length) (h : ∀ i, a.getD i [] = b.getD i []) : a = b := by
  apply List.ext_getElem hl
  intro i h1 h2
  have := h i
  simpa [List.getD, List.getElem?_eq_getElem h1, List.getElem?_eq_getElem h2] using this
theorem rep_get (n i : Nat) : (List.replicate n ([] : List Lv)).getD i [] = [] := by
  by_cases h : i < n
  · simp [List.getD, h]
  · simp [List.getD, h]
/-- what is assembled is shredded as it was -/
theorem only (l : List Fd) (cols : List (List Lv)) (outs : List (List Nat)) (h : asmbl l cols = .ok outs) : shR l outs = .ok cols := by
  unfold asmbl at h
  split at h
  · cases h
  · rename_i h0
    split at h
    · cases h
    · rename_i h1
      cases ha : asR (formK l) cols with
      | none => rw [ha] at h; cases h
      | some o =>
        rw [ha] at h
        cases h
        unfold asR at ha
        cases hm : asmR (formK l) 8 cols [] with
        | none => rw [hm] at ha; cases ha
        | some x =>
          obtain ⟨lf', o'⟩ := x
          rw [hm] at ha
          simp only [Option.bind_some] at ha
          split at ha
          · rename_i hall
            cases ha
            obtain ⟨new, D, e, hl, hc, hg⟩ := asmR_only (formK l) 8 cols [] lf' outs (by omega) hm
            rw [List.nil_append] at e
            subst e
            obtain ⟨c', hr, hE⟩ := hg (List.replicate (lv1 (formK l)) []) List.length_replicate
            unfold shR
            rw [if_neg h0, if_neg (by omega), hr]
            congr 1
            refine cols_eq (by rw [hE.1, List.length_replicate]; omega) (fun i => ?_)
            rw [hE.2, rep_get, List.nil_append, hc.2]
            have : lf'.getD i [] = [] := by
              by_cases hi : i < lf'.length
              · have h2 := hall lf'[i] (List.getElem_mem _)
                simpa [List.getD, List.getElem?_eq_getElem hi] using h2
              · simp [List.getD, List.getElem?_eq_none (show lf'.length ≤ i by omega)]
            rw [this, List.append_nil]
          · cases ha
end Go.Proofs.Ytmiegikefdfaiaa.Sh
