/- Plain words for the walk of page.cells. -/
import Derived.Test.YtcachhnhncodoaaGreatPgW7
import Derived.Test.YtcachhnhncodoaaGreatPgW2
import Derived.Test.YtcachhnhncodoaaGreatP10
namespace Go.Proofs.YtcachhnhncodoaaGreat
open Go.RowKit
set_option linter.unusedVariables false

namespace Pg
theorem cells_cnt (k : Int) (s : List UInt8) : cellsR k s = if (cntR s 64 2).2.2 ≠ 0 then ([], (cntR s 64 2).2.2)
    else if (cntR (cntR s 64 2).2.1 (cntR s 64 2).1 4).2.2 ≠ 0 then ([], (cntR (cntR s 64 2).2.1 (cntR s 64 2).1 4).2.2)
    else restR k (cntR s 64 2).1 (cntR (cntR s 64 2).2.1 (cntR s 64 2).1 4).1 (whichR (cntR (cntR s 64 2).2.1 (cntR s 64 2).1 4).2.1 (cntR s 64 2).1 (cntR (cntR s 64 2).2.1 (cntR s 64 2).1 4).1) := by
  obtain ⟨n, j, e, he⟩ : ∃ n j e, V.rd s = (n, j, e) := ⟨_, _, _, rfl⟩
  by_cases h0 : e ≠ 0
  · rw [cnt_e1 he h0]
    unfold cellsR; rw [he]; simp only
    rw [if_pos h0, if_pos h0]
  have h0' : e = 0 := Classical.not_not.1 h0
  subst h0'
  by_cases h1 : 64 < n
  · rw [cnt_e2 he h1]
    unfold cellsR; rw [he]; simp only
    rw [if_neg (by simp), if_pos h1, if_pos (by simp)]
  rw [cnt_ok he h1]
  simp only
  obtain ⟨m, i, f, hf⟩ : ∃ m i f, V.rd (s.drop j) = (m, i, f) := ⟨_, _, _, rfl⟩
  by_cases h2 : f ≠ 0
  · rw [cnt_e1 hf h2]
    unfold cellsR; rw [he]; simp only; rw [hf]; simp only
    rw [if_neg (by simp), if_neg h1, if_pos h2, if_neg (by simp), if_pos h2]
  have h2' : f = 0 := Classical.not_not.1 h2
  subst h2'
  by_cases h3 : n < m
  · rw [cnt_e2 hf h3]
    unfold cellsR; rw [he]; simp only; rw [hf]; simp only
    rw [if_neg (by simp), if_neg h1, if_neg (by simp), if_pos h3, if_neg (by simp), if_pos (by simp)]
  · rw [cnt_ok hf h3]
    unfold cellsR; rw [he]; simp only; rw [hf]; simp only
    rw [if_neg (by simp), if_neg h1, if_neg (by simp), if_neg h3, if_neg (by simp), if_neg (by simp)]
theorem cnt_facts {s t : List UInt8} {most er n : Nat} (h : cntR s most er = (n, t, 0)) (her : er ≠ 0) : n ≤ most ∧ t.length ≤ s.length := by
  unfold cntR at h
  by_cases h0 : (V.rd s).2.2 ≠ 0
  · rw [if_pos h0] at h; exact absurd (congrArg (·.2.2) h) h0
  rw [if_neg h0] at h
  by_cases h1 : most < (V.rd s).1
  · rw [if_pos h1] at h; exact absurd (congrArg (·.2.2) h) her
  rw [if_neg h1] at h
  obtain ⟨h2, h3⟩ := (Prod.mk.injEq _ _ _ _).mp h
  obtain ⟨h4, _⟩ := (Prod.mk.injEq _ _ _ _).mp h3
  exact ⟨by omega, by rw [← h4, List.length_drop]; omega⟩
theorem which_facts {s t : List UInt8} {many there : Nat} {m : List Bool} (h : whichR s many there = (m, t, 0)) (hm : many ≤ 64) : m.length = many ∧ M.cnt m = there ∧ t.length ≤ s.length := by
  unfold whichR at h
  by_cases h0 : there = many
  · rw [if_pos h0] at h
    obtain ⟨rfl, h2⟩ := (Prod.mk.injEq _ _ _ _).mp h
    obtain ⟨rfl, _⟩ := (Prod.mk.injEq _ _ _ _).mp h2
    refine ⟨List.length_replicate .., ?_, Nat.le_refl _⟩
    rw [h0]
    clear h h2 h0 hm
    induction many with
    | zero => rfl
    | succ q ih => rw [List.replicate_succ]; unfold M.cnt; rw [ih]; simp; omega
  rw [if_neg h0] at h
  by_cases h1 : s.length < (many + 7) / 8
  · rw [if_pos h1] at h; exact absurd (congrArg (·.2.2) h) (by simp)
  rw [if_neg h1] at h
  by_cases h2 : (mofR (s.take ((many + 7) / 8)) many).2 ≠ 0
  · rw [if_pos h2] at h; exact absurd (congrArg (·.2.2) h) h2
  rw [if_neg h2] at h
  by_cases h3 : M.cnt (mofR (s.take ((many + 7) / 8)) many).1 ≠ there
  · rw [if_pos h3] at h; exact absurd (congrArg (·.2.2) h) (by simp)
  rw [if_neg h3] at h
  obtain ⟨rfl, h5⟩ := (Prod.mk.injEq _ _ _ _).mp h
  obtain ⟨rfl, _⟩ := (Prod.mk.injEq _ _ _ _).mp h5
  refine ⟨?_, Classical.not_not.1 h3, by rw [List.length_drop]; omega⟩
  have := ((unpR_facts (s := s.take ((many + 7) / 8)) (m := many) (wd := 1) rfl (by omega)).2 (Classical.not_not.1 h2)).1
  unfold mofR ofOnes
  rw [List.length_map]; exact this
end Pg

end Go.Proofs.YtcachhnhncodoaaGreat
