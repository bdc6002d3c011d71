/- Plain: ops in two parts, one behind the other, do what all of them do. -/
import Derived.Test.YtmjcdjekakaigaaFsP3
namespace Go.Proofs.Ytmjcdjekakaigaa.Fs
set_option linter.unusedVariables false

theorem playF_app : ∀ (a b : List Op) (f : T), (playF f (a ++ b)).2 = 0 → (playF f a).2 = 0 ∧ playF f (a ++ b) = playF (playF f a).1 b
  | [], b, f, h => ⟨rfl, rfl⟩
  | o :: r, b, f, h => by
    rw [List.cons_append, playF] at h ⊢
    rw [playF]
    split at h
    · rename_i h1; exact absurd h h1
    · rename_i h1
      rw [if_neg h1, if_neg h1]
      exact playF_app r b _ h
theorem playF_ok : ∀ (l : List Op) (f : T), Ok f → (playF f l).2 = 0 → Ok (playF f l).1
  | [], f, h, _ => h
  | o :: r, f, h, he => by
    rw [playF] at he ⊢
    split at he
    · rename_i h1; exact absurd he h1
    · rename_i h1
      rw [if_neg h1]
      exact playF_ok r _ (doOp_ok h (by omega)) he
theorem play_good {f : T} {l : List Op} (h : (play f l).2 = 0) : Ok f ∧ l.length ≤ 64 ∧ (playF f l).2 = 0 ∧ play f l = playF f l := by
  unfold play at h ⊢
  split at h
  · rename_i h1; exact absurd h h1
  · rename_i h1
    split at h
    · cases h
    · rename_i h2
      rw [if_neg h1, if_neg h2]
      exact ⟨(check_ok f).1 (by omega), by omega, h, rfl⟩
theorem play_is {f : T} {l : List Op} (h : Ok f) (hl : l.length ≤ 64) : play f l = playF f l := by
  unfold play
  rw [if_neg (by rw [(check_ok f).2 h]; simp), if_neg (by omega)]
theorem plays_law {f : T} {l : List Op} (h : (play f l).2 = 0) (k : Nat) :
    ∃ c, play f (l.take k) = (c, 0) ∧ play c (l.drop k) = ((play f l).1, 0) := by
  obtain ⟨h1, h2, h3, h4⟩ := play_good h
  have ha := playF_app (l.take k) (l.drop k) f (by rw [List.take_append_drop]; exact h3)
  rw [List.take_append_drop] at ha
  refine ⟨(playF f (l.take k)).1, ?_, ?_⟩
  · rw [play_is h1 (by rw [List.length_take]; omega), ← ha.1]
  · rw [play_is (playF_ok _ _ h1 ha.1) (by rw [List.length_drop]; omega), ← ha.2, h4, ← h3]
end Go.Proofs.Ytmjcdjekakaigaa.Fs
