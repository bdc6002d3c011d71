/- What the walks of table.changed want. -/
import Derived.Test.YtnjnalehfhfefaaTbW4
import Derived.Test.YtnjnalehfhfefaaTbOwn
import Derived.Deep.RegionLaw
namespace Go.Proofs.Ytnjnalehfhfefaa
open Go.RowKit
set_option linter.unusedVariables false

theorem ownsRow_one {w : World} {B : Nat} {e : TypeId} {sz : Nat} {v : Value} {n : Nat} {xs : List Value} (h : w.ownsRow B e sz v n xs) : v.oneCell' = true := by
  rcases h.2 with ⟨rfl, _⟩ | ⟨g, cap, cur, rfl, _⟩ <;> rfl
theorem two_far {w w' : World} {b : Nat} {t : TypeId} {v0 v1 dv : Value} (h : Two w b t v0 v1) (hne : some b ≠ dv.ownBlock) (hf : ∀ k, k < w.heap.size → some k ≠ dv.ownBlock → w'.heap[k]? = w.heap[k]?) : Two w' b t v0 v1 := (hf b h.lt hne).trans h
theorem vrow_form {B : Nat} {vs : List Value} {v : Value} {w : World} (h : VRow B vs v w) : ∃ a c, v = .slice a vs.length c := by
  rcases h.2 with ⟨rfl, h0⟩ | ⟨g, cap, cur, rfl, _⟩
  · exact ⟨none, 0, by rw [h0]⟩
  · exact ⟨_, _, rfl⟩
theorem vrow_form1 {B : Nat} {vs : List Value} {u v : Value} {w : World} (h : VRow B (vs ++ [u]) v w) : ∃ a c, v = .slice a (vs.length + 1) c := by
  obtain ⟨a, c, h⟩ := vrow_form h
  exact ⟨a, c, by rw [h, List.length_append]; rfl⟩
theorem vrow_at {B g n c : Nat} {vs : List Value} {w : World} (h : VRow B vs (.slice (some ⟨g, 0, none⟩) n c) w) (j : Nat) (hj : j < vs.length) : w.cell? ⟨g, j, none⟩ = vs[j]? ∧ w.frozen? ⟨g, j, none⟩ = false := by
  obtain ⟨a, cc, e⟩ := vrow_form h
  injection e with _ e2 _
  subst e2
  exact ⟨World.ownsRow.cellAt h j (by omega), World.ownsRow.frozenAt h j⟩
end Go.Proofs.Ytnjnalehfhfefaa
