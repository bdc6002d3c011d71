/- From what the form hands over to what the walks ask for: slices of marks. -/
import Derived.Test.YtocgimimmajjhaaLift
import Derived.Test.YtocgimimmajjhaaMBase
import Derived.Deep.Grids
namespace Go.Proofs.Ytocgimimmajjhaa
open Go.ChangeShapes Go.WideShapes Go.ChangeAt Go.RowKit
set_option linter.unusedVariables false

section
variable {H : Type} {enc : TypeId × Value → H} {w : World} {base : Nat} {held : Bool}

/-- a slice of marks that came in -/
theorem open_marks {t e : TypeId} {fuel : Nat} {a : Option Addr} {len cap : Nat} {x : DataW H × List MemPlace} (ht : Try.prog.underlying t = some (.slice e)) (he : Try.prog.underlying e = some .bool) (hc : Try.prog.cellsOf e = 1)
    (h : DataW.trod enc Try.prog w base (fun _ => true) held fuel t (Value.slice a len cap).cells.toList = some x) :
    ∃ l : List Bool, l.length = len ∧ len ≤ maxLen ∧ (len ≤ cap ∧ cap ≤ maxLen ∧ (a = none → cap = 0)) ∧ Bools w w.heap.size a l ∧
      (x.1 = .nil ∧ len = 0 ∨ ∃ r, x.1 = .slice (l.map fun b => .lit (.bool b)) r) := by
  rcases Go.Deep.open_bools ht he hc h with ⟨hcs, hx⟩ | ⟨ad, l, c, Bf, hcs, _, hl, hm, hx, hcell⟩
  · simp [Value.cells] at hcs
    obtain ⟨rfl, rfl, rfl⟩ := hcs
    exact ⟨[], rfl, Nat.zero_le _, ⟨Nat.le_refl _, Nat.zero_le _, fun _ => rfl⟩, Bools.nil _ _ _, Or.inl ⟨by rw [hx], rfl⟩⟩
  · simp [Value.cells] at hcs
    obtain ⟨rfl, rfl, rfl⟩ := hcs
    refine ⟨(List.range len).map Bf, by simp, by omega, ⟨hl, hm, fun h => by cases h⟩, ?_, Or.inr ⟨_, by rw [hx]; simp [Go.Deep.boolRow]; rfl⟩⟩
    intro hne
    have hpos : 0 < len := by
      rcases Nat.eq_zero_or_pos len with h0 | h0
      · rw [h0] at hne; simp at hne
      · exact h0
    obtain ⟨b, off, spot⟩ := ad
    have hspot : spot = none := by simpa [Addr.add] using World.cell?_spot (hcell 0 (by omega))
    subst hspot
    have hc2 : ∀ i, i < len → w.cell? ⟨b, off + i, none⟩ = some (.bool (Bf i)) := fun i hi => by rw [← Go.WideShapes.add_plain]; exact hcell i (by omega)
    refine ⟨b, off, rfl, lt_of_cell (hc2 0 hpos), fun i hi => ?_⟩
    simp only [List.length_map, List.length_range] at hi
    rw [hc2 i hi]
    simp [List.getD, hi]
end
theorem bulk_marks {H : Type} {d : DataW H} {l : List Bool} {n : Nat} (hl : l.length = n) (h : d = .nil ∧ n = 0 ∨ ∃ r, d = .slice (l.map fun b => .lit (.bool b)) r) : n + 1 ≤ Rows.uptoBulk d := by
  rcases h with ⟨rfl, rfl⟩ | ⟨r, rfl⟩
  · simp [Rows.uptoBulk]
  · have := bulk_length (l.map fun b => DataW.lit (H := H) (.bool b))
    simp only [List.length_map] at this
    simp only [Rows.uptoBulk]
    omega
end Go.Proofs.Ytocgimimmajjhaa
