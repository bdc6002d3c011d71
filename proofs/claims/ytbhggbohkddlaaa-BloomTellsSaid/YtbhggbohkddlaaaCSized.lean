/- How long the texts of cells may be that the form hands over. -/
import Derived.Test.YtbhggbohkddlaaaCLift
import Derived.SizedLaws
namespace Go.Proofs.Ytbhggbohkddlaaa
open Go.ChangeShapes Go.WideShapes Go.ChangeAt Go.RowKit
set_option linter.unusedVariables false

section
variable {H : Type} {enc : TypeId × Value → H} {w : World} {base : Nat} {held : Bool} {spare : Nat → Bool}

theorem weights_cell (c : C.Cl) : c.txt.length ∈ (cellD (H := H) c).weights Try.prog 26 := by
  unfold cellD
  simp [DataW.weights, DataW.weightsEach, Try.underlying26]
theorem weightsAll_mem {P : Program} {e : TypeId} {n : Nat} {d : DataW H} : ∀ {ds : List (DataW H)}, d ∈ ds → n ∈ d.weights P e → n ∈ DataW.weightsAll P e ds
  | [], hd, _ => by simp at hd
  | d0 :: ds, hd, hn => by
    simp only [DataW.weightsAll, List.mem_append]
    rcases List.mem_cons.1 hd with rfl | h
    · exact Or.inl hn
    · exact Or.inr (weightsAll_mem h hn)
theorem sized_cell {ts : List TypeId} {ds : List (DataW H)} (h : (DataW.weightsEach Try.prog ts ds).all (· ≤ reachBytes) = true) {j : Nat} {c : C.Cl} (ht : ts[j]? = some 26) (hd : ds[j]? = some (cellD c)) : c.txt.length ≤ 140737488351232 := by
  have := List.all_eq_true.1 h _ (DataW.weights_mem_each ht hd _ (weights_cell c))
  exact of_decide_eq_true this
theorem sized_cells {ts : List TypeId} {ds : List (DataW H)} (h : (DataW.weightsEach Try.prog ts ds).all (· ≤ reachBytes) = true) {j : Nat} {l : List C.Cl} {r : List (DataW H)} (ht : ts[j]? = some 24) (hd : ds[j]? = some (.slice (l.map cellD) r)) : ∀ x ∈ l, x.txt.length ≤ 140737488351232 := by
  intro x hx
  have hm : x.txt.length ∈ DataW.weights Try.prog 24 (DataW.slice (l.map cellD) r) := by
    simp only [DataW.weights, Try.underlying24, List.mem_cons, List.mem_append]
    exact Or.inr (Or.inl (weightsAll_mem (List.mem_map_of_mem hx) (weights_cell x)))
  have := List.all_eq_true.1 h _ (DataW.weights_mem_each ht hd _ hm)
  exact of_decide_eq_true this
end
end Go.Proofs.Ytbhggbohkddlaaa
