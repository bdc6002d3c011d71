/- A region that draws its order, whose operations only read, and whose callees leave the old blocks alone: walked once, in the order of the text. -/
import Derived.Test.YtocgimimmajjhaaBaseC
import Derived.Deep.QuietTactic
namespace Go.Proofs.Ytocgimimmajjhaa
open Go.RowKit
set_option linter.unusedVariables false

/-- a world in which all blocks of w0 are as they were -/
structure WB (w0 : World) where
  w : World
  below : Below w0.heap.size w0 w
instance wbHas (w0 : World) : Nonempty (WB w0) := ⟨⟨w0, Below.refl _ _⟩⟩
theorem WB.cell {w0 : World} (p : WB w0) {b o : Nat} {v : Value} (hb : b < w0.heap.size) (h : w0.cell? ⟨b, o, none⟩ = some v) : p.w.cell? ⟨b, o, none⟩ = some v := (p.below.cell (p := ⟨b, o, none⟩) hb).trans h
theorem wp_region_wb {P : Program} {id : Nat} {Q : Exit → Act → World → Prop} {a : Act} {w : World} {l : List Oper} (hm : P.follows .mixedOrders = true) (hB : Region.lexB .any l.toArray = true)
    (h : wpQuiet P l.toArray (fun w' => ∃ p : WB w, w' = p.w) (fun a' => ∀ w', (∃ p : WB w, w' = p.w) → Q .normal a' w') l a) : (Code.region id l.toArray true).wp P Q a w :=
  wp_region_quiet (C := fun w' => ∃ p : WB w, w' = p.w) hm hB ⟨⟨_, (Below.refl w.heap.size w).drew⟩, rfl⟩ (by simpa using h)
theorem calls_wb {P : Program} {f : FuncId} {args : Array Value} {w0 : World} {p : WB w0} {v : Value} (h : Calls P f args p.w fun e w' => e = .returned v ∧ Below p.w.heap.size p.w w') :
    Calls P f args p.w fun e w'' => e = .returned v ∧ ∃ p' : WB w0, w'' = p'.w := h.mono fun _ _ ⟨he, hb⟩ => ⟨he, ⟨_, below_then p.below hb⟩, rfl⟩
end Go.Proofs.Ytocgimimmajjhaa
