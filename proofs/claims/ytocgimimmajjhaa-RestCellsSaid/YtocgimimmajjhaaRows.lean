/-
  No cell of these rows narrows 'for every input' (looked for: loops, veiled, ifaces, maps, wideKeys, modest, calm, conditions, laid).
  DERIVED. THE GIVEN ROWS OF THIS SEAT. 5 by the template 'for every input the law returns true; each argument reads behind the call as it read before'; 0 by the template 'total and deterministic' (their statements: YtocgimimmajjhaaTotals.lean).
  GIVEN WITH THE SEED: the statements are not yours to turn. If you find one false, say at which input.
  Laid BY PROGRAM, IN A SANDBOX (cutbox-rows.mjs): the forced cells as the released guide's own fill.sh prints them over the translation b056ca824470067d… (all of the seat's roots in one cut). By AI agents, Wed Nov 11 2026. No macro, syntax, notation, axiom, sorry.
-/
import Derived.Test.YtocgimimmajjhaaChecked
import GoSem.Claim
import GoSem.ClaimJoined
import GoSem.ClaimMapViews
import Derived.JoinedTies
import Derived.KernelRfl
namespace Go.Proofs.Ytocgimimmajjhaa
/- THE CELL 'sum', in the pinned program and in every row, IS THE sha256 OF THE DUMP (.gsa) THAT YtocgimimmajjhaaProg.lean LOADS. Nothing in Lean hashes anything: it is a label: what it is worth is what the hold of that sum in a sandbox is worth. -/
noncomputable def Try.pinned : Pinned := { name := "ytocgimimmajjhaa", sum := "b056ca824470067df68cbbcd5e6d83122cc75b8778c5fc2f8f7a8ad5432a7f82", checked := Try.checked }
namespace Rows
def none {H : Type} : Left H := { results := [], args := [] }

/-- 'hypostylelaw.NullsTell': WHATEVER THE INPUT: true; the input reads as it did. -/
def nullsTellSpec : ChangeSpec := { name := "nullsTell", fn := fun _ => fun
  | [d1, d2] => { results := [.lit (.bool true)], args := [d1, d2] }
  | _ => none }
def nullsTellRow : OpenClaim := { program := "ytocgimimmajjhaa", sum := "b056ca824470067df68cbbcd5e6d83122cc75b8778c5fc2f8f7a8ad5432a7f82", func := "hypostyle/hypostylelaw.NullsTell", spec := "nullsTell", unfollowed := true, recurses := true, apart := false }
def NullsTellSaid : Prop := nullsTellRow.holds Try.pinned (OpenSpec.ofChange nullsTellSpec)

/-- ITS FALSE NEIGHBOUR: 'it returns false'. Refute it at one input. -/
def nullsTellWrong : ChangeSpec := { name := "nullsTell", fn := fun _ => fun
  | [d1, d2] => { results := [.lit (.bool false)], args := [d1, d2] }
  | _ => none }
def NullsTellWrongFalsely : Prop := nullsTellRow.holds Try.pinned (OpenSpec.ofChange nullsTellWrong)

/-- 'hypostylelaw.NullsJoin': WHATEVER THE INPUT: true; the input reads as it did. -/
def nullsJoinSpec : ChangeSpec := { name := "nullsJoin", fn := fun _ => fun
  | [d1, d2, d3, d4] => { results := [.lit (.bool true)], args := [d1, d2, d3, d4] }
  | _ => none }
def nullsJoinRow : OpenClaim := { program := "ytocgimimmajjhaa", sum := "b056ca824470067df68cbbcd5e6d83122cc75b8778c5fc2f8f7a8ad5432a7f82", func := "hypostyle/hypostylelaw.NullsJoin", spec := "nullsJoin", unfollowed := true, recurses := true, apart := false }
def NullsJoinSaid : Prop := nullsJoinRow.holds Try.pinned (OpenSpec.ofChange nullsJoinSpec)

/-- ITS FALSE NEIGHBOUR: 'it returns false'. Refute it at one input. -/
def nullsJoinWrong : ChangeSpec := { name := "nullsJoin", fn := fun _ => fun
  | [d1, d2, d3, d4] => { results := [.lit (.bool false)], args := [d1, d2, d3, d4] }
  | _ => none }
def NullsJoinWrongFalsely : Prop := nullsJoinRow.holds Try.pinned (OpenSpec.ofChange nullsJoinWrong)

/-- 'hypostylelaw.NullsBack': WHATEVER THE INPUT: true; the input reads as it did. -/
def nullsBackSpec : ChangeSpec := { name := "nullsBack", fn := fun _ => fun
  | [d1, d2, d3] => { results := [.lit (.bool true)], args := [d1, d2, d3] }
  | _ => none }
def nullsBackRow : OpenClaim := { program := "ytocgimimmajjhaa", sum := "b056ca824470067df68cbbcd5e6d83122cc75b8778c5fc2f8f7a8ad5432a7f82", func := "hypostyle/hypostylelaw.NullsBack", spec := "nullsBack", unfollowed := true, recurses := true, apart := false }
def NullsBackSaid : Prop := nullsBackRow.holds Try.pinned (OpenSpec.ofChange nullsBackSpec)

/-- ITS FALSE NEIGHBOUR: 'it returns false'. Refute it at one input. -/
def nullsBackWrong : ChangeSpec := { name := "nullsBack", fn := fun _ => fun
  | [d1, d2, d3] => { results := [.lit (.bool false)], args := [d1, d2, d3] }
  | _ => none }
def NullsBackWrongFalsely : Prop := nullsBackRow.holds Try.pinned (OpenSpec.ofChange nullsBackWrong)

/-- 'hypostylelaw.NullsOrder': WHATEVER THE INPUT: true; the input reads as it did. -/
def nullsOrderSpec : ChangeSpec := { name := "nullsOrder", fn := fun _ => fun
  | [d1, d2, d3] => { results := [.lit (.bool true)], args := [d1, d2, d3] }
  | _ => none }
def nullsOrderRow : OpenClaim := { program := "ytocgimimmajjhaa", sum := "b056ca824470067df68cbbcd5e6d83122cc75b8778c5fc2f8f7a8ad5432a7f82", func := "hypostyle/hypostylelaw.NullsOrder", spec := "nullsOrder", unfollowed := true, recurses := true, apart := false }
def NullsOrderSaid : Prop := nullsOrderRow.holds Try.pinned (OpenSpec.ofChange nullsOrderSpec)

/-- ITS FALSE NEIGHBOUR: 'it returns false'. Refute it at one input. -/
def nullsOrderWrong : ChangeSpec := { name := "nullsOrder", fn := fun _ => fun
  | [d1, d2, d3] => { results := [.lit (.bool false)], args := [d1, d2, d3] }
  | _ => none }
def NullsOrderWrongFalsely : Prop := nullsOrderRow.holds Try.pinned (OpenSpec.ofChange nullsOrderWrong)

/-- 'hypostylelaw.RestCells': WHATEVER THE INPUT: true; the input reads as it did. -/
def restCellsSpec : ChangeSpec := { name := "restCells", fn := fun _ => fun
  | [d1, d2] => { results := [.lit (.bool true)], args := [d1, d2] }
  | _ => none }
def restCellsRow : OpenClaim := { program := "ytocgimimmajjhaa", sum := "b056ca824470067df68cbbcd5e6d83122cc75b8778c5fc2f8f7a8ad5432a7f82", func := "hypostyle/hypostylelaw.RestCells", spec := "restCells", unfollowed := true, recurses := true, apart := false }
def RestCellsSaid : Prop := restCellsRow.holds Try.pinned (OpenSpec.ofChange restCellsSpec)

/-- ITS FALSE NEIGHBOUR: 'it returns false'. Refute it at one input. -/
def restCellsWrong : ChangeSpec := { name := "restCells", fn := fun _ => fun
  | [d1, d2] => { results := [.lit (.bool false)], args := [d1, d2] }
  | _ => none }
def RestCellsWrongFalsely : Prop := restCellsRow.holds Try.pinned (OpenSpec.ofChange restCellsWrong)

/- THE SECOND FORM. 'bulk': how many values and letters a reading holds, each counted each time it is reached (what is shared counts as often as it is met; a slice's spare places count too). A statement '..UptoSaid' is the law's where the arguments, and the package variables that the reading takes, are together of bulk at most 1048576: NARROWER than '..Said'. Prove '..Said' where nothing that the law and all that it calls make is longer than what came in: it says more and counts as full. Else prove '..UptoSaid'. A law counts once. -/
mutual
def uptoBulk {H : Type} : DataW H → Nat
  | .lit (.string bytes) => bytes.length + 1
  | .lit _ => 1
  | .nil => 1
  | .ptr d => uptoBulk d + 1
  | .slice elems spare => uptoBulkAll elems + uptoBulkAll spare + 1
  | .agg parts => uptoBulkAll parts + 1
  | .iface _ d => uptoBulk d + 1
  | .map entries => uptoBulkEntries entries + 1
  | .held _ => 1
def uptoBulkAll {H : Type} : List (DataW H) → Nat
  | [] => 0
  | d :: r => uptoBulk d + uptoBulkAll r
def uptoBulkEntries {H : Type} : List (Lit × DataW H) → Nat
  | [] => 0
  | x :: r => uptoBulkEntry x + uptoBulkEntries r
def uptoBulkEntry {H : Type} : Lit × DataW H → Nat
  | (.string bytes, d) => bytes.length + uptoBulk d + 1
  | (_, d) => uptoBulk d + 1
 end
def uptoSmall : (H : Type) → List (DataW H) → Bool := fun _ ds => decide (uptoBulkAll ds ≤ 1048576)
def OpenSpec.upto (s : _root_.Go.ChangeSpec) : _root_.Go.OpenSpec := { _root_.Go.OpenSpec.ofChange s with cond := some uptoSmall }

/-- 'hypostylelaw.NullsTell', WHERE WHAT IT READS IS OF BULK AT MOST 1048576: true; the input reads as it did. -/
def nullsTellUptoRow : OpenClaim := { program := "ytocgimimmajjhaa", sum := "b056ca824470067df68cbbcd5e6d83122cc75b8778c5fc2f8f7a8ad5432a7f82", func := "hypostyle/hypostylelaw.NullsTell", spec := "nullsTell", unfollowed := true, recurses := true, apart := false, narrowed := true }
def NullsTellUptoSaid : Prop := nullsTellUptoRow.holds Try.pinned (OpenSpec.upto nullsTellSpec)

/-- 'hypostylelaw.NullsJoin', WHERE WHAT IT READS IS OF BULK AT MOST 1048576: true; the input reads as it did. -/
def nullsJoinUptoRow : OpenClaim := { program := "ytocgimimmajjhaa", sum := "b056ca824470067df68cbbcd5e6d83122cc75b8778c5fc2f8f7a8ad5432a7f82", func := "hypostyle/hypostylelaw.NullsJoin", spec := "nullsJoin", unfollowed := true, recurses := true, apart := false, narrowed := true }
def NullsJoinUptoSaid : Prop := nullsJoinUptoRow.holds Try.pinned (OpenSpec.upto nullsJoinSpec)

/-- 'hypostylelaw.NullsBack', WHERE WHAT IT READS IS OF BULK AT MOST 1048576: true; the input reads as it did. -/
def nullsBackUptoRow : OpenClaim := { program := "ytocgimimmajjhaa", sum := "b056ca824470067df68cbbcd5e6d83122cc75b8778c5fc2f8f7a8ad5432a7f82", func := "hypostyle/hypostylelaw.NullsBack", spec := "nullsBack", unfollowed := true, recurses := true, apart := false, narrowed := true }
def NullsBackUptoSaid : Prop := nullsBackUptoRow.holds Try.pinned (OpenSpec.upto nullsBackSpec)

/-- 'hypostylelaw.NullsOrder', WHERE WHAT IT READS IS OF BULK AT MOST 1048576: true; the input reads as it did. -/
def nullsOrderUptoRow : OpenClaim := { program := "ytocgimimmajjhaa", sum := "b056ca824470067df68cbbcd5e6d83122cc75b8778c5fc2f8f7a8ad5432a7f82", func := "hypostyle/hypostylelaw.NullsOrder", spec := "nullsOrder", unfollowed := true, recurses := true, apart := false, narrowed := true }
def NullsOrderUptoSaid : Prop := nullsOrderUptoRow.holds Try.pinned (OpenSpec.upto nullsOrderSpec)

/-- 'hypostylelaw.RestCells', WHERE WHAT IT READS IS OF BULK AT MOST 1048576: true; the input reads as it did. -/
def restCellsUptoRow : OpenClaim := { program := "ytocgimimmajjhaa", sum := "b056ca824470067df68cbbcd5e6d83122cc75b8778c5fc2f8f7a8ad5432a7f82", func := "hypostyle/hypostylelaw.RestCells", spec := "restCells", unfollowed := true, recurses := true, apart := false, narrowed := true }
def RestCellsUptoSaid : Prop := restCellsUptoRow.holds Try.pinned (OpenSpec.upto restCellsSpec)

end Rows
end Go.Proofs.Ytocgimimmajjhaa
