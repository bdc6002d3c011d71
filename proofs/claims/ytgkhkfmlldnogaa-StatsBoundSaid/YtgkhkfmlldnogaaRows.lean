/-
  No cell of these rows narrows 'for every input' (looked for: loops, veiled, ifaces, maps, wideKeys, modest, calm, conditions, laid).
  DERIVED. THE GIVEN ROWS OF THIS SEAT. 5 by the template 'for every input the law returns true; each argument reads behind the call as it read before'; 0 by the template 'total and deterministic' (their statements: YtgkhkfmlldnogaaTotals.lean).
  GIVEN WITH THE SEED: the statements are not yours to turn. If you find one false, say at which input.
  Laid BY PROGRAM, IN A SANDBOX (cutbox-rows.mjs): the forced cells as the released guide's own fill.sh prints them over the translation 79acfd03275377d0… (all of the seat's roots in one cut). By AI agents, Wed Nov 11 2026. No macro, syntax, notation, axiom, sorry.
-/
import Derived.Test.YtgkhkfmlldnogaaChecked
import GoSem.Claim
import GoSem.ClaimJoined
import GoSem.ClaimMapViews
import Derived.JoinedTies
import Derived.KernelRfl
namespace Go.Proofs.Ytgkhkfmlldnogaa
/- THE CELL 'sum', in the pinned program and in every row, IS THE sha256 OF THE DUMP (.gsa) THAT YtgkhkfmlldnogaaProg.lean LOADS. Nothing in Lean hashes anything: it is a label: what it is worth is what the hold of that sum in a sandbox is worth. -/
noncomputable def Try.pinned : Pinned := { name := "ytgkhkfmlldnogaa", sum := "79acfd03275377d0fed424e51fb4a06c976abb18bdddae5cdb0f2624bd5c83a3", checked := Try.checked }
namespace Rows
def none {H : Type} : Left H := { results := [], args := [] }

/-- 'hypostylelaw.StatsTell': WHATEVER THE INPUT: true; the input reads as it did. -/
def statsTellSpec : ChangeSpec := { name := "statsTell", fn := fun _ => fun
  | [d1, d2, d3] => { results := [.lit (.bool true)], args := [d1, d2, d3] }
  | _ => none }
def statsTellRow : OpenClaim := { program := "ytgkhkfmlldnogaa", sum := "79acfd03275377d0fed424e51fb4a06c976abb18bdddae5cdb0f2624bd5c83a3", func := "hypostyle/hypostylelaw.StatsTell", spec := "statsTell", unfollowed := true, recurses := true, apart := false }
def StatsTellSaid : Prop := statsTellRow.holds Try.pinned (OpenSpec.ofChange statsTellSpec)

/-- ITS FALSE NEIGHBOUR: 'it returns false'. Refute it at one input. -/
def statsTellWrong : ChangeSpec := { name := "statsTell", fn := fun _ => fun
  | [d1, d2, d3] => { results := [.lit (.bool false)], args := [d1, d2, d3] }
  | _ => none }
def StatsTellWrongFalsely : Prop := statsTellRow.holds Try.pinned (OpenSpec.ofChange statsTellWrong)

/-- 'hypostylelaw.StatsMerge': WHATEVER THE INPUT: true; the input reads as it did. -/
def statsMergeSpec : ChangeSpec := { name := "statsMerge", fn := fun _ => fun
  | [d1, d2, d3] => { results := [.lit (.bool true)], args := [d1, d2, d3] }
  | _ => none }
def statsMergeRow : OpenClaim := { program := "ytgkhkfmlldnogaa", sum := "79acfd03275377d0fed424e51fb4a06c976abb18bdddae5cdb0f2624bd5c83a3", func := "hypostyle/hypostylelaw.StatsMerge", spec := "statsMerge", unfollowed := true, recurses := true, apart := false }
def StatsMergeSaid : Prop := statsMergeRow.holds Try.pinned (OpenSpec.ofChange statsMergeSpec)

/-- ITS FALSE NEIGHBOUR: 'it returns false'. Refute it at one input. -/
def statsMergeWrong : ChangeSpec := { name := "statsMerge", fn := fun _ => fun
  | [d1, d2, d3] => { results := [.lit (.bool false)], args := [d1, d2, d3] }
  | _ => none }
def StatsMergeWrongFalsely : Prop := statsMergeRow.holds Try.pinned (OpenSpec.ofChange statsMergeWrong)

/-- 'hypostylelaw.StatsWhole': WHATEVER THE INPUT: true; the input reads as it did. -/
def statsWholeSpec : ChangeSpec := { name := "statsWhole", fn := fun _ => fun
  | [d1, d2, d3] => { results := [.lit (.bool true)], args := [d1, d2, d3] }
  | _ => none }
def statsWholeRow : OpenClaim := { program := "ytgkhkfmlldnogaa", sum := "79acfd03275377d0fed424e51fb4a06c976abb18bdddae5cdb0f2624bd5c83a3", func := "hypostyle/hypostylelaw.StatsWhole", spec := "statsWhole", unfollowed := true, recurses := true, apart := false }
def StatsWholeSaid : Prop := statsWholeRow.holds Try.pinned (OpenSpec.ofChange statsWholeSpec)

/-- ITS FALSE NEIGHBOUR: 'it returns false'. Refute it at one input. -/
def statsWholeWrong : ChangeSpec := { name := "statsWhole", fn := fun _ => fun
  | [d1, d2, d3] => { results := [.lit (.bool false)], args := [d1, d2, d3] }
  | _ => none }
def StatsWholeWrongFalsely : Prop := statsWholeRow.holds Try.pinned (OpenSpec.ofChange statsWholeWrong)

/-- 'hypostylelaw.StatsMonoid': WHATEVER THE INPUT: true; the input reads as it did. -/
def statsMonoidSpec : ChangeSpec := { name := "statsMonoid", fn := fun _ => fun
  | [d1, d2, d3, d4] => { results := [.lit (.bool true)], args := [d1, d2, d3, d4] }
  | _ => none }
def statsMonoidRow : OpenClaim := { program := "ytgkhkfmlldnogaa", sum := "79acfd03275377d0fed424e51fb4a06c976abb18bdddae5cdb0f2624bd5c83a3", func := "hypostyle/hypostylelaw.StatsMonoid", spec := "statsMonoid", unfollowed := true, recurses := true, apart := false }
def StatsMonoidSaid : Prop := statsMonoidRow.holds Try.pinned (OpenSpec.ofChange statsMonoidSpec)

/-- ITS FALSE NEIGHBOUR: 'it returns false'. Refute it at one input. -/
def statsMonoidWrong : ChangeSpec := { name := "statsMonoid", fn := fun _ => fun
  | [d1, d2, d3, d4] => { results := [.lit (.bool false)], args := [d1, d2, d3, d4] }
  | _ => none }
def StatsMonoidWrongFalsely : Prop := statsMonoidRow.holds Try.pinned (OpenSpec.ofChange statsMonoidWrong)

/-- 'hypostylelaw.StatsBound': WHATEVER THE INPUT: true; the input reads as it did. -/
def statsBoundSpec : ChangeSpec := { name := "statsBound", fn := fun _ => fun
  | [d1, d2] => { results := [.lit (.bool true)], args := [d1, d2] }
  | _ => none }
def statsBoundRow : OpenClaim := { program := "ytgkhkfmlldnogaa", sum := "79acfd03275377d0fed424e51fb4a06c976abb18bdddae5cdb0f2624bd5c83a3", func := "hypostyle/hypostylelaw.StatsBound", spec := "statsBound", unfollowed := true, recurses := true, apart := false }
def StatsBoundSaid : Prop := statsBoundRow.holds Try.pinned (OpenSpec.ofChange statsBoundSpec)

/-- ITS FALSE NEIGHBOUR: 'it returns false'. Refute it at one input. -/
def statsBoundWrong : ChangeSpec := { name := "statsBound", fn := fun _ => fun
  | [d1, d2] => { results := [.lit (.bool false)], args := [d1, d2] }
  | _ => none }
def StatsBoundWrongFalsely : Prop := statsBoundRow.holds Try.pinned (OpenSpec.ofChange statsBoundWrong)

/- THE SECOND FORM. 'bulk': how many values and letters a reading holds, each counted each time it is reached (what is shared counts as often as it is met; a slice's spare places count too). A statement '..UptoSaid' is the law's where the arguments, and the package variables that the reading takes, are together of bulk at most 1048576: NARROWER than '..Said'. Prove '..Said' where nothing that the law and all that it calls make is longer than what came in: it says more and counts as full. Else prove '..UptoSaid'. A law counts once. -/
mutual
def uptoBulk {H : Type} : DataW H → Nat
  | .lit (.string bytes) => bytes.length + 1
  | .lit _ => 1
  | .nil => 1
  | .ptr d => uptoBulk d + 1
  | .slice elems spare => uptoBulkAll elems + uptoBulkAll spare + 1
  | .agg parts => uptoBulkAll parts + 1
  | .iface _ d => uptoBulk d + 1
  | .map entries => uptoBulkEntries entries + 1
  | .held _ => 1
def uptoBulkAll {H : Type} : List (DataW H) → Nat
  | [] => 0
  | d :: r => uptoBulk d + uptoBulkAll r
def uptoBulkEntries {H : Type} : List (Lit × DataW H) → Nat
  | [] => 0
  | x :: r => uptoBulkEntry x + uptoBulkEntries r
def uptoBulkEntry {H : Type} : Lit × DataW H → Nat
  | (.string bytes, d) => bytes.length + uptoBulk d + 1
  | (_, d) => uptoBulk d + 1
 end
def uptoSmall : (H : Type) → List (DataW H) → Bool := fun _ ds => decide (uptoBulkAll ds ≤ 1048576)
def OpenSpec.upto (s : _root_.Go.ChangeSpec) : _root_.Go.OpenSpec := { _root_.Go.OpenSpec.ofChange s with cond := some uptoSmall }

/-- 'hypostylelaw.StatsTell', WHERE WHAT IT READS IS OF BULK AT MOST 1048576: true; the input reads as it did. -/
def statsTellUptoRow : OpenClaim := { program := "ytgkhkfmlldnogaa", sum := "79acfd03275377d0fed424e51fb4a06c976abb18bdddae5cdb0f2624bd5c83a3", func := "hypostyle/hypostylelaw.StatsTell", spec := "statsTell", unfollowed := true, recurses := true, apart := false, narrowed := true }
def StatsTellUptoSaid : Prop := statsTellUptoRow.holds Try.pinned (OpenSpec.upto statsTellSpec)

/-- 'hypostylelaw.StatsMerge', WHERE WHAT IT READS IS OF BULK AT MOST 1048576: true; the input reads as it did. -/
def statsMergeUptoRow : OpenClaim := { program := "ytgkhkfmlldnogaa", sum := "79acfd03275377d0fed424e51fb4a06c976abb18bdddae5cdb0f2624bd5c83a3", func := "hypostyle/hypostylelaw.StatsMerge", spec := "statsMerge", unfollowed := true, recurses := true, apart := false, narrowed := true }
def StatsMergeUptoSaid : Prop := statsMergeUptoRow.holds Try.pinned (OpenSpec.upto statsMergeSpec)

/-- 'hypostylelaw.StatsWhole', WHERE WHAT IT READS IS OF BULK AT MOST 1048576: true; the input reads as it did. -/
def statsWholeUptoRow : OpenClaim := { program := "ytgkhkfmlldnogaa", sum := "79acfd03275377d0fed424e51fb4a06c976abb18bdddae5cdb0f2624bd5c83a3", func := "hypostyle/hypostylelaw.StatsWhole", spec := "statsWhole", unfollowed := true, recurses := true, apart := false, narrowed := true }
def StatsWholeUptoSaid : Prop := statsWholeUptoRow.holds Try.pinned (OpenSpec.upto statsWholeSpec)

/-- 'hypostylelaw.StatsMonoid', WHERE WHAT IT READS IS OF BULK AT MOST 1048576: true; the input reads as it did. -/
def statsMonoidUptoRow : OpenClaim := { program := "ytgkhkfmlldnogaa", sum := "79acfd03275377d0fed424e51fb4a06c976abb18bdddae5cdb0f2624bd5c83a3", func := "hypostyle/hypostylelaw.StatsMonoid", spec := "statsMonoid", unfollowed := true, recurses := true, apart := false, narrowed := true }
def StatsMonoidUptoSaid : Prop := statsMonoidUptoRow.holds Try.pinned (OpenSpec.upto statsMonoidSpec)

/-- 'hypostylelaw.StatsBound', WHERE WHAT IT READS IS OF BULK AT MOST 1048576: true; the input reads as it did. -/
def statsBoundUptoRow : OpenClaim := { program := "ytgkhkfmlldnogaa", sum := "79acfd03275377d0fed424e51fb4a06c976abb18bdddae5cdb0f2624bd5c83a3", func := "hypostyle/hypostylelaw.StatsBound", spec := "statsBound", unfollowed := true, recurses := true, apart := false, narrowed := true }
def StatsBoundUptoSaid : Prop := statsBoundUptoRow.holds Try.pinned (OpenSpec.upto statsBoundSpec)

end Rows
end Go.Proofs.Ytgkhkfmlldnogaa
