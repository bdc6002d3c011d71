/-
  No cell of these rows narrows 'for every input' (looked for: loops, veiled, ifaces, maps, wideKeys, modest, calm, conditions, laid).
  DERIVED. THE GIVEN ROWS OF THIS SEAT. 8 by the template 'for every input the law returns true; each argument reads behind the call as it read before'; 0 by the template 'total and deterministic' (their statements: YtjfkoledbegpfaaTotals.lean).
  GIVEN WITH THE SEED: the statements are not yours to turn. If you find one false, say at which input.
  Laid BY PROGRAM, IN A SANDBOX (cutbox-rows.mjs): the forced cells as the released guide's own fill.sh prints them over the translation f513bfa0fe16c836… (all of the seat's roots in one cut). By AI agents, Wed Nov 11 2026. No macro, syntax, notation, axiom, sorry.
-/
import Derived.Test.YtjfkoledbegpfaaChecked
import GoSem.Claim
import GoSem.ClaimJoined
import GoSem.ClaimMapViews
import Derived.JoinedTies
import Derived.KernelRfl
namespace Go.Proofs.Ytjfkoledbegpfaa
/- THE CELL 'sum', in the pinned program and in every row, IS THE sha256 OF THE DUMP (.gsa) THAT YtjfkoledbegpfaaProg.lean LOADS. Nothing in Lean hashes anything: it is a label: what it is worth is what the hold of that sum in a sandbox is worth. -/
noncomputable def Try.pinned : Pinned := { name := "ytjfkoledbegpfaa", sum := "f513bfa0fe16c836571b5991aab0830c15f92309fa074bf82c0ff7d668cf17a0", checked := Try.checked }
namespace Rows
def none {H : Type} : Left H := { results := [], args := [] }

/-- 'hypostylelaw.ShredTells': WHATEVER THE INPUT: true; the input reads as it did. -/
def shredTellsSpec : ChangeSpec := { name := "shredTells", fn := fun _ => fun
  | [d1, d2] => { results := [.lit (.bool true)], args := [d1, d2] }
  | _ => none }
def shredTellsRow : OpenClaim := { program := "ytjfkoledbegpfaa", sum := "f513bfa0fe16c836571b5991aab0830c15f92309fa074bf82c0ff7d668cf17a0", func := "hypostyle/hypostylelaw.ShredTells", spec := "shredTells", unfollowed := true, recurses := true, apart := false }
def ShredTellsSaid : Prop := shredTellsRow.holds Try.pinned (OpenSpec.ofChange shredTellsSpec)

/-- ITS FALSE NEIGHBOUR: 'it returns false'. Refute it at one input. -/
def shredTellsWrong : ChangeSpec := { name := "shredTells", fn := fun _ => fun
  | [d1, d2] => { results := [.lit (.bool false)], args := [d1, d2] }
  | _ => none }
def ShredTellsWrongFalsely : Prop := shredTellsRow.holds Try.pinned (OpenSpec.ofChange shredTellsWrong)

/-- 'hypostylelaw.ShredJoins': WHATEVER THE INPUT: true; the input reads as it did. -/
def shredJoinsSpec : ChangeSpec := { name := "shredJoins", fn := fun _ => fun
  | [d1, d2] => { results := [.lit (.bool true)], args := [d1, d2] }
  | _ => none }
def shredJoinsRow : OpenClaim := { program := "ytjfkoledbegpfaa", sum := "f513bfa0fe16c836571b5991aab0830c15f92309fa074bf82c0ff7d668cf17a0", func := "hypostyle/hypostylelaw.ShredJoins", spec := "shredJoins", unfollowed := true, recurses := true, apart := false }
def ShredJoinsSaid : Prop := shredJoinsRow.holds Try.pinned (OpenSpec.ofChange shredJoinsSpec)

/-- ITS FALSE NEIGHBOUR: 'it returns false'. Refute it at one input. -/
def shredJoinsWrong : ChangeSpec := { name := "shredJoins", fn := fun _ => fun
  | [d1, d2] => { results := [.lit (.bool false)], args := [d1, d2] }
  | _ => none }
def ShredJoinsWrongFalsely : Prop := shredJoinsRow.holds Try.pinned (OpenSpec.ofChange shredJoinsWrong)

/-- 'hypostylelaw.ShredBack': WHATEVER THE INPUT: true; the input reads as it did. -/
def shredBackSpec : ChangeSpec := { name := "shredBack", fn := fun _ => fun
  | [d1, d2] => { results := [.lit (.bool true)], args := [d1, d2] }
  | _ => none }
def shredBackRow : OpenClaim := { program := "ytjfkoledbegpfaa", sum := "f513bfa0fe16c836571b5991aab0830c15f92309fa074bf82c0ff7d668cf17a0", func := "hypostyle/hypostylelaw.ShredBack", spec := "shredBack", unfollowed := true, recurses := true, apart := false }
def ShredBackSaid : Prop := shredBackRow.holds Try.pinned (OpenSpec.ofChange shredBackSpec)

/-- ITS FALSE NEIGHBOUR: 'it returns false'. Refute it at one input. -/
def shredBackWrong : ChangeSpec := { name := "shredBack", fn := fun _ => fun
  | [d1, d2] => { results := [.lit (.bool false)], args := [d1, d2] }
  | _ => none }
def ShredBackWrongFalsely : Prop := shredBackRow.holds Try.pinned (OpenSpec.ofChange shredBackWrong)

/-- 'hypostylelaw.ShredOnly': WHATEVER THE INPUT: true; the input reads as it did. -/
def shredOnlySpec : ChangeSpec := { name := "shredOnly", fn := fun _ => fun
  | [d1, d2] => { results := [.lit (.bool true)], args := [d1, d2] }
  | _ => none }
def shredOnlyRow : OpenClaim := { program := "ytjfkoledbegpfaa", sum := "f513bfa0fe16c836571b5991aab0830c15f92309fa074bf82c0ff7d668cf17a0", func := "hypostyle/hypostylelaw.ShredOnly", spec := "shredOnly", unfollowed := true, recurses := true, apart := false }
def ShredOnlySaid : Prop := shredOnlyRow.holds Try.pinned (OpenSpec.ofChange shredOnlySpec)

/-- ITS FALSE NEIGHBOUR: 'it returns false'. Refute it at one input. -/
def shredOnlyWrong : ChangeSpec := { name := "shredOnly", fn := fun _ => fun
  | [d1, d2] => { results := [.lit (.bool false)], args := [d1, d2] }
  | _ => none }
def ShredOnlyWrongFalsely : Prop := shredOnlyRow.holds Try.pinned (OpenSpec.ofChange shredOnlyWrong)

/-- 'hypostylelaw.ShredStarts': WHATEVER THE INPUT: true; the input reads as it did. -/
def shredStartsSpec : ChangeSpec := { name := "shredStarts", fn := fun _ => fun
  | [d1, d2] => { results := [.lit (.bool true)], args := [d1, d2] }
  | _ => none }
def shredStartsRow : OpenClaim := { program := "ytjfkoledbegpfaa", sum := "f513bfa0fe16c836571b5991aab0830c15f92309fa074bf82c0ff7d668cf17a0", func := "hypostyle/hypostylelaw.ShredStarts", spec := "shredStarts", unfollowed := true, recurses := true, apart := false }
def ShredStartsSaid : Prop := shredStartsRow.holds Try.pinned (OpenSpec.ofChange shredStartsSpec)

/-- ITS FALSE NEIGHBOUR: 'it returns false'. Refute it at one input. -/
def shredStartsWrong : ChangeSpec := { name := "shredStarts", fn := fun _ => fun
  | [d1, d2] => { results := [.lit (.bool false)], args := [d1, d2] }
  | _ => none }
def ShredStartsWrongFalsely : Prop := shredStartsRow.holds Try.pinned (OpenSpec.ofChange shredStartsWrong)

/-- 'hypostylelaw.ShredParts': WHATEVER THE INPUT: true; the input reads as it did. -/
def shredPartsSpec : ChangeSpec := { name := "shredParts", fn := fun _ => fun
  | [d1, d2, d3] => { results := [.lit (.bool true)], args := [d1, d2, d3] }
  | _ => none }
def shredPartsRow : OpenClaim := { program := "ytjfkoledbegpfaa", sum := "f513bfa0fe16c836571b5991aab0830c15f92309fa074bf82c0ff7d668cf17a0", func := "hypostyle/hypostylelaw.ShredParts", spec := "shredParts", unfollowed := true, recurses := true, apart := false }
def ShredPartsSaid : Prop := shredPartsRow.holds Try.pinned (OpenSpec.ofChange shredPartsSpec)

/-- ITS FALSE NEIGHBOUR: 'it returns false'. Refute it at one input. -/
def shredPartsWrong : ChangeSpec := { name := "shredParts", fn := fun _ => fun
  | [d1, d2, d3] => { results := [.lit (.bool false)], args := [d1, d2, d3] }
  | _ => none }
def ShredPartsWrongFalsely : Prop := shredPartsRow.holds Try.pinned (OpenSpec.ofChange shredPartsWrong)

/-- 'hypostylelaw.ShredLevels': WHATEVER THE INPUT: true; the input reads as it did. -/
def shredLevelsSpec : ChangeSpec := { name := "shredLevels", fn := fun _ => fun
  | [d1, d2] => { results := [.lit (.bool true)], args := [d1, d2] }
  | _ => none }
def shredLevelsRow : OpenClaim := { program := "ytjfkoledbegpfaa", sum := "f513bfa0fe16c836571b5991aab0830c15f92309fa074bf82c0ff7d668cf17a0", func := "hypostyle/hypostylelaw.ShredLevels", spec := "shredLevels", unfollowed := true, recurses := true, apart := false }
def ShredLevelsSaid : Prop := shredLevelsRow.holds Try.pinned (OpenSpec.ofChange shredLevelsSpec)

/-- ITS FALSE NEIGHBOUR: 'it returns false'. Refute it at one input. -/
def shredLevelsWrong : ChangeSpec := { name := "shredLevels", fn := fun _ => fun
  | [d1, d2] => { results := [.lit (.bool false)], args := [d1, d2] }
  | _ => none }
def ShredLevelsWrongFalsely : Prop := shredLevelsRow.holds Try.pinned (OpenSpec.ofChange shredLevelsWrong)

/-- 'hypostylelaw.RestRecords': WHATEVER THE INPUT: true; the input reads as it did. -/
def restRecordsSpec : ChangeSpec := { name := "restRecords", fn := fun _ => fun
  | [d1, d2] => { results := [.lit (.bool true)], args := [d1, d2] }
  | _ => none }
def restRecordsRow : OpenClaim := { program := "ytjfkoledbegpfaa", sum := "f513bfa0fe16c836571b5991aab0830c15f92309fa074bf82c0ff7d668cf17a0", func := "hypostyle/hypostylelaw.RestRecords", spec := "restRecords", unfollowed := true, recurses := true, apart := false }
def RestRecordsSaid : Prop := restRecordsRow.holds Try.pinned (OpenSpec.ofChange restRecordsSpec)

/-- ITS FALSE NEIGHBOUR: 'it returns false'. Refute it at one input. -/
def restRecordsWrong : ChangeSpec := { name := "restRecords", fn := fun _ => fun
  | [d1, d2] => { results := [.lit (.bool false)], args := [d1, d2] }
  | _ => none }
def RestRecordsWrongFalsely : Prop := restRecordsRow.holds Try.pinned (OpenSpec.ofChange restRecordsWrong)

/- THE SECOND FORM. 'bulk': how many values and letters a reading holds, each counted each time it is reached (what is shared counts as often as it is met; a slice's spare places count too). A statement '..UptoSaid' is the law's where the arguments, and the package variables that the reading takes, are together of bulk at most 1048576: NARROWER than '..Said'. Prove '..Said' where nothing that the law and all that it calls make is longer than what came in: it says more and counts as full. Else prove '..UptoSaid'. A law counts once. -/
mutual
def uptoBulk {H : Type} : DataW H → Nat
  | .lit (.string bytes) => bytes.length + 1
  | .lit _ => 1
  | .nil => 1
  | .ptr d => uptoBulk d + 1
  | .slice elems spare => uptoBulkAll elems + uptoBulkAll spare + 1
  | .agg parts => uptoBulkAll parts + 1
  | .iface _ d => uptoBulk d + 1
  | .map entries => uptoBulkEntries entries + 1
  | .held _ => 1
def uptoBulkAll {H : Type} : List (DataW H) → Nat
  | [] => 0
  | d :: r => uptoBulk d + uptoBulkAll r
def uptoBulkEntries {H : Type} : List (Lit × DataW H) → Nat
  | [] => 0
  | x :: r => uptoBulkEntry x + uptoBulkEntries r
def uptoBulkEntry {H : Type} : Lit × DataW H → Nat
  | (.string bytes, d) => bytes.length + uptoBulk d + 1
  | (_, d) => uptoBulk d + 1
 end
def uptoSmall : (H : Type) → List (DataW H) → Bool := fun _ ds => decide (uptoBulkAll ds ≤ 1048576)
def OpenSpec.upto (s : _root_.Go.ChangeSpec) : _root_.Go.OpenSpec := { _root_.Go.OpenSpec.ofChange s with cond := some uptoSmall }

/-- 'hypostylelaw.ShredTells', WHERE WHAT IT READS IS OF BULK AT MOST 1048576: true; the input reads as it did. -/
def shredTellsUptoRow : OpenClaim := { program := "ytjfkoledbegpfaa", sum := "f513bfa0fe16c836571b5991aab0830c15f92309fa074bf82c0ff7d668cf17a0", func := "hypostyle/hypostylelaw.ShredTells", spec := "shredTells", unfollowed := true, recurses := true, apart := false, narrowed := true }
def ShredTellsUptoSaid : Prop := shredTellsUptoRow.holds Try.pinned (OpenSpec.upto shredTellsSpec)

/-- 'hypostylelaw.ShredJoins', WHERE WHAT IT READS IS OF BULK AT MOST 1048576: true; the input reads as it did. -/
def shredJoinsUptoRow : OpenClaim := { program := "ytjfkoledbegpfaa", sum := "f513bfa0fe16c836571b5991aab0830c15f92309fa074bf82c0ff7d668cf17a0", func := "hypostyle/hypostylelaw.ShredJoins", spec := "shredJoins", unfollowed := true, recurses := true, apart := false, narrowed := true }
def ShredJoinsUptoSaid : Prop := shredJoinsUptoRow.holds Try.pinned (OpenSpec.upto shredJoinsSpec)

/-- 'hypostylelaw.ShredBack', WHERE WHAT IT READS IS OF BULK AT MOST 1048576: true; the input reads as it did. -/
def shredBackUptoRow : OpenClaim := { program := "ytjfkoledbegpfaa", sum := "f513bfa0fe16c836571b5991aab0830c15f92309fa074bf82c0ff7d668cf17a0", func := "hypostyle/hypostylelaw.ShredBack", spec := "shredBack", unfollowed := true, recurses := true, apart := false, narrowed := true }
def ShredBackUptoSaid : Prop := shredBackUptoRow.holds Try.pinned (OpenSpec.upto shredBackSpec)

/-- 'hypostylelaw.ShredOnly', WHERE WHAT IT READS IS OF BULK AT MOST 1048576: true; the input reads as it did. -/
def shredOnlyUptoRow : OpenClaim := { program := "ytjfkoledbegpfaa", sum := "f513bfa0fe16c836571b5991aab0830c15f92309fa074bf82c0ff7d668cf17a0", func := "hypostyle/hypostylelaw.ShredOnly", spec := "shredOnly", unfollowed := true, recurses := true, apart := false, narrowed := true }
def ShredOnlyUptoSaid : Prop := shredOnlyUptoRow.holds Try.pinned (OpenSpec.upto shredOnlySpec)

/-- 'hypostylelaw.ShredStarts', WHERE WHAT IT READS IS OF BULK AT MOST 1048576: true; the input reads as it did. -/
def shredStartsUptoRow : OpenClaim := { program := "ytjfkoledbegpfaa", sum := "f513bfa0fe16c836571b5991aab0830c15f92309fa074bf82c0ff7d668cf17a0", func := "hypostyle/hypostylelaw.ShredStarts", spec := "shredStarts", unfollowed := true, recurses := true, apart := false, narrowed := true }
def ShredStartsUptoSaid : Prop := shredStartsUptoRow.holds Try.pinned (OpenSpec.upto shredStartsSpec)

/-- 'hypostylelaw.ShredParts', WHERE WHAT IT READS IS OF BULK AT MOST 1048576: true; the input reads as it did. -/
def shredPartsUptoRow : OpenClaim := { program := "ytjfkoledbegpfaa", sum := "f513bfa0fe16c836571b5991aab0830c15f92309fa074bf82c0ff7d668cf17a0", func := "hypostyle/hypostylelaw.ShredParts", spec := "shredParts", unfollowed := true, recurses := true, apart := false, narrowed := true }
def ShredPartsUptoSaid : Prop := shredPartsUptoRow.holds Try.pinned (OpenSpec.upto shredPartsSpec)

/-- 'hypostylelaw.ShredLevels', WHERE WHAT IT READS IS OF BULK AT MOST 1048576: true; the input reads as it did. -/
def shredLevelsUptoRow : OpenClaim := { program := "ytjfkoledbegpfaa", sum := "f513bfa0fe16c836571b5991aab0830c15f92309fa074bf82c0ff7d668cf17a0", func := "hypostyle/hypostylelaw.ShredLevels", spec := "shredLevels", unfollowed := true, recurses := true, apart := false, narrowed := true }
def ShredLevelsUptoSaid : Prop := shredLevelsUptoRow.holds Try.pinned (OpenSpec.upto shredLevelsSpec)

/-- 'hypostylelaw.RestRecords', WHERE WHAT IT READS IS OF BULK AT MOST 1048576: true; the input reads as it did. -/
def restRecordsUptoRow : OpenClaim := { program := "ytjfkoledbegpfaa", sum := "f513bfa0fe16c836571b5991aab0830c15f92309fa074bf82c0ff7d668cf17a0", func := "hypostyle/hypostylelaw.RestRecords", spec := "restRecords", unfollowed := true, recurses := true, apart := false, narrowed := true }
def RestRecordsUptoSaid : Prop := restRecordsUptoRow.holds Try.pinned (OpenSpec.upto restRecordsSpec)

end Rows
end Go.Proofs.Ytjfkoledbegpfaa
