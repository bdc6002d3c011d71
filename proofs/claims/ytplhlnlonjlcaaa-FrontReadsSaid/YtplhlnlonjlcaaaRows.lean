/-
  No cell of these rows narrows 'for every input' (looked for: loops, veiled, ifaces, maps, wideKeys, modest, calm, conditions, laid).
  DERIVED. THE GIVEN ROWS OF THIS SEAT. 7 by the template 'for every input the law returns true; each argument reads behind the call as it read before'; 0 by the template 'total and deterministic' (their statements: YtplhlnlonjlcaaaTotals.lean).
  GIVEN WITH THE SEED: the statements are not yours to turn. If you find one false, say at which input.
  Laid BY PROGRAM, IN A SANDBOX (cutbox-rows.mjs): the forced cells as the released guide's own fill.sh prints them over the translation f9bc3f62b3a5245b… (all of the seat's roots in one cut). By AI agents, Wed Nov 11 2026. No macro, syntax, notation, axiom, sorry.
-/
import Derived.Test.YtplhlnlonjlcaaaChecked
import GoSem.Claim
import GoSem.ClaimJoined
import GoSem.ClaimMapViews
import Derived.JoinedTies
import Derived.KernelRfl
namespace Go.Proofs.Ytplhlnlonjlcaaa
/- THE CELL 'sum', in the pinned program and in every row, IS THE sha256 OF THE DUMP (.gsa) THAT YtplhlnlonjlcaaaProg.lean LOADS. Nothing in Lean hashes anything: it is a label: what it is worth is what the hold of that sum in a sandbox is worth. -/
noncomputable def Try.pinned : Pinned := { name := "ytplhlnlonjlcaaa", sum := "f9bc3f62b3a5245b5ec7f16a65fd711b31918152aecc5f45b002a81fbceb5ca1", checked := Try.checked }
namespace Rows
def none {H : Type} : Left H := { results := [], args := [] }

/-- 'hypostylelaw.FrontTells': WHATEVER THE INPUT: true; the input reads as it did. -/
def frontTellsSpec : ChangeSpec := { name := "frontTells", fn := fun _ => fun
  | [d1, d2, d3] => { results := [.lit (.bool true)], args := [d1, d2, d3] }
  | _ => none }
def frontTellsRow : OpenClaim := { program := "ytplhlnlonjlcaaa", sum := "f9bc3f62b3a5245b5ec7f16a65fd711b31918152aecc5f45b002a81fbceb5ca1", func := "hypostyle/hypostylelaw.FrontTells", spec := "frontTells", unfollowed := true, recurses := true, apart := false }
def FrontTellsSaid : Prop := frontTellsRow.holds Try.pinned (OpenSpec.ofChange frontTellsSpec)

/-- ITS FALSE NEIGHBOUR: 'it returns false'. Refute it at one input. -/
def frontTellsWrong : ChangeSpec := { name := "frontTells", fn := fun _ => fun
  | [d1, d2, d3] => { results := [.lit (.bool false)], args := [d1, d2, d3] }
  | _ => none }
def FrontTellsWrongFalsely : Prop := frontTellsRow.holds Try.pinned (OpenSpec.ofChange frontTellsWrong)

/-- 'hypostylelaw.FrontReads': WHATEVER THE INPUT: true; the input reads as it did. -/
def frontReadsSpec : ChangeSpec := { name := "frontReads", fn := fun _ => fun
  | [d1, d2] => { results := [.lit (.bool true)], args := [d1, d2] }
  | _ => none }
def frontReadsRow : OpenClaim := { program := "ytplhlnlonjlcaaa", sum := "f9bc3f62b3a5245b5ec7f16a65fd711b31918152aecc5f45b002a81fbceb5ca1", func := "hypostyle/hypostylelaw.FrontReads", spec := "frontReads", unfollowed := true, recurses := true, apart := false }
def FrontReadsSaid : Prop := frontReadsRow.holds Try.pinned (OpenSpec.ofChange frontReadsSpec)

/-- ITS FALSE NEIGHBOUR: 'it returns false'. Refute it at one input. -/
def frontReadsWrong : ChangeSpec := { name := "frontReads", fn := fun _ => fun
  | [d1, d2] => { results := [.lit (.bool false)], args := [d1, d2] }
  | _ => none }
def FrontReadsWrongFalsely : Prop := frontReadsRow.holds Try.pinned (OpenSpec.ofChange frontReadsWrong)

/-- 'hypostylelaw.FrontBack': WHATEVER THE INPUT: true; the input reads as it did. -/
def frontBackSpec : ChangeSpec := { name := "frontBack", fn := fun _ => fun
  | [d] => { results := [.lit (.bool true)], args := [d] }
  | _ => none }
def frontBackRow : OpenClaim := { program := "ytplhlnlonjlcaaa", sum := "f9bc3f62b3a5245b5ec7f16a65fd711b31918152aecc5f45b002a81fbceb5ca1", func := "hypostyle/hypostylelaw.FrontBack", spec := "frontBack", unfollowed := true, recurses := true, apart := false }
def FrontBackSaid : Prop := frontBackRow.holds Try.pinned (OpenSpec.ofChange frontBackSpec)

/-- ITS FALSE NEIGHBOUR: 'it returns false'. Refute it at one input. -/
def frontBackWrong : ChangeSpec := { name := "frontBack", fn := fun _ => fun
  | [d] => { results := [.lit (.bool false)], args := [d] }
  | _ => none }
def FrontBackWrongFalsely : Prop := frontBackRow.holds Try.pinned (OpenSpec.ofChange frontBackWrong)

/-- 'hypostylelaw.FrontOnly': WHATEVER THE INPUT: true; the input reads as it did. -/
def frontOnlySpec : ChangeSpec := { name := "frontOnly", fn := fun _ => fun
  | [d1, d2] => { results := [.lit (.bool true)], args := [d1, d2] }
  | _ => none }
def frontOnlyRow : OpenClaim := { program := "ytplhlnlonjlcaaa", sum := "f9bc3f62b3a5245b5ec7f16a65fd711b31918152aecc5f45b002a81fbceb5ca1", func := "hypostyle/hypostylelaw.FrontOnly", spec := "frontOnly", unfollowed := true, recurses := true, apart := false }
def FrontOnlySaid : Prop := frontOnlyRow.holds Try.pinned (OpenSpec.ofChange frontOnlySpec)

/-- ITS FALSE NEIGHBOUR: 'it returns false'. Refute it at one input. -/
def frontOnlyWrong : ChangeSpec := { name := "frontOnly", fn := fun _ => fun
  | [d1, d2] => { results := [.lit (.bool false)], args := [d1, d2] }
  | _ => none }
def FrontOnlyWrongFalsely : Prop := frontOnlyRow.holds Try.pinned (OpenSpec.ofChange frontOnlyWrong)

/-- 'hypostylelaw.SharedUltra': WHATEVER THE INPUT: true; the input reads as it did. -/
def sharedUltraSpec : ChangeSpec := { name := "sharedUltra", fn := fun _ => fun
  | [d1, d2, d3] => { results := [.lit (.bool true)], args := [d1, d2, d3] }
  | _ => none }
def sharedUltraRow : OpenClaim := { program := "ytplhlnlonjlcaaa", sum := "f9bc3f62b3a5245b5ec7f16a65fd711b31918152aecc5f45b002a81fbceb5ca1", func := "hypostyle/hypostylelaw.SharedUltra", spec := "sharedUltra", unfollowed := true, recurses := true, apart := false }
def SharedUltraSaid : Prop := sharedUltraRow.holds Try.pinned (OpenSpec.ofChange sharedUltraSpec)

/-- ITS FALSE NEIGHBOUR: 'it returns false'. Refute it at one input. -/
def sharedUltraWrong : ChangeSpec := { name := "sharedUltra", fn := fun _ => fun
  | [d1, d2, d3] => { results := [.lit (.bool false)], args := [d1, d2, d3] }
  | _ => none }
def SharedUltraWrongFalsely : Prop := sharedUltraRow.holds Try.pinned (OpenSpec.ofChange sharedUltraWrong)

/-- 'hypostylelaw.SharedRises': WHATEVER THE INPUT: true; the input reads as it did. -/
def sharedRisesSpec : ChangeSpec := { name := "sharedRises", fn := fun _ => fun
  | [d1, d2, d3] => { results := [.lit (.bool true)], args := [d1, d2, d3] }
  | _ => none }
def sharedRisesRow : OpenClaim := { program := "ytplhlnlonjlcaaa", sum := "f9bc3f62b3a5245b5ec7f16a65fd711b31918152aecc5f45b002a81fbceb5ca1", func := "hypostyle/hypostylelaw.SharedRises", spec := "sharedRises", unfollowed := true, recurses := true, apart := false }
def SharedRisesSaid : Prop := sharedRisesRow.holds Try.pinned (OpenSpec.ofChange sharedRisesSpec)

/-- ITS FALSE NEIGHBOUR: 'it returns false'. Refute it at one input. -/
def sharedRisesWrong : ChangeSpec := { name := "sharedRises", fn := fun _ => fun
  | [d1, d2, d3] => { results := [.lit (.bool false)], args := [d1, d2, d3] }
  | _ => none }
def SharedRisesWrongFalsely : Prop := sharedRisesRow.holds Try.pinned (OpenSpec.ofChange sharedRisesWrong)

/-- 'hypostylelaw.FrontShort': WHATEVER THE INPUT: true; the input reads as it did. -/
def frontShortSpec : ChangeSpec := { name := "frontShort", fn := fun _ => fun
  | [d] => { results := [.lit (.bool true)], args := [d] }
  | _ => none }
def frontShortRow : OpenClaim := { program := "ytplhlnlonjlcaaa", sum := "f9bc3f62b3a5245b5ec7f16a65fd711b31918152aecc5f45b002a81fbceb5ca1", func := "hypostyle/hypostylelaw.FrontShort", spec := "frontShort", unfollowed := true, recurses := true, apart := false }
def FrontShortSaid : Prop := frontShortRow.holds Try.pinned (OpenSpec.ofChange frontShortSpec)

/-- ITS FALSE NEIGHBOUR: 'it returns false'. Refute it at one input. -/
def frontShortWrong : ChangeSpec := { name := "frontShort", fn := fun _ => fun
  | [d] => { results := [.lit (.bool false)], args := [d] }
  | _ => none }
def FrontShortWrongFalsely : Prop := frontShortRow.holds Try.pinned (OpenSpec.ofChange frontShortWrong)

/- THE SECOND FORM. 'bulk': how many values and letters a reading holds, each counted each time it is reached (what is shared counts as often as it is met; a slice's spare places count too). A statement '..UptoSaid' is the law's where the arguments, and the package variables that the reading takes, are together of bulk at most 1048576: NARROWER than '..Said'. Prove '..Said' where nothing that the law and all that it calls make is longer than what came in: it says more and counts as full. Else prove '..UptoSaid'. A law counts once. -/
mutual
def uptoBulk {H : Type} : DataW H → Nat
  | .lit (.string bytes) => bytes.length + 1
  | .lit _ => 1
  | .nil => 1
  | .ptr d => uptoBulk d + 1
  | .slice elems spare => uptoBulkAll elems + uptoBulkAll spare + 1
  | .agg parts => uptoBulkAll parts + 1
  | .iface _ d => uptoBulk d + 1
  | .map entries => uptoBulkEntries entries + 1
  | .held _ => 1
def uptoBulkAll {H : Type} : List (DataW H) → Nat
  | [] => 0
  | d :: r => uptoBulk d + uptoBulkAll r
def uptoBulkEntries {H : Type} : List (Lit × DataW H) → Nat
  | [] => 0
  | x :: r => uptoBulkEntry x + uptoBulkEntries r
def uptoBulkEntry {H : Type} : Lit × DataW H → Nat
  | (.string bytes, d) => bytes.length + uptoBulk d + 1
  | (_, d) => uptoBulk d + 1
 end
def uptoSmall : (H : Type) → List (DataW H) → Bool := fun _ ds => decide (uptoBulkAll ds ≤ 1048576)
def OpenSpec.upto (s : _root_.Go.ChangeSpec) : _root_.Go.OpenSpec := { _root_.Go.OpenSpec.ofChange s with cond := some uptoSmall }

/-- 'hypostylelaw.FrontTells', WHERE WHAT IT READS IS OF BULK AT MOST 1048576: true; the input reads as it did. -/
def frontTellsUptoRow : OpenClaim := { program := "ytplhlnlonjlcaaa", sum := "f9bc3f62b3a5245b5ec7f16a65fd711b31918152aecc5f45b002a81fbceb5ca1", func := "hypostyle/hypostylelaw.FrontTells", spec := "frontTells", unfollowed := true, recurses := true, apart := false, narrowed := true }
def FrontTellsUptoSaid : Prop := frontTellsUptoRow.holds Try.pinned (OpenSpec.upto frontTellsSpec)

/-- 'hypostylelaw.FrontReads', WHERE WHAT IT READS IS OF BULK AT MOST 1048576: true; the input reads as it did. -/
def frontReadsUptoRow : OpenClaim := { program := "ytplhlnlonjlcaaa", sum := "f9bc3f62b3a5245b5ec7f16a65fd711b31918152aecc5f45b002a81fbceb5ca1", func := "hypostyle/hypostylelaw.FrontReads", spec := "frontReads", unfollowed := true, recurses := true, apart := false, narrowed := true }
def FrontReadsUptoSaid : Prop := frontReadsUptoRow.holds Try.pinned (OpenSpec.upto frontReadsSpec)

/-- 'hypostylelaw.FrontBack', WHERE WHAT IT READS IS OF BULK AT MOST 1048576: true; the input reads as it did. -/
def frontBackUptoRow : OpenClaim := { program := "ytplhlnlonjlcaaa", sum := "f9bc3f62b3a5245b5ec7f16a65fd711b31918152aecc5f45b002a81fbceb5ca1", func := "hypostyle/hypostylelaw.FrontBack", spec := "frontBack", unfollowed := true, recurses := true, apart := false, narrowed := true }
def FrontBackUptoSaid : Prop := frontBackUptoRow.holds Try.pinned (OpenSpec.upto frontBackSpec)

/-- 'hypostylelaw.FrontOnly', WHERE WHAT IT READS IS OF BULK AT MOST 1048576: true; the input reads as it did. -/
def frontOnlyUptoRow : OpenClaim := { program := "ytplhlnlonjlcaaa", sum := "f9bc3f62b3a5245b5ec7f16a65fd711b31918152aecc5f45b002a81fbceb5ca1", func := "hypostyle/hypostylelaw.FrontOnly", spec := "frontOnly", unfollowed := true, recurses := true, apart := false, narrowed := true }
def FrontOnlyUptoSaid : Prop := frontOnlyUptoRow.holds Try.pinned (OpenSpec.upto frontOnlySpec)

/-- 'hypostylelaw.SharedUltra', WHERE WHAT IT READS IS OF BULK AT MOST 1048576: true; the input reads as it did. -/
def sharedUltraUptoRow : OpenClaim := { program := "ytplhlnlonjlcaaa", sum := "f9bc3f62b3a5245b5ec7f16a65fd711b31918152aecc5f45b002a81fbceb5ca1", func := "hypostyle/hypostylelaw.SharedUltra", spec := "sharedUltra", unfollowed := true, recurses := true, apart := false, narrowed := true }
def SharedUltraUptoSaid : Prop := sharedUltraUptoRow.holds Try.pinned (OpenSpec.upto sharedUltraSpec)

/-- 'hypostylelaw.SharedRises', WHERE WHAT IT READS IS OF BULK AT MOST 1048576: true; the input reads as it did. -/
def sharedRisesUptoRow : OpenClaim := { program := "ytplhlnlonjlcaaa", sum := "f9bc3f62b3a5245b5ec7f16a65fd711b31918152aecc5f45b002a81fbceb5ca1", func := "hypostyle/hypostylelaw.SharedRises", spec := "sharedRises", unfollowed := true, recurses := true, apart := false, narrowed := true }
def SharedRisesUptoSaid : Prop := sharedRisesUptoRow.holds Try.pinned (OpenSpec.upto sharedRisesSpec)

/-- 'hypostylelaw.FrontShort', WHERE WHAT IT READS IS OF BULK AT MOST 1048576: true; the input reads as it did. -/
def frontShortUptoRow : OpenClaim := { program := "ytplhlnlonjlcaaa", sum := "f9bc3f62b3a5245b5ec7f16a65fd711b31918152aecc5f45b002a81fbceb5ca1", func := "hypostyle/hypostylelaw.FrontShort", spec := "frontShort", unfollowed := true, recurses := true, apart := false, narrowed := true }
def FrontShortUptoSaid : Prop := frontShortUptoRow.holds Try.pinned (OpenSpec.upto frontShortSpec)

end Rows
end Go.Proofs.Ytplhlnlonjlcaaa
