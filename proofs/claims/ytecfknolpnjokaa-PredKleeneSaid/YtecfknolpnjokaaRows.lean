/-
  No cell of these rows narrows 'for every input' (looked for: loops, veiled, ifaces, maps, wideKeys, modest, calm, conditions, laid).
  DERIVED. THE GIVEN ROWS OF THIS SEAT. 5 by the template 'for every input the law returns true; each argument reads behind the call as it read before'; 0 by the template 'total and deterministic' (their statements: YtecfknolpnjokaaTotals.lean).
  GIVEN WITH THE SEED: the statements are not yours to turn. If you find one false, say at which input.
  Laid BY PROGRAM, IN A SANDBOX (cutbox-rows.mjs): the forced cells as the released guide's own fill.sh prints them over the translation 4725d4dab8e030f6… (all of the seat's roots in one cut). By AI agents, Wed Nov 11 2026. No macro, syntax, notation, axiom, sorry.
-/
import Derived.Test.YtecfknolpnjokaaChecked
import GoSem.Claim
import GoSem.ClaimJoined
import GoSem.ClaimMapViews
import Derived.JoinedTies
import Derived.KernelRfl
namespace Go.Proofs.Ytecfknolpnjokaa
/- THE CELL 'sum', in the pinned program and in every row, IS THE sha256 OF THE DUMP (.gsa) THAT YtecfknolpnjokaaProg.lean LOADS. Nothing in Lean hashes anything: it is a label: what it is worth is what the hold of that sum in a sandbox is worth. -/
noncomputable def Try.pinned : Pinned := { name := "ytecfknolpnjokaa", sum := "4725d4dab8e030f6476846edba609875dcb77ebe0d276b92ca16da79b2aa0a33", checked := Try.checked }
namespace Rows
def none {H : Type} : Left H := { results := [], args := [] }

/-- 'hypostylelaw.PredTells': WHATEVER THE INPUT: true; the input reads as it did. -/
def predTellsSpec : ChangeSpec := { name := "predTells", fn := fun _ => fun
  | [d1, d2, d3] => { results := [.lit (.bool true)], args := [d1, d2, d3] }
  | _ => none }
def predTellsRow : OpenClaim := { program := "ytecfknolpnjokaa", sum := "4725d4dab8e030f6476846edba609875dcb77ebe0d276b92ca16da79b2aa0a33", func := "hypostyle/hypostylelaw.PredTells", spec := "predTells", unfollowed := true, recurses := true, apart := false }
def PredTellsSaid : Prop := predTellsRow.holds Try.pinned (OpenSpec.ofChange predTellsSpec)

/-- ITS FALSE NEIGHBOUR: 'it returns false'. Refute it at one input. -/
def predTellsWrong : ChangeSpec := { name := "predTells", fn := fun _ => fun
  | [d1, d2, d3] => { results := [.lit (.bool false)], args := [d1, d2, d3] }
  | _ => none }
def PredTellsWrongFalsely : Prop := predTellsRow.holds Try.pinned (OpenSpec.ofChange predTellsWrong)

/-- 'hypostylelaw.PruneTells': WHATEVER THE INPUT: true; the input reads as it did. -/
def pruneTellsSpec : ChangeSpec := { name := "pruneTells", fn := fun _ => fun
  | [d1, d2, d3, d4] => { results := [.lit (.bool true)], args := [d1, d2, d3, d4] }
  | _ => none }
def pruneTellsRow : OpenClaim := { program := "ytecfknolpnjokaa", sum := "4725d4dab8e030f6476846edba609875dcb77ebe0d276b92ca16da79b2aa0a33", func := "hypostyle/hypostylelaw.PruneTells", spec := "pruneTells", unfollowed := true, recurses := true, apart := false }
def PruneTellsSaid : Prop := pruneTellsRow.holds Try.pinned (OpenSpec.ofChange pruneTellsSpec)

/-- ITS FALSE NEIGHBOUR: 'it returns false'. Refute it at one input. -/
def pruneTellsWrong : ChangeSpec := { name := "pruneTells", fn := fun _ => fun
  | [d1, d2, d3, d4] => { results := [.lit (.bool false)], args := [d1, d2, d3, d4] }
  | _ => none }
def PruneTellsWrongFalsely : Prop := pruneTellsRow.holds Try.pinned (OpenSpec.ofChange pruneTellsWrong)

/-- 'hypostylelaw.PruneSound': WHATEVER THE INPUT: true; the input reads as it did. -/
def pruneSoundSpec : ChangeSpec := { name := "pruneSound", fn := fun _ => fun
  | [d1, d2, d3] => { results := [.lit (.bool true)], args := [d1, d2, d3] }
  | _ => none }
def pruneSoundRow : OpenClaim := { program := "ytecfknolpnjokaa", sum := "4725d4dab8e030f6476846edba609875dcb77ebe0d276b92ca16da79b2aa0a33", func := "hypostyle/hypostylelaw.PruneSound", spec := "pruneSound", unfollowed := true, recurses := true, apart := false }
def PruneSoundSaid : Prop := pruneSoundRow.holds Try.pinned (OpenSpec.ofChange pruneSoundSpec)

/-- ITS FALSE NEIGHBOUR: 'it returns false'. Refute it at one input. -/
def pruneSoundWrong : ChangeSpec := { name := "pruneSound", fn := fun _ => fun
  | [d1, d2, d3] => { results := [.lit (.bool false)], args := [d1, d2, d3] }
  | _ => none }
def PruneSoundWrongFalsely : Prop := pruneSoundRow.holds Try.pinned (OpenSpec.ofChange pruneSoundWrong)

/-- 'hypostylelaw.PruneMore': WHATEVER THE INPUT: true; the input reads as it did. -/
def pruneMoreSpec : ChangeSpec := { name := "pruneMore", fn := fun _ => fun
  | [d1, d2, d3, d4] => { results := [.lit (.bool true)], args := [d1, d2, d3, d4] }
  | _ => none }
def pruneMoreRow : OpenClaim := { program := "ytecfknolpnjokaa", sum := "4725d4dab8e030f6476846edba609875dcb77ebe0d276b92ca16da79b2aa0a33", func := "hypostyle/hypostylelaw.PruneMore", spec := "pruneMore", unfollowed := true, recurses := true, apart := false }
def PruneMoreSaid : Prop := pruneMoreRow.holds Try.pinned (OpenSpec.ofChange pruneMoreSpec)

/-- ITS FALSE NEIGHBOUR: 'it returns false'. Refute it at one input. -/
def pruneMoreWrong : ChangeSpec := { name := "pruneMore", fn := fun _ => fun
  | [d1, d2, d3, d4] => { results := [.lit (.bool false)], args := [d1, d2, d3, d4] }
  | _ => none }
def PruneMoreWrongFalsely : Prop := pruneMoreRow.holds Try.pinned (OpenSpec.ofChange pruneMoreWrong)

/-- 'hypostylelaw.PredKleene': WHATEVER THE INPUT: true; the input reads as it did. -/
def predKleeneSpec : ChangeSpec := { name := "predKleene", fn := fun _ => fun
  | [d1, d2, d3, d4, d5, d6] => { results := [.lit (.bool true)], args := [d1, d2, d3, d4, d5, d6] }
  | _ => none }
def predKleeneRow : OpenClaim := { program := "ytecfknolpnjokaa", sum := "4725d4dab8e030f6476846edba609875dcb77ebe0d276b92ca16da79b2aa0a33", func := "hypostyle/hypostylelaw.PredKleene", spec := "predKleene", unfollowed := true, recurses := true, apart := false }
def PredKleeneSaid : Prop := predKleeneRow.holds Try.pinned (OpenSpec.ofChange predKleeneSpec)

/-- ITS FALSE NEIGHBOUR: 'it returns false'. Refute it at one input. -/
def predKleeneWrong : ChangeSpec := { name := "predKleene", fn := fun _ => fun
  | [d1, d2, d3, d4, d5, d6] => { results := [.lit (.bool false)], args := [d1, d2, d3, d4, d5, d6] }
  | _ => none }
def PredKleeneWrongFalsely : Prop := predKleeneRow.holds Try.pinned (OpenSpec.ofChange predKleeneWrong)

/- THE SECOND FORM. 'bulk': how many values and letters a reading holds, each counted each time it is reached (what is shared counts as often as it is met; a slice's spare places count too). A statement '..UptoSaid' is the law's where the arguments, and the package variables that the reading takes, are together of bulk at most 1048576: NARROWER than '..Said'. Prove '..Said' where nothing that the law and all that it calls make is longer than what came in: it says more and counts as full. Else prove '..UptoSaid'. A law counts once. -/
mutual
def uptoBulk {H : Type} : DataW H → Nat
  | .lit (.string bytes) => bytes.length + 1
  | .lit _ => 1
  | .nil => 1
  | .ptr d => uptoBulk d + 1
  | .slice elems spare => uptoBulkAll elems + uptoBulkAll spare + 1
  | .agg parts => uptoBulkAll parts + 1
  | .iface _ d => uptoBulk d + 1
  | .map entries => uptoBulkEntries entries + 1
  | .held _ => 1
def uptoBulkAll {H : Type} : List (DataW H) → Nat
  | [] => 0
  | d :: r => uptoBulk d + uptoBulkAll r
def uptoBulkEntries {H : Type} : List (Lit × DataW H) → Nat
  | [] => 0
  | x :: r => uptoBulkEntry x + uptoBulkEntries r
def uptoBulkEntry {H : Type} : Lit × DataW H → Nat
  | (.string bytes, d) => bytes.length + uptoBulk d + 1
  | (_, d) => uptoBulk d + 1
 end
def uptoSmall : (H : Type) → List (DataW H) → Bool := fun _ ds => decide (uptoBulkAll ds ≤ 1048576)
def OpenSpec.upto (s : _root_.Go.ChangeSpec) : _root_.Go.OpenSpec := { _root_.Go.OpenSpec.ofChange s with cond := some uptoSmall }

/-- 'hypostylelaw.PredTells', WHERE WHAT IT READS IS OF BULK AT MOST 1048576: true; the input reads as it did. -/
def predTellsUptoRow : OpenClaim := { program := "ytecfknolpnjokaa", sum := "4725d4dab8e030f6476846edba609875dcb77ebe0d276b92ca16da79b2aa0a33", func := "hypostyle/hypostylelaw.PredTells", spec := "predTells", unfollowed := true, recurses := true, apart := false, narrowed := true }
def PredTellsUptoSaid : Prop := predTellsUptoRow.holds Try.pinned (OpenSpec.upto predTellsSpec)

/-- 'hypostylelaw.PruneTells', WHERE WHAT IT READS IS OF BULK AT MOST 1048576: true; the input reads as it did. -/
def pruneTellsUptoRow : OpenClaim := { program := "ytecfknolpnjokaa", sum := "4725d4dab8e030f6476846edba609875dcb77ebe0d276b92ca16da79b2aa0a33", func := "hypostyle/hypostylelaw.PruneTells", spec := "pruneTells", unfollowed := true, recurses := true, apart := false, narrowed := true }
def PruneTellsUptoSaid : Prop := pruneTellsUptoRow.holds Try.pinned (OpenSpec.upto pruneTellsSpec)

/-- 'hypostylelaw.PruneSound', WHERE WHAT IT READS IS OF BULK AT MOST 1048576: true; the input reads as it did. -/
def pruneSoundUptoRow : OpenClaim := { program := "ytecfknolpnjokaa", sum := "4725d4dab8e030f6476846edba609875dcb77ebe0d276b92ca16da79b2aa0a33", func := "hypostyle/hypostylelaw.PruneSound", spec := "pruneSound", unfollowed := true, recurses := true, apart := false, narrowed := true }
def PruneSoundUptoSaid : Prop := pruneSoundUptoRow.holds Try.pinned (OpenSpec.upto pruneSoundSpec)

/-- 'hypostylelaw.PruneMore', WHERE WHAT IT READS IS OF BULK AT MOST 1048576: true; the input reads as it did. -/
def pruneMoreUptoRow : OpenClaim := { program := "ytecfknolpnjokaa", sum := "4725d4dab8e030f6476846edba609875dcb77ebe0d276b92ca16da79b2aa0a33", func := "hypostyle/hypostylelaw.PruneMore", spec := "pruneMore", unfollowed := true, recurses := true, apart := false, narrowed := true }
def PruneMoreUptoSaid : Prop := pruneMoreUptoRow.holds Try.pinned (OpenSpec.upto pruneMoreSpec)

/-- 'hypostylelaw.PredKleene', WHERE WHAT IT READS IS OF BULK AT MOST 1048576: true; the input reads as it did. -/
def predKleeneUptoRow : OpenClaim := { program := "ytecfknolpnjokaa", sum := "4725d4dab8e030f6476846edba609875dcb77ebe0d276b92ca16da79b2aa0a33", func := "hypostyle/hypostylelaw.PredKleene", spec := "predKleene", unfollowed := true, recurses := true, apart := false, narrowed := true }
def PredKleeneUptoSaid : Prop := predKleeneUptoRow.holds Try.pinned (OpenSpec.upto predKleeneSpec)

end Rows
end Go.Proofs.Ytecfknolpnjokaa
