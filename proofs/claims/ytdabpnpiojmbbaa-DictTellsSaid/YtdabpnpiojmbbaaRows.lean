/-
  No cell of these rows narrows 'for every input' (looked for: loops, veiled, ifaces, maps, wideKeys, modest, calm, conditions, laid).
  DERIVED. THE GIVEN ROWS OF THIS SEAT. 6 by the template 'for every input the law returns true; each argument reads behind the call as it read before'; 0 by the template 'total and deterministic' (their statements: YtdabpnpiojmbbaaTotals.lean).
  GIVEN WITH THE SEED: the statements are not yours to turn. If you find one false, say at which input.
  Laid BY PROGRAM, IN A SANDBOX (cutbox-rows.mjs): the forced cells as the released guide's own fill.sh prints them over the translation 4cb0dd53fd21f69d… (all of the seat's roots in one cut). By AI agents, Wed Nov 11 2026. No macro, syntax, notation, axiom, sorry.
-/
import Derived.Test.YtdabpnpiojmbbaaChecked
import GoSem.Claim
import GoSem.ClaimJoined
import GoSem.ClaimMapViews
import Derived.JoinedTies
import Derived.KernelRfl
namespace Go.Proofs.Ytdabpnpiojmbbaa
/- THE CELL 'sum', in the pinned program and in every row, IS THE sha256 OF THE DUMP (.gsa) THAT YtdabpnpiojmbbaaProg.lean LOADS. Nothing in Lean hashes anything: it is a label: what it is worth is what the hold of that sum in a sandbox is worth. -/
noncomputable def Try.pinned : Pinned := { name := "ytdabpnpiojmbbaa", sum := "4cb0dd53fd21f69dd4660acebd7ea1b7875cb4d05b48fb0d3392b4f215bbbae9", checked := Try.checked }
namespace Rows
def none {H : Type} : Left H := { results := [], args := [] }

/-- 'hypostylelaw.DictTells': WHATEVER THE INPUT: true; the input reads as it did. -/
def dictTellsSpec : ChangeSpec := { name := "dictTells", fn := fun _ => fun
  | [d1, d2] => { results := [.lit (.bool true)], args := [d1, d2] }
  | _ => none }
def dictTellsRow : OpenClaim := { program := "ytdabpnpiojmbbaa", sum := "4cb0dd53fd21f69dd4660acebd7ea1b7875cb4d05b48fb0d3392b4f215bbbae9", func := "hypostyle/hypostylelaw.DictTells", spec := "dictTells", unfollowed := true, recurses := true, apart := false }
def DictTellsSaid : Prop := dictTellsRow.holds Try.pinned (OpenSpec.ofChange dictTellsSpec)

/-- ITS FALSE NEIGHBOUR: 'it returns false'. Refute it at one input. -/
def dictTellsWrong : ChangeSpec := { name := "dictTells", fn := fun _ => fun
  | [d1, d2] => { results := [.lit (.bool false)], args := [d1, d2] }
  | _ => none }
def DictTellsWrongFalsely : Prop := dictTellsRow.holds Try.pinned (OpenSpec.ofChange dictTellsWrong)

/-- 'hypostylelaw.DictReads': WHATEVER THE INPUT: true; the input reads as it did. -/
def dictReadsSpec : ChangeSpec := { name := "dictReads", fn := fun _ => fun
  | [d1, d2, d3, d4, d5] => { results := [.lit (.bool true)], args := [d1, d2, d3, d4, d5] }
  | _ => none }
def dictReadsRow : OpenClaim := { program := "ytdabpnpiojmbbaa", sum := "4cb0dd53fd21f69dd4660acebd7ea1b7875cb4d05b48fb0d3392b4f215bbbae9", func := "hypostyle/hypostylelaw.DictReads", spec := "dictReads", unfollowed := true, recurses := true, apart := false }
def DictReadsSaid : Prop := dictReadsRow.holds Try.pinned (OpenSpec.ofChange dictReadsSpec)

/-- ITS FALSE NEIGHBOUR: 'it returns false'. Refute it at one input. -/
def dictReadsWrong : ChangeSpec := { name := "dictReads", fn := fun _ => fun
  | [d1, d2, d3, d4, d5] => { results := [.lit (.bool false)], args := [d1, d2, d3, d4, d5] }
  | _ => none }
def DictReadsWrongFalsely : Prop := dictReadsRow.holds Try.pinned (OpenSpec.ofChange dictReadsWrong)

/-- 'hypostylelaw.DictBack': WHATEVER THE INPUT: true; the input reads as it did. -/
def dictBackSpec : ChangeSpec := { name := "dictBack", fn := fun _ => fun
  | [d] => { results := [.lit (.bool true)], args := [d] }
  | _ => none }
def dictBackRow : OpenClaim := { program := "ytdabpnpiojmbbaa", sum := "4cb0dd53fd21f69dd4660acebd7ea1b7875cb4d05b48fb0d3392b4f215bbbae9", func := "hypostyle/hypostylelaw.DictBack", spec := "dictBack", unfollowed := true, recurses := true, apart := false }
def DictBackSaid : Prop := dictBackRow.holds Try.pinned (OpenSpec.ofChange dictBackSpec)

/-- ITS FALSE NEIGHBOUR: 'it returns false'. Refute it at one input. -/
def dictBackWrong : ChangeSpec := { name := "dictBack", fn := fun _ => fun
  | [d] => { results := [.lit (.bool false)], args := [d] }
  | _ => none }
def DictBackWrongFalsely : Prop := dictBackRow.holds Try.pinned (OpenSpec.ofChange dictBackWrong)

/-- 'hypostylelaw.DictOrder': WHATEVER THE INPUT: true; the input reads as it did. -/
def dictOrderSpec : ChangeSpec := { name := "dictOrder", fn := fun _ => fun
  | [d1, d2, d3] => { results := [.lit (.bool true)], args := [d1, d2, d3] }
  | _ => none }
def dictOrderRow : OpenClaim := { program := "ytdabpnpiojmbbaa", sum := "4cb0dd53fd21f69dd4660acebd7ea1b7875cb4d05b48fb0d3392b4f215bbbae9", func := "hypostyle/hypostylelaw.DictOrder", spec := "dictOrder", unfollowed := true, recurses := true, apart := false }
def DictOrderSaid : Prop := dictOrderRow.holds Try.pinned (OpenSpec.ofChange dictOrderSpec)

/-- ITS FALSE NEIGHBOUR: 'it returns false'. Refute it at one input. -/
def dictOrderWrong : ChangeSpec := { name := "dictOrder", fn := fun _ => fun
  | [d1, d2, d3] => { results := [.lit (.bool false)], args := [d1, d2, d3] }
  | _ => none }
def DictOrderWrongFalsely : Prop := dictOrderRow.holds Try.pinned (OpenSpec.ofChange dictOrderWrong)

/-- 'hypostylelaw.DictLeast': WHATEVER THE INPUT: true; the input reads as it did. -/
def dictLeastSpec : ChangeSpec := { name := "dictLeast", fn := fun _ => fun
  | [d] => { results := [.lit (.bool true)], args := [d] }
  | _ => none }
def dictLeastRow : OpenClaim := { program := "ytdabpnpiojmbbaa", sum := "4cb0dd53fd21f69dd4660acebd7ea1b7875cb4d05b48fb0d3392b4f215bbbae9", func := "hypostyle/hypostylelaw.DictLeast", spec := "dictLeast", unfollowed := true, recurses := true, apart := false }
def DictLeastSaid : Prop := dictLeastRow.holds Try.pinned (OpenSpec.ofChange dictLeastSpec)

/-- ITS FALSE NEIGHBOUR: 'it returns false'. Refute it at one input. -/
def dictLeastWrong : ChangeSpec := { name := "dictLeast", fn := fun _ => fun
  | [d] => { results := [.lit (.bool false)], args := [d] }
  | _ => none }
def DictLeastWrongFalsely : Prop := dictLeastRow.holds Try.pinned (OpenSpec.ofChange dictLeastWrong)

/-- 'hypostylelaw.DictSpans': WHATEVER THE INPUT: true; the input reads as it did. -/
def dictSpansSpec : ChangeSpec := { name := "dictSpans", fn := fun _ => fun
  | [d1, d2, d3, d4] => { results := [.lit (.bool true)], args := [d1, d2, d3, d4] }
  | _ => none }
def dictSpansRow : OpenClaim := { program := "ytdabpnpiojmbbaa", sum := "4cb0dd53fd21f69dd4660acebd7ea1b7875cb4d05b48fb0d3392b4f215bbbae9", func := "hypostyle/hypostylelaw.DictSpans", spec := "dictSpans", unfollowed := true, recurses := true, apart := false }
def DictSpansSaid : Prop := dictSpansRow.holds Try.pinned (OpenSpec.ofChange dictSpansSpec)

/-- ITS FALSE NEIGHBOUR: 'it returns false'. Refute it at one input. -/
def dictSpansWrong : ChangeSpec := { name := "dictSpans", fn := fun _ => fun
  | [d1, d2, d3, d4] => { results := [.lit (.bool false)], args := [d1, d2, d3, d4] }
  | _ => none }
def DictSpansWrongFalsely : Prop := dictSpansRow.holds Try.pinned (OpenSpec.ofChange dictSpansWrong)

/- THE SECOND FORM. 'bulk': how many values and letters a reading holds, each counted each time it is reached (what is shared counts as often as it is met; a slice's spare places count too). A statement '..UptoSaid' is the law's where the arguments, and the package variables that the reading takes, are together of bulk at most 1048576: NARROWER than '..Said'. Prove '..Said' where nothing that the law and all that it calls make is longer than what came in: it says more and counts as full. Else prove '..UptoSaid'. A law counts once. -/
mutual
def uptoBulk {H : Type} : DataW H → Nat
  | .lit (.string bytes) => bytes.length + 1
  | .lit _ => 1
  | .nil => 1
  | .ptr d => uptoBulk d + 1
  | .slice elems spare => uptoBulkAll elems + uptoBulkAll spare + 1
  | .agg parts => uptoBulkAll parts + 1
  | .iface _ d => uptoBulk d + 1
  | .map entries => uptoBulkEntries entries + 1
  | .held _ => 1
def uptoBulkAll {H : Type} : List (DataW H) → Nat
  | [] => 0
  | d :: r => uptoBulk d + uptoBulkAll r
def uptoBulkEntries {H : Type} : List (Lit × DataW H) → Nat
  | [] => 0
  | x :: r => uptoBulkEntry x + uptoBulkEntries r
def uptoBulkEntry {H : Type} : Lit × DataW H → Nat
  | (.string bytes, d) => bytes.length + uptoBulk d + 1
  | (_, d) => uptoBulk d + 1
 end
def uptoSmall : (H : Type) → List (DataW H) → Bool := fun _ ds => decide (uptoBulkAll ds ≤ 1048576)
def OpenSpec.upto (s : _root_.Go.ChangeSpec) : _root_.Go.OpenSpec := { _root_.Go.OpenSpec.ofChange s with cond := some uptoSmall }

/-- 'hypostylelaw.DictTells', WHERE WHAT IT READS IS OF BULK AT MOST 1048576: true; the input reads as it did. -/
def dictTellsUptoRow : OpenClaim := { program := "ytdabpnpiojmbbaa", sum := "4cb0dd53fd21f69dd4660acebd7ea1b7875cb4d05b48fb0d3392b4f215bbbae9", func := "hypostyle/hypostylelaw.DictTells", spec := "dictTells", unfollowed := true, recurses := true, apart := false, narrowed := true }
def DictTellsUptoSaid : Prop := dictTellsUptoRow.holds Try.pinned (OpenSpec.upto dictTellsSpec)

/-- 'hypostylelaw.DictReads', WHERE WHAT IT READS IS OF BULK AT MOST 1048576: true; the input reads as it did. -/
def dictReadsUptoRow : OpenClaim := { program := "ytdabpnpiojmbbaa", sum := "4cb0dd53fd21f69dd4660acebd7ea1b7875cb4d05b48fb0d3392b4f215bbbae9", func := "hypostyle/hypostylelaw.DictReads", spec := "dictReads", unfollowed := true, recurses := true, apart := false, narrowed := true }
def DictReadsUptoSaid : Prop := dictReadsUptoRow.holds Try.pinned (OpenSpec.upto dictReadsSpec)

/-- 'hypostylelaw.DictBack', WHERE WHAT IT READS IS OF BULK AT MOST 1048576: true; the input reads as it did. -/
def dictBackUptoRow : OpenClaim := { program := "ytdabpnpiojmbbaa", sum := "4cb0dd53fd21f69dd4660acebd7ea1b7875cb4d05b48fb0d3392b4f215bbbae9", func := "hypostyle/hypostylelaw.DictBack", spec := "dictBack", unfollowed := true, recurses := true, apart := false, narrowed := true }
def DictBackUptoSaid : Prop := dictBackUptoRow.holds Try.pinned (OpenSpec.upto dictBackSpec)

/-- 'hypostylelaw.DictOrder', WHERE WHAT IT READS IS OF BULK AT MOST 1048576: true; the input reads as it did. -/
def dictOrderUptoRow : OpenClaim := { program := "ytdabpnpiojmbbaa", sum := "4cb0dd53fd21f69dd4660acebd7ea1b7875cb4d05b48fb0d3392b4f215bbbae9", func := "hypostyle/hypostylelaw.DictOrder", spec := "dictOrder", unfollowed := true, recurses := true, apart := false, narrowed := true }
def DictOrderUptoSaid : Prop := dictOrderUptoRow.holds Try.pinned (OpenSpec.upto dictOrderSpec)

/-- 'hypostylelaw.DictLeast', WHERE WHAT IT READS IS OF BULK AT MOST 1048576: true; the input reads as it did. -/
def dictLeastUptoRow : OpenClaim := { program := "ytdabpnpiojmbbaa", sum := "4cb0dd53fd21f69dd4660acebd7ea1b7875cb4d05b48fb0d3392b4f215bbbae9", func := "hypostyle/hypostylelaw.DictLeast", spec := "dictLeast", unfollowed := true, recurses := true, apart := false, narrowed := true }
def DictLeastUptoSaid : Prop := dictLeastUptoRow.holds Try.pinned (OpenSpec.upto dictLeastSpec)

/-- 'hypostylelaw.DictSpans', WHERE WHAT IT READS IS OF BULK AT MOST 1048576: true; the input reads as it did. -/
def dictSpansUptoRow : OpenClaim := { program := "ytdabpnpiojmbbaa", sum := "4cb0dd53fd21f69dd4660acebd7ea1b7875cb4d05b48fb0d3392b4f215bbbae9", func := "hypostyle/hypostylelaw.DictSpans", spec := "dictSpans", unfollowed := true, recurses := true, apart := false, narrowed := true }
def DictSpansUptoSaid : Prop := dictSpansUptoRow.holds Try.pinned (OpenSpec.upto dictSpansSpec)

end Rows
end Go.Proofs.Ytdabpnpiojmbbaa
