/-
  No cell of these rows narrows 'for every input' (looked for: loops, veiled, ifaces, maps, wideKeys, modest, calm, conditions, laid).
  DERIVED. THE GIVEN ROWS OF THIS SEAT. 6 by the template 'for every input the law returns true; each argument reads behind the call as it read before'; 0 by the template 'total and deterministic' (their statements: YtjbnbgiphnnadaaTotals.lean).
  GIVEN WITH THE SEED: the statements are not yours to turn. If you find one false, say at which input.
  Laid BY PROGRAM, IN A SANDBOX (cutbox-rows.mjs): the forced cells as the released guide's own fill.sh prints them over the translation 9e0153df11f27f72… (all of the seat's roots in one cut). By AI agents, Wed Nov 11 2026. No macro, syntax, notation, axiom, sorry.
-/
import Derived.Test.YtjbnbgiphnnadaaChecked
import GoSem.Claim
import GoSem.ClaimJoined
import GoSem.ClaimMapViews
import Derived.JoinedTies
import Derived.KernelRfl
namespace Go.Proofs.Ytjbnbgiphnnadaa
/- THE CELL 'sum', in the pinned program and in every row, IS THE sha256 OF THE DUMP (.gsa) THAT YtjbnbgiphnnadaaProg.lean LOADS. Nothing in Lean hashes anything: it is a label: what it is worth is what the hold of that sum in a sandbox is worth. -/
noncomputable def Try.pinned : Pinned := { name := "ytjbnbgiphnnadaa", sum := "9e0153df11f27f7213a6648d49405dad0db8562e7d215aa186e97c3dfeba099c", checked := Try.checked }
namespace Rows
def none {H : Type} : Left H := { results := [], args := [] }

/-- 'hypostylelaw.HybridTells': WHATEVER THE INPUT: true; the input reads as it did. -/
def hybridTellsSpec : ChangeSpec := { name := "hybridTells", fn := fun _ => fun
  | [d1, d2] => { results := [.lit (.bool true)], args := [d1, d2] }
  | _ => none }
def hybridTellsRow : OpenClaim := { program := "ytjbnbgiphnnadaa", sum := "9e0153df11f27f7213a6648d49405dad0db8562e7d215aa186e97c3dfeba099c", func := "hypostyle/hypostylelaw.HybridTells", spec := "hybridTells", unfollowed := true, recurses := true, apart := false }
def HybridTellsSaid : Prop := hybridTellsRow.holds Try.pinned (OpenSpec.ofChange hybridTellsSpec)

/-- ITS FALSE NEIGHBOUR: 'it returns false'. Refute it at one input. -/
def hybridTellsWrong : ChangeSpec := { name := "hybridTells", fn := fun _ => fun
  | [d1, d2] => { results := [.lit (.bool false)], args := [d1, d2] }
  | _ => none }
def HybridTellsWrongFalsely : Prop := hybridTellsRow.holds Try.pinned (OpenSpec.ofChange hybridTellsWrong)

/-- 'hypostylelaw.HybridReads': WHATEVER THE INPUT: true; the input reads as it did. -/
def hybridReadsSpec : ChangeSpec := { name := "hybridReads", fn := fun _ => fun
  | [d1, d2, d3] => { results := [.lit (.bool true)], args := [d1, d2, d3] }
  | _ => none }
def hybridReadsRow : OpenClaim := { program := "ytjbnbgiphnnadaa", sum := "9e0153df11f27f7213a6648d49405dad0db8562e7d215aa186e97c3dfeba099c", func := "hypostyle/hypostylelaw.HybridReads", spec := "hybridReads", unfollowed := true, recurses := true, apart := false }
def HybridReadsSaid : Prop := hybridReadsRow.holds Try.pinned (OpenSpec.ofChange hybridReadsSpec)

/-- ITS FALSE NEIGHBOUR: 'it returns false'. Refute it at one input. -/
def hybridReadsWrong : ChangeSpec := { name := "hybridReads", fn := fun _ => fun
  | [d1, d2, d3] => { results := [.lit (.bool false)], args := [d1, d2, d3] }
  | _ => none }
def HybridReadsWrongFalsely : Prop := hybridReadsRow.holds Try.pinned (OpenSpec.ofChange hybridReadsWrong)

/-- 'hypostylelaw.HybridBack': WHATEVER THE INPUT: true; the input reads as it did. -/
def hybridBackSpec : ChangeSpec := { name := "hybridBack", fn := fun _ => fun
  | [d1, d2] => { results := [.lit (.bool true)], args := [d1, d2] }
  | _ => none }
def hybridBackRow : OpenClaim := { program := "ytjbnbgiphnnadaa", sum := "9e0153df11f27f7213a6648d49405dad0db8562e7d215aa186e97c3dfeba099c", func := "hypostyle/hypostylelaw.HybridBack", spec := "hybridBack", unfollowed := true, recurses := true, apart := false }
def HybridBackSaid : Prop := hybridBackRow.holds Try.pinned (OpenSpec.ofChange hybridBackSpec)

/-- ITS FALSE NEIGHBOUR: 'it returns false'. Refute it at one input. -/
def hybridBackWrong : ChangeSpec := { name := "hybridBack", fn := fun _ => fun
  | [d1, d2] => { results := [.lit (.bool false)], args := [d1, d2] }
  | _ => none }
def HybridBackWrongFalsely : Prop := hybridBackRow.holds Try.pinned (OpenSpec.ofChange hybridBackWrong)

/-- 'hypostylelaw.HybridJoins': WHATEVER THE INPUT: true; the input reads as it did. -/
def hybridJoinsSpec : ChangeSpec := { name := "hybridJoins", fn := fun _ => fun
  | [d1, d2, d3] => { results := [.lit (.bool true)], args := [d1, d2, d3] }
  | _ => none }
def hybridJoinsRow : OpenClaim := { program := "ytjbnbgiphnnadaa", sum := "9e0153df11f27f7213a6648d49405dad0db8562e7d215aa186e97c3dfeba099c", func := "hypostyle/hypostylelaw.HybridJoins", spec := "hybridJoins", unfollowed := true, recurses := true, apart := false }
def HybridJoinsSaid : Prop := hybridJoinsRow.holds Try.pinned (OpenSpec.ofChange hybridJoinsSpec)

/-- ITS FALSE NEIGHBOUR: 'it returns false'. Refute it at one input. -/
def hybridJoinsWrong : ChangeSpec := { name := "hybridJoins", fn := fun _ => fun
  | [d1, d2, d3] => { results := [.lit (.bool false)], args := [d1, d2, d3] }
  | _ => none }
def HybridJoinsWrongFalsely : Prop := hybridJoinsRow.holds Try.pinned (OpenSpec.ofChange hybridJoinsWrong)

/-- 'hypostylelaw.HybridShort': WHATEVER THE INPUT: true; the input reads as it did. -/
def hybridShortSpec : ChangeSpec := { name := "hybridShort", fn := fun _ => fun
  | [d1, d2] => { results := [.lit (.bool true)], args := [d1, d2] }
  | _ => none }
def hybridShortRow : OpenClaim := { program := "ytjbnbgiphnnadaa", sum := "9e0153df11f27f7213a6648d49405dad0db8562e7d215aa186e97c3dfeba099c", func := "hypostyle/hypostylelaw.HybridShort", spec := "hybridShort", unfollowed := true, recurses := true, apart := false }
def HybridShortSaid : Prop := hybridShortRow.holds Try.pinned (OpenSpec.ofChange hybridShortSpec)

/-- ITS FALSE NEIGHBOUR: 'it returns false'. Refute it at one input. -/
def hybridShortWrong : ChangeSpec := { name := "hybridShort", fn := fun _ => fun
  | [d1, d2] => { results := [.lit (.bool false)], args := [d1, d2] }
  | _ => none }
def HybridShortWrongFalsely : Prop := hybridShortRow.holds Try.pinned (OpenSpec.ofChange hybridShortWrong)

/-- 'hypostylelaw.HybridCut': WHATEVER THE INPUT: true; the input reads as it did. -/
def hybridCutSpec : ChangeSpec := { name := "hybridCut", fn := fun _ => fun
  | [d1, d2, d3, d4] => { results := [.lit (.bool true)], args := [d1, d2, d3, d4] }
  | _ => none }
def hybridCutRow : OpenClaim := { program := "ytjbnbgiphnnadaa", sum := "9e0153df11f27f7213a6648d49405dad0db8562e7d215aa186e97c3dfeba099c", func := "hypostyle/hypostylelaw.HybridCut", spec := "hybridCut", unfollowed := true, recurses := true, apart := false }
def HybridCutSaid : Prop := hybridCutRow.holds Try.pinned (OpenSpec.ofChange hybridCutSpec)

/-- ITS FALSE NEIGHBOUR: 'it returns false'. Refute it at one input. -/
def hybridCutWrong : ChangeSpec := { name := "hybridCut", fn := fun _ => fun
  | [d1, d2, d3, d4] => { results := [.lit (.bool false)], args := [d1, d2, d3, d4] }
  | _ => none }
def HybridCutWrongFalsely : Prop := hybridCutRow.holds Try.pinned (OpenSpec.ofChange hybridCutWrong)

/- THE SECOND FORM. 'bulk': how many values and letters a reading holds, each counted each time it is reached (what is shared counts as often as it is met; a slice's spare places count too). A statement '..UptoSaid' is the law's where the arguments, and the package variables that the reading takes, are together of bulk at most 1048576: NARROWER than '..Said'. Prove '..Said' where nothing that the law and all that it calls make is longer than what came in: it says more and counts as full. Else prove '..UptoSaid'. A law counts once. -/
mutual
def uptoBulk {H : Type} : DataW H → Nat
  | .lit (.string bytes) => bytes.length + 1
  | .lit _ => 1
  | .nil => 1
  | .ptr d => uptoBulk d + 1
  | .slice elems spare => uptoBulkAll elems + uptoBulkAll spare + 1
  | .agg parts => uptoBulkAll parts + 1
  | .iface _ d => uptoBulk d + 1
  | .map entries => uptoBulkEntries entries + 1
  | .held _ => 1
def uptoBulkAll {H : Type} : List (DataW H) → Nat
  | [] => 0
  | d :: r => uptoBulk d + uptoBulkAll r
def uptoBulkEntries {H : Type} : List (Lit × DataW H) → Nat
  | [] => 0
  | x :: r => uptoBulkEntry x + uptoBulkEntries r
def uptoBulkEntry {H : Type} : Lit × DataW H → Nat
  | (.string bytes, d) => bytes.length + uptoBulk d + 1
  | (_, d) => uptoBulk d + 1
 end
def uptoSmall : (H : Type) → List (DataW H) → Bool := fun _ ds => decide (uptoBulkAll ds ≤ 1048576)
def OpenSpec.upto (s : _root_.Go.ChangeSpec) : _root_.Go.OpenSpec := { _root_.Go.OpenSpec.ofChange s with cond := some uptoSmall }

/-- 'hypostylelaw.HybridTells', WHERE WHAT IT READS IS OF BULK AT MOST 1048576: true; the input reads as it did. -/
def hybridTellsUptoRow : OpenClaim := { program := "ytjbnbgiphnnadaa", sum := "9e0153df11f27f7213a6648d49405dad0db8562e7d215aa186e97c3dfeba099c", func := "hypostyle/hypostylelaw.HybridTells", spec := "hybridTells", unfollowed := true, recurses := true, apart := false, narrowed := true }
def HybridTellsUptoSaid : Prop := hybridTellsUptoRow.holds Try.pinned (OpenSpec.upto hybridTellsSpec)

/-- 'hypostylelaw.HybridReads', WHERE WHAT IT READS IS OF BULK AT MOST 1048576: true; the input reads as it did. -/
def hybridReadsUptoRow : OpenClaim := { program := "ytjbnbgiphnnadaa", sum := "9e0153df11f27f7213a6648d49405dad0db8562e7d215aa186e97c3dfeba099c", func := "hypostyle/hypostylelaw.HybridReads", spec := "hybridReads", unfollowed := true, recurses := true, apart := false, narrowed := true }
def HybridReadsUptoSaid : Prop := hybridReadsUptoRow.holds Try.pinned (OpenSpec.upto hybridReadsSpec)

/-- 'hypostylelaw.HybridBack', WHERE WHAT IT READS IS OF BULK AT MOST 1048576: true; the input reads as it did. -/
def hybridBackUptoRow : OpenClaim := { program := "ytjbnbgiphnnadaa", sum := "9e0153df11f27f7213a6648d49405dad0db8562e7d215aa186e97c3dfeba099c", func := "hypostyle/hypostylelaw.HybridBack", spec := "hybridBack", unfollowed := true, recurses := true, apart := false, narrowed := true }
def HybridBackUptoSaid : Prop := hybridBackUptoRow.holds Try.pinned (OpenSpec.upto hybridBackSpec)

/-- 'hypostylelaw.HybridJoins', WHERE WHAT IT READS IS OF BULK AT MOST 1048576: true; the input reads as it did. -/
def hybridJoinsUptoRow : OpenClaim := { program := "ytjbnbgiphnnadaa", sum := "9e0153df11f27f7213a6648d49405dad0db8562e7d215aa186e97c3dfeba099c", func := "hypostyle/hypostylelaw.HybridJoins", spec := "hybridJoins", unfollowed := true, recurses := true, apart := false, narrowed := true }
def HybridJoinsUptoSaid : Prop := hybridJoinsUptoRow.holds Try.pinned (OpenSpec.upto hybridJoinsSpec)

/-- 'hypostylelaw.HybridShort', WHERE WHAT IT READS IS OF BULK AT MOST 1048576: true; the input reads as it did. -/
def hybridShortUptoRow : OpenClaim := { program := "ytjbnbgiphnnadaa", sum := "9e0153df11f27f7213a6648d49405dad0db8562e7d215aa186e97c3dfeba099c", func := "hypostyle/hypostylelaw.HybridShort", spec := "hybridShort", unfollowed := true, recurses := true, apart := false, narrowed := true }
def HybridShortUptoSaid : Prop := hybridShortUptoRow.holds Try.pinned (OpenSpec.upto hybridShortSpec)

/-- 'hypostylelaw.HybridCut', WHERE WHAT IT READS IS OF BULK AT MOST 1048576: true; the input reads as it did. -/
def hybridCutUptoRow : OpenClaim := { program := "ytjbnbgiphnnadaa", sum := "9e0153df11f27f7213a6648d49405dad0db8562e7d215aa186e97c3dfeba099c", func := "hypostyle/hypostylelaw.HybridCut", spec := "hybridCut", unfollowed := true, recurses := true, apart := false, narrowed := true }
def HybridCutUptoSaid : Prop := hybridCutUptoRow.holds Try.pinned (OpenSpec.upto hybridCutSpec)

end Rows
end Go.Proofs.Ytjbnbgiphnnadaa
