/-
  No cell of these rows narrows 'for every input' (looked for: loops, veiled, ifaces, maps, wideKeys, modest, calm, conditions, laid).
  DERIVED. THE GIVEN ROWS OF THIS SEAT. 6 by the template 'for every input the law returns true; each argument reads behind the call as it read before'; 0 by the template 'total and deterministic' (their statements: YthmlafoceacliaaTotals.lean).
  GIVEN WITH THE SEED: the statements are not yours to turn. If you find one false, say at which input.
  Laid BY PROGRAM, IN A SANDBOX (cutbox-rows.mjs): the forced cells as the released guide's own fill.sh prints them over the translation 65fc196d4790e1bc… (all of the seat's roots in one cut). By AI agents, Wed Nov 11 2026. No macro, syntax, notation, axiom, sorry.
-/
import Derived.Test.YthmlafoceacliaaChecked
import GoSem.Claim
import GoSem.ClaimJoined
import GoSem.ClaimMapViews
import Derived.JoinedTies
import Derived.KernelRfl
namespace Go.Proofs.Ythmlafoceacliaa
/- THE CELL 'sum', in the pinned program and in every row, IS THE sha256 OF THE DUMP (.gsa) THAT YthmlafoceacliaaProg.lean LOADS. Nothing in Lean hashes anything: it is a label: what it is worth is what the hold of that sum in a sandbox is worth. -/
noncomputable def Try.pinned : Pinned := { name := "ythmlafoceacliaa", sum := "65fc196d4790e1bcdf0f82521004589d4f13acbdcf710036a502470088683ee8", checked := Try.checked }
namespace Rows
def none {H : Type} : Left H := { results := [], args := [] }

/-- 'hypostylelaw.RankTells': WHATEVER THE INPUT: true; the input reads as it did. -/
def rankTellsSpec : ChangeSpec := { name := "rankTells", fn := fun _ => fun
  | [d1, d2, d3] => { results := [.lit (.bool true)], args := [d1, d2, d3] }
  | _ => none }
def rankTellsRow : OpenClaim := { program := "ythmlafoceacliaa", sum := "65fc196d4790e1bcdf0f82521004589d4f13acbdcf710036a502470088683ee8", func := "hypostyle/hypostylelaw.RankTells", spec := "rankTells", unfollowed := true, recurses := true, apart := false }
def RankTellsSaid : Prop := rankTellsRow.holds Try.pinned (OpenSpec.ofChange rankTellsSpec)

/-- ITS FALSE NEIGHBOUR: 'it returns false'. Refute it at one input. -/
def rankTellsWrong : ChangeSpec := { name := "rankTells", fn := fun _ => fun
  | [d1, d2, d3] => { results := [.lit (.bool false)], args := [d1, d2, d3] }
  | _ => none }
def RankTellsWrongFalsely : Prop := rankTellsRow.holds Try.pinned (OpenSpec.ofChange rankTellsWrong)

/-- 'hypostylelaw.MarksTell': WHATEVER THE INPUT: true; the input reads as it did. -/
def marksTellSpec : ChangeSpec := { name := "marksTell", fn := fun _ => fun
  | [d1, d2, d3, d4] => { results := [.lit (.bool true)], args := [d1, d2, d3, d4] }
  | _ => none }
def marksTellRow : OpenClaim := { program := "ythmlafoceacliaa", sum := "65fc196d4790e1bcdf0f82521004589d4f13acbdcf710036a502470088683ee8", func := "hypostyle/hypostylelaw.MarksTell", spec := "marksTell", unfollowed := true, recurses := true, apart := false }
def MarksTellSaid : Prop := marksTellRow.holds Try.pinned (OpenSpec.ofChange marksTellSpec)

/-- ITS FALSE NEIGHBOUR: 'it returns false'. Refute it at one input. -/
def marksTellWrong : ChangeSpec := { name := "marksTell", fn := fun _ => fun
  | [d1, d2, d3, d4] => { results := [.lit (.bool false)], args := [d1, d2, d3, d4] }
  | _ => none }
def MarksTellWrongFalsely : Prop := marksTellRow.holds Try.pinned (OpenSpec.ofChange marksTellWrong)

/-- 'hypostylelaw.RankSelects': WHATEVER THE INPUT: true; the input reads as it did. -/
def rankSelectsSpec : ChangeSpec := { name := "rankSelects", fn := fun _ => fun
  | [d1, d2, d3] => { results := [.lit (.bool true)], args := [d1, d2, d3] }
  | _ => none }
def rankSelectsRow : OpenClaim := { program := "ythmlafoceacliaa", sum := "65fc196d4790e1bcdf0f82521004589d4f13acbdcf710036a502470088683ee8", func := "hypostyle/hypostylelaw.RankSelects", spec := "rankSelects", unfollowed := true, recurses := true, apart := false }
def RankSelectsSaid : Prop := rankSelectsRow.holds Try.pinned (OpenSpec.ofChange rankSelectsSpec)

/-- ITS FALSE NEIGHBOUR: 'it returns false'. Refute it at one input. -/
def rankSelectsWrong : ChangeSpec := { name := "rankSelects", fn := fun _ => fun
  | [d1, d2, d3] => { results := [.lit (.bool false)], args := [d1, d2, d3] }
  | _ => none }
def RankSelectsWrongFalsely : Prop := rankSelectsRow.holds Try.pinned (OpenSpec.ofChange rankSelectsWrong)

/-- 'hypostylelaw.RankParts': WHATEVER THE INPUT: true; the input reads as it did. -/
def rankPartsSpec : ChangeSpec := { name := "rankParts", fn := fun _ => fun
  | [d1, d2, d3] => { results := [.lit (.bool true)], args := [d1, d2, d3] }
  | _ => none }
def rankPartsRow : OpenClaim := { program := "ythmlafoceacliaa", sum := "65fc196d4790e1bcdf0f82521004589d4f13acbdcf710036a502470088683ee8", func := "hypostyle/hypostylelaw.RankParts", spec := "rankParts", unfollowed := true, recurses := true, apart := false }
def RankPartsSaid : Prop := rankPartsRow.holds Try.pinned (OpenSpec.ofChange rankPartsSpec)

/-- ITS FALSE NEIGHBOUR: 'it returns false'. Refute it at one input. -/
def rankPartsWrong : ChangeSpec := { name := "rankParts", fn := fun _ => fun
  | [d1, d2, d3] => { results := [.lit (.bool false)], args := [d1, d2, d3] }
  | _ => none }
def RankPartsWrongFalsely : Prop := rankPartsRow.holds Try.pinned (OpenSpec.ofChange rankPartsWrong)

/-- 'hypostylelaw.MarksBoole': WHATEVER THE INPUT: true; the input reads as it did. -/
def marksBooleSpec : ChangeSpec := { name := "marksBoole", fn := fun _ => fun
  | [d1, d2] => { results := [.lit (.bool true)], args := [d1, d2] }
  | _ => none }
def marksBooleRow : OpenClaim := { program := "ythmlafoceacliaa", sum := "65fc196d4790e1bcdf0f82521004589d4f13acbdcf710036a502470088683ee8", func := "hypostyle/hypostylelaw.MarksBoole", spec := "marksBoole", unfollowed := true, recurses := true, apart := false }
def MarksBooleSaid : Prop := marksBooleRow.holds Try.pinned (OpenSpec.ofChange marksBooleSpec)

/-- ITS FALSE NEIGHBOUR: 'it returns false'. Refute it at one input. -/
def marksBooleWrong : ChangeSpec := { name := "marksBoole", fn := fun _ => fun
  | [d1, d2] => { results := [.lit (.bool false)], args := [d1, d2] }
  | _ => none }
def MarksBooleWrongFalsely : Prop := marksBooleRow.holds Try.pinned (OpenSpec.ofChange marksBooleWrong)

/-- 'hypostylelaw.MarksBack': WHATEVER THE INPUT: true; the input reads as it did. -/
def marksBackSpec : ChangeSpec := { name := "marksBack", fn := fun _ => fun
  | [d1, d2, d3] => { results := [.lit (.bool true)], args := [d1, d2, d3] }
  | _ => none }
def marksBackRow : OpenClaim := { program := "ythmlafoceacliaa", sum := "65fc196d4790e1bcdf0f82521004589d4f13acbdcf710036a502470088683ee8", func := "hypostyle/hypostylelaw.MarksBack", spec := "marksBack", unfollowed := true, recurses := true, apart := false }
def MarksBackSaid : Prop := marksBackRow.holds Try.pinned (OpenSpec.ofChange marksBackSpec)

/-- ITS FALSE NEIGHBOUR: 'it returns false'. Refute it at one input. -/
def marksBackWrong : ChangeSpec := { name := "marksBack", fn := fun _ => fun
  | [d1, d2, d3] => { results := [.lit (.bool false)], args := [d1, d2, d3] }
  | _ => none }
def MarksBackWrongFalsely : Prop := marksBackRow.holds Try.pinned (OpenSpec.ofChange marksBackWrong)

/- THE SECOND FORM. 'bulk': how many values and letters a reading holds, each counted each time it is reached (what is shared counts as often as it is met; a slice's spare places count too). A statement '..UptoSaid' is the law's where the arguments, and the package variables that the reading takes, are together of bulk at most 1048576: NARROWER than '..Said'. Prove '..Said' where nothing that the law and all that it calls make is longer than what came in: it says more and counts as full. Else prove '..UptoSaid'. A law counts once. -/
mutual
def uptoBulk {H : Type} : DataW H → Nat
  | .lit (.string bytes) => bytes.length + 1
  | .lit _ => 1
  | .nil => 1
  | .ptr d => uptoBulk d + 1
  | .slice elems spare => uptoBulkAll elems + uptoBulkAll spare + 1
  | .agg parts => uptoBulkAll parts + 1
  | .iface _ d => uptoBulk d + 1
  | .map entries => uptoBulkEntries entries + 1
  | .held _ => 1
def uptoBulkAll {H : Type} : List (DataW H) → Nat
  | [] => 0
  | d :: r => uptoBulk d + uptoBulkAll r
def uptoBulkEntries {H : Type} : List (Lit × DataW H) → Nat
  | [] => 0
  | x :: r => uptoBulkEntry x + uptoBulkEntries r
def uptoBulkEntry {H : Type} : Lit × DataW H → Nat
  | (.string bytes, d) => bytes.length + uptoBulk d + 1
  | (_, d) => uptoBulk d + 1
 end
def uptoSmall : (H : Type) → List (DataW H) → Bool := fun _ ds => decide (uptoBulkAll ds ≤ 1048576)
def OpenSpec.upto (s : _root_.Go.ChangeSpec) : _root_.Go.OpenSpec := { _root_.Go.OpenSpec.ofChange s with cond := some uptoSmall }

/-- 'hypostylelaw.RankTells', WHERE WHAT IT READS IS OF BULK AT MOST 1048576: true; the input reads as it did. -/
def rankTellsUptoRow : OpenClaim := { program := "ythmlafoceacliaa", sum := "65fc196d4790e1bcdf0f82521004589d4f13acbdcf710036a502470088683ee8", func := "hypostyle/hypostylelaw.RankTells", spec := "rankTells", unfollowed := true, recurses := true, apart := false, narrowed := true }
def RankTellsUptoSaid : Prop := rankTellsUptoRow.holds Try.pinned (OpenSpec.upto rankTellsSpec)

/-- 'hypostylelaw.MarksTell', WHERE WHAT IT READS IS OF BULK AT MOST 1048576: true; the input reads as it did. -/
def marksTellUptoRow : OpenClaim := { program := "ythmlafoceacliaa", sum := "65fc196d4790e1bcdf0f82521004589d4f13acbdcf710036a502470088683ee8", func := "hypostyle/hypostylelaw.MarksTell", spec := "marksTell", unfollowed := true, recurses := true, apart := false, narrowed := true }
def MarksTellUptoSaid : Prop := marksTellUptoRow.holds Try.pinned (OpenSpec.upto marksTellSpec)

/-- 'hypostylelaw.RankSelects', WHERE WHAT IT READS IS OF BULK AT MOST 1048576: true; the input reads as it did. -/
def rankSelectsUptoRow : OpenClaim := { program := "ythmlafoceacliaa", sum := "65fc196d4790e1bcdf0f82521004589d4f13acbdcf710036a502470088683ee8", func := "hypostyle/hypostylelaw.RankSelects", spec := "rankSelects", unfollowed := true, recurses := true, apart := false, narrowed := true }
def RankSelectsUptoSaid : Prop := rankSelectsUptoRow.holds Try.pinned (OpenSpec.upto rankSelectsSpec)

/-- 'hypostylelaw.RankParts', WHERE WHAT IT READS IS OF BULK AT MOST 1048576: true; the input reads as it did. -/
def rankPartsUptoRow : OpenClaim := { program := "ythmlafoceacliaa", sum := "65fc196d4790e1bcdf0f82521004589d4f13acbdcf710036a502470088683ee8", func := "hypostyle/hypostylelaw.RankParts", spec := "rankParts", unfollowed := true, recurses := true, apart := false, narrowed := true }
def RankPartsUptoSaid : Prop := rankPartsUptoRow.holds Try.pinned (OpenSpec.upto rankPartsSpec)

/-- 'hypostylelaw.MarksBoole', WHERE WHAT IT READS IS OF BULK AT MOST 1048576: true; the input reads as it did. -/
def marksBooleUptoRow : OpenClaim := { program := "ythmlafoceacliaa", sum := "65fc196d4790e1bcdf0f82521004589d4f13acbdcf710036a502470088683ee8", func := "hypostyle/hypostylelaw.MarksBoole", spec := "marksBoole", unfollowed := true, recurses := true, apart := false, narrowed := true }
def MarksBooleUptoSaid : Prop := marksBooleUptoRow.holds Try.pinned (OpenSpec.upto marksBooleSpec)

/-- 'hypostylelaw.MarksBack', WHERE WHAT IT READS IS OF BULK AT MOST 1048576: true; the input reads as it did. -/
def marksBackUptoRow : OpenClaim := { program := "ythmlafoceacliaa", sum := "65fc196d4790e1bcdf0f82521004589d4f13acbdcf710036a502470088683ee8", func := "hypostyle/hypostylelaw.MarksBack", spec := "marksBack", unfollowed := true, recurses := true, apart := false, narrowed := true }
def MarksBackUptoSaid : Prop := marksBackUptoRow.holds Try.pinned (OpenSpec.upto marksBackSpec)

end Rows
end Go.Proofs.Ythmlafoceacliaa
