/-
  No cell of these rows narrows 'for every input' (looked for: loops, veiled, ifaces, maps, wideKeys, modest, calm, conditions, laid).
  DERIVED. THE GIVEN ROWS OF THIS SEAT. 7 by the template 'for every input the law returns true; each argument reads behind the call as it read before'; 0 by the template 'total and deterministic' (their statements: YtnjnalehfhfefaaTotals.lean).
  GIVEN WITH THE SEED: the statements are not yours to turn. If you find one false, say at which input.
  Laid BY PROGRAM, IN A SANDBOX (cutbox-rows.mjs): the forced cells as the released guide's own fill.sh prints them over the translation f59b16b3cd0d43a7… (all of the seat's roots in one cut). By AI agents, Wed Nov 11 2026. No macro, syntax, notation, axiom, sorry.
-/
import Derived.Test.YtnjnalehfhfefaaChecked
import GoSem.Claim
import GoSem.ClaimJoined
import GoSem.ClaimMapViews
import Derived.JoinedTies
import Derived.KernelRfl
namespace Go.Proofs.Ytnjnalehfhfefaa
/- THE CELL 'sum', in the pinned program and in every row, IS THE sha256 OF THE DUMP (.gsa) THAT YtnjnalehfhfefaaProg.lean LOADS. Nothing in Lean hashes anything: it is a label: what it is worth is what the hold of that sum in a sandbox is worth. -/
noncomputable def Try.pinned : Pinned := { name := "ytnjnalehfhfefaa", sum := "f59b16b3cd0d43a7591872175ff547747325c3026cbeb29c24d29763cd9de5e0", checked := Try.checked }
namespace Rows
def none {H : Type} : Left H := { results := [], args := [] }

/-- 'hypostylelaw.TableTells': WHATEVER THE INPUT: true; the input reads as it did. -/
def tableTellsSpec : ChangeSpec := { name := "tableTells", fn := fun _ => fun
  | [d1, d2, d3, d4, d5] => { results := [.lit (.bool true)], args := [d1, d2, d3, d4, d5] }
  | _ => none }
def tableTellsRow : OpenClaim := { program := "ytnjnalehfhfefaa", sum := "f59b16b3cd0d43a7591872175ff547747325c3026cbeb29c24d29763cd9de5e0", func := "hypostyle/hypostylelaw.TableTells", spec := "tableTells", unfollowed := true, recurses := true, apart := false }
def TableTellsSaid : Prop := tableTellsRow.holds Try.pinned (OpenSpec.ofChange tableTellsSpec)

/-- ITS FALSE NEIGHBOUR: 'it returns false'. Refute it at one input. -/
def tableTellsWrong : ChangeSpec := { name := "tableTells", fn := fun _ => fun
  | [d1, d2, d3, d4, d5] => { results := [.lit (.bool false)], args := [d1, d2, d3, d4, d5] }
  | _ => none }
def TableTellsWrongFalsely : Prop := tableTellsRow.holds Try.pinned (OpenSpec.ofChange tableTellsWrong)

/-- 'hypostylelaw.TablePicks': WHATEVER THE INPUT: true; the input reads as it did. -/
def tablePicksSpec : ChangeSpec := { name := "tablePicks", fn := fun _ => fun
  | [d1, d2, d3, d4, d5, d6] => { results := [.lit (.bool true)], args := [d1, d2, d3, d4, d5, d6] }
  | _ => none }
def tablePicksRow : OpenClaim := { program := "ytnjnalehfhfefaa", sum := "f59b16b3cd0d43a7591872175ff547747325c3026cbeb29c24d29763cd9de5e0", func := "hypostyle/hypostylelaw.TablePicks", spec := "tablePicks", unfollowed := true, recurses := true, apart := false }
def TablePicksSaid : Prop := tablePicksRow.holds Try.pinned (OpenSpec.ofChange tablePicksSpec)

/-- ITS FALSE NEIGHBOUR: 'it returns false'. Refute it at one input. -/
def tablePicksWrong : ChangeSpec := { name := "tablePicks", fn := fun _ => fun
  | [d1, d2, d3, d4, d5, d6] => { results := [.lit (.bool false)], args := [d1, d2, d3, d4, d5, d6] }
  | _ => none }
def TablePicksWrongFalsely : Prop := tablePicksRow.holds Try.pinned (OpenSpec.ofChange tablePicksWrong)

/-- 'hypostylelaw.TableUndone': WHATEVER THE INPUT: true; the input reads as it did. -/
def tableUndoneSpec : ChangeSpec := { name := "tableUndone", fn := fun _ => fun
  | [d1, d2, d3, d4] => { results := [.lit (.bool true)], args := [d1, d2, d3, d4] }
  | _ => none }
def tableUndoneRow : OpenClaim := { program := "ytnjnalehfhfefaa", sum := "f59b16b3cd0d43a7591872175ff547747325c3026cbeb29c24d29763cd9de5e0", func := "hypostyle/hypostylelaw.TableUndone", spec := "tableUndone", unfollowed := true, recurses := true, apart := false }
def TableUndoneSaid : Prop := tableUndoneRow.holds Try.pinned (OpenSpec.ofChange tableUndoneSpec)

/-- ITS FALSE NEIGHBOUR: 'it returns false'. Refute it at one input. -/
def tableUndoneWrong : ChangeSpec := { name := "tableUndone", fn := fun _ => fun
  | [d1, d2, d3, d4] => { results := [.lit (.bool false)], args := [d1, d2, d3, d4] }
  | _ => none }
def TableUndoneWrongFalsely : Prop := tableUndoneRow.holds Try.pinned (OpenSpec.ofChange tableUndoneWrong)

/-- 'hypostylelaw.TableRedacts': WHATEVER THE INPUT: true; the input reads as it did. -/
def tableRedactsSpec : ChangeSpec := { name := "tableRedacts", fn := fun _ => fun
  | [d1, d2, d3] => { results := [.lit (.bool true)], args := [d1, d2, d3] }
  | _ => none }
def tableRedactsRow : OpenClaim := { program := "ytnjnalehfhfefaa", sum := "f59b16b3cd0d43a7591872175ff547747325c3026cbeb29c24d29763cd9de5e0", func := "hypostyle/hypostylelaw.TableRedacts", spec := "tableRedacts", unfollowed := true, recurses := true, apart := false }
def TableRedactsSaid : Prop := tableRedactsRow.holds Try.pinned (OpenSpec.ofChange tableRedactsSpec)

/-- ITS FALSE NEIGHBOUR: 'it returns false'. Refute it at one input. -/
def tableRedactsWrong : ChangeSpec := { name := "tableRedacts", fn := fun _ => fun
  | [d1, d2, d3] => { results := [.lit (.bool false)], args := [d1, d2, d3] }
  | _ => none }
def TableRedactsWrongFalsely : Prop := tableRedactsRow.holds Try.pinned (OpenSpec.ofChange tableRedactsWrong)

/-- 'hypostylelaw.TableKeeps': WHATEVER THE INPUT: true; the input reads as it did. -/
def tableKeepsSpec : ChangeSpec := { name := "tableKeeps", fn := fun _ => fun
  | [d1, d2, d3] => { results := [.lit (.bool true)], args := [d1, d2, d3] }
  | _ => none }
def tableKeepsRow : OpenClaim := { program := "ytnjnalehfhfefaa", sum := "f59b16b3cd0d43a7591872175ff547747325c3026cbeb29c24d29763cd9de5e0", func := "hypostyle/hypostylelaw.TableKeeps", spec := "tableKeeps", unfollowed := true, recurses := true, apart := false }
def TableKeepsSaid : Prop := tableKeepsRow.holds Try.pinned (OpenSpec.ofChange tableKeepsSpec)

/-- ITS FALSE NEIGHBOUR: 'it returns false'. Refute it at one input. -/
def tableKeepsWrong : ChangeSpec := { name := "tableKeeps", fn := fun _ => fun
  | [d1, d2, d3] => { results := [.lit (.bool false)], args := [d1, d2, d3] }
  | _ => none }
def TableKeepsWrongFalsely : Prop := tableKeepsRow.holds Try.pinned (OpenSpec.ofChange tableKeepsWrong)

/-- 'hypostylelaw.TableParts': WHATEVER THE INPUT: true; the input reads as it did. -/
def tablePartsSpec : ChangeSpec := { name := "tableParts", fn := fun _ => fun
  | [d1, d2, d3] => { results := [.lit (.bool true)], args := [d1, d2, d3] }
  | _ => none }
def tablePartsRow : OpenClaim := { program := "ytnjnalehfhfefaa", sum := "f59b16b3cd0d43a7591872175ff547747325c3026cbeb29c24d29763cd9de5e0", func := "hypostyle/hypostylelaw.TableParts", spec := "tableParts", unfollowed := true, recurses := true, apart := false }
def TablePartsSaid : Prop := tablePartsRow.holds Try.pinned (OpenSpec.ofChange tablePartsSpec)

/-- ITS FALSE NEIGHBOUR: 'it returns false'. Refute it at one input. -/
def tablePartsWrong : ChangeSpec := { name := "tableParts", fn := fun _ => fun
  | [d1, d2, d3] => { results := [.lit (.bool false)], args := [d1, d2, d3] }
  | _ => none }
def TablePartsWrongFalsely : Prop := tablePartsRow.holds Try.pinned (OpenSpec.ofChange tablePartsWrong)

/-- 'hypostylelaw.TableProjects': WHATEVER THE INPUT: true; the input reads as it did. -/
def tableProjectsSpec : ChangeSpec := { name := "tableProjects", fn := fun _ => fun
  | [d1, d2, d3, d4, d5] => { results := [.lit (.bool true)], args := [d1, d2, d3, d4, d5] }
  | _ => none }
def tableProjectsRow : OpenClaim := { program := "ytnjnalehfhfefaa", sum := "f59b16b3cd0d43a7591872175ff547747325c3026cbeb29c24d29763cd9de5e0", func := "hypostyle/hypostylelaw.TableProjects", spec := "tableProjects", unfollowed := true, recurses := true, apart := false }
def TableProjectsSaid : Prop := tableProjectsRow.holds Try.pinned (OpenSpec.ofChange tableProjectsSpec)

/-- ITS FALSE NEIGHBOUR: 'it returns false'. Refute it at one input. -/
def tableProjectsWrong : ChangeSpec := { name := "tableProjects", fn := fun _ => fun
  | [d1, d2, d3, d4, d5] => { results := [.lit (.bool false)], args := [d1, d2, d3, d4, d5] }
  | _ => none }
def TableProjectsWrongFalsely : Prop := tableProjectsRow.holds Try.pinned (OpenSpec.ofChange tableProjectsWrong)

/- THE SECOND FORM. 'bulk': how many values and letters a reading holds, each counted each time it is reached (what is shared counts as often as it is met; a slice's spare places count too). A statement '..UptoSaid' is the law's where the arguments, and the package variables that the reading takes, are together of bulk at most 1048576: NARROWER than '..Said'. Prove '..Said' where nothing that the law and all that it calls make is longer than what came in: it says more and counts as full. Else prove '..UptoSaid'. A law counts once. -/
mutual
def uptoBulk {H : Type} : DataW H → Nat
  | .lit (.string bytes) => bytes.length + 1
  | .lit _ => 1
  | .nil => 1
  | .ptr d => uptoBulk d + 1
  | .slice elems spare => uptoBulkAll elems + uptoBulkAll spare + 1
  | .agg parts => uptoBulkAll parts + 1
  | .iface _ d => uptoBulk d + 1
  | .map entries => uptoBulkEntries entries + 1
  | .held _ => 1
def uptoBulkAll {H : Type} : List (DataW H) → Nat
  | [] => 0
  | d :: r => uptoBulk d + uptoBulkAll r
def uptoBulkEntries {H : Type} : List (Lit × DataW H) → Nat
  | [] => 0
  | x :: r => uptoBulkEntry x + uptoBulkEntries r
def uptoBulkEntry {H : Type} : Lit × DataW H → Nat
  | (.string bytes, d) => bytes.length + uptoBulk d + 1
  | (_, d) => uptoBulk d + 1
 end
def uptoSmall : (H : Type) → List (DataW H) → Bool := fun _ ds => decide (uptoBulkAll ds ≤ 1048576)
def OpenSpec.upto (s : _root_.Go.ChangeSpec) : _root_.Go.OpenSpec := { _root_.Go.OpenSpec.ofChange s with cond := some uptoSmall }

/-- 'hypostylelaw.TableTells', WHERE WHAT IT READS IS OF BULK AT MOST 1048576: true; the input reads as it did. -/
def tableTellsUptoRow : OpenClaim := { program := "ytnjnalehfhfefaa", sum := "f59b16b3cd0d43a7591872175ff547747325c3026cbeb29c24d29763cd9de5e0", func := "hypostyle/hypostylelaw.TableTells", spec := "tableTells", unfollowed := true, recurses := true, apart := false, narrowed := true }
def TableTellsUptoSaid : Prop := tableTellsUptoRow.holds Try.pinned (OpenSpec.upto tableTellsSpec)

/-- 'hypostylelaw.TablePicks', WHERE WHAT IT READS IS OF BULK AT MOST 1048576: true; the input reads as it did. -/
def tablePicksUptoRow : OpenClaim := { program := "ytnjnalehfhfefaa", sum := "f59b16b3cd0d43a7591872175ff547747325c3026cbeb29c24d29763cd9de5e0", func := "hypostyle/hypostylelaw.TablePicks", spec := "tablePicks", unfollowed := true, recurses := true, apart := false, narrowed := true }
def TablePicksUptoSaid : Prop := tablePicksUptoRow.holds Try.pinned (OpenSpec.upto tablePicksSpec)

/-- 'hypostylelaw.TableUndone', WHERE WHAT IT READS IS OF BULK AT MOST 1048576: true; the input reads as it did. -/
def tableUndoneUptoRow : OpenClaim := { program := "ytnjnalehfhfefaa", sum := "f59b16b3cd0d43a7591872175ff547747325c3026cbeb29c24d29763cd9de5e0", func := "hypostyle/hypostylelaw.TableUndone", spec := "tableUndone", unfollowed := true, recurses := true, apart := false, narrowed := true }
def TableUndoneUptoSaid : Prop := tableUndoneUptoRow.holds Try.pinned (OpenSpec.upto tableUndoneSpec)

/-- 'hypostylelaw.TableRedacts', WHERE WHAT IT READS IS OF BULK AT MOST 1048576: true; the input reads as it did. -/
def tableRedactsUptoRow : OpenClaim := { program := "ytnjnalehfhfefaa", sum := "f59b16b3cd0d43a7591872175ff547747325c3026cbeb29c24d29763cd9de5e0", func := "hypostyle/hypostylelaw.TableRedacts", spec := "tableRedacts", unfollowed := true, recurses := true, apart := false, narrowed := true }
def TableRedactsUptoSaid : Prop := tableRedactsUptoRow.holds Try.pinned (OpenSpec.upto tableRedactsSpec)

/-- 'hypostylelaw.TableKeeps', WHERE WHAT IT READS IS OF BULK AT MOST 1048576: true; the input reads as it did. -/
def tableKeepsUptoRow : OpenClaim := { program := "ytnjnalehfhfefaa", sum := "f59b16b3cd0d43a7591872175ff547747325c3026cbeb29c24d29763cd9de5e0", func := "hypostyle/hypostylelaw.TableKeeps", spec := "tableKeeps", unfollowed := true, recurses := true, apart := false, narrowed := true }
def TableKeepsUptoSaid : Prop := tableKeepsUptoRow.holds Try.pinned (OpenSpec.upto tableKeepsSpec)

/-- 'hypostylelaw.TableParts', WHERE WHAT IT READS IS OF BULK AT MOST 1048576: true; the input reads as it did. -/
def tablePartsUptoRow : OpenClaim := { program := "ytnjnalehfhfefaa", sum := "f59b16b3cd0d43a7591872175ff547747325c3026cbeb29c24d29763cd9de5e0", func := "hypostyle/hypostylelaw.TableParts", spec := "tableParts", unfollowed := true, recurses := true, apart := false, narrowed := true }
def TablePartsUptoSaid : Prop := tablePartsUptoRow.holds Try.pinned (OpenSpec.upto tablePartsSpec)

/-- 'hypostylelaw.TableProjects', WHERE WHAT IT READS IS OF BULK AT MOST 1048576: true; the input reads as it did. -/
def tableProjectsUptoRow : OpenClaim := { program := "ytnjnalehfhfefaa", sum := "f59b16b3cd0d43a7591872175ff547747325c3026cbeb29c24d29763cd9de5e0", func := "hypostyle/hypostylelaw.TableProjects", spec := "tableProjects", unfollowed := true, recurses := true, apart := false, narrowed := true }
def TableProjectsUptoSaid : Prop := tableProjectsUptoRow.holds Try.pinned (OpenSpec.upto tableProjectsSpec)

end Rows
end Go.Proofs.Ytnjnalehfhfefaa
