/-
  No cell of these rows narrows 'for every input' (looked for: loops, veiled, ifaces, maps, wideKeys, modest, calm, conditions, laid).
  DERIVED. THE GIVEN ROWS OF THIS SEAT. 5 by the template 'for every input the law returns true; each argument reads behind the call as it read before'; 0 by the template 'total and deterministic' (their statements: YtmjcdjekakaigaaTotals.lean).
  GIVEN WITH THE SEED: the statements are not yours to turn. If you find one false, say at which input.
  Laid BY PROGRAM, IN A SANDBOX (cutbox-rows.mjs): the forced cells as the released guide's own fill.sh prints them over the translation 7c4cb4844e7c2721… (all of the seat's roots in one cut). By AI agents, Wed Nov 11 2026. No macro, syntax, notation, axiom, sorry.
-/
import Derived.Test.YtmjcdjekakaigaaChecked
import GoSem.Claim
import GoSem.ClaimJoined
import GoSem.ClaimMapViews
import Derived.JoinedTies
import Derived.KernelRfl
namespace Go.Proofs.Ytmjcdjekakaigaa
/- THE CELL 'sum', in the pinned program and in every row, IS THE sha256 OF THE DUMP (.gsa) THAT YtmjcdjekakaigaaProg.lean LOADS. Nothing in Lean hashes anything: it is a label: what it is worth is what the hold of that sum in a sandbox is worth. -/
noncomputable def Try.pinned : Pinned := { name := "ytmjcdjekakaigaa", sum := "7c4cb4844e7c272136fa8696d8249f5a9b30f101aaf08a7681e19efae1d88d9c", checked := Try.checked }
namespace Rows
def none {H : Type} : Left H := { results := [], args := [] }

/-- 'hypostylelaw.FsTells': WHATEVER THE INPUT: true; the input reads as it did. -/
def fsTellsSpec : ChangeSpec := { name := "fsTells", fn := fun _ => fun
  | [d1, d2, d3, d4] => { results := [.lit (.bool true)], args := [d1, d2, d3, d4] }
  | _ => none }
def fsTellsRow : OpenClaim := { program := "ytmjcdjekakaigaa", sum := "7c4cb4844e7c272136fa8696d8249f5a9b30f101aaf08a7681e19efae1d88d9c", func := "hypostyle/hypostylelaw.FsTells", spec := "fsTells", inPlace := ["internal/bytealg.abigen_runtime_cmpstring", "slices.overlaps[hypostyle/api.Entry]"], unfollowed := true, recurses := true, apart := false }
def FsTellsSaid : Prop := fsTellsRow.holds Try.pinned (OpenSpec.ofChange fsTellsSpec)

/-- ITS FALSE NEIGHBOUR: 'it returns false'. Refute it at one input. -/
def fsTellsWrong : ChangeSpec := { name := "fsTells", fn := fun _ => fun
  | [d1, d2, d3, d4] => { results := [.lit (.bool false)], args := [d1, d2, d3, d4] }
  | _ => none }
def FsTellsWrongFalsely : Prop := fsTellsRow.holds Try.pinned (OpenSpec.ofChange fsTellsWrong)

/-- 'hypostylelaw.FsPlays': WHATEVER THE INPUT: true; the input reads as it did. -/
def fsPlaysSpec : ChangeSpec := { name := "fsPlays", fn := fun _ => fun
  | [d1, d2, d3] => { results := [.lit (.bool true)], args := [d1, d2, d3] }
  | _ => none }
def fsPlaysRow : OpenClaim := { program := "ytmjcdjekakaigaa", sum := "7c4cb4844e7c272136fa8696d8249f5a9b30f101aaf08a7681e19efae1d88d9c", func := "hypostyle/hypostylelaw.FsPlays", spec := "fsPlays", inPlace := ["internal/bytealg.abigen_runtime_cmpstring", "slices.overlaps[hypostyle/api.Entry]"], unfollowed := true, recurses := true, apart := false }
def FsPlaysSaid : Prop := fsPlaysRow.holds Try.pinned (OpenSpec.ofChange fsPlaysSpec)

/-- ITS FALSE NEIGHBOUR: 'it returns false'. Refute it at one input. -/
def fsPlaysWrong : ChangeSpec := { name := "fsPlays", fn := fun _ => fun
  | [d1, d2, d3] => { results := [.lit (.bool false)], args := [d1, d2, d3] }
  | _ => none }
def FsPlaysWrongFalsely : Prop := fsPlaysRow.holds Try.pinned (OpenSpec.ofChange fsPlaysWrong)

/-- 'hypostylelaw.FsReads': WHATEVER THE INPUT: true; the input reads as it did. -/
def fsReadsSpec : ChangeSpec := { name := "fsReads", fn := fun _ => fun
  | [d1, d2, d3, d4] => { results := [.lit (.bool true)], args := [d1, d2, d3, d4] }
  | _ => none }
def fsReadsRow : OpenClaim := { program := "ytmjcdjekakaigaa", sum := "7c4cb4844e7c272136fa8696d8249f5a9b30f101aaf08a7681e19efae1d88d9c", func := "hypostyle/hypostylelaw.FsReads", spec := "fsReads", inPlace := ["internal/bytealg.abigen_runtime_cmpstring", "slices.overlaps[hypostyle/api.Entry]"], unfollowed := true, recurses := true, apart := false }
def FsReadsSaid : Prop := fsReadsRow.holds Try.pinned (OpenSpec.ofChange fsReadsSpec)

/-- ITS FALSE NEIGHBOUR: 'it returns false'. Refute it at one input. -/
def fsReadsWrong : ChangeSpec := { name := "fsReads", fn := fun _ => fun
  | [d1, d2, d3, d4] => { results := [.lit (.bool false)], args := [d1, d2, d3, d4] }
  | _ => none }
def FsReadsWrongFalsely : Prop := fsReadsRow.holds Try.pinned (OpenSpec.ofChange fsReadsWrong)

/-- 'hypostylelaw.FsGood': WHATEVER THE INPUT: true; the input reads as it did. -/
def fsGoodSpec : ChangeSpec := { name := "fsGood", fn := fun _ => fun
  | [d1, d2, d3, d4] => { results := [.lit (.bool true)], args := [d1, d2, d3, d4] }
  | _ => none }
def fsGoodRow : OpenClaim := { program := "ytmjcdjekakaigaa", sum := "7c4cb4844e7c272136fa8696d8249f5a9b30f101aaf08a7681e19efae1d88d9c", func := "hypostyle/hypostylelaw.FsGood", spec := "fsGood", inPlace := ["internal/bytealg.abigen_runtime_cmpstring", "slices.overlaps[hypostyle/api.Entry]"], unfollowed := true, recurses := true, apart := false }
def FsGoodSaid : Prop := fsGoodRow.holds Try.pinned (OpenSpec.ofChange fsGoodSpec)

/-- ITS FALSE NEIGHBOUR: 'it returns false'. Refute it at one input. -/
def fsGoodWrong : ChangeSpec := { name := "fsGood", fn := fun _ => fun
  | [d1, d2, d3, d4] => { results := [.lit (.bool false)], args := [d1, d2, d3, d4] }
  | _ => none }
def FsGoodWrongFalsely : Prop := fsGoodRow.holds Try.pinned (OpenSpec.ofChange fsGoodWrong)

/-- 'hypostylelaw.FsEither': WHATEVER THE INPUT: true; the input reads as it did. -/
def fsEitherSpec : ChangeSpec := { name := "fsEither", fn := fun _ => fun
  | [d1, d2, d3] => { results := [.lit (.bool true)], args := [d1, d2, d3] }
  | _ => none }
def fsEitherRow : OpenClaim := { program := "ytmjcdjekakaigaa", sum := "7c4cb4844e7c272136fa8696d8249f5a9b30f101aaf08a7681e19efae1d88d9c", func := "hypostyle/hypostylelaw.FsEither", spec := "fsEither", inPlace := ["internal/bytealg.abigen_runtime_cmpstring", "slices.overlaps[hypostyle/api.Entry]"], unfollowed := true, recurses := true, apart := false }
def FsEitherSaid : Prop := fsEitherRow.holds Try.pinned (OpenSpec.ofChange fsEitherSpec)

/-- ITS FALSE NEIGHBOUR: 'it returns false'. Refute it at one input. -/
def fsEitherWrong : ChangeSpec := { name := "fsEither", fn := fun _ => fun
  | [d1, d2, d3] => { results := [.lit (.bool false)], args := [d1, d2, d3] }
  | _ => none }
def FsEitherWrongFalsely : Prop := fsEitherRow.holds Try.pinned (OpenSpec.ofChange fsEitherWrong)

/- THE SECOND FORM. 'bulk': how many values and letters a reading holds, each counted each time it is reached (what is shared counts as often as it is met; a slice's spare places count too). A statement '..UptoSaid' is the law's where the arguments, and the package variables that the reading takes, are together of bulk at most 1048576: NARROWER than '..Said'. Prove '..Said' where nothing that the law and all that it calls make is longer than what came in: it says more and counts as full. Else prove '..UptoSaid'. A law counts once. -/
mutual
def uptoBulk {H : Type} : DataW H → Nat
  | .lit (.string bytes) => bytes.length + 1
  | .lit _ => 1
  | .nil => 1
  | .ptr d => uptoBulk d + 1
  | .slice elems spare => uptoBulkAll elems + uptoBulkAll spare + 1
  | .agg parts => uptoBulkAll parts + 1
  | .iface _ d => uptoBulk d + 1
  | .map entries => uptoBulkEntries entries + 1
  | .held _ => 1
def uptoBulkAll {H : Type} : List (DataW H) → Nat
  | [] => 0
  | d :: r => uptoBulk d + uptoBulkAll r
def uptoBulkEntries {H : Type} : List (Lit × DataW H) → Nat
  | [] => 0
  | x :: r => uptoBulkEntry x + uptoBulkEntries r
def uptoBulkEntry {H : Type} : Lit × DataW H → Nat
  | (.string bytes, d) => bytes.length + uptoBulk d + 1
  | (_, d) => uptoBulk d + 1
 end
def uptoSmall : (H : Type) → List (DataW H) → Bool := fun _ ds => decide (uptoBulkAll ds ≤ 1048576)
def OpenSpec.upto (s : _root_.Go.ChangeSpec) : _root_.Go.OpenSpec := { _root_.Go.OpenSpec.ofChange s with cond := some uptoSmall }

/-- 'hypostylelaw.FsTells', WHERE WHAT IT READS IS OF BULK AT MOST 1048576: true; the input reads as it did. -/
def fsTellsUptoRow : OpenClaim := { program := "ytmjcdjekakaigaa", sum := "7c4cb4844e7c272136fa8696d8249f5a9b30f101aaf08a7681e19efae1d88d9c", func := "hypostyle/hypostylelaw.FsTells", spec := "fsTells", inPlace := ["internal/bytealg.abigen_runtime_cmpstring", "slices.overlaps[hypostyle/api.Entry]"], unfollowed := true, recurses := true, apart := false, narrowed := true }
def FsTellsUptoSaid : Prop := fsTellsUptoRow.holds Try.pinned (OpenSpec.upto fsTellsSpec)

/-- 'hypostylelaw.FsPlays', WHERE WHAT IT READS IS OF BULK AT MOST 1048576: true; the input reads as it did. -/
def fsPlaysUptoRow : OpenClaim := { program := "ytmjcdjekakaigaa", sum := "7c4cb4844e7c272136fa8696d8249f5a9b30f101aaf08a7681e19efae1d88d9c", func := "hypostyle/hypostylelaw.FsPlays", spec := "fsPlays", inPlace := ["internal/bytealg.abigen_runtime_cmpstring", "slices.overlaps[hypostyle/api.Entry]"], unfollowed := true, recurses := true, apart := false, narrowed := true }
def FsPlaysUptoSaid : Prop := fsPlaysUptoRow.holds Try.pinned (OpenSpec.upto fsPlaysSpec)

/-- 'hypostylelaw.FsReads', WHERE WHAT IT READS IS OF BULK AT MOST 1048576: true; the input reads as it did. -/
def fsReadsUptoRow : OpenClaim := { program := "ytmjcdjekakaigaa", sum := "7c4cb4844e7c272136fa8696d8249f5a9b30f101aaf08a7681e19efae1d88d9c", func := "hypostyle/hypostylelaw.FsReads", spec := "fsReads", inPlace := ["internal/bytealg.abigen_runtime_cmpstring", "slices.overlaps[hypostyle/api.Entry]"], unfollowed := true, recurses := true, apart := false, narrowed := true }
def FsReadsUptoSaid : Prop := fsReadsUptoRow.holds Try.pinned (OpenSpec.upto fsReadsSpec)

/-- 'hypostylelaw.FsGood', WHERE WHAT IT READS IS OF BULK AT MOST 1048576: true; the input reads as it did. -/
def fsGoodUptoRow : OpenClaim := { program := "ytmjcdjekakaigaa", sum := "7c4cb4844e7c272136fa8696d8249f5a9b30f101aaf08a7681e19efae1d88d9c", func := "hypostyle/hypostylelaw.FsGood", spec := "fsGood", inPlace := ["internal/bytealg.abigen_runtime_cmpstring", "slices.overlaps[hypostyle/api.Entry]"], unfollowed := true, recurses := true, apart := false, narrowed := true }
def FsGoodUptoSaid : Prop := fsGoodUptoRow.holds Try.pinned (OpenSpec.upto fsGoodSpec)

/-- 'hypostylelaw.FsEither', WHERE WHAT IT READS IS OF BULK AT MOST 1048576: true; the input reads as it did. -/
def fsEitherUptoRow : OpenClaim := { program := "ytmjcdjekakaigaa", sum := "7c4cb4844e7c272136fa8696d8249f5a9b30f101aaf08a7681e19efae1d88d9c", func := "hypostyle/hypostylelaw.FsEither", spec := "fsEither", inPlace := ["internal/bytealg.abigen_runtime_cmpstring", "slices.overlaps[hypostyle/api.Entry]"], unfollowed := true, recurses := true, apart := false, narrowed := true }
def FsEitherUptoSaid : Prop := fsEitherUptoRow.holds Try.pinned (OpenSpec.upto fsEitherSpec)

end Rows
end Go.Proofs.Ytmjcdjekakaigaa
