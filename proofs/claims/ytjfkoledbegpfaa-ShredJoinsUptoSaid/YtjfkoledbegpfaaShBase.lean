/- Words for forms in memory. -/
import Derived.Test.YtjfkoledbegpfaaBaseC
import Derived.Test.YtjfkoledbegpfaaShPlain
namespace Go.Proofs.Ytjfkoledbegpfaa
open Go.RowKit
set_option linter.unusedVariables false

/-- a slice's fields, read below block B -/
def Fds (w : World) (B : Nat) (a : Option Addr) (l : List Sh.Fd) : Prop :=
  l ≠ [] → ∃ b off, a = some ⟨b, off, none⟩ ∧ b < B ∧ ∀ i, i < l.length → w.cell? ⟨b, off + i * 2, none⟩ = some (.int .i64 (l.getD i Sh.fd0).1) ∧ w.cell? ⟨b, off + i * 2 + 1, none⟩ = some (.int .i64 (l.getD i Sh.fd0).2)
theorem Fds.below {w w' : World} {B : Nat} {a : Option Addr} {l : List Sh.Fd} (h : Fds w B a l) (hb : Below B w w') : Fds w' B a l := by
  intro hl
  obtain ⟨b, off, e, hlt, hc⟩ := h hl
  exact ⟨b, off, e, hlt, fun i hi => ⟨(hb.cell (p := ⟨b, off + i * 2, none⟩) hlt).trans (hc i hi).1, (hb.cell (p := ⟨b, off + i * 2 + 1, none⟩) hlt).trans (hc i hi).2⟩⟩
theorem Fds.mono {w : World} {B B' : Nat} {a : Option Addr} {l : List Sh.Fd} (h : Fds w B a l) (hB : B ≤ B') : Fds w B' a l := by
  intro hl
  obtain ⟨b, off, e, hlt, hc⟩ := h hl
  exact ⟨b, off, e, by omega, hc⟩
theorem Fds.next {w w' : World} {a : Option Addr} {l : List Sh.Fd} (h : Fds w w.heap.size a l) (hb : Below w.heap.size w w') : Fds w' w'.heap.size a l := (h.below hb).mono hb.size
/-- what fits the types -/
def fdOk (f : Sh.Fd) : Prop := -9223372036854775808 ≤ f.1 ∧ f.1 ≤ 9223372036854775807 ∧ -9223372036854775808 ≤ f.2 ∧ f.2 ≤ 9223372036854775807
def ErrPost (n : Nat) (w : World) (e : Ending) (w' : World) : Prop := e = .returned (.int .i64 (n : Int)) ∧ Below w.heap.size w w'
end Go.Proofs.Ytjfkoledbegpfaa
