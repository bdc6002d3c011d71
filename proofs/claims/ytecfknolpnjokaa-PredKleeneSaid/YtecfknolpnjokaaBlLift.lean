/- From what the form hands over to what the walks ask for: a filter. -/
import Derived.Test.YtecfknolpnjokaaCLift
import Derived.Test.YtecfknolpnjokaaQ3
import Derived.Laws.IdiomArrays
namespace Go.Proofs.Ytecfknolpnjokaa
open Go.ChangeShapes Go.WideShapes Go.ChangeAt Go.RowKit
set_option linter.unusedVariables false

section
variable {H : Type} {enc : TypeId × Value → H} {w : World} {base : Nat} {held : Bool} {spare : Nat → Bool}

def filD {H : Type} (f : Bl.F) : DataW H := .agg [.lit (.int .u64 (f 0 : Nat)), .lit (.int .u64 (f 1 : Nat)), .lit (.int .u64 (f 2 : Nat)), .lit (.int .u64 (f 3 : Nat))]

theorem nat_of_u64 {x : Int} (h : 0 ≤ x) : ∃ n : Nat, x = n := ⟨x.toNat, by omega⟩
def fn4 (a b c d : Nat) : Bl.F := fun j => if j = 0 then a else if j = 1 then b else if j = 2 then c else d

set_option maxRecDepth 100000 in
/-- a filter that came in -/
theorem open_fil {r : Reach} {b0 : Nat} {v : Value} {d : DataW H} {ps : List MemPlace} (hval : Value.okWide Try.prog w r b0 43 v) (hd : DataW.Trod enc Try.prog w base spare held 43 v d ps) :
    ∃ f : Bl.F, v = fag f ∧ d = filD f ∧ ps = [] ∧ Bl.fOk f := by
  obtain ⟨cs, rfl, hsz, _⟩ : ∃ cs, v = .agg cs ∧ cs.size = Try.prog.cellsOf 43 ∧ Row.okWide Try.prog w r b0 43 cs := by
    simpa [Value.okWide, Try.underlying43] using hval
  rw [show Try.prog.cellsOf 43 = 4 by kernel_rfl] at hsz
  obtain ⟨l⟩ := cs
  match l, hsz with
  | [c0, c1, c2, c3], _ =>
    obtain ⟨fuel, hf⟩ := hd
    obtain ⟨y0, y1, y2, y3, m, hx, hy0, hy1, hy2, hy3⟩ := trod_array4 Try.underlying43 (by kernel_rfl) hf
    obtain ⟨x0, e0, rfl, w0⟩ := DataW.trod_int Try.underlying36 hy0
    obtain ⟨x1, e1, rfl, w1⟩ := DataW.trod_int Try.underlying36 hy1
    obtain ⟨x2, e2, rfl, w2⟩ := DataW.trod_int Try.underlying36 hy2
    obtain ⟨x3, e3, rfl, w3⟩ := DataW.trod_int Try.underlying36 hy3
    simp at e0 e1 e2 e3
    subst e0 e1 e2 e3
    simp only [Prod.mk.injEq] at hx
    obtain ⟨rfl, rfl⟩ := hx
    obtain ⟨n0, rfl, h0⟩ := nat_u64 w0
    obtain ⟨n1, rfl, h1⟩ := nat_u64 w1
    obtain ⟨n2, rfl, h2⟩ := nat_u64 w2
    obtain ⟨n3, rfl, h3⟩ := nat_u64 w3
    refine ⟨fn4 n0 n1 n2 n3, rfl, rfl, rfl, fun j hj => ?_⟩
    have : j = 0 ∨ j = 1 ∨ j = 2 ∨ j = 3 := by omega
    rcases this with rfl | rfl | rfl | rfl <;> assumption

end
end Go.Proofs.Ytecfknolpnjokaa
