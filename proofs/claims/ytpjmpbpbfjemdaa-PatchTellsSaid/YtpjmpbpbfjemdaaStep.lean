/- Append of one number inside a region that draws its order. -/
import Derived.Test.YtpjmpbpbfjemdaaBase
import Derived.Deep.RegionHeld3
import Derived.Deep.AppendLies
namespace Go.Proofs.Ytpjmpbpbfjemdaa
open Go.RowKit
set_option linter.unusedVariables false

/-- append of one number onto a row of the call's own, at a step of a region that draws -/
theorem step_append_one {w : World} {ops : Array Oper} {o : Oper} {a : Act} {K : Act → World → Prop} {Q : Exit → Act → World → Prop} {E : Prop} (hgd : o.guard = none) (s x : Operand)
    (ho : o.op = .call { callee := .builtin .append, args := #[s, x], argTypes := #[22, 22] }) (base : Nat)
    (v : Value) (xs : List Nat) (hs : a.eval s = v) (hown : NumRow base xs v w)
    (g : Nat) (y : Nat) (hx : a.eval x = .slice (some ⟨g, 0, none⟩) 1 1) (hc : w.cell? ⟨g, 0, none⟩ = some (.int .u64 (y : Int)))
    (hbytes : (xs.length + 1) * 8 ≤ 140737488355328) (hbase : base ≤ w.heap.size)
    (h : ∀ v' w', NumRow base (xs ++ [y]) v' w' → Below base w w' → K (a.put o.dst v') w') :
    if Region.wanted o (yielded ops a.tmps) = true then Oper.wp Try.prog o a w K Q else E := by
  obtain ⟨i, hi, hz0, hz1, hz2⟩ := info_parts info_u64
  refine step_append_lies w hgd s x 22 ho base 23 i (.int .u64 0) 1 8 Try.underlying22 hi hz0 hz1 hz2 rfl (by decide) v xs.length (nv xs) hs hown ⟨g, 0, none⟩ 1 1 [.int .u64 (y : Int)] hx rfl ?_ ?_ (by decide) (by unfold maxLen; omega) hbytes hbase _ rfl ?_
  · intro j u hj
    match j, hj with
    | 0, hj => simp at hj; subst hj; simpa [Addr.add] using hc
  · intro u hu; simp at hu; subst hu; rfl
  · intro g' cap w' h1 h2 h3 h4
    refine h _ w' ?_ ?_
    · unfold NumRow; rw [List.length_append]; simpa [nv] using h1
    · exact (Below.refl base w).grown h2 hbase (fun k hk => (hown.lt k hk).1)
end Go.Proofs.Ytpjmpbpbfjemdaa
