/- Two tables that are the same. -/
import Derived.Test.YtnjnalehfhfefaaTbS
namespace Go.Proofs.Ytnjnalehfhfefaa
open Go.RowKit
set_option linter.unusedVariables false

theorem Tb.Ok.small {t : Tb.T} (h : Tb.Ok t) : Small t := by
  refine ⟨by have := h.six; omega, fun l hl => ?_⟩
  obtain ⟨i, hi, rfl⟩ := List.mem_iff_getElem.1 hl
  have := h.many i (by have := h.len; omega)
  rw [show t.data.getD i [] = t.data[i] by simp [List.getD, List.getElem?_eq_getElem hi]] at this
  omega
theorem small_nul : Small Tb.nul := ⟨by simp [Tb.nul], by simp [Tb.nul]⟩
theorem stab_true {ca : Option Addr} {cc : Nat} {da : Option Addr} {dc : Nat} {t : Tb.T} {ca2 : Option Addr} {cc2 : Nat} {da2 : Option Addr} {dc2 : Nat} {w : World} (ht : Tbl w w.heap.size ca cc da dc t) (hu : Tbl w w.heap.size ca2 cc2 da2 dc2 t) (hsm : Small t) :
    Calls Try.prog 24 #[tag ca t.cols.length cc da t.data.length dc, tag ca2 t.cols.length cc2 da2 t.data.length dc2] w (BoolPost true w) := by
  have := stable_any ca cc da dc t ca2 cc2 da2 dc2 t w ht hu hsm
  rwa [decide_eq_true rfl] at this
end Go.Proofs.Ytnjnalehfhfefaa
