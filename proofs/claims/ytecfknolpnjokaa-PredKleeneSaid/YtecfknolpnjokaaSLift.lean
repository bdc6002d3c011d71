/- From what the form hands over to what the walks ask for: what is known of a column. -/
import Derived.Test.YtecfknolpnjokaaCLift
import Derived.Test.YtecfknolpnjokaaQ3
namespace Go.Proofs.Ytecfknolpnjokaa
open Go.ChangeShapes Go.WideShapes Go.ChangeAt Go.RowKit
set_option linter.unusedVariables false

def statsD {H : Type} (s : S.St) : DataW H := .agg [.lit (.int .i64 s.rows), .lit (.int .i64 s.nulls), cellD s.least, cellD s.most]

section
variable {H : Type} {enc : TypeId × Value → H} {w : World} {base : Nat} {held : Bool} {spare : Nat → Bool}

theorem open_four {P : Program} {e : TypeId} {f0 f1 f2 f3 : Field} {n : Nat} {cs : List Value} {x : DataW H × List MemPlace} (he : P.underlying e = some (.struct #[f0, f1, f2, f3])) (ce : P.cellsOf e = 8)
    (o0 : f0.offset = 0) (o1 : f1.offset = 1) (o2 : f2.offset = 2) (o3 : f3.offset = 5) (c0 : P.cellsOf f0.type = 1) (c1 : P.cellsOf f1.type = 1) (c2 : P.cellsOf f2.type = 3) (c3 : P.cellsOf f3.type = 3)
    (h : DataW.trod enc P w base spare held n e cs = some x) :
    ∃ (k : Nat) (v0 v1 v2 v3 v4 v5 v6 v7 : Value) (y0 y1 y2 y3 : DataW H × List MemPlace), cs = [v0, v1, v2, v3, v4, v5, v6, v7] ∧ x = (.agg [y0.1, y1.1, y2.1, y3.1], y0.2 ++ y1.2 ++ y2.2 ++ y3.2) ∧
      DataW.trod enc P w base spare held k f0.type [v0] = some y0 ∧ DataW.trod enc P w base spare held k f1.type [v1] = some y1 ∧ DataW.trod enc P w base spare held k f2.type [v2, v3, v4] = some y2 ∧ DataW.trod enc P w base spare held k f3.type [v5, v6, v7] = some y3 := by
  obtain ⟨xs, k, _, hxy, hlen, hxl, hf⟩ := DataW.trod_struct he h
  rw [ce] at hlen
  match xs, hxl, cs, hlen with
  | [y0, y1, y2, y3], _, [v0, v1, v2, v3, v4, v5, v6, v7], _ =>
    have g0 := hf 0 f0 rfl
    have g1 := hf 1 f1 rfl
    have g2 := hf 2 f2 rfl
    have g3 := hf 3 f3 rfl
    simp [o0, o1, o2, o3, c0, c1, c2, c3] at g0 g1 g2 g3
    exact ⟨k, v0, v1, v2, v3, v4, v5, v6, v7, y0, y1, y2, y3, rfl, by simpa using hxy, g0, g1, g2, g3⟩
theorem open_stats8 {n : Nat} {cs : List Value} {x : DataW H × List MemPlace} (h : DataW.trod enc Try.prog w base spare held n 40 cs = some x) :
    ∃ s : S.St, sOk s ∧ cs = sx s ∧ x = (statsD s, []) := by
  obtain ⟨k, v0, v1, v2, v3, v4, v5, v6, v7, y0, y1, y2, y3, hcs, hxy, g0, g1, g2, g3⟩ := open_four Try.underlying40 (by kernel_rfl) rfl rfl rfl rfl (by kernel_rfl) (by kernel_rfl) (by kernel_rfl) (by kernel_rfl) h
  obtain ⟨z, e1, e2, e3⟩ := DataW.trod_int Try.underlying3 g0
  obtain ⟨y, f1, f2, f3⟩ := DataW.trod_int Try.underlying3 g1
  obtain ⟨l, hl, l1, l2⟩ := open_cell3 g2
  obtain ⟨m, hm, m1, m2⟩ := open_cell3 g3
  have hz := bounds_int e3
  have hy := bounds_int f3
  simp at e1 f1
  simp [cx] at l1 m1
  obtain ⟨rfl, rfl, rfl⟩ := l1
  obtain ⟨rfl, rfl, rfl⟩ := m1
  subst e1; subst f1; subst e2; subst f2; subst l2; subst m2
  exact ⟨⟨z, y, l, m⟩, ⟨hz, hy, hl, hm⟩, by rw [hcs]; rfl, by rw [hxy]; rfl⟩
set_option maxRecDepth 100000 in
/-- what is known of a column, that came in -/
theorem open_stats {r : Reach} {b0 : Nat} {v : Value} {d : DataW H} {ps : List MemPlace} (hval : Value.okWide Try.prog w r b0 40 v) (hd : DataW.Trod enc Try.prog w base spare held 40 v d ps) :
    ∃ s : S.St, v = sag s ∧ d = statsD s ∧ ps = [] ∧ sOk s := by
  obtain ⟨cs, rfl, hsz⟩ := okWide_struct Try.underlying40 hval
  obtain ⟨fuel, hf⟩ := hd
  obtain ⟨s, hok, h1, h2⟩ := open_stats8 hf
  have hcs : cs.toList = sx s := by simpa [Value.cells] using h1
  refine ⟨s, ?_, (Prod.mk.injEq _ _ _ _ ▸ h2).1, (Prod.mk.injEq _ _ _ _ ▸ h2).2, hok⟩
  unfold sag
  congr 1
  apply Array.toList_inj.mp
  rw [hcs]; rfl
end
end Go.Proofs.Ytecfknolpnjokaa
