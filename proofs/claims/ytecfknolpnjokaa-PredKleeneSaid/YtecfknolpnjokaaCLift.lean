/- From what the form hands over to what the walks ask for: cells, and slices of them. -/
import Derived.Test.YtecfknolpnjokaaLift
import Derived.Test.YtecfknolpnjokaaQ3
import Derived.Deep.Slices
import Derived.Deep.Grids
namespace Go.Proofs.Ytecfknolpnjokaa
open Go.ChangeShapes Go.WideShapes Go.ChangeAt Go.RowKit
set_option linter.unusedVariables false

instance : Inhabited C.Cl := ⟨C.null⟩
def cellD {H : Type} (c : C.Cl) : DataW H := .agg [.lit (.int .i64 c.kind), .lit (.int .u64 (c.num : Int)), .lit (.string c.txt)]

section
variable {H : Type} {enc : TypeId × Value → H} {w : World} {base : Nat} {held : Bool} {spare : Nat → Bool}

theorem open_three {P : Program} {e : TypeId} {f0 f1 f2 : Field} {n : Nat} {cs : List Value} {x : DataW H × List MemPlace} (he : P.underlying e = some (.struct #[f0, f1, f2])) (ce : P.cellsOf e = 3)
    (o0 : f0.offset = 0) (o1 : f1.offset = 1) (o2 : f2.offset = 2) (c0 : P.cellsOf f0.type = 1) (c1 : P.cellsOf f1.type = 1) (c2 : P.cellsOf f2.type = 1)
    (h : DataW.trod enc P w base spare held n e cs = some x) :
    ∃ (k : Nat) (v0 v1 v2 : Value) (y0 y1 y2 : DataW H × List MemPlace), cs = [v0, v1, v2] ∧ x = (.agg [y0.1, y1.1, y2.1], y0.2 ++ y1.2 ++ y2.2) ∧
      DataW.trod enc P w base spare held k f0.type [v0] = some y0 ∧ DataW.trod enc P w base spare held k f1.type [v1] = some y1 ∧ DataW.trod enc P w base spare held k f2.type [v2] = some y2 := by
  obtain ⟨xs, k, _, hxy, hlen, hxl, hf⟩ := DataW.trod_struct he h
  rw [ce] at hlen
  match xs, hxl, cs, hlen with
  | [y0, y1, y2], _, [v0, v1, v2], _ =>
    have g0 := hf 0 f0 rfl
    have g1 := hf 1 f1 rfl
    have g2 := hf 2 f2 rfl
    simp [o0, o1, o2, c0, c1, c2] at g0 g1 g2
    exact ⟨k, v0, v1, v2, y0, y1, y2, rfl, by simpa using hxy, g0, g1, g2⟩
/-- the three values of a cell that came in -/
theorem open_cell3 {n : Nat} {cs : List Value} {x : DataW H × List MemPlace} (h : DataW.trod enc Try.prog w base spare held n 38 cs = some x) :
    ∃ c : C.Cl, cOk c ∧ cs = cx c ∧ x = (cellD c, []) := by
  obtain ⟨k, v0, v1, v2, y0, y1, y2, hcs, hxy, g0, g1, g2⟩ := open_three Try.underlying38 (by kernel_rfl) rfl rfl rfl (by kernel_rfl) (by kernel_rfl) (by kernel_rfl) h
  obtain ⟨z, e1, e2, e3⟩ := DataW.trod_int Try.underlying3 g0
  obtain ⟨y, f1, f2, f3⟩ := DataW.trod_int Try.underlying36 g1
  obtain ⟨s, s1, s2, s3⟩ := DataW.trod_string Try.underlying9 g2
  obtain ⟨m, rfl, hm⟩ := nat_u64 f3
  have hz := bounds_int e3
  simp at e1 f1 s1
  subst e1; subst f1; subst s1; subst e2; subst f2; subst s2
  refine ⟨⟨z, m, s.data.toList⟩, ⟨hz.1, hz.2, hm, by rw [len_data]; exact s3⟩, by rw [hcs]; simp [cx, str], ?_⟩
  rw [hxy]; rfl

/-- a slice of cells that came in -/
theorem open_cells {t : TypeId} {fuel : Nat} {a : Option Addr} {len cap : Nat} {x : DataW H × List MemPlace} (ht : Try.prog.underlying t = some (.slice 38))
    (h : DataW.trod enc Try.prog w base spare held fuel t (Value.slice a len cap).cells.toList = some x) :
    ∃ l : List C.Cl, l.length = len ∧ len ≤ maxLen ∧ (len ≤ cap ∧ cap ≤ maxLen ∧ (a = none → cap = 0)) ∧ (∀ x ∈ l, cOk x) ∧ Cls w w.heap.size a l ∧
      (x.1 = .nil ∧ len = 0 ∨ ∃ r, x.1 = .slice (l.map cellD) r) := by
  rcases Go.Deep.open_slice ht h with ⟨hcs, hx⟩ | ⟨ad, ln, cp, m, n, D, Pl, hcs, hb, hl, hm, hmm, hx, hcell⟩
  · simp [Value.cells] at hcs
    obtain ⟨rfl, rfl, rfl⟩ := hcs
    exact ⟨[], rfl, Nat.zero_le _, ⟨Nat.le_refl _, Nat.zero_le _, fun _ => rfl⟩, by simp, Cls.nil _ _ _, Or.inl ⟨by rw [hx], rfl⟩⟩
  · simp [Value.cells] at hcs
    obtain ⟨rfl, rfl, rfl⟩ := hcs
    have hlm : len ≤ m := by rw [hmm]; split <;> omega
    have each : ∀ i, i < m → ∃ c : C.Cl, cOk c ∧ D i = cellD c ∧ w.cell? (ad.add (i * 3)) = some (.int .i64 c.kind) ∧ w.cell? (ad.add (i * 3 + 1)) = some (.int .u64 (c.num : Int)) ∧ w.cell? (ad.add (i * 3 + 2)) = some (.string (str c.txt)) := by
      intro i hi
      obtain ⟨cs', h1, h2⟩ := hcell i hi
      rw [show Try.prog.cellsOf 38 = 3 by kernel_rfl] at h1
      obtain ⟨_, hlen, hc⟩ := World.cells?_some h1
      obtain ⟨c, hok, rfl, hd⟩ := open_cell3 h2
      have c0 := hc 0 (by omega)
      have c1 := hc 1 (by omega)
      have c2 := hc 2 (by omega)
      rw [Go.Deep.add_add] at c0 c1 c2
      simp only [Prod.mk.injEq] at hd
      exact ⟨c, hok, hd.1, by simpa [cx] using c0, by simpa [cx] using c1, by simpa [cx] using c2⟩
    obtain ⟨Q, hQ⟩ := Go.Deep.choose_lt (α := C.Cl) each
    refine ⟨(List.range len).map Q, by simp, by omega, ⟨hl, hm, fun h => by cases h⟩, ?_, ?_, Or.inr ⟨_, by
      rw [hx]; simp only [List.map_map]; rw [List.map_congr_left (g := cellD ∘ Q) (fun i hi => (hQ i (by have := List.mem_range.1 hi; omega)).2.1)]⟩⟩
    · intro y hy
      obtain ⟨i, hi, rfl⟩ := List.mem_map.1 hy
      exact (hQ i (by have := List.mem_range.1 hi; omega)).1
    intro hne
    have hpos : 0 < len := by
      rcases Nat.eq_zero_or_pos len with h0 | h0
      · rw [h0] at hne; simp at hne
      · exact h0
    obtain ⟨b, off, spot⟩ := ad
    have hspot : spot = none := by simpa [Addr.add] using World.cell?_spot (hQ 0 (by omega)).2.2.1
    subst hspot
    have hc2 : ∀ i, i < len → w.cell? ⟨b, off + i * 3, none⟩ = some (.int .i64 (Q i).kind) ∧ w.cell? ⟨b, off + i * 3 + 1, none⟩ = some (.int .u64 ((Q i).num : Int)) ∧ w.cell? ⟨b, off + i * 3 + 2, none⟩ = some (.string (str (Q i).txt)) := fun i hi => by
      have hq := (hQ i (by omega)).2.2
      rw [Go.WideShapes.add_plain, Go.WideShapes.add_plain, Go.WideShapes.add_plain] at hq
      exact hq
    refine ⟨b, off, rfl, lt_of_cell (hc2 0 hpos).1, fun i hi => ?_⟩
    simp only [List.length_map, List.length_range] at hi
    have hg : ((List.range len).map Q).getD i C.null = Q i := by simp [List.getD, hi]
    rw [hg]
    exact hc2 i hi

set_option maxRecDepth 100000 in
/-- a cell that came in -/
theorem open_cell {r : Reach} {b0 : Nat} {v : Value} {d : DataW H} {ps : List MemPlace} (hval : Value.okWide Try.prog w r b0 38 v) (hd : DataW.Trod enc Try.prog w base spare held 38 v d ps) :
    ∃ c : C.Cl, v = cag c ∧ d = cellD c ∧ ps = [] ∧ cOk c := by
  obtain ⟨cs, rfl, hsz⟩ := okWide_struct Try.underlying38 hval
  obtain ⟨fuel, hf⟩ := hd
  obtain ⟨c, hok, h1, h2⟩ := open_cell3 hf
  have hcs : cs.toList = cx c := by simpa [Value.cells] using h1
  refine ⟨c, ?_, (Prod.mk.injEq _ _ _ _ ▸ h2).1, (Prod.mk.injEq _ _ _ _ ▸ h2).2, hok⟩
  unfold cag
  congr 1
  apply Array.toList_inj.mp
  rw [hcs]; rfl
end
theorem bulk_cells {H : Type} {d : DataW H} {l : List C.Cl} {n : Nat} (hl : l.length = n) (h : d = .nil ∧ n = 0 ∨ ∃ r, d = .slice (l.map cellD) r) : n + 1 ≤ Rows.uptoBulk d := by
  rcases h with ⟨rfl, rfl⟩ | ⟨r, rfl⟩
  · simp [Rows.uptoBulk]
  · have := bulk_length (l.map (cellD (H := H)))
    simp only [List.length_map] at this
    simp only [Rows.uptoBulk]
    omega
end Go.Proofs.Ytecfknolpnjokaa
