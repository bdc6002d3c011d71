/- From what the form hands over to what the walks ask for: tables, columns. -/
import Derived.Test.YtnjnalehfhfefaaK3
import Derived.Test.YtnjnalehfhfefaaTa
namespace Go.Proofs.Ytnjnalehfhfefaa
open Go.ChangeShapes Go.WideShapes Go.ChangeAt Go.RowKit
set_option linter.unusedVariables false

instance : Inhabited Tb.Col := ⟨Tb.nulC⟩
def colD {H : Type} (c : Tb.Col) : DataW H := .agg [.lit (.string c.name), .lit (.int .i64 c.kind)]

section
variable {H : Type} {enc : TypeId × Value → H} {w : World} {base : Nat} {held : Bool} {spare : Nat → Bool}

theorem open_two {P : Program} {e : TypeId} {f0 f1 : Field} {n : Nat} {cs : List Value} {x : DataW H × List MemPlace} (he : P.underlying e = some (.struct #[f0, f1])) (ce : P.cellsOf e = 2)
    (o0 : f0.offset = 0) (o1 : f1.offset = 1) (c0 : P.cellsOf f0.type = 1) (c1 : P.cellsOf f1.type = 1)
    (h : DataW.trod enc P w base spare held n e cs = some x) :
    ∃ (k : Nat) (v0 v1 : Value) (y0 y1 : DataW H × List MemPlace), cs = [v0, v1] ∧ x = (.agg [y0.1, y1.1], y0.2 ++ y1.2) ∧
      DataW.trod enc P w base spare held k f0.type [v0] = some y0 ∧ DataW.trod enc P w base spare held k f1.type [v1] = some y1 := by
  obtain ⟨xs, k, _, hxy, hlen, hxl, hf⟩ := DataW.trod_struct he h
  rw [ce] at hlen
  match xs, hxl, cs, hlen with
  | [y0, y1], _, [v0, v1], _ =>
    have g0 := hf 0 f0 rfl
    have g1 := hf 1 f1 rfl
    simp [o0, o1, c0, c1] at g0 g1
    exact ⟨k, v0, v1, y0, y1, rfl, by simpa using hxy, g0, g1⟩
theorem open_col2 {n : Nat} {cs : List Value} {x : DataW H × List MemPlace} (h : DataW.trod enc Try.prog w base spare held n 27 cs = some x) :
    ∃ c : Tb.Col, gOk c ∧ cs = gx c ∧ x = (colD c, []) := by
  obtain ⟨k, v0, v1, y0, y1, hcs, hxy, g0, g1⟩ := open_two Try.underlying27 (by kernel_rfl) rfl rfl (by kernel_rfl) (by kernel_rfl) h
  obtain ⟨s, s1, s2, s3⟩ := DataW.trod_string Try.underlying9 g0
  obtain ⟨z, e1, e2, e3⟩ := DataW.trod_int Try.underlying3 g1
  have hz := bounds_int e3
  simp at e1 s1
  subst e1; subst e2; subst s1; subst s2
  exact ⟨⟨s.data.toList, z⟩, ⟨by rw [len_data]; exact s3, hz⟩, by rw [hcs]; simp [gx, str], by rw [hxy]; rfl⟩
/-- a slice of columns that came in -/
theorem open_gls {t : TypeId} {fuel : Nat} {a : Option Addr} {len cap : Nat} {x : DataW H × List MemPlace} (ht : Try.prog.underlying t = some (.slice 27))
    (h : DataW.trod enc Try.prog w base spare held fuel t (Value.slice a len cap).cells.toList = some x) :
    ∃ l : List Tb.Col, l.length = len ∧ len ≤ maxLen ∧ (len ≤ cap ∧ cap ≤ maxLen ∧ (a = none → cap = 0)) ∧ (∀ x ∈ l, gOk x) ∧ Gls w w.heap.size a l ∧ (x.1 = .nil ∧ len = 0 ∨ ∃ r, x.1 = .slice (l.map colD) r) :=
  open_sl (α := Tb.Col) (n := 2) (D := colD) (cf := gx) (by omega) ht (by kernel_rfl) (fun _ => rfl) (fun h _ => open_col2 h) (fun b o c hc => ⟨hc 0 _ rfl, hc 1 _ rfl⟩) h
set_option maxRecDepth 100000 in
/-- a column that came in -/
theorem open_col {r : Reach} {b0 : Nat} {v : Value} {d : DataW H} {ps : List MemPlace} (hval : Value.okWide Try.prog w r b0 27 v) (hd : DataW.Trod enc Try.prog w base spare held 27 v d ps) :
    ∃ c : Tb.Col, v = gag c ∧ d = colD c ∧ ps = [] ∧ gOk c := by
  obtain ⟨cs, rfl, hsz⟩ := okWide_struct Try.underlying27 hval
  obtain ⟨fuel, hf⟩ := hd
  obtain ⟨c, hok, h1, h2⟩ := open_col2 hf
  have hcs : cs.toList = gx c := by simpa [Value.cells] using h1
  refine ⟨c, ?_, (Prod.mk.injEq _ _ _ _ ▸ h2).1, (Prod.mk.injEq _ _ _ _ ▸ h2).2, hok⟩
  unfold gag
  congr 1
  apply Array.toList_inj.mp
  rw [hcs]; rfl
theorem open_rowIn {n : Nat} {cs : List Value} {x : DataW H × List MemPlace} (h : DataW.trod enc Try.prog w base spare held n 34 cs = some x) :
    ∃ (a : Option Addr) (c : Nat) (l : List C.Cl), cs = [.slice a l.length c] ∧ RowIn w w.heap.size a c l := by
  rcases Go.Deep.open_slice Try.underlying34 h with ⟨hcs, hx⟩ | ⟨ad, ln, cp, m, n', Dd, Pl, hcs, hb, hl, hm, hmm, hx, hcell⟩
  · exact ⟨none, 0, [], hcs, ⟨Nat.le_refl _, Nat.zero_le _, fun _ => rfl, by simp, Cls.nil _ _ _⟩⟩
  · rw [hcs] at h
    obtain ⟨l, h1, h2, h3, h4, h5, h6⟩ := open_cells (a := some ad) (len := ln) (cap := cp) Try.underlying34 (by simpa [Value.cells] using h)
    exact ⟨some ad, cp, l, by rw [hcs, h1], ⟨by omega, by omega, (fun h => by cases h), h4, h5⟩⟩
theorem open_dat {t : TypeId} {fuel : Nat} {a : Option Addr} {len cap : Nat} {x : DataW H × List MemPlace} (ht : Try.prog.underlying t = some (.slice 34))
    (h : DataW.trod enc Try.prog w base spare held fuel t (Value.slice a len cap).cells.toList = some x) :
    ∃ l : List (List C.Cl), l.length = len ∧ len ≤ maxLen ∧ (len ≤ cap ∧ cap ≤ maxLen ∧ (a = none → cap = 0)) ∧ Dat w w.heap.size a l := by
  rcases Go.Deep.open_slice ht h with ⟨hcs, hx⟩ | ⟨ad, ln, cp, m, n', Dd, Pl, hcs, hb, hl, hm, hmm, hx, hcell⟩
  · simp [Value.cells] at hcs
    obtain ⟨rfl, rfl, rfl⟩ := hcs
    exact ⟨[], rfl, Nat.zero_le _, ⟨Nat.le_refl _, Nat.zero_le _, fun _ => rfl⟩, fun h => absurd rfl h⟩
  · simp [Value.cells] at hcs
    obtain ⟨rfl, rfl, rfl⟩ := hcs
    have hlm : len ≤ m := by rw [hmm]; split <;> omega
    have each : ∀ i, i < m → ∃ l : List C.Cl, ∃ ai ci, w.cell? (ad.add i) = some (.slice ai l.length ci) ∧ RowIn w w.heap.size ai ci l := by
      intro i hi
      obtain ⟨cs', h1, h2⟩ := hcell i hi
      rw [show Try.prog.cellsOf 34 = 1 by kernel_rfl] at h1
      obtain ⟨_, hlen, hc⟩ := World.cells?_some h1
      obtain ⟨ai, ci, l, rfl, q1⟩ := open_rowIn h2
      have c0 := hc 0 (by omega)
      rw [Go.Deep.add_add, Nat.mul_one, Nat.add_zero] at c0
      exact ⟨l, ai, ci, by simpa using c0, q1⟩
    obtain ⟨Q, hQ⟩ := Go.Deep.choose_lt (α := List C.Cl) each
    refine ⟨(List.range len).map Q, by simp, by omega, ⟨hl, hm, fun h => by cases h⟩, ?_⟩
    intro hne
    have hpos : 0 < len := by
      rcases Nat.eq_zero_or_pos len with h0 | h0
      · rw [h0] at hne; simp at hne
      · exact h0
    obtain ⟨b, off, spot⟩ := ad
    obtain ⟨a0, c0, hc00, _⟩ := hQ 0 (by omega)
    have hspot : spot = none := by simpa [Addr.add] using World.cell?_spot hc00
    subst hspot
    rw [Go.WideShapes.add_plain] at hc00
    refine ⟨b, off, rfl, lt_of_cell hc00, fun i hi => ?_⟩
    simp only [List.length_map, List.length_range] at hi
    have hg : ((List.range len).map Q).getD i [] = Q i := by simp [List.getD, hi]
    rw [hg]
    obtain ⟨ai, ci, q0, q1⟩ := hQ i (by omega)
    rw [Go.WideShapes.add_plain] at q0
    exact ⟨ai, ci, q0, q1⟩
theorem open_slice1 {t e : TypeId} {n : Nat} {v : Value} {x : DataW H × List MemPlace} (ht : Try.prog.underlying t = some (.slice e)) (h : DataW.trod enc Try.prog w base spare held n t [v] = some x) : ∃ a len cap, v = .slice a len cap := by
  rcases Go.Deep.open_slice ht h with ⟨hcs, hx⟩ | ⟨ad, ln, cp, m, n', Dd, Pl, hcs, hb, hl, hm, hmm, hx, hcell⟩
  · exact ⟨_, _, _, by simpa using hcs⟩
  · exact ⟨_, _, _, by simpa using hcs⟩
set_option maxRecDepth 100000 in
/-- a table that came in -/
theorem open_tbl {r : Reach} {b0 : Nat} {v : Value} {d : DataW H} {ps : List MemPlace} (hval : Value.okWide Try.prog w r b0 25 v) (hd : DataW.Trod enc Try.prog w base spare held 25 v d ps) :
    ∃ (ca : Option Addr) (cc : Nat) (da : Option Addr) (dc : Nat) (t : Tb.T), v = tag ca t.cols.length cc da t.data.length dc ∧ Tbl w w.heap.size ca cc da dc t := by
  obtain ⟨cs, rfl, hsz⟩ := okWide_struct Try.underlying25 hval
  obtain ⟨fuel, hf⟩ := hd
  obtain ⟨k, v0, v1, y0, y1, hcs, hxy, g0, g1⟩ := open_two Try.underlying25 (by kernel_rfl) rfl rfl (by kernel_rfl) (by kernel_rfl) hf
  obtain ⟨ca, cl, cc, rfl⟩ := open_slice1 Try.underlying22 g0
  obtain ⟨da, dl, dc, rfl⟩ := open_slice1 Try.underlying23 g1
  obtain ⟨l, rfl, h2, h3, h4, h5, _⟩ := open_gls (a := ca) (cap := cc) Try.underlying22 (by simpa [Value.cells] using g0)
  obtain ⟨m, rfl, k2, k3, k4⟩ := open_dat (a := da) (cap := dc) Try.underlying23 (by simpa [Value.cells] using g1)
  refine ⟨ca, cc, da, dc, ⟨l, m⟩, ?_, ⟨h5, k4, h4, h3, k3⟩⟩
  have : cs.toList = [.slice ca l.length cc, .slice da m.length dc] := by simpa [Value.cells] using hcs
  unfold tag
  congr 1
  apply Array.toList_inj.mp
  rw [this]
end
end Go.Proofs.Ytnjnalehfhfefaa
