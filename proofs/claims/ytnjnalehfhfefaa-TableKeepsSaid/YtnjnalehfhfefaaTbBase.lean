/- Words for columns, tables in memory. -/
import Derived.Test.YtnjnalehfhfefaaTbPlain
import Derived.Test.YtnjnalehfhfefaaK3
import Derived.Deep.AppendLies
namespace Go.Proofs.Ytnjnalehfhfefaa
open Go.RowKit
set_option linter.unusedVariables false

/-- the two values of a column -/
def gx (c : Tb.Col) : List Value := [.string (str c.name), .int .i64 c.kind]
def gag (c : Tb.Col) : Value := .agg #[.string (str c.name), .int .i64 c.kind]
def gOk (c : Tb.Col) : Prop := c.name.length ≤ maxLen ∧ -9223372036854775808 ≤ c.kind ∧ c.kind ≤ 9223372036854775807
def at2 (w : World) (b o : Nat) (c : Tb.Col) : Prop := w.cell? ⟨b, o, none⟩ = some (.string (str c.name)) ∧ w.cell? ⟨b, o + 1, none⟩ = some (.int .i64 c.kind)
theorem at2_firm : Firm at2 := fun w w' b o x h ⟨h0, h1⟩ => ⟨by rw [h]; exact h0, by rw [h]; exact h1⟩
abbrev Gls (w : World) (B : Nat) (a : Option Addr) (l : List Tb.Col) : Prop := Sl at2 2 Tb.nulC w B a l
theorem info_col : (Try.prog.info? 27).map (fun i => (i.zero, i.size, i.bytes)) = some (some (.agg #[.string ByteArray.empty, .int .i64 0]), 2, 24) := by kernel_rfl
theorem info_row : (Try.prog.info? 34).map (fun i => (i.zero, i.size, i.bytes)) = some (some (.slice none 0 0), 1, 24) := by kernel_rfl

/-- a slice of cells: what a row is -/
structure RowIn (w : World) (B : Nat) (a : Option Addr) (c : Nat) (r : List C.Cl) : Prop where
  len : r.length ≤ c
  cap : c ≤ maxLen
  nil : a = none → c = 0
  ok : ∀ x ∈ r, cOk x
  cls : Cls w B a r
theorem RowIn.below {w w' : World} {B : Nat} {a : Option Addr} {c : Nat} {r : List C.Cl} (h : RowIn w B a c r) (hb : Below B w w') : RowIn w' B a c r := ⟨h.len, h.cap, h.nil, h.ok, h.cls.below hb⟩
theorem RowIn.mono {w : World} {B B' : Nat} {a : Option Addr} {c : Nat} {r : List C.Cl} (h : RowIn w B a c r) (hB : B ≤ B') : RowIn w B' a c r := ⟨h.len, h.cap, h.nil, h.ok, h.cls.mono hB⟩
theorem RowIn.next {w w' : World} {a : Option Addr} {c : Nat} {r : List C.Cl} (h : RowIn w w.heap.size a c r) (hb : Below w.heap.size w w') : RowIn w' w'.heap.size a c r := ⟨h.len, h.cap, h.nil, h.ok, h.cls.next hb⟩
theorem RowIn.max {w : World} {B : Nat} {a : Option Addr} {c : Nat} {r : List C.Cl} (h : RowIn w B a c r) : r.length ≤ maxLen := Nat.le_trans h.len h.cap
/-- a slice of such -/
def Dat (w : World) (B : Nat) (a : Option Addr) (l : List (List C.Cl)) : Prop :=
  l ≠ [] → ∃ b off, a = some ⟨b, off, none⟩ ∧ b < B ∧ ∀ i, i < l.length → ∃ ai ci, w.cell? ⟨b, off + i, none⟩ = some (.slice ai (l.getD i []).length ci) ∧ RowIn w B ai ci (l.getD i [])
theorem Dat.below {w w' : World} {B : Nat} {a : Option Addr} {l : List (List C.Cl)} (h : Dat w B a l) (hb : Below B w w') : Dat w' B a l := by
  intro hl
  obtain ⟨b, off, e, hlt, hc⟩ := h hl
  refine ⟨b, off, e, hlt, fun i hi => ?_⟩
  obtain ⟨ai, ci, c1, c2⟩ := hc i hi
  exact ⟨ai, ci, by rw [hb.cell (p := ⟨b, off + i, none⟩) hlt]; exact c1, c2.below hb⟩
theorem Dat.mono {w : World} {B B' : Nat} {a : Option Addr} {l : List (List C.Cl)} (h : Dat w B a l) (hB : B ≤ B') : Dat w B' a l := by
  intro hl
  obtain ⟨b, off, e, hlt, hc⟩ := h hl
  refine ⟨b, off, e, by omega, fun i hi => ?_⟩
  obtain ⟨ai, ci, c1, c2⟩ := hc i hi
  exact ⟨ai, ci, c1, c2.mono hB⟩
theorem Dat.next {w w' : World} {a : Option Addr} {l : List (List C.Cl)} (h : Dat w w.heap.size a l) (hb : Below w.heap.size w w') : Dat w' w'.heap.size a l := (h.below hb).mono hb.size
theorem Dat.nil (w : World) (B : Nat) (a : Option Addr) : Dat w B a [] := fun h => absurd rfl h

/-- a table that can be read: its columns' slice, its cells' -/
structure Tbl (w : World) (B : Nat) (ca : Option Addr) (cc : Nat) (da : Option Addr) (dc : Nat) (t : Tb.T) : Prop where
  gls : Gls w B ca t.cols
  dat : Dat w B da t.data
  gOk : ∀ c ∈ t.cols, gOk c
  ccap : t.cols.length ≤ cc ∧ cc ≤ maxLen ∧ (ca = none → cc = 0)
  dcap : t.data.length ≤ dc ∧ dc ≤ maxLen ∧ (da = none → dc = 0)
theorem Tbl.next {w w' : World} {ca : Option Addr} {cc : Nat} {da : Option Addr} {dc : Nat} {t : Tb.T} (h : Tbl w w.heap.size ca cc da dc t) (hb : Below w.heap.size w w') : Tbl w' w'.heap.size ca cc da dc t :=
  ⟨h.gls.next at2_firm hb, h.dat.next hb, h.gOk, h.ccap, h.dcap⟩
theorem Tbl.null (w : World) (B : Nat) : Tbl w B none 0 none 0 Tb.nul := ⟨Sl.nil _ _ _, Dat.nil _ _ _, by simp [Tb.nul], ⟨Nat.le_refl _, by unfold maxLen; omega, fun _ => rfl⟩, ⟨Nat.le_refl _, by unfold maxLen; omega, fun _ => rfl⟩⟩
/-- a table's value -/
abbrev tag (ca : Option Addr) (n cc : Nat) (da : Option Addr) (m dc : Nat) : Value := .agg #[.slice ca n cc, .slice da m dc]
/-- a table that lies in blocks from B on: whatever becomes of those below -/
def FTab (B : Nat) (w : World) (ca : Option Addr) (cc : Nat) (da : Option Addr) (dc : Nat) (r : Tb.T) : Prop :=
  ∀ W : World, (∀ k, B ≤ k → k < w.heap.size → W.heap[k]? = w.heap[k]?) → w.heap.size ≤ W.heap.size → Tbl W W.heap.size ca cc da dc r
theorem FTab.tbl {B : Nat} {w : World} {ca : Option Addr} {cc : Nat} {da : Option Addr} {dc : Nat} {r : Tb.T} (h : FTab B w ca cc da dc r) : Tbl w w.heap.size ca cc da dc r := h w (fun _ _ _ => rfl) (Nat.le_refl _)
theorem FTab.null (B : Nat) (w : World) : FTab B w none 0 none 0 Tb.nul := fun W _ _ => Tbl.null _ _
def TabPost (r : Tb.T × Nat) (w : World) (e : Ending) (w' : World) : Prop :=
  ∃ ca cc da dc, e = .returned (.tuple #[tag ca r.1.cols.length cc da r.1.data.length dc, .int .i64 (r.2 : Nat)]) ∧ FTab w.heap.size w' ca cc da dc r.1 ∧ Below w.heap.size w w'

/-- a block of two cells -/
def Two (w : World) (b : Nat) (t : TypeId) (v0 v1 : Value) : Prop := w.heap[b]? = some (.cells #[v0, v1] t (0, 0))
section
variable {w w' : World} {b : Nat} {t : TypeId} {v0 v1 : Value}
theorem Two.c0 (h : Two w b t v0 v1) : w.cell? ⟨b, 0, none⟩ = some v0 := by unfold Two at h; simp [World.cell?, h]
theorem Two.c1 (h : Two w b t v0 v1) : w.cell? ⟨b, 1, none⟩ = some v1 := by unfold Two at h; simp [World.cell?, h]
theorem Two.free (h : Two w b t v0 v1) (i : Nat) : w.frozen? ⟨b, i, none⟩ = false := by unfold Two at h; simp [World.frozen?, h]
theorem Two.lt (h : Two w b t v0 v1) : b < w.heap.size := lt_of_block h
theorem Two.next (h : Two w b t v0 v1) (hb : Below w.heap.size w w') : Two w' b t v0 v1 := (hb.block b h.lt).trans h
theorem Two.below {B : Nat} (h : Two w b t v0 v1) (hb : Below B w w') (hlt : b < B) : Two w' b t v0 v1 := (hb.block b hlt).trans h
theorem Two.grown {row : Option Nat} (h : Two w b t v0 v1) (hg : w.grownBy w' row) (hne : some b ≠ row) : Two w' b t v0 v1 := (hg.block b h.lt hne).trans h
theorem Two.s0 (h : Two w b t v0 v1) (x : Value) : Two (w.setCell ⟨b, 0, none⟩ x) b t x v1 := by
  unfold Two at *; simp [World.setCell, Array.getElem?_modify, h]
theorem Two.s1 (h : Two w b t v0 v1) (x : Value) : Two (w.setCell ⟨b, 1, none⟩ x) b t v0 x := by
  unfold Two at *; simp [World.setCell, Array.getElem?_modify, h]
theorem two_new (w : World) (t : TypeId) (v0 v1 : Value) : Two (w.alloc (.cells #[v0, v1] t)) w.heap.size t v0 v1 := heap_alloc_new _ _
end

/-- a slice of columns of one's own -/
def GRow (B : Nat) (xs : List Tb.Col) (v : Value) (wr : World) : Prop := wr.ownsRow B 27 2 v xs.length (xs.flatMap gx)
theorem grow_gls {B : Nat} {xs : List Tb.Col} {v : Value} {w : World} (h : GRow B xs v w) : ∃ a c, v = .slice a xs.length c ∧ Gls w w.heap.size a xs ∧ (xs.length ≤ c ∧ c ≤ maxLen ∧ (a = none → c = 0)) := by
  unfold GRow at h
  rcases h.2 with ⟨rfl, h0⟩ | ⟨g, cap, cur, rfl, e2, e3, e4, e5, e6, e7⟩
  · refine ⟨none, 0, by rw [h0], ?_, by omega, by unfold maxLen; omega, fun _ => rfl⟩
    rw [List.eq_nil_of_length_eq_zero h0]; exact Sl.nil _ _ _
  · refine ⟨some ⟨g, 0, none⟩, cap, rfl, fun _ => ⟨g, 0, rfl, lt_of_block e3, fun i hi => ?_⟩, e4, e5, fun h => by cases h⟩
    have hc : ∀ j, j < 2 → w.cell? ⟨g, 0 + i * 2 + j, none⟩ = (gx (xs.getD i Tb.nulC))[j]? := fun j hj => by
      rw [Nat.zero_add, h.cellAt _ (by omega), fm_get (n := 2) (fun _ => rfl) xs Tb.nulC i j hi hj]
    exact ⟨hc 0 (by omega), hc 1 (by omega)⟩
theorem GRow.below {B : Nat} {xs : List Tb.Col} {v : Value} {w w' : World} (h : GRow B xs v w) (hb : Below w.heap.size w w') : GRow B xs v w' := row_below h hb
theorem gnilRow (B : Nat) (w : World) : GRow B [] (.slice none 0 0) w := ⟨rfl, Or.inl ⟨rfl, rfl⟩⟩
/-- a slice of slices of one's own: the values are vs -/
def VRow (B : Nat) (vs : List Value) (v : Value) (wr : World) : Prop := wr.ownsRow B 34 1 v vs.length vs
theorem VRow.below {B : Nat} {xs : List Value} {v : Value} {w w' : World} (h : VRow B xs v w) (hb : Below w.heap.size w w') : VRow B xs v w' := row_below h hb
theorem vnilRow (B : Nat) (w : World) : VRow B [] (.slice none 0 0) w := ⟨rfl, Or.inl ⟨rfl, rfl⟩⟩
/-- these values are these rows, to be read -/
def Reads (w : World) (vs : List Value) (l : List (List C.Cl)) : Prop := vs.length = l.length ∧ ∀ i, i < l.length → ∃ ai ci, vs[i]? = some (.slice ai (l.getD i []).length ci) ∧ RowIn w w.heap.size ai ci (l.getD i [])
theorem vrow_dat {B : Nat} {vs : List Value} {l : List (List C.Cl)} {v : Value} {w : World} (h : VRow B vs v w) (hr : Reads w vs l) : ∃ a c, v = .slice a l.length c ∧ Dat w w.heap.size a l ∧ (l.length ≤ c ∧ c ≤ maxLen ∧ (a = none → c = 0)) := by
  obtain ⟨hl, hr⟩ := hr
  unfold VRow at h
  rw [hl] at h
  rcases h.2 with ⟨rfl, h0⟩ | ⟨g, cap, cur, rfl, e2, e3, e4, e5, e6, e7⟩
  · refine ⟨none, 0, by rw [h0], ?_, by omega, by unfold maxLen; omega, fun _ => rfl⟩
    rw [List.eq_nil_of_length_eq_zero h0]; exact Dat.nil _ _ _
  · refine ⟨some ⟨g, 0, none⟩, cap, rfl, fun _ => ⟨g, 0, rfl, lt_of_block e3, fun i hi => ?_⟩, e4, e5, fun h => by cases h⟩
    obtain ⟨ai, ci, h1, h2⟩ := hr i hi
    exact ⟨ai, ci, by rw [Nat.zero_add, h.cellAt i (by omega)]; exact h1, h2⟩
theorem Reads.nil (w : World) : Reads w [] [] := ⟨rfl, fun i hi => absurd hi (by simp)⟩
theorem Reads.next {w w' : World} {vs : List Value} {l : List (List C.Cl)} (h : Reads w vs l) (hb : Below w.heap.size w w') : Reads w' vs l := ⟨h.1, fun i hi => by
  obtain ⟨ai, ci, h1, h2⟩ := h.2 i hi
  exact ⟨ai, ci, h1, h2.next hb⟩⟩
theorem Reads.snoc {w : World} {vs : List Value} {l : List (List C.Cl)} (h : Reads w vs l) {r : List C.Cl} {a : Option Addr} {c : Nat} (hr : RowIn w w.heap.size a c r) : Reads w (vs ++ [.slice a r.length c]) (l ++ [r]) := by
  refine ⟨by simp [h.1], fun i hi => ?_⟩
  by_cases hlt : i < l.length
  · obtain ⟨ai, ci, h1, h2⟩ := h.2 i hlt
    have e : (l ++ [r]).getD i [] = l.getD i [] := by simp [List.getD, List.getElem?_append_left hlt]
    rw [e]
    exact ⟨ai, ci, by rw [List.getElem?_append_left (by rw [h.1]; exact hlt)]; exact h1, h2⟩
  · have hi' : i = l.length := by simp at hi; omega
    subst hi'
    have e : (l ++ [r]).getD l.length [] = r := by simp [List.getD]
    rw [e]
    exact ⟨a, c, by rw [← h.1]; simp, hr⟩
theorem CRow.rowIn {B : Nat} {xs : List C.Cl} {a : Option Addr} {n c : Nat} {w : World} (h : CRow B xs (.slice a n c) w) (hok : ∀ x ∈ xs, cOk x) : n = xs.length ∧ RowIn w w.heap.size a c xs := by
  obtain ⟨a', c', e, h1, h2⟩ := cRow_cls h
  injection e with e1 e2 e3
  subst e1; subst e3
  exact ⟨e2, ⟨h2.1, h2.2.1, h2.2.2, hok, h1⟩⟩

/-- a table of one's own: its block G, columns, slices, rows; no two rows share a block -/
structure Own (w : World) (B G : Nat) (t : Tb.T) (cv dv : Value) (vs : List Value) : Prop where
  two : Two w G 25 cv dv
  ge : B ≤ G
  gro : GRow B t.cols cv w
  vro : VRow B vs dv w
  len : vs.length = t.data.length
  row : ∀ i, i < t.data.length → ∃ v, vs[i]? = some v ∧ CRow B (t.data.getD i []) v w
  far : ∀ (i j : Nat) (v u : Value), i < j → vs[i]? = some v → vs[j]? = some u → v.ownBlock = none ∨ v.ownBlock ≠ u.ownBlock
  okG : ∀ c ∈ t.cols, gOk c
  okC : ∀ l ∈ t.data, ∀ x ∈ l, cOk x

/-- a block of cells -/
def KindC (w : World) (b : Nat) : Prop := ∃ c fz, w.heap[b]? = some (.cells c 30 fz)
/-- what a change leaves: a table that lies in blocks from B on -/
structure Out (w : World) (B G : Nat) (r : Tb.T) (cv dv : Value) (vs : List Value) : Prop where
  two : Two w G 25 cv dv
  gro : GRow B r.cols cv w
  vro : VRow B vs dv w
  len : vs.length = r.data.length
  row : ∀ i, i < r.data.length → ∃ ai ci, vs[i]? = some (.slice ai (r.data.getD i []).length ci) ∧ RowIn w w.heap.size ai ci (r.data.getD i []) ∧ ∀ b o s, ai = some ⟨b, o, s⟩ → B ≤ b ∧ KindC w b
  okG : ∀ c ∈ r.cols, gOk c
def ClPost (B G : Nat) (er : Nat) (r : Tb.T) (w : World) (e : Ending) (w' : World) : Prop :=
  e = .returned (.int .i64 (er : Nat)) ∧ Below B w w' ∧ (er = 0 → ∃ cv dv vs, Out w' B G r cv dv vs)
end Go.Proofs.Ytnjnalehfhfefaa
