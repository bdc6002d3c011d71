/- Words for cells of columns, and slices of them. -/
import Derived.Test.YtbhggbohkddlaaaBaseC
import Derived.Test.YtbhggbohkddlaaaNPlain
import Derived.Laws.OwnMore
namespace Go.Proofs.Ytbhggbohkddlaaa
open Go.RowKit
set_option linter.unusedVariables false

/-- the three values of a cell -/
def cx (c : C.Cl) : List Value := [.int .i64 c.kind, .int .u64 (c.num : Int), .string (str c.txt)]
def cag (c : C.Cl) : Value := .agg #[.int .i64 c.kind, .int .u64 (c.num : Int), .string (str c.txt)]
/-- what fits the types -/
def cOk (c : C.Cl) : Prop := -9223372036854775808 ≤ c.kind ∧ c.kind ≤ 9223372036854775807 ∧ c.num < 18446744073709551616 ∧ c.txt.length ≤ maxLen
theorem cOk_null : cOk C.null := by unfold cOk C.null; simp [maxLen]

/-- a slice's cells, read below block B -/
def Cls (w : World) (B : Nat) (a : Option Addr) (l : List C.Cl) : Prop :=
  l ≠ [] → ∃ b off, a = some ⟨b, off, none⟩ ∧ b < B ∧ ∀ i, i < l.length → w.cell? ⟨b, off + i * 3, none⟩ = some (.int .i64 (l.getD i C.null).kind) ∧ w.cell? ⟨b, off + i * 3 + 1, none⟩ = some (.int .u64 ((l.getD i C.null).num : Int)) ∧ w.cell? ⟨b, off + i * 3 + 2, none⟩ = some (.string (str (l.getD i C.null).txt))

theorem Cls.below {w w' : World} {B : Nat} {a : Option Addr} {l : List C.Cl} (h : Cls w B a l) (hb : Below B w w') : Cls w' B a l := by
  intro hl
  obtain ⟨b, off, e, hlt, hc⟩ := h hl
  exact ⟨b, off, e, hlt, fun i hi => ⟨(hb.cell (p := ⟨b, off + i * 3, none⟩) hlt).trans (hc i hi).1, (hb.cell (p := ⟨b, off + i * 3 + 1, none⟩) hlt).trans (hc i hi).2.1, (hb.cell (p := ⟨b, off + i * 3 + 2, none⟩) hlt).trans (hc i hi).2.2⟩⟩
theorem Cls.mono {w : World} {B B' : Nat} {a : Option Addr} {l : List C.Cl} (h : Cls w B a l) (hB : B ≤ B') : Cls w B' a l := by
  intro hl
  obtain ⟨b, off, e, hlt, hc⟩ := h hl
  exact ⟨b, off, e, by omega, hc⟩
theorem Cls.nil (w : World) (B : Nat) (a : Option Addr) : Cls w B a [] := fun h => absurd rfl h
theorem Cls.next {w w' : World} {a : Option Addr} {l : List C.Cl} (h : Cls w w.heap.size a l) (hb : Below w.heap.size w w') : Cls w' w'.heap.size a l := (h.below hb).mono hb.size

def cv (l : List C.Cl) : List Value := l.flatMap cx
theorem cv_cons (c : C.Cl) (l : List C.Cl) : cv (c :: l) = .int .i64 c.kind :: .int .u64 (c.num : Int) :: .string (str c.txt) :: cv l := rfl
theorem cv_length (l : List C.Cl) : (cv l).length = l.length * 3 := by
  induction l with
  | nil => rfl
  | cons c l ih => rw [cv_cons]; simp only [List.length_cons, ih]; omega
theorem cv_append (a b : List C.Cl) : cv (a ++ b) = cv a ++ cv b := by simp [cv]
theorem cv_get (l : List C.Cl) (i : Nat) (hi : i < l.length) : (cv l)[i * 3]? = some (.int .i64 (l.getD i C.null).kind) ∧ (cv l)[i * 3 + 1]? = some (.int .u64 ((l.getD i C.null).num : Int)) ∧ (cv l)[i * 3 + 2]? = some (.string (str (l.getD i C.null).txt)) := by
  induction l generalizing i with
  | nil => simp at hi
  | cons c l ih =>
    cases i with
    | zero => simp [cv_cons]
    | succ i =>
      have := ih i (by simpa using hi)
      rw [cv_cons, show (i + 1) * 3 = i * 3 + 1 + 1 + 1 by omega, show i * 3 + 1 + 1 + 1 + 1 = (i * 3 + 1) + 1 + 1 + 1 by omega, show i * 3 + 1 + 1 + 1 + 2 = (i * 3 + 2) + 1 + 1 + 1 by omega]
      simpa using this
theorem cv_set (l : List C.Cl) (i : Nat) (c : C.Cl) (hi : i < l.length) : (((cv l).set (i * 3) (.int .i64 c.kind)).set (i * 3 + 1) (.int .u64 (c.num : Int))).set (i * 3 + 2) (.string (str c.txt)) = cv (l.set i c) := by
  induction l generalizing i with
  | nil => simp at hi
  | cons r l ih =>
    cases i with
    | zero => simp [cv_cons]
    | succ i =>
      have := ih i (by simpa using hi)
      rw [cv_cons, show (i + 1) * 3 = i * 3 + 1 + 1 + 1 by omega, show i * 3 + 1 + 1 + 1 + 1 = (i * 3 + 1) + 1 + 1 + 1 by omega, show i * 3 + 1 + 1 + 1 + 2 = (i * 3 + 2) + 1 + 1 + 1 by omega]
      simp [this, cv_cons]

theorem info_cell : (Try.prog.info? 26).map (fun i => (i.zero, i.size, i.bytes)) = some (some (.agg #[.int .i64 0, .int .u64 0, .string ByteArray.empty]), 3, 32) := by kernel_rfl

/-- a slice of cells that the call made -/
def CRow (B : Nat) (xs : List C.Cl) (v : Value) (wr : World) : Prop := wr.ownsRow B 26 3 v xs.length (cv xs)
theorem cRow_cls {B : Nat} {xs : List C.Cl} {v : Value} {w : World} (h : CRow B xs v w) : ∃ a c, v = .slice a xs.length c ∧ Cls w w.heap.size a xs ∧ (xs.length ≤ c ∧ c ≤ maxLen ∧ (a = none → c = 0)) := by
  unfold CRow at h
  rcases h.2 with ⟨rfl, h0⟩ | ⟨g, cap, cur, rfl, e2, e3, e4, e5, e6, e7⟩
  · refine ⟨none, 0, by rw [h0], ?_, by omega, by unfold maxLen; omega, fun _ => rfl⟩
    rw [List.eq_nil_of_length_eq_zero h0]; exact Cls.nil _ _ _
  · refine ⟨some ⟨g, 0, none⟩, cap, rfl, fun _ => ⟨g, 0, rfl, lt_of_block e3, fun i hi => ?_⟩, e4, e5, fun h => by cases h⟩
    rw [Nat.zero_add, h.cellAt (i * 3) (by omega), h.cellAt (i * 3 + 1) (by omega), h.cellAt (i * 3 + 2) (by omega)]
    exact cv_get xs i hi
theorem CRow.below {B : Nat} {xs : List C.Cl} {v : Value} {w w' : World} (h : CRow B xs v w) (hb : Below w.heap.size w w') : CRow B xs v w' := row_below h hb
theorem CRow.alloc_ {B : Nat} {xs : List C.Cl} {v : Value} {w : World} (h : CRow B xs v w) (o : Obj) : CRow B xs v (w.alloc o) := World.ownsRow.alloc h o
theorem cnilRow (B : Nat) (w : World) : CRow B [] (.slice none 0 0) w := ⟨rfl, Or.inl ⟨rfl, rfl⟩⟩
theorem CRow.form {B : Nat} {xs : List C.Cl} {a : Option Addr} {n c : Nat} {w : World} (h : CRow B xs (.slice a n c) w) (hne : xs ≠ []) : ∃ g, a = some ⟨g, 0, none⟩ ∧ n = xs.length ∧ B ≤ g ∧ g < w.heap.size := by
  unfold CRow at h
  rcases h.2 with ⟨he, h0⟩ | ⟨g, cap, cur, he, e2, e3, e4⟩
  · exact absurd (List.eq_nil_of_length_eq_zero h0) hne
  · injection he with h1 h2 h3
    exact ⟨g, h1, h2, e2, lt_of_block e3⟩

/-- append of one cell onto a row of the call's own -/
theorem wpList_append_onec {w : World} {ops : Array Oper} {rest : List Oper} {o : Oper} {a : Act} {Q : Exit → Act → World → Prop} (hgd : o.guard = none) (s x : Operand)
    (ho : o.op = .call { callee := .builtin .append, args := #[s, x], argTypes := #[24, 24] }) (base : Nat)
    (v : Value) (xs : List C.Cl) (hs : a.eval s = v) (hown : CRow base xs v w)
    (g : Nat) (y : C.Cl) (hx : a.eval x = .slice (some ⟨g, 0, none⟩) 1 1) (hc0 : w.cell? ⟨g, 0, none⟩ = some (.int .i64 y.kind)) (hc1 : w.cell? ⟨g, 1, none⟩ = some (.int .u64 (y.num : Int))) (hc2 : w.cell? ⟨g, 2, none⟩ = some (.string (str y.txt)))
    (hbytes : (xs.length + 1) * 32 ≤ 140737488355328) (hbase : base ≤ w.heap.size)
    (h : ∀ v' w', CRow base (xs ++ [y]) v' w' → Below base w w' → w.grownBy w' v.ownBlock → wpList Try.prog ops Q rest (a.put o.dst v') w') : wpList Try.prog ops Q (o :: rest) a w := by
  obtain ⟨i, hi, hz0, hz1, hz2⟩ := info_parts info_cell
  refine wpList_append_own w hgd s x 24 ho base 26 i (.agg #[.int .i64 0, .int .u64 0, .string ByteArray.empty]) 3 32 Try.underlying24 hi hz0 hz1 hz2 rfl (by decide) v xs.length (cv xs) hs hown ⟨g, 0, none⟩ 1 1 (cx y) hx rfl ?_ ?_ (by unfold maxLen; omega) hbytes hbase (fun v' w' h1 h2 _ => h v' w' ?_ ?_ h2)
  · intro j u hj
    match j, hj with
    | 0, hj => simp [cx] at hj; subst hj; simpa [Addr.add] using hc0
    | 1, hj => simp [cx] at hj; subst hj; simpa [Addr.add] using hc1
    | 2, hj => simp [cx] at hj; subst hj; simpa [Addr.add] using hc2
  · intro u hu; simp [cx] at hu; rcases hu with rfl | rfl | rfl <;> rfl
  · unfold CRow; rw [cv_append, List.length_append]; simpa [cv] using h1
  · exact (Below.refl base w).grown h2 hbase (fun k hk => (hown.lt k hk).1)

def CellsPost (r : List C.Cl × Nat) (w : World) (e : Ending) (w' : World) : Prop :=
  ∃ a c, e = .returned (.tuple #[.slice a r.1.length c, .int .i64 (r.2 : Nat)]) ∧ Cls w' w'.heap.size a r.1 ∧ Below w.heap.size w w'
theorem CellsPost.none {w w' : World} (er : Nat) (h : Below w.heap.size w w') : CellsPost ([], er) w (.returned (.tuple #[.slice none 0 0, .int .i64 er])) w' :=
  ⟨Option.none, 0, rfl, Cls.nil _ _ _, h⟩
def CErrPost (n : Nat) (w : World) (e : Ending) (w' : World) : Prop := e = .returned (.int .i64 (n : Int)) ∧ Below w.heap.size w w'

theorem cls_lit (w : World) (l : List C.Cl) : Cls (w.alloc (.cells (cv l).toArray 26)) (w.alloc (.cells (cv l).toArray 26)).heap.size (some ⟨w.heap.size, 0, none⟩) l := by
  intro _
  refine ⟨w.heap.size, 0, rfl, by simp, fun i hi => ?_⟩
  rw [Nat.zero_add, World.cell?_alloc_new, World.cell?_alloc_new, World.cell?_alloc_new]
  simpa using cv_get l i hi

theorem ctake_succ (l : List C.Cl) (k : Nat) (h : k < l.length) : l.take (k + 1) = l.take k ++ [l.getD k C.null] := by
  rw [List.take_succ_eq_append_getElem h]; simp [List.getD, List.getElem?_eq_getElem h]
theorem cgetD_mem (l : List C.Cl) (k : Nat) (hk : k < l.length) : l.getD k C.null ∈ l := by
  simp only [List.getD, List.getElem?_eq_getElem hk, Option.getD_some]
  exact List.getElem_mem hk

theorem CRow.far {B : Nat} {xs : List C.Cl} {v : Value} {w : World} (h : CRow B xs v w) (g i : Nat) (x : Value) (hg : g < B) : CRow B xs v (w.setCell ⟨g, i, none⟩ x) := by
  unfold CRow at *
  refine ⟨h.1, ?_⟩
  rcases h.2 with h2 | ⟨g', cap, cur, e1, e2, e3, e4⟩
  · exact Or.inl h2
  · refine Or.inr ⟨g', cap, cur, e1, e2, ?_, e4⟩
    simp [World.setCell, Array.getElem?_modify, e3, show ¬ g = g' by omega]
theorem CRow.weak {B B' : Nat} {xs : List C.Cl} {v : Value} {w : World} (h : CRow B xs v w) (hB : B' ≤ B) : CRow B' xs v w := by
  unfold CRow at *
  refine ⟨h.1, ?_⟩
  rcases h.2 with h2 | ⟨g', cap, cur, e1, e2, e3⟩
  · exact Or.inl h2
  · exact Or.inr ⟨g', cap, cur, e1, by omega, e3⟩

theorem dense_snoc (l : List C.Cl) (j : Nat) (h : j < l.length) : C.dense (l.take (j + 1)) = if (l.getD j C.null).kind = 0 then C.dense (l.take j) else C.dense (l.take j) ++ [l.getD j C.null] := by
  rw [ctake_succ l j h]
  unfold C.dense
  rw [List.filter_append]
  by_cases hk : (l.getD j C.null).kind = 0
  · rw [if_pos hk]; generalize l.getD j C.null = y at *; simp [C.here, hk]
  · rw [if_neg hk]; generalize l.getD j C.null = y at *; simp [C.here, hk]
theorem dense_le (l : List C.Cl) (j : Nat) : (C.dense (l.take j)).length ≤ j := Nat.le_trans (List.length_filter_le _ _) (by rw [List.length_take]; omega)

/-- a block of one cell -/
def Tri (w : World) (b : Nat) (v0 v1 v2 : Value) : Prop := w.heap[b]? = some (.cells #[v0, v1, v2] 26 (0, 0))
theorem Tri.c0 {w : World} {b : Nat} {v0 v1 v2 : Value} (h : Tri w b v0 v1 v2) : w.cell? ⟨b, 0, none⟩ = some v0 := by unfold Tri at h; simp [World.cell?, h]
theorem Tri.c1 {w : World} {b : Nat} {v0 v1 v2 : Value} (h : Tri w b v0 v1 v2) : w.cell? ⟨b, 1, none⟩ = some v1 := by unfold Tri at h; simp [World.cell?, h]
theorem Tri.c2 {w : World} {b : Nat} {v0 v1 v2 : Value} (h : Tri w b v0 v1 v2) : w.cell? ⟨b, 2, none⟩ = some v2 := by unfold Tri at h; simp [World.cell?, h]
theorem Tri.free {w : World} {b : Nat} {v0 v1 v2 : Value} (h : Tri w b v0 v1 v2) (i : Nat) : w.frozen? ⟨b, i, none⟩ = false := by unfold Tri at h; simp [World.frozen?, h]
theorem Tri.lt {w : World} {b : Nat} {v0 v1 v2 : Value} (h : Tri w b v0 v1 v2) : b < w.heap.size := lt_of_block h
theorem Tri.next {w w' : World} {b : Nat} {v0 v1 v2 : Value} (h : Tri w b v0 v1 v2) (hb : Below w.heap.size w w') : Tri w' b v0 v1 v2 := (hb.block b h.lt).trans h
theorem Tri.s0 {w : World} {b : Nat} {v0 v1 v2 : Value} (h : Tri w b v0 v1 v2) (x : Value) : Tri (w.setCell ⟨b, 0, none⟩ x) b x v1 v2 := by
  unfold Tri at *; simp [World.setCell, Array.getElem?_modify, h]
theorem Tri.s1 {w : World} {b : Nat} {v0 v1 v2 : Value} (h : Tri w b v0 v1 v2) (x : Value) : Tri (w.setCell ⟨b, 1, none⟩ x) b v0 x v2 := by
  unfold Tri at *; simp [World.setCell, Array.getElem?_modify, h]
theorem Tri.s2 {w : World} {b : Nat} {v0 v1 v2 : Value} (h : Tri w b v0 v1 v2) (x : Value) : Tri (w.setCell ⟨b, 2, none⟩ x) b v0 v1 x := by
  unfold Tri at *; simp [World.setCell, Array.getElem?_modify, h]
theorem tri_new (w : World) (v0 v1 v2 : Value) : Tri (w.alloc (.cells #[v0, v1, v2] 26)) w.heap.size v0 v1 v2 := heap_alloc_new _ _

def ValPost (v : Value) (w : World) (e : Ending) (w' : World) : Prop := e = .returned v ∧ w = w'
def CellsRowPost (r : List C.Cl) (w : World) (e : Ending) (w' : World) : Prop := ∃ v, e = .returned v ∧ CRow w.heap.size r v w' ∧ Below w.heap.size w w'
theorem cag_null : cag C.null = .agg #[.int .i64 0, .int .u64 0, .string ⟨#[]⟩] := rfl
theorem Cls.take {w : World} {B : Nat} {a : Option Addr} {l : List C.Cl} (h : Cls w B a l) (k : Nat) : Cls w B a (l.take k) := by
  intro hl
  obtain ⟨b, off, e, hlt, hc⟩ := h (by intro e; rw [e] at hl; simp at hl)
  refine ⟨b, off, e, hlt, fun i hi => ?_⟩
  have hi' : i < l.length := by simp only [List.length_take] at hi; omega
  have hk : i < k := by simp only [List.length_take] at hi; omega
  have e : (l.take k).getD i C.null = l.getD i C.null := by simp [List.getD, List.getElem?_take_of_lt hk]
  rw [e]; exact hc i hi'

theorem Cls.drop {w : World} {B' b off : Nat} {l : List C.Cl} (h : Cls w B' (some ⟨b, off, none⟩) l) (k : Nat) : Cls w B' (some ⟨b, off + k * 3, none⟩) (l.drop k) := by
  intro hl
  have hk : k < l.length := by
    rcases Nat.lt_or_ge k l.length with h | h
    · exact h
    · exact absurd (List.drop_eq_nil_of_le h) hl
  obtain ⟨b', off', e, hb, hc⟩ := h (by intro e; subst e; simp at hk)
  injection e with e
  injection e with e1 e2
  subst e1 e2
  refine ⟨b, off + k * 3, rfl, hb, fun i hi => ?_⟩
  rw [List.length_drop] at hi
  have := hc (k + i) (by omega)
  rw [show off + (k + i) * 3 = off + k * 3 + i * 3 by omega] at this
  have e : (l.drop k).getD i C.null = l.getD (k + i) C.null := by simp [List.getD, List.getElem?_drop]
  rw [e]; exact this

theorem Cls.cutIf {w : World} {B' b off c : Nat} {l : List C.Cl} (h : Cls w B' (some ⟨b, off, none⟩) l) (hl : l.length ≤ c) : Cls w B' (if c = 1 then some ⟨b, off, none⟩ else some ⟨b, off + 3, none⟩) (l.drop 1) := by
  by_cases hk : c = 1
  · rw [if_pos hk, List.drop_eq_nil_of_le (by omega)]; exact Cls.nil _ _ _
  · rw [if_neg hk]; exact h.drop 1

end Go.Proofs.Ytbhggbohkddlaaa
