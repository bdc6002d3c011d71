/- Words for slices of runs. -/
import Derived.Test.YthmlafoceacliabBase
import Derived.Test.YthmlafoceacliabRPlain
namespace Go.Proofs.Ythmlafoceacliab
open Go.RowKit
set_option linter.unusedVariables false

/-- a slice's runs, read below block B -/
def Runs (w : World) (B : Nat) (a : Option Addr) (l : List R.Run) : Prop :=
  l ≠ [] → ∃ b off, a = some ⟨b, off, none⟩ ∧ b < B ∧ ∀ i, i < l.length → w.cell? ⟨b, off + i * 2, none⟩ = some (.int .u64 ((l.getD i (0, 0)).1 : Int)) ∧ w.cell? ⟨b, off + i * 2 + 1, none⟩ = some (.int .i64 (l.getD i (0, 0)).2)

theorem Runs.below {w w' : World} {B : Nat} {a : Option Addr} {l : List R.Run} (h : Runs w B a l) (hb : Below B w w') : Runs w' B a l := by
  intro hl
  obtain ⟨b, off, e, hlt, hc⟩ := h hl
  exact ⟨b, off, e, hlt, fun i hi => ⟨(hb.cell (p := ⟨b, off + i * 2, none⟩) hlt).trans (hc i hi).1, (hb.cell (p := ⟨b, off + i * 2 + 1, none⟩) hlt).trans (hc i hi).2⟩⟩
theorem Runs.mono {w : World} {B B' : Nat} {a : Option Addr} {l : List R.Run} (h : Runs w B a l) (hB : B ≤ B') : Runs w B' a l := by
  intro hl
  obtain ⟨b, off, e, hlt, hc⟩ := h hl
  exact ⟨b, off, e, by omega, hc⟩
theorem Runs.nil (w : World) (B : Nat) (a : Option Addr) : Runs w B a [] := fun h => absurd rfl h
theorem Runs.next {w w' : World} {a : Option Addr} {l : List R.Run} (h : Runs w w.heap.size a l) (hb : Below w.heap.size w w') : Runs w' w'.heap.size a l := (h.below hb).mono hb.size

def rv (l : List R.Run) : List Value := l.flatMap fun r => [Value.int .u64 (r.1 : Int), Value.int .i64 r.2]
theorem rv_length (l : List R.Run) : (rv l).length = l.length * 2 := by
  induction l with
  | nil => rfl
  | cons r l ih => simp only [rv, List.flatMap_cons, List.length_append, List.length_cons, List.length_nil] at *; omega
theorem rv_append (a b : List R.Run) : rv (a ++ b) = rv a ++ rv b := by simp [rv]
theorem rv_cons (r : R.Run) (l : List R.Run) : rv (r :: l) = Value.int .u64 (r.1 : Int) :: Value.int .i64 r.2 :: rv l := rfl
theorem rv_get (l : List R.Run) (i : Nat) (hi : i < l.length) : (rv l)[i * 2]? = some (.int .u64 ((l.getD i (0, 0)).1 : Int)) ∧ (rv l)[i * 2 + 1]? = some (.int .i64 (l.getD i (0, 0)).2) := by
  induction l generalizing i with
  | nil => simp at hi
  | cons r l ih =>
    cases i with
    | zero => simp [rv_cons]
    | succ i =>
      have := ih i (by simpa using hi)
      rw [rv_cons, show (i + 1) * 2 = i * 2 + 1 + 1 by omega, show i * 2 + 1 + 1 + 1 = (i * 2 + 1) + 1 + 1 by omega]
      simpa using this
theorem rv_set (l : List R.Run) (i : Nat) (n : Nat) (m : Int) (hi : i < l.length) (hn : (l.getD i (0, 0)).1 = n) : (rv l).set (i * 2 + 1) (.int .i64 m) = rv (l.set i (n, m)) := by
  induction l generalizing i with
  | nil => simp at hi
  | cons r l ih =>
    cases i with
    | zero => simp at hn; subst hn; simp [rv_cons]
    | succ i =>
      have := ih i (by simpa using hi) (by simpa using hn)
      rw [rv_cons, show (i + 1) * 2 + 1 = i * 2 + 1 + 1 + 1 by omega]
      simp [this, rv_cons]

theorem info_run : (Try.prog.info? 42).map (fun i => (i.zero, i.size, i.bytes)) = some (some (.agg #[.int .u64 0, .int .i64 0]), 2, 16) := by kernel_rfl

/-- a slice of runs that the call made -/
def RunRow (B : Nat) (xs : List R.Run) (v : Value) (wr : World) : Prop := wr.ownsRow B 42 2 v xs.length (rv xs)
theorem runRow_slice {B : Nat} {xs : List R.Run} {v : Value} {w : World} (h : RunRow B xs v w) : ∃ a c, v = .slice a xs.length c ∧ Runs w w.heap.size a xs := by
  unfold RunRow at h
  rcases h.2 with ⟨rfl, h0⟩ | ⟨g, cap, cur, rfl, e2, e3, e4, e5, e6, e7⟩
  · refine ⟨none, 0, by rw [h0], ?_⟩
    rw [List.eq_nil_of_length_eq_zero h0]; exact Runs.nil _ _ _
  · refine ⟨some ⟨g, 0, none⟩, cap, rfl, fun _ => ⟨g, 0, rfl, lt_of_block e3, fun i hi => ?_⟩⟩
    rw [Nat.zero_add, h.cellAt (i * 2) (by omega), h.cellAt (i * 2 + 1) (by omega)]
    exact rv_get xs i hi

def RunsPost (r : List R.Run × Nat) (w : World) (e : Ending) (w' : World) : Prop :=
  ∃ a c, e = .returned (.tuple #[.slice a r.1.length c, .int .i64 r.2]) ∧ Runs w' w'.heap.size a r.1 ∧ Below w.heap.size w w'
def RunsOnly (r : List R.Run) (w : World) (e : Ending) (w' : World) : Prop :=
  ∃ a c, e = .returned (.slice a r.length c) ∧ Runs w' w'.heap.size a r ∧ Below w.heap.size w w'
def NumsOnly (l : List Nat) (w : World) (e : Ending) (w' : World) : Prop :=
  ∃ a c, e = .returned (.slice a l.length c) ∧ Nums w' w'.heap.size a l ∧ Below w.heap.size w w'
def ErrPost (n : Nat) (w : World) (e : Ending) (w' : World) : Prop := e = .returned (.int .i64 (n : Int)) ∧ Below w.heap.size w w'

theorem runs_lit (w : World) (l : List R.Run) : Runs (w.alloc (.cells (rv l).toArray 42)) (w.alloc (.cells (rv l).toArray 42)).heap.size (some ⟨w.heap.size, 0, none⟩) l := by
  intro _
  refine ⟨w.heap.size, 0, rfl, by simp, fun i hi => ?_⟩
  rw [Nat.zero_add, World.cell?_alloc_new, World.cell?_alloc_new]
  simpa using rv_get l i hi

theorem rtake_snoc (l : List R.Run) (k : Nat) (h : k < l.length) : l.take (k + 1) = l.take k ++ [l.getD k (0, 0)] := by
  rw [List.take_succ_eq_append_getElem h]; simp [List.getD, List.getElem?_eq_getElem h]
theorem rdrop_cons (l : List R.Run) (k : Nat) (h : k < l.length) : l.drop k = l.getD k (0, 0) :: l.drop (k + 1) := by
  rw [List.drop_eq_getElem_cons h]; simp [List.getD, List.getElem?_eq_getElem h]
end Go.Proofs.Ythmlafoceacliab
