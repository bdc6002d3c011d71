/- Words for slices of marks. -/
import Derived.Test.YtecfknolpnjokaaQ3
namespace Go.Proofs.Ytecfknolpnjokaa
open Go.RowKit
set_option linter.unusedVariables false

/-- a slice's marks, read below block B -/
def Bools (w : World) (B : Nat) (a : Option Addr) (l : List Bool) : Prop :=
  l ≠ [] → ∃ b off, a = some ⟨b, off, none⟩ ∧ b < B ∧ ∀ i, i < l.length → w.cell? ⟨b, off + i, none⟩ = some (.bool (l.getD i false))

theorem Bools.below {w w' : World} {B : Nat} {a : Option Addr} {l : List Bool} (h : Bools w B a l) (hb : Below B w w') : Bools w' B a l := by
  intro hl
  obtain ⟨b, off, e, hlt, hc⟩ := h hl
  exact ⟨b, off, e, hlt, fun i hi => by rw [hb.cell (p := ⟨b, off + i, none⟩) hlt]; exact hc i hi⟩
theorem Bools.mono {w : World} {B B' : Nat} {a : Option Addr} {l : List Bool} (h : Bools w B a l) (hB : B ≤ B') : Bools w B' a l := by
  intro hl
  obtain ⟨b, off, e, hlt, hc⟩ := h hl
  exact ⟨b, off, e, by omega, hc⟩
theorem Bools.nil (w : World) (B : Nat) (a : Option Addr) : Bools w B a [] := fun h => absurd rfl h
theorem Bools.next {w w' : World} {a : Option Addr} {l : List Bool} (h : Bools w w.heap.size a l) (hb : Below w.heap.size w w') : Bools w' w'.heap.size a l := (h.below hb).mono hb.size
theorem Bools.take {w : World} {B : Nat} {a : Option Addr} {l : List Bool} (h : Bools w B a l) (k : Nat) : Bools w B a (l.take k) := by
  intro hl
  obtain ⟨b, off, e, hlt, hc⟩ := h (by intro e; rw [e] at hl; simp at hl)
  refine ⟨b, off, e, hlt, fun i hi => ?_⟩
  have hi' : i < l.length := by simp only [List.length_take] at hi; omega
  have hk : i < k := by simp only [List.length_take] at hi; omega
  rw [hc i hi']; simp [List.getD, List.getElem?_take_of_lt hk]

def mv (l : List Bool) : List Value := l.map Value.bool
theorem mv_length (l : List Bool) : (mv l).length = l.length := by simp [mv]
theorem info_bool : (Try.prog.info? 4).map (fun i => (i.zero, i.size, i.bytes)) = some (some (.bool false), 1, 1) := by kernel_rfl

/-- a slice of marks that the call made -/
def MarkRow (B : Nat) (xs : List Bool) (v : Value) (wr : World) : Prop := wr.ownsRow B 4 1 v xs.length (mv xs)

theorem markRow_bools {B : Nat} {xs : List Bool} {v : Value} {w : World} (h : MarkRow B xs v w) : ∃ a c, v = .slice a xs.length c ∧ Bools w w.heap.size a xs := by
  unfold MarkRow at h
  rcases h.2 with ⟨rfl, h0⟩ | ⟨g, cap, cur, rfl, e2, e3, e4⟩
  · refine ⟨none, 0, by rw [h0], ?_⟩
    rw [List.eq_nil_of_length_eq_zero h0]; exact Bools.nil _ _ _
  · refine ⟨some ⟨g, 0, none⟩, cap, rfl, fun _ => ⟨g, 0, rfl, lt_of_block e3, fun i hi => ?_⟩⟩
    rw [Nat.zero_add, h.cellAt i (by omega)]
    simp [mv, List.getElem?_eq_getElem hi]

/-- a block of marks, known whole -/
def MBlk (w : World) (g : Nat) (l : List Bool) : Prop := w.heap[g]? = some (.cells (mv l).toArray 4 (0, 0))
theorem MBlk.cell {w : World} {g : Nat} {l : List Bool} (h : MBlk w g l) (i : Nat) (hi : i < l.length) : w.cell? ⟨g, i, none⟩ = some (.bool (l.getD i false)) := by
  unfold MBlk at h
  simp [World.cell?, h, mv, List.getElem?_eq_getElem hi]
theorem MBlk.free {w : World} {g : Nat} {l : List Bool} (h : MBlk w g l) (i : Nat) : w.frozen? ⟨g, i, none⟩ = false := by
  unfold MBlk at h
  simp [World.frozen?, h]
theorem MBlk.lt {w : World} {g : Nat} {l : List Bool} (h : MBlk w g l) : g < w.heap.size := lt_of_block h
theorem MBlk.put {w : World} {g : Nat} {l : List Bool} (h : MBlk w g l) (i : Nat) (x : Bool) : MBlk (w.setCell ⟨g, i, none⟩ (.bool x)) g (l.set i x) := by
  unfold MBlk at *
  simp [World.setCell, Array.getElem?_modify, h, mv, List.map_set]
theorem MBlk.other {w : World} {g g' : Nat} {l : List Bool} (h : MBlk w g l) (i : Nat) (x : Value) (hne : g' ≠ g) : MBlk (w.setCell ⟨g', i, none⟩ x) g l := by
  unfold MBlk at *
  simp [World.setCell, Array.getElem?_modify, h, hne]
theorem MBlk.below {w w' : World} {g : Nat} {l : List Bool} (h : MBlk w g l) (hb : Below w.heap.size w w') : MBlk w' g l := (hb.block g h.lt).trans h
theorem MBlk.bools {w : World} {g : Nat} {l : List Bool} (h : MBlk w g l) : Bools w w.heap.size (some ⟨g, 0, none⟩) l := by
  intro _
  exact ⟨g, 0, rfl, h.lt, fun i hi => by rw [Nat.zero_add]; exact h.cell i hi⟩

theorem made_mblk {w' : World} {g n B' : Nat} (h : w'.ownsRow B' 4 1 (.slice (some ⟨g, 0, none⟩) n n) n (madeCells (Value.bool false).cells (n * 1)).toList) : MBlk w' g (List.replicate n false) := by
  rcases h.2 with ⟨he, _⟩ | ⟨g', cap, cur, he, _, hh, _, _, hs, ht⟩
  · cases he
  · injection he with h1 h2 h3
    injection h1 with h1
    injection h1 with h1
    subst h1 h3
    unfold MBlk
    rw [hh]
    have e : cur = (mv (List.replicate n false)).toArray := by
      apply Array.toList_inj.mp
      rw [List.take_of_length_le (by rw [Array.length_toList, hs]; omega)] at ht
      rw [ht]
      apply List.ext_getElem
      · simp [madeCells, mv]
      · intro i h1 h2
        simp [madeCells, mv, Value.cells, Nat.mod_one]
    rw [e]

def MarkPost (r : List Bool × Nat) (w : World) (e : Ending) (w' : World) : Prop :=
  ∃ a c, e = .returned (.tuple #[.slice a r.1.length c, .int .i64 r.2]) ∧ Bools w' w'.heap.size a r.1 ∧ Below w.heap.size w w'

theorem bools_lit (w : World) (l : List Bool) : Bools (w.alloc (.cells (mv l).toArray 4)) (w.alloc (.cells (mv l).toArray 4)).heap.size (some ⟨w.heap.size, 0, none⟩) l := by
  intro _
  refine ⟨w.heap.size, 0, rfl, by simp, fun i hi => ?_⟩
  rw [Nat.zero_add, World.cell?_alloc_new]
  simp [mv, List.getElem?_eq_getElem hi]
end Go.Proofs.Ytecfknolpnjokaa
