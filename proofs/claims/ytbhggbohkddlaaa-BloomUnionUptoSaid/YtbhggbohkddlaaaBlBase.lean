/- Words for filters in memory. -/
import Derived.Test.YtbhggbohkddlaaaBlW2
namespace Go.Proofs.Ytbhggbohkddlaaa
open Go.RowKit
set_option linter.unusedVariables false

def qv (f : Bl.F) : Array Value := #[.int .u64 (f 0 : Nat), .int .u64 (f 1 : Nat), .int .u64 (f 2 : Nat), .int .u64 (f 3 : Nat)]
def fag (f : Bl.F) : Value := .agg (qv f)
/-- a block that holds a filter -/
def Quad (w : World) (b : Nat) (f : Bl.F) : Prop := w.heap[b]? = some (.cells (qv f) 23 (0, 0))
theorem Quad.c {w : World} {b : Nat} {f : Bl.F} (h : Quad w b f) (k : Nat) (hk : k < 4) : w.cell? ⟨b, k, none⟩ = some (.int .u64 (f k : Nat)) := by
  unfold Quad qv at h
  have : k = 0 ∨ k = 1 ∨ k = 2 ∨ k = 3 := by omega
  rcases this with rfl | rfl | rfl | rfl <;> simp [World.cell?, h]
theorem Quad.free {w : World} {b : Nat} {f : Bl.F} (h : Quad w b f) (i : Nat) : w.frozen? ⟨b, i, none⟩ = false := by unfold Quad at h; simp [World.frozen?, h]
theorem Quad.lt {w : World} {b : Nat} {f : Bl.F} (h : Quad w b f) : b < w.heap.size := lt_of_block h
theorem Quad.below {w w' : World} {b B : Nat} {f : Bl.F} (h : Quad w b f) (hlt : b < B) (hb : Below B w w') : Quad w' b f := (hb.block b hlt).trans h
theorem Quad.next {w w' : World} {b : Nat} {f : Bl.F} (h : Quad w b f) (hb : Below w.heap.size w w') : Quad w' b f := h.below h.lt hb
theorem Quad.put {w : World} {b : Nat} {f : Bl.F} (h : Quad w b f) (k x : Nat) (hk : k < 4) : Quad (w.setCell ⟨b, k, none⟩ (.int .u64 (x : Int))) b (Bl.upd f k x) := by
  unfold Quad qv at *
  have : k = 0 ∨ k = 1 ∨ k = 2 ∨ k = 3 := by omega
  rcases this with rfl | rfl | rfl | rfl <;> simp [World.setCell, Array.getElem?_modify, h, Bl.upd]
theorem Quad.far {w : World} {b : Nat} {f : Bl.F} (h : Quad w b f) (b' k : Nat) (x : Value) (hk : b' ≠ b) : Quad (w.setCell ⟨b', k, none⟩ x) b f := by
  unfold Quad at *
  simp [World.setCell, Array.getElem?_modify, h, hk]
theorem Quad.all {w : World} {b : Nat} {f : Bl.F} (h : Quad w b f) : w.cell? ⟨b, 0, none⟩ = some (.int .u64 (f 0 : Nat)) ∧ w.cell? ⟨b, 1, none⟩ = some (.int .u64 (f 1 : Nat)) ∧ w.cell? ⟨b, 2, none⟩ = some (.int .u64 (f 2 : Nat)) ∧ w.cell? ⟨b, 3, none⟩ = some (.int .u64 (f 3 : Nat)) :=
  ⟨h.c 0 (by omega), h.c 1 (by omega), h.c 2 (by omega), h.c 3 (by omega)⟩
theorem quad_new (w : World) (f : Bl.F) : Quad (w.alloc (.cells (qv f) 23)) w.heap.size f := heap_alloc_new _ _
theorem quad_none (w : World) : Quad (w.alloc (.cells #[.int .u64 0, .int .u64 0, .int .u64 0, .int .u64 0] 23)) w.heap.size Bl.none_ := quad_new w Bl.none_
theorem Quad.set4 {w : World} {b : Nat} {f : Bl.F} (h : Quad w b f) (g : Bl.F) : Quad ((((w.setCell ⟨b, 0, none⟩ (.int .u64 (g 0 : Nat))).setCell ⟨b, 1, none⟩ (.int .u64 (g 1 : Nat))).setCell ⟨b, 2, none⟩ (.int .u64 (g 2 : Nat))).setCell ⟨b, 3, none⟩ (.int .u64 (g 3 : Nat))) b g := by
  unfold Quad qv at *
  simp [World.setCell, Array.getElem?_modify, h]
theorem Quad.congr {w : World} {b : Nat} {f g : Bl.F} (h : Quad w b f) (e : ∀ j, j < 4 → f j = g j) : Quad w b g := by
  unfold Quad qv at *
  rw [h, e 0 (by omega), e 1 (by omega), e 2 (by omega), e 3 (by omega)]
theorem Quad.drew {w : World} {b : Nat} {f : Bl.F} (h : Quad w b f) : Quad w.drew b f := h
theorem Tri.drew {w : World} {b : Nat} {v0 v1 v2 : Value} (h : Tri w b v0 v1 v2) : Tri w.drew b v0 v1 v2 := h
theorem Quad.far4 {w : World} {b : Nat} {f : Bl.F} (h : Quad w b f) (b' : Nat) (x0 x1 x2 x3 : Value) (hk : b' ≠ b) : Quad ((((w.setCell ⟨b', 0, none⟩ x0).setCell ⟨b', 1, none⟩ x1).setCell ⟨b', 2, none⟩ x2).setCell ⟨b', 3, none⟩ x3) b f :=
  (((h.far b' 0 x0 hk).far b' 1 x1 hk).far b' 2 x2 hk).far b' 3 x3 hk
theorem Tri.far {w : World} {b : Nat} {v0 v1 v2 : Value} (h : Tri w b v0 v1 v2) (b' k : Nat) (x : Value) (hk : b' ≠ b) : Tri (w.setCell ⟨b', k, none⟩ x) b v0 v1 v2 := by
  unfold Tri at *
  simp [World.setCell, Array.getElem?_modify, h, hk]
theorem Tri.far4 {w : World} {b : Nat} {v0 v1 v2 : Value} (h : Tri w b v0 v1 v2) (b' : Nat) (x0 x1 x2 x3 : Value) (hk : b' ≠ b) : Tri ((((w.setCell ⟨b', 0, none⟩ x0).setCell ⟨b', 1, none⟩ x1).setCell ⟨b', 2, none⟩ x2).setCell ⟨b', 3, none⟩ x3) b v0 v1 v2 :=
  (((h.far b' 0 x0 hk).far b' 1 x1 hk).far b' 2 x2 hk).far b' 3 x3 hk
theorem below_set4 {w w' : World} {B b : Nat} (h : Below B w w') (hb : B ≤ b) (x0 x1 x2 x3 : Value) : Below B w ((((w'.setCell ⟨b, 0, none⟩ x0).setCell ⟨b, 1, none⟩ x1).setCell ⟨b, 2, none⟩ x2).setCell ⟨b, 3, none⟩ x3) :=
  (((h.setCell (p := ⟨b, 0, none⟩) hb x0).setCell (p := ⟨b, 1, none⟩) hb x1).setCell (p := ⟨b, 2, none⟩) hb x2).setCell (p := ⟨b, 3, none⟩) hb x3
def FilPost (f : Bl.F) (w : World) (e : Ending) (w' : World) : Prop := e = .returned (.agg #[.int .u64 (f 0 : Nat), .int .u64 (f 1 : Nat), .int .u64 (f 2 : Nat), .int .u64 (f 3 : Nat)]) ∧ Below w.heap.size w w'
theorem fag_congr {f g : Bl.F} (h : ∀ j, j < 4 → f j = g j) : fag f = fag g := by
  unfold fag qv; rw [h 0 (by omega), h 1 (by omega), h 2 (by omega), h 3 (by omega)]
end Go.Proofs.Ytbhggbohkddlaaa
