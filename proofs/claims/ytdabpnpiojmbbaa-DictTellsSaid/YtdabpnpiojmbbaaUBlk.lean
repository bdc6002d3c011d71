/- Blocks of numbers. -/
import Derived.Test.YtdabpnpiojmbbaaBase
namespace Go.Proofs.Ytdabpnpiojmbbaa
open Go.RowKit
set_option linter.unusedVariables false

/-- a block of numbers, known whole -/
def UBlk (w : World) (g : Nat) (l : List Nat) : Prop := w.heap[g]? = some (.cells (nv l).toArray 42 (0, 0))
theorem UBlk.cell {w : World} {g : Nat} {l : List Nat} (h : UBlk w g l) (i : Nat) (hi : i < l.length) : w.cell? ⟨g, i, none⟩ = some (.int .u64 ((l.getD i 0 : Nat) : Int)) := by
  unfold UBlk at h
  simp [World.cell?, h, nv, List.getElem?_eq_getElem hi]
theorem UBlk.free {w : World} {g : Nat} {l : List Nat} (h : UBlk w g l) (i : Nat) : w.frozen? ⟨g, i, none⟩ = false := by
  unfold UBlk at h
  simp [World.frozen?, h]
theorem UBlk.lt {w : World} {g : Nat} {l : List Nat} (h : UBlk w g l) : g < w.heap.size := lt_of_block h
theorem UBlk.put {w : World} {g : Nat} {l : List Nat} (h : UBlk w g l) (i : Nat) (x : Nat) : UBlk (w.setCell ⟨g, i, none⟩ (.int .u64 (x : Int))) g (l.set i x) := by
  unfold UBlk at *
  simp [World.setCell, Array.getElem?_modify, h, nv, List.map_set]
theorem UBlk.nums {w : World} {g : Nat} {l : List Nat} (h : UBlk w g l) : Nums w w.heap.size (some ⟨g, 0, none⟩) l := by
  intro _
  exact ⟨g, 0, rfl, h.lt, fun i hi => by rw [Nat.zero_add]; exact h.cell i hi⟩
theorem made_ublk {w' : World} {g n B' : Nat} (h : w'.ownsRow B' 42 1 (.slice (some ⟨g, 0, none⟩) n n) n (madeCells (Value.int .u64 0).cells (n * 1)).toList) : UBlk w' g (List.replicate n 0) := by
  rcases h.2 with ⟨he, _⟩ | ⟨g', cap, cur, he, _, hh, _, _, hs, ht⟩
  · cases he
  · injection he with h1 h2 h3
    injection h1 with h1
    injection h1 with h1
    subst h1 h3
    unfold UBlk
    rw [hh]
    have e : cur = (nv (List.replicate n 0)).toArray := by
      apply Array.toList_inj.mp
      rw [List.take_of_length_le (by rw [Array.length_toList, hs]; omega)] at ht
      rw [ht]
      apply List.ext_getElem
      · simp [madeCells, nv]
      · intro i h1 h2
        simp [madeCells, nv, Value.cells, Nat.mod_one]
    rw [e]
theorem UBlk.next {w w' : World} {g : Nat} {l : List Nat} (h : UBlk w g l) (hb : Below w.heap.size w w') : UBlk w' g l := (hb.block g h.lt).trans h
theorem UBlk.alloc {w : World} {g : Nat} {l : List Nat} (h : UBlk w g l) (o : Obj) : UBlk (w.alloc o) g l := (Below.heap_alloc w o g h.lt).trans h
end Go.Proofs.Ytdabpnpiojmbbaa
