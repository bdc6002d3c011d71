/- Blocks of bytes. -/
import Derived.Test.YtbhggbohkddlaaaBase
namespace Go.Proofs.Ytbhggbohkddlaaa
open Go.RowKit
set_option linter.unusedVariables false

def bv (l : List UInt8) : List Value := l.map fun b => Value.int .u8 (b.toNat : Int)
theorem bv_length (l : List UInt8) : (bv l).length = l.length := by simp [bv]
theorem info_u8 : (Try.prog.info? 5).map (fun i => (i.zero, i.size, i.bytes)) = some (some (.int .u8 0), 1, 1) := by kernel_rfl

/-- a block of bytes, known whole -/
def Blk (w : World) (g : Nat) (l : List UInt8) : Prop := w.heap[g]? = some (.cells (bv l).toArray 5 (0, 0))
theorem Blk.cell {w : World} {g : Nat} {l : List UInt8} (h : Blk w g l) (i : Nat) (hi : i < l.length) : w.cell? ⟨g, i, none⟩ = some (.int .u8 (l[i].toNat : Int)) := by
  unfold Blk at h
  simp [World.cell?, h, bv, List.getElem?_eq_getElem hi]
theorem Blk.free {w : World} {g : Nat} {l : List UInt8} (h : Blk w g l) (i : Nat) : w.frozen? ⟨g, i, none⟩ = false := by
  unfold Blk at h
  simp [World.frozen?, h]
theorem Blk.lt {w : World} {g : Nat} {l : List UInt8} (h : Blk w g l) : g < w.heap.size := lt_of_block h
theorem Blk.put {w : World} {g : Nat} {l : List UInt8} (h : Blk w g l) (i : Nat) (x : UInt8) : Blk (w.setCell ⟨g, i, none⟩ (.int .u8 (x.toNat : Int))) g (l.set i x) := by
  unfold Blk at *
  simp [World.setCell, Array.getElem?_modify, h, bv, List.map_set]
theorem Blk.below {w w' : World} {g : Nat} {l : List UInt8} (h : Blk w g l) (hb : Below w.heap.size w w') : Blk w' g l := (hb.block g h.lt).trans h
theorem Blk.drew {w : World} {g : Nat} {l : List UInt8} (h : Blk w g l) : Blk w.drew g l := h
theorem Blk.text {w : World} {g cap : Nat} {l : List UInt8} (h : Blk w g l) :
    (convert 44 9 (.slice (some ⟨g, 0, none⟩) l.length cap)).run Try.prog w = .ok (.string (str l)) w := by
  rw [← str_of l]
  refine run_convert_bytes_arg _ 44 5 Try.underlying44 Try.underlying5 _ 0 l.length cap _ (by simp) ?_ 9 Try.underlying9
  intro i hi
  rw [Nat.zero_add, h.cell i hi]
  simp [List.getElem?_eq_getElem hi]
end Go.Proofs.Ytbhggbohkddlaaa
