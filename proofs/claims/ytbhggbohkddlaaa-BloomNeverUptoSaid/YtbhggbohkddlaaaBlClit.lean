/- A slice of one cell, just laid. -/
import Derived.Test.YtbhggbohkddlaaaCApp
namespace Go.Proofs.Ytbhggbohkddlaaa
open Go.RowKit
set_option linter.unusedVariables false

theorem one_clit (c : C.Cl) (w : World) : Cls (w.alloc (.cells #[.int .i64 c.kind, .int .u64 (c.num : Int), .string (str c.txt)] 26)) (w.alloc (.cells #[.int .i64 c.kind, .int .u64 (c.num : Int), .string (str c.txt)] 26)).heap.size (some ⟨w.heap.size, 0, none⟩) [c] := cls_lit w [c]
theorem Cls.drew {w : World} {a : Option Addr} {l : List C.Cl} (h : Cls w w.heap.size a l) : Cls w.drew w.drew.heap.size a l := h

theorem one_clit2 (c : C.Cl) (w : World) (o : Obj) : Cls ((w.alloc o).alloc (.cells #[.int .i64 c.kind, .int .u64 (c.num : Int), .string (str c.txt)] 26)) ((w.alloc o).alloc (.cells #[.int .i64 c.kind, .int .u64 (c.num : Int), .string (str c.txt)] 26)).heap.size (some ⟨w.heap.size + 1, 0, none⟩) [c] := by
  have := one_clit c (w.alloc o)
  rwa [show (w.alloc o).heap.size = w.heap.size + 1 by simp] at this
theorem one_clit3 (c : C.Cl) (w : World) (o : Obj) : Cls ((w.alloc (.cells #[.int .i64 c.kind, .int .u64 (c.num : Int), .string (str c.txt)] 26)).alloc o) ((w.alloc (.cells #[.int .i64 c.kind, .int .u64 (c.num : Int), .string (str c.txt)] 26)).alloc o).heap.size (some ⟨w.heap.size, 0, none⟩) [c] :=
  (one_clit c w).next ((Below.refl _ _).alloc (Nat.le_refl _) o)
theorem cempty2 (B : Nat) (w : World) (o : Obj) (hB : B ≤ w.heap.size) : CRow B [] (.slice (some ⟨w.heap.size + 1, 0, none⟩) 0 0) ((w.alloc o).alloc (.cells #[] 26)) := by
  have := cempty B (w.alloc o) (by simp; omega)
  rwa [show (w.alloc o).heap.size = w.heap.size + 1 by simp] at this
end Go.Proofs.Ytbhggbohkddlaaa
