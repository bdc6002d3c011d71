/- The walk of hypostyleref.oneByte. -/
import Derived.Test.YtbhggbohkddlaaaBaseB
namespace Go.Proofs.Ytbhggbohkddlaaa
open Go.RowKit
set_option linter.unusedVariables false

def TextPost (l : List UInt8) (w : World) (e : Ending) (w' : World) : Prop := e = .returned (.string (str l)) ∧ Below w.heap.size w w'

theorem run_text1 (w : World) (n : Nat) :
    (convert 44 9 (.slice (some ⟨w.heap.size, 0, none⟩) 1 1)).run Try.prog (w.alloc (.cells #[.int .u8 ((n : Int) % 256)] 5)) =
      .ok (.string (str [UInt8.ofNat n])) (w.alloc (.cells #[.int .u8 ((n : Int) % 256)] 5)) := by
  rw [← str_of [UInt8.ofNat n]]
  refine run_convert_bytes_arg _ 44 5 Try.underlying44 Try.underlying5 _ 0 1 1 _ (by simp) ?_ 9 Try.underlying9
  intro i hi
  obtain rfl : i = 0 := by omega
  rw [Nat.zero_add, World.cell?_alloc_new]
  simp

set_option maxHeartbeats 400000 in
theorem one_any (n : Nat) (w : World) (hn : n < 9223372036854775807) :
    Calls Try.prog 22 #[.int .i64 n] w (TextPost [UInt8.ofNat n] w) := by
  have ht := run_text1 w n
  go_enter Try.func22, Try.ntmps22
  go_wp2_with fail
  go_ret
  exact ⟨rfl, (Below.refl _ _).alloc (Nat.le_refl _) _⟩
theorem one_eq (x : Int) (n : Nat) (w : World) (hx : x = n) (hn : n < 9223372036854775807) :
    Calls Try.prog 22 #[.int .i64 x] w (TextPost [UInt8.ofNat n] w) := by
  subst hx; exact one_any n w hn
theorem str_append (a b : List UInt8) : str a ++ str b = str (a ++ b) := by
  apply ByteArray.ext
  simp [str]
end Go.Proofs.Ytbhggbohkddlaaa
