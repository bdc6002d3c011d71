/- The law HybridReads. -/
import Derived.Test.YtjbnbgiphnnadaaHL1
import Derived.Test.YtjbnbgiphnnadaaHR5
namespace Go.Proofs.Ytjbnbgiphnnadaa
open Go.RowKit
set_option linter.unusedVariables false

theorem hread_len (s : List UInt8) (many wide : Int) : (hreadR s many wide).1.length ≤ 64 := by
  unfold hreadR
  by_cases h0 : wide < 0 ∨ 64 < wide ∨ many < 0
  · rw [if_pos h0]; simp
  rw [if_neg h0]
  by_cases h1 : 64 < many
  · rw [if_pos h1]; simp
  rw [if_neg h1]
  by_cases he : (H.read s many.toNat wide.toNat).2 = 0
  · have := H.read_length s many.toNat wide.toNat he; omega
  · have := H.read_err s many.toNat wide.toNat he; rw [this]; simp

set_option maxHeartbeats 1000000 in
set_option maxRecDepth 100000 in
theorem hybridReads_walk (w : World) (s : ByteArray) (hs : s.size ≤ maxLen) (many : Int) (hm : -9223372036854775808 ≤ many ∧ many ≤ 9223372036854775807) (wide : Int) (hw : -9223372036854775808 ≤ wide ∧ wide ≤ 9223372036854775807) :
    Calls Try.prog 4 #[.string s, .int .i64 many, .int .i64 wide] w (BoolPost true w) := by
  have h1 := fun w => hread_any s many wide w hs
  have h2 := fun w => hof_any s many wide w hs
  have hln := hread_len s.data.toList many wide
  generalize hreadR s.data.toList many wide = r at *
  obtain ⟨xs, er⟩ := r
  simp only at hln
  have hsm := fun w a c a' c' (h1 : Nums w w.heap.size a xs) (h2 : Nums w w.heap.size a' xs) => same_any a a' c c' xs xs w w.heap.size h1 h2 (by omega)
  rw [decide_eq_true rfl] at hsm
  have H1 := Lib.hid h1
  have H2 := Lib.hid h2
  have HSM := Lib.hid hsm
  clear h1 h2 hsm hln
  go_enter Try.func4, Try.ntmps4
  go_wp2_with fail
  refine (H1.out _).mono ?_
  rintro e w1 ⟨a1, c1, rfl, hn1, _, _, hb1⟩
  go_wp2_with fail
  refine (H2.out _).mono ?_
  rintro e w2 ⟨a2, c2, rfl, hn2, hb2⟩
  go_wp2_with fail
  refine (hbegun_any _).mono ?_
  rintro e w3 ⟨rfl, hb3⟩
  have h13 := below_then hb2 hb3
  go_wp2_with fail
  refine (HSM.out _ a1 c1 a2 c2 (hn1.next h13) (hn2.next hb3)).mono ?_
  rintro e w4 ⟨rfl, hb4⟩
  go_wp2_with fail
  go_ret
  exact ⟨rfl, below_then (below_then hb1 h13) hb4⟩
end Go.Proofs.Ytjbnbgiphnnadaa
