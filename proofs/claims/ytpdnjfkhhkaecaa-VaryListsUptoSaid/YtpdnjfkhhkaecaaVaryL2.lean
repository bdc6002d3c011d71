/- The law VaryTells. -/
import Derived.Test.YtpdnjfkhhkaecaaVaryW6
namespace Go.Proofs.Ytpdnjfkhhkaecaa
open Go.RowKit
set_option linter.unusedVariables false

theorem vof_all (s : ByteArray) (w : World) (hs : s.size ≤ maxLen) : Calls Try.prog 11 #[.string s] w (ReadPost (V.rd s.data.toList) w) := by
  by_cases h0 : s.size = 0
  · rw [data_empty s h0]; exact vof_empty s w h0
  · exact vof_any s w hs (by omega)

set_option maxHeartbeats 400000 in
set_option maxRecDepth 100000 in
theorem varyTells_walk (w : World) (n : Nat) (hn : n < 18446744073709551616) (s : ByteArray) (hs : s.size ≤ maxLen) :
    Calls Try.prog 3 #[.int .u64 n, .string s] w (BoolPost true w) := by
  have hrd := fun w => read_all s w hs
  have hvo := fun w => vof_all s w hs
  generalize V.rd s.data.toList = r at hrd hvo
  obtain ⟨m, k, er⟩ := r
  have HRD := Lib.hid hrd
  have HVO := Lib.hid hvo
  clear hrd hvo
  go_enter Try.func3, Try.ntmps3
  go_wp2_with fail
  refine (HRD.out _).mono ?_
  rintro e w1 ⟨rfl, hb1⟩
  go_wp2_with fail
  refine (HVO.out _).mono ?_
  rintro e w2 ⟨rfl, hb2⟩
  go_wp2_with fail
  refine (begun_any _).mono ?_
  rintro e w3 ⟨rfl, hb3⟩
  go_wp2_with fail
  refine (write_any n _ hn).mono ?_
  rintro e w4 ⟨rfl, hb4⟩
  go_wp2_with fail
  refine (vbytes_any n _ hn).mono ?_
  rintro e w5 ⟨rfl, hb5⟩
  go_wp2_with fail
  go_ret
  exact ⟨rfl, below_then (below_then (below_then (below_then hb1 hb2) hb3) hb4) hb5⟩
end Go.Proofs.Ytpdnjfkhhkaecaa
