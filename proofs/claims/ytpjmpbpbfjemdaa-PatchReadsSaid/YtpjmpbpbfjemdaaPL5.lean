/- The law PatchReads. -/
import Derived.Test.YtpjmpbpbfjemdaaPB
import Derived.Test.YtpjmpbpbfjemdaaPR3
namespace Go.Proofs.Ytpjmpbpbfjemdaa
open Go.RowKit
set_option linter.unusedVariables false

theorem fin_len (b : Nat) (m : List Nat × Nat) : (P.fin b m).1.length ≤ m.1.length := by
  unfold P.fin
  split
  · simp
  · split
    · simp
    · simp
theorem pread_len (s : List UInt8) (many : Int) : (P.read s many).1.length ≤ 64 := by
  unfold P.read
  split
  · simp
  · split
    · simp
    · rw [pread_eq]
      split
      · simp
      · have h1 := fin_len (pparseR s many.toNat).1 ((pparseR s many.toNat).2.1, 0)
        have h2 := (pparse_facts s many.toNat).2
        simp only at h1
        omega

set_option maxHeartbeats 1000000 in
set_option maxRecDepth 100000 in
theorem patchReads_walk (w : World) (s : ByteArray) (hs : s.size ≤ maxLen) (many : Int) (hmm : -9223372036854775808 ≤ many ∧ many ≤ 9223372036854775807) :
    Calls Try.prog 10 #[.string s, .int .i64 many] w (BoolPost true w) := by
  have HRD := Lib.hid (fun W => pread_any s many W hs)
  have HRO := Lib.hid (fun W => rpof_any s many W hs)
  have hrl := pread_len s.data.toList many
  generalize P.read s.data.toList many = r at *
  obtain ⟨L, er⟩ := r
  simp only at hrl
  have hsm := fun w a' c' a'' c'' h1 h2 => same_any a' a'' c' c'' L L w w.heap.size h1 h2 (by omega)
  simp only [decide_true] at hsm
  have HSM := Lib.hid hsm
  clear hsm
  go_enter Try.func10, Try.ntmps10
  go_wp2_with fail
  refine (HRD.out _).mono ?_
  rintro e w1 ⟨a1, c1, rfl, n1, hb1⟩
  go_wp2_with fail
  refine (HRO.out _).mono ?_
  rintro e w2 ⟨a2, c2, rfl, n2, hb2⟩
  have h2 := below_then hb1 hb2
  go_wp2_with fail
  refine (pbegun_any _).mono ?_
  rintro e w3 ⟨rfl, hb3⟩
  have h3 := below_then h2 hb3
  go_wp2_with fail
  refine (HSM.out _ a1 c1 a2 c2 (n1.next (below_then hb2 hb3)) (n2.next hb3)).mono ?_
  rintro e w4 ⟨rfl, hb4⟩
  go_wp2_with fail
  go_ret
  exact ⟨rfl, below_then h3 hb4⟩
end Go.Proofs.Ytpjmpbpbfjemdaa
