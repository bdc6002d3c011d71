/- The laws PatchBack, PatchShifts. -/
import Derived.Test.YtpjmpbpbfjemdaaPB
import Derived.Test.YtpjmpbpbfjemdaaStep
namespace Go.Proofs.Ytpjmpbpbfjemdaa
open Go.RowKit
set_option linter.unusedVariables false

theorem pbytes_length (l : List Nat) (hl : l.length ≤ 64) : (P.bytes l).length ≤ 1048576 := by
  rw [P.bytes_length, P.cost_eq, P.more_length]
  have h1 := V.sz_le (P.base l)
  have h2 := P.extra_le (P.best (P.more l)) (P.more l)
  rw [P.more_length] at h2
  have h3 := Nat.mul_le_mul hl (P.best_le (P.more l))
  unfold B.sz; omega

set_option maxHeartbeats 1000000 in
set_option maxRecDepth 100000 in
theorem patchBack_walk (w : World) (a : Option Addr) (c : Nat) (l : List Nat) (hm : l.length ≤ maxLen) (hcap : l.length ≤ c ∧ c ≤ maxLen ∧ (a = none → c = 0)) (hx : ∀ x ∈ l, x < 18446744073709551616) (hu : Nums w w.heap.size a l) :
    Calls Try.prog 11 #[.slice a l.length c] w (BoolPost true w) := by
  have hwr := pwrite_any a c l w hx hu
  unfold maxLen at hm
  unfold pwriteR at hwr
  by_cases h : 64 < l.length
  · rw [if_pos h] at hwr
    have HWR := Lib.hid hwr
    have heq : (str []).toList.isEmpty = true := empty_true _ rfl
    have g2 : decide ((64 : Int) < (l.length : Int)) = true := decide_eq_true (by omega)
    clear hwr hx
    go_enter Try.func11, Try.ntmps11
    go_wp2_with fail
    refine (HWR.out).mono ?_
    rintro e w1 ⟨rfl, hb1⟩
    go_wp2_with fail
    refine (pbegun_any _).mono ?_
    rintro e w2 ⟨rfl, hb2⟩
    go_wp2_with fail
    go_ret
    exact ⟨rfl, below_then hb1 hb2⟩
  · rw [if_neg h] at hwr
    have hlen := pbytes_length l (by omega)
    have hrd := fun w => pread_any (str (P.bytes l)) l.length w (by rw [str_size]; unfold maxLen; omega)
    rw [str_data, P.read_back l hx (by omega)] at hrd
    have HRD := Lib.hid hrd
    have HWR := Lib.hid hwr
    have hsm := fun w a' c' h1 h2 => same_any a' a c' c l l w w.heap.size h1 h2 (by omega)
    rw [decide_eq_true rfl] at hsm
    have HSM := Lib.hid hsm
    generalize P.bytes l = t at *
    clear hwr hrd hx hsm
    go_enter Try.func11, Try.ntmps11
    go_wp2_with fail
    refine (HWR.out).mono ?_
    rintro e w1 ⟨rfl, hb1⟩
    go_wp2_with fail
    refine (pbegun_any _).mono ?_
    rintro e w2 ⟨rfl, hb2⟩
    have h2 := below_then hb1 hb2
    go_wp2_with fail
    refine (HRD.out _).mono ?_
    rintro e w3 ⟨a3, c3, rfl, hn3, hb3⟩
    have h3 := below_then h2 hb3
    go_wp2_with fail
    refine (HSM.out _ a3 c3 hn3 (hu.next h3)).mono ?_
    rintro e w4 ⟨rfl, hb4⟩
    go_wp2_with fail
    go_ret
    exact ⟨rfl, below_then h3 hb4⟩
end Go.Proofs.Ytpjmpbpbfjemdaa
