/- The walks of delta.Zig, delta.Zag and of the closures in Diffs, Sums. -/
import Derived.Test.YtpjmpbpbfjemdaaDPlain
import Derived.Test.YtpjmpbpbfjemdaaBitsU2
import Derived.Test.YtpjmpbpbfjemdaaUBlk
import Derived.RangeFuncBox
namespace Go.Proofs.Ytpjmpbpbfjemdaa
open Go.RowKit
set_option linter.unusedVariables false

set_option maxHeartbeats 400000 in
theorem zig_any (n : Nat) (w : World) (hn : n < 18446744073709551616) :
    Calls Try.prog 20 #[.int .u64 n] w fun e w' => e = .returned (.int .u64 (D.zig n)) ∧ w = w' := by
  by_cases h : n < 9223372036854775808
  · have HZ := Lib.hid (show D.zig n = 2 * n by unfold D.zig; rw [if_pos h])
    have hw : IntKind.u64.wrap (2 * (n : Int)) = 2 * (n : Int) := by rw [IntKind.wrap_u64]; omega
    have g1 : decide ((n : Int) < 9223372036854775808) = true := by simp; omega
    go_enter Try.func20, Try.ntmps20
    go_wp2_with fail
    go_ret
    exact ⟨by rw [HZ.out]; simp, rfl⟩
  · have HZ := Lib.hid (show D.zig n = 2 * (18446744073709551616 - n) - 1 by unfold D.zig; rw [if_neg h])
    have g1 : decide ((n : Int) < 9223372036854775808) = false := by simp; omega
    obtain ⟨m, hm⟩ : ∃ m, m = 2 * n - 18446744073709551616 := ⟨_, rfl⟩
    have hw : IntKind.u64.wrap (2 * (n : Int)) = (m : Int) := by rw [IntKind.wrap_u64]; omega
    obtain ⟨z, hz⟩ : ∃ z, z = 2 * (18446744073709551616 - n) - 1 := ⟨_, rfl⟩
    have hw2 : IntKind.u64.wrap (IntKind.u64.wrap (-(m : Int)) - 1) = (z : Int) := by rw [IntKind.wrap_u64, IntKind.wrap_u64]; omega
    rw [← hz] at HZ
    clear hm hz
    go_enter Try.func20, Try.ntmps20
    go_wp2_with fail
    go_ret
    exact ⟨by rw [HZ.out]; rfl, rfl⟩

set_option maxHeartbeats 400000 in
theorem zag_any (n : Nat) (w : World) (hn : n < 18446744073709551616) :
    Calls Try.prog 22 #[.int .u64 n] w fun e w' => e = .returned (.int .u64 (D.zag n)) ∧ w = w' := by
  obtain ⟨q, hq⟩ : ∃ q, q = n / 2 := ⟨_, rfl⟩
  have hqI : ((n : Int) / 2) = (q : Int) := by omega
  by_cases h : n % 2 = 0
  · have HZ := Lib.hid (show D.zag n = q by unfold D.zag; rw [if_pos h, hq])
    have g1 : ((n : Int) % 2 == 0) = true := by rw [beq_iff_eq]; omega
    clear hq
    go_enter Try.func22, Try.ntmps22
    go_wp2_with fail
    go_ret
    exact ⟨by rw [HZ.out]; rfl, rfl⟩
  · obtain ⟨z, hz⟩ : ∃ z, z = 18446744073709551616 - 1 - q := ⟨_, rfl⟩
    have HZ := Lib.hid (show D.zag n = z by unfold D.zag; rw [if_neg h, hz, hq])
    have g1 : ((n : Int) % 2 == 0) = false := by rw [beq_eq_false_iff_ne]; omega
    have hw2 : IntKind.u64.wrap (IntKind.u64.wrap (-(q : Int)) - 1) = (z : Int) := by rw [IntKind.wrap_u64, IntKind.wrap_u64]; omega
    clear hq hz
    go_enter Try.func22, Try.ntmps22
    go_wp2_with fail
    go_ret
    exact ⟨by rw [HZ.out]; rfl, rfl⟩

set_option maxHeartbeats 400000 in
theorem dclos_any (B b x : Nat) (w : World) (hB : Boxed w B 23 (.int .u64 b)) (hb : b < 18446744073709551616) (hx : x < 18446744073709551616) :
    Calls Try.prog 38 #[.int .u64 x, .pointer (some ⟨B, 0, none⟩)] w fun e w' => e = .returned (.int .u64 (D.fd b x).2) ∧ w' = w.setCell ⟨B, 0, none⟩ (.int .u64 (D.fd b x).1) := by
  have c0 := hB.cell
  have f0 := hB.frozen
  have hw : IntKind.u64.wrap ((x : Int) - (b : Int)) = (((x + (18446744073709551616 - b)) % 18446744073709551616 : Nat) : Int) := by rw [IntKind.wrap_u64]; omega
  unfold D.fd
  dsimp only
  generalize (x + (18446744073709551616 - b)) % 18446744073709551616 = z at *
  go_enter Try.func38, Try.ntmps38
  go_wp2_with fail
  go_ret
  exact ⟨rfl, rfl⟩

set_option maxHeartbeats 400000 in
theorem sclos_any (B b x : Nat) (w : World) (hB : Boxed w B 23 (.int .u64 b)) (hb : b < 18446744073709551616) (hx : x < 18446744073709551616) :
    Calls Try.prog 39 #[.int .u64 x, .pointer (some ⟨B, 0, none⟩)] w fun e w' => e = .returned (.int .u64 (D.fs b x).2) ∧ w' = w.setCell ⟨B, 0, none⟩ (.int .u64 (D.fs b x).1) := by
  have c0 := hB.cell
  have f0 := hB.frozen
  have hw : IntKind.u64.wrap ((b : Int) + (x : Int)) = (((b + x) % 18446744073709551616 : Nat) : Int) := by rw [IntKind.wrap_u64]; omega
  unfold D.fs
  dsimp only
  generalize (b + x) % 18446744073709551616 = z at *
  have c1 : (w.setCell ⟨B, 0, none⟩ (.int .u64 (z : Int))).cell? ⟨B, 0, none⟩ = some (.int .u64 (z : Int)) := (hB.set (.int .u64 z)).cell
  go_enter Try.func39, Try.ntmps39
  go_wp2_with fail
  go_ret
  exact ⟨rfl, rfl⟩
end Go.Proofs.Ytpjmpbpbfjemdaa
