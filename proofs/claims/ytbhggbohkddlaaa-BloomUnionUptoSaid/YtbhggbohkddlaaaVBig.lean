/- The walk of hypostyleref.bigBytes, for seats that have no package vary. -/
import Derived.Test.YtbhggbohkddlaaaVaryPlain
import Derived.Test.YtbhggbohkddlaaaOne
namespace Go.Proofs.Ytbhggbohkddlaaa
open Go.RowKit
set_option linter.unusedVariables false

set_option maxHeartbeats 400000 in
theorem big_any (n k : Nat) (w : World) (hn : n < 18446744073709551616) (hk : k ≤ 9) :
    Calls Try.prog 23 #[.int .u64 n, .int .i64 k] w (TextPost (V.be k n) w) := by
  go_enter Try.func23, Try.ntmps23
  go_wp2_with fail
  go_loopw [0, 5, 6] (fun m t i wr => ∃ j : Nat, j ≤ k ∧ m = .int .u64 (n / 256 ^ j : Nat) ∧ t = .string (str (V.be j n)) ∧ i = .int .i64 j ∧ Below w.heap.size w wr) (fun _ _ i _ => k - (intOf i).toNat)
  case atStart => exact ⟨0, by omega, by simp, rfl, rfl, Below.refl _ _⟩
  case round =>
    obtain ⟨j, hj, rfl, rfl, rfl, hb⟩ := hrel
    by_cases hlt : j < k
    · have hle : n / 256 ^ j ≤ n := Nat.div_le_self _ _
      have HB := Lib.hid (show V.be (j + 1) n = UInt8.ofNat (n / 256 ^ j % 256) :: V.be j n by
        rw [V.be]; congr 1; apply UInt8.toNat_inj.mp; simp)
      have HD := Lib.hid (show n / 256 ^ (j + 1) = n / 256 ^ j / 256 by rw [Nat.pow_succ, Nat.div_div_eq_div_mul])
      have hsz : (str (V.be j n)).size ≤ 9 := by rw [str_size, V.be_length]; omega
      obtain ⟨t, ht⟩ : ∃ t, t = str (V.be j n) := ⟨_, rfl⟩
      rw [← ht] at hsz ⊢
      have HT := Lib.hid ht
      clear ht
      generalize n / 256 ^ j = q at *
      have h1 : (str [UInt8.ofNat (q % 256)]).size = 1 := rfl
      go_wp2_with fail
      refine (one_eq _ (q % 256) _ (by simp) (by omega)).mono ?_
      rintro e w1 ⟨rfl, hb1⟩
      go_wp2_with fail
      refine ⟨⟨j + 1, by omega, by rw [HD.out]; simp, ?_, by go_num, below_then hb hb1⟩, by simp [intOf]; omega⟩
      rw [HT.out, str_append, HB.out]; rfl
    · obtain rfl : j = k := by omega
      go_wp2_with fail
      go_ret
      exact ⟨rfl, hb⟩

end Go.Proofs.Ytbhggbohkddlaaa
