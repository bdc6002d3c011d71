/- The walk of hypostyleref.SharedOf. -/
import Derived.Test.YtplhlnlonjlcaaaFW1
namespace Go.Proofs.Ytplhlnlonjlcaaa
open Go.RowKit
set_option linter.unusedVariables false

theorem sh_stop {x y : List UInt8} {k : Nat} (h1 : F.sh x y ≤ k) (h2 : k ≤ x.length) (h3 : k ≤ y.length) (h : x.take k = y.take k) : F.sh x y = k := by
  have := F.sh_ge k x y h2 h3 h; omega
theorem sh_on {x y : List UInt8} {k : Nat} (h1 : F.sh x y ≤ k) (h : x.take k ≠ y.take k) : F.sh x y ≤ k - 1 ∧ 1 ≤ k := by
  have h2 : F.sh x y ≠ k := fun e => h (by rw [← e]; exact F.sh_take x y)
  have h3 : k ≠ 0 := fun e => h (by rw [e]; simp)
  omega

set_option maxHeartbeats 1000000 in
set_option maxRecDepth 100000 in
theorem sharedOf_any (x y : List UInt8) (w : World) (hx : x.length ≤ maxLen) (hy : y.length ≤ maxLen) :
    Calls Try.prog 15 #[.string (str x), .string (str y)] w fun e w' => e = .returned (.int .i64 (F.sh x y : Nat)) ∧ ∃ d, w' = w.drewN d := by
  unfold maxLen at hx hy
  have hsx := str_size x
  have hsy := str_size y
  have H0 := F.sh_le_left x y
  have HT := Lib.hid (fun k => show ((str x).extract 0 k).toList = x.take k by rw [ByteArray.toList_eq, take_data]; rfl)
  have HU := Lib.hid (fun k => show ((str y).extract 0 k).toList = y.take k by rw [ByteArray.toList_eq, take_data]; rfl)
  have HST := Lib.hid (fun k (h1 : F.sh x y ≤ k) (h2 : k ≤ x.length) (h3 : k ≤ y.length) h => sh_stop h1 h2 h3 h)
  have HON := Lib.hid (fun k (h1 : F.sh x y ≤ k) h => sh_on h1 h)
  have HRB := Lib.hid (F.sh_le_right x y)
  generalize F.sh x y = R at *
  generalize str x = X at *
  generalize str y = Y at *
  have HSX := Lib.hid hsx
  have HSY := Lib.hid hsy
  have H0' := Lib.hid (show R ≤ X.size by omega)
  have hX : X.size ≤ 9223372036854775807 := by omega
  have hY : Y.size ≤ 9223372036854775807 := by omega
  clear hsx hsy hx hy H0
  go_enter Try.func15, Try.ntmps15
  go_wp2_with fail
  go_loopw [5] (fun i wr => ∃ k d : Nat, k ≤ X.size ∧ i = .int .i64 k ∧ wr = w.drewN d ∧ Hid (R ≤ k)) (fun i _ => (intOf i).toNat)
  case atStart => exact ⟨X.size, 0, by omega, rfl, rfl, H0'⟩
  case round =>
    obtain ⟨k, d, hk, rfl, rfl, HJ⟩ := hrel
    have hkI : (k : Int) ≤ (X.size : Int) := by omega
    by_cases hgt : Y.size < k
    · have g1 : decide ((Y.size : Int) < (k : Int)) = true := decide_eq_true (by omega)
      have HN := Lib.hid (show R ≤ k - 1 by have := HRB.out; have := HSY.out; omega)
      have hsub : IntKind.i64.wrap ((k : Int) - 1) = ((k - 1 : Nat) : Int) := by rw [IntKind.wrap_i64]; omega
      go_wp2_with fail
      go_quiet (fail)
      go_wp2_with fail
      exact ⟨⟨k - 1, d + nq, by omega, by congr 1; try omega, by first | rfl | exact World.drewN_drewN _ _ _, HN⟩, by simp [intOf]; omega⟩
    · have g1 : decide (Y.size < k) = false := decide_eq_false (by omega)
      have hk2 : (k : Int) ≤ (Y.size : Int) := by omega
      by_cases hq : x.take k = y.take k
      · have g2 : ((X.extract 0 k).toList == (Y.extract 0 k).toList) = true := by rw [HT.out, HU.out, beq_iff_eq]; exact hq
        have HR := Lib.hid (HST.out k HJ.out (by have := HSX.out; omega) (by have := HSY.out; omega) hq)
        clear hq
        go_wp2_with fail
        go_quiet (fail)
        go_wp2_with fail
        go_ret
        exact ⟨by rw [HR.out]; rfl, _, by first | rfl | simp only [World.drewN_drewN] ; rfl⟩
      · have g2 : ((X.extract 0 k).toList == (Y.extract 0 k).toList) = false := by rw [HT.out, HU.out, beq_eq_false_iff_ne]; exact hq
        obtain ⟨hn, hk1⟩ := HON.out k HJ.out hq
        have HN := Lib.hid hn
        clear hq hn
        go_wp2_with fail
        go_quiet (fail)
        go_wp2_with fail
        exact ⟨⟨k - 1, d + nq, by omega, by congr 1; try omega, by first | rfl | exact World.drewN_drewN _ _ _, HN⟩, by simp [intOf]; omega⟩
end Go.Proofs.Ytplhlnlonjlcaaa
