/- The walks of front.Shared, hypostyleref.SharedOf. -/
import Derived.Test.YtplhlnlonjlcaaaFPlain
import Derived.Test.YtplhlnlonjlcaaaTBase
import Derived.BigQuiet
namespace Go.Proofs.Ytplhlnlonjlcaaa
open Go.RowKit
set_option linter.unusedVariables false

theorem sh_step_eq (x y : List UInt8) (k : Nat) (h1 : k < x.length) (h2 : k < y.length) (e : x[k] = y[k]) : F.sh (x.drop k) (y.drop k) = F.sh (x.drop (k + 1)) (y.drop (k + 1)) + 1 := by
  rw [List.drop_eq_getElem_cons h1, List.drop_eq_getElem_cons h2, e, F.sh_cons_eq]
theorem sh_step_ne (x y : List UInt8) (k : Nat) (h1 : k < x.length) (h2 : k < y.length) (e : x[k] ≠ y[k]) : F.sh (x.drop k) (y.drop k) = 0 := by
  rw [List.drop_eq_getElem_cons h1, List.drop_eq_getElem_cons h2, F.sh_cons_ne e]
theorem sh_step_end (x y : List UInt8) (k : Nat) (h : k = x.length ∨ k = y.length) : F.sh (x.drop k) (y.drop k) = 0 := by
  rcases h with h | h
  · rw [h, List.drop_length, F.sh_nil_left]
  · rw [h, List.drop_length, F.sh_nil_right]

set_option maxHeartbeats 1000000 in
set_option maxRecDepth 100000 in
theorem shared_core (x y : List UInt8) (X Y : ByteArray) (w : World) (hx : x.length ≤ 9223372036854775807) (hy : y.length ≤ 9223372036854775807) (hsx : X.size = x.length) (hsy : Y.size = y.length)
    (hxa : ∀ i (h : i < X.size) (h2 : i < x.length), X[i] = x[i]) (hya : ∀ i (h : i < Y.size) (h2 : i < y.length), Y[i] = y[i]) :
    Calls Try.prog 14 #[.string X, .string Y] w fun e w' => e = .returned (.int .i64 (F.sh x y : Nat)) ∧ ∃ d, w' = w.drewN d := by
  have HXA := Lib.hid hxa
  have HYA := Lib.hid hya
  clear hxa hya
  obtain ⟨R, hR⟩ : ∃ R, R = F.sh x y := ⟨_, rfl⟩
  have HD0 := Lib.hid (show R = 0 + F.sh (x.drop 0) (y.drop 0) by rw [hR]; simp)
  rw [← hR]
  have HNE := Lib.hid (fun i h1 h2 e => sh_step_ne x y i h1 h2 e)
  have HEQ := Lib.hid (fun i h1 h2 e => sh_step_eq x y i h1 h2 e)
  have HEN := Lib.hid (fun i h => sh_step_end x y i h)
  clear hR
  have HSX := Lib.hid hsx
  have HSY := Lib.hid hsy
  have hX : X.size ≤ 9223372036854775807 := by omega
  have hY : Y.size ≤ 9223372036854775807 := by omega
  clear hsx hsy hx hy
  obtain ⟨m, hm⟩ : ∃ m : Nat, m = min X.size Y.size := ⟨_, rfl⟩
  have hmi : min (X.size : Int) (Y.size : Int) = (m : Int) := by omega
  have hm1 : m ≤ X.size := by omega
  have hm2 : m ≤ Y.size := by omega
  have HME := Lib.hid (show m = x.length ∨ m = y.length by have := HSX.out; have := HSY.out; omega)
  clear hm
  go_enter Try.func14, Try.ntmps14
  go_wp2_with fail
  clear hmi
  go_loopw [6, 13] (fun _ i wr => ∃ k d : Nat, k ≤ m ∧ i = .int .i64 k ∧ wr = w.drewN d ∧ Hid (R = k + F.sh (x.drop k) (y.drop k))) (fun _ i _ => m - (intOf i).toNat)
  case atStart => exact ⟨0, 0, by omega, rfl, rfl, HD0⟩
  case round =>
    obtain ⟨k, d, hk, rfl, rfl, HJ⟩ := hrel
    by_cases hlt : k < m
    · have hl1 : k < X.size := by omega
      have hl2 : k < Y.size := by omega
      have h1 : k < x.length := by have := HSX.out; omega
      have h2 : k < y.length := by have := HSY.out; omega
      have ex := HXA.out k hl1 h1
      have ey := HYA.out k hl2 h2
      have hne := HNE.out k h1 h2
      have heq := HEQ.out k h1 h2
      generalize x[k] = p at *
      generalize y[k] = q at *
      have hk1I : (k : Int) < (X.size : Int) := by omega
      have hk2I : (k : Int) < (Y.size : Int) := by omega
      by_cases hpq : p = q
      · have HN1 := Lib.hid (show R = (k + 1) + F.sh (x.drop (k + 1)) (y.drop (k + 1)) by rw [HJ.out, heq hpq]; omega)
        have g1 : ((p.toNat : Int) != (q.toNat : Int)) = false := by subst hpq; simp
        have g2 : ((p.toNat) != (q.toNat)) = false := by subst hpq; simp
        clear hne heq hpq
        go_wp2_with fail
        go_quiet (fail)
        go_wp2_with fail
        exact ⟨⟨k + 1, d + nq, by omega, by go_num, by first | rfl | exact World.drewN_drewN _ _ _, HN1⟩, by simp [intOf]; omega⟩
      · have HN1 := Lib.hid (show R = k by rw [HJ.out, hne hpq, Nat.add_zero])
        have hne2 : ¬ p.toNat = q.toNat := fun e => hpq (UInt8.toNat_inj.1 e)
        have g1 : ((p.toNat : Int) != (q.toNat : Int)) = true := by rw [bne_iff_ne]; omega
        clear hne heq hpq
        go_wp2_with fail
        go_quiet (fail)
        go_wp2_with fail
        go_ret
        exact ⟨by rw [HN1.out]; rfl, _, by first | rfl | simp only [World.drewN_drewN] ; rfl⟩
    · obtain rfl : k = m := by omega
      have HRE := Lib.hid (show R = k by rw [HJ.out, HEN.out k HME.out, Nat.add_zero])
      go_wp2_with fail
      go_ret
      exact ⟨by rw [HRE.out]; rfl, d, rfl⟩

theorem shared_any (x y : List UInt8) (w : World) (hx : x.length ≤ maxLen) (hy : y.length ≤ maxLen) :
    Calls Try.prog 14 #[.string (str x), .string (str y)] w fun e w' => e = .returned (.int .i64 (F.sh x y : Nat)) ∧ ∃ d, w' = w.drewN d :=
  shared_core x y (str x) (str y) w (by unfold maxLen at hx; omega) (by unfold maxLen at hy; omega) (str_size x) (str_size y) (fun i h h2 => str_at x i h h2) (fun i h h2 => str_at y i h h2)
end Go.Proofs.Ytplhlnlonjlcaaa
