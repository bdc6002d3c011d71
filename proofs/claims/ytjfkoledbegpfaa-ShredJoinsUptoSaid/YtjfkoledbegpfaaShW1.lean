/- The walk of shred.Check. -/
import Derived.Test.YtjfkoledbegpfaaShBase
namespace Go.Proofs.Ytjfkoledbegpfaa
open Go.RowKit
set_option linter.unusedVariables false

set_option maxHeartbeats 4000000 in
set_option maxRecDepth 100000 in
theorem shcheck_any (a : Option Addr) (cap : Nat) (l : List Sh.Fd) (w : World) (hl : l.length ≤ maxLen) (hu : Fds w w.heap.size a l) :
    Calls Try.prog 16 #[.slice a l.length cap] w (ErrPost (Sh.check l) w) := by
  unfold maxLen at hl
  by_cases h12 : 12 < l.length
  · have HR := Lib.hid (show Sh.check l = 2 by unfold Sh.check; rw [if_pos h12])
    have hI : (12 : Int) < (l.length : Int) := by omega
    go_enter Try.func16, Try.ntmps16
    go_wp2_with fail
    go_ret
    exact ⟨by rw [HR.out]; rfl, Below.refl _ _⟩
  · have hI : ¬ (12 : Int) < (l.length : Int) := by omega
    have hlen : l.length ≤ 12 := by omega
    have HU := Lib.hid hu
    have HST := Lib.hid (fun j h w => Sh.chkL_step l j h w)
    have HR0 := Lib.hid (show Sh.chkL l 1 = Sh.chkL (l.drop 0) 1 from rfl)
    have HCK := Lib.hid (show Sh.check l = if Sh.chkL l 1 ≠ 0 then Sh.chkL l 1 else if (l.getD 0 Sh.fd0).1 ≠ 0 ∨ (l.getD 0 Sh.fd0).2 = 0 then 4 else 0 by unfold Sh.check; rw [if_neg h12])
    have hne0 : Sh.chkL [] 1 = 1 := rfl
    obtain ⟨R, hR⟩ : ∃ R, R = Sh.chkL l 1 := ⟨_, rfl⟩
    rw [← hR] at HR0 HCK
    have HNIL := Lib.hid (show l = [] → R = 1 from fun e => by rw [hR, e]; rfl)
    generalize Sh.check l = C at *
    clear hu hR h12 hne0 hl
    go_enter Try.func16, Try.ntmps16
    go_wp2_with fail
    go_loopw [3, 5, 11, 15, 24, 33] (fun v _ i _ _ _ wr => ∃ (j : Nat) (n : Int), j ≤ l.length ∧ i = .int .i64 j ∧ v = .int .i64 n ∧ 0 ≤ n ∧ n ≤ 1 + 3 * j ∧ Hid (R = Sh.chkL (l.drop j) n) ∧ Below w.heap.size w wr) (fun _ _ i _ _ _ _ => l.length - (intOf i).toNat)
    case atStart => exact ⟨0, 1, by omega, rfl, rfl, by omega, by omega, HR0, Below.refl _ _⟩
    case round =>
      obtain ⟨j, n, hj, rfl, rfl, hn0, hn1, HJ, hbw⟩ := hrel
      by_cases hlt : j < l.length
      · obtain ⟨b, off, rfl, hb, hcc⟩ := HU.out (fun e => by rw [e] at hlt; simp at hlt)
        obtain ⟨k0, k1⟩ := hcc j hlt
        have c0 := (hbw.cell (p := ⟨b, off + j * 2, none⟩) hb).trans k0
        have c1 := (hbw.cell (p := ⟨b, off + j * 2 + 1, none⟩) hb).trans k1
        have hst := HST.out j hlt n
        generalize (l.getD j Sh.fd0).1 = r at *
        generalize (l.getD j Sh.fd0).2 = k at *
        have hjI : (j : Int) < (l.length : Int) := by omega
        have hb2 := hbw.alloc hbw.size (.cells #[.int .i64 r, .int .i64 k] 32)
        have HB2 := Lib.hid hb2
        clear k0 k1 hcc hb2
        by_cases g1 : r < 0
        · rw [if_pos (Or.inl g1)] at hst
          have HC := Lib.hid (show C = 7 by rw [HCK.out, HJ.out, hst]; rfl)
          have d1 : decide (r < 0) = true := decide_eq_true g1
          clear hst
          go_wp2_with fail
          go_ret
          exact ⟨by rw [HC.out]; rfl, HB2.out⟩
        have d1 : decide (r < 0) = false := decide_eq_false g1
        by_cases g2 : 2 < r
        · rw [if_pos (Or.inr g2)] at hst
          have HC := Lib.hid (show C = 7 by rw [HCK.out, HJ.out, hst]; rfl)
          have d2 : decide (2 < r) = true := decide_eq_true g2
          clear hst
          go_wp2_with fail
          go_ret
          exact ⟨by rw [HC.out]; rfl, HB2.out⟩
        have d2 : decide (2 < r) = false := decide_eq_false g2
        rw [if_neg (by omega)] at hst
        by_cases g3 : k < 0
        · rw [if_pos (Or.inl g3)] at hst
          have HC := Lib.hid (show C = 3 by rw [HCK.out, HJ.out, hst]; rfl)
          have d3 : decide (k < 0) = true := decide_eq_true g3
          clear hst
          go_wp2_with fail
          go_ret
          exact ⟨by rw [HC.out]; rfl, HB2.out⟩
        have d3 : decide (k < 0) = false := decide_eq_false g3
        by_cases g4 : 4 < k
        · rw [if_pos (Or.inr g4)] at hst
          have HC := Lib.hid (show C = 3 by rw [HCK.out, HJ.out, hst]; rfl)
          have d4 : decide (4 < k) = true := decide_eq_true g4
          clear hst
          go_wp2_with fail
          go_ret
          exact ⟨by rw [HC.out]; rfl, HB2.out⟩
        have d4 : decide (4 < k) = false := decide_eq_false g4
        rw [if_neg (by omega)] at hst
        by_cases g5 : n = 0
        · rw [if_pos g5] at hst
          have HC := Lib.hid (show C = 1 by rw [HCK.out, HJ.out, hst]; rfl)
          subst g5
          clear hst
          go_wp2_with fail
          go_ret
          exact ⟨by rw [HC.out]; rfl, HB2.out⟩
        rw [if_neg g5] at hst
        have d5 : (n == 0) = false := by rw [beq_eq_false_iff_ne]; exact g5
        have hw1 : IntKind.i64.wrap (k - 1) = k - 1 := IntWalk.i64_in _ (by omega)
        have hw2 : IntKind.i64.wrap (n + (k - 1)) = n + (k - 1) := IntWalk.i64_in _ (by omega)
        have HN := Lib.hid (show R = Sh.chkL (l.drop (j + 1)) (n + (k - 1)) by rw [HJ.out, hst])
        clear hst
        go_wp2_with fail
        exact ⟨⟨j + 1, n + (k - 1), by omega, by go_num, rfl, by omega, by omega, HN, HB2.out⟩, by simp [intOf]; omega⟩
      · obtain rfl : j = l.length := by omega
        have HRE := Lib.hid (show R = if n ≠ 0 then 1 else 0 by rw [HJ.out, List.drop_length]; rfl)
        by_cases g5 : n = 0
        · subst g5
          have hR0 : R = 0 := by rw [HRE.out]; rfl
          have hne : l ≠ [] := fun e => by have := HNIL.out e; omega
          obtain ⟨b, off, rfl, hb, hcc⟩ := HU.out hne
          have hpos : 0 < l.length := List.length_pos_iff.2 hne
          obtain ⟨k0, k1⟩ := hcc 0 hpos
          have c0 := (hbw.cell (p := ⟨b, off + 0 * 2, none⟩) hb).trans k0
          have c1 := (hbw.cell (p := ⟨b, off + 0 * 2 + 1, none⟩) hb).trans k1
          rw [Nat.zero_mul, Nat.add_zero] at c0 c1
          have HC := Lib.hid (show C = if (l.getD 0 Sh.fd0).1 ≠ 0 ∨ (l.getD 0 Sh.fd0).2 = 0 then 4 else 0 by rw [HCK.out, if_neg (by omega)])
          generalize (l.getD 0 Sh.fd0).1 = r at *
          generalize (l.getD 0 Sh.fd0).2 = k at *
          have hposI : (0 : Int) < (l.length : Int) := by omega
          clear k0 k1 hcc HRE HJ hR0 hne
          by_cases g1 : r = 0
          · subst g1
            by_cases g2 : k = 0
            · subst g2
              have HC4 := Lib.hid (show C = 4 by rw [HC.out]; simp)
              go_wp2_with fail
              go_ret
              exact ⟨by rw [HC4.out]; rfl, hbw⟩
            · have d2 : (k == 0) = false := by rw [beq_eq_false_iff_ne]; exact g2
              have HC4 := Lib.hid (show C = 0 by rw [HC.out]; simp [g2])
              go_wp2_with fail
              go_ret
              exact ⟨by rw [HC4.out]; rfl, hbw⟩
          · have d1 : (r != 0) = true := by rw [bne_iff_ne]; exact g1
            have HC4 := Lib.hid (show C = 4 by rw [HC.out]; simp [g1])
            go_wp2_with fail
            go_ret
            exact ⟨by rw [HC4.out]; rfl, hbw⟩
        · have hR1 : R = 1 := by rw [HRE.out, if_pos g5]
          have HC := Lib.hid (show C = 1 by rw [HCK.out, hR1]; rfl)
          have d1 : (n != 0) = true := by rw [bne_iff_ne]; exact g5
          clear HRE HJ hR1
          go_wp2_with fail
          go_ret
          exact ⟨by rw [HC.out]; rfl, hbw⟩
end Go.Proofs.Ytjfkoledbegpfaa
