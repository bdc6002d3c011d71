/- The walks of hypostyleref.FormCheck, leavesOf. -/
import Derived.Test.YtjfkoledbegpfaaShBase
namespace Go.Proofs.Ytjfkoledbegpfaa
open Go.RowKit
set_option linter.unusedVariables false

set_option maxHeartbeats 4000000 in
set_option maxRecDepth 100000 in
theorem formCheck_any (a : Option Addr) (cap : Nat) (l : List Sh.Fd) (w : World) (hl : l.length ≤ maxLen) (hu : Fds w w.heap.size a l) :
    Calls Try.prog 13 #[.slice a l.length cap] w (ErrPost (Sh.check l) w) := by
  unfold maxLen at hl
  by_cases h12 : 12 < l.length
  · have HR := Lib.hid (show Sh.check l = 2 by unfold Sh.check; rw [if_pos h12])
    have hI : (12 : Int) < (l.length : Int) := by omega
    go_enter Try.func13, Try.ntmps13
    go_wp2_with fail
    go_ret
    exact ⟨by rw [HR.out]; rfl, Below.refl _ _⟩
  by_cases he : l.length = 0
  · obtain rfl := List.eq_nil_of_length_eq_zero he
    have HR := Lib.hid (show Sh.check [] = 1 from rfl)
    go_enter Try.func13, Try.ntmps13
    go_wp2_with fail
    go_ret
    exact ⟨by rw [HR.out]; rfl, Below.refl _ _⟩
  · have hI : ¬ (12 : Int) < (l.length : Int) := by omega
    have heI : ((l.length : Int) == 0) = false := by rw [beq_eq_false_iff_ne]; omega
    have hlen : l.length ≤ 12 := by omega
    have HU := Lib.hid hu
    have HST := Lib.hid (fun j h w => Sh.chkL_step l j h w)
    have HR0 := Lib.hid (show Sh.chkL l 1 = Sh.chkL (l.drop 0) 1 from rfl)
    have HCK := Lib.hid (show Sh.check l = if Sh.chkL l 1 ≠ 0 then Sh.chkL l 1 else if (l.getD 0 Sh.fd0).1 ≠ 0 ∨ (l.getD 0 Sh.fd0).2 = 0 then 4 else 0 by unfold Sh.check; rw [if_neg h12])
    have hne0 : Sh.chkL [] 1 = 1 := rfl
    obtain ⟨R, hR⟩ : ∃ R, R = Sh.chkL l 1 := ⟨_, rfl⟩
    rw [← hR] at HR0 HCK
    have HNIL := Lib.hid (show l = [] → R = 1 from fun e => by rw [hR, e]; rfl)
    generalize Sh.check l = C at *
    clear hu hR h12 hne0 hl
    go_enter Try.func13, Try.ntmps13
    go_wp2_with fail
    go_loop [3, 4] (fun v i => ∃ (j : Nat) (n : Int), j ≤ l.length ∧ i = .int .i64 j ∧ v = .int .i64 n ∧ 0 ≤ n ∧ n ≤ 1 + 3 * j ∧ Hid (R = Sh.chkL (l.drop j) n)) (fun _ i => l.length - (intOf i).toNat)
    case atStart => exact ⟨0, 1, by omega, rfl, rfl, by omega, by omega, HR0⟩
    case round =>
      obtain ⟨j, n, hj, rfl, rfl, hn0, hn1, HJ⟩ := hrel
      have hbw := Below.refl w.heap.size w
      by_cases hlt : j < l.length
      · obtain ⟨b, off, rfl, hb, hcc⟩ := HU.out (fun e => by rw [e] at hlt; simp at hlt)
        obtain ⟨k0, k1⟩ := hcc j hlt
        have c0 := (hbw.cell (p := ⟨b, off + j * 2, none⟩) hb).trans k0
        have c1 := (hbw.cell (p := ⟨b, off + j * 2 + 1, none⟩) hb).trans k1
        have hst := HST.out j hlt n
        generalize (l.getD j Sh.fd0).1 = r at *
        generalize (l.getD j Sh.fd0).2 = k at *
        have hjI : (j : Int) < (l.length : Int) := by omega
        have HB2 := Lib.hid hbw
        clear k0 k1 hcc
        by_cases g1 : r < 0
        · rw [if_pos (Or.inl g1)] at hst
          have HC := Lib.hid (show C = 7 by rw [HCK.out, HJ.out, hst]; rfl)
          have d1 : decide (r < 0) = true := decide_eq_true g1
          clear hst
          go_wp2_with fail
          go_ret
          exact ⟨by rw [HC.out]; rfl, HB2.out⟩
        have d1 : decide (r < 0) = false := decide_eq_false g1
        by_cases g2 : 2 < r
        · rw [if_pos (Or.inr g2)] at hst
          have HC := Lib.hid (show C = 7 by rw [HCK.out, HJ.out, hst]; rfl)
          have d2 : decide (2 < r) = true := decide_eq_true g2
          clear hst
          go_wp2_with fail
          go_ret
          exact ⟨by rw [HC.out]; rfl, HB2.out⟩
        have d2 : decide (2 < r) = false := decide_eq_false g2
        rw [if_neg (by omega)] at hst
        by_cases g3 : k < 0
        · rw [if_pos (Or.inl g3)] at hst
          have HC := Lib.hid (show C = 3 by rw [HCK.out, HJ.out, hst]; rfl)
          have d3 : decide (k < 0) = true := decide_eq_true g3
          clear hst
          go_wp2_with fail
          go_ret
          exact ⟨by rw [HC.out]; rfl, HB2.out⟩
        have d3 : decide (k < 0) = false := decide_eq_false g3
        by_cases g4 : 4 < k
        · rw [if_pos (Or.inr g4)] at hst
          have HC := Lib.hid (show C = 3 by rw [HCK.out, HJ.out, hst]; rfl)
          have d4 : decide (4 < k) = true := decide_eq_true g4
          clear hst
          go_wp2_with fail
          go_ret
          exact ⟨by rw [HC.out]; rfl, HB2.out⟩
        have d4 : decide (4 < k) = false := decide_eq_false g4
        rw [if_neg (by omega)] at hst
        by_cases g5 : n = 0
        · rw [if_pos g5] at hst
          have HC := Lib.hid (show C = 1 by rw [HCK.out, HJ.out, hst]; rfl)
          subst g5
          clear hst
          go_wp2_with fail
          go_ret
          exact ⟨by rw [HC.out]; rfl, HB2.out⟩
        rw [if_neg g5] at hst
        have d5 : (n == 0) = false := by rw [beq_eq_false_iff_ne]; exact g5
        have hw1 : IntKind.i64.wrap (n - 1) = n - 1 := IntWalk.i64_in _ (by omega)
        have hw2 : IntKind.i64.wrap (n - 1 + k) = n - 1 + k := IntWalk.i64_in _ (by omega)
        have HN := Lib.hid (show R = Sh.chkL (l.drop (j + 1)) (n - 1 + k) by rw [HJ.out, hst, show n + (k - 1) = n - 1 + k by omega])
        clear hst
        go_wp2_with fail
        exact ⟨⟨j + 1, n - 1 + k, by omega, by go_num, rfl, by omega, by omega, HN⟩, by simp [intOf]; omega⟩
      · obtain rfl : j = l.length := by omega
        have HRE := Lib.hid (show R = if n ≠ 0 then 1 else 0 by rw [HJ.out, List.drop_length]; rfl)
        by_cases g5 : n = 0
        · subst g5
          have hR0 : R = 0 := by rw [HRE.out]; rfl
          have hne : l ≠ [] := fun e => by have := HNIL.out e; omega
          obtain ⟨b, off, rfl, hb, hcc⟩ := HU.out hne
          have hpos : 0 < l.length := List.length_pos_iff.2 hne
          obtain ⟨k0, k1⟩ := hcc 0 hpos
          have c0 := (hbw.cell (p := ⟨b, off + 0 * 2, none⟩) hb).trans k0
          have c1 := (hbw.cell (p := ⟨b, off + 0 * 2 + 1, none⟩) hb).trans k1
          rw [Nat.zero_mul, Nat.add_zero] at c0 c1
          have HC := Lib.hid (show C = if (l.getD 0 Sh.fd0).1 ≠ 0 ∨ (l.getD 0 Sh.fd0).2 = 0 then 4 else 0 by rw [HCK.out, if_neg (by omega)])
          generalize (l.getD 0 Sh.fd0).1 = r at *
          generalize (l.getD 0 Sh.fd0).2 = k at *
          have hposI : (0 : Int) < (l.length : Int) := by omega
          clear k0 k1 hcc HRE HJ hR0 hne
          by_cases g1 : r = 0
          · subst g1
            by_cases g2 : k = 0
            · subst g2
              have HC4 := Lib.hid (show C = 4 by rw [HC.out]; simp)
              go_wp2_with fail
              go_ret
              exact ⟨by rw [HC4.out]; rfl, hbw⟩
            · have d2 : (k == 0) = false := by rw [beq_eq_false_iff_ne]; exact g2
              have HC4 := Lib.hid (show C = 0 by rw [HC.out]; simp [g2])
              go_wp2_with fail
              go_ret
              exact ⟨by rw [HC4.out]; rfl, hbw⟩
          · have d1 : (r != 0) = true := by rw [bne_iff_ne]; exact g1
            have HC4 := Lib.hid (show C = 4 by rw [HC.out]; simp [g1])
            go_wp2_with fail
            go_ret
            exact ⟨by rw [HC4.out]; rfl, hbw⟩
        · have hR1 : R = 1 := by rw [HRE.out, if_pos g5]
          have HC := Lib.hid (show C = 1 by rw [HCK.out, hR1]; rfl)
          have d1 : decide (0 < n) = true := decide_eq_true (by omega)
          clear HRE HJ hR1
          go_wp2_with fail
          go_ret
          exact ⟨by rw [HC.out]; rfl, hbw⟩

/-- how many leaves fields have -/
def lvs (l : List Sh.Fd) : Nat := (l.filter fun x => x.2 = 0).length
theorem lvs_le (l : List Sh.Fd) : lvs l ≤ l.length := List.length_filter_le _ _
theorem lvs_snoc (l : List Sh.Fd) (j : Nat) (h : j < l.length) : lvs (l.take (j + 1)) = lvs (l.take j) + if (l.getD j Sh.fd0).2 = 0 then 1 else 0 := by
  unfold lvs
  rw [List.take_succ_eq_append_getElem h, List.filter_append, List.length_append]
  simp only [List.getD, List.getElem?_eq_getElem h, Option.getD_some]
  by_cases e : (l[j]).2 = 0 <;> simp [e]
set_option maxHeartbeats 1000000 in
set_option maxRecDepth 100000 in
theorem leavesOf_any (a : Option Addr) (cap : Nat) (l : List Sh.Fd) (w : World) (B : Nat) (hl : l.length ≤ 1048576) (hu : Fds w B a l) :
    Calls Try.prog 28 #[.slice a l.length cap] w fun e w' => e = .returned (.int .i64 (lvs l : Nat)) ∧ w = w' := by
  have HU := Lib.hid hu
  have HS := Lib.hid (fun j h => lvs_snoc l j h)
  have HLE := Lib.hid (fun j => Nat.le_trans (lvs_le (l.take j)) (by rw [List.length_take]; exact Nat.min_le_right _ _))
  clear hu
  go_enter Try.func28, Try.ntmps28
  go_wp2_with fail
  go_loop [3, 4] (fun v i => ∃ j : Nat, j ≤ l.length ∧ i = .int .i64 j ∧ v = .int .i64 (lvs (l.take j) : Nat)) (fun _ i => l.length - (intOf i).toNat)
  case atStart => exact ⟨0, by omega, rfl, rfl⟩
  case round =>
    obtain ⟨j, hj, rfl, rfl⟩ := hrel
    by_cases hlt : j < l.length
    · obtain ⟨b, off, rfl, hb, hcc⟩ := HU.out (fun e => by rw [e] at hlt; simp at hlt)
      obtain ⟨c0, c1⟩ := hcc j hlt
      have hst := HS.out j hlt
      have hle := HLE.out j
      have hjI : (j : Int) < (l.length : Int) := by omega
      generalize (l.getD j Sh.fd0).2 = k at *
      generalize lvs (l.take j) = n at *
      clear hcc
      by_cases hk : k = 0
      · subst hk
        rw [if_pos rfl] at hst
        have HST := Lib.hid hst
        clear hst
        go_wp2_with fail
        exact ⟨⟨j + 1, by omega, by go_num, by rw [HST.out]; go_num⟩, by simp [intOf]; omega⟩
      · rw [if_neg hk] at hst
        have HST := Lib.hid hst
        have d1 : (k == 0) = false := by rw [beq_eq_false_iff_ne]; exact hk
        clear hst
        go_wp2_with fail
        exact ⟨⟨j + 1, by omega, by go_num, by rw [HST.out]; rfl⟩, by simp [intOf]; omega⟩
    · obtain rfl : j = l.length := by omega
      go_wp2_with fail
      go_ret
      exact ⟨rfl, rfl⟩
end Go.Proofs.Ytjfkoledbegpfaa
