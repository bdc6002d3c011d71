/- The walk of the reference's dirCheck. -/
import Derived.Test.YtmjcdjekakaigaaFsR1
import Derived.Test.YtmjcdjekakaigaaFsNm
import Derived.Test.YtmjcdjekakaigaaTLess
import Derived.BigQuiet
namespace Go.Proofs.Ytmjcdjekakaigaa.Fs
open Go.RowKit
set_option linter.unusedVariables false

theorem entE_at (n : Nat) (l : List En) (k : Nat) (h : k < l.length) : entE n (l.take k) (l.getD k nulE) =
    if isName (l.getD k nulE).name = false then 1
    else if 0 < k ∧ ¬ (l.getD (k - 1) nulE).name < (l.getD k nulE).name then 4
    else if (l.getD k nulE).node < 0 ∨ (n : Int) ≤ (l.getD k nulE).node then 3
    else if (l.take k).any (fun y => decide (y.node = (l.getD k nulE).node)) = true then 6
    else 0 := by
  have hl : (l.take k).length = k := by rw [List.length_take]; omega
  unfold entE
  rw [hl]
  by_cases h0 : 0 < k
  · have e : (l.take k).getD (k - 1) nulE = l.getD (k - 1) nulE := by simp only [List.getD]; rw [List.getElem?_take_of_lt (by omega)]
    rw [e]
  · have e : k = 0 := by omega
    subst e; simp
set_option maxHeartbeats 8000000 in
set_option maxRecDepth 100000 in
/-- the same, its list told by what is asked of it: names, nodes, which names are names, which are less -/
theorem rDir_core (a : Option Addr) (c n len : Nat) (R : Nat) (NM : Nat → ByteArray) (ND : Nat → Int) (IS : Nat → Bool) (LT : Nat → Bool) (D : Nat → Nat) (AN : Nat → Nat → Bool) (w : World) (hl : len ≤ 9223372036854775807) (hn : n ≤ 9223372036854775807)
    (HU : Hid (len ≠ 0 → ∃ b off, a = some ⟨b, off, none⟩ ∧ b < w.heap.size ∧ ∀ i, i < len → w.cell? ⟨b, off + i * 2, none⟩ = some (.string (NM i)) ∧ w.cell? ⟨b, off + i * 2 + 1, none⟩ = some (.int .i64 (ND i))))
    (HST : Hid (∀ k, k < len → D k = if IS k = false then 1 else if 0 < k ∧ LT k = false then 4 else if ND k < 0 ∨ (n : Int) ≤ ND k then 3 else if AN k k = true then 6 else D (k + 1)))
    (HE : Hid (D len = 0)) (H0 : Hid (R = D 0))
    (HNM : Hid (∀ k, k < len → ∀ W, Calls Try.prog 43 #[.string (NM k)] W (BoolPost (IS k) W)))
    (HTL : Hid (∀ k, 0 < k → k < len → ∀ W, Calls Try.prog 44 #[.string (NM (k - 1)), .string (NM k)] W fun e w' => e = .returned (.bool (LT k)) ∧ ∃ d, w' = W.drewN d))
    (HKN : Hid (∀ k, k < len → -9223372036854775808 ≤ ND k ∧ ND k ≤ 9223372036854775807))
    (HA0 : Hid (∀ k, AN 0 k = false)) (HA : Hid (∀ j k, j < k → k < len → AN j k = false → (ND j == ND k) = false → AN (j + 1) k = false)) (HB : Hid (∀ j k, j < k → k < len → (ND j == ND k) = true → AN k k = true)) :
    Calls Try.prog 35 #[.slice a len c, .int .i64 n] w (NumPost R w) := by
  go_enter Try.func35, Try.ntmps35
  go_wp2_with fail
  go_loopw [5, 6] (fun v _ wr => ∃ k : Nat, k ≤ len ∧ v = .int .i64 k ∧ Below w.heap.size w wr ∧ Hid (R = D k)) (fun v _ _ => len - (intOf v).toNat)
  case atStart => exact ⟨0, by omega, rfl, Below.refl _ _, H0⟩
  case round =>
    obtain ⟨k, hk, rfl, hbw, HR⟩ := hrel
    by_cases hlt : k < len
    · obtain ⟨bb, off, rfl, hbb, hcc⟩ := HU.out (by omega)
      have HCC := Lib.hid (fun j (hj : j < len) (W : World) (hb : Below w.heap.size w W) => show W.cell? ⟨bb, off + j * 2, none⟩ = some (.string (NM j)) ∧ W.cell? ⟨bb, off + j * 2 + 1, none⟩ = some (.int .i64 (ND j)) from
        ⟨(hb.cell (p := ⟨bb, off + j * 2, none⟩) hbb).trans (hcc j hj).1, (hb.cell (p := ⟨bb, off + j * 2 + 1, none⟩) hbb).trans (hcc j hj).2⟩)
      obtain ⟨e0, e1⟩ := HCC.out k hlt wr hbw
      have hkI : (k : Int) < (len : Int) := by omega
      have hst := HST.out k hlt
      have HN := Lib.hid (HNM.out k hlt)
      obtain ⟨z1, z2⟩ := HKN.out k hlt
      clear hcc
      cases g1 : IS k with
      | false =>
        have HF := Lib.hid (show R = 1 by rw [HR.out, hst, if_pos g1])
        rw [g1] at HN
        clear hst g1
        go_wp2_with fail
        refine (HN.out _).mono ?_
        rintro e w1 ⟨rfl, hb1⟩
        go_wp2_with fail
        go_ret
        exact ⟨by rw [HF.out]; rfl, below_then hbw hb1⟩
      | true =>
        rw [if_neg (by rw [g1]; simp)] at hst
        rw [g1] at HN
        clear g1
        by_cases h0 : 0 < k
        · have HTX := Lib.hid (HTL.out k h0 hlt)
          have hi1 : IntKind.i64.wrap ((k : Int) - 1) = (k : Int) - 1 := by rw [IntKind.wrap_i64]; omega
          have hi2 : (0 : Int) ≤ (k : Int) - 1 := by omega
          have hi3 : ((k : Int) - 1).toNat = k - 1 := by omega
          have hi4 : (k : Int) - 1 < (len : Int) := by omega
          have q0 : decide ((0 : Int) < (k : Int)) = true := decide_eq_true (by omega)
          cases hup : LT k with
          | true =>
            rw [hup] at HTX
            rw [if_neg (by rw [hup]; simp)] at hst
            clear hup
            by_cases k1 : ND k < 0
            · have HF := Lib.hid (show R = 3 by rw [HR.out, hst, if_pos (Or.inl k1)])
              have q1 : decide (ND k < 0) = true := decide_eq_true k1
              clear hst k1
              go_wp2_with fail
              refine (HN.out _).mono ?_
              rintro e w1 ⟨rfl, hb1⟩
              have hb01 := below_then hbw hb1
              obtain ⟨f0, f1⟩ := HCC.out k hlt w1 hb01
              obtain ⟨y0, y1⟩ := HCC.out (k - 1) (by omega) w1 hb01
              go_wp2_with fail
              go_quiet ((go_at_call 44; exact Calls.quiet_of (HTX.out _)))
              have hbZ := below_drewN hb01 nq
              obtain ⟨f2, f3⟩ := HCC.out k hlt _ hbZ
              clear f0 f1 y0 y1
              go_wp2_with fail
              go_ret
              exact ⟨by rw [HF.out]; rfl, hbZ⟩
            have q1 : decide (ND k < 0) = false := decide_eq_false k1
            by_cases k2 : (n : Int) ≤ ND k
            · have HF := Lib.hid (show R = 3 by rw [HR.out, hst, if_pos (Or.inr k2)])
              have q2 : decide ((n : Int) ≤ ND k) = true := decide_eq_true k2
              clear hst k1 k2
              go_wp2_with fail
              refine (HN.out _).mono ?_
              rintro e w1 ⟨rfl, hb1⟩
              have hb01 := below_then hbw hb1
              obtain ⟨f0, f1⟩ := HCC.out k hlt w1 hb01
              obtain ⟨y0, y1⟩ := HCC.out (k - 1) (by omega) w1 hb01
              go_wp2_with fail
              go_quiet ((go_at_call 44; exact Calls.quiet_of (HTX.out _)))
              have hbZ := below_drewN hb01 nq
              obtain ⟨f2, f3⟩ := HCC.out k hlt _ hbZ
              clear f0 f1 y0 y1
              go_wp2_with fail
              go_ret
              exact ⟨by rw [HF.out]; rfl, hbZ⟩
            have q2 : decide ((n : Int) ≤ ND k) = false := decide_eq_false k2
            rw [if_neg (by omega)] at hst
            have HYES := Lib.hid (fun h => show R = 6 by rw [HR.out, hst, if_pos h])
            have HNO := Lib.hid (fun h => show R = D (k + 1) by rw [HR.out, hst, if_neg h])
            clear hst k1 k2
            · go_wp2_with fail
              refine (HN.out _).mono ?_
              rintro e w1 ⟨rfl, hb1⟩
              have hb01 := below_then hbw hb1
              obtain ⟨f0, f1⟩ := HCC.out k hlt w1 hb01
              obtain ⟨y0, y1⟩ := HCC.out (k - 1) (by omega) w1 hb01
              go_wp2_with fail
              go_quiet ((go_at_call 44; exact Calls.quiet_of (HTX.out _)))
              have hbZ := below_drewN hb01 nq
              obtain ⟨f2, f3⟩ := HCC.out k hlt _ hbZ
              clear f0 f1 y0 y1
              go_wp2_with fail
              go_loopw [6] (fun v W => ∃ j : Nat, j ≤ k ∧ v = .int .i64 j ∧ Below w.heap.size w W ∧ Hid (AN j k = false)) (fun v _ => k - (intOf v).toNat)
              case atStart => exact ⟨0, by omega, rfl, hbZ, Lib.hid (HA0.out k)⟩
              case round =>
                clear hbZ
                obtain ⟨j, hj, rfl, hbj, HJ⟩ := hrel
                by_cases hlt2 : j < k
                · obtain ⟨m0, m1⟩ := HCC.out j (by omega) _ hbj
                  obtain ⟨n0, n1⟩ := HCC.out k hlt _ hbj
                  have hjI : (j : Int) < (k : Int) := by omega
                  have hjl : (j : Int) < (len : Int) := by omega
                  have hh := HB.out j k hlt2 hlt
                  have hnn := HA.out j k hlt2 hlt HJ.out
                  cases hr : (ND j == ND k) with
                  | true =>
                    have HF := Lib.hid (HYES.out (hh hr))
                    clear hh hnn
                    go_wp2_with fail
                    go_quiet (fail)
                    go_wp2_with fail
                    go_ret
                    exact ⟨by rw [HF.out]; rfl, below_drewN hbj _⟩
                  | false =>
                    have HF := Lib.hid (hnn hr)
                    clear hh hnn
                    go_wp2_with fail
                    go_quiet (fail)
                    go_wp2_with fail
                    exact ⟨⟨j + 1, by omega, by go_num, below_drewN hbj _, HF⟩, by simp [intOf]; omega⟩
                · obtain rfl : j = k := by omega
                  have HF := Lib.hid (HNO.out (by rw [HJ.out]; simp))
                  go_wp2_with fail
                  exact ⟨⟨j + 1, by omega, by go_num, hbj, HF⟩, by simp [intOf]; omega⟩
          | false =>
            have HF := Lib.hid (show R = 4 by rw [HR.out, hst, if_pos ⟨h0, hup⟩])
            rw [hup] at HTX
            clear hup hst
            go_wp2_with fail
            refine (HN.out _).mono ?_
            rintro e w1 ⟨rfl, hb1⟩
            have hb01 := below_then hbw hb1
            obtain ⟨f0, f1⟩ := HCC.out k hlt w1 hb01
            obtain ⟨y0, y1⟩ := HCC.out (k - 1) (by omega) w1 hb01
            go_wp2_with fail
            go_quiet ((go_at_call 44; exact Calls.quiet_of (HTX.out _)))
            go_wp2_with fail
            go_ret
            exact ⟨by rw [HF.out]; rfl, below_drewN hb01 _⟩
        · rw [if_neg (by omega)] at hst
          have q0 : decide ((0 : Int) < (k : Int)) = false := decide_eq_false (by omega)
          by_cases k1 : ND k < 0
          · have HF := Lib.hid (show R = 3 by rw [HR.out, hst, if_pos (Or.inl k1)])
            have q1 : decide (ND k < 0) = true := decide_eq_true k1
            clear hst k1
            go_wp2_with fail
            refine (HN.out _).mono ?_
            rintro e w1 ⟨rfl, hb1⟩
            have hb01 := below_then hbw hb1
            obtain ⟨f0, f1⟩ := HCC.out k hlt w1 hb01
            go_wp2_with fail
            go_quiet (fail)
            have hbZ := below_drewN hb01 nq
            obtain ⟨f2, f3⟩ := HCC.out k hlt _ hbZ
            clear f0 f1
            go_wp2_with fail
            go_ret
            exact ⟨by rw [HF.out]; rfl, hbZ⟩
          have q1 : decide (ND k < 0) = false := decide_eq_false k1
          by_cases k2 : (n : Int) ≤ ND k
          · have HF := Lib.hid (show R = 3 by rw [HR.out, hst, if_pos (Or.inr k2)])
            have q2 : decide ((n : Int) ≤ ND k) = true := decide_eq_true k2
            clear hst k1 k2
            go_wp2_with fail
            refine (HN.out _).mono ?_
            rintro e w1 ⟨rfl, hb1⟩
            have hb01 := below_then hbw hb1
            obtain ⟨f0, f1⟩ := HCC.out k hlt w1 hb01
            go_wp2_with fail
            go_quiet (fail)
            have hbZ := below_drewN hb01 nq
            obtain ⟨f2, f3⟩ := HCC.out k hlt _ hbZ
            clear f0 f1
            go_wp2_with fail
            go_ret
            exact ⟨by rw [HF.out]; rfl, hbZ⟩
          have q2 : decide ((n : Int) ≤ ND k) = false := decide_eq_false k2
          rw [if_neg (by omega)] at hst
          have HYES := Lib.hid (fun h => show R = 6 by rw [HR.out, hst, if_pos h])
          have HNO := Lib.hid (fun h => show R = D (k + 1) by rw [HR.out, hst, if_neg h])
          clear hst k1 k2
          · go_wp2_with fail
            refine (HN.out _).mono ?_
            rintro e w1 ⟨rfl, hb1⟩
            have hb01 := below_then hbw hb1
            obtain ⟨f0, f1⟩ := HCC.out k hlt w1 hb01
            go_wp2_with fail
            go_quiet (fail)
            have hbZ := below_drewN hb01 nq
            obtain ⟨f2, f3⟩ := HCC.out k hlt _ hbZ
            clear f0 f1
            go_wp2_with fail
            go_loopw [6] (fun v W => ∃ j : Nat, j ≤ k ∧ v = .int .i64 j ∧ Below w.heap.size w W ∧ Hid (AN j k = false)) (fun v _ => k - (intOf v).toNat)
            case atStart => exact ⟨0, by omega, rfl, hbZ, Lib.hid (HA0.out k)⟩
            case round =>
              clear hbZ
              obtain ⟨j, hj, rfl, hbj, HJ⟩ := hrel
              by_cases hlt2 : j < k
              · obtain ⟨m0, m1⟩ := HCC.out j (by omega) _ hbj
                obtain ⟨n0, n1⟩ := HCC.out k hlt _ hbj
                have hjI : (j : Int) < (k : Int) := by omega
                have hjl : (j : Int) < (len : Int) := by omega
                have hh := HB.out j k hlt2 hlt
                have hnn := HA.out j k hlt2 hlt HJ.out
                cases hr : (ND j == ND k) with
                | true =>
                  have HF := Lib.hid (HYES.out (hh hr))
                  clear hh hnn
                  go_wp2_with fail
                  go_quiet (fail)
                  go_wp2_with fail
                  go_ret
                  exact ⟨by rw [HF.out]; rfl, below_drewN hbj _⟩
                | false =>
                  have HF := Lib.hid (hnn hr)
                  clear hh hnn
                  go_wp2_with fail
                  go_quiet (fail)
                  go_wp2_with fail
                  exact ⟨⟨j + 1, by omega, by go_num, below_drewN hbj _, HF⟩, by simp [intOf]; omega⟩
              · obtain rfl : j = k := by omega
                have HF := Lib.hid (HNO.out (by rw [HJ.out]; simp))
                go_wp2_with fail
                exact ⟨⟨j + 1, by omega, by go_num, hbj, HF⟩, by simp [intOf]; omega⟩
    · obtain rfl : k = len := by omega
      have HF := Lib.hid (HR.out.trans HE.out)
      go_wp2_with fail
      go_ret
      exact ⟨by rw [HF.out]; rfl, hbw⟩
theorem rDir_any (a : Option Addr) (c n : Nat) (l : List En) (w : World) (hl : l.length ≤ maxLen) (hn : n ≤ maxLen) (hok : ∀ x ∈ l, enOk x) (hu : Ens w w.heap.size a l) :
    Calls Try.prog 35 #[.slice a l.length c, .int .i64 n] w (NumPost (dirC n [] l) w) := by
  unfold maxLen at hl hn
  refine rDir_core a c n l.length (dirC n [] l) (fun j => str (l.getD j nulE).name) (fun j => (l.getD j nulE).node) (fun k => isName (l.getD k nulE).name) (fun k => decide ((l.getD (k - 1) nulE).name < (l.getD k nulE).name)) (fun k => dirC n (l.take k) (l.drop k)) (fun j k => (l.take j).any (fun y => decide (y.node = (l.getD k nulE).node))) w (by omega) (by omega) ?_ ?_ (Lib.hid (dirC_end n l)) (Lib.hid rfl) ?_ ?_ ?_ (Lib.hid (fun k => by simp)) ?_ ?_
  · exact Lib.hid (fun h => hu (fun e => h (by rw [e]; rfl)))
  · refine Lib.hid (fun k hk => ?_)
    show dirC n (l.take k) (l.drop k) = _
    rw [dirC_step n l k hk, entE_at n l k hk]
    simp only [decide_eq_false_iff_not]
    repeat' split
    all_goals first | rfl | simp_all
  · exact Lib.hid (fun k hk W => rName_any _ W (hok _ (getD_mem l nulE k hk)).1)
  · exact Lib.hid (fun k h0 hk W => tless_any _ _ W (hok _ (getD_mem l nulE (k - 1) (by omega))).1 (hok _ (getD_mem l nulE k hk)).1)
  · exact Lib.hid (fun k hk => (hok _ (getD_mem l nulE k hk)).2)
  · refine Lib.hid (fun j k hj hk h0 h => ?_)
    have h : ¬ (l.getD j nulE).node = (l.getD k nulE).node := by simpa using h
    show (l.take (j + 1)).any (fun y => decide (y.node = (l.getD k nulE).node)) = false
    have h0 : (l.take j).any (fun y => decide (y.node = (l.getD k nulE).node)) = false := h0
    rw [take_snoc l nulE j (by omega), any_snoc, h0, decide_eq_false h]; rfl
  · refine Lib.hid (fun j k hj hk h => ?_)
    have h : (l.getD j nulE).node = (l.getD k nulE).node := by simpa using h
    refine List.any_eq_true.2 ⟨(l.take k).getD j nulE, getD_mem _ _ _ (by rw [List.length_take]; omega), ?_⟩
    have e : (l.take k).getD j nulE = l.getD j nulE := by simp only [List.getD]; rw [List.getElem?_take_of_lt hj]
    rw [e, h]; simp
end Go.Proofs.Ytmjcdjekakaigaa.Fs
