/- The walks of naming.IsName and of the reference's NameCheck. -/
import Derived.Test.YtmjcdjekakaigaaFsBase
namespace Go.Proofs.Ytmjcdjekakaigaa.Fs
open Go.RowKit
set_option linter.unusedVariables false

theorem name_bytes (s : List UInt8) (j : Nat) (hj : j < s.length) (h : ∀ i, i < j → okB (s.getD i 0) = true) (h0 : okB (s.getD j 0) = false) : s.all okB = false := by
  rw [List.all_eq_false]
  refine ⟨s.getD j 0, ?_, by rw [h0]; simp⟩
  simp only [List.getD, List.getElem?_eq_getElem hj, Option.getD_some]
  exact List.getElem_mem hj
theorem name_all (s : List UInt8) (h : ∀ i, i < s.length → okB (s.getD i 0) = true) : s.all okB = true := by
  rw [List.all_eq_true]
  intro x hx
  obtain ⟨i, hi, rfl⟩ := List.mem_iff_getElem.1 hx
  have := h i hi
  simpa [List.getD, List.getElem?_eq_getElem hi] using this

set_option maxHeartbeats 1000000 in
set_option maxRecDepth 100000 in
theorem isName_any (s : List UInt8) (w : World) (hm : s.length ≤ maxLen) : Calls Try.prog 46 #[.string (str s)] w (BoolPost (isName s) w) := by
  have hsz := str_size s
  unfold maxLen at hm
  by_cases h1 : s.length < 1 ∨ 12 < s.length
  · have hr : isName s = false := by
      unfold isName
      rcases h1 with h | h
      · simp [show ¬ 1 ≤ s.length by omega]
      · simp [show ¬ s.length ≤ 12 by omega]
    rw [hr]
    generalize hX : str s = X at *
    clear hX
    by_cases h2 : s.length < 1
    · have g1 : decide ((X.size : Int) < 1) = true := decide_eq_true (by omega)
      go_enter Try.func46, Try.ntmps46
      go_wp2_with fail
      go_ret
      exact ⟨rfl, Below.refl _ _⟩
    · have g1 : decide ((X.size : Int) < 1) = false := decide_eq_false (by omega)
      have g2 : decide ((12 : Int) < (X.size : Int)) = true := decide_eq_true (by omega)
      go_enter Try.func46, Try.ntmps46
      go_wp2_with fail
      go_ret
      exact ⟨rfl, Below.refl _ _⟩
  have g1 : decide (((str s).size : Int) < 1) = false := decide_eq_false (by omega)
  have g2 : decide ((12 : Int) < ((str s).size : Int)) = false := decide_eq_false (by omega)
  have hr : isName s = s.all okB := by
    unfold isName
    rw [decide_eq_true (show 1 ≤ s.length by omega), decide_eq_true (show s.length ≤ 12 by omega)]; simp
  rw [hr]
  have HB := Lib.hid (fun j (hj : j < s.length) h h0 => name_bytes s j hj h h0)
  have HA := Lib.hid (fun h => name_all s h)
  have HX := Lib.hid (fun j (hj : j < s.length) (h2 : j < (str s).size) => show (str s)[j] = s.getD j 0 from (str_at s j h2 hj).trans (by simp [List.getD, List.getElem?_eq_getElem hj]))
  generalize s.all okB = R at *
  generalize hX : str s = X at *
  clear hX hr
  go_enter Try.func46, Try.ntmps46
  go_wp2_with fail
  go_loopw [3, 14] (fun _ i wr => ∃ j : Nat, j ≤ s.length ∧ i = .int .i64 j ∧ Below w.heap.size w wr ∧ Hid (∀ i, i < j → okB (s.getD i 0) = true)) (fun _ i _ => s.length - (intOf i).toNat)
  case atStart => exact ⟨0, by omega, rfl, Below.refl _ _, Lib.hid (fun i hi => absurd hi (by omega))⟩
  case round =>
    obtain ⟨j, hj, rfl, hbw, HJ⟩ := hrel
    by_cases hlt : j < s.length
    · have hlt' : j < X.size := by omega
      have hx := HX.out j hlt hlt'
      have hB := HB.out j hlt HJ.out
      have hN := fun h => Lib.hid (show ∀ i, i < j + 1 → okB (s.getD i 0) = true from fun i hi => by
        by_cases e : i = j
        · rw [e]; exact h
        · exact HJ.out i (by omega))
      unfold okB at hB hN
      generalize s.getD j 0 = y at *
      by_cases h97 : y.toNat < 97
      · have hF := hB (by rw [decide_eq_false (by omega)]; simp)
        have q1 : decide ((X[j].toNat : Int) < 97) = true := by rw [hx]; exact decide_eq_true (by omega)
        rw [hF]
        clear hN hB
        go_wp2_with fail
        go_ret
        exact ⟨rfl, hbw⟩
      · have q1 : decide ((X[j].toNat : Int) < 97) = false := by rw [hx]; exact decide_eq_false (by omega)
        by_cases h122 : 122 < y.toNat
        · have hF := hB (by rw [decide_eq_false (p := y.toNat ≤ 122) (by omega)]; simp)
          have q2 : decide ((122 : Int) < (X[j].toNat : Int)) = true := by rw [hx]; exact decide_eq_true (by omega)
          rw [hF]
          clear hN hB
          go_wp2_with fail
          go_ret
          exact ⟨rfl, hbw⟩
        · have q2 : decide ((122 : Int) < (X[j].toNat : Int)) = false := by rw [hx]; exact decide_eq_false (by omega)
          have HN := hN (by rw [decide_eq_true (p := y.toNat ≤ 122) (by omega), decide_eq_true (p := 97 ≤ y.toNat) (by omega)]; simp)
          clear hN hB
          go_wp2_with fail
          exact ⟨⟨j + 1, by omega, by go_num, hbw, HN⟩, by simp [intOf]; omega⟩
    · obtain rfl : j = s.length := by omega
      have HF := Lib.hid (HA.out HJ.out)
      go_wp2_with fail
      go_ret
      exact ⟨by rw [HF.out]; rfl, hbw⟩

set_option maxHeartbeats 1000000 in
set_option maxRecDepth 100000 in
theorem rName_any (s : List UInt8) (w : World) (hm : s.length ≤ maxLen) : Calls Try.prog 43 #[.string (str s)] w (BoolPost (isName s) w) := by
  have hsz := str_size s
  unfold maxLen at hm
  have HB := Lib.hid (fun j (hj : j < s.length) h h0 => show isName s = false by
    unfold isName; rw [name_bytes s j hj h h0]; simp)
  have HA := Lib.hid (fun h => show isName s = (decide (1 ≤ s.length) && decide (s.length ≤ 12)) by unfold isName; rw [name_all s h]; simp)
  have HX := Lib.hid (fun j (hj : j < s.length) (h2 : j < (str s).size) => show (str s)[j] = s.getD j 0 from (str_at s j h2 hj).trans (by simp [List.getD, List.getElem?_eq_getElem hj]))
  generalize isName s = R at *
  generalize hX : str s = X at *
  clear hX
  go_enter Try.func43, Try.ntmps43
  go_wp2_with fail
  go_loopw [3] (fun i wr => ∃ j : Nat, j ≤ s.length ∧ i = .int .i64 j ∧ Below w.heap.size w wr ∧ Hid (∀ i, i < j → okB (s.getD i 0) = true)) (fun i _ => s.length - (intOf i).toNat)
  case atStart => exact ⟨0, by omega, rfl, Below.refl _ _, Lib.hid (fun i hi => absurd hi (by omega))⟩
  case round =>
    obtain ⟨j, hj, rfl, hbw, HJ⟩ := hrel
    by_cases hlt : j < s.length
    · have hlt' : j < X.size := by omega
      have hx := HX.out j hlt hlt'
      have hB := HB.out j hlt HJ.out
      have hN := fun h => Lib.hid (show ∀ i, i < j + 1 → okB (s.getD i 0) = true from fun i hi => by
        by_cases e : i = j
        · rw [e]; exact h
        · exact HJ.out i (by omega))
      unfold okB at hB hN
      generalize s.getD j 0 = y at *
      by_cases h97 : y.toNat < 97
      · have hF := hB (by rw [decide_eq_false (by omega)]; simp)
        have q1 : decide ((X[j].toNat : Int) < 97) = true := by rw [hx]; exact decide_eq_true (by omega)
        have HF := Lib.hid hF
        clear hN hB hF
        go_wp2_with fail
        go_ret
        exact ⟨by rw [HF.out]; rfl, hbw⟩
      · have q1 : decide ((X[j].toNat : Int) < 97) = false := by rw [hx]; exact decide_eq_false (by omega)
        by_cases h122 : 122 < y.toNat
        · have hF := hB (by rw [decide_eq_false (p := y.toNat ≤ 122) (by omega)]; simp)
          have q2 : decide ((122 : Int) < (X[j].toNat : Int)) = true := by rw [hx]; exact decide_eq_true (by omega)
          have HF := Lib.hid hF
          clear hN hB hF
          go_wp2_with fail
          go_ret
          exact ⟨by rw [HF.out]; rfl, hbw⟩
        · have q2 : decide ((122 : Int) < (X[j].toNat : Int)) = false := by rw [hx]; exact decide_eq_false (by omega)
          have HN := hN (by rw [decide_eq_true (p := y.toNat ≤ 122) (by omega), decide_eq_true (p := 97 ≤ y.toNat) (by omega)]; simp)
          clear hN hB
          go_wp2_with fail
          exact ⟨⟨j + 1, by omega, by go_num, hbw, HN⟩, by simp [intOf]; omega⟩
    · obtain rfl : j = s.length := by omega
      have HF := HA.out HJ.out
      by_cases h1 : 1 ≤ s.length
      · by_cases h2 : s.length ≤ 12
        · rw [decide_eq_true h1, decide_eq_true h2] at HF
          have HF := Lib.hid HF
          have q1 : decide ((1 : Int) ≤ (s.length : Int)) = true := decide_eq_true (by omega)
          have q2 : decide ((s.length : Int) ≤ 12) = true := decide_eq_true (by omega)
          go_wp2_with fail
          go_ret
          exact ⟨by rw [HF.out]; rfl, hbw⟩
        · rw [decide_eq_true h1, decide_eq_false h2] at HF
          have HF := Lib.hid HF
          have q1 : decide ((1 : Int) ≤ (s.length : Int)) = true := decide_eq_true (by omega)
          have q2 : decide ((s.length : Int) ≤ 12) = false := decide_eq_false (by omega)
          go_wp2_with fail
          go_ret
          exact ⟨by rw [HF.out]; rfl, hbw⟩
      · rw [decide_eq_false h1] at HF
        have HF := Lib.hid HF
        have q1 : decide ((1 : Int) ≤ (s.length : Int)) = false := decide_eq_false (by omega)
        go_wp2_with fail
        go_ret
        exact ⟨by rw [HF.out]; rfl, hbw⟩

end Go.Proofs.Ytmjcdjekakaigaa.Fs
