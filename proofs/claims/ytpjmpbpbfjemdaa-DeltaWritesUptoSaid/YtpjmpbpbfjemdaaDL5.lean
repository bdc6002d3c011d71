/- The law DeltaWrites. -/
import Derived.Test.YtpjmpbpbfjemdaaDR3
import Derived.Test.YtpjmpbpbfjemdaaDW6
namespace Go.Proofs.Ytpjmpbpbfjemdaa
open Go.RowKit
set_option linter.unusedVariables false

theorem dreadR_len (s : List UInt8) (many : Int) : (dreadR s many).1.length ≤ 64 := by
  unfold dreadR
  split
  · simp
  · split
    · simp
    · split
      · simp
      · obtain ⟨_, h2, _, _⟩ := parseR_facts s many.toNat
        unfold dread2
        split
        · simp
        · simp only [D.sums_length, List.length_cons, D.zags, List.length_map]; omega

set_option maxHeartbeats 1000000 in
set_option maxRecDepth 100000 in
theorem deltaWrites_walk (w : World) (a : Option Addr) (c : Nat) (l : List Nat) (hm : l.length ≤ maxLen) (hcap : l.length ≤ c ∧ c ≤ maxLen ∧ (a = none → c = 0)) (hx : ∀ x ∈ l, x < 18446744073709551616) (hu : Nums w w.heap.size a l)
    (s : ByteArray) (hs : s.size ≤ maxLen) (many : Int) (hmm : -9223372036854775808 ≤ many ∧ many ≤ 9223372036854775807) (hbd : l.length + s.size ≤ 1048576) :
    Calls Try.prog 7 #[.slice a l.length c, .string s, .int .i64 many] w (BoolPost true w) := by
  have hwr := dwrite_any a c l w hx hu
  have HRD := Lib.hid (fun W => dread_any s many W hs)
  have HRO := Lib.hid (fun W => dof_any s many W hs)
  have HDB := Lib.hid (fun W h => rdbytes_any a c l W (by omega) hx h)
  have hrl := dreadR_len s.data.toList many
  generalize dreadR s.data.toList many = r at *
  obtain ⟨L, er⟩ := r
  simp only at hrl
  have hsm := fun w a' c' a'' c'' h1 h2 => same_any a' a'' c' c'' L L w w.heap.size h1 h2 (by omega)
  simp only [decide_true] at hsm
  have HSM := Lib.hid hsm
  unfold maxLen at hm
  unfold dwriteR at hwr
  generalize dbytes l = t at *
  by_cases h : 64 < l.length
  · rw [if_pos h] at hwr
    have HWR := Lib.hid hwr
    have g2 : decide ((64 : Int) < (l.length : Int)) = true := by simp; omega
    have g3 : (str []).toList.isEmpty = true := empty_true _ rfl
    have g4 : (str [] == ByteArray.empty) = true := by decide
    clear hwr hx hsm
    go_enter Try.func7, Try.ntmps7
    go_wp2_with fail
    refine (HWR.out).mono ?_
    rintro e w1 ⟨rfl, hb1⟩
    go_wp2_with fail
    refine (HRD.out _).mono ?_
    rintro e w2 ⟨a2, c2, rfl, n2, _, _, hb2⟩
    have h2 := below_then hb1 hb2
    go_wp2_with fail
    refine (HDB.out _ (hu.next h2)).mono ?_
    rintro e w3 ⟨rfl, hb3⟩
    have h3 := below_then h2 hb3
    go_wp2_with fail
    refine (HRO.out _).mono ?_
    rintro e w4 ⟨a4, c4, rfl, n4, hb4⟩
    have h4 := below_then h3 hb4
    go_wp2_with fail
    refine (dbegun_any _).mono ?_
    rintro e w5 ⟨rfl, hb5⟩
    have h5 := below_then h4 hb5
    go_wp2_with fail
    refine (HSM.out _ a2 c2 a4 c4 (n2.next (below_then (below_then hb3 hb4) hb5)) (n4.next hb5)).mono ?_
    rintro e w6 ⟨rfl, hb6⟩
    go_wp2_with fail
    go_ret
    exact ⟨rfl, below_then h5 hb6⟩
  · rw [if_neg h] at hwr
    have HWR := Lib.hid hwr
    have g2 : decide ((64 : Int) < (l.length : Int)) = false := by simp; omega
    clear hwr hx hsm
    go_enter Try.func7, Try.ntmps7
    go_wp2_with fail
    refine (HWR.out).mono ?_
    rintro e w1 ⟨rfl, hb1⟩
    go_wp2_with fail
    refine (HRD.out _).mono ?_
    rintro e w2 ⟨a2, c2, rfl, n2, _, _, hb2⟩
    have h2 := below_then hb1 hb2
    go_wp2_with fail
    refine (HDB.out _ (hu.next h2)).mono ?_
    rintro e w3 ⟨rfl, hb3⟩
    have h3 := below_then h2 hb3
    go_wp2_with fail
    refine (HRO.out _).mono ?_
    rintro e w4 ⟨a4, c4, rfl, n4, hb4⟩
    have h4 := below_then h3 hb4
    go_wp2_with fail
    refine (dbegun_any _).mono ?_
    rintro e w5 ⟨rfl, hb5⟩
    have h5 := below_then h4 hb5
    go_wp2_with fail
    refine (HSM.out _ a2 c2 a4 c4 (n2.next (below_then (below_then hb3 hb4) hb5)) (n4.next hb5)).mono ?_
    rintro e w6 ⟨rfl, hb6⟩
    go_wp2_with fail
    go_ret
    exact ⟨rfl, below_then h5 hb6⟩
end Go.Proofs.Ytpjmpbpbfjemdaa
