/- The law DeltaTells. -/
import Derived.Test.YtpjmpbpbfjemdaaDR1
import Derived.Test.YtpjmpbpbfjemdaaDW6
namespace Go.Proofs.Ytpjmpbpbfjemdaa
open Go.RowKit
set_option linter.unusedVariables false

set_option maxHeartbeats 1000000 in
set_option maxRecDepth 100000 in
theorem deltaTells_walk (w : World) (a : Option Addr) (c : Nat) (l : List Nat) (hm : l.length ≤ maxLen) (hcap : l.length ≤ c ∧ c ≤ maxLen ∧ (a = none → c = 0)) (hx : ∀ x ∈ l, x < 18446744073709551616) (hu : Nums w w.heap.size a l)
    (n : Nat) (hn : n < 18446744073709551616) (hr : l.length * 8 ≤ 140737488351232) :
    Calls Try.prog 3 #[.slice a l.length c, .int .u64 (n : Int)] w (BoolPost true w) := by
  unfold maxLen at hm
  have hdf := diffs_any a c l w hx hu
  have hsf := fun W h => sums_any a c l W hx h
  have HRD := Lib.hid (fun W h => rdiffs_any a c l W hr hx h)
  have HRS := Lib.hid (fun W h => rsums_any a c l W hr hx h)
  have HZ1 := Lib.hid (fun W => zig_any n W hn)
  have HZ2 := Lib.hid (fun W => rzig_any n W hn)
  have HZ3 := Lib.hid (fun W => zag_any n W hn)
  have HZ4 := Lib.hid (fun W => rzag_any n W hn)
  generalize D.zig n = zi at *
  generalize D.zag n = za at *
  have hdl := D.diffs_length l
  have hsl := D.sums_length l
  by_cases h : 64 < l.length
  · simp only [if_pos h] at hdf hsf
    have HDF := Lib.hid hdf
    have HSF := Lib.hid hsf
    have g2 : decide ((64 : Int) < (l.length : Int)) = true := by simp; omega
    have hsm := fun w a' c' h1 => same_any a' none c' 0 [] [] w w.heap.size h1 (Nums.nil _ _ _) (by decide)
    rw [decide_eq_true rfl] at hsm
    have HSM := Lib.hid hsm
    clear hdf hsf hx hsm hdl hsl
    generalize D.diffs l = dl at *
    generalize D.sums l = sl at *
    go_enter Try.func3, Try.ntmps3
    go_wp2_with fail
    refine (HDF.out).mono ?_
    rintro e w1 ⟨a1, c1, rfl, n1, _, _, hb1⟩
    go_wp2_with fail
    refine (HSF.out _ (hu.next hb1)).mono ?_
    rintro e w2 ⟨a2, c2, rfl, n2, _, _, hb2⟩
    have h2 := below_then hb1 hb2
    go_wp2_with fail
    refine (HRD.out _ (hu.next h2)).mono ?_
    rintro e w3 ⟨a3, c3, rfl, n3, _, _, hb3⟩
    have h3 := below_then h2 hb3
    go_wp2_with fail
    refine (HRS.out _ (hu.next h3)).mono ?_
    rintro e w4 ⟨a4, c4, rfl, n4, _, _, hb4⟩
    have h4 := below_then h3 hb4
    go_wp2_with fail
    refine (dbegun_any _).mono ?_
    rintro e w5 ⟨rfl, hb5⟩
    have h5 := below_then h4 hb5
    go_wp2_with fail
    refine (HSM.out _ a1 c1 (Nums.nil _ _ _)).mono ?_
    rintro e w6 ⟨rfl, hb6⟩
    have h6 := below_then h5 hb6
    go_wp2_with fail
    refine (HSM.out _ a2 c2 (Nums.nil _ _ _)).mono ?_
    rintro e w7 ⟨rfl, hb7⟩
    have h7 := below_then h6 hb7
    go_wp2_with fail
    refine (HZ1.out _).mono ?_
    rintro e w8 ⟨rfl, rfl⟩
    go_wp2_with fail
    refine (HZ2.out _).mono ?_
    rintro e w9 ⟨rfl, rfl⟩
    go_wp2_with fail
    refine (HZ3.out _).mono ?_
    rintro e w10 ⟨rfl, rfl⟩
    go_wp2_with fail
    refine (HZ4.out _).mono ?_
    rintro e w11 ⟨rfl, rfl⟩
    go_wp2_with fail
    go_ret
    exact ⟨rfl, h7⟩
  · simp only [if_neg h] at hdf hsf
    have HDF := Lib.hid hdf
    have HSF := Lib.hid hsf
    have g2 : decide ((64 : Int) < (l.length : Int)) = false := by simp; omega
    have hsm := fun L (hL : L.length = l.length) w a' c' a'' c'' h1 h2 => same_any a' a'' c' c'' L L w w.heap.size h1 h2 (by omega)
    simp only [decide_true] at hsm
    have HSM1 := Lib.hid (hsm (D.diffs l) hdl)
    have HSM2 := Lib.hid (hsm (D.sums l) hsl)
    clear hdf hsf hx hsm hdl hsl
    generalize D.diffs l = dl at *
    generalize D.sums l = sl at *
    go_enter Try.func3, Try.ntmps3
    go_wp2_with fail
    refine (HDF.out).mono ?_
    rintro e w1 ⟨a1, c1, rfl, n1, _, _, hb1⟩
    go_wp2_with fail
    refine (HSF.out _ (hu.next hb1)).mono ?_
    rintro e w2 ⟨a2, c2, rfl, n2, _, _, hb2⟩
    have h2 := below_then hb1 hb2
    go_wp2_with fail
    refine (HRD.out _ (hu.next h2)).mono ?_
    rintro e w3 ⟨a3, c3, rfl, n3, _, _, hb3⟩
    have h3 := below_then h2 hb3
    go_wp2_with fail
    refine (HRS.out _ (hu.next h3)).mono ?_
    rintro e w4 ⟨a4, c4, rfl, n4, _, _, hb4⟩
    have h4 := below_then h3 hb4
    go_wp2_with fail
    refine (dbegun_any _).mono ?_
    rintro e w5 ⟨rfl, hb5⟩
    have h5 := below_then h4 hb5
    go_wp2_with fail
    refine (HSM1.out _ a1 c1 a3 c3 (n1.next (below_then (below_then (below_then hb2 hb3) hb4) hb5)) (n3.next (below_then hb4 hb5))).mono ?_
    rintro e w6 ⟨rfl, hb6⟩
    have h6 := below_then h5 hb6
    go_wp2_with fail
    refine (HSM2.out _ a2 c2 a4 c4 (n2.next (below_then (below_then (below_then hb3 hb4) hb5) hb6)) (n4.next (below_then hb5 hb6))).mono ?_
    rintro e w7 ⟨rfl, hb7⟩
    have h7 := below_then h6 hb7
    go_wp2_with fail
    refine (HZ1.out _).mono ?_
    rintro e w8 ⟨rfl, rfl⟩
    go_wp2_with fail
    refine (HZ2.out _).mono ?_
    rintro e w9 ⟨rfl, rfl⟩
    go_wp2_with fail
    refine (HZ3.out _).mono ?_
    rintro e w10 ⟨rfl, rfl⟩
    go_wp2_with fail
    refine (HZ4.out _).mono ?_
    rintro e w11 ⟨rfl, rfl⟩
    go_wp2_with fail
    go_ret
    exact ⟨rfl, h7⟩
end Go.Proofs.Ytpjmpbpbfjemdaa
