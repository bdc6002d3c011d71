/- The walks of hypostyleref.BaseOf, CostOf. -/
import Derived.Test.YtpjmpbpbfjemdaaPPlain
import Derived.Test.YtpjmpbpbfjemdaaPW2
import Derived.Test.YtpjmpbpbfjemdaaVaryR5
import Derived.Test.YtpjmpbpbfjemdaaBitsW6
namespace Go.Proofs.Ytpjmpbpbfjemdaa
open Go.RowKit
set_option linter.unusedVariables false

set_option maxHeartbeats 1000000 in
set_option maxRecDepth 100000 in
theorem rbase_some (b off c : Nat) (l : List Nat) (w : World) (h0 : 0 < l.length) (hl : l.length ≤ 64)
    (hc : ∀ i, i < l.length → w.cell? ⟨b, off + i, none⟩ = some (.int .u64 ((l.getD i 0 : Nat) : Int))) :
    Calls Try.prog 36 #[.slice (some ⟨b, off, none⟩) l.length c] w fun e w' => e = .returned (.int .u64 (P.base l : Nat)) ∧ w = w' := by
  have HC := Lib.hid hc
  have c0 : w.cell? ⟨b, off, none⟩ = some (.int .u64 ((l.getD 0 0 : Nat) : Int)) := hc 0 h0
  have HB := Lib.hid (show P.base l = P.mn (l.getD 0 0) l by
    cases l with
    | nil => simp at h0
    | cons x t => exact (P.mn_self x t).symm)
  have HTK := Lib.hid (fun k h => P.mn_take (l.getD 0 0) l k h)
  have h1L : ((l.length : Int) == 0) = false := by rw [beq_eq_false_iff_ne]; omega
  generalize l.getD 0 0 = x0 at *
  have h0I : (0 : Int) < (l.length : Int) := by omega
  clear hc
  go_enter Try.func36, Try.ntmps36
  go_wp2_with fail
  go_loop [3, 4] (fun m i => ∃ k : Nat, k ≤ l.length ∧ i = .int .i64 k ∧ m = .int .u64 ((P.mn x0 (l.take k) : Nat) : Int)) (fun _ i => l.length - (intOf i).toNat)
  case atStart => exact ⟨0, by omega, rfl, rfl⟩
  case round =>
    obtain ⟨k, hk, rfl, rfl⟩ := hrel
    by_cases hlt : k < l.length
    · have ck := HC.out k hlt
      have HT := Lib.hid (HTK.out k hlt)
      generalize l.getD k 0 = x at *
      generalize P.mn x0 (l.take k) = m at *
      by_cases hless : x < m
      · have g1 : decide (x < m) = true := decide_eq_true hless
        have HE := Lib.hid (show min m x = x by omega)
        clear hless
        go_wp2_with fail
        exact ⟨⟨k + 1, by omega, by go_num, by rw [HT.out, HE.out]⟩, by simp [intOf]; omega⟩
      · have g1 : decide (x < m) = false := decide_eq_false hless
        have HE := Lib.hid (show min m x = m by omega)
        clear hless
        go_wp2_with fail
        exact ⟨⟨k + 1, by omega, by go_num, by rw [HT.out, HE.out]⟩, by simp [intOf]; omega⟩
    · obtain rfl : k = l.length := by omega
      rw [List.take_length]
      go_wp2_with fail
      go_ret
      exact ⟨by rw [HB.out]; rfl, rfl⟩

set_option maxHeartbeats 400000 in
theorem rbase_nil (a : Option Addr) (c : Nat) (w : World) :
    Calls Try.prog 36 #[.slice a 0 c] w fun e w' => e = .returned (.int .u64 0) ∧ w = w' := by
  go_enter Try.func36, Try.ntmps36
  go_wp2_with fail
  go_ret
  exact ⟨rfl, rfl⟩

theorem rbase_any (a : Option Addr) (c : Nat) (l : List Nat) (w : World) (Bs : Nat) (hl : l.length ≤ 64) (hu : Nums w Bs a l) :
    Calls Try.prog 36 #[.slice a l.length c] w fun e w' => e = .returned (.int .u64 (P.base l : Nat)) ∧ w = w' := by
  by_cases h : l = []
  · subst h; exact rbase_nil a c w
  · obtain ⟨b, off, rfl, hb, hc⟩ := hu h
    exact rbase_some b off c l w (by cases l with
      | nil => exact absurd rfl h
      | cons x t => simp) hl hc
end Go.Proofs.Ytpjmpbpbfjemdaa
