/- The walks of front.Write's function, slices.IndexFunc and ContainsFunc with it, front.Write. -/
import Derived.Test.YtplhlnlonjlcaaaFW1
import Derived.Test.YtplhlnlonjlcaaaTMany
import Derived.Test.YtplhlnlonjlcaaaBRow
import Derived.Test.YtplhlnlonjlcaaaVaryAll
namespace Go.Proofs.Ytplhlnlonjlcaaa
open Go.RowKit
set_option linter.unusedVariables false

set_option maxHeartbeats 400000 in
theorem flongc_any (x : List UInt8) (w : World) :
    Calls Try.prog 19 #[.string (str x)] w fun e w' => e = .returned (.bool (long x)) ∧ w = w' := by
  have hs := str_size x
  have HL := Lib.hid (show long x = decide (16 < (str x).size) by rw [hs]; rfl)
  generalize str x = s at *
  clear hs
  go_enter Try.func19, Try.ntmps19
  go_wp2_with fail
  go_ret
  exact ⟨by rw [HL.out]; simp; omega, rfl⟩

def idxR (l : List (List UInt8)) : Int := if l.findIdx long < l.length then (l.findIdx long : Nat) else -1

set_option maxHeartbeats 1000000 in
set_option maxRecDepth 100000 in
theorem index_long (w : World) (a : Option Addr) (c : Nat) (l : List (List UInt8)) (hl : l.length ≤ 64) (hu : Txts w w.heap.size a l) :
    Calls Try.prog 26 #[.slice a l.length c, .func (.func 19) #[] #[]] w fun e w' => e = .returned (.int .i64 (idxR l)) ∧ w = w' := by
  have HU := Lib.hid hu
  have HST := Lib.hid (fun j h => idx_step long l j h)
  have HC := Lib.hid (fun x => show Calls Try.prog 19 #[.string (str x)] w (fun e w' => e = .returned (.bool (long x)) ∧ w = w') from flongc_any x w)
  have HI := Lib.hid (show idxR l = if l.findIdx long < l.length then ((l.findIdx long : Nat) : Int) else -1 from rfl)
  generalize idxR l = I at *
  generalize hp : long = p at *
  clear hu hp
  generalize hR : l.findIdx p = R at *
  have HR0 := Lib.hid (show R = 0 + (l.drop 0).findIdx p by rw [← hR]; simp)
  clear hR
  go_enter Try.func26, Try.ntmps26
  go_wp2_with fail
  go_loop [5, 8] (fun _ i => ∃ j : Nat, j ≤ l.length ∧ i = .int .i64 j ∧ Hid (R = j + (l.drop j).findIdx p)) (fun _ i => l.length - (intOf i).toNat)
  case atStart => exact ⟨0, by omega, rfl, HR0⟩
  case round =>
    obtain ⟨j, hj, rfl, HJ⟩ := hrel
    by_cases hlt : j < l.length
    · obtain ⟨b, off, rfl, hb, hcc⟩ := HU.out (fun e => by rw [e] at hlt; simp at hlt)
      have cj := hcc j hlt
      have hst := HST.out j hlt
      have HCX := Lib.hid (HC.out (l.getD j []))
      generalize l.getD j [] = x at *
      have hjI : (j : Int) < (l.length : Int) := by omega
      by_cases ho : p x = true
      · rw [ho, if_pos rfl] at hst
        rw [ho] at HCX
        have HRJ := Lib.hid (show I = (j : Int) by rw [HI.out, HJ.out, hst, Nat.add_zero, if_pos hlt])
        clear hcc hst ho
        go_wp2_with fail
        refine (HCX.out).mono ?_
        rintro e w1 ⟨rfl, rfl⟩
        go_wp2_with fail
        go_ret
        exact ⟨by rw [HRJ.out]; rfl, rfl⟩
      · have ho' : p x = false := by simpa using ho
        rw [ho', if_neg (by simp)] at hst
        rw [ho'] at HCX
        have HN := Lib.hid (show R = (j + 1) + (l.drop (j + 1)).findIdx p by rw [HJ.out, hst]; omega)
        clear hcc hst ho ho'
        go_wp2_with fail
        refine (HCX.out).mono ?_
        rintro e w1 ⟨rfl, rfl⟩
        go_wp2_with fail
        exact ⟨⟨j + 1, by omega, by go_num, HN⟩, by simp [intOf]; omega⟩
    · obtain rfl : j = l.length := by omega
      have HRE := Lib.hid (show I = -1 by rw [HI.out, HJ.out, List.drop_length, if_neg (by simp)])
      go_wp2_with fail
      go_ret
      exact ⟨by rw [HRE.out]; rfl, rfl⟩

set_option maxHeartbeats 400000 in
theorem contains_long (w : World) (a : Option Addr) (c : Nat) (l : List (List UInt8)) (hl : l.length ≤ 64) (hu : Txts w w.heap.size a l) :
    Calls Try.prog 20 #[.slice a l.length c, .func (.func 19) #[] #[]] w fun e w' => e = .returned (.bool (decide (l.findIdx long < l.length))) ∧ w = w' := by
  have HC := Lib.hid (index_long w a c l hl hu)
  have HG := Lib.hid (show decide (0 ≤ idxR l) = decide (l.findIdx long < l.length) by unfold idxR; by_cases h : l.findIdx long < l.length <;> simp [h])
  generalize idxR l = I at *
  clear hu
  go_enter Try.func20, Try.ntmps20
  go_wp2_with fail
  refine (HC.out).mono ?_
  rintro e w1 ⟨rfl, rfl⟩
  go_wp2_with fail
  go_ret
  exact ⟨by rw [← HG.out]; rfl, rfl⟩
end Go.Proofs.Ytplhlnlonjlcaaa
