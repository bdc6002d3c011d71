/- The law FrontShort. -/
import Derived.Test.YtplhlnlonjlcaaaFL2
namespace Go.Proofs.Ytplhlnlonjlcaaa
open Go.RowKit
set_option linter.unusedVariables false

theorem fl_snoc : ∀ (l : List (List UInt8)) (last x : List UInt8), F.fl last (l ++ [x]) = F.fl last l + (2 + (x.length - F.sh (l.getLastD last) x)) := by
  intro l
  induction l with
  | nil => intro last x; simp [F.fl]
  | cons y t ih =>
    intro last x
    rw [List.cons_append, F.fl, ih, F.fl]
    have e : (y :: t).getLastD last = t.getLastD y := by cases t <;> rfl
    rw [e]; omega
theorem fl_step (l : List (List UInt8)) (j : Nat) (h : j < l.length) : F.fl [] (l.take (j + 1)) = F.fl [] (l.take j) + (2 + ((l.getD j []).length - F.sh ((l.take j).getLastD []) (l.getD j []))) := by
  rw [ttake_succ l j h, fl_snoc]
theorem fl_bound (l : List (List UInt8)) (last : List UInt8) (hx : ∀ x ∈ l, x.length ≤ 16) : F.fl last l ≤ 18 * l.length := by
  rw [← F.fb_length l last hx]; exact fb_bound l last hx

set_option maxHeartbeats 1000000 in
set_option maxRecDepth 100000 in
theorem frontShort_walk (w : World) (a : Option Addr) (c : Nat) (l : List (List UInt8)) (hm : l.length ≤ maxLen) (hcap : l.length ≤ c ∧ c ≤ maxLen ∧ (a = none → c = 0)) (hx : ∀ x ∈ l, x.length ≤ maxLen) (hu : Txts w w.heap.size a l) :
    Calls Try.prog 9 #[.slice a l.length c] w (BoolPost true w) := by
  have hfw := fwrite_any a c l w hu
  unfold FwPost at hfw
  by_cases hf : fitR l = 0
  · rw [fwR_ok hf] at hfw
    obtain ⟨hl, hx16, _⟩ := ffit_zero hf
    have hsz : (str (F.fb [] l)).size = F.fl [] l := by rw [str_size, F.fb_length l [] hx16]
    simp only at hfw
    have HU := Lib.hid hu
    have HFL := Lib.hid (fun j h => fl_step l j h)
    have HBD := Lib.hid (fun j => fl_bound (l.take j) [] (fun x h => hx16 x (List.mem_of_mem_take h)))
    have HGM := Lib.hid (fun j (h : j < l.length) => hx16 _ (tgetD_mem l j h))
    have HLP := Lib.hid (fun j (h : j < l.length) (h1 : 0 < j) => show (l.take j).getLastD [] = l.getD (j - 1) [] by
      have := last_step l (j - 1) (by omega); rwa [show j - 1 + 1 = j by omega] at this)
    generalize str (F.fb [] l) = T at *
    have HFW := Lib.hid hfw
    have HSZ := Lib.hid hsz
    clear hfw hsz hx hx16 hf hu
    go_enter Try.func9, Try.ntmps9
    go_wp2_with fail
    refine (HFW.out).mono ?_
    rintro e w1 ⟨rfl, hb1⟩
    go_wp2_with fail
    refine (fbegun_any _).mono ?_
    rintro e w4 ⟨rfl, hb4⟩
    have h4 := below_then hb1 hb4
    go_wp2_with fail
    go_loopw [5, 6] (fun n i wr => ∃ j : Nat, j ≤ l.length ∧ i = .int .i64 j ∧ n = .int .i64 (F.fl [] (l.take j) : Nat) ∧ Hid (∃ d, wr = w4.drewN d)) (fun _ i _ => l.length - (intOf i).toNat)
    case atStart => exact ⟨0, by omega, rfl, rfl, Lib.hid ⟨0, rfl⟩⟩
    case round =>
      obtain ⟨j, hj, rfl, rfl, HW⟩ := hrel
      have hbw : Below w.heap.size w wr := by obtain ⟨d, e⟩ := HW.out; rw [e]; exact below_drewN h4 _
      by_cases hlt : j < l.length
      · obtain ⟨b, off, rfl, hb, hcc⟩ := HU.out (fun e => by rw [e] at hlt; simp at hlt)
        have cj := (hbw.cell (p := ⟨b, off + j, none⟩) hb).trans (hcc j hlt)
        have HS := Lib.hid (HFL.out j hlt)
        have hxl := HGM.out j hlt
        have hbd := HBD.out j
        rw [List.length_take] at hbd
        generalize F.fl [] (l.take j) = N at *
        by_cases h0 : j = 0
        · subst h0
          have h0s : F.sh ((l.take 0).getLastD []) (l.getD 0 []) = 0 := F.sh_nil_left _
          rw [h0s, Nat.sub_zero] at HS
          have hsx := str_size (l.getD 0 [])
          generalize l.getD 0 [] = x at *
          generalize str x = X at *
          rw [← hsx] at HS
          have hX16 : X.size ≤ 16 := by omega
          have hw1 : IntKind.i64.wrap ((2 : Int) + (X.size : Int)) = (2 : Int) + (X.size : Int) := by rw [IntKind.wrap_i64]; omega
          have hw2 : IntKind.i64.wrap ((N : Int) + ((2 : Int) + (X.size : Int))) = (N : Int) + ((2 : Int) + (X.size : Int)) := by rw [IntKind.wrap_i64]; omega
          rw [Nat.add_zero] at cj
          have hlI : (0 : Int) < (l.length : Int) := by omega
          clear hsx hcc
          go_wp2_with fail
          refine ⟨⟨1, by omega, by go_num, ?_, HW⟩, by simp [intOf]; omega⟩
          rw [HS.out]; congr 1; try omega
        · have hcp := (hbw.cell (p := ⟨b, off + (j - 1), none⟩) hb).trans (hcc (j - 1) (by omega))
          have hyl := HGM.out (j - 1) (by omega)
          rw [HLP.out j hlt (by omega)] at HS
          generalize l.getD j [] = x at *
          generalize l.getD (j - 1) [] = y at *
          have HSH := Lib.hid (fun W => shared_any y x W (by unfold maxLen; omega) (by unfold maxLen; omega))
          have hsx := str_size x
          have hnx := F.sh_le_right y x
          generalize F.sh y x = q at *
          generalize str x = X at *
          generalize str y = Y at *
          rw [← hsx] at HS
          have hX16 : X.size ≤ 16 := by omega
          have hqX : q ≤ X.size := by omega
          have hw1 : IntKind.i64.wrap ((2 : Int) + (X.size : Int)) = (2 : Int) + (X.size : Int) := by rw [IntKind.wrap_i64]; omega
          have hw2 : IntKind.i64.wrap ((N : Int) + ((2 : Int) + (X.size : Int))) = (N : Int) + ((2 : Int) + (X.size : Int)) := by rw [IntKind.wrap_i64]; omega
          have hw3 : IntKind.i64.wrap ((N : Int) + ((2 : Int) + (X.size : Int)) - (q : Int)) = (N : Int) + ((2 : Int) + (X.size : Int)) - (q : Int) := by rw [IntKind.wrap_i64]; omega
          have hi1 : IntKind.i64.wrap ((j : Int) - 1) = (j : Int) - 1 := by rw [IntKind.wrap_i64]; omega
          have hi2 : (0 : Int) ≤ (j : Int) - 1 := by omega
          have hi3 : ((j : Int) - 1).toNat = j - 1 := by omega
          have hi4 : (j : Int) - 1 < (l.length : Int) := by omega
          have hi5 : (j : Int) < (l.length : Int) := by omega
          have hi6 : (1 : Int) ≤ (j : Int) := by omega
          have g0 : decide ((0 : Int) < (j : Int)) = true := decide_eq_true (by omega)
          clear hsx hcc
          go_wp2_with fail
          go_quiet ((go_at_call 14; exact Calls.quiet_of (HSH.out _)))
          go_wp2_with fail
          refine ⟨⟨j + 1, by omega, by go_num, ?_, by obtain ⟨d, e⟩ := HW.out; exact Lib.hid ⟨_, by rw [e, World.drewN_drewN]⟩⟩, by simp [intOf]; omega⟩
          rw [HS.out]; congr 1; try omega
      · obtain rfl : j = l.length := by omega
        rw [List.take_length, ← HSZ.out]
        go_wp2_with fail
        go_ret
        exact ⟨by first | rfl | simp, hbw⟩
  · rw [fwR_bad hf] at hfw
    simp only at hfw
    have HFW := Lib.hid hfw
    clear hfw hf hx hu
    go_enter Try.func9, Try.ntmps9
    go_wp2_with fail
    refine (HFW.out).mono ?_
    rintro e w1 ⟨rfl, hb1⟩
    go_wp2_with fail
    refine (fbegun_any _).mono ?_
    rintro e w4 ⟨rfl, hb4⟩
    go_wp2_with fail
    go_ret
    exact ⟨rfl, below_then hb1 hb4⟩
end Go.Proofs.Ytplhlnlonjlcaaa
