/- The walks of dict.first with each of its functions; of dict.fit. -/
import Derived.Test.YtdabpnpiojmbbaaTBase
import Derived.Test.YtdabpnpiojmbbaaTPlain
import Derived.RangeFuncBox
namespace Go.Proofs.Ytdabpnpiojmbbaa
open Go.RowKit
set_option linter.unusedVariables false

theorem str_eta (s : ByteArray) : str s.data.toList = s := by simp [str]
theorem idx_step (p : List UInt8 → Bool) (l : List (List UInt8)) (j : Nat) (h : j < l.length) : (l.drop j).findIdx p = if p (l.getD j []) then 0 else (l.drop (j + 1)).findIdx p + 1 := by
  rw [List.drop_eq_getElem_cons h, List.findIdx_cons]
  have e : l.getD j [] = l[j] := by simp [List.getD, List.getElem?_eq_getElem h]
  rw [e]
  cases p l[j] <;> rfl

/-- longer than a text may be -/
def long (x : List UInt8) : Bool := decide (16 < x.length)
def atl (s x : List UInt8) : Bool := !decide (x < s)
def abv (s x : List UInt8) : Bool := decide (s < x)
theorem less_or (a b : List UInt8) : (Op.bytesLess (str a).toList (str b).toList || (str a).toList == (str b).toList) = !decide (b < a) := by
  rw [less_eq, str_toList, str_toList]
  by_cases h : b < a
  · have h1 : ¬ a < b := fun h2 => T.lt_irr a (T.lt_tr h2 h)
    have h2 : ¬ a = b := fun e => by rw [e] at h; exact T.lt_irr b h
    simp [h, h1, h2]
  · rcases T.tri a b with h1 | h1 | h1
    · simp [h, h1]
    · subst h1; simp [T.lt_irr]
    · exact absurd h1 h

set_option maxHeartbeats 400000 in
theorem longc_any (x : List UInt8) (w : World) :
    Calls Try.prog 31 #[.string (str x)] w fun e w' => e = .returned (.bool (long x)) ∧ w = w' := by
  have hs := str_size x
  have HL := Lib.hid (show long x = decide (16 < (str x).size) by rw [hs]; rfl)
  generalize str x = s at *
  clear hs
  go_enter Try.func31, Try.ntmps31
  go_wp2_with fail
  go_ret
  exact ⟨by rw [HL.out]; simp; omega, rfl⟩

set_option maxHeartbeats 400000 in
theorem findc_any (C : Nat) (s x : List UInt8) (w : World) (hB : Boxed w C 9 (.string (str s))) :
    Calls Try.prog 28 #[.string (str x), .pointer (some ⟨C, 0, none⟩)] w fun e w' => e = .returned (.bool (atl s x)) ∧ w = w' := by
  have c0 := hB.cell
  have HE := Lib.hid (show (!Op.bytesLess (str x).toList (str s).toList) = atl s x by rw [less_eq]; rfl)
  generalize str s = S at *
  generalize str x = X at *
  go_enter Try.func28, Try.ntmps28
  go_wp2_with fail
  go_ret
  exact ⟨by rw [← HE.out]; rfl, rfl⟩

set_option maxHeartbeats 400000 in
theorem lowc_any (C : Nat) (s x : List UInt8) (w : World) (hB : Boxed w C 9 (.string (str s))) :
    Calls Try.prog 29 #[.string (str x), .pointer (some ⟨C, 0, none⟩)] w fun e w' => e = .returned (.bool (atl s x)) ∧ w = w' := by
  have c0 := hB.cell
  have HE := Lib.hid (show (!Op.bytesLess (str x).toList (str s).toList) = atl s x by rw [less_eq]; rfl)
  generalize str s = S at *
  generalize str x = X at *
  go_enter Try.func29, Try.ntmps29
  go_wp2_with fail
  go_ret
  exact ⟨by rw [← HE.out]; rfl, rfl⟩

set_option maxHeartbeats 400000 in
theorem highc_any (C : Nat) (s x : List UInt8) (w : World) (hB : Boxed w C 9 (.string (str s))) :
    Calls Try.prog 30 #[.string (str x), .pointer (some ⟨C, 0, none⟩)] w fun e w' => e = .returned (.bool (abv s x)) ∧ w = w' := by
  have c0 := hB.cell
  have HE := Lib.hid (show (!Op.bytesLess (str x).toList (str s).toList && !((str x).toList == (str s).toList)) = abv s x by rw [← Bool.not_or, less_or, Bool.not_not]; rfl)
  generalize str s = S at *
  generalize str x = X at *
  go_enter Try.func30, Try.ntmps30
  go_wp2_with fail
  go_ret
  exact ⟨by rw [← HE.out]; rfl, rfl⟩

set_option maxHeartbeats 1000000 in
set_option maxRecDepth 100000 in
theorem first_long (w : World) (a : Option Addr) (c : Nat) (l : List (List UInt8)) (hl : l.length ≤ 64) (hu : Txts w w.heap.size a l) :
    Calls Try.prog 27 #[.slice a l.length c, .func (.func 31) #[] #[]] w fun e w' => e = .returned (.int .i64 (l.findIdx long : Nat)) ∧ w = w' := by
  have HU := Lib.hid hu
  have HST := Lib.hid (fun j h => idx_step long l j h)
  have HC := Lib.hid (fun x => show Calls Try.prog 31 #[.string (str x)] w (fun e w' => e = .returned (.bool (long x)) ∧ w = w') from longc_any x w)
  generalize hp : long = p at *
  clear hu hp
  generalize hR : l.findIdx p = R
  have HR0 := Lib.hid (show R = 0 + (l.drop 0).findIdx p by rw [← hR]; simp)
  clear hR
  go_enter Try.func27, Try.ntmps27
  go_wp2_with fail
  go_loop [5, 6, 9] (fun _ _ i => ∃ j : Nat, j ≤ l.length ∧ i = .int .i64 j ∧ Hid (R = j + (l.drop j).findIdx p)) (fun _ _ i => l.length - (intOf i).toNat)
  case atStart => exact ⟨0, by omega, rfl, HR0⟩
  case round =>
    obtain ⟨j, hj, rfl, HJ⟩ := hrel
    by_cases hlt : j < l.length
    · obtain ⟨b, off, rfl, hb, hcc⟩ := HU.out (fun e => by rw [e] at hlt; simp at hlt)
      have cj := hcc j hlt
      have hst := HST.out j hlt
      have HCX := Lib.hid (HC.out (l.getD j []))
      generalize l.getD j [] = x at *
      have hjI : (j : Int) < (l.length : Int) := by omega
      by_cases ho : p x = true
      · rw [ho, if_pos rfl] at hst
        rw [ho] at HCX
        have HRJ := Lib.hid (show R = j by rw [HJ.out, hst, Nat.add_zero])
        clear hcc hst ho
        go_wp2_with fail
        refine (HCX.out).mono ?_
        rintro e w1 ⟨rfl, rfl⟩
        go_wp2_with fail
        go_ret
        exact ⟨by rw [HRJ.out]; rfl, rfl⟩
      · have ho' : p x = false := by simpa using ho
        rw [ho', if_neg (by simp)] at hst
        rw [ho'] at HCX
        have HN := Lib.hid (show R = (j + 1) + (l.drop (j + 1)).findIdx p by rw [HJ.out, hst]; omega)
        clear hcc hst ho ho'
        go_wp2_with fail
        refine (HCX.out).mono ?_
        rintro e w1 ⟨rfl, rfl⟩
        go_wp2_with fail
        exact ⟨⟨j + 1, by omega, by go_num, HN⟩, by simp [intOf]; omega⟩
    · obtain rfl : j = l.length := by omega
      have HRE := Lib.hid (show R = l.length by rw [HJ.out, List.drop_length]; rfl)
      go_wp2_with fail
      go_ret
      exact ⟨by rw [HRE.out]; rfl, rfl⟩

set_option maxHeartbeats 1000000 in
set_option maxRecDepth 100000 in
theorem first_find (C : Nat) (s : List UInt8) (w : World) (hB : Boxed w C 9 (.string (str s))) (a : Option Addr) (c : Nat) (l : List (List UInt8)) (hl : l.length ≤ 64) (hu : Txts w w.heap.size a l) :
    Calls Try.prog 27 #[.slice a l.length c, .func (.func 28) #[] #[.pointer (some ⟨C, 0, none⟩)]] w fun e w' => e = .returned (.int .i64 (l.findIdx (atl s) : Nat)) ∧ w = w' := by
  have HU := Lib.hid hu
  have HST := Lib.hid (fun j h => idx_step (atl s) l j h)
  have HC := Lib.hid (fun x => show Calls Try.prog 28 #[.string (str x), .pointer (some ⟨C, 0, none⟩)] w (fun e w' => e = .returned (.bool ((atl s) x)) ∧ w = w') from findc_any C s x w hB)
  generalize hp : (atl s) = p at *
  clear hu hp
  generalize hR : l.findIdx p = R
  have HR0 := Lib.hid (show R = 0 + (l.drop 0).findIdx p by rw [← hR]; simp)
  clear hR
  go_enter Try.func27, Try.ntmps27
  go_wp2_with fail
  go_loop [5, 6, 9] (fun _ _ i => ∃ j : Nat, j ≤ l.length ∧ i = .int .i64 j ∧ Hid (R = j + (l.drop j).findIdx p)) (fun _ _ i => l.length - (intOf i).toNat)
  case atStart => exact ⟨0, by omega, rfl, HR0⟩
  case round =>
    obtain ⟨j, hj, rfl, HJ⟩ := hrel
    by_cases hlt : j < l.length
    · obtain ⟨b, off, rfl, hb, hcc⟩ := HU.out (fun e => by rw [e] at hlt; simp at hlt)
      have cj := hcc j hlt
      have hst := HST.out j hlt
      have HCX := Lib.hid (HC.out (l.getD j []))
      generalize l.getD j [] = x at *
      have hjI : (j : Int) < (l.length : Int) := by omega
      by_cases ho : p x = true
      · rw [ho, if_pos rfl] at hst
        rw [ho] at HCX
        have HRJ := Lib.hid (show R = j by rw [HJ.out, hst, Nat.add_zero])
        clear hcc hst ho
        go_wp2_with fail
        refine (HCX.out).mono ?_
        rintro e w1 ⟨rfl, rfl⟩
        go_wp2_with fail
        go_ret
        exact ⟨by rw [HRJ.out]; rfl, rfl⟩
      · have ho' : p x = false := by simpa using ho
        rw [ho', if_neg (by simp)] at hst
        rw [ho'] at HCX
        have HN := Lib.hid (show R = (j + 1) + (l.drop (j + 1)).findIdx p by rw [HJ.out, hst]; omega)
        clear hcc hst ho ho'
        go_wp2_with fail
        refine (HCX.out).mono ?_
        rintro e w1 ⟨rfl, rfl⟩
        go_wp2_with fail
        exact ⟨⟨j + 1, by omega, by go_num, HN⟩, by simp [intOf]; omega⟩
    · obtain rfl : j = l.length := by omega
      have HRE := Lib.hid (show R = l.length by rw [HJ.out, List.drop_length]; rfl)
      go_wp2_with fail
      go_ret
      exact ⟨by rw [HRE.out]; rfl, rfl⟩

set_option maxHeartbeats 1000000 in
set_option maxRecDepth 100000 in
theorem first_low (C : Nat) (s : List UInt8) (w : World) (hB : Boxed w C 9 (.string (str s))) (a : Option Addr) (c : Nat) (l : List (List UInt8)) (hl : l.length ≤ 64) (hu : Txts w w.heap.size a l) :
    Calls Try.prog 27 #[.slice a l.length c, .func (.func 29) #[] #[.pointer (some ⟨C, 0, none⟩)]] w fun e w' => e = .returned (.int .i64 (l.findIdx (atl s) : Nat)) ∧ w = w' := by
  have HU := Lib.hid hu
  have HST := Lib.hid (fun j h => idx_step (atl s) l j h)
  have HC := Lib.hid (fun x => show Calls Try.prog 29 #[.string (str x), .pointer (some ⟨C, 0, none⟩)] w (fun e w' => e = .returned (.bool ((atl s) x)) ∧ w = w') from lowc_any C s x w hB)
  generalize hp : (atl s) = p at *
  clear hu hp
  generalize hR : l.findIdx p = R
  have HR0 := Lib.hid (show R = 0 + (l.drop 0).findIdx p by rw [← hR]; simp)
  clear hR
  go_enter Try.func27, Try.ntmps27
  go_wp2_with fail
  go_loop [5, 6, 9] (fun _ _ i => ∃ j : Nat, j ≤ l.length ∧ i = .int .i64 j ∧ Hid (R = j + (l.drop j).findIdx p)) (fun _ _ i => l.length - (intOf i).toNat)
  case atStart => exact ⟨0, by omega, rfl, HR0⟩
  case round =>
    obtain ⟨j, hj, rfl, HJ⟩ := hrel
    by_cases hlt : j < l.length
    · obtain ⟨b, off, rfl, hb, hcc⟩ := HU.out (fun e => by rw [e] at hlt; simp at hlt)
      have cj := hcc j hlt
      have hst := HST.out j hlt
      have HCX := Lib.hid (HC.out (l.getD j []))
      generalize l.getD j [] = x at *
      have hjI : (j : Int) < (l.length : Int) := by omega
      by_cases ho : p x = true
      · rw [ho, if_pos rfl] at hst
        rw [ho] at HCX
        have HRJ := Lib.hid (show R = j by rw [HJ.out, hst, Nat.add_zero])
        clear hcc hst ho
        go_wp2_with fail
        refine (HCX.out).mono ?_
        rintro e w1 ⟨rfl, rfl⟩
        go_wp2_with fail
        go_ret
        exact ⟨by rw [HRJ.out]; rfl, rfl⟩
      · have ho' : p x = false := by simpa using ho
        rw [ho', if_neg (by simp)] at hst
        rw [ho'] at HCX
        have HN := Lib.hid (show R = (j + 1) + (l.drop (j + 1)).findIdx p by rw [HJ.out, hst]; omega)
        clear hcc hst ho ho'
        go_wp2_with fail
        refine (HCX.out).mono ?_
        rintro e w1 ⟨rfl, rfl⟩
        go_wp2_with fail
        exact ⟨⟨j + 1, by omega, by go_num, HN⟩, by simp [intOf]; omega⟩
    · obtain rfl : j = l.length := by omega
      have HRE := Lib.hid (show R = l.length by rw [HJ.out, List.drop_length]; rfl)
      go_wp2_with fail
      go_ret
      exact ⟨by rw [HRE.out]; rfl, rfl⟩

set_option maxHeartbeats 1000000 in
set_option maxRecDepth 100000 in
theorem first_high (C : Nat) (s : List UInt8) (w : World) (hB : Boxed w C 9 (.string (str s))) (a : Option Addr) (c : Nat) (l : List (List UInt8)) (hl : l.length ≤ 64) (hu : Txts w w.heap.size a l) :
    Calls Try.prog 27 #[.slice a l.length c, .func (.func 30) #[] #[.pointer (some ⟨C, 0, none⟩)]] w fun e w' => e = .returned (.int .i64 (l.findIdx (abv s) : Nat)) ∧ w = w' := by
  have HU := Lib.hid hu
  have HST := Lib.hid (fun j h => idx_step (abv s) l j h)
  have HC := Lib.hid (fun x => show Calls Try.prog 30 #[.string (str x), .pointer (some ⟨C, 0, none⟩)] w (fun e w' => e = .returned (.bool ((abv s) x)) ∧ w = w') from highc_any C s x w hB)
  generalize hp : (abv s) = p at *
  clear hu hp
  generalize hR : l.findIdx p = R
  have HR0 := Lib.hid (show R = 0 + (l.drop 0).findIdx p by rw [← hR]; simp)
  clear hR
  go_enter Try.func27, Try.ntmps27
  go_wp2_with fail
  go_loop [5, 6, 9] (fun _ _ i => ∃ j : Nat, j ≤ l.length ∧ i = .int .i64 j ∧ Hid (R = j + (l.drop j).findIdx p)) (fun _ _ i => l.length - (intOf i).toNat)
  case atStart => exact ⟨0, by omega, rfl, HR0⟩
  case round =>
    obtain ⟨j, hj, rfl, HJ⟩ := hrel
    by_cases hlt : j < l.length
    · obtain ⟨b, off, rfl, hb, hcc⟩ := HU.out (fun e => by rw [e] at hlt; simp at hlt)
      have cj := hcc j hlt
      have hst := HST.out j hlt
      have HCX := Lib.hid (HC.out (l.getD j []))
      generalize l.getD j [] = x at *
      have hjI : (j : Int) < (l.length : Int) := by omega
      by_cases ho : p x = true
      · rw [ho, if_pos rfl] at hst
        rw [ho] at HCX
        have HRJ := Lib.hid (show R = j by rw [HJ.out, hst, Nat.add_zero])
        clear hcc hst ho
        go_wp2_with fail
        refine (HCX.out).mono ?_
        rintro e w1 ⟨rfl, rfl⟩
        go_wp2_with fail
        go_ret
        exact ⟨by rw [HRJ.out]; rfl, rfl⟩
      · have ho' : p x = false := by simpa using ho
        rw [ho', if_neg (by simp)] at hst
        rw [ho'] at HCX
        have HN := Lib.hid (show R = (j + 1) + (l.drop (j + 1)).findIdx p by rw [HJ.out, hst]; omega)
        clear hcc hst ho ho'
        go_wp2_with fail
        refine (HCX.out).mono ?_
        rintro e w1 ⟨rfl, rfl⟩
        go_wp2_with fail
        exact ⟨⟨j + 1, by omega, by go_num, HN⟩, by simp [intOf]; omega⟩
    · obtain rfl : j = l.length := by omega
      have HRE := Lib.hid (show R = l.length by rw [HJ.out, List.drop_length]; rfl)
      go_wp2_with fail
      go_ret
      exact ⟨by rw [HRE.out]; rfl, rfl⟩

/-- may these be the texts of a list? -/
def fitR (l : List (List UInt8)) : Nat := if 64 < l.length ∨ l.findIdx long < l.length then 2 else 0

set_option maxHeartbeats 400000 in
theorem fit_any (a : Option Addr) (c : Nat) (l : List (List UInt8)) (w : World) (hu : Txts w w.heap.size a l) :
    Calls Try.prog 22 #[.slice a l.length c] w fun e w' => e = .returned (.int .i64 (fitR l : Nat)) ∧ w = w' := by
  by_cases h : 64 < l.length
  · have HR := Lib.hid (show fitR l = 2 by unfold fitR; rw [if_pos (Or.inl h)])
    have g1 : decide ((64 : Int) < (l.length : Int)) = true := decide_eq_true (by omega)
    go_enter Try.func22, Try.ntmps22
    go_wp2_with fail
    go_ret
    exact ⟨by rw [HR.out]; rfl, rfl⟩
  · have g1 : decide ((64 : Int) < (l.length : Int)) = false := decide_eq_false (by omega)
    have HF := Lib.hid (first_long w a c l (by omega) hu)
    by_cases h2 : l.findIdx long < l.length
    · have HR := Lib.hid (show fitR l = 2 by unfold fitR; rw [if_pos (Or.inr h2)])
      generalize l.findIdx long = j at *
      have g2 : decide (j < l.length) = true := decide_eq_true h2
      clear h2
      go_enter Try.func22, Try.ntmps22
      go_wp2_with fail
      refine (HF.out).mono ?_
      rintro e w1 ⟨rfl, rfl⟩
      go_wp2_with fail
      go_ret
      exact ⟨by rw [HR.out]; rfl, rfl⟩
    · have HR := Lib.hid (show fitR l = 0 by unfold fitR; rw [if_neg (by rintro (x | x); exact h x; exact h2 x)])
      generalize l.findIdx long = j at *
      have g2 : decide (j < l.length) = false := decide_eq_false h2
      clear h2
      go_enter Try.func22, Try.ntmps22
      go_wp2_with fail
      refine (HF.out).mono ?_
      rintro e w1 ⟨rfl, rfl⟩
      go_wp2_with fail
      go_ret
      exact ⟨by rw [HR.out]; rfl, rfl⟩
end Go.Proofs.Ytdabpnpiojmbbaa
