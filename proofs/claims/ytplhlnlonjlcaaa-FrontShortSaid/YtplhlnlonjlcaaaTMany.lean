/- The walk of hypostyleref.ManyTexts; texts that fit. -/
import Derived.Test.YtplhlnlonjlcaaaTBase
import Derived.Test.YtplhlnlonjlcaaaTPlain
import Derived.RangeFuncBox
namespace Go.Proofs.Ytplhlnlonjlcaaa
open Go.RowKit
set_option linter.unusedVariables false

theorem idx_step (p : List UInt8 → Bool) (l : List (List UInt8)) (j : Nat) (h : j < l.length) : (l.drop j).findIdx p = if p (l.getD j []) then 0 else (l.drop (j + 1)).findIdx p + 1 := by
  rw [List.drop_eq_getElem_cons h, List.findIdx_cons]
  have e : l.getD j [] = l[j] := by simp [List.getD, List.getElem?_eq_getElem h]
  rw [e]
  cases p l[j] <;> rfl

/-- longer than a text may be -/
def long (x : List UInt8) : Bool := decide (16 < x.length)
/-- may these be the texts of a list? -/
def fitR (l : List (List UInt8)) : Nat := if 64 < l.length ∨ l.findIdx long < l.length then 2 else 0
/-- so far none is too long -/
def Fits (l : List (List UInt8)) (k : Nat) : Prop := ∀ i, i < k → (l.getD i []).length ≤ 16
theorem Fits.succ {l : List (List UInt8)} {k : Nat} (h : Fits l k) (hk : (l.getD k []).length ≤ 16) : Fits l (k + 1) := by
  intro i hi
  by_cases e : i = k
  · rw [e]; exact hk
  · exact h i (by omega)
theorem Fits.all {l : List (List UInt8)} (h : Fits l l.length) : fitR l = if 64 < l.length then 2 else 0 := by
  unfold fitR
  have : ¬ l.findIdx long < l.length := fun hh => by
    have h3 := List.findIdx_getElem (w := hh)
    have h4 := h _ hh
    simp only [List.getD, List.getElem?_eq_getElem hh, Option.getD_some] at h4
    simp [long] at h3
    omega
  simp [this]
theorem fit_long {l : List (List UInt8)} {k : Nat} (hk : k < l.length) (h : 16 < (l.getD k []).length) : fitR l = 2 := by
  unfold fitR
  rw [if_pos]
  refine Or.inr (List.findIdx_lt_length_of_exists ⟨l.getD k [], tgetD_mem l k hk, by simpa [long] using h⟩)

set_option maxHeartbeats 1000000 in
set_option maxRecDepth 100000 in
theorem many_any (a : Option Addr) (c : Nat) (l : List (List UInt8)) (w : World) (hm : l.length ≤ maxLen) (hu : Txts w w.heap.size a l) :
    Calls Try.prog 11 #[.slice a l.length c] w fun e w' => e = .returned (.bool (decide (fitR l ≠ 0))) ∧ w = w' := by
  unfold maxLen at hm
  have HU := Lib.hid hu
  have HFA := Lib.hid (fun (h : Fits l l.length) => h.all)
  have HFL := Lib.hid (fun k hk h => fit_long (l := l) (k := k) hk h)
  generalize fitR l = R at *
  clear hu
  go_enter Try.func11, Try.ntmps11
  go_wp2_with fail
  go_loop [3] (fun i => ∃ k : Nat, k ≤ l.length ∧ i = .int .i64 k ∧ Hid (Fits l k)) (fun i => l.length - (intOf i).toNat)
  case atStart => exact ⟨0, by omega, rfl, Lib.hid (fun i hi => absurd hi (by omega))⟩
  case round =>
    obtain ⟨k, hk, rfl, HF⟩ := hrel
    by_cases hlt : k < l.length
    · obtain ⟨b, off, rfl, hb, hcc⟩ := HU.out (fun e => by rw [e] at hlt; simp at hlt)
      have ck := hcc k hlt
      have HSU := Lib.hid (fun h => HF.out.succ h)
      have HLG := Lib.hid (fun h => HFL.out k hlt h)
      have hs := str_size (l.getD k [])
      generalize l.getD k [] = x at *
      generalize str x = X at *
      have hkI : (k : Int) < (l.length : Int) := by omega
      clear hcc
      by_cases hlo : 16 < X.size
      · have g1 : decide ((16 : Int) < (X.size : Int)) = true := decide_eq_true (by omega)
        have HR := Lib.hid (HLG.out (by omega))
        clear hs hlo
        go_wp2_with fail
        go_ret
        exact ⟨by rw [HR.out]; rfl, rfl⟩
      · have g1 : decide ((16 : Int) < (X.size : Int)) = false := decide_eq_false (by omega)
        have HN := Lib.hid (HSU.out (by omega))
        clear hs hlo
        go_wp2_with fail
        exact ⟨⟨k + 1, by omega, by go_num, HN⟩, by simp [intOf]; omega⟩
    · obtain rfl : k = l.length := by omega
      have HE := Lib.hid (HFA.out HF.out)
      go_wp2_with fail
      go_ret
      refine ⟨?_, rfl⟩
      rw [HE.out]
      by_cases h : 64 < l.length
      · simp [h]; omega
      · simp [h]; omega
end Go.Proofs.Ytplhlnlonjlcaaa
