/- The walks of hypostyleref.SameTexts, hypostylelaw.texts. -/
import Derived.Test.YtplhlnlonjlcaaaTBase
import Derived.BigQuiet
namespace Go.Proofs.Ytplhlnlonjlcaaa
open Go.RowKit
set_option linter.unusedVariables false

theorem ttake_eq_succ (l m : List (List UInt8)) (k : Nat) (hk : k < l.length) (hk' : k < m.length) (h : l.take k = m.take k) (hq : l.getD k [] = m.getD k []) : l.take (k + 1) = m.take (k + 1) := by
  rw [ttake_succ l k hk, ttake_succ m k hk', h, hq]

set_option maxHeartbeats 400000 in
theorem tsame_len (a a' : Option Addr) (n m c c' : Nat) (w : World) (h : ((n : Int) != (m : Int)) = true) :
    Calls Try.prog 18 #[.slice a n c, .slice a' m c'] w (BoolPost false w) := by
  go_enter Try.func18, Try.ntmps18
  go_wp2_with fail
  go_ret
  exact ⟨rfl, Below.refl _ _⟩

set_option maxHeartbeats 1000000 in
theorem tsame_in (a a' : Option Addr) (c c' : Nat) (l m : List (List UInt8)) (w : World) (B : Nat) (hlm : l.length = m.length) (hl : l.length < 9223372036854775807) (h1 : Txts w B a l) (h2 : Txts w B a' m) :
    Calls Try.prog 18 #[.slice a l.length c, .slice a' m.length c'] w (BoolPost (decide (l = m)) w) := by
  rw [← hlm]
  have H1 := Lib.hid h1
  have H2 := Lib.hid h2
  have HL := Lib.hid hlm
  clear h1 h2 hlm
  go_enter Try.func18, Try.ntmps18
  go_wp2_with fail
  go_loopw [5] (fun i wr => ∃ k d : Nat, k ≤ l.length ∧ i = .int .i64 k ∧ wr = w.drewN d ∧ Hid (l.take k = m.take k)) (fun i _ => l.length - (intOf i).toNat)
  case atStart => exact ⟨0, 0, by omega, rfl, rfl, Lib.hid (by simp)⟩
  case round =>
    obtain ⟨k, d, hk, rfl, rfl, HK⟩ := hrel
    by_cases hlt : k < l.length
    · have hltm : k < m.length := by rw [← HL.out]; exact hlt
      obtain ⟨b1, o1, rfl, _, hc1⟩ := H1.out (fun e => by rw [e] at hlt; simp at hlt)
      obtain ⟨b2, o2, rfl, _, hc2⟩ := H2.out (fun e => by rw [e] at hltm; simp at hltm)
      have c1 := hc1 k hlt
      have c2 := hc2 k hltm
      have HT := Lib.hid (fun h => ttake_eq_succ l m k hlt hltm HK.out h)
      have HNE := Lib.hid (fun (h : l.getD k [] ≠ m.getD k []) => show ¬ l = m from fun e => h (by rw [e]))
      have hte := tl_eq (l.getD k []) (m.getD k [])
      generalize l.getD k [] = x at *
      generalize m.getD k [] = y at *
      generalize str x = X at *
      generalize str y = Y at *
      have hkI : (k : Int) < (l.length : Int) := by omega
      clear hc1 hc2
      by_cases hq : x = y
      · rw [decide_eq_true hq] at hte
        have hte2 : (X.toList != Y.toList) = false := by unfold bne; rw [hte]; rfl
        have HT2 := Lib.hid (HT.out hq)
        clear hq
        go_wp2_with fail
        go_quiet (fail)
        go_wp2_with fail
        exact ⟨⟨k + 1, d + nq, by omega, by go_num, rfl, HT2⟩, by simp [intOf]; omega⟩
      · rw [decide_eq_false hq] at hte
        have hte2 : (X.toList != Y.toList) = true := by unfold bne; rw [hte]; rfl
        have HN2 := Lib.hid (HNE.out hq)
        clear hq
        go_wp2_with fail
        go_quiet (fail)
        go_wp2_with fail
        go_ret
        exact ⟨by rw [decide_eq_false HN2.out]; rfl, below_drewN (below_drewN (Below.refl _ _) _) _⟩
    · have HE := Lib.hid (show l = m by
        have h := HK.out
        rw [List.take_of_length_le (by omega), List.take_of_length_le (by have := HL.out; omega)] at h; exact h)
      go_wp2_with fail
      go_ret
      exact ⟨by rw [decide_eq_true HE.out]; rfl, below_drewN (Below.refl _ _) _⟩

theorem tsame_any (a a' : Option Addr) (c c' : Nat) (l m : List (List UInt8)) (w : World) (B : Nat) (h1 : Txts w B a l) (h2 : Txts w B a' m) (hl : l.length < 9223372036854775807) :
    Calls Try.prog 18 #[.slice a l.length c, .slice a' m.length c'] w (BoolPost (decide (l = m)) w) := by
  by_cases hlm : l.length = m.length
  · exact tsame_in a a' c c' l m w B hlm hl h1 h2
  · rw [decide_eq_false (fun e => hlm (by rw [e]))]
    exact tsame_len a a' _ _ c c' w (by simpa using (by omega : ¬ (l.length : Int) = (m.length : Int)))

set_option maxHeartbeats 400000 in
theorem texts_any (v : Value) (w : World) :
    Calls Try.prog 23 #[v] w fun e w' => e = .returned v ∧ w = w' := by
  go_enter Try.func23, Try.ntmps23
  go_wp2_with fail
  go_ret
  exact ⟨rfl, rfl⟩
end Go.Proofs.Ytplhlnlonjlcaaa
