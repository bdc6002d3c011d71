/- The walk of dict.Check once more: it only reads. -/
import Derived.Test.YtdabpnpiojmbbaaTW2
namespace Go.Proofs.Ytdabpnpiojmbbaa
open Go.RowKit
set_option linter.unusedVariables false

set_option maxHeartbeats 1000000 in
set_option maxRecDepth 100000 in
theorem dcheck_q (a : Option Addr) (c : Nat) (l : List (List UInt8)) (w : World) (hu : Txts w w.heap.size a l) :
    Calls Try.prog 15 #[.slice a l.length c] w fun e w' => e = .returned (.int .i64 (bookR l : Nat)) ∧ ∃ d, w' = w.drewN d := by
  have HF := Lib.hid (fit_any a c l w hu)
  have HU := Lib.hid hu
  have h64 : fitR l = 0 → l.length ≤ 64 := fun h => by
    unfold fitR at h
    rcases Classical.em (64 < l.length ∨ l.findIdx long < l.length) with hh | hh
    · rw [if_pos hh] at h; exact absurd h (by decide)
    · rcases Nat.lt_or_ge 64 l.length with k | k
      · exact absurd (Or.inl k) hh
      · exact k
  by_cases hf : fitR l ≠ 0
  · have HR := Lib.hid (show bookR l = fitR l by unfold bookR; rw [if_pos hf])
    generalize fitR l = er at *
    have g1 : ((er : Int) != 0) = true := by rw [bne_iff_ne]; omega
    clear h64 hu
    go_enter Try.func15, Try.ntmps15
    go_wp2_with fail
    refine (HF.out).mono ?_
    rintro e w1 ⟨rfl, rfl⟩
    go_wp2_with fail
    go_ret
    exact ⟨by rw [HR.out]; rfl, 0, rfl⟩
  have hf0 : fitR l = 0 := by omega
  have hl := h64 hf0
  have HRB := Lib.hid (show bookR l = if rise l then 0 else 4 by unfold bookR; rw [if_neg hf])
  rw [hf0] at HF
  clear h64 hf hf0 hu
  go_enter Try.func15, Try.ntmps15
  go_wp2_with fail
  refine (HF.out).mono ?_
  rintro e w1 ⟨rfl, rfl⟩
  go_wp2_with fail
  go_loopw [4] (fun i wr => ∃ k d : Nat, 1 ≤ k ∧ (k ≤ l.length ∨ k = 1) ∧ i = .int .i64 k ∧ Hid (Rise l k) ∧ wr = w.drewN d) (fun i _ => l.length + 1 - (intOf i).toNat)
  case atStart => exact ⟨1, 0, by omega, Or.inr rfl, rfl, Lib.hid (fun i hi => absurd hi (by omega)), rfl⟩
  case round =>
    obtain ⟨k, d, hk1, hk, rfl, HRI, rfl⟩ := hrel
    by_cases hlt : k < l.length
    · obtain ⟨b, off, rfl, hb, hcc⟩ := HU.out (fun e => by rw [e] at hlt; simp at hlt)
      have ck := hcc k hlt
      have cp := hcc (k - 1) (by omega)
      have HSU := Lib.hid (fun h => HRI.out.succ hk1 h)
      have HBD := Lib.hid (fun h => rise_bad (b := l) (i := k - 1) (by omega) h)
      rw [show k - 1 + 1 = k by omega] at HBD
      have hlo := less_or (l.getD k []) (l.getD (k - 1) [])
      generalize l.getD k [] = x at *
      generalize l.getD (k - 1) [] = y at *
      generalize str x = X at *
      generalize str y = Y at *
      have hi1 : IntKind.i64.wrap ((k : Int) - 1) = (k : Int) - 1 := by rw [IntKind.wrap_i64]; omega
      have hi2 : (0 : Int) ≤ (k : Int) - 1 := by omega
      have hi3 : ((k : Int) - 1).toNat = k - 1 := by omega
      have hi4 : (k : Int) - 1 < (l.length : Int) := by omega
      have hi5 : (k : Int) < (l.length : Int) := by omega
      have hi6 : (1 : Int) ≤ (k : Int) := by omega
      clear hcc
      by_cases hxy : y < x
      · rw [show (!decide (y < x)) = false by simp [hxy]] at hlo
        have HN := Lib.hid (HSU.out hxy)
        clear hxy
        go_wp2_with fail
        go_quiet (fail)
        go_wp2_with fail
        exact ⟨⟨k + 1, d + nq, by omega, Or.inl (by omega), by go_num, HN, rfl⟩, by simp [intOf]; omega⟩
      · rw [show (!decide (y < x)) = true by simp [hxy]] at hlo
        have HB4 := Lib.hid (show bookR l = 4 by rw [HRB.out, HBD.out hxy, if_neg (by simp)])
        clear hxy
        go_wp2_with fail
        go_quiet (fail)
        go_wp2_with fail
        go_ret
        exact ⟨by rw [HB4.out]; rfl, d + nq, World.drewN_drewN _ _ _⟩
    · have HB0 := Lib.hid (show bookR l = 0 by
        rw [HRB.out, if_pos]
        refine Rise.all ?_
        rcases hk with h | h
        · have e : k = l.length := by omega
          rw [← e]; exact HRI.out
        · intro i hi; omega)
      have hge : l.length ≤ k := by omega
      clear hk
      go_wp2_with fail
      go_ret
      exact ⟨by rw [HB0.out]; rfl, d, rfl⟩
/-- in a quiet region -/
theorem dcheck_quiet (a : Option Addr) (c : Nat) (l : List (List UInt8)) (w : World) (n : Nat) (hu : Txts w w.heap.size a l) :
    Calls Try.prog 15 #[.slice a l.length c] (w.drewN n) fun e w'' => e = .returned (.int .i64 (bookR l : Nat)) ∧ ∃ m, w'' = w.drewN m :=
  (dcheck_q a c l (w.drewN n) (hu.next (below_drewN (Below.refl _ _) _))).mono fun e w' ⟨he, d, hd⟩ => ⟨he, n + d, by rw [hd]; exact World.drewN_drewN _ _ _⟩
end Go.Proofs.Ytdabpnpiojmbbaa
