/- The walk of hypostyleref.SameMarks. -/
import Derived.Test.YtocgimimmajjhaaMBase
namespace Go.Proofs.Ytocgimimmajjhaa
open Go.RowKit
set_option linter.unusedVariables false

theorem mtake_eq_succ (l m : List Bool) (k : Nat) (hlm : l.length = m.length) (hk : k < l.length) (h : l.take k = m.take k) (hq : l.getD k false = m.getD k false) : l.take (k + 1) = m.take (k + 1) := by
  rw [M.take_snoc l k hk, M.take_snoc m k (by omega), h, hq]
theorem mne_at (l m : List Bool) (k : Nat) (hq : l.getD k false ≠ m.getD k false) : ¬ l = m := fun e => hq (by rw [e])
theorem mtake_eq_all (l m : List Bool) (k : Nat) (hlm : l.length = m.length) (hk : l.length ≤ k) (h : l.take k = m.take k) : l = m := by
  rwa [List.take_of_length_le hk, List.take_of_length_le (by omega)] at h

set_option maxHeartbeats 400000 in
theorem msame_len (a a' : Option Addr) (n m c c' : Nat) (w : World) (h : ((n : Int) != (m : Int)) = true) :
    Calls Try.prog 12 #[.slice a n c, .slice a' m c'] w (BoolPost false w) := by
  go_enter Try.func12, Try.ntmps12
  go_wp2_with fail
  go_ret
  exact ⟨rfl, Below.refl _ _⟩

set_option maxHeartbeats 400000 in
theorem msame_nil (a a' : Option Addr) (c c' : Nat) (w : World) :
    Calls Try.prog 12 #[.slice a 0 c, .slice a' 0 c'] w (BoolPost true w) := by
  go_enter Try.func12, Try.ntmps12
  go_wp2_with fail
  refine wp_loop_rounds 1 ?_
  rw [rounds_succ]
  go_wp2_with fail
  go_ret
  exact ⟨rfl, Below.refl _ _⟩

set_option maxHeartbeats 400000 in
theorem msame_some (b off b' off' c c' : Nat) (l m : List Bool) (w : World) (hlm : l.length = m.length) (hl : l.length < 9223372036854775807)
    (h1 : ∀ i, i < l.length → w.cell? ⟨b, off + i, none⟩ = some (.bool (l.getD i false)))
    (h2 : ∀ i, i < m.length → w.cell? ⟨b', off' + i, none⟩ = some (.bool (m.getD i false))) :
    Calls Try.prog 12 #[.slice (some ⟨b, off, none⟩) l.length c, .slice (some ⟨b', off', none⟩) m.length c'] w (BoolPost (decide (l = m)) w) := by
  rw [← hlm]
  have H1 := Lib.hid h1
  have H2 := Lib.hid h2
  have HL := Lib.hid hlm
  clear h1 h2 hlm
  go_enter Try.func12, Try.ntmps12
  go_wp2_with fail
  go_loopw [5] (fun i wr => ∃ k d : Nat, k ≤ l.length ∧ i = .int .i64 k ∧ wr = w.drewN d ∧ Hid (l.take k = m.take k)) (fun i _ => l.length - (intOf i).toNat)
  case atStart => exact ⟨0, 0, by omega, rfl, rfl, Lib.hid (by simp)⟩
  case round =>
    obtain ⟨k, d, hk, rfl, rfl, HK⟩ := hrel
    by_cases hlt : k < l.length
    · have c1 := H1.out k hlt
      have c2 := H2.out k (by rw [← HL.out]; exact hlt)
      obtain ⟨x, hx⟩ : ∃ x, x = l.getD k false := ⟨_, rfl⟩
      obtain ⟨y, hy⟩ : ∃ y, y = m.getD k false := ⟨_, rfl⟩
      rw [← hx] at c1
      rw [← hy] at c2
      have HX := Lib.hid hx
      have HY := Lib.hid hy
      clear hx hy
      by_cases hq : x = y
      · have HT := Lib.hid (mtake_eq_succ l m k HL.out hlt HK.out (by rw [← HX.out, ← HY.out]; exact hq))
        have hb : (x == y) = true := by rw [hq]; simp
        clear hq
        go_wp2_with fail
        go_quiet (fail)
        go_wp2_with fail
        exact ⟨⟨k + 1, d + nq, by omega, by go_num, rfl, HT⟩, by simp [intOf]; omega⟩
      · have HN := Lib.hid (mne_at l m k (by rw [← HX.out, ← HY.out]; exact hq))
        have hb : (x == y) = false := by rw [beq_eq_false_iff_ne]; exact hq
        clear hq
        go_wp2_with fail
        go_quiet (fail)
        go_wp2_with fail
        go_ret
        exact ⟨by rw [decide_eq_false HN.out]; rfl, below_drewN (below_drewN (Below.refl _ _) _) _⟩
    · have HE := Lib.hid (mtake_eq_all l m k HL.out (by omega) HK.out)
      go_wp2_with fail
      go_ret
      exact ⟨by rw [decide_eq_true HE.out]; rfl, below_drewN (Below.refl _ _) _⟩

theorem msame_any (a a' : Option Addr) (c c' : Nat) (l m : List Bool) (w : World) (B : Nat) (h1 : Bools w B a l) (h2 : Bools w B a' m) (hl : l.length < 9223372036854775807) :
    Calls Try.prog 12 #[.slice a l.length c, .slice a' m.length c'] w (BoolPost (decide (l = m)) w) := by
  by_cases hlm : l.length = m.length
  · by_cases hn : l = []
    · subst hn
      obtain rfl : m = [] := List.eq_nil_of_length_eq_zero hlm.symm
      exact msame_nil a a' c c' w
    · obtain ⟨b, off, rfl, _, hc⟩ := h1 hn
      obtain ⟨b', off', rfl, _, hc'⟩ := h2 (by intro e; rw [e] at hlm; exact hn (List.eq_nil_of_length_eq_zero hlm))
      exact msame_some b off b' off' c c' l m w hlm hl hc hc'
  · rw [decide_eq_false (fun e => hlm (by rw [e]))]
    exact msame_len a a' _ _ c c' w (by simpa using (by omega : ¬ (l.length : Int) = (m.length : Int)))
end Go.Proofs.Ytocgimimmajjhaa
