/- The walk of hypostyleref.CountOf. -/
import Derived.Test.YtocgimimmajjhaaMW1
namespace Go.Proofs.Ytocgimimmajjhaa
open Go.RowKit
set_option linter.unusedVariables false

set_option maxHeartbeats 400000 in
theorem countOf_some (b off c k0 : Nat) (l : List Bool) (w : World) (hl : l.length ≤ maxLen) (hk0 : k0 ≤ l.length)
    (hc : ∀ i, i < l.length → w.cell? ⟨b, off + i, none⟩ = some (.bool (l.getD i false))) :
    Calls Try.prog 29 #[.slice (some ⟨b, off, none⟩) l.length c, .int .i64 k0] w (IntPost (M.cnt (l.take k0)) w) := by
  unfold maxLen at hl
  have HC := Lib.hid hc
  clear hc
  go_enter Try.func29, Try.ntmps29
  go_wp2_with fail
  go_loop [5, 6] (fun n i => ∃ k : Nat, k ≤ k0 ∧ i = .int .i64 k ∧ n = .int .i64 (M.cnt (l.take k) : Nat)) (fun _ i => k0 - (intOf i).toNat)
  case atStart => exact ⟨0, by omega, rfl, rfl⟩
  case round =>
    obtain ⟨k, hk, rfl, rfl⟩ := hrel
    have hcb : M.cnt (l.take k) ≤ k := by have := M.cnt_le (l.take k); simp only [List.length_take] at this; omega
    by_cases hlt : k < k0
    · have hkl : k < l.length := by omega
      have hcell := HC.out k hkl
      have hsn := M.cnt_snoc l k hkl
      cases hx : l.getD k false with
      | true =>
        rw [hx] at hcell hsn
        have HS := Lib.hid hsn
        clear hsn hx
        generalize M.cnt (l.take k) = n at *
        go_wp2_with fail
        exact ⟨⟨k + 1, by omega, by go_num, by rw [HS.out]; simp⟩, by simp [intOf]; omega⟩
      | false =>
        rw [hx] at hcell hsn
        have HS := Lib.hid hsn
        clear hsn hx
        generalize M.cnt (l.take k) = n at *
        go_wp2_with fail
        exact ⟨⟨k + 1, by omega, by go_num, by rw [HS.out]; simp⟩, by simp [intOf]; omega⟩
    · obtain rfl : k = k0 := by omega
      go_wp2_with fail
      go_ret
      exact ⟨rfl, rfl⟩

set_option maxHeartbeats 400000 in
theorem countOf_nil (a : Option Addr) (n c : Nat) (w : World) :
    Calls Try.prog 29 #[.slice a n c, .int .i64 0] w (IntPost 0 w) := by
  go_enter Try.func29, Try.ntmps29
  go_wp2_with fail
  refine wp_loop_rounds 1 ?_
  rw [rounds_succ]
  go_wp2_with fail
  go_ret
  exact ⟨rfl, rfl⟩

theorem countOf_any (a : Option Addr) (c k0 : Nat) (l : List Bool) (w : World) (B' : Nat) (hl : l.length ≤ maxLen) (hk0 : k0 ≤ l.length) (hu : Bools w B' a l) :
    Calls Try.prog 29 #[.slice a l.length c, .int .i64 k0] w (IntPost (M.cnt (l.take k0)) w) := by
  by_cases hn : l = []
  · subst hn
    obtain rfl : k0 = 0 := by simpa using hk0
    exact countOf_nil a _ c w
  · obtain ⟨b, off, rfl, _, hc⟩ := hu hn
    exact countOf_some b off c k0 l w hl hk0 hc
end Go.Proofs.Ytocgimimmajjhaa
