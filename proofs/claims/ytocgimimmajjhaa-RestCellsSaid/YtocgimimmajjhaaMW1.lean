/- The walks of rank.Count, rank.Rank, rank.Select, and of CountOf, RankOf, SelectOf. -/
import Derived.Test.YtocgimimmajjhaaMBase
namespace Go.Proofs.Ytocgimimmajjhaa
open Go.RowKit
set_option linter.unusedVariables false

def IntPost (n : Nat) (w : World) (e : Ending) (w' : World) : Prop := e = .returned (.int .i64 (n : Int)) ∧ w = w'
def TwoPost (r : Nat × Nat) (w : World) (e : Ending) (w' : World) : Prop := e = .returned (.tuple #[.int .i64 r.1, .int .i64 r.2]) ∧ w = w'

set_option maxHeartbeats 400000 in
theorem count_some (b off c : Nat) (l : List Bool) (w : World) (hl : l.length ≤ maxLen)
    (hc : ∀ i, i < l.length → w.cell? ⟨b, off + i, none⟩ = some (.bool (l.getD i false))) :
    Calls Try.prog 36 #[.slice (some ⟨b, off, none⟩) l.length c] w (IntPost (M.cnt l) w) := by
  unfold maxLen at hl
  have HC := Lib.hid hc
  clear hc
  go_enter Try.func36, Try.ntmps36
  go_wp2_with fail
  go_loop [3, 5, 8] (fun n _ i => ∃ k : Nat, k ≤ l.length ∧ i = .int .i64 k ∧ n = .int .i64 (M.cnt (l.take k) : Nat)) (fun _ _ i => l.length - (intOf i).toNat)
  case atStart => exact ⟨0, by omega, rfl, rfl⟩
  case round =>
    obtain ⟨k, hk, rfl, rfl⟩ := hrel
    have hcb : M.cnt (l.take k) ≤ k := by have := M.cnt_le (l.take k); simp only [List.length_take] at this; omega
    by_cases hlt : k < l.length
    · have hcell := HC.out k hlt
      have hsn := M.cnt_snoc l k hlt
      cases hx : l.getD k false with
      | true =>
        rw [hx] at hcell hsn
        have HS := Lib.hid hsn
        clear hsn hx
        generalize M.cnt (l.take k) = n at *
        go_wp2_with fail
        exact ⟨⟨k + 1, by omega, by go_num, by rw [HS.out]; simp⟩, by simp [intOf]; omega⟩
      | false =>
        rw [hx] at hcell hsn
        have HS := Lib.hid hsn
        clear hsn hx
        generalize M.cnt (l.take k) = n at *
        go_wp2_with fail
        exact ⟨⟨k + 1, by omega, by go_num, by rw [HS.out]; simp⟩, by simp [intOf]; omega⟩
    · obtain rfl : k = l.length := by omega
      rw [List.take_length]
      go_wp2_with fail
      go_ret
      exact ⟨rfl, rfl⟩

set_option maxHeartbeats 400000 in
theorem count_nil (a : Option Addr) (c : Nat) (w : World) :
    Calls Try.prog 36 #[.slice a 0 c] w (IntPost 0 w) := by
  go_enter Try.func36, Try.ntmps36
  go_wp2_with fail
  refine wp_loop_rounds 1 ?_
  rw [rounds_succ]
  go_wp2_with fail
  go_ret
  exact ⟨rfl, rfl⟩

theorem count_any (a : Option Addr) (c : Nat) (l : List Bool) (w : World) (B' : Nat) (hl : l.length ≤ maxLen) (hu : Bools w B' a l) :
    Calls Try.prog 36 #[.slice a l.length c] w (IntPost (M.cnt l) w) := by
  by_cases hn : l = []
  · subst hn; exact count_nil a c w
  · obtain ⟨b, off, rfl, _, hc⟩ := hu hn
    exact count_some b off c l w hl hc

set_option maxHeartbeats 400000 in
theorem rank_any (a : Option Addr) (c : Nat) (l : List Bool) (p : Int) (w : World) (B' : Nat) (hl : l.length ≤ c ∧ c ≤ maxLen ∧ (a = none → c = 0)) (hu : Bools w B' a l) :
    Calls Try.prog 28 #[.slice a l.length c, .int .i64 p] w (TwoPost (M.rankR l p) w) := by
  by_cases h0 : p < 0
  · have HR := Lib.hid (show M.rankR l p = (0, 3) by rw [M.rankR, if_pos (Or.inl h0)])
    have g1 : decide (p < 0) = true := by simp; omega
    go_enter Try.func28, Try.ntmps28
    go_wp2_with fail
    go_ret2
    rw [HR.out]; exact ⟨rfl, rfl⟩
  obtain ⟨k, rfl⟩ : ∃ k : Nat, p = k := ⟨p.toNat, by omega⟩
  have g1 : decide ((k : Int) < 0) = false := by simp
  clear h0
  by_cases h1 : l.length < k
  · have HR := Lib.hid (show M.rankR l k = (0, 3) by rw [M.rankR, if_pos (Or.inr (by omega))])
    have g2 : decide (l.length < k) = true := by simp; omega
    go_enter Try.func28, Try.ntmps28
    go_wp2_with fail
    go_ret2
    rw [HR.out]; exact ⟨rfl, rfl⟩
  · have HR := Lib.hid (show M.rankR l k = (M.cnt (l.take k), 0) by rw [M.rankR, if_neg (by omega)]; simp)
    have g2 : decide (l.length < k) = false := by simp; omega
    have hct := fun w hb => count_any a c (l.take k) w B' (by simp only [List.length_take]; omega) hb
    have hlen : (l.take k).length = k := by simp only [List.length_take]; omega
    rw [hlen] at hct
    have HCT := Lib.hid (hct w (hu.take k))
    have hkc : k ≤ c := by omega
    clear hct hlen
    generalize M.cnt (l.take k) = r at *
    obtain ⟨_, hcm, hnil⟩ := hl
    unfold maxLen at hcm
    go_enter Try.func28, Try.ntmps28
    go_wp2_with fail
    refine (HCT.out).mono ?_
    rintro e w1 ⟨rfl, rfl⟩
    go_wp2_with fail
    go_ret2
    rw [HR.out]; exact ⟨rfl, rfl⟩
end Go.Proofs.Ytocgimimmajjhaa
