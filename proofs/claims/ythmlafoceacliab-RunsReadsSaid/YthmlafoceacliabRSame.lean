/- The walk of hypostyleref.SameRuns. -/
import Derived.Test.YthmlafoceacliabREq
namespace Go.Proofs.Ythmlafoceacliab
open Go.RowKit
set_option linter.unusedVariables false

theorem rtake_eq_succ (l m : List R.Run) (k : Nat) (hlm : l.length = m.length) (hk : k < l.length) (h : l.take k = m.take k) (hq : l.getD k (0, 0) = m.getD k (0, 0)) : l.take (k + 1) = m.take (k + 1) := by
  rw [rtake_snoc l k hk, rtake_snoc m k (by omega), h, hq]
theorem rne_at (l m : List R.Run) (k : Nat) (hq : l.getD k (0, 0) ≠ m.getD k (0, 0)) : ¬ l = m := fun e => hq (by rw [e])
theorem rtake_eq_all (l m : List R.Run) (k : Nat) (hlm : l.length = m.length) (hk : l.length ≤ k) (h : l.take k = m.take k) : l = m := by
  rwa [List.take_of_length_le hk, List.take_of_length_le (by omega)] at h

set_option maxHeartbeats 400000 in
theorem rsame_len (a a' : Option Addr) (n m c c' : Nat) (w : World) (h : ((n : Int) != (m : Int)) = true) :
    Calls Try.prog 11 #[.slice a n c, .slice a' m c'] w (BoolPost false w) := by
  go_enter Try.func11, Try.ntmps11
  go_wp2_with fail
  go_ret
  exact ⟨rfl, Below.refl _ _⟩

set_option maxHeartbeats 400000 in
theorem rsame_nil (a a' : Option Addr) (c c' : Nat) (w : World) :
    Calls Try.prog 11 #[.slice a 0 c, .slice a' 0 c'] w (BoolPost true w) := by
  go_enter Try.func11, Try.ntmps11
  go_wp2_with fail
  refine wp_loop_rounds 1 ?_
  rw [rounds_succ]
  go_wp2_with fail
  go_ret
  exact ⟨rfl, Below.refl _ _⟩

set_option maxHeartbeats 400000 in
theorem rsame_some (b off b' off' c c' : Nat) (l m : List R.Run) (w : World) (hlm : l.length = m.length) (hl : l.length < 9223372036854775807)
    (h1 : ∀ i, i < l.length → w.cell? ⟨b, off + i * 2, none⟩ = some (.int .u64 ((l.getD i (0, 0)).1 : Int)) ∧ w.cell? ⟨b, off + i * 2 + 1, none⟩ = some (.int .i64 (l.getD i (0, 0)).2))
    (h2 : ∀ i, i < m.length → w.cell? ⟨b', off' + i * 2, none⟩ = some (.int .u64 ((m.getD i (0, 0)).1 : Int)) ∧ w.cell? ⟨b', off' + i * 2 + 1, none⟩ = some (.int .i64 (m.getD i (0, 0)).2)) :
    Calls Try.prog 11 #[.slice (some ⟨b, off, none⟩) l.length c, .slice (some ⟨b', off', none⟩) m.length c'] w (BoolPost (decide (l = m)) w) := by
  rw [← hlm]
  have H1 := Lib.hid h1
  have H2 := Lib.hid h2
  have HL := Lib.hid hlm
  clear h1 h2 hlm
  go_enter Try.func11, Try.ntmps11
  go_wp2_with fail
  go_loopw [5] (fun i wr => ∃ k d : Nat, k ≤ l.length ∧ i = .int .i64 k ∧ wr = w.drewN d ∧ Hid (l.take k = m.take k)) (fun i _ => l.length - (intOf i).toNat)
  case atStart => exact ⟨0, 0, by omega, rfl, rfl, Lib.hid (by simp)⟩
  case round =>
    obtain ⟨k, d, hk, rfl, rfl, HK⟩ := hrel
    by_cases hlt : k < l.length
    · obtain ⟨c1, c1'⟩ := H1.out k hlt
      obtain ⟨c2, c2'⟩ := H2.out k (by rw [← HL.out]; exact hlt)
      have HQ := Lib.hid (fun hq => rtake_eq_succ l m k HL.out hlt HK.out hq)
      have HNQ := Lib.hid (fun hq => rne_at l m k hq)
      generalize l.getD k (0, 0) = p at *
      generalize m.getD k (0, 0) = q at *
      obtain ⟨x, y⟩ := p
      obtain ⟨x', y'⟩ := q
      simp only at c1 c1' c2 c2'
      have hkm : k < m.length := by rw [← HL.out]; exact hlt
      by_cases hq : (x, y) = (x', y')
      · have HT := Lib.hid (HQ.out hq)
        obtain ⟨rfl, rfl⟩ : x = x' ∧ y = y' := by simpa using hq
        clear hq HQ HNQ
        have hne := fun w => run_neq_no w (x : Int) y
        have hgd := fun w o o' xs ys => run_eqGuard_agg (P := Try.prog) w .neq 42 o o' xs ys guard_run
        go_wp2_with fail
        go_quiet (fail)
        clear hne hgd
        go_wp2_with fail
        exact ⟨⟨k + 1, d + nq, by omega, by go_num, rfl, HT⟩, by simp [intOf]; omega⟩
      · have HN := Lib.hid (HNQ.out hq)
        clear HQ HNQ
        have hne := fun w => run_neq_yes w (x : Int) y (x' : Int) y' (fun h => hq (by obtain ⟨h1, h2⟩ := h; rw [h2]; congr 1; omega))
        have hgd := fun w o o' xs ys => run_eqGuard_agg (P := Try.prog) w .neq 42 o o' xs ys guard_run
        clear hq
        go_wp2_with fail
        go_quiet (fail)
        clear hne hgd
        go_wp2_with fail
        go_ret
        exact ⟨by rw [decide_eq_false HN.out]; rfl, below_drewN (below_drewN (Below.refl _ _) _) _⟩
    · have HE := Lib.hid (rtake_eq_all l m k HL.out (by omega) HK.out)
      go_wp2_with fail
      go_ret
      exact ⟨by rw [decide_eq_true HE.out]; rfl, below_drewN (Below.refl _ _) _⟩

theorem rsame_any (a a' : Option Addr) (c c' : Nat) (l m : List R.Run) (w : World) (B : Nat) (h1 : Runs w B a l) (h2 : Runs w B a' m) (hl : l.length < 9223372036854775807) :
    Calls Try.prog 11 #[.slice a l.length c, .slice a' m.length c'] w (BoolPost (decide (l = m)) w) := by
  by_cases hlm : l.length = m.length
  · by_cases hn : l = []
    · subst hn
      obtain rfl : m = [] := List.eq_nil_of_length_eq_zero hlm.symm
      exact rsame_nil a a' c c' w
    · obtain ⟨b, off, rfl, _, hc⟩ := h1 hn
      obtain ⟨b', off', rfl, _, hc'⟩ := h2 (by intro e; rw [e] at hlm; exact hn (List.eq_nil_of_length_eq_zero hlm))
      exact rsame_some b off b' off' c c' l m w hlm hl hc hc'
  · rw [decide_eq_false (fun e => hlm (by rw [e]))]
    exact rsame_len a a' _ _ c c' w (by simpa using (by omega : ¬ (l.length : Int) = (m.length : Int)))
end Go.Proofs.Ythmlafoceacliab
