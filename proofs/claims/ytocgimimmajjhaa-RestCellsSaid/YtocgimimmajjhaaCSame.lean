/- The walk of hypostyleref.SameCells. -/
import Derived.Test.YtocgimimmajjhaaCEq
namespace Go.Proofs.Ytocgimimmajjhaa
open Go.RowKit
set_option linter.unusedVariables false

theorem ctake_eq_succ (l m : List C.Cl) (k : Nat) (hlm : l.length = m.length) (hk : k < l.length) (h : l.take k = m.take k) (hq : l.getD k C.null = m.getD k C.null) : l.take (k + 1) = m.take (k + 1) := by
  rw [ctake_succ l k hk, ctake_succ m k (by omega), h, hq]
theorem cne_at (l m : List C.Cl) (k : Nat) (hq : l.getD k C.null ≠ m.getD k C.null) : ¬ l = m := fun e => hq (by rw [e])
theorem ctake_eq_all (l m : List C.Cl) (k : Nat) (hlm : l.length = m.length) (hk : l.length ≤ k) (h : l.take k = m.take k) : l = m := by
  rwa [List.take_of_length_le hk, List.take_of_length_le (by omega)] at h

set_option maxHeartbeats 400000 in
theorem csame_len (a a' : Option Addr) (n m c c' : Nat) (w : World) (h : ((n : Int) != (m : Int)) = true) :
    Calls Try.prog 14 #[.slice a n c, .slice a' m c'] w (BoolPost false w) := by
  go_enter Try.func14, Try.ntmps14
  go_wp2_with fail
  go_ret
  exact ⟨rfl, Below.refl _ _⟩

set_option maxHeartbeats 400000 in
theorem csame_nil (a a' : Option Addr) (c c' : Nat) (w : World) :
    Calls Try.prog 14 #[.slice a 0 c, .slice a' 0 c'] w (BoolPost true w) := by
  go_enter Try.func14, Try.ntmps14
  go_wp2_with fail
  refine wp_loop_rounds 1 ?_
  rw [rounds_succ]
  go_wp2_with fail
  go_ret
  exact ⟨rfl, Below.refl _ _⟩

set_option maxHeartbeats 1000000 in
set_option maxRecDepth 100000 in
theorem csame_any (a a' : Option Addr) (c c' : Nat) (l m : List C.Cl) (w : World) (B : Nat) (h1 : Cls w B a l) (h2 : Cls w B a' m) (hl : l.length < 9223372036854775807) :
    Calls Try.prog 14 #[.slice a l.length c, .slice a' m.length c'] w (BoolPost (decide (l = m)) w) := by
  by_cases hlm' : ¬ l.length = m.length
  · have hlm := hlm'
    rw [decide_eq_false (fun e => hlm (by rw [e]))]
    exact csame_len a a' _ _ c c' w (by simpa using (by omega : ¬ (l.length : Int) = (m.length : Int)))
  have hlm : l.length = m.length := Classical.not_not.1 hlm'
  clear hlm'
  by_cases hn : l = []
  · subst hn
    obtain rfl : m = [] := List.eq_nil_of_length_eq_zero hlm.symm
    exact csame_nil a a' c c' w
  obtain ⟨b, off, rfl, _, h1⟩ := h1 hn
  obtain ⟨b', off', rfl, _, h2⟩ := h2 (by intro e; rw [e] at hlm; exact hn (List.eq_nil_of_length_eq_zero hlm))
  rw [← hlm]
  have H1 := Lib.hid h1
  have H2 := Lib.hid h2
  have HL := Lib.hid hlm
  clear h1 h2 hlm hn
  go_enter Try.func14, Try.ntmps14
  go_wp2_with fail
  go_loopw [5] (fun i wr => ∃ k d : Nat, k ≤ l.length ∧ i = .int .i64 k ∧ wr = w.drewN d ∧ Hid (l.take k = m.take k)) (fun i _ => l.length - (intOf i).toNat)
  case atStart => exact ⟨0, 0, by omega, rfl, rfl, Lib.hid (by simp)⟩
  case round =>
    obtain ⟨k, d, hk, rfl, rfl, HK⟩ := hrel
    by_cases hlt : k < l.length
    · obtain ⟨c1, c2, c3⟩ := H1.out k hlt
      obtain ⟨d1, d2, d3⟩ := H2.out k (by rw [← HL.out]; exact hlt)
      have HQ := Lib.hid (fun hq => ctake_eq_succ l m k HL.out hlt HK.out hq)
      have HNQ := Lib.hid (fun hq => cne_at l m k hq)
      generalize l.getD k C.null = p at *
      generalize m.getD k C.null = q at *
      have hgd := guards_cell .neq
      have hne := fun w => cell_neq_cell w p q
      unfold cag at hne
      by_cases hq : p = q
      · have HT := Lib.hid (HQ.out hq)
        rw [decide_eq_false (fun e => e hq)] at hne
        generalize p.kind = p1 at *
        generalize p.num = p2 at *
        generalize str p.txt = p3 at *
        generalize q.kind = q1 at *
        generalize q.num = q2 at *
        generalize str q.txt = q3 at *
        clear hq HQ HNQ
        go_wp2_with fail
        go_quiet (fail)
        clear hne hgd
        go_wp2_with fail
        exact ⟨⟨k + 1, d + nq, by omega, by go_num, rfl, HT⟩, by simp [intOf]; omega⟩
      · have HN := Lib.hid (HNQ.out hq)
        rw [decide_eq_true hq] at hne
        generalize p.kind = p1 at *
        generalize p.num = p2 at *
        generalize str p.txt = p3 at *
        generalize q.kind = q1 at *
        generalize q.num = q2 at *
        generalize str q.txt = q3 at *
        clear hq HQ HNQ
        go_wp2_with fail
        go_quiet (fail)
        clear hne hgd
        go_wp2_with fail
        go_ret
        exact ⟨by rw [decide_eq_false HN.out]; rfl, below_drewN (below_drewN (Below.refl _ _) _) _⟩
    · have HE := Lib.hid (ctake_eq_all l m k HL.out (by omega) HK.out)
      go_wp2_with fail
      go_ret
      exact ⟨by rw [decide_eq_true HE.out]; rfl, below_drewN (Below.refl _ _) _⟩
end Go.Proofs.Ytocgimimmajjhaa
