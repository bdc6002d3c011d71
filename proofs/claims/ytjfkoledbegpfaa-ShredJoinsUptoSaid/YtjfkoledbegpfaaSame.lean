/- The walk of hypostyleref.SameNums. -/
import Derived.Test.YtjfkoledbegpfaaBase
namespace Go.Proofs.Ytjfkoledbegpfaa
open Go.RowKit
set_option linter.unusedVariables false

set_option maxHeartbeats 400000 in
theorem same_len (a a' : Option Addr) (n m c c' : Nat) (w : World) (h : ((n : Int) != (m : Int)) = true) :
    Calls Try.prog 38 #[.slice a n c, .slice a' m c'] w (BoolPost false w) := by
  go_enter Try.func38, Try.ntmps38
  go_wp2_with fail
  go_ret
  exact ⟨rfl, Below.refl _ _⟩

set_option maxHeartbeats 400000 in
theorem same_nil (a a' : Option Addr) (c c' : Nat) (w : World) :
    Calls Try.prog 38 #[.slice a 0 c, .slice a' 0 c'] w (BoolPost true w) := by
  go_enter Try.func38, Try.ntmps38
  go_wp2_with fail
  refine wp_loop_rounds 1 ?_
  rw [rounds_succ]
  go_wp2_with fail
  go_ret
  exact ⟨rfl, Below.refl _ _⟩

set_option maxHeartbeats 400000 in
theorem same_some (b off b' off' c c' : Nat) (l m : List Nat) (w : World) (hlm : l.length = m.length) (hl : l.length ≤ 9223372036854775807)
    (h1 : ∀ i, i < l.length → w.cell? ⟨b, off + i, none⟩ = some (.int .u64 ((l.getD i 0 : Nat) : Int)))
    (h2 : ∀ i, i < m.length → w.cell? ⟨b', off' + i, none⟩ = some (.int .u64 ((m.getD i 0 : Nat) : Int))) :
    Calls Try.prog 38 #[.slice (some ⟨b, off, none⟩) l.length c, .slice (some ⟨b', off', none⟩) m.length c'] w (BoolPost (decide (l = m)) w) := by
  rw [← hlm]
  have H1 := Lib.hid h1
  have H2 := Lib.hid h2
  have HL := Lib.hid hlm
  clear h1 h2 hlm
  go_enter Try.func38, Try.ntmps38
  go_wp2_with fail
  go_loopw [5] (fun i wr => ∃ k d : Nat, k ≤ l.length ∧ i = .int .i64 k ∧ wr = w.drewN d ∧ Hid (l.take k = m.take k)) (fun i _ => l.length - (intOf i).toNat)
  case atStart => exact ⟨0, 0, by omega, rfl, rfl, Lib.hid (by simp)⟩
  case round =>
    obtain ⟨k, d, hk, rfl, rfl, HK⟩ := hrel
    by_cases hlt : k < l.length
    · have c1 := H1.out k hlt
      have c2 := H2.out k (by rw [← HL.out]; exact hlt)
      obtain ⟨x, hx⟩ : ∃ x, x = l.getD k 0 := ⟨_, rfl⟩
      obtain ⟨y, hy⟩ : ∃ y, y = m.getD k 0 := ⟨_, rfl⟩
      rw [← hx] at c1
      rw [← hy] at c2
      have HX := Lib.hid hx
      have HY := Lib.hid hy
      clear hx hy
      by_cases hq : x = y
      · have HT := Lib.hid (take_eq_succ l m k HL.out hlt HK.out (by rw [← HX.out, ← HY.out]; exact hq))
        have hb : ((x : Int) != (y : Int)) = false := by rw [hq]; simp
        clear hq
        go_wp2_with fail
        go_quiet (fail)
        go_wp2_with fail
        exact ⟨⟨k + 1, d + nq, by omega, by go_num, rfl, HT⟩, by simp [intOf]; omega⟩
      · have HN := Lib.hid (ne_at l m k (by rw [← HX.out, ← HY.out]; exact hq))
        have hb : ((x : Int) != (y : Int)) = true := by rw [bne_iff_ne]; omega
        clear hq
        go_wp2_with fail
        go_quiet (fail)
        go_wp2_with fail
        go_ret
        exact ⟨by rw [decide_eq_false HN.out]; rfl, below_drewN (below_drewN (Below.refl _ _) _) _⟩
    · have HE := Lib.hid (take_eq_all l m k HL.out (by omega) HK.out)
      go_wp2_with fail
      go_ret
      exact ⟨by rw [decide_eq_true HE.out]; rfl, below_drewN (Below.refl _ _) _⟩

theorem same_any (a a' : Option Addr) (c c' : Nat) (l m : List Nat) (w : World) (B : Nat) (h1 : Nums w B a l) (h2 : Nums w B a' m) (hl : l.length < 9223372036854775807) :
    Calls Try.prog 38 #[.slice a l.length c, .slice a' m.length c'] w (BoolPost (decide (l = m)) w) := by
  by_cases hlm : l.length = m.length
  · by_cases hn : l = []
    · subst hn
      obtain rfl : m = [] := List.eq_nil_of_length_eq_zero hlm.symm
      exact same_nil a a' c c' w
    · obtain ⟨b, off, rfl, _, hc⟩ := h1 hn
      obtain ⟨b', off', rfl, _, hc'⟩ := h2 (by intro e; rw [e] at hlm; exact hn (List.eq_nil_of_length_eq_zero hlm))
      exact same_some b off b' off' c c' l m w hlm (Nat.le_of_lt hl) hc hc'
  · rw [decide_eq_false (fun e => hlm (by rw [e]))]
    exact same_len a a' _ _ c c' w (by simpa using (by omega : ¬ (l.length : Int) = (m.length : Int)))

theorem same_any2 (a a' : Option Addr) (c c' : Nat) (l m : List Nat) (w : World) (B : Nat) (h1 : Nums w B a l) (h2 : Nums w B a' m) (hl : l.length ≤ 9223372036854775807) :
    Calls Try.prog 38 #[.slice a l.length c, .slice a' m.length c'] w (BoolPost (decide (l = m)) w) := by
  by_cases hlm : l.length = m.length
  · by_cases hn : l = []
    · subst hn
      obtain rfl : m = [] := List.eq_nil_of_length_eq_zero hlm.symm
      exact same_nil a a' c c' w
    · obtain ⟨b, off, rfl, _, hc⟩ := h1 hn
      obtain ⟨b', off', rfl, _, hc'⟩ := h2 (by intro e; rw [e] at hlm; exact hn (List.eq_nil_of_length_eq_zero hlm))
      exact same_some b off b' off' c c' l m w hlm hl hc hc'
  · rw [decide_eq_false (fun e => hlm (by rw [e]))]
    exact same_len a a' _ _ c c' w (by simpa using (by omega : ¬ (l.length : Int) = (m.length : Int)))
end Go.Proofs.Ytjfkoledbegpfaa
