/- NumsLess, and the law VaryRows. -/
import Derived.Test.YtpdnjfkhhkaecaaVaryL3
namespace Go.Proofs.Ytpdnjfkhhkaecaa
open Go.RowKit
set_option linter.unusedVariables false

theorem less_drop (l m : List Nat) (k : Nat) (h1 : k < l.length) (h2 : k < m.length) :
    V.lessN (l.drop k) (m.drop k) = if l.getD k 0 = m.getD k 0 then V.lessN (l.drop (k + 1)) (m.drop (k + 1)) else decide (l.getD k 0 < m.getD k 0) := by
  rw [List.drop_eq_getElem_cons h1, List.drop_eq_getElem_cons h2]
  simp only [V.lessN, List.getD, List.getElem?_eq_getElem h1, List.getElem?_eq_getElem h2, Option.getD_some]

theorem less_over (l m : List Nat) (k : Nat) (h : k ≤ l.length ∧ k ≤ m.length) (h' : l.length ≤ k ∨ m.length ≤ k) : V.lessN (l.drop k) (m.drop k) = decide (l.length < m.length) := by
  by_cases hm : m.length ≤ k
  · rw [List.drop_of_length_le hm]
    have : V.lessN (l.drop k) [] = false := by cases (l.drop k) <;> rfl
    rw [this]; symm; rw [decide_eq_false_iff_not]; omega
  · rw [List.drop_of_length_le (show l.length ≤ k by omega), List.drop_eq_getElem_cons (show k < m.length by omega)]
    simp only [V.lessN]; symm; rw [decide_eq_true_iff]; omega

set_option maxHeartbeats 400000 in
theorem less_nil1 (a a' : Option Addr) (c c' : Nat) (m : Nat) (w : World) (hm : m ≤ maxLen) :
    Calls Try.prog 20 #[.slice a 0 c, .slice a' m c'] w (BoolPost (decide (0 < m)) w) := by
  unfold maxLen at hm
  go_enter Try.func20, Try.ntmps20
  go_wp2_with fail
  refine wp_loop_rounds 1 ?_
  rw [rounds_succ]
  go_wp2_with fail
  go_ret
  refine ⟨ret_bool ?_, Below.refl _ _⟩
  simp

set_option maxHeartbeats 400000 in
theorem less_nil2 (a a' : Option Addr) (c c' : Nat) (n : Nat) (w : World) (hn : n ≤ maxLen) (h0 : 0 < n) :
    Calls Try.prog 20 #[.slice a n c, .slice a' 0 c'] w (BoolPost (decide (n < 0)) w) := by
  unfold maxLen at hn
  have g1 : decide ((0 : Int) < (n : Int)) = true := by simp; omega
  go_enter Try.func20, Try.ntmps20
  go_wp2_with fail
  refine wp_loop_rounds 1 ?_
  rw [rounds_succ]
  go_wp2_with fail
  go_ret
  refine ⟨ret_bool ?_, Below.refl _ _⟩
  simp

set_option maxHeartbeats 1000000 in
theorem less_some (b off b' off' c c' : Nat) (l m : List Nat) (w : World) (hl : l.length ≤ maxLen) (hm : m.length ≤ maxLen)
    (h1 : ∀ i, i < l.length → w.cell? ⟨b, off + i, none⟩ = some (.int .u64 ((l.getD i 0 : Nat) : Int)))
    (h2 : ∀ i, i < m.length → w.cell? ⟨b', off' + i, none⟩ = some (.int .u64 ((m.getD i 0 : Nat) : Int))) :
    Calls Try.prog 20 #[.slice (some ⟨b, off, none⟩) l.length c, .slice (some ⟨b', off', none⟩) m.length c'] w (BoolPost (V.lessN l m) w) := by
  unfold maxLen at hl hm
  have H1 := Lib.hid h1
  have H2 := Lib.hid h2
  clear h1 h2
  go_enter Try.func20, Try.ntmps20
  go_wp2_with fail
  go_loopw [5] (fun i wr => ∃ k d : Nat, k ≤ l.length ∧ k ≤ m.length ∧ i = .int .i64 k ∧ wr = w.drewN d ∧ Hid (V.lessN l m = V.lessN (l.drop k) (m.drop k))) (fun i _ => l.length - (intOf i).toNat)
  case atStart => exact ⟨0, 0, by omega, by omega, rfl, rfl, Lib.hid rfl⟩
  case round =>
    obtain ⟨k, d, hk1, hk2, rfl, rfl, HK⟩ := hrel
    by_cases hlt1 : k < l.length
    · have g1 : decide (k < l.length) = true := by simp; omega
      by_cases hlt2 : k < m.length
      · have g2 : decide (k < m.length) = true := by simp; omega
        have c1 := H1.out k hlt1
        have c2 := H2.out k hlt2
        have hstep := less_drop l m k hlt1 hlt2
        rw [← HK.out] at hstep
        obtain ⟨x, hx⟩ : ∃ x, x = l.getD k 0 := ⟨_, rfl⟩
        obtain ⟨y, hy⟩ : ∃ y, y = m.getD k 0 := ⟨_, rfl⟩
        rw [← hx] at c1 hstep
        rw [← hy] at c2 hstep
        have HS := Lib.hid hstep
        clear hstep hx hy
        by_cases hq : x = y
        · have HN := Lib.hid (HS.out.trans (if_pos hq))
          have hb : ((x : Int) != (y : Int)) = false := by rw [hq]; simp
          clear hq
          go_wp2_with fail
          go_quiet (fail)
          go_wp2_with fail
          exact ⟨⟨k + 1, d + nq, by omega, by omega, by go_num, rfl, HN⟩, by simp [intOf]; omega⟩
        · have HN := Lib.hid (HS.out.trans (if_neg hq))
          have hb : ((x : Int) != (y : Int)) = true := by rw [bne_iff_ne]; omega
          clear hq
          go_wp2_with fail
          go_quiet (fail)
          go_wp2_with fail
          go_quiet (fail)
          go_wp2_with fail
          go_ret
          refine ⟨ret_bool ?_, below_drewN (below_drewN (below_drewN (Below.refl _ _) _) _) _⟩
          rw [HN.out]
      · have g2 : decide (k < m.length) = false := by simp; omega
        have HE := Lib.hid (HK.out.trans (less_over l m k ⟨hk1, hk2⟩ (by omega)))
        go_wp2_with fail
        go_ret
        exact ⟨ret_bool (by rw [HE.out]), below_drewN (Below.refl _ _) _⟩
    · have g1 : decide (k < l.length) = false := by simp; omega
      have HE := Lib.hid (HK.out.trans (less_over l m k ⟨hk1, hk2⟩ (by omega)))
      go_wp2_with fail
      go_ret
      exact ⟨ret_bool (by rw [HE.out]), below_drewN (Below.refl _ _) _⟩

theorem less_any (a a' : Option Addr) (c c' : Nat) (l m : List Nat) (w : World) (B : Nat) (h1 : Nums w B a l) (h2 : Nums w B a' m) (hl : l.length ≤ maxLen) (hm : m.length ≤ maxLen) :
    Calls Try.prog 20 #[.slice a l.length c, .slice a' m.length c'] w (BoolPost (V.lessN l m) w) := by
  by_cases hn : l = []
  · subst hn
    have e : V.lessN [] m = decide (0 < m.length) := by cases m <;> simp [V.lessN]
    rw [e]
    exact less_nil1 a a' c c' _ w hm
  · have hpos : 0 < l.length := List.length_pos_iff.mpr hn
    by_cases hn' : m = []
    · subst hn'
      have e : V.lessN l [] = decide (l.length < 0) := by cases l <;> simp [V.lessN]
      rw [e]
      exact less_nil2 a a' c c' _ w hl hpos
    · obtain ⟨b, off, rfl, _, hc⟩ := h1 hn
      obtain ⟨b', off', rfl, _, hc'⟩ := h2 hn'
      exact less_some b off b' off' c c' l m w hl hm hc hc'

set_option maxHeartbeats 400000 in
set_option maxRecDepth 100000 in
theorem varyRows_walk (w : World) (a : Option Addr) (c : Nat) (l : List Nat) (hl : l.length ≤ maxLen) (hx : ∀ x ∈ l, x < 18446744073709551616) (hu : Nums w w.heap.size a l)
    (a' : Option Addr) (c' : Nat) (m : List Nat) (hm : m.length ≤ maxLen) (hx' : ∀ x ∈ m, x < 18446744073709551616) (hu' : Nums w w.heap.size a' m) (hbd : l.length + m.length ≤ 1048576) :
    Calls Try.prog 8 #[.slice a l.length c, .slice a' m.length c'] w (BoolPost true w) := by
  have HX := Lib.hid hx
  have HX' := Lib.hid hx'
  clear hx hx'
  go_enter Try.func8, Try.ntmps8
  go_wp2_with fail
  refine (begun_any _).mono ?_
  rintro e w1 ⟨rfl, hb1⟩
  go_wp2_with fail
  refine (all_any a c l _ (by omega) HX.out (hu.next hb1)).mono ?_
  rintro e w2 ⟨rfl, hb2⟩
  have h2 := below_then hb1 hb2
  go_wp2_with fail
  refine (all_any a' c' m _ (by omega) HX'.out (hu'.next h2)).mono ?_
  rintro e w3 ⟨rfl, hb3⟩
  have h3 := below_then h2 hb3
  go_wp2_with fail
  refine (less_any a a' c c' l m _ _ (hu.next h3) (hu'.next h3) hl hm).mono ?_
  rintro e w4 ⟨rfl, hb4⟩
  go_wp2_with fail
  go_ret
  refine ⟨ret_bool ?_, below_then h3 hb4⟩
  rw [str_toList, str_toList, V.less_encs l m HX.out HX'.out]; simp
end Go.Proofs.Ytpdnjfkhhkaecaa
