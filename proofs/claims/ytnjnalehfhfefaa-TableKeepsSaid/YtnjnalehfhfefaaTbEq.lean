/- Two columns, two lists of columns compared: slices.Equal, hypostyleref.SameColumns. -/
import Derived.Test.YtnjnalehfhfefaaTbBase
import Derived.Laws.StructEq
namespace Go.Proofs.Ytnjnalehfhfefaa
open Go.RowKit
set_option linter.unusedVariables false

theorem col_neq (w : World) (c d : Tb.Col) : (binOp .neq 27 (gag c) (gag d)).run Try.prog w = .ok (.bool (decide (c ≠ d))) w := by
  have hs : Try.prog.stoodInHeld 27 = false := by kernel_rfl
  unfold gag
  rw [run_neq_struct, run_equalIn_agg w 9999 27 _ _ (by kernel_rfl) hs]
  obtain ⟨a1, a2⟩ := c
  obtain ⟨b1, b2⟩ := d
  simp only
  simp [Program.fieldsOf, Try.underlying27, Op.eqFields, go_sem]
  rw [str_toList, str_toList]
  by_cases h1 : a1 = b1
  · by_cases h2 : a2 = b2
    · simp [h1, h2]
    · simp [h1, h2]
  · simp [h1]
theorem guard_col : Try.prog.eqGuardType Try.prog.depth 27 = false := by kernel_rfl
theorem guards_col (op : BinOp) : ∀ w o o' xs ys, (eqGuard op 27 o o' (.agg xs) (.agg ys)).run Try.prog w = .ok () w := fun w o o' xs ys => run_eqGuard_agg (P := Try.prog) w op 27 o o' xs ys guard_col
theorem gtake_succ (l : List Tb.Col) (k : Nat) (h : k < l.length) : l.take (k + 1) = l.take k ++ [l.getD k Tb.nulC] := by
  rw [List.take_succ_eq_append_getElem h]; simp [List.getD, List.getElem?_eq_getElem h]
theorem gtake_eq_succ (l m : List Tb.Col) (k : Nat) (hlm : l.length = m.length) (hk : k < l.length) (h : l.take k = m.take k) (hq : l.getD k Tb.nulC = m.getD k Tb.nulC) : l.take (k + 1) = m.take (k + 1) := by
  rw [gtake_succ l k hk, gtake_succ m k (by omega), h, hq]
theorem gne_at (l m : List Tb.Col) (k : Nat) (hq : l.getD k Tb.nulC ≠ m.getD k Tb.nulC) : ¬ l = m := fun e => hq (by rw [e])
theorem gtake_eq_all (l m : List Tb.Col) (k : Nat) (hlm : l.length = m.length) (hk : l.length ≤ k) (h : l.take k = m.take k) : l = m := by
  rwa [List.take_of_length_le hk, List.take_of_length_le (by omega)] at h

set_option maxHeartbeats 400000 in
theorem geq_len (a a' : Option Addr) (n m c c' : Nat) (w : World) (h : ((n : Int) != (m : Int)) = true) :
    Calls Try.prog 71 #[.slice a n c, .slice a' m c'] w (BoolPost false w) := by
  go_enter Try.func71, Try.ntmps71
  go_wp2_with fail
  go_ret
  exact ⟨rfl, Below.refl _ _⟩

set_option maxHeartbeats 400000 in
theorem geq_nil (a a' : Option Addr) (c c' : Nat) (w : World) :
    Calls Try.prog 71 #[.slice a 0 c, .slice a' 0 c'] w (BoolPost true w) := by
  go_enter Try.func71, Try.ntmps71
  go_wp2_with fail
  refine wp_loop_rounds 1 ?_
  rw [rounds_succ]
  go_wp2_with fail
  go_ret
  exact ⟨rfl, Below.refl _ _⟩

set_option maxHeartbeats 1000000 in
set_option maxRecDepth 100000 in
theorem geq_any (a a' : Option Addr) (c c' : Nat) (l m : List Tb.Col) (w : World) (B : Nat) (h1 : Gls w B a l) (h2 : Gls w B a' m) (hl : l.length < 9223372036854775807) :
    Calls Try.prog 71 #[.slice a l.length c, .slice a' m.length c'] w (BoolPost (decide (l = m)) w) := by
  by_cases hlm' : ¬ l.length = m.length
  · have hlm := hlm'
    rw [decide_eq_false (fun e => hlm (by rw [e]))]
    exact geq_len a a' _ _ c c' w (by simpa using (by omega : ¬ (l.length : Int) = (m.length : Int)))
  have hlm : l.length = m.length := Classical.not_not.1 hlm'
  clear hlm'
  by_cases hn : l = []
  · subst hn
    obtain rfl : m = [] := List.eq_nil_of_length_eq_zero hlm.symm
    exact geq_nil a a' c c' w
  obtain ⟨b, off, rfl, _, h1⟩ := h1 hn
  obtain ⟨b', off', rfl, _, h2⟩ := h2 (by intro e; rw [e] at hlm; exact hn (List.eq_nil_of_length_eq_zero hlm))
  rw [← hlm]
  have H1 := Lib.hid h1
  have H2 := Lib.hid h2
  have HL := Lib.hid hlm
  clear h1 h2 hlm hn
  go_enter Try.func71, Try.ntmps71
  go_wp2_with fail
  go_loopw [5, 13] (fun _ i wr => ∃ k d : Nat, k ≤ l.length ∧ i = .int .i64 k ∧ wr = w.drewN d ∧ Hid (l.take k = m.take k)) (fun _ i _ => l.length - (intOf i).toNat)
  case atStart => exact ⟨0, 0, by omega, rfl, rfl, Lib.hid (by simp)⟩
  case round =>
    obtain ⟨k, d, hk, rfl, rfl, HK⟩ := hrel
    by_cases hlt : k < l.length
    · obtain ⟨c1, c2⟩ := H1.out k hlt
      obtain ⟨d1, d2⟩ := H2.out k (by rw [← HL.out]; exact hlt)
      have HQ := Lib.hid (fun hq => gtake_eq_succ l m k HL.out hlt HK.out hq)
      have HNQ := Lib.hid (fun hq => gne_at l m k hq)
      generalize l.getD k Tb.nulC = p at *
      generalize m.getD k Tb.nulC = q at *
      have hgd := guards_col .neq
      have hne := fun w => col_neq w p q
      unfold gag at hne
      by_cases hq : p = q
      · have HT := Lib.hid (HQ.out hq)
        rw [decide_eq_false (fun e => e hq)] at hne
        generalize p.kind = p1 at *
        generalize str p.name = p3 at *
        generalize q.kind = q1 at *
        generalize str q.name = q3 at *
        clear hq HQ HNQ
        go_wp2_with fail
        go_quiet (fail)
        clear hne hgd
        go_wp2_with fail
        exact ⟨⟨k + 1, d + nq, by omega, by go_num, rfl, HT⟩, by simp [intOf]; omega⟩
      · have HN := Lib.hid (HNQ.out hq)
        rw [decide_eq_true hq] at hne
        generalize p.kind = p1 at *
        generalize str p.name = p3 at *
        generalize q.kind = q1 at *
        generalize str q.name = q3 at *
        clear hq HQ HNQ
        go_wp2_with fail
        go_quiet (fail)
        clear hne hgd
        go_wp2_with fail
        go_ret
        exact ⟨by rw [decide_eq_false HN.out]; rfl, below_drewN (below_drewN (Below.refl _ _) _) _⟩
    · have HE := Lib.hid (gtake_eq_all l m k HL.out (by omega) HK.out)
      go_wp2_with fail
      go_ret
      exact ⟨by rw [decide_eq_true HE.out]; rfl, below_drewN (Below.refl _ _) _⟩

set_option maxHeartbeats 400000 in
theorem gsame_len (a a' : Option Addr) (n m c c' : Nat) (w : World) (h : ((n : Int) != (m : Int)) = true) :
    Calls Try.prog 63 #[.slice a n c, .slice a' m c'] w (BoolPost false w) := by
  go_enter Try.func63, Try.ntmps63
  go_wp2_with fail
  go_ret
  exact ⟨rfl, Below.refl _ _⟩

set_option maxHeartbeats 400000 in
theorem gsame_nil (a a' : Option Addr) (c c' : Nat) (w : World) :
    Calls Try.prog 63 #[.slice a 0 c, .slice a' 0 c'] w (BoolPost true w) := by
  go_enter Try.func63, Try.ntmps63
  go_wp2_with fail
  refine wp_loop_rounds 1 ?_
  rw [rounds_succ]
  go_wp2_with fail
  go_ret
  exact ⟨rfl, Below.refl _ _⟩

set_option maxHeartbeats 1000000 in
set_option maxRecDepth 100000 in
theorem gsame_any (a a' : Option Addr) (c c' : Nat) (l m : List Tb.Col) (w : World) (B : Nat) (h1 : Gls w B a l) (h2 : Gls w B a' m) (hl : l.length < 9223372036854775807) :
    Calls Try.prog 63 #[.slice a l.length c, .slice a' m.length c'] w (BoolPost (decide (l = m)) w) := by
  by_cases hlm' : ¬ l.length = m.length
  · have hlm := hlm'
    rw [decide_eq_false (fun e => hlm (by rw [e]))]
    exact gsame_len a a' _ _ c c' w (by simpa using (by omega : ¬ (l.length : Int) = (m.length : Int)))
  have hlm : l.length = m.length := Classical.not_not.1 hlm'
  clear hlm'
  by_cases hn : l = []
  · subst hn
    obtain rfl : m = [] := List.eq_nil_of_length_eq_zero hlm.symm
    exact gsame_nil a a' c c' w
  obtain ⟨b, off, rfl, _, h1⟩ := h1 hn
  obtain ⟨b', off', rfl, _, h2⟩ := h2 (by intro e; rw [e] at hlm; exact hn (List.eq_nil_of_length_eq_zero hlm))
  rw [← hlm]
  have H1 := Lib.hid h1
  have H2 := Lib.hid h2
  have HL := Lib.hid hlm
  clear h1 h2 hlm hn
  go_enter Try.func63, Try.ntmps63
  go_wp2_with fail
  go_loopw [5] (fun i wr => ∃ k d : Nat, k ≤ l.length ∧ i = .int .i64 k ∧ wr = w.drewN d ∧ Hid (l.take k = m.take k)) (fun i _ => l.length - (intOf i).toNat)
  case atStart => exact ⟨0, 0, by omega, rfl, rfl, Lib.hid (by simp)⟩
  case round =>
    obtain ⟨k, d, hk, rfl, rfl, HK⟩ := hrel
    by_cases hlt : k < l.length
    · obtain ⟨c1, c2⟩ := H1.out k hlt
      obtain ⟨d1, d2⟩ := H2.out k (by rw [← HL.out]; exact hlt)
      have HQ := Lib.hid (fun hq => gtake_eq_succ l m k HL.out hlt HK.out hq)
      have HNQ := Lib.hid (fun hq => gne_at l m k hq)
      generalize l.getD k Tb.nulC = p at *
      generalize m.getD k Tb.nulC = q at *
      have hgd := guards_col .neq
      have hne := fun w => col_neq w p q
      unfold gag at hne
      by_cases hq : p = q
      · have HT := Lib.hid (HQ.out hq)
        rw [decide_eq_false (fun e => e hq)] at hne
        generalize p.kind = p1 at *
        generalize str p.name = p3 at *
        generalize q.kind = q1 at *
        generalize str q.name = q3 at *
        clear hq HQ HNQ
        go_wp2_with fail
        go_quiet (fail)
        clear hne hgd
        go_wp2_with fail
        exact ⟨⟨k + 1, d + nq, by omega, by go_num, rfl, HT⟩, by simp [intOf]; omega⟩
      · have HN := Lib.hid (HNQ.out hq)
        rw [decide_eq_true hq] at hne
        generalize p.kind = p1 at *
        generalize str p.name = p3 at *
        generalize q.kind = q1 at *
        generalize str q.name = q3 at *
        clear hq HQ HNQ
        go_wp2_with fail
        go_quiet (fail)
        clear hne hgd
        go_wp2_with fail
        go_ret
        exact ⟨by rw [decide_eq_false HN.out]; rfl, below_drewN (below_drewN (Below.refl _ _) _) _⟩
    · have HE := Lib.hid (gtake_eq_all l m k HL.out (by omega) HK.out)
      go_wp2_with fail
      go_ret
      exact ⟨by rw [decide_eq_true HE.out]; rfl, below_drewN (Below.refl _ _) _⟩
end Go.Proofs.Ytnjnalehfhfefaa
