/- The law RunsLeast. -/
import Derived.Test.YthmlafoceacliabRL0
import Derived.Test.YthmlafoceacliabRW1
namespace Go.Proofs.Ythmlafoceacliab
open Go.RowKit
set_option linter.unusedVariables false

theorem sum_take (l : List R.Run) (k : Nat) (h : k < l.length) : R.sumR (l.take (k + 1)) = R.sumR (l.take k) + (l.getD k (0, 0)).2 := by
  have hs : ∀ (a b : List R.Run), R.sumR (a ++ b) = R.sumR a + R.sumR b := by
    intro a b
    induction a with
    | nil => simp [R.sumR]
    | cons p a ih => simp only [List.cons_append, R.sumR, ih]; omega
  rw [rtake_snoc l k h, hs]; simp [R.sumR]
theorem sum_ge (l : List R.Run) (h : ∀ p ∈ l, 1 ≤ p.2) : (l.length : Int) ≤ R.sumR l := by
  induction l with
  | nil => simp [R.sumR]
  | cons p l ih =>
    have h1 := h p (by simp)
    have h2 := ih (fun q hq => h q (by simp [hq]))
    simp only [R.sumR, List.length_cons]; omega

set_option maxHeartbeats 1000000 in
set_option maxRecDepth 100000 in
theorem runsLeast_some (w : World) (b off c : Nat) (l : List R.Run) (hl : l.length ≤ maxLen) (hx : ∀ x ∈ l, x.1 < 18446744073709551616) (hb : b < w.heap.size)
    (hc : ∀ i, i < l.length → w.cell? ⟨b, off + i * 2, none⟩ = some (.int .u64 ((l.getD i (0, 0)).1 : Int)) ∧ w.cell? ⟨b, off + i * 2 + 1, none⟩ = some (.int .i64 (l.getD i (0, 0)).2)) :
    Calls Try.prog 6 #[.slice (some ⟨b, off, none⟩) l.length c] w (BoolPost true w) := by
  have HU := Lib.hid (fun (w' : World) (hbw : Below w.heap.size w w') => show Runs w' w'.heap.size (some ⟨b, off, none⟩) l from Runs.next (w := w) (fun _ => ⟨b, off, rfl, hb, hc⟩) hbw)
  have HEND := Lib.hid (show (∀ p ∈ l, 1 ≤ p.2 ∧ p.2 ≤ 64) → R.sumR l ≤ 64 → ∃ z : List R.Run, z.length ≤ l.length ∧ l.length ≤ 64 ∧ (∀ w', Below w.heap.size w w' → Calls Try.prog 17 #[.slice (some ⟨b, off, none⟩) l.length c] w' (NumsOnly (R.ex l) w')) ∧
      ∀ a c w', Nums w' w'.heap.size a (R.ex l) → Calls Try.prog 8 #[.slice a (R.ex l).length c] w' (RunsPost (z, 0) w') from fun hp hs => by
    have hlen := sum_ge l (fun p hq => (hp p hq).1)
    have hel := R.ex_length l (fun p hq => by have := hp p hq; omega)
    refine ⟨R.rle (R.ex l), ?_, by omega, fun w' hbw => expanded_any _ c l w' hl (by omega) hx (fun p hq => by have := hp p hq; omega) (HU.out w' hbw), fun a c w' hu => ?_⟩
    · rw [← R.join_ex l (fun p hq => (hp p hq).1)]; exact R.join_length l
    · have h := of_any a c (R.ex l) w' hu
      rw [ofR, if_neg (by omega)] at h; exact h)
  have HC := Lib.hid (fun (w' : World) (hbw : Below w.heap.size w w') i (hi : i < l.length) => show w'.cell? ⟨b, off + i * 2 + 1, none⟩ = some (.int .i64 (l.getD i (0, 0)).2) from (hbw.cell (p := ⟨b, off + i * 2 + 1, none⟩) hb).trans (hc i hi).2)
  have HST := Lib.hid (fun k hk => sum_take l k hk)
  have HPT := Lib.hid (show ∀ k, k < l.length → (∀ p ∈ l.take k, 1 ≤ p.2 ∧ p.2 ≤ 64) → (1 ≤ (l.getD k (0, 0)).2 ∧ (l.getD k (0, 0)).2 ≤ 64) → ∀ p ∈ l.take (k + 1), 1 ≤ p.2 ∧ p.2 ≤ 64 from fun k hk h1 h2 p hp => by
    rw [rtake_snoc l k hk] at hp
    rcases List.mem_append.1 hp with h | h
    · exact h1 p h
    · simp at h; subst h; exact h2)
  have HAL := Lib.hid (show l.take l.length = l from List.take_length)
  unfold maxLen at hl
  clear hc hx hb
  go_enter Try.func6, Try.ntmps6
  go_wp2_with fail
  refine (rubegun_any _).mono ?_
  rintro e w1 ⟨rfl, hb1⟩
  go_wp2_with fail
  go_loopw [3, 4] (fun s i wr => ∃ (k : Nat) (all : Int), k ≤ l.length ∧ i = .int .i64 k ∧ s = .int .i64 all ∧ 0 ≤ all ∧ all ≤ 64 ∧ Below w.heap.size w wr ∧ Hid (all = R.sumR (l.take k) ∧ ∀ p ∈ l.take k, 1 ≤ p.2 ∧ p.2 ≤ 64)) (fun _ i _ => l.length - (intOf i).toNat)
  case atStart => exact ⟨0, 0, by omega, rfl, rfl, by omega, by omega, hb1, Lib.hid ⟨by simp [R.sumR], by simp⟩⟩
  case round =>
    obtain ⟨k, all, hk, rfl, rfl, ha0, ha, hbw, HK⟩ := hrel
    by_cases hlt : k < l.length
    · have c1 := HC.out _ hbw k hlt
      have HS := Lib.hid (HST.out k hlt)
      have HP := Lib.hid (HPT.out k hlt)
      generalize l.getD k (0, 0) = r at *
      obtain ⟨x, m⟩ := r
      simp only at c1 HS HP
      by_cases h1 : m < 1
      · have g1 : decide (m < 1) = true := by simp; omega
        go_wp2_with fail
        go_ret
        exact ⟨rfl, hbw⟩
      · have g1 : decide (m < 1) = false := by simp; omega
        by_cases h2 : 64 < m
        · have g2 : decide (64 < m) = true := by simp; omega
          go_wp2_with fail
          go_ret
          exact ⟨rfl, hbw⟩
        · have g2 : decide (64 < m) = false := by simp; omega
          have hm1 : 1 ≤ m := by omega
          have hm2 : m ≤ 64 := by omega
          clear h1 h2
          by_cases h3 : 64 < all + m
          · have g4 : decide (64 < all + m) = true := by simp; omega
            go_wp2_with fail
            go_ret
            exact ⟨rfl, hbw⟩
          · have g4 : decide (64 < all + m) = false := by simp; omega
            have h3' : all + m ≤ 64 := by omega
            clear h3
            go_wp2_with fail
            refine ⟨⟨k + 1, all + m, by omega, by go_num, rfl, by omega, by omega, hbw, Lib.hid ⟨?_, HP.out HK.out.2 ⟨hm1, hm2⟩⟩⟩, by simp [intOf]; omega⟩
            rw [HS.out, HK.out.1]
    · obtain rfl : k = l.length := by omega
      have hk := HK.out
      rw [HAL.out] at hk
      obtain ⟨z, hz, hl64, he, ho⟩ := HEND.out hk.2 (by omega)
      have HE := Lib.hid (he _ hbw)
      have HO := Lib.hid ho
      have g5 : decide ((z.length : Int) ≤ (l.length : Int)) = true := by simp; omega
      have g5' : decide (z.length ≤ l.length) = true := by simp; omega
      generalize R.ex l = y at *
      clear he ho hk HK hz
      go_wp2_with fail
      refine (HE.out).mono ?_
      rintro e w3 ⟨a3, c3, rfl, hn3, hb3⟩
      go_wp2_with fail
      refine (HO.out a3 c3 w3 hn3).mono ?_
      rintro e w4 ⟨a4, c4, rfl, hr4, hb4⟩
      go_wp2_with fail
      go_ret
      exact ⟨rfl, hbw.trans ((below_then hb3 hb4).mono hbw.size)⟩

set_option maxHeartbeats 1000000 in
theorem runsLeast_nil (w : World) (a : Option Addr) (c : Nat) :
    Calls Try.prog 6 #[.slice a 0 c] w (BoolPost true w) := by
  go_enter Try.func6, Try.ntmps6
  go_wp2_with fail
  refine (rubegun_any _).mono ?_
  rintro e w1 ⟨rfl, hb1⟩
  go_wp2_with fail
  refine wp_loop_rounds 1 ?_
  rw [rounds_succ]
  go_wp2_with fail
  refine (expanded_nil a c w1).mono ?_
  rintro e w3 ⟨a3, c3, rfl, hn3, hb3⟩
  go_wp2_with fail
  refine (of_any a3 c3 [] w3 hn3).mono ?_
  rintro e w4 ⟨a4, c4, rfl, hr4, hb4⟩
  go_wp2_with fail
  go_ret
  exact ⟨rfl, below_then hb1 (below_then hb3 hb4)⟩

theorem runsLeast_walk (w : World) (a : Option Addr) (c : Nat) (l : List R.Run) (hm : l.length ≤ maxLen) (hcap : l.length ≤ c ∧ c ≤ maxLen ∧ (a = none → c = 0)) (hx : ∀ x ∈ l, x.1 < 18446744073709551616 ∧ -9223372036854775808 ≤ x.2 ∧ x.2 ≤ 9223372036854775807) (hu : Runs w w.heap.size a l) :
    Calls Try.prog 6 #[.slice a l.length c] w (BoolPost true w) := by
  by_cases hn : l = []
  · subst hn; exact runsLeast_nil w a c
  · obtain ⟨b, off, rfl, hb, hc⟩ := hu hn
    exact runsLeast_some w b off c l hm (fun x h => (hx x h).1) hb hc
end Go.Proofs.Ythmlafoceacliab
