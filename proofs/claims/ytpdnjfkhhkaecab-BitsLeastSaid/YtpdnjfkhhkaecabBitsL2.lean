/- The law BitsLeast. -/
import Derived.Test.YtpdnjfkhhkaecabBitsL1
namespace Go.Proofs.Ytpdnjfkhhkaecab
open Go.RowKit
set_option linter.unusedVariables false

theorem wd_take (l : List Nat) (k : Nat) (hk : k < l.length) : B.wd (l.take (k + 1)) = max (B.wd (l.take k)) (B.bl (l.getD k 0)) := by
  rw [List.take_succ_eq_append_getElem hk, B.wd_snoc]
  simp [List.getD, List.getElem?_eq_getElem hk]
theorem wd_one (x : Nat) : B.wd [x] = B.bl x := by simp [B.wd]

def Third (l : List Nat) (less : Int) : Prop := less < 0 ∨ (B.wd l : Int) ≤ less ∨ ((packR l less).2 = 8 ∧ 0 ≤ less ∧ less < (B.wd l : Int))
theorem third (l : List Nat) (less : Int) (hl : l.length ≤ 64) (hw : B.wd l ≤ 64) : Third l less := by
  unfold Third
  by_cases h0 : less < 0
  · exact Or.inl h0
  by_cases h1 : (B.wd l : Int) ≤ less
  · exact Or.inr (Or.inl h1)
  refine Or.inr (Or.inr ⟨?_, by omega, by omega⟩)
  unfold packR
  rw [if_neg (by omega), if_neg (by omega), if_pos (by omega)]

set_option maxHeartbeats 400000 in
set_option maxRecDepth 100000 in
theorem least_many (w : World) (a : Option Addr) (c : Nat) (l : List Nat) (hm : l.length ≤ maxLen) (hx : ∀ x ∈ l, x < 18446744073709551616) (hu : Nums w w.heap.size a l) (less : Int) (h : 64 < l.length) :
    Calls Try.prog 7 #[.slice a l.length c, .int .i64 less] w (BoolPost true w) := by
  have HW := Lib.hid (width_any a c l w _ hm hx hu)
  have h64 := B.wd_64 l hx
  clear hx
  unfold maxLen at hm
  generalize B.wd l = W at *
  have g1 : decide ((W : Int) < 0) = false := by simp
  have g2 : decide ((64 : Int) < (W : Int)) = false := by simp; omega
  go_enter Try.func7, Try.ntmps7
  go_wp2_with fail
  refine (HW.out).mono ?_
  rintro e w1 ⟨rfl, rfl⟩
  go_wp2_with fail
  refine (begun_any _).mono ?_
  rintro e w2 ⟨rfl, hb2⟩
  go_wp2_with fail
  go_ret
  exact ⟨rfl, hb2⟩

set_option maxHeartbeats 2000000 in
set_option maxRecDepth 100000 in
theorem least_some (w : World) (b off c : Nat) (l : List Nat) (hcap : l.length ≤ c ∧ c ≤ maxLen) (hx : ∀ x ∈ l, x < 18446744073709551616) (hb : b < w.heap.size)
    (h1 : ∀ i, i < l.length → w.cell? ⟨b, off + i, none⟩ = some (.int .u64 ((l.getD i 0 : Nat) : Int))) (less : Int) (h : l.length ≤ 64) :
    Calls Try.prog 7 #[.slice (some ⟨b, off, none⟩) l.length c, .int .i64 less] w (BoolPost true w) := by
  have hu : Nums w w.heap.size (some ⟨b, off, none⟩) l := fun _ => ⟨b, off, rfl, hb, h1⟩
  have HW := Lib.hid (width_any (some ⟨b, off, none⟩) c l w _ (by unfold maxLen; omega) hx hu)
  have h64 := B.wd_64 l hx
  have ht := third l less h h64
  have hpk := fun wide w' hu' => pack_any (some ⟨b, off, none⟩) c l wide w' hx hu'
  have hmul : l.length * B.wd l ≤ 64 * 64 := Nat.mul_le_mul h h64
  have hmulI : ((l.length : Int) * (B.wd l : Int)) = ((l.length * B.wd l : Nat) : Int) := by simp
  have hp1 : packR l (B.wd l) = (B.le (B.sz (l.length * B.wd l)) (B.pk (B.wd l) l), 0) := by
    unfold packR; rw [if_neg (by omega), if_neg (by omega), Int.toNat_natCast, if_neg (by omega)]
  have hpk1 := fun w' hu' => hpk (B.wd l) w' hu'
  rw [hp1] at hpk1
  have hpk2 := fun w' hu' => hpk less w' hu'
  have hts : (str (B.le (B.sz (l.length * B.wd l)) (B.pk (B.wd l) l))).size = B.sz (l.length * B.wd l) := by rw [str_size, B.le_length]
  have hsz : 8 * B.sz (l.length * B.wd l) ≥ l.length * B.wd l ∧ 8 * B.sz (l.length * B.wd l) < l.length * B.wd l + 8 := by unfold B.sz; omega
  have hwk := fun k hk => wd_take l k hk
  have hwe : B.wd (l.take l.length) = B.wd l := by rw [List.take_length]
  unfold Third at ht
  unfold PackPost at hpk1
  clear hpk hp1
  generalize l.length * B.wd l = M at *
  generalize B.sz M = S at *
  obtain ⟨t, hte⟩ : ∃ t, t = str (B.le S (B.pk (B.wd l) l)) := ⟨_, rfl⟩
  rw [← hte] at hpk1 hts
  clear hte
  generalize packR l less = r2 at *
  obtain ⟨t2, er2⟩ := r2
  have HP1 := Lib.hid hpk1
  have HP2 := Lib.hid hpk2
  have HT := Lib.hid ht
  have HX := Lib.hid hx
  have H1 := Lib.hid h1
  have HWK := Lib.hid hwk
  have HWE := Lib.hid hwe
  clear hpk1 hpk2 ht hx h1 hwk hwe
  generalize B.wd l = W at *
  unfold maxLen at hcap
  have g1 : decide ((W : Int) < 0) = false := by simp
  have g2 : decide ((64 : Int) < (W : Int)) = false := by simp; omega
  go_enter Try.func7, Try.ntmps7
  go_wp2_with fail
  refine (HW.out).mono ?_
  rintro e w1 ⟨rfl, rfl⟩
  go_wp2_with fail
  refine (begun_any _).mono ?_
  rintro e w2 ⟨rfl, hb2⟩
  go_wp2_with fail
  refine (HP1.out _ (hu.next hb2)).mono ?_
  rintro e w3 ⟨rfl, hb3⟩
  have h3 := below_then hb2 hb3
  go_wp2_with fail
  refine (HP2.out _ (hu.next h3)).mono ?_
  rintro e w4 ⟨rfl, hb4⟩
  have h4 := below_then h3 hb4
  go_wp2_with fail
  go_loopw [10, 11, 12] (fun m i _ wr => ∃ k : Nat, k ≤ l.length ∧ i = .int .i64 k ∧ m = .int .i64 (B.wd (l.take k)) ∧ Below w.heap.size w wr) (fun _ i _ _ => l.length - (intOf i).toNat)
  case atStart => exact ⟨0, by omega, rfl, rfl, h4⟩
  case round =>
    obtain ⟨k, hk, rfl, rfl, hbw⟩ := hrel
    by_cases hlt : k < l.length
    · have hcell : wr.cell? ⟨b, off + k, none⟩ = some (.int .u64 ((l.getD k 0 : Nat) : Int)) := by
        rw [hbw.cell (p := ⟨b, off + k, none⟩) hb]; exact H1.out k hlt
      have hw1 := width_any (some ⟨b, off + k, none⟩) (c - k) [l.getD k 0] wr wr.heap.size (by unfold maxLen; simp) (by intro x hx; rw [List.mem_singleton.1 hx]; exact HX.out _ (getD_mem l k hlt))
        (fun _ => ⟨b, off + k, rfl, Nat.lt_of_lt_of_le hb hbw.size, fun i hi => by
          obtain rfl : i = 0 := by simpa using hi
          simpa using hcell⟩)
      rw [wd_one] at hw1
      have hst := HWK.out k hlt
      generalize B.bl (l.getD k 0) = x at *
      generalize B.wd (l.take k) = m at *
      have HW1 := Lib.hid hw1
      have HST := Lib.hid hst
      clear hw1 hst hcell
      by_cases hxm : m < x
      · go_wp2_with fail
        refine (HW1.out).mono ?_
        rintro e w5 ⟨rfl, rfl⟩
        go_wp2_with fail
        refine ⟨⟨k + 1, by omega, by go_num, ?_, hbw⟩, by simp [intOf]; omega⟩
        rw [HST.out, Nat.max_eq_right (by omega)]
      · go_wp2_with fail
        refine (HW1.out).mono ?_
        rintro e w5 ⟨rfl, rfl⟩
        go_wp2_with fail
        refine ⟨⟨k + 1, by omega, by go_num, ?_, hbw⟩, by simp [intOf]; omega⟩
        rw [HST.out, Nat.max_eq_left (by omega)]
    · obtain rfl : k = l.length := by omega
      rw [HWE.out]
      have hge : decide (M ≤ 8 * S) = true := by simp; omega
      rcases HT.out with h0 | h0 | ⟨rfl, h0, h0'⟩
      · have g3 : decide (less < 0) = true := by simp; omega
        go_wp2_with fail
        go_ret
        exact ⟨rfl, hbw⟩
      · have g3 : decide (less < 0) = false := by simp; omega
        have g4 : decide ((W : Int) ≤ less) = true := by simp; omega
        go_wp2_with fail
        go_ret
        exact ⟨rfl, hbw⟩
      · have g3 : decide (less < 0) = false := by simp; omega
        have g4 : decide ((W : Int) ≤ less) = false := by simp; omega
        go_wp2_with fail
        go_ret
        exact ⟨rfl, hbw⟩

set_option maxHeartbeats 1000000 in
set_option maxRecDepth 100000 in
theorem least_nil (w : World) (a : Option Addr) (c : Nat) (less : Int) :
    Calls Try.prog 7 #[.slice a 0 c, .int .i64 less] w (BoolPost true w) := by
  have hpk2 := fun w' => pack_any a c [] less w' (by simp) (Nums.nil _ _ _)
  generalize packR [] less = r2 at *
  obtain ⟨t2, er2⟩ := r2
  have HP2 := Lib.hid hpk2
  clear hpk2
  go_enter Try.func7, Try.ntmps7
  go_wp2_with fail
  refine (width_nil a c w).mono ?_
  rintro e w1 ⟨rfl, rfl⟩
  go_wp2_with fail
  refine (begun_any _).mono ?_
  rintro e w2 ⟨rfl, hb2⟩
  go_wp2_with fail
  refine (pack_nil a c 0 _ (by omega)).mono ?_
  rintro e w3 ⟨rfl, hb3⟩
  have h3 := below_then hb2 hb3
  have hz : (str []).size = 0 := rfl
  go_wp2_with fail
  refine (HP2.out _).mono ?_
  rintro e w4 ⟨rfl, hb4⟩
  have h4 := below_then h3 hb4
  go_wp2_with fail
  refine wp_loop_rounds 1 ?_
  rw [rounds_succ]
  by_cases h0 : less < 0
  · have g3 : decide (less < 0) = true := by simp; omega
    go_wp2_with fail
    go_ret
    exact ⟨rfl, h4⟩
  · have g3 : decide (less < 0) = false := by simp; omega
    have g4 : decide ((0 : Int) ≤ less) = true := by simp; omega
    go_wp2_with fail
    go_ret
    exact ⟨rfl, h4⟩

theorem bitsLeast_walk (w : World) (a : Option Addr) (c : Nat) (l : List Nat) (hm : l.length ≤ maxLen) (hcap : l.length ≤ c ∧ c ≤ maxLen ∧ (a = none → c = 0)) (hx : ∀ x ∈ l, x < 18446744073709551616) (hu : Nums w w.heap.size a l)
    (less : Int) (hl : -9223372036854775808 ≤ less ∧ less ≤ 9223372036854775807) :
    Calls Try.prog 7 #[.slice a l.length c, .int .i64 less] w (BoolPost true w) := by
  by_cases h : 64 < l.length
  · exact least_many w a c l hm hx hu less h
  by_cases hn : l = []
  · subst hn; exact least_nil w a c less
  · obtain ⟨b, off, rfl, hb, hc⟩ := hu hn
    exact least_some w b off c l ⟨hcap.1, hcap.2.1⟩ hx hb hc less (by omega)
end Go.Proofs.Ytpdnjfkhhkaecab
