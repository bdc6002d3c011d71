/- The walks of rank.Select, and of CountOf, RankOf, SelectOf. -/
import Derived.Test.YthmlafoceacliaaMW1
namespace Go.Proofs.Ythmlafoceacliaa
open Go.RowKit
set_option linter.unusedVariables false

set_option maxHeartbeats 400000 in
theorem countOf_some (b off c k0 : Nat) (l : List Bool) (w : World) (hl : l.length ≤ maxLen) (hk0 : k0 ≤ l.length)
    (hc : ∀ i, i < l.length → w.cell? ⟨b, off + i, none⟩ = some (.bool (l.getD i false))) :
    Calls Try.prog 15 #[.slice (some ⟨b, off, none⟩) l.length c, .int .i64 k0] w (IntPost (M.cnt (l.take k0)) w) := by
  unfold maxLen at hl
  have HC := Lib.hid hc
  clear hc
  go_enter Try.func15, Try.ntmps15
  go_wp2_with fail
  go_loop [5, 6] (fun n i => ∃ k : Nat, k ≤ k0 ∧ i = .int .i64 k ∧ n = .int .i64 (M.cnt (l.take k) : Nat)) (fun _ i => k0 - (intOf i).toNat)
  case atStart => exact ⟨0, by omega, rfl, rfl⟩
  case round =>
    obtain ⟨k, hk, rfl, rfl⟩ := hrel
    have hcb : M.cnt (l.take k) ≤ k := by have := M.cnt_le (l.take k); simp only [List.length_take] at this; omega
    by_cases hlt : k < k0
    · have hkl : k < l.length := by omega
      have hcell := HC.out k hkl
      have hsn := M.cnt_snoc l k hkl
      cases hx : l.getD k false with
      | true =>
        rw [hx] at hcell hsn
        have HS := Lib.hid hsn
        clear hsn hx
        generalize M.cnt (l.take k) = n at *
        go_wp2_with fail
        exact ⟨⟨k + 1, by omega, by go_num, by rw [HS.out]; simp⟩, by simp [intOf]; omega⟩
      | false =>
        rw [hx] at hcell hsn
        have HS := Lib.hid hsn
        clear hsn hx
        generalize M.cnt (l.take k) = n at *
        go_wp2_with fail
        exact ⟨⟨k + 1, by omega, by go_num, by rw [HS.out]; simp⟩, by simp [intOf]; omega⟩
    · obtain rfl : k = k0 := by omega
      go_wp2_with fail
      go_ret
      exact ⟨rfl, rfl⟩

set_option maxHeartbeats 400000 in
theorem countOf_nil (a : Option Addr) (n c : Nat) (w : World) :
    Calls Try.prog 15 #[.slice a n c, .int .i64 0] w (IntPost 0 w) := by
  go_enter Try.func15, Try.ntmps15
  go_wp2_with fail
  refine wp_loop_rounds 1 ?_
  rw [rounds_succ]
  go_wp2_with fail
  go_ret
  exact ⟨rfl, rfl⟩

theorem countOf_any (a : Option Addr) (c k0 : Nat) (l : List Bool) (w : World) (B' : Nat) (hl : l.length ≤ maxLen) (hk0 : k0 ≤ l.length) (hu : Bools w B' a l) :
    Calls Try.prog 15 #[.slice a l.length c, .int .i64 k0] w (IntPost (M.cnt (l.take k0)) w) := by
  by_cases hn : l = []
  · subst hn
    obtain rfl : k0 = 0 := by simpa using hk0
    exact countOf_nil a _ c w
  · obtain ⟨b, off, rfl, _, hc⟩ := hu hn
    exact countOf_some b off c k0 l w hl hk0 hc

set_option maxHeartbeats 400000 in
theorem rankOf_any (a : Option Addr) (c : Nat) (l : List Bool) (p : Int) (w : World) (B' : Nat) (hl : l.length ≤ maxLen) (hu : Bools w B' a l) :
    Calls Try.prog 11 #[.slice a l.length c, .int .i64 p] w (TwoPost (M.rankR l p) w) := by
  by_cases h0 : p < 0
  · have HR := Lib.hid (show M.rankR l p = (0, 3) by rw [M.rankR, if_pos (Or.inl h0)])
    have g1 : decide (p < 0) = true := by simp; omega
    go_enter Try.func11, Try.ntmps11
    go_wp2_with fail
    go_ret2
    rw [HR.out]; exact ⟨rfl, rfl⟩
  obtain ⟨k, rfl⟩ : ∃ k : Nat, p = k := ⟨p.toNat, by omega⟩
  have g1 : decide ((k : Int) < 0) = false := by simp
  clear h0
  by_cases h1 : l.length < k
  · have HR := Lib.hid (show M.rankR l k = (0, 3) by rw [M.rankR, if_pos (Or.inr (by omega))])
    have g2 : decide (l.length < k) = true := by simp; omega
    go_enter Try.func11, Try.ntmps11
    go_wp2_with fail
    go_ret2
    rw [HR.out]; exact ⟨rfl, rfl⟩
  · have HR := Lib.hid (show M.rankR l k = (M.cnt (l.take k), 0) by rw [M.rankR, if_neg (by omega)]; simp)
    have g2 : decide (l.length < k) = false := by simp; omega
    have HCT := Lib.hid (countOf_any a c k l w B' hl (by omega) hu)
    generalize M.cnt (l.take k) = r at *
    go_enter Try.func11, Try.ntmps11
    go_wp2_with fail
    refine (HCT.out).mono ?_
    rintro e w1 ⟨rfl, rfl⟩
    go_wp2_with fail
    go_ret2
    rw [HR.out]; exact ⟨rfl, rfl⟩

set_option maxHeartbeats 400000 in
theorem sel_neg (a : Option Addr) (n c : Nat) (k : Int) (w : World) (h : k < 0) :
    Calls Try.prog 10 #[.slice a n c, .int .i64 k] w (TwoPost (0, 3) w) := by
  have g1 : decide (k < 0) = true := by simp; omega
  go_enter Try.func10, Try.ntmps10
  go_wp2_with fail
  go_ret2
  exact ⟨rfl, rfl⟩

set_option maxHeartbeats 400000 in
theorem sel_nil (a : Option Addr) (c k : Nat) (w : World) :
    Calls Try.prog 10 #[.slice a 0 c, .int .i64 k] w (TwoPost (0, 5) w) := by
  have g1 : decide ((k : Int) < 0) = false := by simp
  go_enter Try.func10, Try.ntmps10
  go_wp2_with fail
  refine wp_loop_rounds 1 ?_
  rw [rounds_succ]
  go_wp2_with fail
  go_ret2
  exact ⟨rfl, rfl⟩

set_option maxHeartbeats 400000 in
theorem sel_some (b off c k0 : Nat) (l : List Bool) (w : World) (hl : l.length ≤ maxLen) (hk0 : k0 ≤ 9223372036854775807)
    (hc : ∀ i, i < l.length → w.cell? ⟨b, off + i, none⟩ = some (.bool (l.getD i false))) :
    Calls Try.prog 10 #[.slice (some ⟨b, off, none⟩) l.length c, .int .i64 k0] w (TwoPost (M.selO (M.selN l k0)) w) := by
  unfold maxLen at hl
  have g1 : decide ((k0 : Int) < 0) = false := by simp
  have HC := Lib.hid hc
  clear hc
  go_enter Try.func10, Try.ntmps10
  go_wp2_with fail
  go_loop [1, 6, 7, 12] (fun n _ _ i => ∃ k m : Nat, k ≤ l.length ∧ m ≤ k0 ∧ i = .int .i64 k ∧ n = .int .i64 m ∧ Hid (M.selN l k0 = (M.selN (l.drop k) m).map (· + k))) (fun _ _ _ i => l.length - (intOf i).toNat)
  case atStart => exact ⟨0, k0, by omega, by omega, rfl, rfl, Lib.hid (by simp)⟩
  case round =>
    obtain ⟨k, m, hk, hm, rfl, rfl, HK⟩ := hrel
    by_cases hlt : k < l.length
    · have hcell := HC.out k hlt
      have hdr := M.drop_cons l k hlt
      cases hx : l.getD k false with
      | true =>
        rw [hx] at hcell hdr
        by_cases hm0 : m = 0
        · subst hm0
          have HR := Lib.hid (show M.selO (M.selN l k0) = (k, 0) by rw [HK.out, hdr]; simp [M.selN, M.selO])
          clear hdr hx
          go_wp2_with fail
          go_ret2
          rw [HR.out]; exact ⟨rfl, rfl⟩
        · obtain ⟨m', rfl⟩ : ∃ m', m = m' + 1 := ⟨m - 1, by omega⟩
          have HN := Lib.hid (show M.selN l k0 = (M.selN (l.drop (k + 1)) m').map (· + (k + 1)) by rw [HK.out, hdr]; simp only [M.selN]; rw [M.map_add])
          have g2 : (((m' + 1 : Nat) : Int) == 0) = false := by rw [beq_eq_false_iff_ne]; omega
          clear hdr hx hm0
          go_wp2_with fail
          exact ⟨⟨k + 1, m', by omega, by omega, by go_num, by go_num, HN⟩, by simp [intOf]; omega⟩
      | false =>
        rw [hx] at hcell hdr
        have HN := Lib.hid (show M.selN l k0 = (M.selN (l.drop (k + 1)) m).map (· + (k + 1)) by rw [HK.out, hdr]; simp only [M.selN]; rw [M.map_add])
        clear hdr hx
        go_wp2_with fail
        exact ⟨⟨k + 1, m, by omega, by omega, by go_num, rfl, HN⟩, by simp [intOf]; omega⟩
    · have HR := Lib.hid (show M.selO (M.selN l k0) = (0, 5) by rw [HK.out, List.drop_eq_nil_of_le (by omega)]; simp [M.selN, M.selO])
      go_wp2_with fail
      go_ret2
      rw [HR.out]; exact ⟨rfl, rfl⟩

theorem sel_any (a : Option Addr) (c : Nat) (l : List Bool) (k : Int) (w : World) (B' : Nat) (hl : l.length ≤ maxLen) (hk : k ≤ 9223372036854775807) (hu : Bools w B' a l) :
    Calls Try.prog 10 #[.slice a l.length c, .int .i64 k] w (TwoPost (M.selR l k) w) := by
  by_cases h0 : k < 0
  · rw [M.selR, if_pos h0]; exact sel_neg a _ c k w h0
  obtain ⟨k, rfl⟩ : ∃ m : Nat, k = m := ⟨k.toNat, by omega⟩
  rw [M.selR, if_neg h0, Int.toNat_natCast]
  by_cases hn : l = []
  · subst hn; exact sel_nil a c k w
  · obtain ⟨b, off, rfl, _, hc⟩ := hu hn
    exact sel_some b off c k l w hl (by omega) hc

set_option maxHeartbeats 400000 in
theorem selOf_neg (a : Option Addr) (n c : Nat) (k : Int) (w : World) (h : k < 0) :
    Calls Try.prog 12 #[.slice a n c, .int .i64 k] w (TwoPost (0, 3) w) := by
  have g1 : decide (k < 0) = true := by simp; omega
  go_enter Try.func12, Try.ntmps12
  go_wp2_with fail
  go_ret2
  exact ⟨rfl, rfl⟩

set_option maxHeartbeats 400000 in
theorem selOf_nil (a : Option Addr) (c k : Nat) (w : World) :
    Calls Try.prog 12 #[.slice a 0 c, .int .i64 k] w (TwoPost (0, 5) w) := by
  have g1 : decide ((k : Int) < 0) = false := by simp
  go_enter Try.func12, Try.ntmps12
  go_wp2_with fail
  refine wp_loop_rounds 1 ?_
  rw [rounds_succ]
  go_wp2_with fail
  go_ret2
  exact ⟨rfl, rfl⟩

set_option maxHeartbeats 400000 in
theorem selOf_some (b off c k0 : Nat) (l : List Bool) (w : World) (hl : l.length ≤ maxLen) (hk0 : k0 ≤ 9223372036854775807)
    (hc : ∀ i, i < l.length → w.cell? ⟨b, off + i, none⟩ = some (.bool (l.getD i false))) :
    Calls Try.prog 12 #[.slice (some ⟨b, off, none⟩) l.length c, .int .i64 k0] w (TwoPost (M.selO (M.selN l k0)) w) := by
  have HCO := Lib.hid (fun k hk => countOf_some b off c k l w hl hk hc)
  unfold maxLen at hl
  have g1 : decide ((k0 : Int) < 0) = false := by simp
  have HC := Lib.hid hc
  clear hc
  go_enter Try.func12, Try.ntmps12
  go_wp2_with fail
  go_loop [6] (fun i => ∃ k : Nat, k ≤ l.length ∧ i = .int .i64 k ∧ Hid (∀ j, M.selN l k0 = some j → k ≤ j)) (fun i => l.length - (intOf i).toNat)
  case atStart => exact ⟨0, by omega, rfl, Lib.hid (fun j _ => Nat.zero_le _)⟩
  case round =>
    obtain ⟨k, hk, rfl, HK⟩ := hrel
    by_cases hlt : k < l.length
    · have hcell := HC.out k hlt
      have HCK := Lib.hid (HCO.out k hk)
      cases hx : l.getD k false with
      | true =>
        rw [hx] at hcell
        by_cases hq : M.cnt (l.take k) = k0
        · have HR := Lib.hid (show M.selO (M.selN l k0) = (k, 0) by rw [(M.selN_some l k0 k).2 ⟨hlt, hx, hq⟩]; rfl)
          rw [hq] at HCK
          clear hx hq
          go_wp2_with fail
          refine (HCK.out).mono ?_
          rintro e w1 ⟨rfl, rfl⟩
          go_wp2_with fail
          go_ret2
          rw [HR.out]; exact ⟨rfl, rfl⟩
        · have HN := Lib.hid (show ∀ j, M.selN l k0 = some j → k + 1 ≤ j from fun j hj => by
            have h1 := HK.out j hj
            rcases Nat.eq_or_lt_of_le h1 with e | h2
            · subst e; exact absurd ((M.selN_some l k0 k).1 hj).2.2 hq
            · exact h2)
          have g2 : ((M.cnt (l.take k) : Int) == (k0 : Int)) = false := by rw [beq_eq_false_iff_ne]; omega
          generalize M.cnt (l.take k) = n at *
          clear hx hq
          go_wp2_with fail
          refine (HCK.out).mono ?_
          rintro e w1 ⟨rfl, rfl⟩
          go_wp2_with fail
          exact ⟨⟨k + 1, by omega, by go_num, HN⟩, by simp [intOf]; omega⟩
      | false =>
        rw [hx] at hcell
        have HN := Lib.hid (show ∀ j, M.selN l k0 = some j → k + 1 ≤ j from fun j hj => by
            have h1 := HK.out j hj
            rcases Nat.eq_or_lt_of_le h1 with e | h2
            · subst e; rw [((M.selN_some l k0 k).1 hj).2.1] at hx; cases hx
            · exact h2)
        clear hx HCK
        go_wp2_with fail
        exact ⟨⟨k + 1, by omega, by go_num, HN⟩, by simp [intOf]; omega⟩
    · have HR := Lib.hid (show M.selO (M.selN l k0) = (0, 5) by
        cases hs : M.selN l k0 with
        | none => rfl
        | some j => have := HK.out j hs; have := ((M.selN_some l k0 j).1 hs).1; omega)
      go_wp2_with fail
      go_ret2
      rw [HR.out]; exact ⟨rfl, rfl⟩

theorem selOf_any (a : Option Addr) (c : Nat) (l : List Bool) (k : Int) (w : World) (B' : Nat) (hl : l.length ≤ maxLen) (hk : k ≤ 9223372036854775807) (hu : Bools w B' a l) :
    Calls Try.prog 12 #[.slice a l.length c, .int .i64 k] w (TwoPost (M.selR l k) w) := by
  by_cases h0 : k < 0
  · rw [M.selR, if_pos h0]; exact selOf_neg a _ c k w h0
  obtain ⟨k, rfl⟩ : ∃ m : Nat, k = m := ⟨k.toNat, by omega⟩
  rw [M.selR, if_neg h0, Int.toNat_natCast]
  by_cases hn : l = []
  · subst hn; exact selOf_nil a c k w
  · obtain ⟨b, off, rfl, _, hc⟩ := hu hn
    exact selOf_some b off c k l w hl (by omega) hc
end Go.Proofs.Ythmlafoceacliaa
