/- The walk of ShredStarts. -/
import Derived.Test.YtmiegikefdfaiaaShB
namespace Go.Proofs.Ytmiegikefdfaiaa
open Go.RowKit
open Sh (Lv)
set_option linter.unusedVariables false

theorem zeros_succ (l : List Lv) (k : Nat) (h : k < l.length) : Sh.zeros (l.take (k + 1)) = Sh.zeros (l.take k) + if (l.getD k (0, 0, 0)).1 = 0 then 1 else 0 := by
  rw [gtake_succ (0, 0, 0) l k h, Sh.zeros_app]
  congr 1
  unfold Sh.zeros
  by_cases e : (l.getD k (0, 0, 0)).1 = 0
  · rw [if_pos e, List.filter_cons, if_pos (by simpa using e)]; rfl
  · rw [if_neg e, List.filter_cons, if_neg (by simpa using e)]; rfl
theorem zeros_le (l : List Lv) : Sh.zeros l ≤ l.length := List.length_filter_le _ _

set_option maxHeartbeats 4000000 in
set_option maxRecDepth 100000 in
theorem shredStarts_walk (w : World) (a : Option Addr) (cap : Nat) (l : List Sh.Fd) (hm : l.length ≤ maxLen) (hq : l.length ≤ cap ∧ cap ≤ maxLen ∧ (a = none → cap = 0)) (hx : ∀ x ∈ l, fdOk x) (hu : Fds w w.heap.size a l)
    (ra : Option Addr) (rcap : Nat) (rs : List (List Nat)) (hrm : rs.length ≤ maxLen) (hrq : rs.length ≤ rcap ∧ rcap ≤ maxLen ∧ (ra = none → rcap = 0)) (hru : NRows w w.heap.size ra rs) :
    Calls Try.prog 7 #[.slice a l.length cap, .slice ra rs.length rcap] w (BoolPost true w) := by
  have HS := Lib.hid (shred_ok a cap l ra rcap rs w hq.1 hq.2.1 hu hrq.1 hrq.2.1 hru)
  have hrm2 := hrq
  unfold maxLen at hrm2
  clear hm hq hx hu hrq hru hrm
  obtain ⟨nl, hnl⟩ : ∃ n, n = l.length := ⟨_, rfl⟩
  obtain ⟨nr, hnr⟩ : ∃ n, n = rs.length := ⟨_, rfl⟩
  have HNR := Lib.hid hnr
  rw [← hnl, ← hnr] at HS ⊢
  have hnr63 : nr ≤ 9223372036854775807 := by omega
  clear hnl hnr hrm2
  go_enter Try.func7, Try.ntmps7
  go_wp2_with fail
  refine (HS.out).mono ?_
  rintro e w1 ⟨hb1, hm1⟩
  cases hR : Sh.shR l rs with
  | error n =>
    rw [hR] at hm1
    obtain ⟨hn, rfl⟩ := hm1
    have g0 : ((n : Int) != 0) = true := by rw [bne_iff_ne]; omega
    clear hR HS HNR
    go_wp2_with fail
    refine (shbegun_any _).mono ?_
    rintro e w2 ⟨rfl, hb2⟩
    have hB := below_then hb1 hb2
    clear hb1 hb2
    go_wp2_with fail
    go_ret
    exact ⟨rfl, hB⟩
  | ok cols =>
    rw [hR] at hm1
    obtain ⟨C, rfl, hC, h12⟩ := hm1
    have HST := Lib.hid (Sh.starts l rs cols hR)
    have HC := Lib.hid (fun W (hb : Below w1.heap.size w1 W) => hC.next hb)
    obtain ⟨nc, hnc⟩ : ∃ n, n = cols.length := ⟨_, rfl⟩
    have HNC := Lib.hid hnc
    rw [← hnc] at h12 ⊢
    have hnc1 : 1 ≤ nc := by rw [hnc]; exact HST.out.1
    clear hR HS hC hnc
    go_wp2_with fail
    refine (shbegun_any _).mono ?_
    rintro e w2 ⟨rfl, hb2⟩
    have hB := below_then hb1 hb2
    have HC2 := Lib.hid (HC.out _ hb2)
    have HB := Lib.hid hB
    clear hb1 hb2 HC hB
    go_wp2_with fail
    go_loop [7, 8, 9] (fun i _ _ => ∃ j : Nat, j ≤ nc ∧ i = .int .i64 j) (fun i _ _ => nc - (intOf i).toNat)
    case atStart => exact ⟨0, Nat.zero_le _, rfl⟩
    case round =>
      obtain ⟨j, hj, rfl⟩ := hrel
      by_cases hlt : j < nc
      · have hjI : (j : Int) < (nc : Int) := by omega
        have hjc : j < cols.length := by rw [← HNC.out]; exact hlt
        obtain ⟨b, off, aa, cp, e0, hbl, q1, q2, q3, q4, q5⟩ := HC2.out.at hjc
        obtain ⟨rfl, rfl⟩ : C = b ∧ 0 = off := by cases e0; exact ⟨rfl, rfl⟩
        rw [Nat.zero_add] at q1
        obtain ⟨z1, z2⟩ := HST.out.2 j hjc
        rw [← HNR.out] at z1
        unfold maxLen at q4
        generalize cols.getD j [] = c at *
        obtain ⟨M, hM⟩ : ∃ n, n = c.length := ⟨_, rfl⟩
        rw [← hM] at q1 q3
        have HM := Lib.hid hM
        have HQ2 := Lib.hid q2
        have HZ1 := Lib.hid z1
        have HZ2 := Lib.hid z2
        clear e0 hbl q2 q5 z1 z2 hM hjc
        go_wp2_with fail
        go_loop [8, 9] (fun nn kk => ∃ k : Nat, k ≤ M ∧ kk = .int .i64 k ∧ nn = .int .i64 (Sh.zeros (c.take k) : Nat)) (fun _ kk => M - (intOf kk).toNat)
        case atStart => exact ⟨0, Nat.zero_le _, rfl, rfl⟩
        case round =>
          obtain ⟨k, hk, rfl, rfl⟩ := hrel
          by_cases hlt2 : k < M
          · have hkI : (k : Int) < (M : Int) := by omega
            have hkc : k < c.length := by rw [← HM.out]; exact hlt2
            obtain ⟨b2, o2, rfl, hb2, hcc⟩ := HQ2.out (List.ne_nil_of_length_pos (by omega))
            obtain ⟨c0, -, -⟩ := hcc k hkc
            have hzs := zeros_succ c k hkc
            have hzl := zeros_le (c.take k)
            rw [List.length_take] at hzl
            have hzl : Sh.zeros (c.take k) ≤ k := by omega
            generalize Sh.zeros (c.take k) = Z at *
            generalize (c.getD k (0, 0, 0)).1 = X at *
            have HZS := Lib.hid hzs
            clear hcc hkc hzs hb2
            by_cases hX : X = 0
            · subst hX
              go_wp2_with fail
              exact ⟨⟨k + 1, by omega, by go_num, by rw [HZS.out, if_pos rfl]; go_num⟩, by simp [intOf]; omega⟩
            · have hXb : (X == 0) = false := by rw [beq_eq_false_iff_ne]; exact hX
              have HX := Lib.hid hX
              clear hX
              go_wp2_with fail
              exact ⟨⟨k + 1, by omega, by go_num, by rw [HZS.out, if_neg HX.out, Nat.add_zero]⟩, by simp [intOf]; omega⟩
          · obtain rfl : k = M := by omega
            have hkI : ¬ (k : Int) < (k : Int) := by omega
            rw [show c.take k = c by rw [HM.out]; exact List.take_length, HZ1.out]
            by_cases h0 : k = 0
            · subst h0
              go_wp2_with fail
              exact ⟨⟨j + 1, by omega, by go_num⟩, by simp [intOf]; omega⟩
            · have hpos : 0 < c.length := by have := HM.out; omega
              obtain ⟨b2, o2, rfl, hb2, hcc⟩ := HQ2.out (List.ne_nil_of_length_pos hpos)
              obtain ⟨c0, -, -⟩ := hcc 0 hpos
              have hx0 : (c.getD 0 (0, 0, 0)).1 = 0 := by
                cases c with
                | nil => simp at hpos
                | cons x t => exact HZ2.out x t rfl
              rw [hx0, Nat.zero_mul, Nat.add_zero] at c0
              have hk0 : (0 : Int) < (k : Int) := by omega
              clear hcc hb2 hx0 hpos
              go_wp2_with fail
              exact ⟨⟨j + 1, by omega, by go_num⟩, by simp [intOf]; omega⟩
      · have hjI : ¬ (j : Int) < (nc : Int) := by omega
        have hnI : (1 : Int) ≤ (nc : Int) := by omega
        go_wp2_with fail
        go_ret
        exact ⟨rfl, HB.out⟩
end Go.Proofs.Ytmiegikefdfaiaa
