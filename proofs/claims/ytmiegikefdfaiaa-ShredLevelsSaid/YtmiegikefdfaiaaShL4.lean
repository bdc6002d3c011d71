/- The walk of ShredLevels. -/
import Derived.Test.YtmiegikefdfaiaaShK2
namespace Go.Proofs.Ytmiegikefdfaiaa
open Go.RowKit
open Sh (Lv)
set_option linter.unusedVariables false

theorem shR_len {l : List Sh.Fd} {rs : List (List Nat)} {cols : List (List Lv)} (h : Sh.shR l rs = .ok cols) : cols.length = (Sh.mostK (Sh.formK l)).length := by
  obtain ⟨k, hk, hfl, ho, -⟩ := Sh.check_form (shR_form h)
  unfold Sh.shR at h
  split at h
  · cases h
  · split at h
    · cases h
    · rw [Sh.formK_is hfl] at h ⊢
      obtain ⟨D, E, q, z, p, b⟩ := Sh.recs_spec k ho rs _ cols List.length_replicate h
      rw [E.1, List.length_replicate]
      unfold Sh.mostK
      rw [Sh.most_length, Sh.leaves_one]
theorem mlv_get (l : List (Nat × Nat)) (i : Nat) : (mlv l).getD i (0, 0, 0) = (((l.getD i (0, 0)).1 : Int), ((l.getD i (0, 0)).2 : Int), 0) := by
  unfold mlv List.getD
  rw [List.getElem?_map]
  cases l[i]? <;> rfl

set_option maxHeartbeats 4000000 in
set_option maxRecDepth 100000 in
theorem shredLevels_walk (w : World) (a : Option Addr) (cap : Nat) (l : List Sh.Fd) (hm : l.length ≤ maxLen) (hq : l.length ≤ cap ∧ cap ≤ maxLen ∧ (a = none → cap = 0)) (hx : ∀ x ∈ l, fdOk x) (hu : Fds w w.heap.size a l)
    (ra : Option Addr) (rcap : Nat) (rs : List (List Nat)) (hrm : rs.length ≤ maxLen) (hrq : rs.length ≤ rcap ∧ rcap ≤ maxLen ∧ (ra = none → rcap = 0)) (hru : NRows w w.heap.size ra rs) :
    Calls Try.prog 9 #[.slice a l.length cap, .slice ra rs.length rcap] w (BoolPost true w) := by
  have HS := Lib.hid (shred_ok a cap l ra rcap rs w hq.1 hq.2.1 hu hrq.1 hrq.2.1 hru)
  have HML := Lib.hid (fun h0 W (hb : Below w.heap.size w W) => mostLevels_any a cap l W hq.1 hq.2.1 (hu.next hb) h0)
  have HLT := Lib.hid hru.lt
  clear hm hq hx hu hrq hru hrm
  obtain ⟨nl, hnl⟩ : ∃ n, n = l.length := ⟨_, rfl⟩
  obtain ⟨nr, hnr⟩ : ∃ n, n = rs.length := ⟨_, rfl⟩
  rw [← hnl, ← hnr] at HS ⊢
  rw [← hnl] at HML
  clear hnl hnr
  go_enter Try.func9, Try.ntmps9
  go_wp2_with fail
  refine (HS.out).mono ?_
  rintro e w1 ⟨hb1, hm1⟩
  cases hR : Sh.shR l rs with
  | error n =>
    rw [hR] at hm1
    obtain ⟨hn, rfl⟩ := hm1
    have g0 : ((n : Int) != 0) = true := by rw [bne_iff_ne]; omega
    clear hR HS HML HLT
    go_wp2_with fail
    refine (shbegun_any _).mono ?_
    rintro e w2 ⟨rfl, hb2⟩
    have hB := below_then hb1 hb2
    clear hb1 hb2
    go_wp2_with fail
    go_ret
    exact ⟨rfl, hB⟩
  | ok cols =>
    rw [hR] at hm1
    obtain ⟨C, rfl, hC, h12⟩ := hm1
    have HLV := Lib.hid (Sh.levels l rs cols HLT.out hR)
    have HLEN := Lib.hid (shR_len hR)
    have HML2 := Lib.hid (HML.out (shR_form hR))
    have HC := Lib.hid (fun W (hb : Below w1.heap.size w1 W) => hC.next hb)
    generalize Sh.mostK (Sh.formK l) = mk at *
    obtain ⟨nc, hnc⟩ : ∃ n, n = cols.length := ⟨_, rfl⟩
    have HNC := Lib.hid hnc
    rw [← hnc] at h12 ⊢
    clear hR HS hC hnc HML HLT
    go_wp2_with fail
    refine (shbegun_any _).mono ?_
    rintro e w2 ⟨rfl, hb2⟩
    have hB := below_then hb1 hb2
    have HC2 := Lib.hid (HC.out _ hb2)
    clear hb1 hb2 HC
    go_wp2_with fail
    refine (HML2.out w2 hB).mono ?_
    rintro e w3 ⟨A, cp, rfl, hrow, hb3⟩
    have hmn : (mlv mk).length = nc := by rw [mlv_length, ← HLEN.out, HNC.out]
    obtain ⟨A3, cp3, e3, hlv3, -⟩ := lvs_row hrow
    obtain rfl : A = A3 := by injection e3
    rw [hmn]
    have HMV := Lib.hid (fun W (hb : Below w3.heap.size w3 W) => show Lvs W W.heap.size A (mlv mk) from (hlv3.below hb).mono hb.size)
    have HMN := Lib.hid hmn
    have HB := Lib.hid (below_then hB hb3)
    have HC3 := Lib.hid (HC2.out.next hb3)
    clear hrow e3 hlv3 hmn hB hb3 HC2 HML2
    go_wp2_with fail
    go_loopw [8, 9] (fun i _ wr => ∃ j : Nat, j ≤ nc ∧ i = .int .i64 j ∧ Below w3.heap.size w3 wr) (fun i _ _ => nc - (intOf i).toNat)
    case atStart => exact ⟨0, Nat.zero_le _, rfl, Below.refl _ _⟩
    case round =>
      obtain ⟨j, hj, rfl, hbw⟩ := hrel
      rename World => wr
      by_cases hlt : j < nc
      · have hjI : (j : Int) < (nc : Int) := by omega
        have hjc : j < cols.length := by rw [← HNC.out]; exact hlt
        obtain ⟨b, off, aa, cp2, e0, hbl, q1, q2, q3, q4, q5⟩ := (HC3.out.next hbw).at hjc
        obtain ⟨rfl, rfl⟩ : C = b ∧ 0 = off := by cases e0; exact ⟨rfl, rfl⟩
        rw [Nat.zero_add] at q1
        have hlp := HLV.out j
        obtain ⟨bm, om, rfl, hbm, hmc⟩ := (HMV.out wr hbw) (List.ne_nil_of_length_pos (by rw [HMN.out]; omega))
        obtain ⟨m0, m1, -⟩ := hmc j (by rw [HMN.out]; exact hlt)
        rw [mlv_get] at m0 m1
        simp only at m0 m1
        generalize mk.getD j (0, 0) = md at *
        obtain ⟨P, D⟩ := md
        simp only at m0 m1
        unfold maxLen at q4
        generalize cols.getD j [] = c at *
        obtain ⟨M, hM⟩ : ∃ n, n = c.length := ⟨_, rfl⟩
        rw [← hM] at q1 q3
        have HM := Lib.hid hM
        have HQ2 := Lib.hid (fun W (hb : Below wr.heap.size wr W) => show Lvs W wr.heap.size aa c from q2.below hb)
        have HLP := Lib.hid hlp
        have HQ1 := Lib.hid (fun W (hb : Below wr.heap.size wr W) => show W.cell? ⟨C, j, none⟩ = some (.slice aa M cp2) from (hb.cell (p := ⟨C, j, none⟩) hbl).trans q1)
        have HM0 := Lib.hid (fun W (hb : Below wr.heap.size wr W) => show W.cell? ⟨bm, om + j * 3, none⟩ = some (.int .i64 (P : Int)) from (hb.cell (p := ⟨bm, om + j * 3, none⟩) hbm).trans m0)
        have HM1 := Lib.hid (fun W (hb : Below wr.heap.size wr W) => show W.cell? ⟨bm, om + j * 3 + 1, none⟩ = some (.int .i64 (D : Int)) from (hb.cell (p := ⟨bm, om + j * 3 + 1, none⟩) hbm).trans m1)
        have HBW := Lib.hid hbw
        clear e0 q2 q5 hlp hM hjc hmc m0 m1 hbw
        go_wp2_with fail
        go_loopw [9] (fun kk wq => ∃ k : Nat, k ≤ M ∧ kk = .int .i64 k ∧ Below wr.heap.size wr wq) (fun kk _ => M - (intOf kk).toNat)
        case atStart => exact ⟨0, Nat.zero_le _, rfl, Below.refl _ _⟩
        case round =>
          obtain ⟨k, hk, rfl, hbq⟩ := hrel
          rename World => wq
          have q1 := HQ1.out wq hbq
          by_cases hlt2 : k < M
          · have hkI : (k : Int) < (M : Int) := by omega
            have hkc : k < c.length := by rw [← HM.out]; exact hlt2
            obtain ⟨b2, o2, rfl, hb2, hcc⟩ := HQ2.out wq hbq (List.ne_nil_of_length_pos (by omega))
            obtain ⟨c0, c1, c2⟩ := hcc k hkc
            have hp := HLP.out (c.getD k (0, 0, 0)) (by rw [show c.getD k (0, 0, 0) = c[k] by simp [List.getD, List.getElem?_eq_getElem hkc]]; exact List.getElem_mem hkc)
            generalize c.getD k (0, 0, 0) = x at *
            obtain ⟨x1, x2, x3⟩ := x
            obtain ⟨p1, p2, p3, p4, p5, p6, -⟩ := hp
            simp only at c0 c1 c2 p1 p2 p3 p4 p5 p6
            clear hcc hkc hb2
            have hXC := cel_new wq #[.int .i64 x1, .int .i64 x2, .int .u64 (x3 : Int)] 43
            have hXB := hbq.alloc hbq.size (.cells #[.int .i64 x1, .int .i64 x2, .int .u64 (x3 : Int)] 43)
            have HXC := Lib.hid hXC
            have HXB := Lib.hid hXB
            have d1 : decide (x1 < 0) = false := decide_eq_false (by omega)
            have d2 : decide ((P : Int) < x1) = false := decide_eq_false (by omega)
            have d3 : decide (x2 < 0) = false := decide_eq_false (by omega)
            have d4 : decide ((D : Int) < x2) = false := decide_eq_false (by omega)
            have d6 : decide (x2 < x1) = false := decide_eq_false (by omega)
            have n1 : ¬ x1 < 0 := by omega
            have n2 : ¬ (P : Int) < x1 := by omega
            have n3 : ¬ x2 < 0 := by omega
            have n4 : ¬ (D : Int) < x2 := by omega
            have n6 : ¬ x2 < x1 := by omega
            have hjn : ((0 : Int) ≤ (j : Int)) := by omega
            clear hXC hXB p1 p2 p3 p4 p6
            by_cases h5 : x2 < (D : Int)
            · have h3 : x3 = 0 := p5 h5
              subst h3
              have d5 : decide (x2 < (D : Int)) = true := decide_eq_true h5
              clear p5
              go_wp2_with fail
              have y0 := HXC.out.c 0
              have y1 := HXC.out.c 1
              have y2 := HXC.out.c 2
              have z0 := HM0.out _ HXB.out
              have z1 := HM1.out _ HXB.out
              generalize wq.alloc (.cells #[.int .i64 x1, .int .i64 x2, .int .u64 ((0 : Nat) : Int)] 43) = W1 at *
              simp only [List.getElem?_toArray, List.getElem?_cons_zero, List.getElem?_cons_succ] at y0 y1 y2
              clear q1 c0 c1 c2 hbq
              go_quiet (fail)
              go_wp2_with fail
              exact ⟨⟨k + 1, by omega, by go_num, below_drewN HXB.out nq⟩, by simp [intOf]; omega⟩
            · have d5 : decide (x2 < (D : Int)) = false := decide_eq_false h5
              clear p5
              go_wp2_with fail
              have y0 := HXC.out.c 0
              have y1 := HXC.out.c 1
              have y2 := HXC.out.c 2
              have z0 := HM0.out _ HXB.out
              have z1 := HM1.out _ HXB.out
              generalize wq.alloc (.cells #[.int .i64 x1, .int .i64 x2, .int .u64 ((x3 : Nat) : Int)] 43) = W1 at *
              simp only [List.getElem?_toArray, List.getElem?_cons_zero, List.getElem?_cons_succ] at y0 y1 y2
              clear q1 c0 c1 c2 hbq
              go_quiet (fail)
              go_wp2_with fail
              exact ⟨⟨k + 1, by omega, by go_num, below_drewN HXB.out nq⟩, by simp [intOf]; omega⟩
          · obtain rfl : k = M := by omega
            have hkI : ¬ (k : Int) < (k : Int) := by omega
            have HB2 := Lib.hid (HBW.out.trans (hbq.mono HBW.out.size))
            clear hbq
            go_wp2_with fail
            exact ⟨⟨j + 1, by omega, by go_num, HB2.out⟩, by simp [intOf]; omega⟩
      · have hjI : ¬ (j : Int) < (nc : Int) := by omega
        go_wp2_with fail
        go_ret
        exact ⟨rfl, below_then HB.out hbw⟩
end Go.Proofs.Ytmiegikefdfaiaa
