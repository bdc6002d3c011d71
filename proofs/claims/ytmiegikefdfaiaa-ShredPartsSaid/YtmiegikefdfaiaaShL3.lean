/- The walk of ShredParts. -/
import Derived.Test.YtmiegikefdfaiaaShApp
namespace Go.Proofs.Ytmiegikefdfaiaa
open Go.RowKit
open Sh (Lv lsum len_lsum)
set_option linter.unusedVariables false

theorem lsame_row {w : World} {B n c cp : Nat} {a A' : Option Addr} {y z : List Lv} (hn : n ≤ 9223372036854775807) (h : Lvs w w.heap.size a (y ++ z)) (ho : w.ownsRow B 43 3 (.slice A' n cp) n (lvals ([] ++ y ++ z))) (hl : n = (y ++ z).length) :
    Calls Try.prog 21 #[.slice a n c, .slice A' n cp] w (BoolPost true w) := by
  subst hl
  rw [List.nil_append] at ho
  obtain ⟨a2, c2, e, h2, -⟩ := lvs_row ho
  injection e with e1 e2 e3
  subst e1 e3
  have := lsame_any a A' c cp (y ++ z) (y ++ z) w w.heap.size h h2 hn
  rwa [decide_eq_true rfl] at this
/-- columns that were made, and how much they are -/
def ShrSum (w : World) (cols : List (List Lv)) (e : Ending) (w' : World) : Prop :=
  Below w.heap.size w w' ∧ ∃ C, e = .returned (.tuple #[.slice (some ⟨C, 0, none⟩) cols.length cols.length, .int .i64 0]) ∧ LRows w' w'.heap.size (some ⟨C, 0, none⟩) cols ∧ lsum cols ≤ 1000000 ∧ C < w'.heap.size ∧
    ∀ j aa n cp, w'.cell? ⟨C, j, none⟩ = some (.slice aa n cp) → j < cols.length → aa = none → cp = 0
theorem shred_sum (a : Option Addr) (cap : Nat) (l : List Sh.Fd) (ra : Option Addr) (rcap : Nat) (rs : List (List Nat)) (cols : List (List Lv)) (hR : Sh.shR l rs = .ok cols) (w : World) (hcap : l.length ≤ cap) (hcm : cap ≤ maxLen) (hu : Fds w w.heap.size a l) (hrc : rs.length ≤ rcap) (hrm : rcap ≤ maxLen) (hr : NRows w w.heap.size ra rs) :
    Calls Try.prog 12 #[.slice a l.length cap, .slice ra rs.length rcap] w (ShrSum w cols) := by
  refine (shred_any a cap l ra rcap rs w hcap hcm hu hrc hrm hr).mono ?_
  rintro e w' ⟨hb, hm⟩
  rw [hR] at hm
  obtain ⟨B, S, C, N, aa, cp, vs, -, rfl, hs⟩ := hm
  have hcl := hs.cl
  have hsum := hs.sum
  subst hcl
  refine ⟨hb, C, rfl, shd_rows hs (shR_lvOk hr.lt hR), by omega, hs.c.lt, fun j a2 n2 c2 hc hj ha => ?_⟩
  rw [cel_vs hs.c j (by rw [hs.vl]; exact hj)] at hc
  have e1 : vs.getD j undef = .slice a2 n2 c2 := by simp [List.getD, hc]
  have ho := (hs.own j hj).2
  rw [e1, ha] at ho
  rcases ho with ⟨h1, -⟩ | ⟨g, cap, cur, h1, -⟩
  · injection h1
  · cases h1

set_option maxHeartbeats 4000000 in
set_option maxRecDepth 100000 in
theorem shredParts_walk (w : World) (a : Option Addr) (cap : Nat) (l : List Sh.Fd) (hm : l.length ≤ maxLen) (hq : l.length ≤ cap ∧ cap ≤ maxLen ∧ (a = none → cap = 0)) (hx : ∀ x ∈ l, fdOk x) (hu : Fds w w.heap.size a l)
    (ra : Option Addr) (rcap : Nat) (rs : List (List Nat)) (hrm : rs.length ≤ maxLen) (hrq : rs.length ≤ rcap ∧ rcap ≤ maxLen ∧ (ra = none → rcap = 0)) (hru : NRows w w.heap.size ra rs)
    (k : Int) (hk : -9223372036854775808 ≤ k ∧ k ≤ 9223372036854775807) :
    Calls Try.prog 8 #[.slice a l.length cap, .slice ra rs.length rcap, .int .i64 k] w (BoolPost true w) := by
  have HS := Lib.hid (shred_ok a cap l ra rcap rs w hq.1 hq.2.1 hu hrq.1 hrq.2.1 hru)
  have HS2 := Lib.hid (fun R rc rows cols h0 W (hb : Below w.heap.size w W) h1 h2 h3 => shred_sum a cap l R rc rows cols h0 W hq.1 hq.2.1 (hu.next hb) h1 h2 h3)
  have HRU := Lib.hid (fun W (hb : Below w.heap.size w W) => hru.next hb)
  have hnil := hrq.2.2
  have hrq2 := hrq
  have HRQ := Lib.hid (And.intro hrq.1 hrq.2.1)
  unfold maxLen at hrq2
  clear hm hq hx hu hrq hru hrm
  obtain ⟨nl, hnl⟩ : ∃ n, n = l.length := ⟨_, rfl⟩
  obtain ⟨nr, hnr⟩ : ∃ n, n = rs.length := ⟨_, rfl⟩
  have HNR := Lib.hid hnr
  rw [← hnl, ← hnr] at HS ⊢
  rw [← hnl] at HS2
  rw [← hnr] at hrq2
  have hr1 : nr ≤ rcap := hrq2.1
  have hr2 : rcap ≤ 9223372036854775807 := by omega
  clear hnl hnr hrq2
  go_enter Try.func8, Try.ntmps8
  go_wp2_with fail
  refine (HS.out).mono ?_
  rintro e w1 ⟨hb1, hm1⟩
  cases hR : Sh.shR l rs with
  | error n =>
    rw [hR] at hm1
    obtain ⟨hn, rfl⟩ := hm1
    have g0 : ((n : Int) != 0) = true := by rw [bne_iff_ne]; omega
    have g1 : ((n : Int) == 0) = false := by rw [beq_eq_false_iff_ne]; omega
    clear hR HS HS2 HRU HNR HRQ hnil
    go_wp2_with fail
    refine (shbegun_any _).mono ?_
    rintro e w2 ⟨rfl, hb2⟩
    have hB := below_then hb1 hb2
    clear hb1 hb2
    go_wp2_with fail
    go_ret
    exact ⟨rfl, hB⟩
  | ok cols =>
    rw [hR] at hm1
    obtain ⟨C, rfl, hC, h12⟩ := hm1
    have HRR := Lib.hid hR
    have HC := Lib.hid (fun W (hb : Below w1.heap.size w1 W) => hC.next hb)
    obtain ⟨nc, hnc⟩ : ∃ n, n = cols.length := ⟨_, rfl⟩
    have HNC := Lib.hid hnc
    rw [← hnc] at h12 ⊢
    clear hR HS hC hnc
    go_wp2_with fail
    refine (shbegun_any _).mono ?_
    rintro e w2 ⟨rfl, hb2⟩
    have hB := below_then hb1 hb2
    have HC2 := Lib.hid (HC.out _ hb2)
    clear hb1 hb2 HC
    by_cases hk0 : k < 0
    · go_wp2_with fail
      go_ret
      exact ⟨rfl, hB⟩
    obtain ⟨q, rfl⟩ : ∃ q : Nat, k = q := ⟨k.toNat, by omega⟩
    by_cases hkn : nr < q
    · have hknI : (nr : Int) < (q : Int) := by omega
      go_wp2_with fail
      go_ret
      exact ⟨rfl, hB⟩
    have hknI : ¬ (nr : Int) < (q : Int) := by omega
    have hP := Sh.parts l (rs.take q) (rs.drop q) cols (by rw [List.take_append_drop]; exact HRR.out)
    obtain ⟨ca, cb, hRa, hRb, hla, hlb, hcc⟩ := hP
    have HRa := Lib.hid hRa
    have HRb := Lib.hid hRb
    have HLA := Lib.hid hla
    have HLB := Lib.hid hlb
    have HCC := Lib.hid hcc
    have HT := Lib.hid (show (rs.take q).length = q by rw [List.length_take]; have := HNR.out; omega)
    have HD := Lib.hid (show (rs.drop q).length = nr - q by rw [List.length_drop, ← HNR.out])
    have dq : decide ((q : Int) < 0) = false := decide_eq_false (by omega)
    clear hRa hRb hla hlb hcc
    go_wp2_with fail
    have HSA := HS2.out ra rcap (rs.take q) ca HRa.out w2 hB (by rw [HT.out]; omega) HRQ.out.2 ((HRU.out _ hB).take q)
    rw [HT.out] at HSA
    refine HSA.mono ?_
    clear HSA
    rintro e w3 ⟨hb3, CA, rfl, hCA, hsum, hcl, hnl⟩
    have HSUM := Lib.hid hsum
    have HNLA := Lib.hid hnl
    have HCLA := Lib.hid hcl
    have hB3 := below_then hB hb3
    have HC3 := Lib.hid (HC2.out.next hb3)
    have HCA := Lib.hid hCA
    rw [HLA.out, ← HNC.out]
    clear hB hb3 hCA HC2 hsum hcl hnl
    have hq2 : q ≤ nr := by omega
    have HSB := Lib.hid (fun A c' W (hb : Below w.heap.size w W) (h1 : nr - q ≤ c') (h2 : c' ≤ maxLen) (h3 : NRows W W.heap.size A (rs.drop q)) => show Calls Try.prog 12 #[.slice a nl cap, .slice A (nr - q) c'] W (ShrSum W cb) by
      have := HS2.out A c' (rs.drop q) cb HRb.out W hb (by rw [HD.out]; exact h1) h2 h3
      rwa [HD.out] at this)
    have HR3 := Lib.hid (HRU.out w3 hB3)
    have hc3 : ra = none ∧ rcap = 0 ∨ (ra ≠ none ∧ rcap = q) ∨ ∃ b o t, ra = some ⟨b, o, t⟩ ∧ rcap ≠ q := by
      cases ra with
      | none => exact Or.inl ⟨rfl, hnil rfl⟩
      | some ad =>
        obtain ⟨b, o, t⟩ := ad
        by_cases h : rcap = q
        · exact Or.inr (Or.inl ⟨by simp, h⟩)
        · exact Or.inr (Or.inr ⟨b, o, t, rfl, h⟩)
    clear HS2 HRU hnil HRa HRb HRR
    rcases hc3 with ⟨rfl, rfl⟩ | ⟨hra, rfl⟩ | ⟨bR, oR, tR, rfl, hcq⟩
    case' inl =>
      have hz : rs.drop q = [] := List.drop_eq_nil_of_le (by have := HNR.out; omega)
      rw [hz] at HSB
      clear hz
      go_wp2_with fail
      refine (HSB.out none 0 w3 hB3 (by omega) (Nat.zero_le _) (NRows.nil _ _ _)).mono ?_
    case' inr.inl =>
      have hz : rs.drop rcap = [] := List.drop_eq_nil_of_le (by have := HNR.out; omega)
      have hz2 : nr - rcap = 0 := by omega
      rw [hz, hz2] at HSB
      clear hz hz2
      obtain ⟨⟨bR, oR, tR⟩, rfl⟩ := Option.ne_none_iff_exists'.1 hra
      clear hra
      go_wp2_with fail
      refine (HSB.out (some ⟨bR, oR, tR⟩) 0 w3 hB3 (Nat.le_refl _) (Nat.zero_le _) (NRows.nil _ _ _)).mono ?_
    case' inr.inr =>
      have HN := Lib.hid (HR3.out.cutK (k := q) (c := rcap) (by rw [← HNR.out]; exact hr1))
      rw [if_neg hcq] at HN
      have hqr : q ≤ rcap := by omega
      go_wp2_with fail
      refine (HSB.out _ (rcap - q) w3 hB3 (by omega) (by have := HRQ.out.2; omega) HN.out).mono ?_
    all_goals
      rintro e w4 ⟨hb4, CB, rfl, hCB, hsum, hcl, hnl⟩
      have HSUM2 := Lib.hid hsum
      have HNLB := Lib.hid hnl
      have HCLB := Lib.hid hcl
      have HCLA4 := Lib.hid (Nat.lt_of_lt_of_le HCLA.out hb4.size)
      have HNLA4 := Lib.hid (fun j aa n cp (h : w4.cell? ⟨CA, j, none⟩ = some (.slice aa n cp)) => HNLA.out j aa n cp ((hb4.cell (p := ⟨CA, j, none⟩) HCLA.out).symm.trans h))
      have HB4 := Lib.hid (below_then hB3 hb4)
      have HC4 := Lib.hid (HC3.out.next hb4)
      have HCA4 := Lib.hid (HCA.out.next hb4)
      have HCB4 := Lib.hid hCB
      rw [HLB.out, ← HNC.out]
      have hnc63 : nc ≤ 12 := h12
      clear hB3 hb4 hCB HC3 HCA hsum hcl hnl HSB HR3 h12 HNLA HCLA
      go_wp2_with fail
      go_loopw [13] (fun i wr => ∃ j : Nat, j ≤ nc ∧ i = .int .i64 j ∧ Below w4.heap.size w4 wr) (fun i _ => nc - (intOf i).toNat)
      case' atStart => exact ⟨0, Nat.zero_le _, rfl, Below.refl _ _⟩
      case' round =>
        obtain ⟨j, hj, rfl, hbw⟩ := hrel
        rename World => wr
        by_cases hlt : j < nc
        case' neg =>
          have hjI : ¬ (j : Int) < (nc : Int) := by omega
          go_wp2_with fail
          go_ret
          exact ⟨rfl, below_then HB4.out hbw⟩
        have hjI : (j : Int) < (nc : Int) := by omega
        have hj1 : j < cols.length := by rw [← HNC.out]; exact hlt
        obtain ⟨b1, o1, xa, xc, e1, hl1, q1, r1, s1, t1, -⟩ := (HC4.out.next hbw).at hj1
        obtain ⟨b2, o2, ya, yc, e2, hl2, q2, r2, s2, t2, -⟩ := (HCA4.out.next hbw).at (i := j) (by rw [HLA.out]; exact hj1)
        obtain ⟨b3, o3, za, zc, e3, hl3, q3, r3, s3, t3, -⟩ := (HCB4.out.next hbw).at (i := j) (by rw [HLB.out]; exact hj1)
        obtain ⟨rfl, rfl⟩ : C = b1 ∧ 0 = o1 := by cases e1; exact ⟨rfl, rfl⟩
        obtain ⟨rfl, rfl⟩ : CA = b2 ∧ 0 = o2 := by cases e2; exact ⟨rfl, rfl⟩
        obtain ⟨rfl, rfl⟩ : CB = b3 ∧ 0 = o3 := by cases e3; exact ⟨rfl, rfl⟩
        rw [Nat.zero_add] at q1 q2 q3
        have hcc := HCC.out j
        have hsy := Nat.le_trans (len_lsum ca j) HSUM.out
        have hsz := Nat.le_trans (len_lsum cb j) HSUM2.out
        rw [hcc] at q1 r1
        have hny0 := HNLA4.out j _ _ _ ((hbw.cell (p := ⟨CA, j, none⟩) HCLA4.out).symm.trans q2) (by rw [HLA.out]; exact hj1)
        have hnz0 := HNLB.out j _ _ _ ((hbw.cell (p := ⟨CB, j, none⟩) HCLB.out).symm.trans q3) (by rw [HLB.out]; exact hj1)
        generalize ca.getD j [] = y at *
        generalize cb.getD j [] = z at *
        obtain ⟨ny, hny⟩ : ∃ n, n = y.length := ⟨_, rfl⟩
        obtain ⟨nz, hnz⟩ : ∃ n, n = z.length := ⟨_, rfl⟩
        obtain ⟨nx, hnx⟩ : ∃ n, n = (y ++ z).length := ⟨_, rfl⟩
        have hnx2 : nx = ny + nz := by rw [hnx, hny, hnz, List.length_append]
        rw [← hny] at q2 hsy
        rw [← hnz] at q3 hsz
        rw [← hnx] at q1
        have f1 : ∀ W, Below wr.heap.size wr W → W.cell? ⟨C, j, none⟩ = some (.slice xa nx xc) := fun W hb => (hb.cell (p := ⟨C, j, none⟩) hl1).trans q1
        have f2 : ∀ W, Below wr.heap.size wr W → W.cell? ⟨CA, j, none⟩ = some (.slice ya ny yc) := fun W hb => (hb.cell (p := ⟨CA, j, none⟩) hl2).trans q2
        have f3 : ∀ W, Below wr.heap.size wr W → W.cell? ⟨CB, j, none⟩ = some (.slice za nz zc) := fun W hb => (hb.cell (p := ⟨CB, j, none⟩) hl3).trans q3
        have HX := Lib.hid (fun W (hb : Below wr.heap.size wr W) => (r1.below hb).mono hb.size)
        have HY := Lib.hid (fun W (hb : Below wr.heap.size wr W) => (r2.below hb).mono hb.size)
        have HZ := Lib.hid (fun W (hb : Below wr.heap.size wr W) => (r3.below hb).mono hb.size)
        have HNY := Lib.hid hny
        have HNZ := Lib.hid hnz
        have HNX := Lib.hid hnx
        have HNX2 := Lib.hid hnx2
        have HNY0 := Lib.hid hny0
        have HNZ0 := Lib.hid hnz0
        have HBW := Lib.hid (below_then HB4.out hbw)
        have HBW4 := Lib.hid hbw
        have hby : ny * 24 ≤ 140737488355328 := by omega
        have hbx : nx * 24 ≤ 140737488355328 := by omega
        have hnx63 : nx ≤ 9223372036854775807 := by omega
        have hself := Below.refl wr.heap.size wr
        clear hcc e1 e2 e3 q1 q2 q3 r1 r2 r3 s1 s2 s3 t1 t2 t3 hl1 hl2 hl3 hny hnz hnx hnx2 hny0 hnz0 hsy hsz hj1 hbw
        go_wp2_with fail
        go_region_held3 (fun W => Below wr.heap.size wr W)
          (first
            | assumption
            | exact (show Below wr.heap.size wr _ by assumption).drew
            | exact Below.alloc (by assumption) (Below.size (by assumption)) _
            | exact below_then (by assumption) hb9
            | exact Below.trans (by assumption) hb9)
          (first
            | (refine step_append_lv (by rfl) (.tmp 87) (.tmp 91) (by rfl) wr.heap.size _ 0 ny [] (by rfl) ?_ ya ny yc y HNY.out.symm (Nat.zero_add _).symm (by rfl) HNY0.out ?_ hby ?_ ?_
               · exact lempty (by first | exact heap_alloc_new _ _ | simp [World.alloc, World.drew]) (Below.size (by assumption))
               · exact HY.out _ (by assumption)
               · exact Below.size (by assumption)
               intro A9 c9 w9 hown9 hb9)
            | (refine step_append_lv (by rfl) (.tmp 92) (.tmp 96) (by rfl) wr.heap.size _ ny nx ([] ++ y) (by rfl) ?_ za nz zc z HNZ.out.symm HNX2.out (by rfl) HNZ0.out ?_ hbx ?_ ?_
               · exact hown9
               · exact HZ.out _ (by assumption)
               · exact Below.size (by assumption)
               intro A8 c8 w9 hown8 hb9)
            | (go_at_call 21
               refine (lsame_row hnx63 (HX.out _ ?_) hown8 HNX.out).mono ?_
               · assumption
               rintro e w9 ⟨rfl, hb9⟩))
        have hS := show Below wr.heap.size wr w9 by assumption
        obtain ⟨W9, hW9⟩ : ∃ W, W = w9 := ⟨_, rfl⟩
        rw [← hW9] at hS ⊢
        clear hW9 f1 f2 f3 HX HY HZ hself
        have hBN := Lib.hid (HBW4.out.trans (hS.mono HBW4.out.size))
        clear hS
        go_wp2_with fail
        exact ⟨⟨j + 1, by omega, by go_num, hBN.out⟩, by simp [intOf]; omega⟩
end Go.Proofs.Ytmiegikefdfaiaa
