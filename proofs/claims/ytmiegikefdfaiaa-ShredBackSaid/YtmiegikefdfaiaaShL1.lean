/- The walks of ShredBack, ShredOnly. -/
import Derived.Test.YtmiegikefdfaiaaShB
namespace Go.Proofs.Ytmiegikefdfaiaa
open Go.RowKit
open Sh (Lv)
set_option linter.unusedVariables false

set_option maxHeartbeats 2000000 in
set_option maxRecDepth 100000 in
theorem shredBack_walk (w : World) (a : Option Addr) (cap : Nat) (l : List Sh.Fd) (hm : l.length ≤ maxLen) (hq : l.length ≤ cap ∧ cap ≤ maxLen ∧ (a = none → cap = 0)) (hx : ∀ x ∈ l, fdOk x) (hu : Fds w w.heap.size a l)
    (ra : Option Addr) (rcap : Nat) (rs : List (List Nat)) (hrm : rs.length ≤ maxLen) (hrq : rs.length ≤ rcap ∧ rcap ≤ maxLen ∧ (ra = none → rcap = 0)) (hru : NRows w w.heap.size ra rs) :
    Calls Try.prog 5 #[.slice a l.length cap, .slice ra rs.length rcap] w (BoolPost true w) := by
  have HS := Lib.hid (shred_ok a cap l ra rcap rs w hq.1 hq.2.1 hu hrq.1 hrq.2.1 hru)
  have HA := Lib.hid (fun C cc cols W (hb : Below w.heap.size w W) h1 h2 => asm_ok a cap l C cc cols W hq.1 hq.2.1 (hu.next hb) h1 h2)
  have HR := Lib.hid (fun W (hb : Below w.heap.size w W) => hru.next hb)
  have HRM := Lib.hid hrm
  have hfit := hq.2.1
  clear hm hq hx hu hrq hru hrm
  obtain ⟨nl, hnl⟩ : ∃ n, n = l.length := ⟨_, rfl⟩
  obtain ⟨nr, hnr⟩ : ∃ n, n = rs.length := ⟨_, rfl⟩
  have HNR := Lib.hid hnr
  rw [← hnl, ← hnr] at HS ⊢
  rw [← hnl] at HA
  clear hnl hnr
  go_enter Try.func5, Try.ntmps5
  go_wp2_with fail
  refine (HS.out).mono ?_
  rintro e w1 ⟨hb1, hm1⟩
  cases hR : Sh.shR l rs with
  | error n =>
    rw [hR] at hm1
    obtain ⟨hn, rfl⟩ := hm1
    have g0 : ((n : Int) != 0) = true := by rw [bne_iff_ne]; omega
    clear hR HS HA HR HRM HNR
    go_wp2_with fail
    refine (shbegun_any _).mono ?_
    rintro e w2 ⟨rfl, hb2⟩
    have hB := below_then hb1 hb2
    clear hb1 hb2
    go_wp2_with fail
    go_ret
    exact ⟨rfl, hB⟩
  | ok cols =>
    rw [hR] at hm1
    obtain ⟨C, rfl, hC, h12⟩ := hm1
    have HBK := Lib.hid (Sh.back l rs cols hR)
    have HC := Lib.hid (fun W (hb : Below w1.heap.size w1 W) => hC.next hb)
    have hcm : cols.length ≤ maxLen := by unfold maxLen; omega
    have HCM := Lib.hid hcm
    obtain ⟨nc, hnc⟩ : ∃ n, n = cols.length := ⟨_, rfl⟩
    have HNC := Lib.hid hnc
    rw [← hnc]
    clear hR HS hC hcm hnc h12
    go_wp2_with fail
    refine (shbegun_any _).mono ?_
    rintro e w2 ⟨rfl, hb2⟩
    have hB := below_then hb1 hb2
    have HC2 := Lib.hid (HC.out _ hb2)
    clear hb1 hb2
    go_wp2_with fail
    have HA2 := HA.out (some ⟨C, 0, none⟩) nc cols w2 hB HCM.out HC2.out
    rw [← HNC.out] at HA2
    refine HA2.mono ?_
    rintro e w3 ⟨hb3, hm3⟩
    rw [HBK.out] at hm3
    obtain ⟨oa, oc, rfl, hO, -, -⟩ := hm3
    have hB3 := below_then hB hb3
    have HO := Lib.hid hO
    rw [← HNR.out]
    clear hB hb3 hO HA HA2
    go_wp2_with fail
    have HSM := rsame_any oa ra oc rcap rs rs w3 HO.out (HR.out _ hB3) HRM.out
    rw [decide_eq_true rfl, ← HNR.out] at HSM
    refine HSM.mono ?_
    rintro e w4 ⟨rfl, hb4⟩
    have hB4 := below_then hB3 hb4
    clear HSM hB3 hb4
    go_wp2_with fail
    go_ret
    exact ⟨rfl, hB4⟩

set_option maxHeartbeats 2000000 in
set_option maxRecDepth 100000 in
theorem shredOnly_walk (w : World) (a : Option Addr) (cap : Nat) (l : List Sh.Fd) (hm : l.length ≤ maxLen) (hq : l.length ≤ cap ∧ cap ≤ maxLen ∧ (a = none → cap = 0)) (hx : ∀ x ∈ l, fdOk x) (hu : Fds w w.heap.size a l)
    (ca : Option Addr) (ccap : Nat) (cols : List (List Lv)) (hcm : cols.length ≤ maxLen) (hcq : cols.length ≤ ccap ∧ ccap ≤ maxLen ∧ (ca = none → ccap = 0)) (hcu : LRows w w.heap.size ca cols) :
    Calls Try.prog 6 #[.slice a l.length cap, .slice ca cols.length ccap] w (BoolPost true w) := by
  have HA := Lib.hid (asm_ok a cap l ca ccap cols w hq.1 hq.2.1 hu hcm hcu)
  have HS := Lib.hid (fun R rc rs W (hb : Below w.heap.size w W) h1 h2 h3 => shred_ok a cap l R rc rs W hq.1 hq.2.1 (hu.next hb) h1 h2 h3)
  have HC := Lib.hid (fun W (hb : Below w.heap.size w W) => hcu.next hb)
  have HCM := Lib.hid hcm
  clear hm hq hx hu hcq hcu hcm
  obtain ⟨nl, hnl⟩ : ∃ n, n = l.length := ⟨_, rfl⟩
  obtain ⟨nc, hnc⟩ : ∃ n, n = cols.length := ⟨_, rfl⟩
  have HNC := Lib.hid hnc
  rw [← hnl, ← hnc] at HA ⊢
  rw [← hnl] at HS
  clear hnl hnc
  go_enter Try.func6, Try.ntmps6
  go_wp2_with fail
  refine (HA.out).mono ?_
  rintro e w1 ⟨hb1, hm1⟩
  cases hR : Sh.asmbl l cols with
  | error n =>
    rw [hR] at hm1
    obtain ⟨hn, rfl⟩ := hm1
    have g0 : ((n : Int) != 0) = true := by rw [bne_iff_ne]; omega
    clear hR HS HA HC HCM HNC
    go_wp2_with fail
    refine (shbegun_any _).mono ?_
    rintro e w2 ⟨rfl, hb2⟩
    have hB := below_then hb1 hb2
    clear hb1 hb2
    go_wp2_with fail
    go_ret
    exact ⟨rfl, hB⟩
  | ok outs =>
    rw [hR] at hm1
    obtain ⟨oa, oc, rfl, hO, h1, h2⟩ := hm1
    have HON := Lib.hid (Sh.only l cols outs hR)
    have HO := Lib.hid (fun W (hb : Below w1.heap.size w1 W) => hO.next hb)
    have H1 := Lib.hid h1
    have H2 := Lib.hid h2
    obtain ⟨nr, hnr⟩ : ∃ n, n = outs.length := ⟨_, rfl⟩
    have HNR := Lib.hid hnr
    rw [← hnr]
    clear hR HA hO h1 h2 hnr
    go_wp2_with fail
    refine (shbegun_any _).mono ?_
    rintro e w2 ⟨rfl, hb2⟩
    have hB := below_then hb1 hb2
    have HO2 := Lib.hid (HO.out _ hb2)
    clear hb1 hb2
    go_wp2_with fail
    have HS2 := HS.out oa oc outs w2 hB H1.out H2.out HO2.out
    rw [← HNR.out] at HS2
    refine HS2.mono ?_
    rintro e w3 ⟨hb3, hm3⟩
    rw [HON.out] at hm3
    obtain ⟨C, rfl, hC, -⟩ := hm3
    have hB3 := below_then hB hb3
    have HCC := Lib.hid hC
    rw [← HNC.out]
    clear hB hb3 hC HS HS2
    go_wp2_with fail
    have HSM := csame_any (some ⟨C, 0, none⟩) ca nc ccap cols cols w3 HCC.out (HC.out _ hB3) HCM.out
    rw [decide_eq_true rfl, ← HNC.out] at HSM
    refine HSM.mono ?_
    rintro e w4 ⟨rfl, hb4⟩
    have hB4 := below_then hB3 hb4
    clear HSM hB3 hb4
    go_wp2_with fail
    go_ret
    exact ⟨rfl, hB4⟩
end Go.Proofs.Ytmiegikefdfaiaa
