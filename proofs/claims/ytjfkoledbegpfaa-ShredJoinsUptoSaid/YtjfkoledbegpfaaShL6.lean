/- The walk of ShredJoins. -/
import Derived.Test.YtjfkoledbegpfaaShB
import Derived.Test.YtjfkoledbegpfaaShJz
namespace Go.Proofs.Ytjfkoledbegpfaa
open Go.RowKit
open Sh (Lv lsum)
set_option linter.unusedVariables false

set_option maxHeartbeats 2000000 in
set_option maxRecDepth 100000 in
theorem shredJoins_walk (w : World) (a : Option Addr) (cap : Nat) (l : List Sh.Fd) (hm : l.length ≤ maxLen) (hq : l.length ≤ cap ∧ cap ≤ maxLen ∧ (a = none → cap = 0)) (hx : ∀ x ∈ l, fdOk x) (hu : Fds w w.heap.size a l)
    (ca : Option Addr) (ccap : Nat) (cols : List (List Lv)) (hcm : cols.length ≤ maxLen) (hcq : cols.length ≤ ccap ∧ ccap ≤ maxLen ∧ (ca = none → ccap = 0)) (hcu : LRows w w.heap.size ca cols) (hs : lsum cols ≤ 1048576) (hbd : l.length + cols.length ≤ 1048576) :
    Calls Try.prog 4 #[.slice a l.length cap, .slice ca cols.length ccap] w (BoolPost true w) := by
  have HA := Lib.hid (asm_ok a cap l ca ccap cols w hq.1 hq.2.1 hu hcm hcu)
  have HO := Lib.hid (fun W (hb : Below w.heap.size w W) => assembledOf_any a cap l ca ccap cols W hq.1 hq.2.1 (hu.next hb) hcq.1 hcq.2.1 hs (hcu.next hb))
  rw [Sh.asmOf_is] at HO
  generalize Sh.asmbl l cols = R at *
  clear hm hq hx hu hcq hcu hcm hs hbd
  obtain ⟨nl, hnl⟩ : ∃ n, n = l.length := ⟨_, rfl⟩
  obtain ⟨nc, hnc⟩ : ∃ n, n = cols.length := ⟨_, rfl⟩
  rw [← hnl, ← hnc] at HA HO ⊢
  clear hnl hnc
  go_enter Try.func4, Try.ntmps4
  go_wp2_with fail
  refine (HA.out).mono ?_
  rintro e w1 ⟨hb1, hm1⟩
  have HB1 := Lib.hid hb1
  cases R with
  | error n =>
    obtain ⟨hn, rfl⟩ := hm1
    clear hb1 hn
    go_wp2_with fail
    refine (HO.out w1 HB1.out).mono ?_
    rintro e w2 ⟨hb2, hm2⟩
    obtain rfl := hm2
    have HB2 := Lib.hid (below_then HB1.out hb2)
    clear hb2
    go_wp2_with fail
    refine (shbegun_any _).mono ?_
    rintro e w3 ⟨rfl, hb3⟩
    have HB3 := Lib.hid (below_then HB2.out hb3)
    clear hb3
    go_wp2_with fail
    refine (rsame_any none none 0 0 [] [] w3 (NRows.nil _ _ _) (NRows.nil _ _ _) (Nat.zero_le _)).mono ?_
    rw [decide_eq_true rfl]
    rintro e w4 ⟨rfl, hb4⟩
    have HB4 := Lib.hid (below_then HB3.out hb4)
    clear hb4
    go_wp2_with fail
    go_ret
    exact ⟨rfl, HB4.out⟩
  | ok outs =>
    obtain ⟨oa, oc, rfl, hO, h1, h2⟩ := hm1
    have HO1 := Lib.hid (fun W (hb : Below w1.heap.size w1 W) => hO.next hb)
    have HLN := Lib.hid (show outs.length ≤ maxLen by omega)
    obtain ⟨nr, hnr⟩ : ∃ n, n = outs.length := ⟨_, rfl⟩
    have HNR := Lib.hid hnr
    rw [← hnr]
    clear hb1 hO h1 h2 hnr
    go_wp2_with fail
    refine (HO.out w1 HB1.out).mono ?_
    rintro e w2 ⟨hb2, hm2⟩
    obtain ⟨A, cp, n, rfl, hn, hN, hl⟩ := hm2
    rw [← HNR.out] at hn
    subst hn
    have HN2 := Lib.hid (hN.rows hl)
    have HO2 := Lib.hid (HO1.out w2 hb2)
    have HB2 := Lib.hid (below_then HB1.out hb2)
    clear hb2 hN hl
    go_wp2_with fail
    refine (shbegun_any _).mono ?_
    rintro e w3 ⟨rfl, hb3⟩
    have HB3 := Lib.hid (below_then HB2.out hb3)
    have HSM := Lib.hid (rsame_any oa A oc cp outs outs w3 (HO2.out.next hb3) (HN2.out.next hb3) HLN.out)
    rw [decide_eq_true rfl, ← HNR.out] at HSM
    clear hb3
    go_wp2_with fail
    refine (HSM.out).mono ?_
    rintro e w4 ⟨rfl, hb4⟩
    have HB4 := Lib.hid (below_then HB3.out hb4)
    clear hb4
    go_wp2_with fail
    go_ret
    exact ⟨rfl, HB4.out⟩
end Go.Proofs.Ytjfkoledbegpfaa
