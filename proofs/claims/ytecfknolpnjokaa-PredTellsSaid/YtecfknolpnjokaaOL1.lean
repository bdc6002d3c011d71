/- The laws PredTells, PruneTells. -/
import Derived.Test.YtecfknolpnjokaaOB
import Derived.Test.YtecfknolpnjokaaOR4
import Derived.Test.YtecfknolpnjokaaOR8
namespace Go.Proofs.Ytecfknolpnjokaa
open Go.RowKit
set_option linter.unusedVariables false

set_option maxHeartbeats 2000000 in
set_option maxRecDepth 100000 in
theorem predTells_walk (w : World) (ap : Option Addr) (cp : Nat) (p : List O.Cd) (hpm : p.length ≤ maxLen) (hpq : p.length ≤ cp ∧ cp ≤ maxLen ∧ (ap = none → cp = 0)) (hpx : ∀ x ∈ p, dOk x) (hpu : Cds w w.heap.size ap p)
    (ka : Option Addr) (kcap : Nat) (ks : List Int) (hkm : ks.length ≤ maxLen) (hkq : ks.length ≤ kcap ∧ kcap ≤ maxLen ∧ (ka = none → kcap = 0)) (hk64 : ∀ x ∈ ks, -9223372036854775808 ≤ x ∧ x ≤ 9223372036854775807) (hku : Ints w w.heap.size ka ks)
    (a : Option Addr) (cap : Nat) (row : List C.Cl) (hm : row.length ≤ maxLen) (hq : row.length ≤ cap ∧ cap ≤ maxLen ∧ (a = none → cap = 0)) (hx : ∀ x ∈ row, cOk x) (hu : Cls w w.heap.size a row) :
    Calls Try.prog 3 #[.slice ap p.length cp, .slice ka ks.length kcap, .slice a row.length cap] w (BoolPost true w) := by
  have H1 := Lib.hid (ask_any ap cp p ka kcap ks a cap row w hpm hpx hpu hkm hku hm hx hu)
  have H2 := Lib.hid (fun W (hb : Below w.heap.size w W) => askOf_any ap cp p ka kcap ks a cap row W hpm hpq.1 hpx (hpu.next at5_firm hb) hkm hk64 (hku.next at1_firm hb) hm hq.1 hx (hu.next hb))
  have H3 := Lib.hid (fun W (hb : Below w.heap.size w W) => pcheck_any ap cp p ka kcap ks W hpm hpx (hpu.next at5_firm hb) hkm (hku.next at1_firm hb))
  have H4 := Lib.hid (fun W (hb : Below w.heap.size w W) => ccheck_any ap cp p ka kcap ks W hpm hpx (hpu.next at5_firm hb) hk64 hkm (hku.next at1_firm hb))
  generalize O.askR p ks row = r at *
  generalize O.check p ks = c at *
  obtain ⟨r1, r2⟩ := r
  clear hpx hpu hku hx hu hk64 hpm hkm hm hpq hkq hq
  go_enter Try.func3, Try.ntmps3
  go_wp2_with fail
  refine H1.out.mono ?_
  rintro e w1 ⟨rfl, hb1⟩
  go_wp2_with fail
  refine (H2.out _ hb1).mono ?_
  rintro e w2 ⟨rfl, hb2⟩
  have hb2 := below_then hb1 hb2
  go_wp2_with fail
  refine (predBegun_any _).mono ?_
  rintro e w3 ⟨rfl, hb3⟩
  have hb3 := below_then hb2 hb3
  go_wp2_with fail
  refine (H3.out _ hb3).mono ?_
  rintro e w4 ⟨rfl, hb4⟩
  have hb4 := below_then hb3 hb4
  go_wp2_with fail
  refine (H4.out _ hb4).mono ?_
  rintro e w5 ⟨rfl, hb5⟩
  go_wp2_with fail
  go_ret
  exact ⟨rfl, below_then hb4 hb5⟩

set_option maxHeartbeats 2000000 in
set_option maxRecDepth 100000 in
theorem pruneTells_walk (w : World) (ap : Option Addr) (cp : Nat) (p : List O.Cd) (hpm : p.length ≤ maxLen) (hpq : p.length ≤ cp ∧ cp ≤ maxLen ∧ (ap = none → cp = 0)) (hpx : ∀ x ∈ p, dOk x) (hpu : Cds w w.heap.size ap p)
    (ka : Option Addr) (kcap : Nat) (ks : List Int) (hkm : ks.length ≤ maxLen) (hkq : ks.length ≤ kcap ∧ kcap ≤ maxLen ∧ (ka = none → kcap = 0)) (hk64 : ∀ x ∈ ks, -9223372036854775808 ≤ x ∧ x ≤ 9223372036854775807) (hku : Ints w w.heap.size ka ks)
    (a : Option Addr) (cap : Nat) (ss : List S.St) (hm : ss.length ≤ maxLen) (hq : ss.length ≤ cap ∧ cap ≤ maxLen ∧ (a = none → cap = 0)) (hx : ∀ x ∈ ss, sOk x) (hu : Sts w w.heap.size a ss)
    (af : Option Addr) (capf : Nat) (fs : List Bl.F) (hfm : fs.length ≤ maxLen) (hfq : fs.length ≤ capf ∧ capf ≤ maxLen ∧ (af = none → capf = 0)) (hfx : ∀ x ∈ fs, Bl.fOk x) (hfu : Fls w w.heap.size af fs) :
    Calls Try.prog 4 #[.slice ap p.length cp, .slice ka ks.length kcap, .slice a ss.length cap, .slice af fs.length capf] w (BoolPost true w) := by
  have H1 := Lib.hid (prune_any ap cp p ka kcap ks a cap ss af capf fs w hpm hpx hpu hkm hku hm hx hu hfm hfx hfu)
  have H2 := Lib.hid (fun W (hb : Below w.heap.size w W) => pruneOf_any ap cp p ka kcap ks a cap ss af capf fs W hpm hpq.1 hpx (hpu.next at5_firm hb) hkm hk64 (hku.next at1_firm hb) hm hx (hu.next at8_firm hb) hfm hfx (hfu.next at4_firm hb))
  generalize O.pruneR p ks ss fs = r at *
  obtain ⟨r1, r2⟩ := r
  clear hpx hpu hku hx hu hk64 hpm hkm hm hpq hkq hq hfx hfu hfm hfq
  go_enter Try.func4, Try.ntmps4
  go_wp2_with fail
  refine H1.out.mono ?_
  rintro e w1 ⟨rfl, hb1⟩
  go_wp2_with fail
  refine (H2.out _ hb1).mono ?_
  rintro e w2 ⟨rfl, hb2⟩
  have hb2 := below_then hb1 hb2
  go_wp2_with fail
  refine (predBegun_any _).mono ?_
  rintro e w3 ⟨rfl, hb3⟩
  go_wp2_with fail
  go_ret
  exact ⟨rfl, below_then hb2 hb3⟩
end Go.Proofs.Ytecfknolpnjokaa
