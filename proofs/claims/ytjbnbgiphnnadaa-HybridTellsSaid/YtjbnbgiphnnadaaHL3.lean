/- The law HybridTells. -/
import Derived.Test.YtjbnbgiphnnadaaHL1
import Derived.Test.YtjbnbgiphnnadaaHR2
import Derived.Test.YtjbnbgiphnnadaaBitsP
namespace Go.Proofs.Ytjbnbgiphnnadaa
open Go.RowKit
set_option linter.unusedVariables false

set_option maxHeartbeats 1000000 in
set_option maxRecDepth 100000 in
theorem hybridTells_walk (w : World) (a : Option Addr) (c : Nat) (l : List Nat) (hm : l.length ≤ maxLen) (hcap : l.length ≤ c ∧ c ≤ maxLen ∧ (a = none → c = 0)) (hx : ∀ x ∈ l, x < 18446744073709551616) (hu : Nums w w.heap.size a l)
    (wide : Int) (hw : -9223372036854775808 ≤ wide ∧ wide ≤ 9223372036854775807) :
    Calls Try.prog 3 #[.slice a l.length c, .int .i64 wide] w (BoolPost true w) := by
  have hwr := hwrite_any a c l wide w hcap.1 hcap.2.1 hx hu
  have hpo := fun w' hu => packOf_any a c l wide w' hx hu
  unfold maxLen at hm
  rcases hwrite_cases l wide with ⟨er, he, hr⟩ | ⟨n, rfl, hn, hl, hf, hr, hlen⟩
  · have hp2 : (packR l wide).2 = er := by
      unfold hwriteR at hr
      by_cases h : (packR l wide).2 ≠ 0
      · rw [if_pos h] at hr; exact congrArg Prod.snd hr
      · rw [if_neg h] at hr; exact absurd (congrArg Prod.snd hr).symm he
    have hpk : packR l wide = ([], er) := Prod.ext (pack_bad l wide (by omega)) hp2
    rw [hr] at hwr
    rw [hpk] at hpo
    have HWR := Lib.hid hwr
    have HPO := Lib.hid hpo
    have HU := Lib.hid hu
    have g1 : ((er : Int) == 0) = false := by rw [beq_eq_false_iff_ne]; omega
    have g2 : (str []).toList.isEmpty = true := empty_true _ rfl
    clear hwr hpo hr hpk hp2 hx hu
    go_enter Try.func3, Try.ntmps3
    go_wp2_with fail
    refine (HWR.out).mono ?_
    rintro e w1 ⟨rfl, hb1⟩
    go_wp2_with fail
    refine (HPO.out _ (HU.out.next hb1)).mono ?_
    rintro e w2 ⟨rfl, hb2⟩
    have h2 := below_then hb1 hb2
    go_wp2_with fail
    refine (hbegun_any _).mono ?_
    rintro e w3 ⟨rfl, hb3⟩
    go_wp2_with fail
    go_ret
    exact ⟨rfl, below_then h2 hb3⟩
  · have hpk : packR l n = (H.pkd n l, 0) := by
      unfold packR
      rw [if_neg (by omega), if_neg (by omega), Int.toNat_natCast, if_neg (by have := (B.wd_le l n).2 hf; omega)]; rfl
    rw [hr] at hwr
    rw [hpk] at hpo
    have hby := fun w' (h : Nums w' w'.heap.size a l) => hbytes_any a c l n w' (by omega) hcap.1 hcap.2.1 hn hf h
    have HWR := Lib.hid hwr
    have HPO := Lib.hid hpo
    have HBY := Lib.hid hby
    have HU := Lib.hid hu
    generalize H.bytes n l = t at *
    generalize H.pkd n l = t2 at *
    clear hwr hpo hby hr hpk hx hu hf
    go_enter Try.func3, Try.ntmps3
    go_wp2_with fail
    refine (HWR.out).mono ?_
    rintro e w1 ⟨rfl, hb1⟩
    go_wp2_with fail
    refine (HPO.out _ (HU.out.next hb1)).mono ?_
    rintro e w2 ⟨rfl, hb2⟩
    have h2 := below_then hb1 hb2
    go_wp2_with fail
    refine (HBY.out _ (HU.out.next h2)).mono ?_
    rintro e w3 ⟨rfl, hb3⟩
    have h3 := below_then h2 hb3
    go_wp2_with fail
    refine (hbegun_any _).mono ?_
    rintro e w4 ⟨rfl, hb4⟩
    go_wp2_with fail
    go_ret
    exact ⟨rfl, below_then h3 hb4⟩
end Go.Proofs.Ytjbnbgiphnnadaa
