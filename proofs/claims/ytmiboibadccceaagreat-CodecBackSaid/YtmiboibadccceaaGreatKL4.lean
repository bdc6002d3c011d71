/- The law CodecBack. -/
import Derived.Test.YtmiboibadccceaaGreatKB
namespace Go.Proofs.YtmiboibadccceaaGreat
open Go.RowKit
set_option linter.unusedVariables false

theorem say_short (m : Nat) (l : List Nat) (hm : 1 ≤ m ∧ m ≤ 4) (hl : l.length ≤ 64) (hx : ∀ x ∈ l, x < 18446744073709551616) : (nbW m l).length ≤ maxLen := by
  rw [nbW_say m l hm, List.length_cons]
  have := (say_len m l hm hl hx).1
  unfold maxLen; omega
theorem best_short (l : List Nat) (hl : l.length ≤ 64) (hx : ∀ x ∈ l, x < 18446744073709551616) : (bestNW l).length ≤ maxLen :=
  Nat.le_trans (bestNW_le l 1 (by omega)) (say_short 1 l (by omega) hl hx)

set_option maxHeartbeats 2000000 in
set_option maxRecDepth 100000 in
theorem codecBack_walk (w : World) (a : Option Addr) (c : Nat) (l : List Nat) (hm : l.length ≤ maxLen) (hcap : l.length ≤ c ∧ c ≤ maxLen ∧ (a = none → c = 0)) (hx : ∀ x ∈ l, x < 18446744073709551616) (hu : Nums w w.heap.size a l) (way : Int) (hway : -9223372036854775808 ≤ way ∧ way ≤ 9223372036854775807) :
    Calls Tryz.prog 6 #[.slice a l.length c, .int .i64 way] w (BoolPost true w) := by
  have hN := fun W (hq : Nums W W.heap.size a l) => knumbers_any way a c l W hcap.1 hcap.2.1 hx hq
  have hB := fun W (hq : Nums W W.heap.size a l) => kbestNumbers_any a c l W hcap.1 hcap.2.1 hx hq
  unfold PackPost at hN hB
  have hF := Below.refl w.heap.size w
  by_cases hbig : 64 < l.length
  · rw [show bestNR l = ([], 2) from if_pos hbig] at hB
    have HB := Lib.hid (fun W (hq : Nums W W.heap.size a l) => show Calls Tryz.prog 13 #[.slice a l.length c] W (fun e w' => e = .returned (.tuple #[.string ⟨#[]⟩, .int .i64 2]) ∧ Below W.heap.size W w') from hB W hq)
    have hne : numR way l = ([], 7) ∨ numR way l = ([], 2) := by
      unfold numR
      by_cases h0 : way < 1 ∨ 4 < way
      · exact Or.inl (if_pos h0)
      · rw [if_neg h0, if_pos hbig]; exact Or.inr rfl
    obtain ⟨en, hen⟩ : ∃ en, numR way l = ([], en) := by rcases hne with h | h <;> exact ⟨_, h⟩
    rw [hen] at hN
    have HN := Lib.hid (fun W (hq : Nums W W.heap.size a l) => show Calls Tryz.prog 12 #[.slice a l.length c, .int .i64 way] W (fun e w' => e = .returned (.tuple #[.string ⟨#[]⟩, .int .i64 en]) ∧ Below W.heap.size W w') from hN W hq)
    clear hN hB hne hen hbig hx hcap hm
    go_enter Tryz.func6, Tryz.ntmps6
    go_wp2_with fail
    refine (HN.out _ hu).mono ?_
    rintro e w1 ⟨rfl, hb1⟩
    replace hu := hu.next hb1
    replace hF := below_then hF hb1
    clear hb1
    go_wp2_with fail
    refine (HB.out _ hu).mono ?_
    rintro e w1 ⟨rfl, hb1⟩
    replace hu := hu.next hb1
    replace hF := below_then hF hb1
    clear hb1
    go_wp2_with fail
    refine (kbegun_any _).mono ?_
    rintro e w1 ⟨rfl, hb1⟩
    replace hu := hu.next hb1
    replace hF := below_then hF hb1
    clear hb1
    go_wp2_with fail
    go_ret
    exact ⟨rfl, hF⟩
  have hl : l.length ≤ 64 := by omega
  rw [show bestNR l = (bestNW l, 0) from if_neg hbig] at hB
  have hRB := fun W => readNumbers_any (bestNW l) l.length W (best_short l hl hx)
  rw [best_back l hl hx] at hRB
  unfold AllPost at hRB
  have HS := Lib.hid (fun a2 c2 W (h1 : Nums W W.heap.size a2 l) (h2 : Nums W W.heap.size a l) => show Calls Tryz.prog 26 #[.slice a2 l.length c2, .slice a l.length c] W (fun e w' => e = .returned (.bool true) ∧ Below W.heap.size W w') by have h := same_any a2 a c2 c l l W _ h1 h2 (by omega); rw [decide_eq_true rfl] at h; exact h)
  by_cases h0 : way < 1 ∨ 4 < way
  · rw [show numR way l = ([], 7) from if_pos h0] at hN
    have HN := Lib.hid (fun W (hq : Nums W W.heap.size a l) => show Calls Tryz.prog 12 #[.slice a l.length c, .int .i64 way] W (fun e w' => e = .returned (.tuple #[.string ⟨#[]⟩, .int .i64 7]) ∧ Below W.heap.size W w') from hN W hq)
    have HB := Lib.hid (fun W (hq : Nums W W.heap.size a l) => show Calls Tryz.prog 13 #[.slice a l.length c] W (fun e w' => e = .returned (.tuple #[.string (str (bestNW l)), .int .i64 0]) ∧ Below W.heap.size W w') from hB W hq)
    have HRB := Lib.hid hRB
    generalize str (bestNW l) = T at *
    clear hN hB hRB h0 hbig hx hcap hm
    go_enter Tryz.func6, Tryz.ntmps6
    go_wp2_with fail
    refine (HN.out _ hu).mono ?_
    rintro e w1 ⟨rfl, hb1⟩
    replace hu := hu.next hb1
    replace hF := below_then hF hb1
    clear hb1
    go_wp2_with fail
    refine (HB.out _ hu).mono ?_
    rintro e w1 ⟨rfl, hb1⟩
    replace hu := hu.next hb1
    replace hF := below_then hF hb1
    clear hb1
    go_wp2_with fail
    refine (kbegun_any _).mono ?_
    rintro e w1 ⟨rfl, hb1⟩
    replace hu := hu.next hb1
    replace hF := below_then hF hb1
    clear hb1
    go_wp2_with fail
    refine (HRB.out _).mono ?_
    rintro e w1 ⟨a2, c2, rfl, n2, hb1⟩
    replace hu := hu.next hb1
    replace hF := below_then hF hb1
    clear hb1
    go_wp2_with fail
    refine (HS.out _ _ _ n2 hu).mono ?_
    rintro e w1 ⟨rfl, hb1⟩
    clear n2
    replace hu := hu.next hb1
    replace hF := below_then hF hb1
    clear hb1
    go_wp2_with fail
    go_ret
    exact ⟨rfl, hF⟩
  obtain ⟨m, rfl⟩ : ∃ m : Nat, way = m := ⟨way.toNat, by omega⟩
  have hm4 : 1 ≤ m ∧ m ≤ 4 := by omega
  have hR := fun W => readNumbers_any (nbW m l) l.length W (say_short m l hm4 hl hx)
  rw [nl_back m l hm4 hl hx] at hR
  unfold AllPost at hR
  rw [show numR (m : Int) l = (nbW m l, 0) by unfold numR; rw [if_neg h0, if_neg hbig, Int.toNat_natCast]] at hN
  have HN := Lib.hid (fun W (hq : Nums W W.heap.size a l) => show Calls Tryz.prog 12 #[.slice a l.length c, .int .i64 (m : Int)] W (fun e w' => e = .returned (.tuple #[.string (str (nbW m l)), .int .i64 0]) ∧ Below W.heap.size W w') from hN W hq)
  have HB := Lib.hid (fun W (hq : Nums W W.heap.size a l) => show Calls Tryz.prog 13 #[.slice a l.length c] W (fun e w' => e = .returned (.tuple #[.string (str (bestNW l)), .int .i64 0]) ∧ Below W.heap.size W w') from hB W hq)
  have HRB := Lib.hid hRB
  have HR := Lib.hid hR
  generalize str (bestNW l) = T at *
  generalize str (nbW m l) = S at *
  clear hN hB hRB hR h0 hbig hx hcap hm hm4
  go_enter Tryz.func6, Tryz.ntmps6
  go_wp2_with fail
  refine (HN.out _ hu).mono ?_
  rintro e w1 ⟨rfl, hb1⟩
  replace hu := hu.next hb1
  replace hF := below_then hF hb1
  clear hb1
  go_wp2_with fail
  refine (HB.out _ hu).mono ?_
  rintro e w1 ⟨rfl, hb1⟩
  replace hu := hu.next hb1
  replace hF := below_then hF hb1
  clear hb1
  go_wp2_with fail
  refine (kbegun_any _).mono ?_
  rintro e w1 ⟨rfl, hb1⟩
  replace hu := hu.next hb1
  replace hF := below_then hF hb1
  clear hb1
  go_wp2_with fail
  refine (HRB.out _).mono ?_
  rintro e w1 ⟨a2, c2, rfl, n2, hb1⟩
  replace hu := hu.next hb1
  replace hF := below_then hF hb1
  clear hb1
  go_wp2_with fail
  refine (HS.out _ _ _ n2 hu).mono ?_
  rintro e w1 ⟨rfl, hb1⟩
  clear n2
  replace hu := hu.next hb1
  replace hF := below_then hF hb1
  clear hb1
  go_wp2_with fail
  refine (HR.out _).mono ?_
  rintro e w1 ⟨a2, c2, rfl, n2, hb1⟩
  replace hu := hu.next hb1
  replace hF := below_then hF hb1
  clear hb1
  go_wp2_with fail
  refine (HS.out _ _ _ n2 hu).mono ?_
  rintro e w1 ⟨rfl, hb1⟩
  clear n2
  replace hu := hu.next hb1
  replace hF := below_then hF hb1
  clear hb1
  go_wp2_with fail
  go_ret
  exact ⟨rfl, hF⟩
end Go.Proofs.YtmiboibadccceaaGreat
