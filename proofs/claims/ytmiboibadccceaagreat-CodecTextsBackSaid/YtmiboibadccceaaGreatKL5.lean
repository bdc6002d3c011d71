/- The law CodecTextsBack. -/
import Derived.Test.YtmiboibadccceaaGreatKB
namespace Go.Proofs.YtmiboibadccceaaGreat
open Go.RowKit
set_option linter.unusedVariables false

theorem tsay_short (m : Nat) (l : List (List UInt8)) (hm : 5 ≤ m ∧ m ≤ 7) (hf : fitR l = 0) : (txB m l).length ≤ maxLen := by
  rw [txB_say m l hm, List.length_cons]
  have := sayT_len m l hm hf
  unfold maxLen; omega
theorem tbest_short (l : List (List UInt8)) (hf : fitR l = 0) : (bestTW l).length ≤ maxLen :=
  Nat.le_trans (bestTW_le l 5 (by omega)) (tsay_short 5 l (by omega) hf)

set_option maxHeartbeats 2000000 in
set_option maxRecDepth 100000 in
theorem codecTextsBack_walk (w : World) (a : Option Addr) (c : Nat) (l : List (List UInt8)) (hm : l.length ≤ maxLen) (hcap : l.length ≤ c ∧ c ≤ maxLen ∧ (a = none → c = 0)) (hx : ∀ x ∈ l, x.length ≤ maxLen) (hu : Txts w w.heap.size a l) (way : Int) (hway : -9223372036854775808 ≤ way ∧ way ≤ 9223372036854775807) :
    Calls Tryz.prog 7 #[.slice a l.length c, .int .i64 way] w (BoolPost true w) := by
  have hN := fun W (hq : Txts W W.heap.size a l) => ktexts_any way a c l W hq
  have hB := fun W (hq : Txts W W.heap.size a l) => kbestTexts_any a c l W hq
  unfold PackPost at hN hB
  have hF := Below.refl w.heap.size w
  by_cases hbig : fitR l ≠ 0
  · rw [show bestTR l = ([], 2) from if_pos hbig] at hB
    have HB := Lib.hid (fun W (hq : Txts W W.heap.size a l) => show Calls Tryz.prog 18 #[.slice a l.length c] W (fun e w' => e = .returned (.tuple #[.string ⟨#[]⟩, .int .i64 2]) ∧ Below W.heap.size W w') from hB W hq)
    have hne : txtR way l = ([], 7) ∨ txtR way l = ([], 2) := by
      unfold txtR
      by_cases h0 : way < 5 ∨ 7 < way
      · exact Or.inl (if_pos h0)
      · rw [if_neg h0, if_pos hbig]; exact Or.inr rfl
    obtain ⟨en, hen⟩ : ∃ en, txtR way l = ([], en) := by rcases hne with h | h <;> exact ⟨_, h⟩
    rw [hen] at hN
    have HN := Lib.hid (fun W (hq : Txts W W.heap.size a l) => show Calls Tryz.prog 17 #[.slice a l.length c, .int .i64 way] W (fun e w' => e = .returned (.tuple #[.string ⟨#[]⟩, .int .i64 en]) ∧ Below W.heap.size W w') from hN W hq)
    clear hN hB hne hen hbig hx hcap hm
    go_enter Tryz.func7, Tryz.ntmps7
    go_wp2_with fail
    refine (HN.out _ hu).mono ?_
    rintro e w1 ⟨rfl, hb1⟩
    replace hu := hu.next hb1
    replace hF := below_then hF hb1
    clear hb1
    go_wp2_with fail
    refine (HB.out _ hu).mono ?_
    rintro e w1 ⟨rfl, hb1⟩
    replace hu := hu.next hb1
    replace hF := below_then hF hb1
    clear hb1
    go_wp2_with fail
    refine (kbegun_any _).mono ?_
    rintro e w1 ⟨rfl, hb1⟩
    replace hu := hu.next hb1
    replace hF := below_then hF hb1
    clear hb1
    go_wp2_with fail
    go_ret
    exact ⟨rfl, hF⟩
  have hf : fitR l = 0 := Decidable.not_not.1 hbig
  rw [show bestTR l = (bestTW l, 0) from if_neg hbig] at hB
  have hRB := fun W => readTexts_any (bestTW l) l.length W (tbest_short l hf)
  rw [tbest_back l hf] at hRB
  unfold TextsPost at hRB
  have HS := Lib.hid (fun a2 c2 W (h1 : Txts W W.heap.size a2 l) (h2 : Txts W W.heap.size a l) => show Calls Tryz.prog 27 #[.slice a2 l.length c2, .slice a l.length c] W (fun e w' => e = .returned (.bool true) ∧ Below W.heap.size W w') by have h := tsame_any a2 a c2 c l l W _ h1 h2 (by have := (fit_zero hf).1; omega); rw [decide_eq_true rfl] at h; exact h)
  by_cases h0 : way < 5 ∨ 7 < way
  · rw [show txtR way l = ([], 7) from if_pos h0] at hN
    have HN := Lib.hid (fun W (hq : Txts W W.heap.size a l) => show Calls Tryz.prog 17 #[.slice a l.length c, .int .i64 way] W (fun e w' => e = .returned (.tuple #[.string ⟨#[]⟩, .int .i64 7]) ∧ Below W.heap.size W w') from hN W hq)
    have HB := Lib.hid (fun W (hq : Txts W W.heap.size a l) => show Calls Tryz.prog 18 #[.slice a l.length c] W (fun e w' => e = .returned (.tuple #[.string (str (bestTW l)), .int .i64 0]) ∧ Below W.heap.size W w') from hB W hq)
    have HRB := Lib.hid hRB
    generalize str (bestTW l) = T at *
    clear hN hB hRB h0 hbig hx hcap hm hf
    go_enter Tryz.func7, Tryz.ntmps7
    go_wp2_with fail
    refine (HN.out _ hu).mono ?_
    rintro e w1 ⟨rfl, hb1⟩
    replace hu := hu.next hb1
    replace hF := below_then hF hb1
    clear hb1
    go_wp2_with fail
    refine (HB.out _ hu).mono ?_
    rintro e w1 ⟨rfl, hb1⟩
    replace hu := hu.next hb1
    replace hF := below_then hF hb1
    clear hb1
    go_wp2_with fail
    refine (kbegun_any _).mono ?_
    rintro e w1 ⟨rfl, hb1⟩
    replace hu := hu.next hb1
    replace hF := below_then hF hb1
    clear hb1
    go_wp2_with fail
    refine (HRB.out _).mono ?_
    rintro e w1 ⟨a2, c2, rfl, n2, hb1⟩
    replace hu := hu.next hb1
    replace hF := below_then hF hb1
    clear hb1
    go_wp2_with fail
    refine (HS.out _ _ _ n2 hu).mono ?_
    rintro e w1 ⟨rfl, hb1⟩
    clear n2
    replace hu := hu.next hb1
    replace hF := below_then hF hb1
    clear hb1
    go_wp2_with fail
    go_ret
    exact ⟨rfl, hF⟩
  obtain ⟨m, rfl⟩ : ∃ m : Nat, way = m := ⟨way.toNat, by omega⟩
  have hm4 : 5 ≤ m ∧ m ≤ 7 := by omega
  have hR := fun W => readTexts_any (txB m l) l.length W (tsay_short m l hm4 hf)
  rw [tl_back m l hm4 hf] at hR
  unfold TextsPost at hR
  rw [show txtR (m : Int) l = (txB m l, 0) by unfold txtR; rw [if_neg h0, if_neg hbig, Int.toNat_natCast]] at hN
  have HN := Lib.hid (fun W (hq : Txts W W.heap.size a l) => show Calls Tryz.prog 17 #[.slice a l.length c, .int .i64 (m : Int)] W (fun e w' => e = .returned (.tuple #[.string (str (txB m l)), .int .i64 0]) ∧ Below W.heap.size W w') from hN W hq)
  have HB := Lib.hid (fun W (hq : Txts W W.heap.size a l) => show Calls Tryz.prog 18 #[.slice a l.length c] W (fun e w' => e = .returned (.tuple #[.string (str (bestTW l)), .int .i64 0]) ∧ Below W.heap.size W w') from hB W hq)
  have HRB := Lib.hid hRB
  have HR := Lib.hid hR
  generalize str (bestTW l) = T at *
  generalize str (txB m l) = S at *
  clear hN hB hRB hR h0 hbig hx hcap hm hm4 hf
  go_enter Tryz.func7, Tryz.ntmps7
  go_wp2_with fail
  refine (HN.out _ hu).mono ?_
  rintro e w1 ⟨rfl, hb1⟩
  replace hu := hu.next hb1
  replace hF := below_then hF hb1
  clear hb1
  go_wp2_with fail
  refine (HB.out _ hu).mono ?_
  rintro e w1 ⟨rfl, hb1⟩
  replace hu := hu.next hb1
  replace hF := below_then hF hb1
  clear hb1
  go_wp2_with fail
  refine (kbegun_any _).mono ?_
  rintro e w1 ⟨rfl, hb1⟩
  replace hu := hu.next hb1
  replace hF := below_then hF hb1
  clear hb1
  go_wp2_with fail
  refine (HRB.out _).mono ?_
  rintro e w1 ⟨a2, c2, rfl, n2, hb1⟩
  replace hu := hu.next hb1
  replace hF := below_then hF hb1
  clear hb1
  go_wp2_with fail
  refine (HS.out _ _ _ n2 hu).mono ?_
  rintro e w1 ⟨rfl, hb1⟩
  clear n2
  replace hu := hu.next hb1
  replace hF := below_then hF hb1
  clear hb1
  go_wp2_with fail
  refine (HR.out _).mono ?_
  rintro e w1 ⟨a2, c2, rfl, n2, hb1⟩
  replace hu := hu.next hb1
  replace hF := below_then hF hb1
  clear hb1
  go_wp2_with fail
  refine (HS.out _ _ _ n2 hu).mono ?_
  rintro e w1 ⟨rfl, hb1⟩
  clear n2
  replace hu := hu.next hb1
  replace hF := below_then hF hb1
  clear hb1
  go_wp2_with fail
  go_ret
  exact ⟨rfl, hF⟩
end Go.Proofs.YtmiboibadccceaaGreat
