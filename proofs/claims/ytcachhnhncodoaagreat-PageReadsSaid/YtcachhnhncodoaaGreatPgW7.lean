/- The walks of page.which, page.cells. -/
import Derived.Test.YtcachhnhncodoaaGreatPgW5
import Derived.Test.YtcachhnhncodoaaGreatPgW6
import Derived.Test.YtcachhnhncodoaaGreatP10
namespace Go.Proofs.YtcachhnhncodoaaGreat
open Go.RowKit
set_option linter.unusedVariables false

def WhichPost (r : List Bool × List UInt8 × Nat) (w : World) (e : Ending) (w' : World) : Prop :=
  ∃ a c, e = .returned (.tuple #[.slice a r.1.length c, .string (str r.2.1), .int .i64 r.2.2]) ∧ Bools w' w'.heap.size a r.1 ∧ Below w.heap.size w w'
theorem WhichPost.none {w w' : World} (er : Nat) (h : Below w.heap.size w w') : WhichPost ([], [], er) w (.returned (.tuple #[.slice Option.none 0 0, .string ⟨#[]⟩, .int .i64 er])) w' :=
  ⟨Option.none, 0, rfl, Bools.nil _ _ _, h⟩

set_option maxHeartbeats 2000000 in
set_option maxRecDepth 100000 in
theorem pwhich_any (s : List UInt8) (many there : Nat) (w : World) (hs : s.length ≤ maxLen) (hm : many ≤ 64) (ht : there ≤ many) :
    Calls Tryz.prog 60 #[.string (str s), .int .i64 (many : Int), .int .i64 (there : Int)] w (WhichPost (Pg.whichR s many there) w) := by
  have hsz := str_size s
  have hmx := hs
  unfold maxLen at hmx
  by_cases h0 : there = many
  · subst h0
    have HRE := Lib.hid (show Pg.whichR s there there = (List.replicate there true, s, 0) from if_pos rfl)
    have hal : Below w.heap.size w (w.alloc (.cells #[.bool true] 4)) := (Below.refl _ _).alloc (Nat.le_refl _) _
    have HRP := Lib.hid (repeatb_all w.heap.size 0 1 there true (w.alloc (.cells #[.bool true] 4)) hm (by simp) (World.cell?_alloc_new _ _ _ _))
    unfold BoolsOnly at HRP
    rw [HRE.out]
    unfold WhichPost
    simp only
    generalize List.replicate there true = ms at *
    generalize str s = S at *
    clear HRE hs hsz
    go_enter Tryz.func60, Tryz.ntmps60
    go_wp2_with fail
    refine (HRP.out).mono ?_
    rintro e w1 ⟨a1, c1, rfl, hn, hb1⟩
    go_wp2_with fail
    go_ret3
    exact ⟨a1, c1, rfl, hn, below_then hal hb1⟩
  have g0 : ((there : Int) == (many : Int)) = false := by rw [beq_eq_false_iff_ne]; omega
  obtain ⟨z, hz⟩ : ∃ z, (many + 7) / 8 = z := ⟨_, rfl⟩
  have hw7 : IntKind.i64.wrap ((many : Int) + 7) = (many : Int) + 7 := by rw [IntKind.wrap_i64]; omega
  have hq8 : ((many : Int) + 7) / 8 = (z : Int) := by omega
  have hq9 : ((many : Int) + 7).tdiv 8 = (z : Int) := by rw [Int.tdiv_eq_ediv_of_nonneg (by omega)]; exact hq8
  have hwz : IntKind.i64.wrap (z : Int) = (z : Int) := by rw [IntKind.wrap_i64]; omega
  have hRW : Pg.whichR s many there = if s.length < z then ([], [], 5) else if (mofR (s.take z) many).2 ≠ 0 then ([], [], (mofR (s.take z) many).2) else if M.cnt (mofR (s.take z) many).1 ≠ there then ([], [], 1) else ((mofR (s.take z) many).1, s.drop z, 0) := by
    unfold Pg.whichR; rw [if_neg h0, hz]
  by_cases h1 : s.length < z
  · have HRE := Lib.hid (hRW.trans (if_pos h1))
    have g1 : decide (((str s).size : Int) < (z : Int)) = true := decide_eq_true (by omega)
    have g1' : decide ((str s).size < z) = true := decide_eq_true (by omega)
    generalize str s = S at *
    clear hRW hs hsz hz h1
    go_enter Tryz.func60, Tryz.ntmps60
    go_wp2_with fail
    go_ret3
    rw [HRE.out]
    exact WhichPost.none 5 (Below.refl _ _)
  rw [if_neg h1] at hRW
  have g1 : decide (((str s).size : Int) < (z : Int)) = false := decide_eq_false (by omega)
  have g1' : decide ((str s).size < z) = false := decide_eq_false (by omega)
  have hzS : z ≤ (str s).size := by omega
  have hzSI : (z : Int) ≤ ((str s).size : Int) := by omega
  have hX : (str s).extract 0 z = str (s.take z) := by have := str_cut s 0 z; rw [Nat.zero_add] at this; simpa using this
  have HX2 := Lib.hid (str_drop s z)
  have hO := fun W => mof_any (str (s.take z)) many W (by rw [str_size, List.length_take]; unfold maxLen; omega)
  rw [str_data, ← hX] at hO
  obtain ⟨m, em, hme⟩ : ∃ m em, mofR (s.take z) many = (m, em) := ⟨_, _, rfl⟩
  have hml : m.length ≤ 64 := by
    have := unp_len (s.take z) many 1
    have e2 : m = ofOnes (unpR (s.take z) many 1).1 := by have := congrArg Prod.fst hme; exact this.symm
    rw [e2]; unfold ofOnes; rw [List.length_map]; exact this
  rw [hme] at hO hRW
  unfold MarkPost at hO
  simp only at hO hRW
  have HO := Lib.hid hO
  have HC := Lib.hid (fun W a c (h : Bools W W.heap.size a m) => count_any a c m W _ (by unfold maxLen; omega) h)
  unfold IntPost at HC
  clear hX hO hme
  by_cases h2 : em = 0
  · subst h2
    rw [if_neg (by simp)] at hRW
    by_cases h3 : M.cnt m = there
    · rw [if_neg (by simpa using h3)] at hRW
      have g3 : ((there : Int) != (there : Int)) = false := by simp
      rw [h3] at HC
      rw [hRW]
      unfold WhichPost
      simp only
      rw [← HX2.out]
      generalize str s = S at *
      clear hRW hs hsz hz h1 HX2 h3
      go_enter Tryz.func60, Tryz.ntmps60
      go_wp2_with fail
      refine (HO.out _).mono ?_
      rintro e w1 ⟨a1, c1, rfl, hn, hb1⟩
      go_wp2_with fail
      refine (HC.out _ _ _ hn).mono ?_
      rintro e w2 ⟨rfl, rfl⟩
      go_wp2_with fail
      go_quiet (fail)
      go_wp2_with fail
      go_ret3
      exact ⟨a1, c1, rfl, hn.next (below_drewN (Below.refl _ _) _), below_drewN hb1 _⟩
    · rw [if_pos h3] at hRW
      have HRE := Lib.hid hRW
      have g3 : ((M.cnt m : Int) != (there : Int)) = true := by rw [bne_iff_ne]; omega
      generalize M.cnt m = q at *
      generalize str s = S at *
      clear hRW hs hsz hz h1 HX2 h3
      go_enter Tryz.func60, Tryz.ntmps60
      go_wp2_with fail
      refine (HO.out _).mono ?_
      rintro e w1 ⟨a1, c1, rfl, hn, hb1⟩
      go_wp2_with fail
      refine (HC.out _ _ _ hn).mono ?_
      rintro e w2 ⟨rfl, rfl⟩
      go_wp2_with fail
      go_ret3
      rw [HRE.out]
      exact WhichPost.none 1 hb1
  · rw [if_pos h2] at hRW
    have HRE := Lib.hid hRW
    have g2 : ((em : Int) != 0) = true := by rw [bne_iff_ne]; omega
    generalize str s = S at *
    clear hRW hs hsz hz h1 h2
    go_enter Tryz.func60, Tryz.ntmps60
    go_wp2_with fail
    refine (HO.out _).mono ?_
    rintro e w1 ⟨a1, c1, rfl, hn, hb1⟩
    go_wp2_with fail
    go_ret3
    rw [HRE.out]
    exact WhichPost.none em hb1
end Go.Proofs.YtcachhnhncodoaaGreat
