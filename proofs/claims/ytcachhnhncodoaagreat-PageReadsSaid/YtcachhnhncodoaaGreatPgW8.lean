/- The walk of page.cells. -/
import Derived.Test.YtcachhnhncodoaaGreatPgW8a
import Derived.Test.YtcachhnhncodoaaGreatPgW7
import Derived.Test.YtcachhnhncodoaaGreatPgW2
import Derived.Test.YtcachhnhncodoaaGreatP10
namespace Go.Proofs.YtcachhnhncodoaaGreat
open Go.RowKit
set_option linter.unusedVariables false

theorem JoinPost.none_ {w w' : World} (er : Nat) (h : Below w.heap.size w w') : JoinPost ([], er) w (.returned (.tuple #[.slice Option.none 0 0, .int .i64 er])) w' :=
  ⟨.slice Option.none 0 0, rfl, cnilRow _ _, h⟩

set_option maxHeartbeats 1000000 in
set_option maxRecDepth 100000 in
theorem pcells_any (k : Int) (hk : k = 1 ∨ k = 2) (s : List UInt8) (w : World) (hs : s.length ≤ maxLen) :
    Calls Tryz.prog 29 #[.string (str s), .int .i64 k] w (JoinPost (Pg.cellsR k s) w) := by
  have hC1 := pcount_any s 64 2 w hs (by omega) (by omega)
  have hcc := Pg.cells_cnt k s
  obtain ⟨many, s1, e1, h1⟩ : ∃ many s1 e1, cntR s 64 2 = (many, s1, e1) := ⟨_, _, _, rfl⟩
  rw [h1] at hC1 hcc
  unfold CntPost at hC1
  simp only at hC1 hcc
  have HC1 := Lib.hid hC1
  clear hC1
  by_cases g1 : e1 ≠ 0
  · rw [if_pos g1] at hcc
    have HRE := Lib.hid hcc
    have gg1 : ((e1 : Int) != 0) = true := by rw [bne_iff_ne]; omega
    generalize str s = S at *
    clear hcc h1 hs
    go_enter Tryz.func29, Tryz.ntmps29
    go_wp2_with fail
    refine (HC1.out).mono ?_
    rintro e w1 ⟨rfl, hb1⟩
    go_wp2_with fail
    go_ret2
    rw [HRE.out]; exact JoinPost.none_ e1 hb1
  obtain rfl : e1 = 0 := Classical.not_not.1 g1
  rw [if_neg g1] at hcc
  obtain ⟨hm64, hl1⟩ := Pg.cnt_facts h1 (by omega)
  have hs1 : s1.length ≤ maxLen := by omega
  have hC2 := fun W => pcount_any s1 many 4 W hs1 hm64 (by omega)
  obtain ⟨there, s2, e2, h2⟩ : ∃ there s2 e2, cntR s1 many 4 = (there, s2, e2) := ⟨_, _, _, rfl⟩
  rw [h2] at hC2 hcc
  unfold CntPost at hC2
  simp only at hC2 hcc
  have HC2 := Lib.hid hC2
  clear hC2
  by_cases g2 : e2 ≠ 0
  · rw [if_pos g2] at hcc
    have HRE := Lib.hid hcc
    have gg2 : ((e2 : Int) != 0) = true := by rw [bne_iff_ne]; omega
    generalize str s1 = S1 at *
    generalize str s = S at *
    clear hcc h1 h2 hs
    go_enter Tryz.func29, Tryz.ntmps29
    go_wp2_with fail
    refine (HC1.out).mono ?_
    rintro e w1 ⟨rfl, hb1⟩
    go_wp2_with fail
    refine (HC2.out _).mono ?_
    rintro e w2 ⟨rfl, hb2⟩
    go_wp2_with fail
    go_ret2
    rw [HRE.out]; exact JoinPost.none_ e2 (below_then hb1 hb2)
  obtain rfl : e2 = 0 := Classical.not_not.1 g2
  rw [if_neg g2] at hcc
  obtain ⟨htm, hl2⟩ := Pg.cnt_facts h2 (by omega)
  have hs2 : s2.length ≤ maxLen := by omega
  have hW := fun W => pwhich_any s2 many there W hs2 hm64 htm
  obtain ⟨m, s3, e3, h3⟩ : ∃ m s3 e3, Pg.whichR s2 many there = (m, s3, e3) := ⟨_, _, _, rfl⟩
  rw [h3] at hW hcc
  unfold WhichPost at hW
  simp only at hW
  unfold Pg.restR at hcc
  simp only at hcc
  have HW := Lib.hid hW
  clear hW
  by_cases g3 : e3 ≠ 0
  · rw [if_pos g3] at hcc
    have HRE := Lib.hid hcc
    have gg3 : ((e3 : Int) != 0) = true := by rw [bne_iff_ne]; omega
    generalize str s2 = S2 at *
    generalize str s1 = S1 at *
    generalize str s = S at *
    clear hcc h1 h2 h3 hs
    go_enter Tryz.func29, Tryz.ntmps29
    go_wp2_with fail
    refine (HC1.out).mono ?_
    rintro e w1 ⟨rfl, hb1⟩
    go_wp2_with fail
    refine (HC2.out _).mono ?_
    rintro e w2 ⟨rfl, hb2⟩
    go_wp2_with fail
    refine (HW.out _).mono ?_
    rintro e w3 ⟨am, cm, rfl, hM, hb3⟩
    go_wp2_with fail
    go_ret2
    rw [HRE.out]; exact JoinPost.none_ e3 (below_then (below_then hb1 hb2) hb3)
  obtain rfl : e3 = 0 := Classical.not_not.1 g3
  rw [if_neg g3] at hcc
  obtain ⟨hml, hcnt, hl3⟩ := Pg.which_facts h3 hm64
  have hs3 : s3.length ≤ maxLen := by omega
  have hsz3 := str_size s3
  by_cases g4 : there = 0
  · rw [if_pos g4] at hcc
    subst g4
    by_cases g5 : s3 ≠ []
    · rw [if_pos g5] at hcc
      have HRE := Lib.hid hcc
      have gg5 := empty_false (str s3) (by rw [hsz3]; intro e; exact g5 (List.eq_nil_of_length_eq_zero e))
      generalize str s3 = S3 at *
      generalize str s2 = S2 at *
      generalize str s1 = S1 at *
      generalize str s = S at *
      clear hcc h1 h2 h3 hs g5 hsz3 hml hcnt
      go_enter Tryz.func29, Tryz.ntmps29
      go_wp2_with fail
      refine (HC1.out).mono ?_
      rintro e w1 ⟨rfl, hb1⟩
      go_wp2_with fail
      refine (HC2.out _).mono ?_
      rintro e w2 ⟨rfl, hb2⟩
      go_wp2_with fail
      refine (HW.out _).mono ?_
      rintro e w3 ⟨am, cm, rfl, hM, hb3⟩
      go_wp2_with fail
      go_ret2
      rw [HRE.out]; exact JoinPost.none_ 1 (below_then (below_then hb1 hb2) hb3)
    · rw [if_neg g5] at hcc
      obtain rfl : s3 = [] := Classical.not_not.1 g5
      have HRE := Lib.hid hcc
      have gg5 := empty_true (str ([] : List UInt8)) rfl
      obtain ⟨i0, hi, hz0, hz1, hz2⟩ := info_parts info_cell
      generalize str ([] : List UInt8) = S3 at *
      generalize str s2 = S2 at *
      generalize str s1 = S1 at *
      generalize str s = S at *
      clear hcc h1 h2 h3 hs g5 hsz3 hml hcnt
      go_enter Tryz.func29, Tryz.ntmps29
      go_wp2_with fail
      refine (HC1.out).mono ?_
      rintro e w1 ⟨rfl, hb1⟩
      go_wp2_with fail
      refine (HC2.out _).mono ?_
      rintro e w2 ⟨rfl, hb2⟩
      go_wp2_with fail
      refine (HW.out _).mono ?_
      rintro e w3 ⟨am, cm, rfl, hM, hb3⟩
      have h3b := below_then (below_then hb1 hb2) hb3
      go_wp2_with (at_make; refine wpList_make_full _ rfl _ _ 22 rfl w3.heap.size 50 i0 (.agg #[.int .i64 0, .int .u64 0, .string ByteArray.empty]) 3 Tryz.underlying22 hi hz0 hz1 .i64 .i64 _ _ many rfl rfl rfl rfl (by rw [hz2]; omega) (by unfold maxLen; omega) (Nat.le_refl _) ?_; intro w0 hown0 hgrow0)
      have hb0 : Below w3.heap.size w3 w0 := (Below.refl _ _).grown hgrow0 (Nat.le_refl _) (fun k hk => by cases hk)
      have hrow0 := made_crow hown0
      clear hown0 hgrow0
      go_wp2_with fail
      go_ret2
      rw [HRE.out]
      exact ⟨_, rfl, hrow0.weak h3b.size, below_then h3b hb0⟩
  rw [if_neg g4] at hcc
  have gg4 : ((there : Int) == 0) = false := by rw [beq_eq_false_iff_ne]; omega
  have hT := fun W => ptold_any s3 k hk there W hs3 (by omega)
  by_cases g6 : (Pg.toldR s3 k there).2 ≠ 0
  · rw [if_pos g6] at hcc
    unfold JoinPost at hT
    have HT := Lib.hid hT
    have HRE := Lib.hid hcc
    generalize (Pg.toldR s3 k there).2 = e4 at *
    generalize (Pg.toldR s3 k there).1 = cs at *
    have gg6 : ((e4 : Int) != 0) = true := by rw [bne_iff_ne]; omega
    generalize str s3 = S3 at *
    generalize str s2 = S2 at *
    generalize str s1 = S1 at *
    generalize str s = S at *
    clear hcc h1 h2 h3 hs hsz3 hT hml hcnt
    go_enter Tryz.func29, Tryz.ntmps29
    go_wp2_with fail
    refine (HC1.out).mono ?_
    rintro e w1 ⟨rfl, hb1⟩
    go_wp2_with fail
    refine (HC2.out _).mono ?_
    rintro e w2 ⟨rfl, hb2⟩
    go_wp2_with fail
    refine (HW.out _).mono ?_
    rintro e w3 ⟨am, cm, rfl, hM, hb3⟩
    have h3b := below_then (below_then hb1 hb2) hb3
    go_wp2_with fail
    refine (HT.out _).mono ?_
    rintro e w4 ⟨v4, rfl, hrow4, hb4⟩
    go_wp2_with fail
    go_ret2
    rw [HRE.out]; exact JoinPost.none_ e4 (below_then h3b hb4)
  rw [if_neg g6] at hcc
  have g6' : (Pg.toldR s3 k there).2 = 0 := Classical.not_not.1 g6
  obtain ⟨f1, f2, f3, f4⟩ := Pg.told_ok hk (by omega) g6'
  have hjt := Pg.join_told hk (by omega) g6' (m := m) (by omega) hcnt
  unfold JoinPost at hT
  rw [g6'] at hT
  have HT := Lib.hid hT
  have HJ := Lib.hid (fun W am cm ac cc (hM : Bools W W.heap.size am m) (hq : (Pg.toldR s3 k there).1.length ≤ cc ∧ cc ≤ maxLen ∧ (ac = none → cc = 0)) (hc : Cls W W.heap.size ac (Pg.toldR s3 k there).1) => njoin_any k am cm m ac cc (Pg.toldR s3 k there).1 W (by unfold maxLen; omega) hM (by rw [f1]; unfold maxLen; omega) hq f4 hc)
  rw [hjt] at HJ
  have HRE := Lib.hid hcc
  unfold JoinPost at HJ
  simp only at HJ
  generalize C.join m (Pg.toldR s3 k there).1 = out at *
  generalize (Pg.toldR s3 k there).1 = cs at *
  generalize str s3 = S3 at *
  generalize str s2 = S2 at *
  generalize str s1 = S1 at *
  generalize str s = S at *
  clear hcc h1 h2 h3 hs hsz3 hT g6 g6' f1 f2 f3 f4 hjt hcnt hml
  go_enter Tryz.func29, Tryz.ntmps29
  go_wp2_with fail
  refine (HC1.out).mono ?_
  rintro e w1 ⟨rfl, hb1⟩
  go_wp2_with fail
  refine (HC2.out _).mono ?_
  rintro e w2 ⟨rfl, hb2⟩
  go_wp2_with fail
  refine (HW.out _).mono ?_
  rintro e w3 ⟨am, cm, rfl, hM, hb3⟩
  have h3b := below_then (below_then hb1 hb2) hb3
  go_wp2_with fail
  refine (HT.out _).mono ?_
  rintro e w4 ⟨v4, rfl, hrow4, hb4⟩
  obtain ⟨ad, cd, rfl, hD, hqd⟩ := cRow_cls hrow4
  have h4b := below_then h3b hb4
  go_wp2_with fail
  refine (HJ.out _ _ _ _ _ (hM.next hb4) hqd hD).mono ?_
  rintro e w5 ⟨v5, rfl, hrow5, hb5⟩
  go_wp2_with fail
  go_ret2
  rw [HRE.out]
  exact ⟨v5, rfl, hrow5.weak h4b.size, below_then h4b hb5⟩
end Go.Proofs.YtcachhnhncodoaaGreat
