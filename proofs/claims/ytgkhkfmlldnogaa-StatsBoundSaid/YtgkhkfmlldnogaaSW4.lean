/- The walk of stats.Merge. -/
import Derived.Test.YtgkhkfmlldnogaaSW3
import Derived.Test.YtgkhkfmlldnogaaSR3
namespace Go.Proofs.Ytgkhkfmlldnogaa
open Go.RowKit
set_option linter.unusedVariables false

theorem wd_plus {k : Int} {a b : S.St} (ha : S.Ok k a) (hb : S.Ok k b) : wdR a.least a.most b.least b.most = (S.lo a.least b.least, S.hi a.most b.most) := by
  have hk := ha.kind
  have e1 : a.least.kind = 0 ↔ a.most.kind = 0 := by
    rcases ha.st with ⟨_, p, q⟩ | ⟨_, p, q⟩
    · rw [p, q]
    · rw [p, q]
  have e2 : b.least.kind = 0 ↔ b.most.kind = 0 := by
    rcases hb.st with ⟨_, p, q⟩ | ⟨_, p, q⟩
    · rw [p, q]
    · rw [p, q]
  unfold wdR S.lo S.hi
  by_cases h1 : a.least.kind = 0
  · rw [if_pos h1, if_pos h1, if_pos (e1.1 h1)]
  · have h1' : ¬ a.most.kind = 0 := fun e => h1 (e1.2 e)
    rw [if_neg h1, if_neg h1, if_neg h1']
    by_cases h2 : b.least.kind = 0
    · rw [if_pos h2, if_pos h2, if_pos (e2.1 h2)]
    · have h2' : ¬ b.most.kind = 0 := fun e => h2 (e2.2 e)
      rw [if_neg h2, if_neg h2, if_neg h2']

set_option maxHeartbeats 4000000 in
set_option maxRecDepth 100000 in
theorem smerge_any (k : Int) (a b : S.St) (w : World) (ha : sOk a) (hb : sOk b) :
    Calls Try.prog 14 #[.int .i64 k, sag a, sag b] w (StEPost (S.mg k a b) w) := by
  have HCA := Lib.hid (fun W => scheck_any k a W ha)
  have HCB := Lib.hid (fun W => scheck_any k b W hb)
  have HN := Lib.hid (oct3 w (sx a) (sx b) s0)
  obtain ⟨hA, hB, hG, hbel⟩ := HN.out _ rfl
  have hGw : w.heap.size ≤ w.heap.size + 1 + 1 := by omega
  have HW := Lib.hid (fun W => wider_any a.least a.most b.least b.most W)
  have HT := Lib.hid (fun r n x y W => told_any r n x y W)
  have HA := Lib.hid hA
  have HB := Lib.hid hB
  have HG := Lib.hid hG
  have HBEL := Lib.hid hbel
  clear HN hA hB hG hbel ha hb
  have HMG := Lib.hid (show S.mg k a b = if S.ck k a ≠ 0 then (S.zero, S.ck k a) else if S.ck k b ≠ 0 then (S.zero, S.ck k b) else if 128 < a.rows + b.rows then (S.zero, 2) else (S.plus a b, 0) from rfl)
  have HWP := Lib.hid (fun (h1 : S.ck k a = 0) (h2 : S.ck k b = 0) => wd_plus (S.ck_ok h1) (S.ck_ok h2))
  have HOK := Lib.hid (fun (h1 : S.ck k a = 0) (h2 : S.ck k b = 0) => (show 0 ≤ a.rows ∧ a.rows ≤ 128 ∧ 0 ≤ b.rows ∧ b.rows ≤ 128 ∧ 0 ≤ a.nulls ∧ a.nulls ≤ a.rows ∧ 0 ≤ b.nulls ∧ b.nulls ≤ b.rows from ⟨(S.ck_ok h1).r0, (S.ck_ok h1).r1, (S.ck_ok h2).r0, (S.ck_ok h2).r1, (S.ck_ok h1).n0, (S.ck_ok h1).n1, (S.ck_ok h2).n0, (S.ck_ok h2).n1⟩))
  have HPL := Lib.hid (show S.plus a b = ⟨a.rows + b.rows, a.nulls + b.nulls, S.lo a.least b.least, S.hi a.most b.most⟩ from rfl)
  generalize S.mg k a b = R at *
  generalize S.ck k a = ea at *
  generalize S.ck k b = eb at *
  generalize S.plus a b = PL at *
  generalize S.lo a.least b.least = L at *
  generalize S.hi a.most b.most = M at *
  generalize wdR a.least a.most b.least b.most = WD at *
  unfold sag at HCA HCB ⊢
  unfold sx at HA HB HG HBEL
  unfold EndsPost eag at HW
  generalize a.rows = ar at *
  generalize b.rows = br at *
  generalize a.nulls = an at *
  generalize b.nulls = bn at *
  generalize str a.least.txt = alx at *
  generalize str a.most.txt = amx at *
  generalize str b.least.txt = blx at *
  generalize str b.most.txt = bmx at *
  generalize a.least.kind = alk at *
  generalize a.least.num = aln at *
  generalize a.most.kind = amk at *
  generalize a.most.num = amn at *
  generalize b.least.kind = blk at *
  generalize b.least.num = bln at *
  generalize b.most.kind = bmk at *
  generalize b.most.num = bmn at *
  obtain ⟨x0, x1, x2, x3, x4, x5, x6, x7⟩ := HA.out.cells
  obtain ⟨y0, y1, y2, y3, y4, y5, y6, y7⟩ := HB.out.cells
  go_enter Try.func14, Try.ntmps14
  go_wp2_with fail
  go_loopw [9, 10, 15] (fun _ _ i wr => ∃ j : Nat, j ≤ 2 ∧ i = .int .i64 j ∧ Below w.heap.size w wr ∧ Oct wr w.heap.size [.int .i64 ar, .int .i64 an, .int .i64 alk, .int .u64 (aln : Int), .string alx, .int .i64 amk, .int .u64 (amn : Int), .string amx] ∧ Oct wr (w.heap.size + 1) [.int .i64 br, .int .i64 bn, .int .i64 blk, .int .u64 (bln : Int), .string blx, .int .i64 bmk, .int .u64 (bmn : Int), .string bmx] ∧ Oct wr (w.heap.size + 1 + 1) s0 ∧ (ea ≠ 0 → j = 0) ∧ (eb ≠ 0 → j ≤ 1)) (fun _ _ i _ => 2 - (intOf i).toNat)
  case atStart => exact ⟨0, by omega, rfl, HBEL.out, HA.out, HB.out, HG.out, fun _ => rfl, fun _ => by omega⟩
  case round =>
    clear HBEL HA HB HG x0 x1 x2 x3 x4 x5 x6 x7 y0 y1 y2 y3 y4 y5 y6 y7
    obtain ⟨j, hj, rfl, hbw, hA, hB, hG, hea, heb⟩ := hrel
    by_cases hj0 : j = 0
    · subst hj0
      clear hea heb hj
      have ix : ∀ w : World, (Instr.index 55 (.agg #[.int .i64 ar, .int .i64 an, .int .i64 alk, .int .u64 (aln : Int), .string alx, .int .i64 amk, .int .u64 (amn : Int), .string amx, .int .i64 br, .int .i64 bn, .int .i64 blk, .int .u64 (bln : Int), .string blx, .int .i64 bmk, .int .u64 (bmn : Int), .string bmx]) (.int .i64 0)).run Try.prog w = .ok (.agg #[.int .i64 ar, .int .i64 an, .int .i64 alk, .int .u64 (aln : Int), .string alx, .int .i64 amk, .int .u64 (amn : Int), .string amx]) w := fun _ => by kernel_rfl
      have HAL := Lib.hid (hbw.alloc hbw.size (.cells #[.int .i64 ar, .int .i64 an, .int .i64 alk, .int .u64 (aln : Int), .string alx, .int .i64 amk, .int .u64 (amn : Int), .string amx] 27))
      have al := (Below.refl wr.heap.size wr).alloc (Nat.le_refl _) (.cells #[.int .i64 ar, .int .i64 an, .int .i64 alk, .int .u64 (aln : Int), .string alx, .int .i64 amk, .int .u64 (amn : Int), .string amx] 27)
      have HA1 := Lib.hid (hA.next al)
      have HB1 := Lib.hid (hB.next al)
      have HG1 := Lib.hid (hG.next al)
      clear al hA hB hG hbw
      by_cases h : ea ≠ 0
      · have g1 : ((ea : Int) != 0) = true := by rw [bne_iff_ne]; omega
        have HR := Lib.hid (show (.tuple #[sag R.1, .int .i64 (R.2 : Nat)] : Value) = .tuple #[.agg #[.int .i64 0, .int .i64 0, .int .i64 0, .int .u64 0, .string ⟨#[]⟩, .int .i64 0, .int .u64 0, .string ⟨#[]⟩], .int .i64 (ea : Nat)] by rw [HMG.out, if_pos h]; rfl)
        clear h
        go_wp2_with fail
        refine (HCA.out _).mono ?_
        rintro e w1 ⟨rfl, hb1⟩
        obtain ⟨⟨a0, a1, a2, a3, a4, a5, a6, a7⟩, ⟨b0, b1, b2, b3, b4, b5, b6, b7⟩, ⟨t0, t1, t2, t3, t4, t5, t6, t7⟩, _⟩ := (HG1.out.next hb1).store (.int .i64 0) (.int .i64 0) (.int .i64 0) (.int .u64 0) (.string ⟨#[]⟩) (.int .i64 0) (.int .u64 0) (.string ⟨#[]⟩)
        have HF := Lib.hid (Oct.below (below_then HAL.out hb1) hGw (.int .i64 0) (.int .i64 0) (.int .i64 0) (.int .u64 0) (.string ⟨#[]⟩) (.int .i64 0) (.int .u64 0) (.string ⟨#[]⟩))
        clear hb1
        go_wp2_with fail
        refine bodyPost_ret (v := .tuple #[.agg #[.int .i64 0, .int .i64 0, .int .i64 0, .int .u64 0, .string ⟨#[]⟩, .int .i64 0, .int .u64 0, .string ⟨#[]⟩], .int .i64 (ea : Nat)]) (by simp [results, Try.results14, go_sem, t0, t1, t2, t3, t4, t5, t6, t7]) rfl ⟨by rw [HR.out], HF.out⟩
      · have h' : ea = 0 := Classical.not_not.1 h
        rw [h'] at HCA
        clear h
        go_wp2_with fail
        refine (HCA.out _).mono ?_
        rintro e w1 ⟨rfl, hb1⟩
        have hA1 := HA1.out.next hb1
        have hB1 := HB1.out.next hb1
        have hG1 := HG1.out.next hb1
        have hb2 := below_then HAL.out hb1
        go_wp2_with fail
        exact ⟨⟨1, by omega, rfl, hb2, hA1, hB1, hG1, by omega, by omega⟩, by simp [intOf]⟩
    by_cases hj1 : j = 1
    · subst hj1
      have he : ea = 0 := Classical.byContradiction fun h => by have := hea h; omega
      clear hea heb hj hj0
      have ix : ∀ w : World, (Instr.index 55 (.agg #[.int .i64 ar, .int .i64 an, .int .i64 alk, .int .u64 (aln : Int), .string alx, .int .i64 amk, .int .u64 (amn : Int), .string amx, .int .i64 br, .int .i64 bn, .int .i64 blk, .int .u64 (bln : Int), .string blx, .int .i64 bmk, .int .u64 (bmn : Int), .string bmx]) (.int .i64 1)).run Try.prog w = .ok (.agg #[.int .i64 br, .int .i64 bn, .int .i64 blk, .int .u64 (bln : Int), .string blx, .int .i64 bmk, .int .u64 (bmn : Int), .string bmx]) w := fun _ => by kernel_rfl
      have HAL := Lib.hid (hbw.alloc hbw.size (.cells #[.int .i64 br, .int .i64 bn, .int .i64 blk, .int .u64 (bln : Int), .string blx, .int .i64 bmk, .int .u64 (bmn : Int), .string bmx] 27))
      have al := (Below.refl wr.heap.size wr).alloc (Nat.le_refl _) (.cells #[.int .i64 br, .int .i64 bn, .int .i64 blk, .int .u64 (bln : Int), .string blx, .int .i64 bmk, .int .u64 (bmn : Int), .string bmx] 27)
      have HA1 := Lib.hid (hA.next al)
      have HB1 := Lib.hid (hB.next al)
      have HG1 := Lib.hid (hG.next al)
      clear al hA hB hG hbw
      by_cases h : eb ≠ 0
      · have g1 : ((eb : Int) != 0) = true := by rw [bne_iff_ne]; omega
        have HR := Lib.hid (show (.tuple #[sag R.1, .int .i64 (R.2 : Nat)] : Value) = .tuple #[.agg #[.int .i64 0, .int .i64 0, .int .i64 0, .int .u64 0, .string ⟨#[]⟩, .int .i64 0, .int .u64 0, .string ⟨#[]⟩], .int .i64 (eb : Nat)] by rw [HMG.out, if_neg (show ¬ (ea ≠ 0) by omega), if_pos h]; rfl)
        clear h
        go_wp2_with fail
        refine (HCB.out _).mono ?_
        rintro e w1 ⟨rfl, hb1⟩
        obtain ⟨⟨a0, a1, a2, a3, a4, a5, a6, a7⟩, ⟨b0, b1, b2, b3, b4, b5, b6, b7⟩, ⟨t0, t1, t2, t3, t4, t5, t6, t7⟩, _⟩ := (HG1.out.next hb1).store (.int .i64 0) (.int .i64 0) (.int .i64 0) (.int .u64 0) (.string ⟨#[]⟩) (.int .i64 0) (.int .u64 0) (.string ⟨#[]⟩)
        have HF := Lib.hid (Oct.below (below_then HAL.out hb1) hGw (.int .i64 0) (.int .i64 0) (.int .i64 0) (.int .u64 0) (.string ⟨#[]⟩) (.int .i64 0) (.int .u64 0) (.string ⟨#[]⟩))
        clear hb1
        go_wp2_with fail
        refine bodyPost_ret (v := .tuple #[.agg #[.int .i64 0, .int .i64 0, .int .i64 0, .int .u64 0, .string ⟨#[]⟩, .int .i64 0, .int .u64 0, .string ⟨#[]⟩], .int .i64 (eb : Nat)]) (by simp [results, Try.results14, go_sem, t0, t1, t2, t3, t4, t5, t6, t7]) rfl ⟨by rw [HR.out], HF.out⟩
      · have h' : eb = 0 := Classical.not_not.1 h
        rw [h'] at HCB
        clear h
        go_wp2_with fail
        refine (HCB.out _).mono ?_
        rintro e w1 ⟨rfl, hb1⟩
        have hA1 := HA1.out.next hb1
        have hB1 := HB1.out.next hb1
        have hG1 := HG1.out.next hb1
        have hb2 := below_then HAL.out hb1
        go_wp2_with fail
        exact ⟨⟨2, by omega, rfl, hb2, hA1, hB1, hG1, by omega, by omega⟩, by simp [intOf]⟩
    obtain rfl : j = 2 := by omega
    have he : ea = 0 := Classical.byContradiction fun h => by have := hea h; omega
    have he2 : eb = 0 := Classical.byContradiction fun h => by have := heb h; omega
    clear hj hj0 hj1 hea heb
    subst he
    subst he2
    rw [HWP.out rfl rfl] at HW
    simp only at HW
    obtain ⟨ra0, ra1, rb0, rb1, na0, na1, nb0, nb1⟩ := HOK.out rfl rfl
    have hw1 : IntKind.i64.wrap (ar + br) = ar + br := by rw [IntKind.wrap_i64]; omega
    have hw2 : IntKind.i64.wrap (an + bn) = an + bn := by rw [IntKind.wrap_i64]; omega
    have hR := HMG.out
    rw [if_neg (by simp), if_neg (by simp)] at hR
    clear HCA HCB HWP HOK HMG
    obtain ⟨x0, x1, x2, x3, x4, x5, x6, x7⟩ := hA.cells
    obtain ⟨y0, y1, y2, y3, y4, y5, y6, y7⟩ := hB.cells
    have HA1 := Lib.hid hA
    have HB1 := Lib.hid hB
    clear hA hB
    by_cases h3 : 128 < ar + br
    · rw [if_pos h3] at hR
      have HR := Lib.hid (show (.tuple #[sag R.1, .int .i64 (R.2 : Nat)] : Value) = .tuple #[.agg #[.int .i64 0, .int .i64 0, .int .i64 0, .int .u64 0, .string ⟨#[]⟩, .int .i64 0, .int .u64 0, .string ⟨#[]⟩], .int .i64 2] by rw [hR]; rfl)
      have g3 : decide (128 < ar + br) = true := decide_eq_true h3
      obtain ⟨⟨a0, a1, a2, a3, a4, a5, a6, a7⟩, ⟨b0, b1, b2, b3, b4, b5, b6, b7⟩, ⟨t0, t1, t2, t3, t4, t5, t6, t7⟩, _⟩ := hG.store (.int .i64 0) (.int .i64 0) (.int .i64 0) (.int .u64 0) (.string ⟨#[]⟩) (.int .i64 0) (.int .u64 0) (.string ⟨#[]⟩)
      have HF := Lib.hid (Oct.below hbw hGw (.int .i64 0) (.int .i64 0) (.int .i64 0) (.int .u64 0) (.string ⟨#[]⟩) (.int .i64 0) (.int .u64 0) (.string ⟨#[]⟩))
      clear hR h3 hG hbw
      go_wp2_with fail
      refine bodyPost_ret (v := .tuple #[.agg #[.int .i64 0, .int .i64 0, .int .i64 0, .int .u64 0, .string ⟨#[]⟩, .int .i64 0, .int .u64 0, .string ⟨#[]⟩], .int .i64 2]) (by simp [results, Try.results14, go_sem, t0, t1, t2, t3, t4, t5, t6, t7]) rfl ⟨by rw [HR.out], HF.out⟩
    rw [if_neg h3] at hR
    have g3 : decide (128 < ar + br) = false := decide_eq_false h3
    have HR := Lib.hid (show (.tuple #[sag R.1, .int .i64 (R.2 : Nat)] : Value) = .tuple #[.agg #[.int .i64 (ar + br), .int .i64 (an + bn), .int .i64 L.kind, .int .u64 (L.num : Int), .string (str L.txt), .int .i64 M.kind, .int .u64 (M.num : Int), .string (str M.txt)], .int .i64 0] by rw [hR]; simp only; rw [HPL.out]; rfl)
    have HT1 := Lib.hid (fun W => HT.out (ar + br) (an + bn) L M W)
    unfold StPost sag eag at HT1
    simp only at HT1
    generalize L.kind = lk at *
    generalize L.num = ln at *
    generalize str L.txt = lx at *
    generalize M.kind = mk at *
    generalize M.num = mn at *
    generalize str M.txt = mx at *
    have HG1 := Lib.hid hG
    have HBW := Lib.hid hbw
    clear hR h3 hG hbw HT HPL ra0 ra1 rb0 rb1 na0 na1 nb0 nb1
    go_wp2_with fail
    refine (HW.out _).mono ?_
    rintro e w4 ⟨rfl, hb4⟩
    clear x0 x1 x2 x3 x4 x5 x6 x7 y0 y1 y2 y3 y4 y5 y6 y7
    have al := (Below.refl w4.heap.size w4).alloc (Nat.le_refl _) (.cells #[.int .i64 lk, .int .u64 (ln : Int), .string lx, .int .i64 mk, .int .u64 (mn : Int), .string mx] 46)
    obtain ⟨x0, x1, x2, x3, x4, x5, x6, x7⟩ := ((HA1.out.next hb4).next al).cells
    obtain ⟨y0, y1, y2, y3, y4, y5, y6, y7⟩ := ((HB1.out.next hb4).next al).cells
    have HG2 := Lib.hid ((HG1.out.next hb4).next al)
    have HB2 := Lib.hid (below_then (below_then HBW.out hb4) al)
    clear hb4 al
    go_wp2_with fail
    refine (HT1.out _).mono ?_
    rintro e w5 ⟨rfl, hb5⟩
    clear x0 x1 x2 x3 x4 x5 x6 x7 y0 y1 y2 y3 y4 y5 y6 y7
    obtain ⟨⟨a0, a1, a2, a3, a4, a5, a6, a7⟩, ⟨b0, b1, b2, b3, b4, b5, b6, b7⟩, ⟨t0, t1, t2, t3, t4, t5, t6, t7⟩, _⟩ := (HG2.out.next hb5).store (.int .i64 (ar + br)) (.int .i64 (an + bn)) (.int .i64 lk) (.int .u64 (ln : Int)) (.string lx) (.int .i64 mk) (.int .u64 (mn : Int)) (.string mx)
    have HF := Lib.hid (Oct.below (below_then HB2.out hb5) hGw (.int .i64 (ar + br)) (.int .i64 (an + bn)) (.int .i64 lk) (.int .u64 (ln : Int)) (.string lx) (.int .i64 mk) (.int .u64 (mn : Int)) (.string mx))
    clear hb5
    go_wp2_with fail
    refine bodyPost_ret (v := .tuple #[.agg #[.int .i64 (ar + br), .int .i64 (an + bn), .int .i64 lk, .int .u64 (ln : Int), .string lx, .int .i64 mk, .int .u64 (mn : Int), .string mx], .int .i64 0]) (by simp [results, Try.results14, go_sem, t0, t1, t2, t3, t4, t5, t6, t7]) rfl ⟨by rw [HR.out], HF.out⟩
end Go.Proofs.Ytgkhkfmlldnogaa
