/- The walk of hypostyleref.MergedOf. -/
import Derived.Test.YtgkhkfmlldnogaaSR1
import Derived.Test.YtgkhkfmlldnogaaSR2
namespace Go.Proofs.Ytgkhkfmlldnogaa
open Go.RowKit
set_option linter.unusedVariables false

abbrev s0 : List Value := [.int .i64 0, .int .i64 0, .int .i64 0, .int .u64 0, .string ByteArray.empty, .int .i64 0, .int .u64 0, .string ByteArray.empty]
theorem oct3 (w : World) (x y z : List Value) : ∀ W, W = ((w.alloc (.cells x.toArray 27)).alloc (.cells y.toArray 27)).alloc (.cells z.toArray 27) →
    Oct W w.heap.size x ∧ Oct W (w.heap.size + 1) y ∧ Oct W (w.heap.size + 1 + 1) z ∧ Below w.heap.size w W := by
  rintro W rfl
  have q1 := oct_new w x
  have b1 := (Below.refl w.heap.size w).alloc (Nat.le_refl _) (.cells x.toArray 27)
  have s1 : (w.alloc (.cells x.toArray 27)).heap.size = w.heap.size + 1 := by simp
  generalize w.alloc (.cells x.toArray 27) = w1 at *
  have q2 := oct_new w1 y
  have b2 := (Below.refl w1.heap.size w1).alloc (Nat.le_refl _) (.cells y.toArray 27)
  have s2 : (w1.alloc (.cells y.toArray 27)).heap.size = w.heap.size + 1 + 1 := by simp; omega
  rw [s1] at q2
  generalize w1.alloc (.cells y.toArray 27) = w2 at *
  have q3 := oct_new w2 z
  have b3 := (Below.refl w2.heap.size w2).alloc (Nat.le_refl _) (.cells z.toArray 27)
  rw [s2] at q3
  exact ⟨q1.next (below_then b2 b3), q2.next b3, q3, below_then (below_then b1 b2) b3⟩
theorem four_lit (w : World) (a b c d : C.Cl) : Cls (w.alloc (.cells #[.int .i64 a.kind, .int .u64 (a.num : Int), .string (str a.txt), .int .i64 b.kind, .int .u64 (b.num : Int), .string (str b.txt), .int .i64 c.kind, .int .u64 (c.num : Int), .string (str c.txt), .int .i64 d.kind, .int .u64 (d.num : Int), .string (str d.txt)] 25)) (w.alloc (.cells #[.int .i64 a.kind, .int .u64 (a.num : Int), .string (str a.txt), .int .i64 b.kind, .int .u64 (b.num : Int), .string (str b.txt), .int .i64 c.kind, .int .u64 (c.num : Int), .string (str c.txt), .int .i64 d.kind, .int .u64 (d.num : Int), .string (str d.txt)] 25)).heap.size (some ⟨w.heap.size, 0, none⟩) [a, b, c, d] := cls_lit w [a, b, c, d]

set_option maxHeartbeats 4000000 in
set_option maxRecDepth 100000 in
theorem mergedOf_any (k : Int) (a b : S.St) (w : World) (hk : -9223372036854775808 ≤ k ∧ k ≤ 9223372036854775807) (ha : sOk a) (hb : sOk b) :
    Calls Try.prog 15 #[.int .i64 k, sag a, sag b] w (StEPost (S.mg k a b) w) := by
  have HOK := Lib.hid (show ∀ t ∈ [a.least, a.most, b.least, b.most], cOk t from fun t ht => by
    simp only [List.mem_cons, List.not_mem_nil, or_false] at ht
    rcases ht with rfl | rfl | rfl | rfl
    · exact ha.2.2.1
    · exact ha.2.2.2
    · exact hb.2.2.1
    · exact hb.2.2.2)
  have HCA := Lib.hid (fun W => kcheck_any k a W hk ha)
  have HCB := Lib.hid (fun W => kcheck_any k b W hk hb)
  have HN := Lib.hid (oct3 w (sx a) (sx b) s0)
  have HKO := Lib.hid (fun x y z u (hx : ∀ t ∈ [x, y, z, u], cOk t) W => knownOf_any (some ⟨W.heap.size, 0, none⟩) 4 [x, y, z, u] _ (by simp) hx (four_lit W x y z u))
  obtain ⟨hA, hB, hG, hbel⟩ := HN.out _ rfl
  have hGw : w.heap.size ≤ w.heap.size + 1 + 1 := by omega
  have HA := Lib.hid hA
  have HB := Lib.hid hB
  have HG := Lib.hid hG
  have HBEL := Lib.hid hbel
  clear HN hA hB hG hbel ha hb
  unfold sag at HCA HCB ⊢
  unfold sx at HA HB HG HBEL
  by_cases h1 : S.ck k a ≠ 0
  · have HR := Lib.hid (show S.mg k a b = (S.zero, S.ck k a) from if_pos h1)
    generalize S.mg k a b = R at *
    generalize S.ck k a = er at *
    have g1 : ((er : Int) == 0) = false := by rw [beq_eq_false_iff_ne]; omega
    have g2 : ((er : Int) != 0) = true := by rw [bne_iff_ne]; omega
    clear h1 HKO
    go_enter Try.func15, Try.ntmps15
    go_wp2_with fail
    refine (HCA.out _).mono ?_
    rintro e w1 ⟨rfl, hb1⟩
    obtain ⟨⟨a0, a1, a2, a3, a4, a5, a6, a7⟩, ⟨b0, b1, b2, b3, b4, b5, b6, b7⟩, ⟨t0, t1, t2, t3, t4, t5, t6, t7⟩, _⟩ := (HG.out.next hb1).store (.int .i64 0) (.int .i64 0) (.int .i64 0) (.int .u64 0) (.string ⟨#[]⟩) (.int .i64 0) (.int .u64 0) (.string ⟨#[]⟩)
    have HF := Lib.hid (Oct.below (below_then HBEL.out hb1) hGw (.int .i64 0) (.int .i64 0) (.int .i64 0) (.int .u64 0) (.string ⟨#[]⟩) (.int .i64 0) (.int .u64 0) (.string ⟨#[]⟩))
    go_wp2_with fail
    refine bodyPost_ret (v := .tuple #[.agg #[.int .i64 0, .int .i64 0, .int .i64 0, .int .u64 0, .string ⟨#[]⟩, .int .i64 0, .int .u64 0, .string ⟨#[]⟩], .int .i64 er]) (by simp [results, Try.results15, go_sem, t0, t1, t2, t3, t4, t5, t6, t7]) rfl ⟨by rw [HR.out]; rfl, HF.out⟩
  have h1' : S.ck k a = 0 := Classical.not_not.1 h1
  rw [h1'] at HCA
  by_cases h2 : S.ck k b ≠ 0
  · have HR := Lib.hid (show S.mg k a b = (S.zero, S.ck k b) by unfold S.mg; rw [if_neg h1, if_pos h2])
    generalize S.mg k a b = R at *
    generalize S.ck k b = er at *
    have g1 : ((er : Int) == 0) = false := by rw [beq_eq_false_iff_ne]; omega
    have g2 : ((er : Int) != 0) = true := by rw [bne_iff_ne]; omega
    clear h1 h1' h2 HKO
    go_enter Try.func15, Try.ntmps15
    go_wp2_with fail
    refine (HCA.out _).mono ?_
    rintro e w1 ⟨rfl, hb1⟩
    obtain ⟨y0, y1, y2, y3, y4, y5, y6, y7⟩ := (HB.out.next hb1).cells
    go_wp2_with fail
    refine (HCB.out _).mono ?_
    rintro e w2 ⟨rfl, hb2⟩
    clear y0 y1 y2 y3 y4 y5 y6 y7
    obtain ⟨⟨a0, a1, a2, a3, a4, a5, a6, a7⟩, ⟨b0, b1, b2, b3, b4, b5, b6, b7⟩, ⟨t0, t1, t2, t3, t4, t5, t6, t7⟩, _⟩ := ((HG.out.next hb1).next hb2).store (.int .i64 0) (.int .i64 0) (.int .i64 0) (.int .u64 0) (.string ⟨#[]⟩) (.int .i64 0) (.int .u64 0) (.string ⟨#[]⟩)
    have HF := Lib.hid (Oct.below (below_then (below_then HBEL.out hb1) hb2) hGw (.int .i64 0) (.int .i64 0) (.int .i64 0) (.int .u64 0) (.string ⟨#[]⟩) (.int .i64 0) (.int .u64 0) (.string ⟨#[]⟩))
    go_wp2_with fail
    refine bodyPost_ret (v := .tuple #[.agg #[.int .i64 0, .int .i64 0, .int .i64 0, .int .u64 0, .string ⟨#[]⟩, .int .i64 0, .int .u64 0, .string ⟨#[]⟩], .int .i64 er]) (by simp [results, Try.results15, go_sem, t0, t1, t2, t3, t4, t5, t6, t7]) rfl ⟨by rw [HR.out]; rfl, HF.out⟩
  have h2' : S.ck k b = 0 := Classical.not_not.1 h2
  rw [h2'] at HCB
  have hoa := S.ck_ok h1'
  have hob := S.ck_ok h2'
  have ra0 := hoa.r0
  have ra1 := hoa.r1
  have rb0 := hob.r0
  have rb1 := hob.r1
  have na0 := hoa.n0
  have na1 := hoa.n1
  have nb0 := hob.n0
  have nb1 := hob.n1
  have hw1 : IntKind.i64.wrap (a.rows + b.rows) = a.rows + b.rows := by rw [IntKind.wrap_i64]; omega
  have hw2 : IntKind.i64.wrap (a.nulls + b.nulls) = a.nulls + b.nulls := by rw [IntKind.wrap_i64]; omega
  by_cases h3 : 128 < a.rows + b.rows
  · have HR := Lib.hid (show S.mg k a b = (S.zero, 2) by unfold S.mg; rw [if_neg h1, if_neg h2, if_pos h3])
    generalize S.mg k a b = R at *
    have g3 : decide (128 < a.rows + b.rows) = true := decide_eq_true h3
    clear h1 h1' h2 h2' h3 HKO hoa hob ra0 ra1 rb0 rb1 na0 na1 nb0 nb1
    go_enter Try.func15, Try.ntmps15
    go_wp2_with fail
    refine (HCA.out _).mono ?_
    rintro e w1 ⟨rfl, hb1⟩
    obtain ⟨y0, y1, y2, y3, y4, y5, y6, y7⟩ := (HB.out.next hb1).cells
    go_wp2_with fail
    refine (HCB.out _).mono ?_
    rintro e w2 ⟨rfl, hb2⟩
    clear y0 y1 y2 y3 y4 y5 y6 y7
    have x0 := ((HA.out.next hb1).next hb2).cell 0
    have y0 := ((HB.out.next hb1).next hb2).cell 0
    simp only [List.getElem?_cons_zero] at x0 y0
    obtain ⟨⟨a0, a1, a2, a3, a4, a5, a6, a7⟩, ⟨b0, b1, b2, b3, b4, b5, b6, b7⟩, ⟨t0, t1, t2, t3, t4, t5, t6, t7⟩, _⟩ := ((HG.out.next hb1).next hb2).store (.int .i64 0) (.int .i64 0) (.int .i64 0) (.int .u64 0) (.string ⟨#[]⟩) (.int .i64 0) (.int .u64 0) (.string ⟨#[]⟩)
    have HF := Lib.hid (Oct.below (below_then (below_then HBEL.out hb1) hb2) hGw (.int .i64 0) (.int .i64 0) (.int .i64 0) (.int .u64 0) (.string ⟨#[]⟩) (.int .i64 0) (.int .u64 0) (.string ⟨#[]⟩))
    go_wp2_with fail
    refine bodyPost_ret (v := .tuple #[.agg #[.int .i64 0, .int .i64 0, .int .i64 0, .int .u64 0, .string ⟨#[]⟩, .int .i64 0, .int .u64 0, .string ⟨#[]⟩], .int .i64 2]) (by simp [results, Try.results15, go_sem, t0, t1, t2, t3, t4, t5, t6, t7]) rfl ⟨by rw [HR.out]; rfl, HF.out⟩
  have hr : a.rows + b.rows ≤ 128 := by omega
  have HR := Lib.hid (S.mg_of hoa hob hr)
  obtain ⟨f1, f2⟩ := S.four hoa hob
  have HKN := Lib.hid (show (S.known [a.least, a.most, b.least, b.most]).least = S.lo a.least b.least ∧ (S.known [a.least, a.most, b.least, b.most]).most = S.hi a.most b.most from ⟨f1, f2⟩)
  have HPL := Lib.hid (show sag (S.plus a b) = .agg #[.int .i64 (a.rows + b.rows), .int .i64 (a.nulls + b.nulls), .int .i64 (S.lo a.least b.least).kind, .int .u64 ((S.lo a.least b.least).num : Int), .string (str (S.lo a.least b.least).txt), .int .i64 (S.hi a.most b.most).kind, .int .u64 ((S.hi a.most b.most).num : Int), .string (str (S.hi a.most b.most).txt)] from rfl)
  have HK1 := Lib.hid (fun W => HKO.out a.least a.most b.least b.most HOK.out W)
  generalize S.known [a.least, a.most, b.least, b.most] = KN at *
  rw [← HKN.out.1, ← HKN.out.2] at HPL
  generalize S.plus a b = PL at *
  generalize S.mg k a b = R at *
  have g3 : decide (128 < a.rows + b.rows) = false := decide_eq_false h3
  clear h1 h1' h2 h2' h3 HKO HOK hoa hob ra0 ra1 rb0 rb1 na0 na1 nb0 nb1 f1 f2 HKN hr
  unfold StPost sag at HK1
  generalize KN.rows = kr at *
  generalize KN.nulls = kn at *
  generalize KN.least.kind = lk at *
  generalize KN.least.num = ln at *
  generalize str KN.least.txt = lx at *
  generalize KN.most.kind = mk at *
  generalize KN.most.num = mm at *
  generalize str KN.most.txt = mx at *
  generalize a.rows = ar at *
  generalize b.rows = br at *
  generalize a.nulls = an at *
  generalize b.nulls = bn at *
  generalize str a.least.txt = alx at *
  generalize str a.most.txt = amx at *
  generalize str b.least.txt = blx at *
  generalize str b.most.txt = bmx at *
  generalize a.least.kind = alk at *
  generalize a.least.num = aln at *
  generalize a.most.kind = amk at *
  generalize a.most.num = amn at *
  generalize b.least.kind = blk at *
  generalize b.least.num = bln at *
  generalize b.most.kind = bmk at *
  generalize b.most.num = bmn at *
  go_enter Try.func15, Try.ntmps15
  go_wp2_with fail
  refine (HCA.out _).mono ?_
  rintro e w1 ⟨rfl, hb1⟩
  obtain ⟨y0, y1, y2, y3, y4, y5, y6, y7⟩ := (HB.out.next hb1).cells
  go_wp2_with fail
  refine (HCB.out _).mono ?_
  rintro e w2 ⟨rfl, hb2⟩
  clear y0 y1 y2 y3 y4 y5 y6 y7
  obtain ⟨x0, x1, x2, x3, x4, x5, x6, x7⟩ := ((HA.out.next hb1).next hb2).cells
  obtain ⟨y0, y1, y2, y3, y4, y5, y6, y7⟩ := ((HB.out.next hb1).next hb2).cells
  go_wp2_with fail
  refine (HK1.out _).mono ?_
  rintro e w4 ⟨rfl, hb4⟩
  have hr4 := ((Below.refl w2.heap.size w2).alloc (Nat.le_refl _) (.cells #[.int .i64 alk, .int .u64 (aln : Int), .string alx, .int .i64 amk, .int .u64 (amn : Int), .string amx, .int .i64 blk, .int .u64 (bln : Int), .string blx, .int .i64 bmk, .int .u64 (bmn : Int), .string bmx] 25)).trans (hb4.mono (by simp))
  clear x0 x1 x2 x3 x4 x5 x6 x7 y0 y1 y2 y3 y4 y5 y6 y7
  have hA4 := ((HA.out.next hb1).next hb2).next hr4
  have hB4 := ((HB.out.next hb1).next hb2).next hr4
  have hG4 := ((HG.out.next hb1).next hb2).next hr4
  have hW4 := (below_then (below_then HBEL.out hb1) hb2).trans (hr4.mono (below_then (below_then HBEL.out hb1) hb2).size)
  have al4 := fun o => (Below.refl w4.heap.size w4).alloc (Nat.le_refl _) o
  have x0 : ∀ o, (w4.alloc o).cell? ⟨w.heap.size, 0, none⟩ = some (.int .i64 ar) := fun o => (hA4.next (al4 o)).cell 0
  have x1 : ∀ o, (w4.alloc o).cell? ⟨w.heap.size, 1, none⟩ = some (.int .i64 an) := fun o => (hA4.next (al4 o)).cell 1
  have y0 : ∀ o, (w4.alloc o).cell? ⟨w.heap.size + 1, 0, none⟩ = some (.int .i64 br) := fun o => (hB4.next (al4 o)).cell 0
  have y1 : ∀ o, (w4.alloc o).cell? ⟨w.heap.size + 1, 1, none⟩ = some (.int .i64 bn) := fun o => (hB4.next (al4 o)).cell 1
  obtain ⟨⟨a0, a1, a2, a3, a4, a5, a6, a7⟩, ⟨b0, b1, b2, b3, b4, b5, b6, b7⟩, ⟨t0, t1, t2, t3, t4, t5, t6, t7⟩, _⟩ := (hG4.next (al4 (.cells #[.int .i64 (ar + br), .int .i64 (an + bn), .int .i64 lk, .int .u64 (ln : Int), .string lx, .int .i64 mk, .int .u64 (mm : Int), .string mx] 27))).store (.int .i64 (ar + br)) (.int .i64 (an + bn)) (.int .i64 lk) (.int .u64 (ln : Int)) (.string lx) (.int .i64 mk) (.int .u64 (mm : Int)) (.string mx)
  have HF := Lib.hid (Oct.below (hW4.alloc hW4.size (.cells #[.int .i64 (ar + br), .int .i64 (an + bn), .int .i64 lk, .int .u64 (ln : Int), .string lx, .int .i64 mk, .int .u64 (mm : Int), .string mx] 27)) hGw (.int .i64 (ar + br)) (.int .i64 (an + bn)) (.int .i64 lk) (.int .u64 (ln : Int)) (.string lx) (.int .i64 mk) (.int .u64 (mm : Int)) (.string mx))
  clear hA4 hB4 hG4 hW4 al4 hr4
  go_wp2_with fail
  refine bodyPost_ret (v := .tuple #[.agg #[.int .i64 (ar + br), .int .i64 (an + bn), .int .i64 lk, .int .u64 (ln : Int), .string lx, .int .i64 mk, .int .u64 (mm : Int), .string mx], .int .i64 0]) (by simp [results, Try.results15, go_sem, t0, t1, t2, t3, t4, t5, t6, t7]) rfl ⟨by rw [HR.out]; simp only; rw [HPL.out]; rfl, HF.out⟩
end Go.Proofs.Ytgkhkfmlldnogaa
