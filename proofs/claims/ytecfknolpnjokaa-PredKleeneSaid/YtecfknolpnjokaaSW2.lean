/- The walk of stats.Of. -/
import Derived.Test.YtecfknolpnjokaaQ3
import Derived.Test.YtecfknolpnjokaaCSplit
namespace Go.Proofs.Ytecfknolpnjokaa
open Go.RowKit
set_option linter.unusedVariables false

/-- what is known of a list, or what is wrong with it -/
def ofR (k : Int) (l : List C.Cl) : S.St × Nat := if C.chk k l ≠ 0 then (S.zero, C.chk k l) else (S.known l, 0)
theorem wd_next (ds : List C.Cl) (j : Nat) (hd : ∀ x ∈ ds, x.kind ≠ 0) (h : j < ds.length) :
    wdR (S.least (ds.take j)) (S.most (ds.take j)) (ds.getD j C.null) (ds.getD j C.null) = (S.least (ds.take (j + 1)), S.most (ds.take (j + 1))) := by
  have ht : ∀ x ∈ ds.take j, x.kind ≠ 0 := fun x hx => hd x (List.mem_of_mem_take hx)
  have hc : (ds.getD j C.null).kind ≠ 0 := hd _ (cgetD_mem ds j h)
  rw [ctake_succ ds j h]
  generalize ds.getD j C.null = c at *
  generalize ds.take j = t at *
  unfold wdR
  by_cases h0 : t = []
  · subst h0; rfl
  · rw [if_neg (fun e => h0 ((S.least_kind ht).1 e)), if_neg hc, S.least_snoc t c h0, S.most_snoc t c h0]

set_option maxHeartbeats 4000000 in
set_option maxRecDepth 100000 in
theorem sof_any (k : Int) (a : Option Addr) (c : Nat) (l : List C.Cl) (w : World) (hm : l.length ≤ maxLen) (hx : ∀ x ∈ l, cOk x) (hu : Cls w w.heap.size a l) :
    Calls Try.prog 15 #[.int .i64 k, .slice a l.length c] w (StEPost (ofR k l) w) := by
  have hal := (Below.refl w.heap.size w).alloc (Nat.le_refl _) (.cells #[.int .i64 0, .int .i64 0, .int .i64 0, .int .u64 0, .string ByteArray.empty, .int .i64 0, .int .u64 0, .string ByteArray.empty] 40)
  have hG := oct_new w [.int .i64 0, .int .i64 0, .int .i64 0, .int .u64 0, .string ByteArray.empty, .int .i64 0, .int .u64 0, .string ByteArray.empty]
  have HS := Lib.hid (nsplit_any k a c l _ hm hx (hu.next hal))
  have hml := hm
  unfold maxLen at hml
  by_cases h1 : C.chk k l ≠ 0
  · have HR := Lib.hid (show ofR k l = (S.zero, C.chk k l) from if_pos h1)
    have hs : splitR k l = ([], [], C.chk k l) := if_pos h1
    rw [hs] at HS
    generalize ofR k l = R at *
    generalize C.chk k l = er at *
    have g1 : ((er : Int) != 0) = true := by rw [bne_iff_ne]; omega
    have HAL := Lib.hid hal
    have HG := Lib.hid hG
    clear hu hx h1 hs hal hG
    go_enter Try.func15, Try.ntmps15
    go_wp2_with fail
    refine (HS.out).mono ?_
    rintro e w1 ⟨am, cm, vd, rfl, _, _, hrow, hb1⟩
    obtain ⟨⟨a0, a1, a2, a3, a4, a5, a6, a7⟩, ⟨b0, b1, b2, b3, b4, b5, b6, b7⟩, ⟨t0, t1, t2, t3, t4, t5, t6, t7⟩, _⟩ := (HG.out.next hb1).store (.int .i64 0) (.int .i64 0) (.int .i64 0) (.int .u64 0) (.string ⟨#[]⟩) (.int .i64 0) (.int .u64 0) (.string ⟨#[]⟩)
    have HF := Lib.hid (Oct.below (below_then HAL.out hb1) (Nat.le_refl _) (.int .i64 0) (.int .i64 0) (.int .i64 0) (.int .u64 0) (.string ⟨#[]⟩) (.int .i64 0) (.int .u64 0) (.string ⟨#[]⟩))
    go_wp2_with fail
    refine bodyPost_ret (v := .tuple #[.agg #[.int .i64 0, .int .i64 0, .int .i64 0, .int .u64 0, .string ⟨#[]⟩, .int .i64 0, .int .u64 0, .string ⟨#[]⟩], .int .i64 er]) (by simp [results, Try.results15, go_sem, t0, t1, t2, t3, t4, t5, t6, t7]) rfl ⟨by rw [HR.out]; rfl, HF.out⟩
  have hs : splitR k l = (l.map C.here, C.dense l, 0) := if_neg h1
  rw [hs] at HS
  have HR := Lib.hid (show ofR k l = (S.known l, 0) from if_neg h1)
  have HK := Lib.hid (show S.known l = ⟨l.length, (l.length : Int) - ((C.dense l).length : Int), S.least (C.dense l), S.most (C.dense l)⟩ from rfl)
  have hdl : (C.dense l).length ≤ l.length := List.length_filter_le _ _
  have HWD := Lib.hid (fun j h => wd_next (C.dense l) j (S.dense_here rfl) h)
  have hml2 : (l.map C.here).length = l.length := by simp
  generalize l.map C.here = ms at *
  generalize C.dense l = ds at *
  generalize S.known l = KN at *
  generalize ofR k l = R at *
  have hsub : IntKind.i64.wrap ((l.length : Int) - (ds.length : Int)) = (l.length : Int) - (ds.length : Int) := by rw [IntKind.wrap_i64]; omega
  have HAL := Lib.hid hal
  have HG := Lib.hid hG
  have HT := Lib.hid (fun r n a b W => stold_any r n a b W)
  have HW := Lib.hid (fun a b c d W => wider_any a b c d W)
  clear hu hx h1 hs hal hG hm hml2
  go_enter Try.func15, Try.ntmps15
  go_wp2_with fail
  refine (HS.out).mono ?_
  rintro e w2 ⟨am, cm, vd, rfl, _, _, hrow, hb2⟩
  obtain ⟨ad, cd, rfl, hcl, _⟩ := cRow_cls hrow
  have hG2 := HG.out.next hb2
  have hw2 := below_then HAL.out hb2
  have HCL := Lib.hid hcl
  clear hrow hcl HG HAL HS hb2
  obtain ⟨G, hGe⟩ : ∃ G, G = w.heap.size := ⟨_, rfl⟩
  rw [← hGe] at hG2 ⊢
  have hGw : w.heap.size ≤ G := by omega
  have hG2l := hG2.lt
  clear hGe
  have hS := six_new w2 [.int .i64 0, .int .u64 0, .string ByteArray.empty, .int .i64 0, .int .u64 0, .string ByteArray.empty]
  have hal2 := (Below.refl w2.heap.size w2).alloc (Nat.le_refl _) (.cells #[.int .i64 0, .int .u64 0, .string ByteArray.empty, .int .i64 0, .int .u64 0, .string ByteArray.empty] 82)
  have HS := Lib.hid hS
  have HAL2 := Lib.hid hal2
  clear hS hal2
  go_wp2_with fail
  go_loopw [11, 25] (fun _ i wr => ∃ j : Nat, j ≤ ds.length ∧ i = .int .i64 j ∧ Below w2.heap.size w2 wr ∧ Six wr w2.heap.size [.int .i64 (S.least (ds.take j)).kind, .int .u64 ((S.least (ds.take j)).num : Int), .string (str (S.least (ds.take j)).txt), .int .i64 (S.most (ds.take j)).kind, .int .u64 ((S.most (ds.take j)).num : Int), .string (str (S.most (ds.take j)).txt)]) (fun _ i _ => ds.length - (intOf i).toNat)
  case atStart => exact ⟨0, by omega, rfl, HAL2.out, HS.out⟩
  case round =>
    clear HAL2 HS
    obtain ⟨j, hj, rfl, hbw, hS⟩ := hrel
    by_cases hlt : j < ds.length
    · obtain ⟨b, off, rfl, hb, hcc⟩ := HCL.out (fun e => by rw [e] at hlt; simp at hlt)
      obtain ⟨z0, z1, z2⟩ := hcc j hlt
      have c0 := (hbw.cell (p := ⟨b, off + j * 3, none⟩) hb).trans z0
      have c1 := (hbw.cell (p := ⟨b, off + j * 3 + 1, none⟩) hb).trans z1
      have c2 := (hbw.cell (p := ⟨b, off + j * 3 + 2, none⟩) hb).trans z2
      have hjI : (j : Int) < (ds.length : Int) := by omega
      have HW1 := Lib.hid (fun W => HW.out (S.least (ds.take j)) (S.most (ds.take j)) (ds.getD j C.null) (ds.getD j C.null) W)
      rw [HWD.out j hlt] at HW1
      unfold EndsPost eag at HW1
      simp only at HW1
      clear z0 z1 z2 hcc HW HT
      generalize (ds.getD j C.null).kind = yk at *
      generalize (ds.getD j C.null).num = yn at *
      generalize str (ds.getD j C.null).txt = yx at *
      generalize (S.least (ds.take j)).kind = lk at *
      generalize (S.least (ds.take j)).num = ln at *
      generalize str (S.least (ds.take j)).txt = lx at *
      generalize (S.most (ds.take j)).kind = mk at *
      generalize (S.most (ds.take j)).num = mn at *
      generalize str (S.most (ds.take j)).txt = mx at *
      have HPL := Lib.hid (show ∃ pk pn px qk qn qx, pk = (S.least (ds.take (j + 1))).kind ∧ pn = (S.least (ds.take (j + 1))).num ∧ px = str (S.least (ds.take (j + 1))).txt ∧ qk = (S.most (ds.take (j + 1))).kind ∧ qn = (S.most (ds.take (j + 1))).num ∧ qx = str (S.most (ds.take (j + 1))).txt from ⟨_, _, _, _, _, _, rfl, rfl, rfl, rfl, rfl, rfl⟩)
      obtain ⟨pk, pn, px, qk, qn, qx, e1, e2, e3, e4, e5, e6⟩ := HPL.out
      rw [← e1, ← e2, ← e3, ← e4, ← e5, ← e6] at HW1
      have HE := Lib.hid (And.intro e1 (And.intro e2 (And.intro e3 (And.intro e4 (And.intro e5 e6)))))
      clear HPL e1 e2 e3 e4 e5 e6
      have al := (Below.refl wr.heap.size wr).alloc (Nat.le_refl _) (.cells #[.int .i64 yk, .int .u64 (yn : Int), .string yx] 38)
      have hSa := hS.next al
      have HBA := Lib.hid (hbw.alloc hbw.size (.cells #[.int .i64 yk, .int .u64 (yn : Int), .string yx] 38))
      obtain ⟨x0, x1, x2, x3, x4, x5⟩ := hSa.cells
      have HSA := Lib.hid hSa
      have hbs := hbw.size
      clear hSa hS al hbw
      go_wp2_with fail
      refine (HW1.out _).mono ?_
      rintro e w3 ⟨rfl, hb3⟩
      clear x0 x1 x2 x3 x4 x5 c0 c1 c2
      obtain ⟨⟨g0, g1, g2, g3, g4, g5⟩, ⟨f0, f1, f2, f3, f4, f5⟩, _, hS4⟩ := (HSA.out.next hb3).store (.int .i64 pk) (.int .u64 (pn : Int)) (.string px) (.int .i64 qk) (.int .u64 (qn : Int)) (.string qx)
      have HBF := Lib.hid (Six.storeBelow (below_then HBA.out hb3) (Nat.le_refl _) (.int .i64 pk) (.int .u64 (pn : Int)) (.string px) (.int .i64 qk) (.int .u64 (qn : Int)) (.string qx))
      have HS4 := Lib.hid hS4
      clear hS4 hb3 HSA HBA
      go_wp2_with fail
      refine ⟨⟨j + 1, by omega, by go_num, HBF.out, ?_⟩, by simp [intOf]; omega⟩
      obtain ⟨e1, e2, e3, e4, e5, e6⟩ := HE.out
      rw [← e1, ← e2, ← e3, ← e4, ← e5, ← e6]
      exact HS4.out
    · obtain rfl : j = ds.length := by omega
      rw [List.take_length] at hS
      have hG3 : Oct wr G _ := (hbw.block G hG2l).trans hG2
      have HT1 := Lib.hid (fun W => HT.out (l.length : Int) ((l.length : Int) - (ds.length : Int)) (S.least ds) (S.most ds) W)
      have HRR := Lib.hid (show (.tuple #[sag R.1, .int .i64 (R.2 : Nat)] : Value) = .tuple #[.agg #[.int .i64 (l.length : Int), .int .i64 ((l.length : Int) - (ds.length : Int)), .int .i64 (S.least ds).kind, .int .u64 ((S.least ds).num : Int), .string (str (S.least ds).txt), .int .i64 (S.most ds).kind, .int .u64 ((S.most ds).num : Int), .string (str (S.most ds).txt)], .int .i64 0] by rw [HR.out]; simp only; rw [HK.out]; rfl)
      unfold StPost sag eag at HT1
      simp only at HT1
      generalize (S.least ds).kind = lk at *
      generalize (S.least ds).num = ln at *
      generalize str (S.least ds).txt = lx at *
      generalize (S.most ds).kind = mk at *
      generalize (S.most ds).num = mn at *
      generalize str (S.most ds).txt = mx at *
      obtain ⟨x0, x1, x2, x3, x4, x5⟩ := hS.cells
      have hbf : Below w.heap.size w wr := hw2.trans (hbw.mono hw2.size)
      have HBF := Lib.hid hbf
      have HG3 := Lib.hid hG3
      clear hS hG3 hbf hbw HW HT HK HR HWD HCL hG2 hw2
      go_wp2_with fail
      refine (HT1.out _).mono ?_
      rintro e w4 ⟨rfl, hb4⟩
      clear x0 x1 x2 x3 x4 x5
      obtain ⟨⟨a0, a1, a2, a3, a4, a5, a6, a7⟩, ⟨b0, b1, b2, b3, b4, b5, b6, b7⟩, ⟨t0, t1, t2, t3, t4, t5, t6, t7⟩, _⟩ := (HG3.out.next hb4).store (.int .i64 (l.length : Int)) (.int .i64 ((l.length : Int) - (ds.length : Int))) (.int .i64 lk) (.int .u64 (ln : Int)) (.string lx) (.int .i64 mk) (.int .u64 (mn : Int)) (.string mx)
      have HF := Lib.hid (Oct.below (below_then HBF.out hb4) hGw (.int .i64 (l.length : Int)) (.int .i64 ((l.length : Int) - (ds.length : Int))) (.int .i64 lk) (.int .u64 (ln : Int)) (.string lx) (.int .i64 mk) (.int .u64 (mn : Int)) (.string mx))
      clear hb4
      go_wp2_with fail
      refine bodyPost_ret (v := .tuple #[.agg #[.int .i64 (l.length : Int), .int .i64 ((l.length : Int) - (ds.length : Int)), .int .i64 lk, .int .u64 (ln : Int), .string lx, .int .i64 mk, .int .u64 (mn : Int), .string mx], .int .i64 0]) (by simp [results, Try.results15, go_sem, t0, t1, t2, t3, t4, t5, t6, t7]) rfl ⟨by rw [HRR.out], HF.out⟩
end Go.Proofs.Ytecfknolpnjokaa
