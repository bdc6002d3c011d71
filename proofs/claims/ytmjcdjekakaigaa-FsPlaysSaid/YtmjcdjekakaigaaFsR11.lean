/- The walk of the reference's DoneOf. -/
import Derived.Test.YtmjcdjekakaigaaFsR10
import Derived.Deep.DeepCutAuto
import Derived.Deep.CutRange
namespace Go.Proofs.Ytmjcdjekakaigaa.Fs
open Go.RowKit
set_option linter.unusedVariables false

set_option maxHeartbeats 8000000 in
set_option maxRecDepth 100000 in
theorem rDone_any (p : At) (f : T) (o : Op) (w : World) (h : Fss w w.heap.size p f) (ho : opOk o) :
    Calls Try.prog 12 #[fsV p f, opV o] w (RFsEPost (play f [o]) w) := by
  have hal0 := (Below.refl w.heap.size w).alloc (Nat.le_refl _) (.cells #[.slice p.an f.nodes.length p.cn, .slice p.ad f.dir.length p.cd, .slice p.ay f.syn.length p.cy] 25)
  have hT0 := bk_new w 25 #[.slice p.an f.nodes.length p.cn, .slice p.ad f.dir.length p.cd, .slice p.ay f.syn.length p.cy]
  have hF0 := h.next hal0
  have e1 : (w.alloc (.cells #[.slice p.an f.nodes.length p.cn, .slice p.ad f.dir.length p.cd, .slice p.ay f.syn.length p.cy] 25)).heap.size = w.heap.size + 1 := by simp
  generalize hWa : w.alloc (.cells #[.slice p.an f.nodes.length p.cn, .slice p.ad f.dir.length p.cd, .slice p.ay f.syn.length p.cy] 25) = Wa at *
  have hal1 := (Below.refl Wa.heap.size Wa).alloc (Nat.le_refl _) (.cells #[.int .i64 o.kind, .string (str o.name), .string (str o.to), .string (str o.text)] 27)
  have hO1 := bk_new Wa 27 #[.int .i64 o.kind, .string (str o.name), .string (str o.to), .string (str o.text)]
  have hT1 := hT0.next hal1
  have hF1 := hF0.next hal1
  have e2 : (Wa.alloc (.cells #[.int .i64 o.kind, .string (str o.name), .string (str o.to), .string (str o.text)] 27)).heap.size = w.heap.size + 2 := by simp [e1]
  generalize hWb : Wa.alloc (.cells #[.int .i64 o.kind, .string (str o.name), .string (str o.to), .string (str o.text)] 27) = Wb at *
  have hal2 := (Below.refl Wb.heap.size Wb).alloc (Nat.le_refl _) (.cells #[.slice none 0 0, .slice none 0 0, .slice none 0 0] 25)
  have hR := bk_new Wb 25 #[.slice none 0 0, .slice none 0 0, .slice none 0 0]
  have hO2 := hO1.next hal2
  have hT2 := hT1.next hal2
  have hF2 := hF1.next hal2
  have e3 : (Wb.alloc (.cells #[.slice none 0 0, .slice none 0 0, .slice none 0 0] 25)).heap.size = w.heap.size + 3 := by simp [e2]
  generalize hWc : Wb.alloc (.cells #[.slice none 0 0, .slice none 0 0, .slice none 0 0] 25) = Wc at *
  rw [e1] at hO2
  rw [e2] at hR
  have hal : Below w.heap.size w Wc := (hal0.trans (hal1.mono (by omega))).trans (hal2.mono (by omega))
  have HW := Lib.hid (show ((w.alloc (.cells #[.slice p.an f.nodes.length p.cn, .slice p.ad f.dir.length p.cd, .slice p.ay f.syn.length p.cy] 25)).alloc (.cells #[.int .i64 o.kind, .string (str o.name), .string (str o.to), .string (str o.text)] 27)).alloc (.cells #[.slice none 0 0, .slice none 0 0, .slice none 0 0] 25) = Wc by rw [hWa, hWb, hWc])
  obtain ⟨RB, hRB⟩ : ∃ RB, RB = w.heap.size + 2 := ⟨_, rfl⟩
  obtain ⟨OB, hOB⟩ : ∃ OB, OB = w.heap.size + 1 := ⟨_, rfl⟩
  obtain ⟨TB, hTB⟩ : ∃ TB, TB = w.heap.size := ⟨_, rfl⟩
  rw [← hRB] at hR
  rw [← hOB] at hO2
  rw [← hTB] at hT2
  have HRB := Lib.hid (show w.heap.size ≤ RB by omega)
  have HN1 := Lib.hid (show w.heap.size + 1 + 1 = RB by omega)
  have HN2 := Lib.hid (show w.heap.size + 1 = OB by omega)
  have HN3 := Lib.hid (show w.heap.size = TB by omega)
  have HT := Lib.hid hT2
  have HO := Lib.hid hO2
  have HR := Lib.hid hR
  have HF := Lib.hid hF2
  have HAL := Lib.hid hal
  have HC := Lib.hid (rCheck_any p f Wc hF2)
  have HOP := Lib.hid (fun W => rOp_any o W ho)
  have HHO := Lib.hid ho
  have hcl := check_lt f
  have hol := opE_lt o
  have HPS := Lib.hid (play_single f o)
  generalize play f [o] = R at *
  obtain ⟨an, cn, ad, cd, ay, cy⟩ := p
  unfold fsV opV at *
  simp only at *
  clear hWa hWb hWc hal0 hal1 hal2 hT0 hT1 hT2 hF0 hF1 hF2 hO1 hO2 hR e1 e2 e3 h ho hal hRB hOB hTB
  go_enter Try.func12, Try.ntmps12
  go_wp2_with fail
  rw [HW.out, HN1.out, HN2.out, HN3.out]
  obtain ⟨d0, d1, d2⟩ := HT.out.three
  go_wp2_with fail
  refine (HC.out).mono ?_
  rintro e w1 ⟨rfl, hb1⟩
  clear d0 d1 d2 HC
  by_cases hc : check f ≠ 0
  · have HRV := Lib.hid (show R = (nul, check f) by rw [HPS.out, if_pos hc])
    have g1 : ((check f : Int) == 0) = false := by rw [beq_eq_false_iff_ne]; omega
    have g2 : ((check f : Int) != 0) = true := by rw [bne_iff_ne]; omega
    generalize check f = er at *
    have HB9 := Lib.hid (HAL.out.trans ((hb1).mono HAL.out.size))
    obtain ⟨y1, y2, y3⟩ := fin3 (p := nulAt) (g := nul) (HR.out.next (hb1)) (Fss.nul _ _) HRB.out HB9.out 0 0 0 rfl rfl rfl
    simp only [nulAt] at y1 y2 y3
    have Y1 := Lib.hid y1
    have Y2 := Lib.hid y2
    obtain ⟨z0, z1, z2⟩ := y3.three
    obtain ⟨a0, a1, a2⟩ := (HR.out.next (hb1)).three
    have b0 := (HR.out.next (hb1)).free 0
    have b1 := (HR.out.next (hb1)).free 1
    have b2 := (HR.out.next (hb1)).free 2
    clear y1 y2 y3
    go_wp2_with fail
    refine bodyPost_ret (v := .tuple #[.agg #[.slice none 0 0, .slice none 0 0, .slice none 0 0], .int .i64 er]) (by simp [results, Try.results12, go_sem, z0, z1, z2]) rfl ?_
    rw [HRV.out]
    exact ⟨nulAt, rfl, Y1.out, Y2.out⟩
  have HPS := Lib.hid (show R = if (doOp f o).2 ≠ 0 then (nul, (doOp f o).2) else ((doOp f o).1, 0) by rw [HPS.out, if_neg hc])
  have hc0 : check f = 0 := by omega
  have hok := (check_ok f).1 hc0
  rw [hc0]
  clear hc hcl
  obtain ⟨o0, o1, o2, o3⟩ := (HO.out.next hb1).four
  go_wp2_with fail
  refine (HOP.out _).mono ?_
  rintro e w2 ⟨rfl, hb2⟩
  have hb12 := below_then hb1 hb2
  clear o0 o1 o2 o3 hb1 hb2 HOP
  by_cases hoe : opE o ≠ 0
  · have hdo : doOp f o = (nul, opE o) := by unfold doOp; rw [if_pos hoe]
    have HRV := Lib.hid (show R = (nul, opE o) by rw [HPS.out, hdo, if_pos hoe])
    have g2 : ((opE o : Int) != 0) = true := by rw [bne_iff_ne]; omega
    generalize opE o = er at *
    have HB9 := Lib.hid (HAL.out.trans ((hb12).mono HAL.out.size))
    obtain ⟨y1, y2, y3⟩ := fin3 (p := nulAt) (g := nul) (HR.out.next (hb12)) (Fss.nul _ _) HRB.out HB9.out 0 0 0 rfl rfl rfl
    simp only [nulAt] at y1 y2 y3
    have Y1 := Lib.hid y1
    have Y2 := Lib.hid y2
    obtain ⟨z0, z1, z2⟩ := y3.three
    obtain ⟨a0, a1, a2⟩ := (HR.out.next (hb12)).three
    have b0 := (HR.out.next (hb12)).free 0
    have b1 := (HR.out.next (hb12)).free 1
    have b2 := (HR.out.next (hb12)).free 2
    clear y1 y2 y3
    go_wp2_with fail
    refine bodyPost_ret (v := .tuple #[.agg #[.slice none 0 0, .slice none 0 0, .slice none 0 0], .int .i64 er]) (by simp [results, Try.results12, go_sem, z0, z1, z2]) rfl ?_
    rw [HRV.out]
    exact ⟨nulAt, rfl, Y1.out, Y2.out⟩
  have hoe0 : opE o = 0 := by omega
  rw [hoe0]
  clear hol hoe
  have HT2 := Lib.hid (HT.out.next hb12)
  have HO2 := Lib.hid (HO.out.next hb12)
  have HR2 := Lib.hid (HR.out.next hb12)
  have HF2 := Lib.hid (HF.out.next hb12)
  have HAL2 := Lib.hid (HAL.out.trans (hb12.mono HAL.out.size))
  have HOK := Lib.hid hok
  have HOE := Lib.hid hoe0
  have hnl := hok.len
  have hdl := dir_len hok.dir
  have hsl := dir_len hok.syn
  clear HT HO HR HF HAL hb12 hok hoe0
  go_upto_region 6 with fail
  go_cut [7] (fun t7 wx => ∃ O nv, t7 = .pointer (some ⟨O, 0, none⟩) ∧ Hid (Mkd wx w2.heap.size O f nv ⟨none, 0, ad, cd, ay, cy⟩) ∧ Hid (Below w2.heap.size w2 wx))
  case first =>
    have hself := Below.refl w2.heap.size w2
    have q0 : ∀ W, Below w2.heap.size w2 W → W.cell? ⟨TB, 0, none⟩ = some (.slice an f.nodes.length cn) := fun W hb => (HT2.out.next hb).three.1
    have q1 : ∀ W, Below w2.heap.size w2 W → W.cell? ⟨TB, 1, none⟩ = some (.slice ad f.dir.length cd) := fun W hb => (HT2.out.next hb).three.2.1
    have q2 : ∀ W, Below w2.heap.size w2 W → W.cell? ⟨TB, 2, none⟩ = some (.slice ay f.syn.length cy) := fun W hb => (HT2.out.next hb).three.2.2
    have HE1 := Lib.hid (nempty w2.heap.size w2 (Nat.le_refl _))
    have HE2 := Lib.hid (show NRow w2.heap.size [] (.slice (some ⟨w2.heap.size + 1, 0, none⟩) 0 0) ((w2.alloc (.cells #[.slice none 0 0, .slice none 0 0, .slice none 0 0] 25)).alloc (.cells #[] 49)) from by have := nempty w2.heap.size (w2.alloc (.cells #[.slice none 0 0, .slice none 0 0, .slice none 0 0] 25)) (by simp); simpa using this)
    have HE3 := Lib.hid (show NRow w2.heap.size [] (.slice (some ⟨w2.heap.size, 0, none⟩) 0 0) ((w2.alloc (.cells #[] 49)).alloc (.cells #[.slice none 0 0, .slice none 0 0, .slice none 0 0] 25)) from World.ownsRow.alloc (nempty w2.heap.size w2 (Nat.le_refl _)) _)
    have HZ2 := Lib.hid (show Bk ((w2.alloc (.cells #[.slice none 0 0, .slice none 0 0, .slice none 0 0] 25)).alloc (.cells #[] 49)) w2.heap.size 25 #[.slice none 0 0, .slice none 0 0, .slice none 0 0] from (bk_new w2 25 #[.slice none 0 0, .slice none 0 0, .slice none 0 0]).next ((Below.refl _ _).alloc (Nat.le_refl _) _))
    have HZ3 := Lib.hid (show Bk ((w2.alloc (.cells #[] 49)).alloc (.cells #[.slice none 0 0, .slice none 0 0, .slice none 0 0] 25)) (w2.heap.size + 1) 25 #[.slice none 0 0, .slice none 0 0, .slice none 0 0] from by have := bk_new (w2.alloc (.cells #[] 49)) 25 #[.slice none 0 0, .slice none 0 0, .slice none 0 0]; simpa using this)
    have hnb : (([] : List Nd).length + f.nodes.length) * 32 ≤ 140737488355328 := by simp; omega
    have HCAP := Lib.hid (HF2.out.ncap)
    have HND := Lib.hid (fun W (hb : Below w2.heap.size w2 W) => HF2.out.nds.next ndAt_firm hb)
    go_region_held3 (fun W => Below w2.heap.size w2 W)
      (first
        | assumption
        | exact (show Below w2.heap.size w2 _ by assumption).drew
        | exact (show Below w2.heap.size w2 _ by assumption).alloc (show Below w2.heap.size w2 _ by assumption).size _
        | exact Below.trans (by assumption) hb9
        | exact hS9.alloc hS9.size _
        | exact ((show Below w2.heap.size w2 _ by assumption).setCell (p := ⟨_, 0, none⟩) (by first | exact Nat.le_refl _ | exact Nat.le_succ _) _).setCell (p := ⟨_, 1, none⟩) (by first | exact Nat.le_refl _ | exact Nat.le_succ _) _ |>.setCell (p := ⟨_, 2, none⟩) (by first | exact Nat.le_refl _ | exact Nat.le_succ _) _)
      (first
        | (refine step_append_nd ?_ (.tmp 19) (.tmp 21) rfl w2.heap.size _ [] rfl ?_ _ f.nodes.length cn f.nodes rfl rfl HCAP.out.2.2 (HND.out _ (by assumption)) hnb ?_ ?_; rfl; (first | exact HE1.out | exact HE2.out | exact HE3.out); (exact (show Below w2.heap.size w2 _ by assumption).size); intro v9 w9 hr9 hb9 hg9; have hr9 : NRow w2.heap.size f.nodes v9 w9 := hr9; obtain ⟨a9, c9, e9, hq9, hu9⟩ := nrow_nds hr9; subst e9; have hS9 : Below w2.heap.size w2 w9 := Below.trans (by assumption) hb9; (first | (have hz9 : Bk w9 w2.heap.size 25 #[.slice none 0 0, .slice none 0 0, .slice none 0 0] := ((show World.grownBy _ w9 (some (w2.heap.size + 1)) from hg9).block _ HZ2.out.lt (fun e => by have e := Option.some.inj e; omega)).trans HZ2.out; obtain ⟨x0, x1, x2⟩ := hz9.three; have y0 := hz9.free 0; have y1 := hz9.free 1; have y2 := hz9.free 2; have l9 := hz9.lt) | (have hz9 : Bk w9 (w2.heap.size + 1) 25 #[.slice none 0 0, .slice none 0 0, .slice none 0 0] := ((show World.grownBy _ w9 (some w2.heap.size) from hg9).block _ HZ3.out.lt (fun e => by have e := Option.some.inj e; omega)).trans HZ3.out; obtain ⟨x0, x1, x2⟩ := hz9.three; have y0 := hz9.free 0; have y1 := hz9.free 1; have y2 := hz9.free 2; have l9 := hz9.lt) | skip)))
    · have hm := mkd_new HF2.out hS9 hr9
      go_wp2_with fail
      go_meet
      case rel => exact ⟨_, _, rfl, Lib.hid hm.1, Lib.hid hm.2⟩
    · have hm := mkd_put HF2.out hS9 hr9 hz9 (Nat.le_succ _)
      go_wp2_with fail
      go_meet
      case rel => exact ⟨_, _, rfl, Lib.hid hm.1, Lib.hid hm.2⟩
    · have hm := mkd_put HF2.out hS9 hr9 hz9 (Nat.le_refl _)
      go_wp2_with fail
      go_meet
      case rel => exact ⟨_, _, rfl, Lib.hid hm.1, Lib.hid hm.2⟩
  case rest =>
    obtain ⟨O, nv, rfl, HM, HBW⟩ := hcut
    have HT3 := Lib.hid (HT2.out.next HBW.out)
    have HO3 := Lib.hid (HO2.out.next HBW.out)
    have HR3 := Lib.hid (HR2.out.next HBW.out)
    have HF3 := Lib.hid (HF2.out.next HBW.out)
    have HAL3 := Lib.hid (HAL2.out.trans (HBW.out.mono HAL2.out.size))
    have HDB := Lib.hid (HF2.out.dir.below enAt_firm HBW.out)
    have HSB := Lib.hid (HF2.out.syn.below enAt_firm HBW.out)
    have HDC := Lib.hid HF2.out.dcap
    have HDO := Lib.hid HF2.out.dok
    simp only at HDB HSB HDC HDO
    have HRG0 := Lib.hid (show ∀ e, e ∈ f.dir ∨ e ∈ f.syn → 0 ≤ e.node ∧ e.node ≤ 1048576 from fun e he => by
      rcases he with he | he
      · have := HOK.out.dir.rg e he; omega
      · have := HOK.out.syn.rg e he; omega)
    have HOW2 := Lib.hid (show w2.heap.size ≤ wc.heap.size from HBW.out.size)
    have HOR := Lib.hid (show RB < w2.heap.size ∧ w.heap.size ≤ w2.heap.size from ⟨HR2.out.lt, HAL2.out.size⟩)
    have HTL := Lib.hid (show TB < w2.heap.size ∧ OB < w2.heap.size from ⟨HT2.out.lt, HO2.out.lt⟩)
    have HNE := Lib.hid (show RB ≠ O by have := HR2.out.lt; have := HM.out.ge; omega)
    have HOB := Lib.hid (show w.heap.size ≤ O by have := HM.out.ge; have := HAL2.out.size; omega)
    clear HT2 HO2 HR2 HF2 HAL2 HBW
    obtain ⟨an9, cn9, hnv, hnds, hncap⟩ := nrow_nds HM.out.nro
    subst hnv
    obtain ⟨d0, d1, d2⟩ := HT3.out.three
    obtain ⟨o0, o1, o2, o3⟩ := HO3.out.four
    obtain ⟨m0, m1, m2⟩ := HM.out.bk.three
    have f0 := HM.out.bk.free 0
    have f1 := HM.out.bk.free 1
    have f2 := HM.out.bk.free 2
    simp only at m0 m1 m2
    have HNODE := Lib.hid (rNode_any ad cd f.dir o.name wc (by unfold maxLen; omega) (by have := HF3.out.dir; exact this))
    have hops := op_name HOE.out
    have hkd := kinds HOE.out
    have HK := Lib.hid (show (o.kind = 1 → doOp f o = wroteR f o.name o.text) ∧ (o.kind = 5 → doOp f o = (swept ⟨f.nodes, f.dir, f.dir⟩, 0)) ∧ ((o.kind = 2 ∨ o.kind = 3 ∨ o.kind = 4) → doOp f o = if has f.dir o.name = false then (nul, 5) else (swept (turned f o (nodeOf f.dir o.name)), 0)) from ⟨doOp_wrote HOE.out, doOp_sync HOE.out, doOp_turn HOE.out⟩)
    have hnode : (has f.dir o.name = true ∧ ∃ n : Nat, nodeOf f.dir o.name = (n : Int) ∧ n < f.nodes.length) ∨ (has f.dir o.name = false ∧ nodeOf f.dir o.name = -1) := by
      cases hh : has f.dir o.name with
      | true =>
        have := nodeOf_rg HOK.out.dir hh
        exact Or.inl ⟨rfl, (nodeOf f.dir o.name).toNat, by omega, by omega⟩
      | false => exact Or.inr ⟨rfl, nodeOf_no hh⟩
    go_wp2_with fail
    refine (HNODE.out).mono ?_
    rintro e w4 ⟨rfl, rfl⟩
    clear HNODE hnds
    rcases hkd with hk | hk | hk
    · have hD := HK.out.1 hk
      have k1 : (o.kind == 1) = true := by rw [hk]; rfl
      rcases hnode with ⟨hh, n, hn, hnl2⟩ | ⟨hh, hn⟩
      · have HRV := Lib.hid (show R = (⟨f.nodes.set n ⟨o.text, (f.nodes.getD n nulN).syn⟩, f.dir, f.syn⟩, 0) by
          rw [HPS.out, hD]; unfold wroteR; rw [if_pos hh, hn, Int.toNat_natCast]; rfl)
        rw [hn]
        have g0 : decide ((n : Int) < 0) = false := decide_eq_false (by omega)
        have hnI : (n : Int) < (f.nodes.length : Int) := by omega
        obtain ⟨g, L9, c9, e9, hL9, hBg, q0, q1, hfz, hlc, hcm⟩ := HM.out.nro.at hnl2
        simp only [Value.slice.injEq] at e9
        obtain ⟨rfl, e9l, rfl⟩ := e9
        have hok := HM.out.nok _ (getD_mem f.nodes nulN n hnl2)
        have hM5 := Mkd.putN HM.out (Or.inl HDB.out) HSB.out (i := n) (j := 0) (u := .string (str o.text)) (y := ⟨o.text, (f.nodes.getD n nulN).syn⟩) hnl2 (by omega) rfl ⟨HHO.out.2.2.2, hok.2⟩
        rw [Nat.add_zero] at hM5
        have hgR : RB ≠ g := by have := HOR.out; omega
        have HRX := Lib.hid (HR3.out.move (w' := w4.setCell ⟨g, n * 2, none⟩ (.string (str o.text))) (heap_set _ _ _ _ hgR))
        have HALX := Lib.hid (HAL3.out.setCell (p := ⟨g, n * 2, none⟩) (show w.heap.size ≤ g by have := HOR.out; omega) (.string (str o.text)))
        have HMX := Lib.hid hM5
        have hf0 := hfz (n * 2)
        clear hM5 hD HK hk hh hn HPS hfz hok e9l hL9
        go_upto_region 16 with fail
        generalize w4.setCell ⟨g, n * 2, none⟩ (.string (str o.text)) = W5 at *
        clear m0 m1 m2 q0 q1 d0 d1 d2 o0 o1 o2 o3 f0 f1 f2
        obtain ⟨a5, c5, e5, hfs5⟩ := HMX.out.fss
        simp only [Value.slice.injEq] at e5
        obtain ⟨e5a, e5l, e5b⟩ := e5
        subst e5a
        subst e5b
        obtain ⟨m0, m1, m2⟩ := HMX.out.bk.three
        simp only at m0 m1 m2
        obtain ⟨y1, y2, y3⟩ := fin3 HRX.out hfs5 HRB.out HALX.out _ _ _ e5l rfl rfl
        have Y1 := Lib.hid y1
        have Y2 := Lib.hid y2
        obtain ⟨z0, z1, z2⟩ := y3.three
        obtain ⟨a0, a1, a2⟩ := HRX.out.three
        have b0 := HRX.out.free 0
        have b1 := HRX.out.free 1
        have b2 := HRX.out.free 2
        have E5 := Lib.hid e5l
        clear y1 y2 y3 hfs5 e5l
        simp only at z0 z1 z2
        go_wp2_with fail
        refine bodyPost_ret (v := .tuple #[.agg #[.slice (some ⟨g, 0, none⟩) f.nodes.length cn9, .slice ad f.dir.length cd, .slice ay f.syn.length cy], .int .i64 0]) (by simp [results, Try.results12, go_sem, z0, z1, z2]) rfl ?_
        rw [HRV.out]
        exact ⟨⟨some ⟨g, 0, none⟩, cn9, ad, cd, ay, cy⟩, by simp [fsV], Y1.out, Y2.out⟩
      · by_cases h24 : f.nodes.length = 24
        · have HRV := Lib.hid (show R = (nul, 2) by rw [HPS.out, hD, show wroteR f o.name o.text = (nul, 2) by unfold wroteR; rw [if_neg (by rw [hh]; simp), if_pos h24]]; rfl)
          rw [hn]
          have g1 : ((f.nodes.length : Int) == 24) = true := by rw [h24]; rfl
          have g0 : decide ((-1 : Int) < 0) = true := rfl
          clear hD HK hk hh hn HPS
          obtain ⟨y1, y2, y3⟩ := fin3 (p := nulAt) (g := nul) HR3.out (Fss.nul _ _) HRB.out HAL3.out 0 0 0 rfl rfl rfl
          simp only [nulAt] at y1 y2 y3
          have Y1 := Lib.hid y1
          have Y2 := Lib.hid y2
          obtain ⟨z0, z1, z2⟩ := y3.three
          obtain ⟨a0, a1, a2⟩ := HR3.out.three
          have b0 := HR3.out.free 0
          have b1 := HR3.out.free 1
          have b2 := HR3.out.free 2
          clear y1 y2 y3
          go_wp2_with fail
          refine bodyPost_ret (v := .tuple #[.agg #[.slice none 0 0, .slice none 0 0, .slice none 0 0], .int .i64 2]) (by simp [results, Try.results12, go_sem, z0, z1, z2]) rfl ?_
          rw [HRV.out]
          exact ⟨nulAt, rfl, Y1.out, Y2.out⟩
        · have HRV := Lib.hid (show R = (⟨f.nodes ++ [⟨o.text, []⟩], withE f.dir ⟨o.name, (f.nodes.length : Nat)⟩, f.syn⟩, 0) by
            rw [HPS.out, hD, show wroteR f o.name o.text = (⟨f.nodes ++ [⟨o.text, []⟩], withE f.dir ⟨o.name, (f.nodes.length : Nat)⟩, f.syn⟩, 0) by unfold wroteR; rw [if_neg (by rw [hh]; simp), if_neg h24]]; rfl)
          rw [hn]
          have g0 : decide ((-1 : Int) < 0) = true := rfl
          have g1 : ((f.nodes.length : Int) == 24) = false := by rw [beq_eq_false_iff_ne]; omega
          clear hD HK hk hh hn HPS
          go_upto_region 13 with fail
          clear g0 g1 h24 d0 d1 d2 o0 o1 o2 o3 m1 m2
          go_wp2_with (at_builtin; refine wpList_append_nd rfl (.tmp 45) (.tmp 47) rfl w2.heap.size _ f.nodes rfl ?_ _ 1 1 [nulN] rfl rfl (fun h => by cases h) (nds_one w4 nulN) ?_ ?_ ?_)
          · exact World.ownsRow.alloc HM.out.nro _
          · have := hnl; simp; omega
          · simp; have := HOW2.out; omega
          intro v6 w6 hr6 hb6 hg6
          have hal6 := (Below.refl w4.heap.size w4).alloc (Nat.le_refl _) (.cells #[.string (str nulN.live), .string (str nulN.syn)] 49)
          have hb46 : Below w2.heap.size w4 w6 := (hal6.mono HOW2.out).trans hb6
          have hO6 : Bk w6 O 25 #[.slice an9 f.nodes.length cn9, .slice ad f.dir.length cd, .slice ay f.syn.length cy] := Bk.grown (HM.out.bk.next hal6) hg6 (bk_kind (World.ownsRow.alloc HM.out.nro _) (HM.out.bk.next hal6) (by decide))
          have hM7 := Mkd.setN hr6 ((HDB.out.below enAt_firm hb46).mono (Nat.le_trans HOW2.out (Nat.le_trans hal6.size hb6.size))) ((HSB.out.below enAt_firm hb46).mono (Nat.le_trans HOW2.out (Nat.le_trans hal6.size hb6.size))) (fun x hx => by
            rcases List.mem_append.1 hx with hx | hx
            · exact HM.out.nok x hx
            · rw [List.mem_singleton.1 hx]; exact ⟨Nat.zero_le _, Nat.zero_le _⟩) HM.out hO6
          have hc6 := hO6.three.1
          have hf6 := hO6.free 0
          have hsz7 : (w6.setCell ⟨O, 0, none⟩ v6).heap.size = w6.heap.size := by simp
          have HB7 := Lib.hid (hb46.setCell (p := ⟨O, 0, none⟩) HM.out.ge v6)
          obtain ⟨g, L9, c9, e9, hL9a, hBg, q0, q1, hfz, hlc, hcm⟩ := hr6.at (i := f.nodes.length) (by simp)
          have hlc9 : L9 ≤ c9 := by rw [hL9a]; exact hlc
          have hL9 : L9 = f.nodes.length + 1 := by rw [hL9a]; simp
          clear hL9a
          subst e9
          have HM7 := Lib.hid hM7
          clear hM7 hO6 hg6 hr6 hb6 hb46 hal6 q0 q1 hfz hlc f0 f1 f2 m0
          have HL9 := Lib.hid hL9
          clear hL9
          go_upto_region 14 with fail
          generalize w6.setCell ⟨O, 0, none⟩ (.slice (some ⟨g, 0, none⟩) L9 c9) = W7 at *
          clear hc6 hf6 hsz7
          have HT7 := Lib.hid (HT3.out.below HB7.out HTL.out.1)
          have HO7 := Lib.hid (HO3.out.below HB7.out HTL.out.2)
          have HR7 := Lib.hid (HR3.out.below HB7.out HOR.out.1)
          have HAL7 := Lib.hid (HAL3.out.trans (HB7.out.mono HOR.out.2))
          obtain ⟨d0, d1, d2⟩ := HT7.out.three
          obtain ⟨o0, o1, o2, o3⟩ := HO7.out.four
          have hokx : enOk ⟨o.name, (f.nodes.length : Nat)⟩ := ⟨HHO.out.2.1, by simp only; omega, by simp only; omega⟩
          have HWE := Lib.hid (rWithE_any ad cd f.dir ⟨o.name, (f.nodes.length : Nat)⟩ W7 (by omega) HM7.out.dir HDO.out hokx)
          have HOKD := Lib.hid (show ∀ x ∈ withE f.dir ⟨o.name, (f.nodes.length : Nat)⟩, enOk x from fun x hx => by
            rcases mem_withE.1 hx with rfl | ⟨hx, _⟩
            · exact hokx
            · exact HDO.out x hx)
          clear hokx
          unfold enV at HWE
          simp only at HWE
          generalize withE f.dir ⟨o.name, (f.nodes.length : Nat)⟩ = D8 at *
          go_wp2_with fail
          refine (HWE.out).mono ?_
          rintro e w8 ⟨v8, rfl, hr8, hb8⟩
          have HM8 := Lib.hid (HM7.out.next hb8)
          have HT8 := Lib.hid (HT7.out.next hb8)
          have HO8 := Lib.hid (HO7.out.next hb8)
          have HR8 := Lib.hid (HR7.out.next hb8)
          have HAL8 := Lib.hid (HAL7.out.trans (hb8.mono HAL7.out.size))
          have hW78 : w2.heap.size ≤ W7.heap.size := by have := HB7.out.size; have := HOW2.out; omega
          have HB8 := Lib.hid (HB7.out.trans (hb8.mono hW78))
          obtain ⟨a8, c8, e8, hq8, hu8⟩ := erow_read hr8
          obtain ⟨L8, hL8⟩ : ∃ L, L = D8.length := ⟨_, rfl⟩
          rw [← hL8] at e8
          subst e8
          have HM9 := Lib.hid (Mkd.setD HM8.out hL8 hu8 hq8 HOKD.out)
          obtain ⟨m0, m1, m2⟩ := HM8.out.bk.three
          have f0 := HM8.out.bk.free 0
          have f1 := HM8.out.bk.free 1
          have HR9 := Lib.hid (HR8.out.move (w' := w8.setCell ⟨O, 1, none⟩ (.slice a8 L8 c8)) (heap_set _ _ _ _ HNE.out))
          have HO9 := Lib.hid (HO8.out.move (w' := w8.setCell ⟨O, 1, none⟩ (.slice a8 L8 c8)) (heap_set _ _ _ _ (show OB ≠ O by have := HTL.out.2; have := HM.out.ge; omega)))
          have HAL9 := Lib.hid (HAL8.out.setCell (p := ⟨O, 1, none⟩) HOB.out (.slice a8 L8 c8))
          have HB9 := Lib.hid (HB8.out.setCell (p := ⟨O, 1, none⟩) HM.out.ge (.slice a8 L8 c8))
          have HE9 := Lib.hid (show ERow W7.heap.size D8 (.slice a8 L8 c8) (w8.setCell ⟨O, 1, none⟩ (.slice a8 L8 c8)) from row_move hr8 (fun k hk => heap_set _ _ _ _ (fun e2 => bk_kind hr8 HM8.out.bk (by decide) (by rw [hk]; exact congrArg some e2.symm))))
          have HL8 := Lib.hid hL8
          simp only at m0 m1 m2
          clear hr8 hb8 hu8 hq8 hW78 hL8 HWE d0 d1 d2 o0 o1 o2 o3 HT7 HO7 HR7 HAL7 HT8 HO8 HR8 HAL8 HB8 HM7
          go_upto_region 15 with fail
          generalize w8.setCell ⟨O, 1, none⟩ (.slice a8 L8 c8) = W9 at *
          clear m0 m1 m2 f0 f1
          obtain ⟨m0, m1, m2⟩ := HM9.out.bk.three
          obtain ⟨o0, o1, o2, o3⟩ := HO9.out.four
          obtain ⟨gz, Lz, cz, ez, -, hBz, q0, q1, hfz, -, -⟩ := HM9.out.nro.at (i := f.nodes.length) (by simp)
          simp only [Value.slice.injEq, Option.some.injEq, Addr.mk.injEq] at ez
          obtain ⟨⟨rfl, -⟩, -, -⟩ := ez
          have hM10 := Mkd.putN HM9.out (Or.inr ⟨_, _, HE9.out, _, rfl⟩) (HSB.out.below enAt_firm HB9.out) (i := f.nodes.length) (j := 0) (u := .string (str o.text)) (y := ⟨o.text, []⟩) (by simp) (by omega) (by simp only [app_last]; rfl) ⟨HHO.out.2.2.2, Nat.zero_le _⟩
          rw [Nat.add_zero] at hM10
          simp only [app_set] at hM10
          have HMX := Lib.hid hM10
          have hgR : RB ≠ g := by have := HOR.out; omega
          have HRX := Lib.hid (HR9.out.move (w' := W9.setCell ⟨g, f.nodes.length * 2, none⟩ (.string (str o.text))) (heap_set _ _ _ _ hgR))
          have HALX := Lib.hid (HAL9.out.setCell (p := ⟨g, f.nodes.length * 2, none⟩) (show w.heap.size ≤ g by have := HOR.out; omega) (.string (str o.text)))
          have hf0 := hfz (f.nodes.length * 2)
          have hnI : (f.nodes.length : Int) < (L9 : Int) := by have := HL9.out; omega
          simp only at m0 m1 m2
          clear hM10 hfz q1
          go_upto_region 16 with fail
          generalize W9.setCell ⟨g, f.nodes.length * 2, none⟩ (.string (str o.text)) = W5 at *
          clear m0 m1 m2 q0 o0 o1 o2 o3 hf0
          obtain ⟨a5, c5, e5, hfs5⟩ := HMX.out.fss
          simp only [Value.slice.injEq] at e5
          obtain ⟨e5a, e5l, e5b⟩ := e5
          subst e5a
          subst e5b
          obtain ⟨m0, m1, m2⟩ := HMX.out.bk.three
          simp only at m0 m1 m2
          obtain ⟨y1, y2, y3⟩ := fin3 HRX.out hfs5 HRB.out HALX.out _ _ _ e5l rfl rfl
          have Y1 := Lib.hid y1
          have Y2 := Lib.hid y2
          obtain ⟨z0, z1, z2⟩ := y3.three
          obtain ⟨a0, a1, a2⟩ := HRX.out.three
          have b0 := HRX.out.free 0
          have b1 := HRX.out.free 1
          have b2 := HRX.out.free 2
          have E5 := Lib.hid e5l
          clear y1 y2 y3 hfs5 e5l
          simp only at z0 z1 z2
          go_wp2_with fail
          refine bodyPost_ret (v := .tuple #[.agg #[.slice (some ⟨g, 0, none⟩) L9 c9, .slice a8 D8.length c8, .slice ay f.syn.length cy], .int .i64 0]) (by simp [results, Try.results12, go_sem, z0, z1, z2]) rfl ?_
          rw [HRV.out]
          exact ⟨⟨some ⟨g, 0, none⟩, c9, a8, c8, ay, cy⟩, by simp [fsV, HL9.out], Y1.out, Y2.out⟩
    · have HRV := Lib.hid (show R = (swept ⟨f.nodes, f.dir, f.dir⟩, 0) by rw [HPS.out, HK.out.2.1 hk]; rfl)
      have k1 : (o.kind == 1) = false := by rw [hk]; rfl
      have k5 : (o.kind == 5) = true := by rw [hk]; rfl
      have HMX := Lib.hid (HM.out.setS (d := f.dir) (a := ad) (c := cd) rfl (HDB.out.mono HOW2.out) HDC.out HDO.out)
      have HRX := Lib.hid (HR3.out.move (w' := w4.setCell ⟨O, 2, none⟩ (.slice ad f.dir.length cd)) (heap_set _ _ _ _ (HNE.out)))
      have HALX := Lib.hid (HAL3.out.setCell (p := ⟨O, 2, none⟩) HOB.out (.slice ad f.dir.length cd))
      have HLN := Lib.hid (show f.nodes.length ≤ 1048576 ∧ f.dir.length ≤ 1048576 ∧ f.dir.length ≤ 1048576 by omega)
      have HRG := Lib.hid (show ∀ e, e ∈ f.dir ∨ e ∈ f.dir → 0 ≤ e.node ∧ e.node ≤ 1048576 from fun e he => HRG0.out e (Or.inl (he.elim id id)))
      clear HK HPS
      obtain ⟨a5, c5, e5, hfs5⟩ := HMX.out.fss
      simp only [Value.slice.injEq] at e5
      obtain ⟨e5a, e5l, e5b⟩ := e5
      subst e5a
      subst e5b
      have HSW := Lib.hid (rSwept_any _ _ _ hfs5 HLN.out HRG.out)
      unfold fsV at HSW
      simp only at HSW
      try rw [← e5l] at HSW
      clear e5l
      obtain ⟨m0, m1, m2⟩ := HMX.out.bk.three
      simp only at m0 m1 m2
      clear hfs5 HLN HRG
      generalize swept _ = SF at *
      go_wp2_with fail
      refine (HSW.out).mono ?_
      rintro e w7 ⟨p7, rfl, hf7, hb7⟩
      clear m0 m1 m2 HSW
      have HAX := Lib.hid (HALX.out.trans (hb7.mono HALX.out.size))
      obtain ⟨y1, y2, y3⟩ := fin3 (HRX.out.next hb7) hf7 HRB.out HAX.out SF.nodes.length SF.dir.length SF.syn.length rfl rfl rfl
      have Y1 := Lib.hid y1
      have Y2 := Lib.hid y2
      obtain ⟨z0, z1, z2⟩ := y3.three
      obtain ⟨a0, a1, a2⟩ := (HRX.out.next hb7).three
      have b0 := (HRX.out.next hb7).free 0
      have b1 := (HRX.out.next hb7).free 1
      have b2 := (HRX.out.next hb7).free 2
      clear y1 y2 y3 hf7
      obtain ⟨an7, cn7, ad7, cd7, ay7, cy7⟩ := p7
      simp only at *
      go_wp2_with fail
      refine bodyPost_ret (v := .tuple #[.agg #[.slice an7 SF.nodes.length cn7, .slice ad7 SF.dir.length cd7, .slice ay7 SF.syn.length cy7], .int .i64 0]) (by simp [results, Try.results12, go_sem, z0, z1, z2]) rfl ?_
      rw [HRV.out]
      exact ⟨⟨an7, cn7, ad7, cd7, ay7, cy7⟩, rfl, Y1.out, Y2.out⟩
    · have hD := HK.out.2.2 hk
      have k1 : (o.kind == 1) = false := by rw [beq_eq_false_iff_ne]; omega
      have k5 : (o.kind == 5) = false := by rw [beq_eq_false_iff_ne]; omega
      rcases hnode with ⟨hh, n, hn, hnl2⟩ | ⟨hh, hn⟩
      · rw [hn]
        have g0 : decide ((n : Int) < 0) = false := decide_eq_false (by omega)
        have hnI : (n : Int) < (f.nodes.length : Int) := by omega
        have HRGL := Lib.hid (show ∀ e, e ∈ less f.dir o.name ∨ e ∈ f.syn → 0 ≤ e.node ∧ e.node ≤ 1048576 from fun e he => HRG0.out e (he.imp (fun h => (mem_less.1 h).1) id))
        have HLL := Lib.hid (less_len (l := f.dir) o.name)
        have HOKL := Lib.hid (show ∀ x ∈ less f.dir o.name, enOk x from fun x hx => HDO.out x (mem_less.1 hx).1)
        rcases hk with hk | hk | hk
        · have HRV := Lib.hid (show R = (swept ⟨f.nodes.set n ⟨(f.nodes.getD n nulN).live, (f.nodes.getD n nulN).live⟩, f.dir, f.syn⟩, 0) by
            rw [HPS.out, show doOp f o = (swept ⟨f.nodes.set n ⟨(f.nodes.getD n nulN).live, (f.nodes.getD n nulN).live⟩, f.dir, f.syn⟩, 0) by rw [hD, if_neg (by rw [hh]; simp), hn]; unfold turned landN; rw [if_pos hk, if_pos rfl, Int.toNat_natCast]]; rfl)
          have k2 : (o.kind == 2) = true := by rw [hk]; rfl
          have k3 : (o.kind == 3) = false := by rw [hk]; rfl
          have k4 : (o.kind == 4) = false := by rw [hk]; rfl
          obtain ⟨g, L9, c9, e9, hL9, hBg, q0, q1, hfz, hlc, hcm⟩ := HM.out.nro.at hnl2
          simp only [Value.slice.injEq] at e9
          obtain ⟨rfl, e9l, rfl⟩ := e9
          have hok := HM.out.nok _ (getD_mem f.nodes nulN n hnl2)
          have hM5 := Mkd.putN HM.out (Or.inl HDB.out) HSB.out (i := n) (j := 1) (u := .string (str (f.nodes.getD n nulN).live)) (y := ⟨(f.nodes.getD n nulN).live, (f.nodes.getD n nulN).live⟩) hnl2 (by omega) rfl ⟨hok.1, hok.1⟩
          have hgR : RB ≠ g := by have := HOR.out; omega
          have HRX := Lib.hid ((HR3.out.move (w' := w4.setCell ⟨g, n * 2 + 1, none⟩ (.string (str (f.nodes.getD n nulN).live))) (heap_set _ _ _ _ hgR)).next (Below.refl _ _).drew)
          have HALX := Lib.hid ((HAL3.out.setCell (p := ⟨g, n * 2 + 1, none⟩) (show w.heap.size ≤ g by have := HOR.out; omega) (.string (str (f.nodes.getD n nulN).live))).drew)
          have HMX := Lib.hid (hM5.next (Below.refl _ _).drew)
          have hO2 : (w4.setCell ⟨g, n * 2 + 1, none⟩ (.string (str (f.nodes.getD n nulN).live))).drew.cell? ⟨OB, 0, none⟩ = some (.int .i64 o.kind) := by
            have := HTL.out.2
            rw [show (w4.setCell ⟨g, n * 2 + 1, none⟩ (.string (str (f.nodes.getD n nulN).live))).drew.cell? ⟨OB, 0, none⟩ = w4.cell? ⟨OB, 0, none⟩ from by show (w4.setCell ⟨g, n * 2 + 1, none⟩ (.string (str (f.nodes.getD n nulN).live))).cell? ⟨OB, 0, none⟩ = _; simp only [World.cell?]; rw [heap_set w4 ⟨g, n * 2 + 1, none⟩ (.string (str (f.nodes.getD n nulN).live)) OB (by show OB ≠ g; omega)]]; exact o0
          have hf0 := hfz (n * 2 + 1)
          have HLN := Lib.hid (show (f.nodes.set n ⟨(f.nodes.getD n nulN).live, (f.nodes.getD n nulN).live⟩).length ≤ 1048576 ∧ f.dir.length ≤ 1048576 ∧ f.syn.length ≤ 1048576 by rw [List.length_set]; omega)
          have HRG := HRG0
          clear hM5 hD HK hk hh hn HPS hfz hok e9l hL9 HRGL HLL HOKL
          generalize f.nodes.set n ⟨(f.nodes.getD n nulN).live, (f.nodes.getD n nulN).live⟩ = LL at *
          generalize str (f.nodes.getD n nulN).live = X at *
          go_wp2_with fail
          go_region
          all_goals (
            generalize (w4.setCell ⟨g, n * 2 + 1, none⟩ (.string X)).drew = W5 at *
            clear m0 m1 m2 q0 q1 d0 d1 d2 o0 o1 o2 o3 f0 f1 f2 hf0
            obtain ⟨a5, c5, e5, hfs5⟩ := HMX.out.fss
            simp only [Value.slice.injEq] at e5
            obtain ⟨e5a, e5l, e5b⟩ := e5
            subst e5a
            subst e5b
            have HSW := Lib.hid (rSwept_any _ _ _ hfs5 HLN.out HRG.out)
            unfold fsV at HSW
            simp only at HSW
            try rw [← e5l] at HSW
            clear e5l
            obtain ⟨m0, m1, m2⟩ := HMX.out.bk.three
            simp only at m0 m1 m2
            clear hfs5 HLN HRG
            generalize swept _ = SF at *
            go_wp2_with fail
            refine (HSW.out).mono ?_
            rintro e w7 ⟨p7, rfl, hf7, hb7⟩
            clear m0 m1 m2 HSW
            have HAX := Lib.hid (HALX.out.trans (hb7.mono HALX.out.size))
            obtain ⟨y1, y2, y3⟩ := fin3 (HRX.out.next hb7) hf7 HRB.out HAX.out SF.nodes.length SF.dir.length SF.syn.length rfl rfl rfl
            have Y1 := Lib.hid y1
            have Y2 := Lib.hid y2
            obtain ⟨z0, z1, z2⟩ := y3.three
            obtain ⟨a0, a1, a2⟩ := (HRX.out.next hb7).three
            have b0 := (HRX.out.next hb7).free 0
            have b1 := (HRX.out.next hb7).free 1
            have b2 := (HRX.out.next hb7).free 2
            clear y1 y2 y3 hf7
            obtain ⟨an7, cn7, ad7, cd7, ay7, cy7⟩ := p7
            simp only at *
            go_wp2_with fail
            refine bodyPost_ret (v := .tuple #[.agg #[.slice an7 SF.nodes.length cn7, .slice ad7 SF.dir.length cd7, .slice ay7 SF.syn.length cy7], .int .i64 0]) (by simp [results, Try.results12, go_sem, z0, z1, z2]) rfl ?_
            rw [HRV.out]
            exact ⟨⟨an7, cn7, ad7, cd7, ay7, cy7⟩, rfl, Y1.out, Y2.out⟩)
        · have HRV := Lib.hid (show R = (swept ⟨f.nodes, withE (less f.dir o.name) ⟨o.to, (n : Int)⟩, f.syn⟩, 0) by
            rw [HPS.out, show doOp f o = (swept ⟨f.nodes, withE (less f.dir o.name) ⟨o.to, (n : Int)⟩, f.syn⟩, 0) by rw [hD, if_neg (by rw [hh]; simp), hn]; unfold turned; rw [if_neg (by rw [hk]; decide), if_pos hk]]; rfl)
          have k2 : (o.kind == 2) = false := by rw [hk]; rfl
          have k3 : (o.kind == 3) = true := by rw [hk]; rfl
          have k4 : (o.kind == 4) = false := by rw [hk]; rfl
          have hself4 := Below.refl w4.heap.size w4
          have hself : Below w2.heap.size w4 w4 := Below.refl _ _
          have t1 : ∀ W, Below w2.heap.size w4 W → W.cell? ⟨TB, 1, none⟩ = some (.slice ad f.dir.length cd) := fun W hb => (HT3.out.below hb HTL.out.1).three.2.1
          have p1 : ∀ W, Below w2.heap.size w4 W → W.cell? ⟨OB, 1, none⟩ = some (.string (str o.name)) := fun W hb => (HO3.out.below hb HTL.out.2).four.2.1
          have p2 : ∀ W, Below w2.heap.size w4 W → W.cell? ⟨OB, 2, none⟩ = some (.string (str o.to)) := fun W hb => (HO3.out.below hb HTL.out.2).four.2.2.1
          have s1 : ∀ W, Below w4.heap.size w4 W → W.cell? ⟨O, 1, none⟩ = some (.slice ad f.dir.length cd) := fun W hb => (HM.out.bk.next hb).three.2.1
          have s2 : ∀ W, Below w4.heap.size w4 W → W.frozen? ⟨O, 1, none⟩ = false := fun W hb => (HM.out.bk.next hb).free 1
          have hOl := HM.out.bk.lt
          have hokx : enOk ⟨o.to, (n : Int)⟩ := ⟨HHO.out.2.2.1, by simp only; omega, by simp only; omega⟩
          have HWO := Lib.hid (fun W (hb : Below w2.heap.size w4 W) => rWithout_any ad cd f.dir o.name W (by omega) ((HDB.out.below enAt_firm hb).mono (Nat.le_trans HOW2.out hb.size)))
          have HDL := Lib.hid (show (less f.dir o.name).length ≤ 1048576 by have := HLL.out; omega)
          have HWE := Lib.hid (fun W a c (hu : Ens W W.heap.size a (less f.dir o.name)) => rWithE_any a c (less f.dir o.name) ⟨o.to, (n : Int)⟩ W HDL.out hu HOKL.out hokx)
          have HOK8 := Lib.hid (show ∀ x ∈ withE (less f.dir o.name) ⟨o.to, (n : Int)⟩, enOk x from fun x hx => by
            rcases mem_withE.1 hx with rfl | ⟨hx, _⟩
            · exact hokx
            · exact HOKL.out x hx)
          have HRG := Lib.hid (show ∀ e, e ∈ withE (less f.dir o.name) ⟨o.to, (n : Int)⟩ ∨ e ∈ f.syn → 0 ≤ e.node ∧ e.node ≤ 1048576 from fun e he => by
            rcases he with he | he
            · rcases mem_withE.1 he with rfl | ⟨he, _⟩
              · simp only; omega
              · exact HRGL.out e (Or.inl he)
            · exact HRG0.out e (Or.inr he))
          have HLN := Lib.hid (show f.nodes.length ≤ 1048576 ∧ (withE (less f.dir o.name) ⟨o.to, (n : Int)⟩).length ≤ 1048576 ∧ f.syn.length ≤ 1048576 by have := withE_ln (less f.dir o.name) ⟨o.to, (n : Int)⟩; have := HLL.out; omega)
          unfold enV at HWE
          simp only at HWE
          clear hokx hD HK hk hh hn HPS HRGL HLL HOKL HDL
          generalize withE (less f.dir o.name) ⟨o.to, (n : Int)⟩ = D8 at *
          generalize less f.dir o.name = D5 at *
          go_wp2_with fail
          have HO1 := Lib.hid (fun W (hb : Below w4.heap.size w4 W) => show Below w2.heap.size w4 W from hb.mono HOW2.out)
          go_region_held3 (fun W => Below w2.heap.size w4 W)
            (first
              | assumption
              | exact (show Below w2.heap.size w4 _ by assumption).drew
              | exact HO1.out _ hS5
              | exact HO1.out _ hS6
              | exact HO1.out _ hS5.drew
              | exact HO1.out _ hS6.drew
              | exact (HO1.out _ hS6).setCell (p := ⟨O, 1, none⟩) HM.out.ge _
              | exact (HO1.out _ hS6.drew).setCell (p := ⟨O, 1, none⟩) HM.out.ge _)
            (first
              | (go_at_call 31; (with_reducible refine (HWO.out _ (by assumption)).mono ?_); rintro e w5 ⟨v5, rfl, hr5, hb5⟩; obtain ⟨a5, c5, rfl, hq5, hu5⟩ := erow_read hr5; have hS5 : Below w4.heap.size w4 w5 := by { first | exact hb5 | exact Below.trans hself4.drew hb5 | exact Below.trans hself4 hb5 })
              | (go_at_call 29; refine Calls.mono (HWE.out _ _ _ (by first | exact hu5 | exact hu5.next enAt_firm (Below.refl _ _).drew)) ?_; rintro e w6 ⟨v6, rfl, hr6, hb6⟩; obtain ⟨a6, c6, rfl, hq6, hu6⟩ := erow_read hr6; have hS6 : Below w4.heap.size w4 w6 := by { first | exact hS5.trans (hb6.mono hS5.size) | exact hS5.drew.trans (hb6.mono hS5.size) }))
          all_goals (
            have HMX := Lib.hid (Mkd.setD (HM.out.next hS6) rfl hu6 hq6 HOK8.out)
            have HRX := Lib.hid ((HR3.out.next hS6).move (w' := w6.setCell ⟨O, 1, none⟩ (.slice a6 D8.length c6)) (heap_set _ _ _ _ HNE.out))
            have HALX := Lib.hid ((HAL3.out.trans (hS6.mono HAL3.out.size)).setCell (p := ⟨O, 1, none⟩) HOB.out (.slice a6 D8.length c6))
            have hO2 : (w6.setCell ⟨O, 1, none⟩ (.slice a6 D8.length c6)).cell? ⟨OB, 0, none⟩ = some (.int .i64 o.kind) := (((HO3.out.next hS6).move (w' := w6.setCell ⟨O, 1, none⟩ (.slice a6 D8.length c6)) (heap_set _ _ _ _ (show OB ≠ O by have := HTL.out.2; have := HM.out.ge; omega))).four).1
            clear hr5 hr6 hq5 hq6 hu5 hu6 hb5 hb6 hS5 hS6 t1 p1 p2 s1 s2
            generalize w6.setCell ⟨O, 1, none⟩ (.slice a6 D8.length c6) = W5 at *
            clear m0 m1 m2 d0 d1 d2 o0 o1 o2 o3 f0 f1 f2
            obtain ⟨a5, c5, e5, hfs5⟩ := HMX.out.fss
            simp only [Value.slice.injEq] at e5
            obtain ⟨e5a, e5l, e5b⟩ := e5
            subst e5a
            subst e5b
            have HSW := Lib.hid (rSwept_any _ _ _ hfs5 HLN.out HRG.out)
            unfold fsV at HSW
            simp only at HSW
            try rw [← e5l] at HSW
            clear e5l
            obtain ⟨m0, m1, m2⟩ := HMX.out.bk.three
            simp only at m0 m1 m2
            clear hfs5 HLN HRG
            generalize swept _ = SF at *
            go_wp2_with fail
            refine (HSW.out).mono ?_
            rintro e w7 ⟨p7, rfl, hf7, hb7⟩
            clear m0 m1 m2 HSW
            have HAX := Lib.hid (HALX.out.trans (hb7.mono HALX.out.size))
            obtain ⟨y1, y2, y3⟩ := fin3 (HRX.out.next hb7) hf7 HRB.out HAX.out SF.nodes.length SF.dir.length SF.syn.length rfl rfl rfl
            have Y1 := Lib.hid y1
            have Y2 := Lib.hid y2
            obtain ⟨z0, z1, z2⟩ := y3.three
            obtain ⟨a0, a1, a2⟩ := (HRX.out.next hb7).three
            have b0 := (HRX.out.next hb7).free 0
            have b1 := (HRX.out.next hb7).free 1
            have b2 := (HRX.out.next hb7).free 2
            clear y1 y2 y3 hf7
            obtain ⟨an7, cn7, ad7, cd7, ay7, cy7⟩ := p7
            simp only at *
            go_wp2_with fail
            refine bodyPost_ret (v := .tuple #[.agg #[.slice an7 SF.nodes.length cn7, .slice ad7 SF.dir.length cd7, .slice ay7 SF.syn.length cy7], .int .i64 0]) (by simp [results, Try.results12, go_sem, z0, z1, z2]) rfl ?_
            rw [HRV.out]
            exact ⟨⟨an7, cn7, ad7, cd7, ay7, cy7⟩, rfl, Y1.out, Y2.out⟩)
        · have HRV := Lib.hid (show R = (swept ⟨f.nodes, less f.dir o.name, f.syn⟩, 0) by
            rw [HPS.out, show doOp f o = (swept ⟨f.nodes, less f.dir o.name, f.syn⟩, 0) by rw [hD, if_neg (by rw [hh]; simp), hn]; unfold turned; rw [if_neg (by rw [hk]; decide), if_neg (by rw [hk]; decide)]]; rfl)
          have k2 : (o.kind == 2) = false := by rw [hk]; rfl
          have k3 : (o.kind == 3) = false := by rw [hk]; rfl
          have k4 : (o.kind == 4) = true := by rw [hk]; rfl
          have HWO := Lib.hid (rWithout_any ad cd f.dir o.name w4 (by omega) (HDB.out.mono HOW2.out))
          have HLN := Lib.hid (show f.nodes.length ≤ 1048576 ∧ (less f.dir o.name).length ≤ 1048576 ∧ f.syn.length ≤ 1048576 by have := HLL.out; omega)
          have HRG := HRGL
          clear hD HK hk hh hn HPS HRGL HLL
          generalize less f.dir o.name = D5 at *
          go_wp2_with fail
          refine (HWO.out).mono ?_
          rintro e w5 ⟨v5, rfl, hr5, hb5⟩
          obtain ⟨a6, c6, rfl, hq6, hu6⟩ := erow_read hr5
          have HMX := Lib.hid (Mkd.setD (HM.out.next hb5) rfl hu6 hq6 HOKL.out)
          have HRX := Lib.hid ((HR3.out.next hb5).move (w' := w5.setCell ⟨O, 1, none⟩ (.slice a6 D5.length c6)) (heap_set _ _ _ _ HNE.out))
          have HALX := Lib.hid ((HAL3.out.trans (hb5.mono HAL3.out.size)).setCell (p := ⟨O, 1, none⟩) HOB.out (.slice a6 D5.length c6))
          obtain ⟨x0, x1, x2⟩ := (HM.out.bk.next hb5).three
          have y1 := (HM.out.bk.next hb5).free 1
          simp only at x0 x1 x2
          clear hr5 hb5 hq6 hu6 HWO m0 m1 m2 d0 d1 d2 o0 o1 o2 o3 f0 f1 f2
          go_upto_region 28 with fail
          generalize w5.setCell ⟨O, 1, none⟩ (.slice a6 D5.length c6) = W5 at *
          clear x0 x1 x2 y1
          obtain ⟨a5, c5, e5, hfs5⟩ := HMX.out.fss
          simp only [Value.slice.injEq] at e5
          obtain ⟨e5a, e5l, e5b⟩ := e5
          subst e5a
          subst e5b
          have HSW := Lib.hid (rSwept_any _ _ _ hfs5 HLN.out HRG.out)
          unfold fsV at HSW
          simp only at HSW
          try rw [← e5l] at HSW
          clear e5l
          obtain ⟨m0, m1, m2⟩ := HMX.out.bk.three
          simp only at m0 m1 m2
          clear hfs5 HLN HRG
          generalize swept _ = SF at *
          go_wp2_with fail
          refine (HSW.out).mono ?_
          rintro e w7 ⟨p7, rfl, hf7, hb7⟩
          clear m0 m1 m2 HSW
          have HAX := Lib.hid (HALX.out.trans (hb7.mono HALX.out.size))
          obtain ⟨y1, y2, y3⟩ := fin3 (HRX.out.next hb7) hf7 HRB.out HAX.out SF.nodes.length SF.dir.length SF.syn.length rfl rfl rfl
          have Y1 := Lib.hid y1
          have Y2 := Lib.hid y2
          obtain ⟨z0, z1, z2⟩ := y3.three
          obtain ⟨a0, a1, a2⟩ := (HRX.out.next hb7).three
          have b0 := (HRX.out.next hb7).free 0
          have b1 := (HRX.out.next hb7).free 1
          have b2 := (HRX.out.next hb7).free 2
          clear y1 y2 y3 hf7
          obtain ⟨an7, cn7, ad7, cd7, ay7, cy7⟩ := p7
          simp only at *
          go_wp2_with fail
          refine bodyPost_ret (v := .tuple #[.agg #[.slice an7 SF.nodes.length cn7, .slice ad7 SF.dir.length cd7, .slice ay7 SF.syn.length cy7], .int .i64 0]) (by simp [results, Try.results12, go_sem, z0, z1, z2]) rfl ?_
          rw [HRV.out]
          exact ⟨⟨an7, cn7, ad7, cd7, ay7, cy7⟩, rfl, Y1.out, Y2.out⟩
      · have HRV := Lib.hid (show R = (nul, 5) by rw [HPS.out, hD, if_pos hh]; rfl)
        rw [hn]
        have g0 : decide ((-1 : Int) < 0) = true := rfl
        clear hD HK hk hh hn HPS
        obtain ⟨y1, y2, y3⟩ := fin3 (p := nulAt) (g := nul) HR3.out (Fss.nul _ _) HRB.out HAL3.out 0 0 0 rfl rfl rfl
        simp only [nulAt] at y1 y2 y3
        have Y1 := Lib.hid y1
        have Y2 := Lib.hid y2
        obtain ⟨z0, z1, z2⟩ := y3.three
        obtain ⟨a0, a1, a2⟩ := HR3.out.three
        have b0 := HR3.out.free 0
        have b1 := HR3.out.free 1
        have b2 := HR3.out.free 2
        clear y1 y2 y3
        go_wp2_with fail
        refine bodyPost_ret (v := .tuple #[.agg #[.slice none 0 0, .slice none 0 0, .slice none 0 0], .int .i64 5]) (by simp [results, Try.results12, go_sem, z0, z1, z2]) rfl ?_
        rw [HRV.out]
        exact ⟨nulAt, rfl, Y1.out, Y2.out⟩
end Go.Proofs.Ytmjcdjekakaigaa.Fs
