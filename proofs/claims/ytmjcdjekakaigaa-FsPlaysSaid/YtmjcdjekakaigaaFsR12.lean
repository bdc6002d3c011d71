/- The walk of the reference's PlayedOf. -/
import Derived.Test.YtmjcdjekakaigaaFsR11
namespace Go.Proofs.Ytmjcdjekakaigaa.Fs
open Go.RowKit
set_option linter.unusedVariables false

/-- where a play stands behind k ops: a file system that is right, or an error -/
def PSt (R : T × Nat) (l : List Op) (g : T) (er k : Nat) : Prop := (er = 0 ∧ Ok g ∧ R = playF g (l.drop k)) ∨ (er ≠ 0 ∧ R = (nul, er))
theorem pst_step {R : T × Nat} {l : List Op} {g : T} {k : Nat} (hk : k < l.length) (h : PSt R l g 0 k) : PSt R l (play g [l.getD k nulO]).1 (play g [l.getD k nulO]).2 (k + 1) := by
  rcases h with ⟨_, hok, he⟩ | ⟨h, _⟩
  · rw [play_single, if_neg (by rw [(check_ok g).2 hok]; simp)]
    by_cases hd : (doOp g (l.getD k nulO)).2 ≠ 0
    · rw [if_pos hd]
      exact Or.inr ⟨hd, by rw [he, drop_cons l nulO k hk, playF, if_pos hd]⟩
    · rw [if_neg hd]
      exact Or.inl ⟨rfl, doOp_ok hok (by omega), by rw [he, drop_cons l nulO k hk, playF, if_neg hd]⟩
  · exact absurd rfl h
theorem pst_lt {R : T × Nat} {l : List Op} {g : T} {er k : Nat} (h : PSt R l g er k) : er < 9 → True := fun _ => trivial
set_option maxHeartbeats 8000000 in
set_option maxRecDepth 100000 in
theorem rPlay_any (p : At) (f : T) (a : Option Addr) (c : Nat) (l : List Op) (w : World) (h : Fss w w.heap.size p f) (hlm : l.length ≤ maxLen) (hu : Ops w w.heap.size a l) (hol : ∀ x ∈ l, opOk x) :
    Calls Try.prog 19 #[fsV p f, .slice a l.length c] w (RFsEPost (play f l) w) := by
  have hal0 := (Below.refl w.heap.size w).alloc (Nat.le_refl _) (.cells #[.slice p.an f.nodes.length p.cn, .slice p.ad f.dir.length p.cd, .slice p.ay f.syn.length p.cy] 25)
  have hT0 := bk_new w 25 #[.slice p.an f.nodes.length p.cn, .slice p.ad f.dir.length p.cd, .slice p.ay f.syn.length p.cy]
  have hF0 := h.next hal0
  have hU0 := hu.next opAt_firm hal0
  have e1 : (w.alloc (.cells #[.slice p.an f.nodes.length p.cn, .slice p.ad f.dir.length p.cd, .slice p.ay f.syn.length p.cy] 25)).heap.size = w.heap.size + 1 := by simp
  generalize hWa : w.alloc (.cells #[.slice p.an f.nodes.length p.cn, .slice p.ad f.dir.length p.cd, .slice p.ay f.syn.length p.cy] 25) = Wa at *
  have hal2 := (Below.refl Wa.heap.size Wa).alloc (Nat.le_refl _) (.cells #[.slice none 0 0, .slice none 0 0, .slice none 0 0] 25)
  have hR := bk_new Wa 25 #[.slice none 0 0, .slice none 0 0, .slice none 0 0]
  have hT2 := hT0.next hal2
  have hF2 := hF0.next hal2
  have hU2 := hU0.next opAt_firm hal2
  generalize hWc : Wa.alloc (.cells #[.slice none 0 0, .slice none 0 0, .slice none 0 0] 25) = Wc at *
  rw [e1] at hR
  have hal : Below w.heap.size w Wc := hal0.trans (hal2.mono (by omega))
  have HW := Lib.hid (show (w.alloc (.cells #[.slice p.an f.nodes.length p.cn, .slice p.ad f.dir.length p.cd, .slice p.ay f.syn.length p.cy] 25)).alloc (.cells #[.slice none 0 0, .slice none 0 0, .slice none 0 0] 25) = Wc by rw [hWa, hWc])
  obtain ⟨RB, hRB⟩ : ∃ RB, RB = w.heap.size + 1 := ⟨_, rfl⟩
  obtain ⟨TB, hTB⟩ : ∃ TB, TB = w.heap.size := ⟨_, rfl⟩
  rw [← hRB] at hR
  rw [← hTB] at hT2
  have HRB := Lib.hid (show w.heap.size ≤ RB by omega)
  have HTR := Lib.hid (show w.heap.size ≤ TB ∧ RB ≠ TB by omega)
  have HN1 := Lib.hid (show w.heap.size + 1 = RB by omega)
  have HN2 := Lib.hid (show w.heap.size = TB by omega)
  have HT := Lib.hid hT2
  have HR := Lib.hid hR
  have HF := Lib.hid hF2
  have HU := Lib.hid hU2
  have HU0 := Lib.hid hu
  have HAL := Lib.hid hal
  have HC := Lib.hid (rCheck_any p f Wc hF2)
  have HOL := Lib.hid (fun j (hj : j < l.length) => hol _ (getD_mem l nulO j hj))
  have hcl := check_lt f
  have hst : ∃ er, er < 9 ∧ PSt (play f l) l f er 0 ∧ (er = 0 ↔ check f = 0 ∧ l.length ≤ 64) ∧ (check f ≠ 0 → er = check f) ∧ (check f = 0 → 64 < l.length → er = 2) := by
    unfold play
    by_cases hc : check f ≠ 0
    · exact ⟨check f, hcl, by rw [if_pos hc]; exact Or.inr ⟨hc, rfl⟩, by omega, fun _ => rfl, fun h => absurd h hc⟩
    · rw [if_neg hc]
      by_cases h6 : 64 < l.length
      · exact ⟨2, by omega, by rw [if_pos h6]; exact Or.inr ⟨by omega, rfl⟩, by omega, fun h => absurd h hc, fun _ _ => rfl⟩
      · exact ⟨0, by omega, by rw [if_neg h6]; exact Or.inl ⟨rfl, (check_ok f).1 (by omega), by rw [List.drop_zero]⟩, by omega, fun h => absurd h hc, fun _ h => absurd h h6⟩
  obtain ⟨er, her9, hst, hz, hz1, hz2⟩ := hst
  have HST := Lib.hid hst
  have HSTEP := Lib.hid (fun (g : T) k (hk : k < l.length) h => pst_step (R := play f l) (g := g) hk h)
  generalize play f l = R at *
  obtain ⟨an, cn, ad, cd, ay, cy⟩ := p
  unfold fsV at *
  simp only at *
  unfold maxLen at hlm
  clear hWa hWc hal0 hal2 hT0 hT2 hF0 hF2 hU0 hU2 hR e1 h hal hRB hTB hst hu hol
  go_enter Try.func19, Try.ntmps19
  go_wp2_with fail
  rw [HW.out, HN1.out, HN2.out]
  obtain ⟨d0, d1, d2⟩ := HT.out.three
  go_wp2_with fail
  refine (HC.out).mono ?_
  rintro e w1 ⟨rfl, hb1⟩
  have HT1 := Lib.hid (HT.out.next hb1)
  have HR1 := Lib.hid (HR.out.next hb1)
  have HF1 := Lib.hid (HF.out.next hb1)
  have HAL1 := Lib.hid (HAL.out.trans (hb1.mono HAL.out.size))
  clear d0 d1 d2 HC hb1 HT HR HF HAL HU
  -- the ways to the loop
  by_cases hc : check f ≠ 0
  · have g1 : ((check f : Int) == 0) = false := by rw [beq_eq_false_iff_ne]; omega
    have he := hz1 hc
    subst he
    clear hz hz1 hz2 hc
    go_wp2_with fail
    go_loopw [6, 7] (fun v6 v7 wr => ∃ (k er : Nat) (g : T) (q : At), k ≤ l.length ∧ v7 = .int .i64 k ∧ v6 = .int .i64 er ∧ Hid (PSt R l g er k) ∧ Hid (Fss wr wr.heap.size q g) ∧ Hid (Bk wr TB 25 #[.slice q.an g.nodes.length q.cn, .slice q.ad g.dir.length q.cd, .slice q.ay g.syn.length q.cy]) ∧ Hid (Bk wr RB 25 #[.slice none 0 0, .slice none 0 0, .slice none 0 0]) ∧ Below w.heap.size w wr) (fun _ v7 _ => l.length - (intOf v7).toNat)
    case atStart => exact ⟨0, _, f, ⟨an, cn, ad, cd, ay, cy⟩, by omega, rfl, rfl, HST, HF1, HT1, HR1, HAL1.out⟩
    case round =>
      obtain ⟨k, er, g, q, hk, rfl, rfl, HS, HG, HTB, HRW, hbw⟩ := hrel
      by_cases hlt : k < l.length
      · have hkI : decide ((k : Int) < (l.length : Int)) = true := decide_eq_true (by omega)
        by_cases he : er = 0
        · subst he
          obtain ⟨bb, off, rfl, hbb, hcc⟩ := HU0.out (fun e => by rw [e] at hlt; simp at hlt)
          obtain ⟨k0, k1, k2, k3⟩ := hcc k hlt
          have c0 := (hbw.cell (p := ⟨bb, off + k * 4, none⟩) hbb).trans k0
          have c1 := (hbw.cell (p := ⟨bb, off + k * 4 + 1, none⟩) hbb).trans k1
          have c2 := (hbw.cell (p := ⟨bb, off + k * 4 + 2, none⟩) hbb).trans k2
          have c3 := (hbw.cell (p := ⟨bb, off + k * 4 + 3, none⟩) hbb).trans k3
          have HD := Lib.hid (fun W (hb : Below wr.heap.size wr W) => rDone_any q g (l.getD k nulO) W (HG.out.next hb) (HOL.out k hlt))
          have HNX := Lib.hid (HSTEP.out g k hlt HS.out)
          have hkI2 : (k : Int) < (l.length : Int) := by omega
          have hself := Below.refl wr.heap.size wr
          obtain ⟨qan, qcn, qad, qcd, qay, qcy⟩ := q
          unfold fsV opV at HD
          simp only at HD HTB
          obtain ⟨t0, t1, t2⟩ := HTB.out.three
          generalize play g [l.getD k nulO] = R9 at *
          obtain ⟨g9, er9⟩ := R9
          simp only at HD HNX
          generalize str (l.getD k nulO).name = X1 at *
          generalize str (l.getD k nulO).to = X2 at *
          generalize str (l.getD k nulO).text = X3 at *
          generalize (l.getD k nulO).kind = K0 at *
          clear k0 k1 k2 k3 hcc
          have HBW := Lib.hid hbw
          clear hbw
          go_wp2_with fail
          go_region_with (first
              | (go_at_call 12; (with_reducible refine (HD.out _ (by first | exact hself | exact hself.drew | exact hself.drew.drew)).mono ?_); rintro e w5 ⟨p5, rfl, hf5, hb5⟩; obtain ⟨an5, cn5, ad5, cd5, ay5, cy5⟩ := p5; have hS5 : Below wr.heap.size wr w5 := by { first | exact hb5 | exact Below.trans hself.drew hb5 }; simp only at hf5; obtain ⟨x0, x1, x2⟩ := (HTB.out.next hS5).three; have y0 := (HTB.out.next hS5).free 0; have y1 := (HTB.out.next hS5).free 1; have y2 := (HTB.out.next hS5).free 2))
          all_goals (
            have hq := fin3 (w := w) (HTB.out.next hS5) hf5 HTR.out.1 (HBW.out.trans (hS5.mono HBW.out.size)) g9.nodes.length g9.dir.length g9.syn.length rfl rfl rfl
            obtain ⟨y3, y4, y5⟩ := hq
            have Y3 := Lib.hid y3
            have Y4 := Lib.hid y4
            have Y5 := Lib.hid y5
            have Y6 := Lib.hid ((HRW.out.next hS5).move (heap_put3 w5 TB (.slice an5 g9.nodes.length cn5) (.slice ad5 g9.dir.length cd5) (.slice ay5 g9.syn.length cy5) RB HTR.out.2))
            simp only at Y3 Y4 Y5 Y6
            clear hf5 hb5 hS5 x0 x1 x2 t0 t1 t2 c0 c1 c2 c3 y0 y1 y2 y3 y4 y5
            generalize ((w5.setCell ⟨TB, 0, none⟩ (.slice an5 g9.nodes.length cn5)).setCell ⟨TB, 1, none⟩ (.slice ad5 g9.dir.length cd5)).setCell ⟨TB, 2, none⟩ (.slice ay5 g9.syn.length cy5) = W6 at *
            go_wp2_with fail
            exact ⟨⟨k + 1, er9, g9, ⟨an5, cn5, ad5, cd5, ay5, cy5⟩, by omega, by go_num, rfl, HNX, Y3, Y5, Y6, Y4.out⟩, by simp [intOf]; omega⟩)
        · have g1 : ((er : Int) == 0) = false := by rw [beq_eq_false_iff_ne]; omega
          have g2 : ((er : Int) != 0) = true := by rw [bne_iff_ne]; omega
          have HRV := Lib.hid (show R = (nul, er) by
            rcases HS.out with ⟨h, _⟩ | ⟨_, h⟩
            · exact absurd h he
            · exact h)
          clear HS he
          obtain ⟨y3, y4, y5⟩ := fin3 (p := nulAt) (g := nul) HRW.out (Fss.nul _ _) HRB.out hbw 0 0 0 rfl rfl rfl
          simp only [nulAt] at y3 y4 y5
          have Y1 := Lib.hid y3
          have Y2 := Lib.hid y4
          obtain ⟨z0, z1, z2⟩ := y5.three
          obtain ⟨a0, a1, a2⟩ := HRW.out.three
          have b0 := HRW.out.free 0
          have b1 := HRW.out.free 1
          have b2 := HRW.out.free 2
          clear y3 y4 y5
          go_wp2_with fail
          refine bodyPost_ret (v := .tuple #[.agg #[.slice none 0 0, .slice none 0 0, .slice none 0 0], .int .i64 er]) (by simp [results, Try.results19, go_sem, z0, z1, z2]) rfl ?_
          rw [HRV.out]
          exact ⟨nulAt, rfl, Y1.out, Y2.out⟩
      · obtain rfl : k = l.length := by omega
        by_cases he : er = 0
        · subst he
          have HRV := Lib.hid (show R = (g, 0) by
            rcases HS.out with ⟨_, _, h⟩ | ⟨h, _⟩
            · rw [h, List.drop_length]; rfl
            · exact absurd rfl h)
          clear HS
          obtain ⟨y3, y4, y5⟩ := fin3 HRW.out HG.out HRB.out hbw g.nodes.length g.dir.length g.syn.length rfl rfl rfl
          obtain ⟨qan, qcn, qad, qcd, qay, qcy⟩ := q
          simp only at y3 y4 y5 HTB
          have Y1 := Lib.hid y3
          have Y2 := Lib.hid y4
          obtain ⟨z0, z1, z2⟩ := y5.three
          obtain ⟨t0, t1, t2⟩ := HTB.out.three
          obtain ⟨a0, a1, a2⟩ := HRW.out.three
          have b0 := HRW.out.free 0
          have b1 := HRW.out.free 1
          have b2 := HRW.out.free 2
          clear y3 y4 y5
          go_wp2_with fail
          refine bodyPost_ret (v := .tuple #[.agg #[.slice qan g.nodes.length qcn, .slice qad g.dir.length qcd, .slice qay g.syn.length qcy], .int .i64 0]) (by simp [results, Try.results19, go_sem, z0, z1, z2]) rfl ?_
          rw [HRV.out]
          exact ⟨⟨qan, qcn, qad, qcd, qay, qcy⟩, rfl, Y1.out, Y2.out⟩
        · have g1 : ((er : Int) == 0) = false := by rw [beq_eq_false_iff_ne]; omega
          have g2 : ((er : Int) != 0) = true := by rw [bne_iff_ne]; omega
          have HRV := Lib.hid (show R = (nul, er) by
            rcases HS.out with ⟨h, _⟩ | ⟨_, h⟩
            · exact absurd h he
            · exact h)
          clear HS he
          obtain ⟨y3, y4, y5⟩ := fin3 (p := nulAt) (g := nul) HRW.out (Fss.nul _ _) HRB.out hbw 0 0 0 rfl rfl rfl
          simp only [nulAt] at y3 y4 y5
          have Y1 := Lib.hid y3
          have Y2 := Lib.hid y4
          obtain ⟨z0, z1, z2⟩ := y5.three
          obtain ⟨a0, a1, a2⟩ := HRW.out.three
          have b0 := HRW.out.free 0
          have b1 := HRW.out.free 1
          have b2 := HRW.out.free 2
          clear y3 y4 y5
          go_wp2_with fail
          refine bodyPost_ret (v := .tuple #[.agg #[.slice none 0 0, .slice none 0 0, .slice none 0 0], .int .i64 er]) (by simp [results, Try.results19, go_sem, z0, z1, z2]) rfl ?_
          rw [HRV.out]
          exact ⟨nulAt, rfl, Y1.out, Y2.out⟩
  have hc0 : check f = 0 := by omega
  rw [hc0]
  clear hcl
  by_cases h6 : 64 < l.length
  · have g2 : decide ((64 : Int) < (l.length : Int)) = true := decide_eq_true (by omega)
    have he := hz2 hc0 h6
    subst he
    clear hz hz1 hz2 hc hc0
    go_wp2_with fail
    go_loopw [6, 7] (fun v6 v7 wr => ∃ (k er : Nat) (g : T) (q : At), k ≤ l.length ∧ v7 = .int .i64 k ∧ v6 = .int .i64 er ∧ Hid (PSt R l g er k) ∧ Hid (Fss wr wr.heap.size q g) ∧ Hid (Bk wr TB 25 #[.slice q.an g.nodes.length q.cn, .slice q.ad g.dir.length q.cd, .slice q.ay g.syn.length q.cy]) ∧ Hid (Bk wr RB 25 #[.slice none 0 0, .slice none 0 0, .slice none 0 0]) ∧ Below w.heap.size w wr) (fun _ v7 _ => l.length - (intOf v7).toNat)
    case atStart => exact ⟨0, _, f, ⟨an, cn, ad, cd, ay, cy⟩, by omega, rfl, rfl, HST, HF1, HT1, HR1, HAL1.out⟩
    case round =>
      obtain ⟨k, er, g, q, hk, rfl, rfl, HS, HG, HTB, HRW, hbw⟩ := hrel
      by_cases hlt : k < l.length
      · have hkI : decide ((k : Int) < (l.length : Int)) = true := decide_eq_true (by omega)
        by_cases he : er = 0
        · subst he
          obtain ⟨bb, off, rfl, hbb, hcc⟩ := HU0.out (fun e => by rw [e] at hlt; simp at hlt)
          obtain ⟨k0, k1, k2, k3⟩ := hcc k hlt
          have c0 := (hbw.cell (p := ⟨bb, off + k * 4, none⟩) hbb).trans k0
          have c1 := (hbw.cell (p := ⟨bb, off + k * 4 + 1, none⟩) hbb).trans k1
          have c2 := (hbw.cell (p := ⟨bb, off + k * 4 + 2, none⟩) hbb).trans k2
          have c3 := (hbw.cell (p := ⟨bb, off + k * 4 + 3, none⟩) hbb).trans k3
          have HD := Lib.hid (fun W (hb : Below wr.heap.size wr W) => rDone_any q g (l.getD k nulO) W (HG.out.next hb) (HOL.out k hlt))
          have HNX := Lib.hid (HSTEP.out g k hlt HS.out)
          have hkI2 : (k : Int) < (l.length : Int) := by omega
          have hself := Below.refl wr.heap.size wr
          obtain ⟨qan, qcn, qad, qcd, qay, qcy⟩ := q
          unfold fsV opV at HD
          simp only at HD HTB
          obtain ⟨t0, t1, t2⟩ := HTB.out.three
          generalize play g [l.getD k nulO] = R9 at *
          obtain ⟨g9, er9⟩ := R9
          simp only at HD HNX
          generalize str (l.getD k nulO).name = X1 at *
          generalize str (l.getD k nulO).to = X2 at *
          generalize str (l.getD k nulO).text = X3 at *
          generalize (l.getD k nulO).kind = K0 at *
          clear k0 k1 k2 k3 hcc
          have HBW := Lib.hid hbw
          clear hbw
          go_wp2_with fail
          go_region_with (first
              | (go_at_call 12; (with_reducible refine (HD.out _ (by first | exact hself | exact hself.drew | exact hself.drew.drew)).mono ?_); rintro e w5 ⟨p5, rfl, hf5, hb5⟩; obtain ⟨an5, cn5, ad5, cd5, ay5, cy5⟩ := p5; have hS5 : Below wr.heap.size wr w5 := by { first | exact hb5 | exact Below.trans hself.drew hb5 }; simp only at hf5; obtain ⟨x0, x1, x2⟩ := (HTB.out.next hS5).three; have y0 := (HTB.out.next hS5).free 0; have y1 := (HTB.out.next hS5).free 1; have y2 := (HTB.out.next hS5).free 2))
          all_goals (
            have hq := fin3 (w := w) (HTB.out.next hS5) hf5 HTR.out.1 (HBW.out.trans (hS5.mono HBW.out.size)) g9.nodes.length g9.dir.length g9.syn.length rfl rfl rfl
            obtain ⟨y3, y4, y5⟩ := hq
            have Y3 := Lib.hid y3
            have Y4 := Lib.hid y4
            have Y5 := Lib.hid y5
            have Y6 := Lib.hid ((HRW.out.next hS5).move (heap_put3 w5 TB (.slice an5 g9.nodes.length cn5) (.slice ad5 g9.dir.length cd5) (.slice ay5 g9.syn.length cy5) RB HTR.out.2))
            simp only at Y3 Y4 Y5 Y6
            clear hf5 hb5 hS5 x0 x1 x2 t0 t1 t2 c0 c1 c2 c3 y0 y1 y2 y3 y4 y5
            generalize ((w5.setCell ⟨TB, 0, none⟩ (.slice an5 g9.nodes.length cn5)).setCell ⟨TB, 1, none⟩ (.slice ad5 g9.dir.length cd5)).setCell ⟨TB, 2, none⟩ (.slice ay5 g9.syn.length cy5) = W6 at *
            go_wp2_with fail
            exact ⟨⟨k + 1, er9, g9, ⟨an5, cn5, ad5, cd5, ay5, cy5⟩, by omega, by go_num, rfl, HNX, Y3, Y5, Y6, Y4.out⟩, by simp [intOf]; omega⟩)
        · have g1 : ((er : Int) == 0) = false := by rw [beq_eq_false_iff_ne]; omega
          have g2 : ((er : Int) != 0) = true := by rw [bne_iff_ne]; omega
          have HRV := Lib.hid (show R = (nul, er) by
            rcases HS.out with ⟨h, _⟩ | ⟨_, h⟩
            · exact absurd h he
            · exact h)
          clear HS he
          obtain ⟨y3, y4, y5⟩ := fin3 (p := nulAt) (g := nul) HRW.out (Fss.nul _ _) HRB.out hbw 0 0 0 rfl rfl rfl
          simp only [nulAt] at y3 y4 y5
          have Y1 := Lib.hid y3
          have Y2 := Lib.hid y4
          obtain ⟨z0, z1, z2⟩ := y5.three
          obtain ⟨a0, a1, a2⟩ := HRW.out.three
          have b0 := HRW.out.free 0
          have b1 := HRW.out.free 1
          have b2 := HRW.out.free 2
          clear y3 y4 y5
          go_wp2_with fail
          refine bodyPost_ret (v := .tuple #[.agg #[.slice none 0 0, .slice none 0 0, .slice none 0 0], .int .i64 er]) (by simp [results, Try.results19, go_sem, z0, z1, z2]) rfl ?_
          rw [HRV.out]
          exact ⟨nulAt, rfl, Y1.out, Y2.out⟩
      · obtain rfl : k = l.length := by omega
        by_cases he : er = 0
        · subst he
          have HRV := Lib.hid (show R = (g, 0) by
            rcases HS.out with ⟨_, _, h⟩ | ⟨h, _⟩
            · rw [h, List.drop_length]; rfl
            · exact absurd rfl h)
          clear HS
          obtain ⟨y3, y4, y5⟩ := fin3 HRW.out HG.out HRB.out hbw g.nodes.length g.dir.length g.syn.length rfl rfl rfl
          obtain ⟨qan, qcn, qad, qcd, qay, qcy⟩ := q
          simp only at y3 y4 y5 HTB
          have Y1 := Lib.hid y3
          have Y2 := Lib.hid y4
          obtain ⟨z0, z1, z2⟩ := y5.three
          obtain ⟨t0, t1, t2⟩ := HTB.out.three
          obtain ⟨a0, a1, a2⟩ := HRW.out.three
          have b0 := HRW.out.free 0
          have b1 := HRW.out.free 1
          have b2 := HRW.out.free 2
          clear y3 y4 y5
          go_wp2_with fail
          refine bodyPost_ret (v := .tuple #[.agg #[.slice qan g.nodes.length qcn, .slice qad g.dir.length qcd, .slice qay g.syn.length qcy], .int .i64 0]) (by simp [results, Try.results19, go_sem, z0, z1, z2]) rfl ?_
          rw [HRV.out]
          exact ⟨⟨qan, qcn, qad, qcd, qay, qcy⟩, rfl, Y1.out, Y2.out⟩
        · have g1 : ((er : Int) == 0) = false := by rw [beq_eq_false_iff_ne]; omega
          have g2 : ((er : Int) != 0) = true := by rw [bne_iff_ne]; omega
          have HRV := Lib.hid (show R = (nul, er) by
            rcases HS.out with ⟨h, _⟩ | ⟨_, h⟩
            · exact absurd h he
            · exact h)
          clear HS he
          obtain ⟨y3, y4, y5⟩ := fin3 (p := nulAt) (g := nul) HRW.out (Fss.nul _ _) HRB.out hbw 0 0 0 rfl rfl rfl
          simp only [nulAt] at y3 y4 y5
          have Y1 := Lib.hid y3
          have Y2 := Lib.hid y4
          obtain ⟨z0, z1, z2⟩ := y5.three
          obtain ⟨a0, a1, a2⟩ := HRW.out.three
          have b0 := HRW.out.free 0
          have b1 := HRW.out.free 1
          have b2 := HRW.out.free 2
          clear y3 y4 y5
          go_wp2_with fail
          refine bodyPost_ret (v := .tuple #[.agg #[.slice none 0 0, .slice none 0 0, .slice none 0 0], .int .i64 er]) (by simp [results, Try.results19, go_sem, z0, z1, z2]) rfl ?_
          rw [HRV.out]
          exact ⟨nulAt, rfl, Y1.out, Y2.out⟩
  · have g2 : decide ((64 : Int) < (l.length : Int)) = false := decide_eq_false (by omega)
    have he := hz.2 ⟨hc0, by omega⟩
    subst he
    clear hz hz1 hz2 hc hc0
    go_wp2_with fail
    go_loopw [6, 7] (fun v6 v7 wr => ∃ (k er : Nat) (g : T) (q : At), k ≤ l.length ∧ v7 = .int .i64 k ∧ v6 = .int .i64 er ∧ Hid (PSt R l g er k) ∧ Hid (Fss wr wr.heap.size q g) ∧ Hid (Bk wr TB 25 #[.slice q.an g.nodes.length q.cn, .slice q.ad g.dir.length q.cd, .slice q.ay g.syn.length q.cy]) ∧ Hid (Bk wr RB 25 #[.slice none 0 0, .slice none 0 0, .slice none 0 0]) ∧ Below w.heap.size w wr) (fun _ v7 _ => l.length - (intOf v7).toNat)
    case atStart => exact ⟨0, _, f, ⟨an, cn, ad, cd, ay, cy⟩, by omega, rfl, rfl, HST, HF1, HT1, HR1, HAL1.out⟩
    case round =>
      obtain ⟨k, er, g, q, hk, rfl, rfl, HS, HG, HTB, HRW, hbw⟩ := hrel
      by_cases hlt : k < l.length
      · have hkI : decide ((k : Int) < (l.length : Int)) = true := decide_eq_true (by omega)
        by_cases he : er = 0
        · subst he
          obtain ⟨bb, off, rfl, hbb, hcc⟩ := HU0.out (fun e => by rw [e] at hlt; simp at hlt)
          obtain ⟨k0, k1, k2, k3⟩ := hcc k hlt
          have c0 := (hbw.cell (p := ⟨bb, off + k * 4, none⟩) hbb).trans k0
          have c1 := (hbw.cell (p := ⟨bb, off + k * 4 + 1, none⟩) hbb).trans k1
          have c2 := (hbw.cell (p := ⟨bb, off + k * 4 + 2, none⟩) hbb).trans k2
          have c3 := (hbw.cell (p := ⟨bb, off + k * 4 + 3, none⟩) hbb).trans k3
          have HD := Lib.hid (fun W (hb : Below wr.heap.size wr W) => rDone_any q g (l.getD k nulO) W (HG.out.next hb) (HOL.out k hlt))
          have HNX := Lib.hid (HSTEP.out g k hlt HS.out)
          have hkI2 : (k : Int) < (l.length : Int) := by omega
          have hself := Below.refl wr.heap.size wr
          obtain ⟨qan, qcn, qad, qcd, qay, qcy⟩ := q
          unfold fsV opV at HD
          simp only at HD HTB
          obtain ⟨t0, t1, t2⟩ := HTB.out.three
          generalize play g [l.getD k nulO] = R9 at *
          obtain ⟨g9, er9⟩ := R9
          simp only at HD HNX
          generalize str (l.getD k nulO).name = X1 at *
          generalize str (l.getD k nulO).to = X2 at *
          generalize str (l.getD k nulO).text = X3 at *
          generalize (l.getD k nulO).kind = K0 at *
          clear k0 k1 k2 k3 hcc
          have HBW := Lib.hid hbw
          clear hbw
          go_wp2_with fail
          go_region_with (first
              | (go_at_call 12; (with_reducible refine (HD.out _ (by first | exact hself | exact hself.drew | exact hself.drew.drew)).mono ?_); rintro e w5 ⟨p5, rfl, hf5, hb5⟩; obtain ⟨an5, cn5, ad5, cd5, ay5, cy5⟩ := p5; have hS5 : Below wr.heap.size wr w5 := by { first | exact hb5 | exact Below.trans hself.drew hb5 }; simp only at hf5; obtain ⟨x0, x1, x2⟩ := (HTB.out.next hS5).three; have y0 := (HTB.out.next hS5).free 0; have y1 := (HTB.out.next hS5).free 1; have y2 := (HTB.out.next hS5).free 2))
          all_goals (
            have hq := fin3 (w := w) (HTB.out.next hS5) hf5 HTR.out.1 (HBW.out.trans (hS5.mono HBW.out.size)) g9.nodes.length g9.dir.length g9.syn.length rfl rfl rfl
            obtain ⟨y3, y4, y5⟩ := hq
            have Y3 := Lib.hid y3
            have Y4 := Lib.hid y4
            have Y5 := Lib.hid y5
            have Y6 := Lib.hid ((HRW.out.next hS5).move (heap_put3 w5 TB (.slice an5 g9.nodes.length cn5) (.slice ad5 g9.dir.length cd5) (.slice ay5 g9.syn.length cy5) RB HTR.out.2))
            simp only at Y3 Y4 Y5 Y6
            clear hf5 hb5 hS5 x0 x1 x2 t0 t1 t2 c0 c1 c2 c3 y0 y1 y2 y3 y4 y5
            generalize ((w5.setCell ⟨TB, 0, none⟩ (.slice an5 g9.nodes.length cn5)).setCell ⟨TB, 1, none⟩ (.slice ad5 g9.dir.length cd5)).setCell ⟨TB, 2, none⟩ (.slice ay5 g9.syn.length cy5) = W6 at *
            go_wp2_with fail
            exact ⟨⟨k + 1, er9, g9, ⟨an5, cn5, ad5, cd5, ay5, cy5⟩, by omega, by go_num, rfl, HNX, Y3, Y5, Y6, Y4.out⟩, by simp [intOf]; omega⟩)
        · have g1 : ((er : Int) == 0) = false := by rw [beq_eq_false_iff_ne]; omega
          have g2 : ((er : Int) != 0) = true := by rw [bne_iff_ne]; omega
          have HRV := Lib.hid (show R = (nul, er) by
            rcases HS.out with ⟨h, _⟩ | ⟨_, h⟩
            · exact absurd h he
            · exact h)
          clear HS he
          obtain ⟨y3, y4, y5⟩ := fin3 (p := nulAt) (g := nul) HRW.out (Fss.nul _ _) HRB.out hbw 0 0 0 rfl rfl rfl
          simp only [nulAt] at y3 y4 y5
          have Y1 := Lib.hid y3
          have Y2 := Lib.hid y4
          obtain ⟨z0, z1, z2⟩ := y5.three
          obtain ⟨a0, a1, a2⟩ := HRW.out.three
          have b0 := HRW.out.free 0
          have b1 := HRW.out.free 1
          have b2 := HRW.out.free 2
          clear y3 y4 y5
          go_wp2_with fail
          refine bodyPost_ret (v := .tuple #[.agg #[.slice none 0 0, .slice none 0 0, .slice none 0 0], .int .i64 er]) (by simp [results, Try.results19, go_sem, z0, z1, z2]) rfl ?_
          rw [HRV.out]
          exact ⟨nulAt, rfl, Y1.out, Y2.out⟩
      · obtain rfl : k = l.length := by omega
        by_cases he : er = 0
        · subst he
          have HRV := Lib.hid (show R = (g, 0) by
            rcases HS.out with ⟨_, _, h⟩ | ⟨h, _⟩
            · rw [h, List.drop_length]; rfl
            · exact absurd rfl h)
          clear HS
          obtain ⟨y3, y4, y5⟩ := fin3 HRW.out HG.out HRB.out hbw g.nodes.length g.dir.length g.syn.length rfl rfl rfl
          obtain ⟨qan, qcn, qad, qcd, qay, qcy⟩ := q
          simp only at y3 y4 y5 HTB
          have Y1 := Lib.hid y3
          have Y2 := Lib.hid y4
          obtain ⟨z0, z1, z2⟩ := y5.three
          obtain ⟨t0, t1, t2⟩ := HTB.out.three
          obtain ⟨a0, a1, a2⟩ := HRW.out.three
          have b0 := HRW.out.free 0
          have b1 := HRW.out.free 1
          have b2 := HRW.out.free 2
          clear y3 y4 y5
          go_wp2_with fail
          refine bodyPost_ret (v := .tuple #[.agg #[.slice qan g.nodes.length qcn, .slice qad g.dir.length qcd, .slice qay g.syn.length qcy], .int .i64 0]) (by simp [results, Try.results19, go_sem, z0, z1, z2]) rfl ?_
          rw [HRV.out]
          exact ⟨⟨qan, qcn, qad, qcd, qay, qcy⟩, rfl, Y1.out, Y2.out⟩
        · have g1 : ((er : Int) == 0) = false := by rw [beq_eq_false_iff_ne]; omega
          have g2 : ((er : Int) != 0) = true := by rw [bne_iff_ne]; omega
          have HRV := Lib.hid (show R = (nul, er) by
            rcases HS.out with ⟨h, _⟩ | ⟨_, h⟩
            · exact absurd h he
            · exact h)
          clear HS he
          obtain ⟨y3, y4, y5⟩ := fin3 (p := nulAt) (g := nul) HRW.out (Fss.nul _ _) HRB.out hbw 0 0 0 rfl rfl rfl
          simp only [nulAt] at y3 y4 y5
          have Y1 := Lib.hid y3
          have Y2 := Lib.hid y4
          obtain ⟨z0, z1, z2⟩ := y5.three
          obtain ⟨a0, a1, a2⟩ := HRW.out.three
          have b0 := HRW.out.free 0
          have b1 := HRW.out.free 1
          have b2 := HRW.out.free 2
          clear y3 y4 y5
          go_wp2_with fail
          refine bodyPost_ret (v := .tuple #[.agg #[.slice none 0 0, .slice none 0 0, .slice none 0 0], .int .i64 er]) (by simp [results, Try.results19, go_sem, z0, z1, z2]) rfl ?_
          rw [HRV.out]
          exact ⟨nulAt, rfl, Y1.out, Y2.out⟩
end Go.Proofs.Ytmjcdjekakaigaa.Fs
