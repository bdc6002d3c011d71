/- The walk of the reference's CrashedOf. -/
import Derived.Test.YtmjcdjekakaigaaFsR11
import Derived.Test.YtmjcdjekakaigaaFsP5
import Derived.Test.YtmjcdjekakaigaaFsCr
import Derived.Test.YtmjcdjekakaigaaPow2
namespace Go.Proofs.Ytmjcdjekakaigaa.Fs
open Go.RowKit
set_option linter.unusedVariables false

theorem landed_step (l : List Nd) (m k : Nat) (hk : k < l.length) : (landed l m).take (k + 1) = (landed l m).take k ++ [if bit m k then ⟨(l.getD k nulN).live, (l.getD k nulN).live⟩ else ⟨(l.getD k nulN).syn, (l.getD k nulN).syn⟩] := by
  rw [take_snoc (landed l m) nulN k (by rw [landed_ln]; exact hk), landed_gt m hk]
theorem bit_div (y m k : Nat) (hy : y = m / 2 ^ k) : ((y : Int) % 2 == 1) = bit m k := by
  unfold bit
  rw [← hy]
  by_cases h : y % 2 = 1
  · have h2 : ((y : Int) % 2 == 1) = true := by rw [beq_iff_eq]; omega
    rw [h2, decide_eq_true h]
  · have h2 : ((y : Int) % 2 == 1) = false := by rw [beq_eq_false_iff_ne]; omega
    rw [h2, decide_eq_false h]
set_option maxHeartbeats 8000000 in
set_option maxRecDepth 100000 in
theorem rCrash_any (p : At) (f : T) (m : Nat) (w : World) (h : Fss w w.heap.size p f) (hm : m < 18446744073709551616) :
    Calls Try.prog 13 #[fsV p f, .int .u64 m] w (RFsEPost (crash f m) w) := by
  have hal0 := (Below.refl w.heap.size w).alloc (Nat.le_refl _) (.cells #[.slice p.an f.nodes.length p.cn, .slice p.ad f.dir.length p.cd, .slice p.ay f.syn.length p.cy] 25)
  have hT0 := bk_new w 25 #[.slice p.an f.nodes.length p.cn, .slice p.ad f.dir.length p.cd, .slice p.ay f.syn.length p.cy]
  have hF0 := h.next hal0
  have e1 : (w.alloc (.cells #[.slice p.an f.nodes.length p.cn, .slice p.ad f.dir.length p.cd, .slice p.ay f.syn.length p.cy] 25)).heap.size = w.heap.size + 1 := by simp
  generalize hWa : w.alloc (.cells #[.slice p.an f.nodes.length p.cn, .slice p.ad f.dir.length p.cd, .slice p.ay f.syn.length p.cy] 25) = Wa at *
  have hal2 := (Below.refl Wa.heap.size Wa).alloc (Nat.le_refl _) (.cells #[.slice none 0 0, .slice none 0 0, .slice none 0 0] 25)
  have hR := bk_new Wa 25 #[.slice none 0 0, .slice none 0 0, .slice none 0 0]
  have hT2 := hT0.next hal2
  have hF2 := hF0.next hal2
  generalize hWc : Wa.alloc (.cells #[.slice none 0 0, .slice none 0 0, .slice none 0 0] 25) = Wc at *
  rw [e1] at hR
  have hal : Below w.heap.size w Wc := hal0.trans (hal2.mono (by omega))
  have HW := Lib.hid (show (w.alloc (.cells #[.slice p.an f.nodes.length p.cn, .slice p.ad f.dir.length p.cd, .slice p.ay f.syn.length p.cy] 25)).alloc (.cells #[.slice none 0 0, .slice none 0 0, .slice none 0 0] 25) = Wc by rw [hWa, hWc])
  obtain ⟨RB, hRB⟩ : ∃ RB, RB = w.heap.size + 1 := ⟨_, rfl⟩
  obtain ⟨TB, hTB⟩ : ∃ TB, TB = w.heap.size := ⟨_, rfl⟩
  rw [← hRB] at hR
  rw [← hTB] at hT2
  have HRB := Lib.hid (show w.heap.size ≤ RB by omega)
  have HN1 := Lib.hid (show w.heap.size + 1 = RB by omega)
  have HN2 := Lib.hid (show w.heap.size = TB by omega)
  have HT := Lib.hid hT2
  have HR := Lib.hid hR
  have HF := Lib.hid hF2
  have HAL := Lib.hid hal
  have HC := Lib.hid (rCheck_any p f Wc hF2)
  have hcl := check_lt f
  have HPS := Lib.hid (show crash f m = if check f ≠ 0 then (nul, check f) else (swept ⟨landed f.nodes m, crashD f m, crashD f m⟩, 0) from rfl)
  generalize crash f m = R at *
  obtain ⟨an, cn, ad, cd, ay, cy⟩ := p
  unfold fsV at *
  simp only at *
  clear hWa hWc hal0 hal2 hT0 hT2 hF0 hF2 hR e1 h hal hRB hTB
  go_enter Try.func13, Try.ntmps13
  go_wp2_with fail
  rw [HW.out, HN1.out, HN2.out]
  obtain ⟨d0, d1, d2⟩ := HT.out.three
  go_wp2_with fail
  refine (HC.out).mono ?_
  rintro e w1 ⟨rfl, hb1⟩
  clear d0 d1 d2 HC
  by_cases hc : check f ≠ 0
  · have HRV := Lib.hid (show R = (nul, check f) by rw [HPS.out, if_pos hc])
    have g2 : ((check f : Int) != 0) = true := by rw [bne_iff_ne]; omega
    generalize check f = er at *
    have HB9 := Lib.hid (HAL.out.trans ((hb1).mono HAL.out.size))
    obtain ⟨y1, y2, y3⟩ := fin3 (p := nulAt) (g := nul) (HR.out.next (hb1)) (Fss.nul _ _) HRB.out HB9.out 0 0 0 rfl rfl rfl
    simp only [nulAt] at y1 y2 y3
    have Y1 := Lib.hid y1
    have Y2 := Lib.hid y2
    obtain ⟨z0, z1, z2⟩ := y3.three
    obtain ⟨a0, a1, a2⟩ := (HR.out.next (hb1)).three
    have b0 := (HR.out.next (hb1)).free 0
    have b1 := (HR.out.next (hb1)).free 1
    have b2 := (HR.out.next (hb1)).free 2
    clear y1 y2 y3
    go_wp2_with fail
    refine bodyPost_ret (v := .tuple #[.agg #[.slice none 0 0, .slice none 0 0, .slice none 0 0], .int .i64 er]) (by simp [results, Try.results13, go_sem, z0, z1, z2]) rfl ?_
    rw [HRV.out]
    exact ⟨nulAt, rfl, Y1.out, Y2.out⟩
  have HRV0 := Lib.hid (show R = (swept ⟨landed f.nodes m, crashD f m, crashD f m⟩, 0) by rw [HPS.out, if_neg hc])
  have hc0 : check f = 0 := by omega
  have hok := (check_ok f).1 hc0
  rw [hc0]
  clear hc hcl HPS
  have HT1 := Lib.hid (HT.out.next hb1)
  have HR1 := Lib.hid (HR.out.next hb1)
  have HF1 := Lib.hid (HF.out.next hb1)
  have HAL1 := Lib.hid (HAL.out.trans (hb1.mono HAL.out.size))
  have hnl := hok.len
  have hdl := dir_len hok.dir
  have hsl := dir_len hok.syn
  obtain ⟨d0, d1, d2⟩ := HT1.out.three
  have htl := HT1.out.lt
  have hO := bk_new w1 25 #[.slice none 0 0, .slice ay f.syn.length cy, .slice ay f.syn.length cy]
  have halO := (Below.refl w1.heap.size w1).alloc (Nat.le_refl _) (.cells #[.slice none 0 0, .slice ay f.syn.length cy, .slice ay f.syn.length cy] 25)
  have HOKR := Lib.hid hok
  clear HT HR HF HAL hb1 hok
  by_cases hmk : 9223372036854775808 ≤ m
  · have hg : decide ((9223372036854775808 : Int) ≤ (m : Int)) = true := decide_eq_true (by omega)
    have hD : crashD f m = f.dir := by unfold crashD; rw [if_pos hmk]
    rw [hD] at HRV0
    have HDL := Lib.hid (show f.dir.length ≤ 24 by omega)
    have HRG0 := Lib.hid (show ∀ e, e ∈ f.dir ∨ e ∈ f.dir → 0 ≤ e.node ∧ e.node ≤ 1048576 from fun e he => by
      have := HOKR.out.dir.rg e (he.elim id id); omega)
    have HB0 := Lib.hid ((Below.refl w1.heap.size w1).alloc (Nat.le_refl _) (.cells #[.slice none 0 0, .slice ad f.dir.length cd, .slice ad f.dir.length cd] 25))
    have HM0 := Lib.hid (show Mkd (w1.alloc (.cells #[.slice none 0 0, .slice ad f.dir.length cd, .slice ad f.dir.length cd] 25)) w1.heap.size w1.heap.size ⟨(landed f.nodes m).take 0, f.dir, f.dir⟩ (.slice none 0 0) ⟨none, 0, ad, cd, ad, cd⟩ from
      ⟨nnil _ _, (HF1.out.dir.below enAt_firm HB0.out).mono HB0.out.size, (HF1.out.dir.below enAt_firm HB0.out).mono HB0.out.size, HF1.out.dcap, HF1.out.dcap, by simp, HF1.out.dok, HF1.out.dok, bk_new _ _ _, Nat.le_refl _⟩)
    have HDD := Lib.hid HF1.out.dir
    simp only at HDD
    clear hmk hD halO hO
    go_upto_region 7 with fail
    generalize w1.alloc (.cells #[.slice none 0 0, .slice ad f.dir.length cd, .slice ad f.dir.length cd] 25) = W3 at *
    obtain ⟨O, hOe⟩ : ∃ O, O = w1.heap.size := ⟨_, rfl⟩
    rw [show Mkd W3 w1.heap.size w1.heap.size = Mkd W3 w1.heap.size O by rw [hOe]] at HM0
    rw [← hOe]
    clear d0 d1 d2 htl hOe
    go_wp2_with fail
    go_loopw [8, 9] (fun v8 v9 wr => ∃ (k : Nat) (nv : Value), k ≤ f.nodes.length ∧ v8 = .int .i64 k ∧ Hid (Mkd wr w1.heap.size O ⟨(landed f.nodes m).take k, f.dir, f.dir⟩ nv ⟨none, 0, ad, cd, ad, cd⟩) ∧ Below w1.heap.size w1 wr) (fun v8 _ _ => f.nodes.length - (intOf v8).toNat)
    case atStart => exact ⟨0, .slice none 0 0, by omega, rfl, HM0, HB0.out⟩
    case round =>
      obtain ⟨k, nv, hk, rfl, HM, hbw⟩ := hrel
      obtain ⟨d0, d1, d2⟩ := (HT1.out.next hbw).three
      obtain ⟨an5, cn5, e5, hnds5, hcap5⟩ := nrow_nds HM.out.nro
      obtain ⟨L5, hL5⟩ : ∃ L, L = (List.take k (landed f.nodes m)).length := ⟨_, rfl⟩
      rw [show (⟨List.take k (landed f.nodes m), f.dir, f.dir⟩ : T).nodes.length = L5 from hL5.symm] at e5
      subst e5
      have hL5k : L5 ≤ k := by rw [hL5, List.length_take]; omega
      have HL5 := Lib.hid hL5
      clear hL5 hnds5 hcap5
      obtain ⟨m0, m1, m2⟩ := HM.out.bk.three
      have f0 := HM.out.bk.free 0
      simp only at m0 m1 m2
      by_cases hlt : k < f.nodes.length
      · obtain ⟨bb, off, rfl, hbb, hcc⟩ := HF1.out.nds (fun e => by rw [e] at hlt; simp at hlt)
        obtain ⟨q0, q1⟩ := hcc k hlt
        have c0 := (hbw.cell (p := ⟨bb, off + k * 2, none⟩) hbb).trans q0
        have c1 := (hbw.cell (p := ⟨bb, off + k * 2 + 1, none⟩) hbb).trans q1
        have hkI : (k : Int) < (f.nodes.length : Int) := by omega
        have HST := Lib.hid (landed_step f.nodes m k hlt)
        have HP := Lib.hid (fun W => pow2_any k W (by omega))
        have hp2 : 2 ^ k < 18446744073709551616 := Nat.pow_lt_pow_right (n := 64) (by omega) (by omega)
        have hp0 : 0 < 2 ^ k := Nat.two_pow_pos _
        have HBD := Lib.hid (bit_div (m / 2 ^ k) m k rfl)
        have hNOK := HF1.out.nok _ (getD_mem f.nodes nulN k hlt)
        have HON := Lib.hid (fun (W : World) (s : S) => nds_one W ⟨s, s⟩)
        generalize 2 ^ k = P at *
        have hP : ¬ P = 0 := by omega
        have hdv : (IntKind.u64.wrap ((m : Int) / (P : Int))) = ((m / P : Nat) : Int) := by
          have h1 : m / P ≤ m := Nat.div_le_self _ _
          have h2 : (m : Int) / (P : Int) = ((m / P : Nat) : Int) := by simp
          rw [h2]
          generalize m / P = y at *
          rw [IntKind.wrap_u64]
          omega
        have hyx : m / P ≤ m := Nat.div_le_self _ _
        generalize m / P = y at *
        clear q0 q1 hcc
        generalize f.nodes.getD k nulN = nd at *
        obtain ⟨lv, sy⟩ := nd
        simp only at HST c0 c1
        have hDR := (HDD.out).below enAt_firm hbw
        have HDR := Lib.hid hDR
        generalize List.take k (landed f.nodes m) = T5 at *
        have hby : (T5.length + 1) * 32 ≤ 140737488355328 := by have := HL5.out; omega
        have hbt := HBD.out
        clear HL5 HBD hDR
        go_wp2_with fail
        refine (HP.out _).mono ?_
        rintro e w5 ⟨rfl, rfl⟩
        generalize bit m k = bt at *
        cases bt with
        | false =>
          rw [show (if false = true then (⟨lv, lv⟩ : Nd) else ⟨sy, sy⟩) = ⟨sy, sy⟩ from rfl] at HST
          have hal6 := (Below.refl wr.heap.size wr).alloc (Nat.le_refl _) (.cells #[.string (str (sy)), .string (str (sy))] 49)
          go_wp2_with (at_builtin; refine wpList_append_nd rfl (.tmp 54) (.tmp 58) rfl w1.heap.size _ T5 rfl (World.ownsRow.alloc HM.out.nro _) _ 1 1 [⟨sy, sy⟩] rfl rfl (fun h => by cases h) (HON.out wr (sy)) hby ?_ ?_)
          · simp; have := hbw.size; omega
          intro v6 w6 hr6 hb6 hg6
          have hb46 : Below w1.heap.size wr w6 := (hal6.mono hbw.size).trans hb6
          have hszz := Nat.le_trans hal6.size hb6.size
          have hO6 : Bk w6 O 25 #[.slice an5 L5 cn5, .slice ad f.dir.length cd, .slice ad f.dir.length cd] := Bk.grown (HM.out.bk.next hal6) hg6 (bk_kind (World.ownsRow.alloc HM.out.nro _) (HM.out.bk.next hal6) (by decide))
          obtain ⟨an6, cn6, e6, hnds6, hcap6⟩ := nrow_nds hr6
          obtain ⟨L6, hL6⟩ : ∃ L, L = (T5 ++ [⟨sy, sy⟩] : List Nd).length := ⟨_, rfl⟩
          rw [← hL6] at e6
          subst e6
          have HM7 := Lib.hid (Mkd.setN hr6 ((HDR.out.below enAt_firm hb46).mono (Nat.le_trans hbw.size hszz)) ((HDR.out.below enAt_firm hb46).mono (Nat.le_trans hbw.size hszz)) (fun x hx => by
            rcases List.mem_append.1 hx with hx | hx
            · exact HM.out.nok x hx
            · rw [List.mem_singleton.1 hx]; exact ⟨hNOK.2, hNOK.2⟩) HM.out hO6)
          have HB7 := Lib.hid ((hbw.trans hb46).setCell (p := ⟨O, 0, none⟩) HM.out.ge (.slice an6 L6 cn6))
          have hc6 := hO6.three.1
          have hf6 := hO6.free 0
          clear hr6 hb6 hg6 hb46 hO6 hnds6 hcap6 hL6 hal6 hszz m0 m1 m2 f0 d0 d1 d2 c0 c1 hbw
          go_wp2_with fail
          exact ⟨⟨k + 1, _, by omega, by go_num, (by rw [HST.out]; exact HM7), HB7.out⟩, by simp [intOf]; omega⟩
        | true =>
          rw [show (if true = true then (⟨lv, lv⟩ : Nd) else ⟨sy, sy⟩) = ⟨lv, lv⟩ from rfl] at HST
          have hal6 := (Below.refl wr.heap.size wr).alloc (Nat.le_refl _) (.cells #[.string (str (lv)), .string (str (lv))] 49)
          go_wp2_with (at_builtin; refine wpList_append_nd rfl (.tmp 54) (.tmp 58) rfl w1.heap.size _ T5 rfl (World.ownsRow.alloc HM.out.nro _) _ 1 1 [⟨lv, lv⟩] rfl rfl (fun h => by cases h) (HON.out wr (lv)) hby ?_ ?_)
          · simp; have := hbw.size; omega
          intro v6 w6 hr6 hb6 hg6
          have hb46 : Below w1.heap.size wr w6 := (hal6.mono hbw.size).trans hb6
          have hszz := Nat.le_trans hal6.size hb6.size
          have hO6 : Bk w6 O 25 #[.slice an5 L5 cn5, .slice ad f.dir.length cd, .slice ad f.dir.length cd] := Bk.grown (HM.out.bk.next hal6) hg6 (bk_kind (World.ownsRow.alloc HM.out.nro _) (HM.out.bk.next hal6) (by decide))
          obtain ⟨an6, cn6, e6, hnds6, hcap6⟩ := nrow_nds hr6
          obtain ⟨L6, hL6⟩ : ∃ L, L = (T5 ++ [⟨lv, lv⟩] : List Nd).length := ⟨_, rfl⟩
          rw [← hL6] at e6
          subst e6
          have HM7 := Lib.hid (Mkd.setN hr6 ((HDR.out.below enAt_firm hb46).mono (Nat.le_trans hbw.size hszz)) ((HDR.out.below enAt_firm hb46).mono (Nat.le_trans hbw.size hszz)) (fun x hx => by
            rcases List.mem_append.1 hx with hx | hx
            · exact HM.out.nok x hx
            · rw [List.mem_singleton.1 hx]; exact ⟨hNOK.1, hNOK.1⟩) HM.out hO6)
          have HB7 := Lib.hid ((hbw.trans hb46).setCell (p := ⟨O, 0, none⟩) HM.out.ge (.slice an6 L6 cn6))
          have hc6 := hO6.three.1
          have hf6 := hO6.free 0
          clear hr6 hb6 hg6 hb46 hO6 hnds6 hcap6 hL6 hal6 hszz m0 m1 m2 f0 d0 d1 d2 c0 c1 hbw
          go_wp2_with fail
          exact ⟨⟨k + 1, _, by omega, by go_num, (by rw [HST.out]; exact HM7), HB7.out⟩, by simp [intOf]; omega⟩
      · obtain rfl : k = f.nodes.length := by omega
        have HRV := Lib.hid (show R = (swept ⟨List.take f.nodes.length (landed f.nodes m), f.dir, f.dir⟩, 0) by rw [HRV0.out, ← landed_ln f.nodes m, List.take_length])
        have HMX := HM
        have HRX := Lib.hid (HR1.out.next hbw)
        have HALX := Lib.hid (HAL1.out.trans (hbw.mono HAL1.out.size))
        have HLN := Lib.hid (show (List.take f.nodes.length (landed f.nodes m)).length ≤ 1048576 ∧ f.dir.length ≤ 1048576 ∧ f.dir.length ≤ 1048576 by have := HDL.out; rw [List.length_take, landed_ln]; omega)
        have HRG := HRG0
        clear m0 m1 m2 f0 HRV0
        obtain ⟨a5, c5, e5, hfs5⟩ := HMX.out.fss
        simp only [Value.slice.injEq] at e5
        obtain ⟨e5a, e5l, e5b⟩ := e5
        subst e5a
        subst e5b
        have HSW := Lib.hid (rSwept_any _ _ _ hfs5 HLN.out HRG.out)
        unfold fsV at HSW
        simp only at HSW
        try rw [← e5l] at HSW
        clear e5l
        obtain ⟨m0, m1, m2⟩ := HMX.out.bk.three
        simp only at m0 m1 m2
        clear hfs5 HLN HRG
        generalize swept _ = SF at *
        go_wp2_with fail
        refine (HSW.out).mono ?_
        rintro e w7 ⟨p7, rfl, hf7, hb7⟩
        clear m0 m1 m2 HSW
        have HAX := Lib.hid (HALX.out.trans (hb7.mono HALX.out.size))
        obtain ⟨y1, y2, y3⟩ := fin3 (HRX.out.next hb7) hf7 HRB.out HAX.out SF.nodes.length SF.dir.length SF.syn.length rfl rfl rfl
        have Y1 := Lib.hid y1
        have Y2 := Lib.hid y2
        obtain ⟨z0, z1, z2⟩ := y3.three
        obtain ⟨a0, a1, a2⟩ := (HRX.out.next hb7).three
        have b0 := (HRX.out.next hb7).free 0
        have b1 := (HRX.out.next hb7).free 1
        have b2 := (HRX.out.next hb7).free 2
        clear y1 y2 y3 hf7
        obtain ⟨an7, cn7, ad7, cd7, ay7, cy7⟩ := p7
        simp only at *
        go_wp2_with fail
        refine bodyPost_ret (v := .tuple #[.agg #[.slice an7 SF.nodes.length cn7, .slice ad7 SF.dir.length cd7, .slice ay7 SF.syn.length cy7], .int .i64 0]) (by simp [results, Try.results13, go_sem, z0, z1, z2]) rfl ?_
        rw [HRV.out]
        exact ⟨⟨an7, cn7, ad7, cd7, ay7, cy7⟩, rfl, Y1.out, Y2.out⟩
  · have hg : decide ((9223372036854775808 : Int) ≤ (m : Int)) = false := decide_eq_false (by omega)
    have hD : crashD f m = f.syn := by unfold crashD; rw [if_neg hmk]
    rw [hD] at HRV0
    have HDL := Lib.hid (show f.syn.length ≤ 24 by omega)
    have HRG0 := Lib.hid (show ∀ e, e ∈ f.syn ∨ e ∈ f.syn → 0 ≤ e.node ∧ e.node ≤ 1048576 from fun e he => by
      have := HOKR.out.syn.rg e (he.elim id id); omega)
    have HB0 := Lib.hid ((Below.refl w1.heap.size w1).alloc (Nat.le_refl _) (.cells #[.slice none 0 0, .slice ay f.syn.length cy, .slice ay f.syn.length cy] 25))
    have HM0 := Lib.hid (show Mkd (w1.alloc (.cells #[.slice none 0 0, .slice ay f.syn.length cy, .slice ay f.syn.length cy] 25)) w1.heap.size w1.heap.size ⟨(landed f.nodes m).take 0, f.syn, f.syn⟩ (.slice none 0 0) ⟨none, 0, ay, cy, ay, cy⟩ from
      ⟨nnil _ _, (HF1.out.syn.below enAt_firm HB0.out).mono HB0.out.size, (HF1.out.syn.below enAt_firm HB0.out).mono HB0.out.size, HF1.out.scap, HF1.out.scap, by simp, HF1.out.sok, HF1.out.sok, bk_new _ _ _, Nat.le_refl _⟩)
    have HDD := Lib.hid HF1.out.syn
    simp only at HDD
    clear hmk hD halO hO
    go_upto_region 7 with fail
    generalize w1.alloc (.cells #[.slice none 0 0, .slice ay f.syn.length cy, .slice ay f.syn.length cy] 25) = W3 at *
    obtain ⟨O, hOe⟩ : ∃ O, O = w1.heap.size := ⟨_, rfl⟩
    rw [show Mkd W3 w1.heap.size w1.heap.size = Mkd W3 w1.heap.size O by rw [hOe]] at HM0
    rw [← hOe]
    clear d0 d1 d2 htl hOe
    go_wp2_with fail
    go_loopw [8, 9] (fun v8 v9 wr => ∃ (k : Nat) (nv : Value), k ≤ f.nodes.length ∧ v8 = .int .i64 k ∧ Hid (Mkd wr w1.heap.size O ⟨(landed f.nodes m).take k, f.syn, f.syn⟩ nv ⟨none, 0, ay, cy, ay, cy⟩) ∧ Below w1.heap.size w1 wr) (fun v8 _ _ => f.nodes.length - (intOf v8).toNat)
    case atStart => exact ⟨0, .slice none 0 0, by omega, rfl, HM0, HB0.out⟩
    case round =>
      obtain ⟨k, nv, hk, rfl, HM, hbw⟩ := hrel
      obtain ⟨d0, d1, d2⟩ := (HT1.out.next hbw).three
      obtain ⟨an5, cn5, e5, hnds5, hcap5⟩ := nrow_nds HM.out.nro
      obtain ⟨L5, hL5⟩ : ∃ L, L = (List.take k (landed f.nodes m)).length := ⟨_, rfl⟩
      rw [show (⟨List.take k (landed f.nodes m), f.syn, f.syn⟩ : T).nodes.length = L5 from hL5.symm] at e5
      subst e5
      have hL5k : L5 ≤ k := by rw [hL5, List.length_take]; omega
      have HL5 := Lib.hid hL5
      clear hL5 hnds5 hcap5
      obtain ⟨m0, m1, m2⟩ := HM.out.bk.three
      have f0 := HM.out.bk.free 0
      simp only at m0 m1 m2
      by_cases hlt : k < f.nodes.length
      · obtain ⟨bb, off, rfl, hbb, hcc⟩ := HF1.out.nds (fun e => by rw [e] at hlt; simp at hlt)
        obtain ⟨q0, q1⟩ := hcc k hlt
        have c0 := (hbw.cell (p := ⟨bb, off + k * 2, none⟩) hbb).trans q0
        have c1 := (hbw.cell (p := ⟨bb, off + k * 2 + 1, none⟩) hbb).trans q1
        have hkI : (k : Int) < (f.nodes.length : Int) := by omega
        have HST := Lib.hid (landed_step f.nodes m k hlt)
        have HP := Lib.hid (fun W => pow2_any k W (by omega))
        have hp2 : 2 ^ k < 18446744073709551616 := Nat.pow_lt_pow_right (n := 64) (by omega) (by omega)
        have hp0 : 0 < 2 ^ k := Nat.two_pow_pos _
        have HBD := Lib.hid (bit_div (m / 2 ^ k) m k rfl)
        have hNOK := HF1.out.nok _ (getD_mem f.nodes nulN k hlt)
        have HON := Lib.hid (fun (W : World) (s : S) => nds_one W ⟨s, s⟩)
        generalize 2 ^ k = P at *
        have hP : ¬ P = 0 := by omega
        have hdv : (IntKind.u64.wrap ((m : Int) / (P : Int))) = ((m / P : Nat) : Int) := by
          have h1 : m / P ≤ m := Nat.div_le_self _ _
          have h2 : (m : Int) / (P : Int) = ((m / P : Nat) : Int) := by simp
          rw [h2]
          generalize m / P = y at *
          rw [IntKind.wrap_u64]
          omega
        have hyx : m / P ≤ m := Nat.div_le_self _ _
        generalize m / P = y at *
        clear q0 q1 hcc
        generalize f.nodes.getD k nulN = nd at *
        obtain ⟨lv, sy⟩ := nd
        simp only at HST c0 c1
        have hDR := (HDD.out).below enAt_firm hbw
        have HDR := Lib.hid hDR
        generalize List.take k (landed f.nodes m) = T5 at *
        have hby : (T5.length + 1) * 32 ≤ 140737488355328 := by have := HL5.out; omega
        have hbt := HBD.out
        clear HL5 HBD hDR
        go_wp2_with fail
        refine (HP.out _).mono ?_
        rintro e w5 ⟨rfl, rfl⟩
        generalize bit m k = bt at *
        cases bt with
        | false =>
          rw [show (if false = true then (⟨lv, lv⟩ : Nd) else ⟨sy, sy⟩) = ⟨sy, sy⟩ from rfl] at HST
          have hal6 := (Below.refl wr.heap.size wr).alloc (Nat.le_refl _) (.cells #[.string (str (sy)), .string (str (sy))] 49)
          go_wp2_with (at_builtin; refine wpList_append_nd rfl (.tmp 54) (.tmp 58) rfl w1.heap.size _ T5 rfl (World.ownsRow.alloc HM.out.nro _) _ 1 1 [⟨sy, sy⟩] rfl rfl (fun h => by cases h) (HON.out wr (sy)) hby ?_ ?_)
          · simp; have := hbw.size; omega
          intro v6 w6 hr6 hb6 hg6
          have hb46 : Below w1.heap.size wr w6 := (hal6.mono hbw.size).trans hb6
          have hszz := Nat.le_trans hal6.size hb6.size
          have hO6 : Bk w6 O 25 #[.slice an5 L5 cn5, .slice ay f.syn.length cy, .slice ay f.syn.length cy] := Bk.grown (HM.out.bk.next hal6) hg6 (bk_kind (World.ownsRow.alloc HM.out.nro _) (HM.out.bk.next hal6) (by decide))
          obtain ⟨an6, cn6, e6, hnds6, hcap6⟩ := nrow_nds hr6
          obtain ⟨L6, hL6⟩ : ∃ L, L = (T5 ++ [⟨sy, sy⟩] : List Nd).length := ⟨_, rfl⟩
          rw [← hL6] at e6
          subst e6
          have HM7 := Lib.hid (Mkd.setN hr6 ((HDR.out.below enAt_firm hb46).mono (Nat.le_trans hbw.size hszz)) ((HDR.out.below enAt_firm hb46).mono (Nat.le_trans hbw.size hszz)) (fun x hx => by
            rcases List.mem_append.1 hx with hx | hx
            · exact HM.out.nok x hx
            · rw [List.mem_singleton.1 hx]; exact ⟨hNOK.2, hNOK.2⟩) HM.out hO6)
          have HB7 := Lib.hid ((hbw.trans hb46).setCell (p := ⟨O, 0, none⟩) HM.out.ge (.slice an6 L6 cn6))
          have hc6 := hO6.three.1
          have hf6 := hO6.free 0
          clear hr6 hb6 hg6 hb46 hO6 hnds6 hcap6 hL6 hal6 hszz m0 m1 m2 f0 d0 d1 d2 c0 c1 hbw
          go_wp2_with fail
          exact ⟨⟨k + 1, _, by omega, by go_num, (by rw [HST.out]; exact HM7), HB7.out⟩, by simp [intOf]; omega⟩
        | true =>
          rw [show (if true = true then (⟨lv, lv⟩ : Nd) else ⟨sy, sy⟩) = ⟨lv, lv⟩ from rfl] at HST
          have hal6 := (Below.refl wr.heap.size wr).alloc (Nat.le_refl _) (.cells #[.string (str (lv)), .string (str (lv))] 49)
          go_wp2_with (at_builtin; refine wpList_append_nd rfl (.tmp 54) (.tmp 58) rfl w1.heap.size _ T5 rfl (World.ownsRow.alloc HM.out.nro _) _ 1 1 [⟨lv, lv⟩] rfl rfl (fun h => by cases h) (HON.out wr (lv)) hby ?_ ?_)
          · simp; have := hbw.size; omega
          intro v6 w6 hr6 hb6 hg6
          have hb46 : Below w1.heap.size wr w6 := (hal6.mono hbw.size).trans hb6
          have hszz := Nat.le_trans hal6.size hb6.size
          have hO6 : Bk w6 O 25 #[.slice an5 L5 cn5, .slice ay f.syn.length cy, .slice ay f.syn.length cy] := Bk.grown (HM.out.bk.next hal6) hg6 (bk_kind (World.ownsRow.alloc HM.out.nro _) (HM.out.bk.next hal6) (by decide))
          obtain ⟨an6, cn6, e6, hnds6, hcap6⟩ := nrow_nds hr6
          obtain ⟨L6, hL6⟩ : ∃ L, L = (T5 ++ [⟨lv, lv⟩] : List Nd).length := ⟨_, rfl⟩
          rw [← hL6] at e6
          subst e6
          have HM7 := Lib.hid (Mkd.setN hr6 ((HDR.out.below enAt_firm hb46).mono (Nat.le_trans hbw.size hszz)) ((HDR.out.below enAt_firm hb46).mono (Nat.le_trans hbw.size hszz)) (fun x hx => by
            rcases List.mem_append.1 hx with hx | hx
            · exact HM.out.nok x hx
            · rw [List.mem_singleton.1 hx]; exact ⟨hNOK.1, hNOK.1⟩) HM.out hO6)
          have HB7 := Lib.hid ((hbw.trans hb46).setCell (p := ⟨O, 0, none⟩) HM.out.ge (.slice an6 L6 cn6))
          have hc6 := hO6.three.1
          have hf6 := hO6.free 0
          clear hr6 hb6 hg6 hb46 hO6 hnds6 hcap6 hL6 hal6 hszz m0 m1 m2 f0 d0 d1 d2 c0 c1 hbw
          go_wp2_with fail
          exact ⟨⟨k + 1, _, by omega, by go_num, (by rw [HST.out]; exact HM7), HB7.out⟩, by simp [intOf]; omega⟩
      · obtain rfl : k = f.nodes.length := by omega
        have HRV := Lib.hid (show R = (swept ⟨List.take f.nodes.length (landed f.nodes m), f.syn, f.syn⟩, 0) by rw [HRV0.out, ← landed_ln f.nodes m, List.take_length])
        have HMX := HM
        have HRX := Lib.hid (HR1.out.next hbw)
        have HALX := Lib.hid (HAL1.out.trans (hbw.mono HAL1.out.size))
        have HLN := Lib.hid (show (List.take f.nodes.length (landed f.nodes m)).length ≤ 1048576 ∧ f.syn.length ≤ 1048576 ∧ f.syn.length ≤ 1048576 by have := HDL.out; rw [List.length_take, landed_ln]; omega)
        have HRG := HRG0
        clear m0 m1 m2 f0 HRV0
        obtain ⟨a5, c5, e5, hfs5⟩ := HMX.out.fss
        simp only [Value.slice.injEq] at e5
        obtain ⟨e5a, e5l, e5b⟩ := e5
        subst e5a
        subst e5b
        have HSW := Lib.hid (rSwept_any _ _ _ hfs5 HLN.out HRG.out)
        unfold fsV at HSW
        simp only at HSW
        try rw [← e5l] at HSW
        clear e5l
        obtain ⟨m0, m1, m2⟩ := HMX.out.bk.three
        simp only at m0 m1 m2
        clear hfs5 HLN HRG
        generalize swept _ = SF at *
        go_wp2_with fail
        refine (HSW.out).mono ?_
        rintro e w7 ⟨p7, rfl, hf7, hb7⟩
        clear m0 m1 m2 HSW
        have HAX := Lib.hid (HALX.out.trans (hb7.mono HALX.out.size))
        obtain ⟨y1, y2, y3⟩ := fin3 (HRX.out.next hb7) hf7 HRB.out HAX.out SF.nodes.length SF.dir.length SF.syn.length rfl rfl rfl
        have Y1 := Lib.hid y1
        have Y2 := Lib.hid y2
        obtain ⟨z0, z1, z2⟩ := y3.three
        obtain ⟨a0, a1, a2⟩ := (HRX.out.next hb7).three
        have b0 := (HRX.out.next hb7).free 0
        have b1 := (HRX.out.next hb7).free 1
        have b2 := (HRX.out.next hb7).free 2
        clear y1 y2 y3 hf7
        obtain ⟨an7, cn7, ad7, cd7, ay7, cy7⟩ := p7
        simp only at *
        go_wp2_with fail
        refine bodyPost_ret (v := .tuple #[.agg #[.slice an7 SF.nodes.length cn7, .slice ad7 SF.dir.length cd7, .slice ay7 SF.syn.length cy7], .int .i64 0]) (by simp [results, Try.results13, go_sem, z0, z1, z2]) rfl ?_
        rw [HRV.out]
        exact ⟨⟨an7, cn7, ad7, cd7, ay7, cy7⟩, rfl, Y1.out, Y2.out⟩
end Go.Proofs.Ytmjcdjekakaigaa.Fs
