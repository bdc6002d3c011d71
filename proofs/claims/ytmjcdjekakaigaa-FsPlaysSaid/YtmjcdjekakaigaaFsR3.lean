/- The walks of the reference's FsCheck, FsRead. -/
import Derived.Test.YtmjcdjekakaigaaFsR2
import Derived.Test.YtmjcdjekakaigaaFsRd
namespace Go.Proofs.Ytmjcdjekakaigaa.Fs
open Go.RowKit
set_option linter.unusedVariables false

theorem all_step {f : T} {k : Nat} (h0 : ∀ i, i < k → named f.dir f.syn (i : Int) = true) (h : named f.dir f.syn (k : Int) = true) : ∀ i, i < k + 1 → named f.dir f.syn (i : Int) = true := fun i hi => by
  by_cases e : i = k
  · rw [e]; exact h
  · exact h0 i (by omega)
theorem allN_true {f : T} (h : ∀ i, i < f.nodes.length → named f.dir f.syn (i : Int) = true) : allN f = true := by
  unfold allN
  exact List.all_eq_true.2 fun i hi => h i (List.mem_range.1 hi)
theorem allN_false {f : T} {i : Nat} (hi : i < f.nodes.length) (h : named f.dir f.syn (i : Int) = false) : allN f = false := by
  unfold allN
  exact List.all_eq_false.2 ⟨i, List.mem_range.2 hi, by rw [h]; simp⟩
set_option maxHeartbeats 8000000 in
set_option maxRecDepth 100000 in
theorem rCheck_any (p : At) (f : T) (w : World) (h : Fss w w.heap.size p f) :
    Calls Try.prog 16 #[fsV p f] w (NumPost (check f) w) := by
  have hal : Below w.heap.size w (w.alloc (.cells #[.slice p.an f.nodes.length p.cn, .slice p.ad f.dir.length p.cd, .slice p.ay f.syn.length p.cy] 25)) := (Below.refl _ _).alloc (Nat.le_refl _) _
  have hT : Bk (w.alloc (.cells #[.slice p.an f.nodes.length p.cn, .slice p.ad f.dir.length p.cd, .slice p.ay f.syn.length p.cy] 25)) w.heap.size 25 #[.slice p.an f.nodes.length p.cn, .slice p.ad f.dir.length p.cd, .slice p.ay f.syn.length p.cy] := bk_new _ _ _
  have HF := Lib.hid (h.next hal)
  have HT := Lib.hid hT
  have hs0 := hal.size
  obtain ⟨an, cn, ad, cd, ay, cy⟩ := p
  have E1 := Lib.hid (fun h => check_many (f := f) h)
  have E2 := Lib.hid (fun h h2 => check_big (f := f) h h2)
  have E3 := Lib.hid (fun h h2 h3 => check_dir (f := f) h h2 h3)
  have E4 := Lib.hid (fun h h2 h3 h4 => check_syn (f := f) h h2 h3 h4)
  have E5 := Lib.hid (fun h h2 h3 h4 => check_end (f := f) h h2 h3 h4)
  have hnc := h.ncap.2.1
  have hnl := h.ncap.1
  have hdm := Nat.le_trans h.dcap.1 h.dcap.2.1
  have hsm := Nat.le_trans h.scap.1 h.scap.2.1
  have HDM := Lib.hid hdm
  have HSM := Lib.hid hsm
  unfold maxLen at hnc hdm hsm
  unfold fsV
  simp only at *
  obtain ⟨b0, b1, b2⟩ := hT.three
  clear h hT
  by_cases g1 : 24 < f.nodes.length
  · have hR := Lib.hid (E1.out g1)
    have q1 : decide ((24 : Int) < (f.nodes.length : Int)) = true := decide_eq_true (by omega)
    go_enter Try.func16, Try.ntmps16
    go_wp2_with fail
    go_ret
    exact ⟨by rw [hR.out]; rfl, hal⟩
  have q1 : decide ((24 : Int) < (f.nodes.length : Int)) = false := decide_eq_false (by omega)
  have G1 := Lib.hid g1
  have HS1 := Lib.hid (fun j (hj : j < f.nodes.length) h0 h => big_step (l := f.nodes) hj h0 h)
  have HS2 := Lib.hid (fun j (hj : j < f.nodes.length) h => big_hit (l := f.nodes) hj h)
  have hl1 := dirC_lt f.nodes.length f.dir []
  have hl2 := dirC_lt f.nodes.length f.syn []
  have HDC := Lib.hid (fun W (hb : Below (w.alloc (.cells #[.slice an f.nodes.length cn, .slice ad f.dir.length cd, .slice ay f.syn.length cy] 25)).heap.size (w.alloc (.cells #[.slice an f.nodes.length cn, .slice ad f.dir.length cd, .slice ay f.syn.length cy] 25)) W) => rDir_any ad cd f.nodes.length f.dir W HDM.out (by unfold maxLen; omega) HF.out.dok (HF.out.dir.next enAt_firm hb))
  have HSC := Lib.hid (fun W (hb : Below (w.alloc (.cells #[.slice an f.nodes.length cn, .slice ad f.dir.length cd, .slice ay f.syn.length cy] 25)).heap.size (w.alloc (.cells #[.slice an f.nodes.length cn, .slice ad f.dir.length cd, .slice ay f.syn.length cy] 25)) W) => rDir_any ay cy f.nodes.length f.syn W HSM.out (by unfold maxLen; omega) HF.out.sok (HF.out.syn.next enAt_firm hb))
  have HNA := Lib.hid (fun (i : Int) W (hb : Below (w.alloc (.cells #[.slice an f.nodes.length cn, .slice ad f.dir.length cd, .slice ay f.syn.length cy] 25)).heap.size (w.alloc (.cells #[.slice an f.nodes.length cn, .slice ad f.dir.length cd, .slice ay f.syn.length cy] 25)) W) => rNamed_any ad ay cd cy f.dir f.syn i W HDM.out HSM.out (HF.out.dir.next enAt_firm hb) (HF.out.syn.next enAt_firm hb))
  obtain ⟨LV, hLV⟩ : ∃ LV : Nat → ByteArray, LV = fun j => str (f.nodes.getD j nulN).live := ⟨_, rfl⟩
  obtain ⟨SY, hSY⟩ : ∃ SY : Nat → ByteArray, SY = fun j => str (f.nodes.getD j nulN).syn := ⟨_, rfl⟩
  have HBG := Lib.hid (fun j => show big (f.nodes.getD j nulN) = (decide (65536 < (LV j).size) || decide (65536 < (SY j).size)) by
    unfold big; rw [hLV, hSY]; simp only [str_size])
  have HND : Hid (f.nodes.length ≠ 0 → ∃ b off, an = some ⟨b, off, none⟩ ∧ b < (w.alloc (.cells #[.slice an f.nodes.length cn, .slice ad f.dir.length cd, .slice ay f.syn.length cy] 25)).heap.size ∧ ∀ i, i < f.nodes.length → (w.alloc (.cells #[.slice an f.nodes.length cn, .slice ad f.dir.length cd, .slice ay f.syn.length cy] 25)).cell? ⟨b, off + i * 2, none⟩ = some (.string (LV i)) ∧ (w.alloc (.cells #[.slice an f.nodes.length cn, .slice ad f.dir.length cd, .slice ay f.syn.length cy] 25)).cell? ⟨b, off + i * 2 + 1, none⟩ = some (.string (SY i))) := by
    rw [hLV, hSY]; exact Lib.hid (fun h => HF.out.nds (fun e => h (by rw [e]; rfl)))
  have HDL := Lib.hid (fun (i : Nat) (hi : i < f.nodes.length) h => allN_false (f := f) hi h)
  have HAL := Lib.hid (fun h => allN_true (f := f) h)
  have HAS := Lib.hid (fun k h0 h => all_step (f := f) (k := k) h0 h)
  clear hLV hSY
  go_enter Try.func16, Try.ntmps16
  go_wp2_with fail
  obtain ⟨W1, hW1⟩ : ∃ W1, W1 = w.alloc (.cells #[.slice an f.nodes.length cn, .slice ad f.dir.length cd, .slice ay f.syn.length cy] 25) := ⟨_, rfl⟩
  rw [← hW1] at HF HT hal hs0 HDC HSC HNA HND b0 b1 b2 ⊢
  clear hW1
  go_loopw [3] (fun i wr => ∃ k : Nat, k ≤ f.nodes.length ∧ i = .int .i64 k ∧ wr = W1 ∧ Hid ((f.nodes.take k).any big = false)) (fun i _ => f.nodes.length - (intOf i).toNat)
  case atStart => exact ⟨0, by omega, rfl, rfl, Lib.hid (by simp)⟩
  case round =>
    obtain ⟨k, hk, rfl, hwr, HJ⟩ := hrel
    rw [hwr]
    clear hwr
    by_cases hlt : k < f.nodes.length
    · obtain ⟨bb, off, rfl, hbb, hcc⟩ := HND.out (by omega)
      obtain ⟨c0, c1⟩ := hcc k hlt
      have hkI : (k : Int) < (f.nodes.length : Int) := by omega
      have hh := HS2.out k hlt
      have hn := HS1.out k hlt HJ.out
      rw [HBG.out] at hh hn
      clear hcc
      by_cases o1 : 65536 < (LV k).size
      · have hF := Lib.hid (E2.out G1.out (hh (by rw [decide_eq_true o1]; rfl)))
        have q2 : decide ((65536 : Int) < ((LV k).size : Int)) = true := decide_eq_true (by omega)
        clear hh hn
        go_wp2_with fail
        go_ret
        exact ⟨by rw [hF.out]; rfl, hal⟩
      · have q2 : decide ((65536 : Int) < ((LV k).size : Int)) = false := decide_eq_false (by omega)
        by_cases o2 : 65536 < (SY k).size
        · have hF := Lib.hid (E2.out G1.out (hh (by rw [decide_eq_true o2]; simp)))
          have q3 : decide ((65536 : Int) < ((SY k).size : Int)) = true := decide_eq_true (by omega)
          clear hh hn
          go_wp2_with fail
          go_ret
          exact ⟨by rw [hF.out]; rfl, hal⟩
        · have hN := Lib.hid (hn (by rw [decide_eq_false o1, decide_eq_false o2]; rfl))
          have q3 : decide ((65536 : Int) < ((SY k).size : Int)) = false := decide_eq_false (by omega)
          clear hh hn
          go_wp2_with fail
          exact ⟨⟨k + 1, by omega, by go_num, trivial, hN⟩, by simp [intOf]; omega⟩
    · obtain rfl : k = f.nodes.length := by omega
      have HNB := Lib.hid (show f.nodes.any big = false by have := HJ.out; rwa [List.take_length] at this)
      have E3' := Lib.hid (fun h => E3.out G1.out HNB.out h)
      have E4' := Lib.hid (fun h h2 => E4.out G1.out HNB.out h h2)
      have E5' := Lib.hid (fun h h2 => E5.out G1.out HNB.out h h2)
      generalize hX : dirC f.nodes.length [] f.dir = x1 at *
      generalize hY : dirC f.nodes.length [] f.syn = x2 at *
      clear HJ hX hY
      go_wp2_with fail
      refine (HDC.out _ (Below.refl _ _)).mono ?_
      rintro e w2 ⟨rfl, hb2⟩
      obtain ⟨d0, d1, d2⟩ := (HT.out.next hb2).three
      by_cases hx1 : x1 = 0
      · have r1 : ((x1 : Int) == 0) = true := by rw [hx1]; rfl
        have HX1 := Lib.hid hx1
        clear hx1
        go_wp2_with fail
        refine (HSC.out _ hb2).mono ?_
        rintro e w3 ⟨rfl, hb3⟩
        have hb23 := below_then hb2 hb3
        obtain ⟨y0, y1, y2⟩ := (HT.out.next hb23).three
        by_cases hx2 : x2 = 0
        · have r2 : ((x2 : Int) != 0) = false := by rw [hx2]; rfl
          have HR := Lib.hid (E5'.out HX1.out hx2)
          clear hx2 d0 d1 d2
          go_wp2_with fail
          go_loopw [5] (fun i wr => ∃ k : Nat, k ≤ f.nodes.length ∧ i = .int .i64 k ∧ wr = w3 ∧ Hid (∀ j, j < k → named f.dir f.syn (j : Int) = true)) (fun i _ => f.nodes.length - (intOf i).toNat)
          case atStart => exact ⟨0, by omega, rfl, rfl, Lib.hid (fun j hj => absurd hj (by omega))⟩
          case round =>
            obtain ⟨k, hk, rfl, hwr, HJ⟩ := hrel
            rw [hwr]
            clear hwr
            by_cases hlt2 : k < f.nodes.length
            · have HC := Lib.hid (HNA.out (k : Int) w3 hb23)
              have hkI : (k : Int) < (f.nodes.length : Int) := by omega
              cases hnm : named f.dir f.syn (k : Int) with
              | true =>
                rw [hnm] at HC
                have HN := Lib.hid (HAS.out k HJ.out hnm)
                clear hnm
                go_wp2_with fail
                refine (HC.out).mono ?_
                rintro e w4 ⟨rfl, rfl⟩
                go_wp2_with fail
                exact ⟨⟨k + 1, by omega, by go_num, trivial, HN⟩, by simp [intOf]; omega⟩
              | false =>
                rw [hnm] at HC
                have HF4 := Lib.hid (HR.out.trans (if_pos (HDL.out k hlt2 hnm)))
                clear hnm
                go_wp2_with fail
                refine (HC.out).mono ?_
                rintro e w4 ⟨rfl, rfl⟩
                go_wp2_with fail
                go_ret
                exact ⟨by rw [HF4.out]; rfl, hal.trans (hb23.mono hs0)⟩
            · obtain rfl : k = f.nodes.length := by omega
              have HF4 := Lib.hid (HR.out.trans (if_neg (by rw [HAL.out HJ.out]; simp)))
              go_wp2_with fail
              go_ret
              exact ⟨by rw [HF4.out]; rfl, hal.trans (hb23.mono hs0)⟩
        · have r2 : ((x2 : Int) != 0) = true := by rw [bne_iff_ne]; omega
          have HR := Lib.hid (E4'.out HX1.out hx2)
          clear hx2 d0 d1 d2
          go_wp2_with fail
          go_ret
          exact ⟨by rw [HR.out]; rfl, hal.trans (hb23.mono hs0)⟩
      · have r1 : ((x1 : Int) == 0) = false := by rw [beq_eq_false_iff_ne]; omega
        have r2 : ((x1 : Int) != 0) = true := by rw [bne_iff_ne]; omega
        have HR := Lib.hid (E3'.out hx1)
        clear hx1
        go_wp2_with fail
        go_ret
        exact ⟨by rw [HR.out]; rfl, hal.trans (hb2.mono hs0)⟩
set_option maxHeartbeats 4000000 in
set_option maxRecDepth 100000 in
theorem rRead_any (p : At) (f : T) (n : S) (w : World) (h : Fss w w.heap.size p f) :
    Calls Try.prog 11 #[fsV p f, .string (str n)] w (TextEPost (read f n) w) := by
  have hal : Below w.heap.size w (w.alloc (.cells #[.slice p.an f.nodes.length p.cn, .slice p.ad f.dir.length p.cd, .slice p.ay f.syn.length p.cy] 25)) := (Below.refl _ _).alloc (Nat.le_refl _) _
  have hT : Bk (w.alloc (.cells #[.slice p.an f.nodes.length p.cn, .slice p.ad f.dir.length p.cd, .slice p.ay f.syn.length p.cy] 25)) w.heap.size 25 #[.slice p.an f.nodes.length p.cn, .slice p.ad f.dir.length p.cd, .slice p.ay f.syn.length p.cy] := bk_new _ _ _
  have HF := Lib.hid (h.next hal)
  have HT := Lib.hid hT
  have HC := Lib.hid (rCheck_any p f _ (h.next hal))
  have hs0 := hal.size
  have hcl := check_lt f
  have hdm := Nat.le_trans h.dcap.1 h.dcap.2.1
  unfold read
  obtain ⟨an, cn, ad, cd, ay, cy⟩ := p
  unfold fsV at *
  simp only at *
  have b := hT.three
  obtain ⟨b0, b1, b2⟩ := b
  clear h hT
  by_cases hc : check f ≠ 0
  · rw [if_pos hc]
    have g1 : ((check f : Int) != 0) = true := by rw [bne_iff_ne]; omega
    generalize check f = er at *
    go_enter Try.func11, Try.ntmps11
    go_wp2_with fail
    refine (HC.out).mono ?_
    rintro e w1 ⟨rfl, hb1⟩
    go_wp2_with fail
    go_ret2
    exact ⟨rfl, hal.trans (hb1.mono hs0)⟩
  rw [if_neg hc]
  have hc0 : check f = 0 := by omega
  have hok := (check_ok f).1 hc0
  have hnl := hok.len
  have HP := Lib.hid (fun W (hb : Below (w.alloc (.cells #[.slice an f.nodes.length cn, .slice ad f.dir.length cd, .slice ay f.syn.length cy] 25)).heap.size (w.alloc (.cells #[.slice an f.nodes.length cn, .slice ad f.dir.length cd, .slice ay f.syn.length cy] 25)) W) => rNode_any ad cd f.dir n W hdm (HF.out.dir.next enAt_firm hb))
  rw [hc0] at HC
  clear hc hc0
  cases hh : has f.dir n with
  | false =>
    rw [nodeOf_none hh] at HP
    rw [if_pos rfl]
    clear hh
    go_enter Try.func11, Try.ntmps11
    go_wp2_with fail
    refine (HC.out).mono ?_
    rintro e w1 ⟨rfl, hb1⟩
    obtain ⟨d0, d1, d2⟩ := (HT.out.next hb1).three
    go_wp2_with fail
    refine (HP.out _ hb1).mono ?_
    rintro e w2 ⟨rfl, rfl⟩
    go_wp2_with fail
    go_ret2
    exact ⟨rfl, hal.trans (hb1.mono hs0)⟩
  | true =>
    rw [if_neg (by simp)]
    have g4 := hok.dir.rg _ (nodeOf_mem hok.dir.up hh)
    simp only at g4
    obtain ⟨nb, noff, rfl, hnb, hncc⟩ := HF.out.nds (fun e => by rw [e] at g4; simp at g4; omega)
    obtain ⟨i, hi⟩ : ∃ i : Nat, nodeOf f.dir n = (i : Int) := ⟨(nodeOf f.dir n).toNat, by omega⟩
    have hil : i < f.nodes.length := by omega
    have HNC := Lib.hid (hncc i hil)
    rw [hi, Int.toNat_natCast]
    rw [hi] at HP
    unfold ndAt at HNC
    generalize (f.nodes.getD i nulN).live = tx at *
    have hilI : (i : Int) < (f.nodes.length : Int) := by omega
    have hi0 : decide ((i : Int) < 0) = false := decide_eq_false (by omega)
    clear g4 hncc hi hok hh
    go_enter Try.func11, Try.ntmps11
    go_wp2_with fail
    refine (HC.out).mono ?_
    rintro e w1 ⟨rfl, hb1⟩
    obtain ⟨d0, d1, d2⟩ := (HT.out.next hb1).three
    have k2 := (hb1.cell (p := ⟨nb, noff + i * 2, none⟩) hnb).trans HNC.out.1
    go_wp2_with fail
    refine (HP.out _ hb1).mono ?_
    rintro e w2 ⟨rfl, rfl⟩
    go_wp2_with fail
    go_ret2
    exact ⟨rfl, hal.trans (hb1.mono hs0)⟩
end Go.Proofs.Ytmjcdjekakaigaa.Fs
