/- The walk of FsEither. -/
import Derived.Test.YtmjcdjekakaigaaFsB
import Derived.Test.YtmjcdjekakaigaaFsR9
import Derived.Test.YtmjcdjekakaigaaFsP6
namespace Go.Proofs.Ytmjcdjekakaigaa.Fs
open Go.RowKit
set_option linter.unusedVariables false

theorem crash_bad (f : T) (m : Nat) (h : (crash f m).2 ≠ 0) : (crash f m).1 = nul := by
  unfold crash at h ⊢
  split
  · rfl
  · rename_i hh; rw [if_neg hh] at h; exact absurd rfl h
theorem crash_zero (f : T) (m : Nat) (h : (crash f m).2 = 0) : Ok f := by
  unfold crash at h
  split at h
  · rename_i hh; exact absurd h hh
  · rename_i hh; exact (check_ok f).1 (by omega)
/-- what the law has found so far -/
def accE (b1 b2 : Bool) (j : Nat) : Bool := if j = 0 then false else if j = 1 then b1 else b1 || b2
set_option maxHeartbeats 8000000 in
set_option maxRecDepth 100000 in
theorem fsEither_walk (w : World) (p : At) (f : T) (hf : Fss w w.heap.size p f) (nm : ByteArray) (hnm : nm.size ≤ maxLen) (mk : Nat) (hmk : mk < 18446744073709551616) :
    Calls Try.prog 7 #[fsV p f, .string nm, .int .u64 (mk : Nat)] w (BoolPost true w) := by
  obtain ⟨n, rfl⟩ : ∃ n, nm = str n := ⟨nm.data.toList, by simp [str]⟩
  rw [str_size] at hnm
  have hal : Below w.heap.size w (w.alloc (.cells #[.slice p.an f.nodes.length p.cn, .slice p.ad f.dir.length p.cd, .slice p.ay f.syn.length p.cy] 25)) := (Below.refl _ _).alloc (Nat.le_refl _) _
  have HT := Lib.hid (bk_new w 25 #[.slice p.an f.nodes.length p.cn, .slice p.ad f.dir.length p.cd, .slice p.ay f.syn.length p.cy])
  have HF := Lib.hid (hf.next hal)
  generalize hW0 : w.alloc (.cells #[.slice p.an f.nodes.length p.cn, .slice p.ad f.dir.length p.cd, .slice p.ay f.syn.length p.cy] 25) = W0 at *
  have HW := Lib.hid hW0
  have hs0 := hal.size
  have HC := Lib.hid (crash_any p f mk W0 HF.out hmk)
  have hbad := crash_bad f mk
  have hzero := crash_zero f mk
  have hlaw := fun (h : Ok f) => either_law h mk n
  generalize crash f mk = R at *
  obtain ⟨g, er⟩ := R
  obtain ⟨an, cn, ad, cd, ay, cy⟩ := p
  unfold fsV at *
  simp only at *
  have q := HT.out.three
  obtain ⟨d0, d1, d2⟩ := q
  have HFB := Lib.hid (fun W => fsBegun_any W)
  have HBAD := Lib.hid hbad
  have HZ := Lib.hid hzero
  have HLAW := Lib.hid hlaw
  clear hbad hzero hlaw hf hW0
  go_enter Try.func7, Try.ntmps7
  go_wp2_with fail
  rw [HW.out]
  go_wp2_with fail
  refine (HC.out).mono ?_
  rintro e w1 ⟨nv, dv, sv, rfl, own, hb1⟩
  obtain ⟨p1, e1, e2, e3, hfs1⟩ := own.fss
  subst e1; subst e2; subst e3
  clear own HC d0 d1 d2
  obtain ⟨ban, bcn, bad, bcd, bay, bcy⟩ := p1
  simp only at *
  go_wp2_with fail
  have hal2 := (Below.refl w1.heap.size w1).alloc (Nat.le_refl _) (.cells #[.slice ban g.nodes.length bcn, .slice bad g.dir.length bcd, .slice bay g.syn.length bcy] 25)
  have HK2 := Lib.hid (bk_new w1 25 #[.slice ban g.nodes.length bcn, .slice bad g.dir.length bcd, .slice bay g.syn.length bcy])
  have HG2 := Lib.hid (hfs1.next hal2)
  have HB2 := Lib.hid (below_then hb1 hal2)
  generalize w1.alloc (.cells #[.slice ban g.nodes.length bcn, .slice bad g.dir.length bcd, .slice bay g.syn.length bcy] 25) = W2 at *
  generalize w1.heap.size = O at *
  clear hb1 hal2 hfs1
  refine (HFB.out _).mono ?_
  rintro e w3 ⟨rfl, hb3⟩
  by_cases he : er ≠ 0
  · obtain rfl : g = nul := HBAD.out he
    have hne : ((er : Int) != 0) = true := by rw [bne_iff_ne]; omega
    obtain ⟨o0, o1, o2⟩ := (HK2.out.next hb3).three
    have HSM := Lib.hid (rSame_any ⟨ban, bcn, bad, bcd, bay, bcy⟩ nulAt nul nul w3 (HG2.out.next hb3) (Fss.nul _ _))
    unfold fsV at HSM
    simp only at HSM
    go_wp2_with fail
    refine (HSM.out).mono ?_
    rintro e w4 ⟨rfl, hb4⟩
    have hend := hal.trans ((below_then HB2.out (below_then hb3 hb4)).mono hs0)
    clear hb3 hb4 o0 o1 o2
    go_wp2_with fail
    go_ret
    exact ⟨by first | rfl | simp, hend⟩
  · obtain rfl : er = 0 := by omega
    have hok := HZ.out rfl
    have hla := HLAW.out hok
    have hr1 := lst_rg hok n (L := f.dir) (Or.inl rfl)
    have hr2 := lst_rg hok n (L := f.syn) (Or.inr rfl)
    have hRD := read_any ⟨ban, bcn, bad, bcd, bay, bcy⟩ g n w3 (HG2.out.next hb3)
    generalize read g n = rr at *
    obtain ⟨rs, rg⟩ := rr
    unfold fsV TextEPost at hRD
    simp only at hRD
    have HRD := Lib.hid hRD
    obtain ⟨o0, o1, o2⟩ := (HK2.out.next hb3).three
    have HB3 := Lib.hid (below_then HB2.out hb3)
    have HLA := Lib.hid hla
    have HR1 := Lib.hid hr1
    have HR2 := Lib.hid hr2
    have HDL := Lib.hid (dir_len hok.dir)
    have HSL := Lib.hid (dir_len hok.syn)
    have HNL := Lib.hid hok.len
    clear hRD hla hr1 hr2 hok he HZ HLAW HBAD HK2 HG2 HB2 hb3
    go_wp2_with fail
    refine (HRD.out).mono ?_
    rintro e w4 ⟨rfl, hb4⟩
    have HB4 := Lib.hid (below_then HB3.out hb4)
    obtain ⟨d0, d1, d2⟩ := (HT.out.next HB4.out).three
    clear o0 o1 o2 HRD hb4 HB3
    go_wp2_with fail
    have hal5 := (Below.refl w4.heap.size w4).alloc (Nat.le_refl _) (.cells #[.slice ad f.dir.length cd, .slice ay f.syn.length cy] 23)
    have HK5 := Lib.hid (bk_new w4 23 #[.slice ad f.dir.length cd, .slice ay f.syn.length cy])
    have HB5 := Lib.hid (below_then HB4.out hal5)
    generalize w4.alloc (.cells #[.slice ad f.dir.length cd, .slice ay f.syn.length cy] 23) = W5 at *
    generalize w4.heap.size = LB at *
    obtain ⟨k0, k1⟩ := HK5.out.two
    clear d0 d1 d2 hal5 HB4
    obtain ⟨d0, d1, d2⟩ := (HT.out.next HB5.out).three
    have HF5 := Lib.hid (HF.out.next HB5.out)
    have hend := hal.trans (HB5.out.mono hs0)
    obtain ⟨b1, hb1⟩ : ∃ b, b = eiO f (rs, rg) n (lst f.dir n) := ⟨_, rfl⟩
    obtain ⟨b2, hb2⟩ : ∃ b, b = eiO f (rs, rg) n (lst f.syn n) := ⟨_, rfl⟩
    rw [← hb1, ← hb2] at HLA
    have HB1 := Lib.hid hb1
    have HB2 := Lib.hid hb2
    clear hb1 hb2
    have HQN := Lib.hid (fun (u : S) => tl_eq u n)
    have HQR := Lib.hid (fun (u : S) => tl_eq rs u)
    generalize str n = Y at *
    generalize str rs = Z at *
    go_loop [11, 13, 14, 15, 41] (fun v11 _ _ _ v41 => ∃ j : Nat, j ≤ 2 ∧ v41 = .int .i64 j ∧ v11 = .bool (accE b1 b2 j)) (fun _ _ _ _ v41 => 2 - (intOf v41).toNat)
    case atStart => exact ⟨0, by omega, rfl, rfl⟩
    case round =>
      obtain ⟨j, hj, rfl, rfl⟩ := hrel
      by_cases hlt : j < 2
      · obtain ⟨A, C, L, hcell, HEN, HLL, HST, HRG⟩ : ∃ A C L, W5.cell? ⟨LB, j, none⟩ = some (.slice A (List.length L) C) ∧ Hid (Ens W5 W5.heap.size A L) ∧ Hid (L.length ≤ 24) ∧ Hid (accE b1 b2 (j + 1) = (accE b1 b2 j || eiO f (rs, rg) n (lst L n))) ∧ Hid (-1 ≤ lst L n ∧ lst L n < (f.nodes.length : Int)) := by
          have hj2 : j = 0 ∨ j = 1 := by omega
          rcases hj2 with rfl | rfl
          · exact ⟨ad, cd, f.dir, k0, Lib.hid HF5.out.dir, Lib.hid (by have := HDL.out; have := HNL.out; omega), Lib.hid (by rw [← HB1.out]; simp [accE]), HR1⟩
          · exact ⟨ay, cy, f.syn, k1, Lib.hid HF5.out.syn, Lib.hid (by have := HSL.out; have := HNL.out; omega), Lib.hid (by rw [← HB2.out]; simp [accE]), HR2⟩
        have hjI : decide ((j : Int) < (2 : Int)) = true := decide_eq_true (by omega)
        generalize accE b1 b2 j = pj at *
        clear k0 k1
        go_wp2_with fail
        go_loop [14, 15] (fun v14 v15 => ∃ i : Nat, i ≤ L.length ∧ v15 = .int .i64 i ∧ v14 = .int .i64 (lst (L.take i) n)) (fun _ v15 => L.length - (intOf v15).toNat)
        case atStart => exact ⟨0, by omega, rfl, rfl⟩
        case round =>
          obtain ⟨i, hi, rfl, rfl⟩ := hrel
          by_cases hilt : i < L.length
          · obtain ⟨bb, off, rfl, hbb, hcc⟩ := HEN.out (fun e => by rw [e] at hilt; simp at hilt)
            obtain ⟨c0, c1⟩ := hcc i hilt
            have hq := HQN.out (L.getD i nulE).name
            have HSN := Lib.hid (show lst (L.take (i + 1)) n = if (L.getD i nulE).name = n then (L.getD i nulE).node else lst (L.take i) n by rw [take_snoc L nulE i hilt, lst_snoc])
            have hiI : (i : Int) < (L.length : Int) := by omega
            generalize lst (L.take i) n = z0 at *
            generalize (L.getD i nulE).node = z at *
            generalize str (L.getD i nulE).name = X at *
            have hLm : L.length ≤ 24 := HLL.out
            clear hcc
            by_cases hn : (L.getD i nulE).name = n
            · have HS := Lib.hid (show lst (L.take (i + 1)) n = z by rw [HSN.out, if_pos hn])
              rw [decide_eq_true hn] at hq
              clear HSN hn
              go_wp2_with fail
              exact ⟨⟨i + 1, by omega, by go_num, by rw [HS.out]⟩, by simp [intOf]; omega⟩
            · have HS := Lib.hid (show lst (L.take (i + 1)) n = z0 by rw [HSN.out, if_neg hn])
              rw [decide_eq_false hn] at hq
              clear HSN hn
              go_wp2_with fail
              exact ⟨⟨i + 1, by omega, by go_num, by rw [HS.out]⟩, by simp [intOf]; omega⟩
          · obtain rfl : i = L.length := by omega
            rw [List.take_length]
            generalize lst L n = at_ at *
            obtain ⟨h1, h2⟩ := HRG.out
            by_cases hneg : at_ < 0
            · have hN := Lib.hid (show eiO f (rs, rg) n at_ = decide (rg = 5) by unfold eiO; rw [if_pos hneg])
              have hd : decide (at_ < 0) = true := decide_eq_true hneg
              have h5 : ((rg : Int) == 5) = decide (rg = 5) := by
                by_cases h : rg = 5
                · subst h; rfl
                · rw [decide_eq_false h, beq_eq_false_iff_ne]; omega
              rw [hN.out] at HST
              generalize decide (rg = 5) = q5 at *
              clear h1 h2 hneg
              cases pj with
              | true =>
                go_wp2_with fail
                exact ⟨⟨j + 1, by omega, by go_num, by rw [HST.out]; rfl⟩, by simp [intOf]; omega⟩
              | false =>
                go_wp2_with fail
                exact ⟨⟨j + 1, by omega, by go_num, by rw [HST.out]; rfl⟩, by simp [intOf]; omega⟩
            · obtain ⟨m, rfl⟩ : ∃ m : Nat, at_ = (m : Int) := ⟨at_.toNat, by omega⟩
              have hmlt : m < f.nodes.length := by omega
              have hmI : (m : Int) < (f.nodes.length : Int) := by omega
              have hd : decide ((m : Int) < 0) = false := decide_eq_false (by omega)
              obtain ⟨bb, off, rfl, hbb, hcc⟩ := HF5.out.nds (fun e => by rw [e] at hmlt; simp at hmlt)
              obtain ⟨c0, c1⟩ := hcc m hmlt
              have hN := Lib.hid (show eiO f (rs, rg) n (m : Int) = (decide (rg = 0) && (decide (rs = (f.nodes.getD m nulN).live) || decide (rs = (f.nodes.getD m nulN).syn))) by unfold eiO; rw [if_neg (by omega)]; simp)
              have h0 : ((rg : Int) == 0) = decide (rg = 0) := by
                by_cases h : rg = 0
                · subst h; rfl
                · rw [decide_eq_false h, beq_eq_false_iff_ne]; omega
              have hq1 := HQR.out (f.nodes.getD m nulN).live
              have hq2 := HQR.out (f.nodes.getD m nulN).syn
              rw [hN.out] at HST
              have hnl := HNL.out
              generalize decide (rg = 0) = q0 at *
              generalize decide (rs = (f.nodes.getD m nulN).live) = q1 at *
              generalize decide (rs = (f.nodes.getD m nulN).syn) = q2 at *
              generalize str (f.nodes.getD m nulN).live = X at *
              generalize str (f.nodes.getD m nulN).syn = Y2 at *
              clear h1 h2 hneg hcc
              cases pj with
              | true =>
                go_wp2_with fail
                exact ⟨⟨j + 1, by omega, by go_num, by rw [HST.out]; rfl⟩, by simp [intOf]; omega⟩
              | false =>
                cases q0 with
                | false =>
                  go_wp2_with fail
                  exact ⟨⟨j + 1, by omega, by go_num, by rw [HST.out]; rfl⟩, by simp [intOf]; omega⟩
                | true =>
                  cases q1 with
                  | true =>
                    go_wp2_with fail
                    exact ⟨⟨j + 1, by omega, by go_num, by rw [HST.out]; rfl⟩, by simp [intOf]; omega⟩
                  | false =>
                    go_wp2_with fail
                    exact ⟨⟨j + 1, by omega, by go_num, by rw [HST.out]; rfl⟩, by simp [intOf]; omega⟩
      · obtain rfl : j = 2 := by omega
        have hacc : accE b1 b2 2 = true := by rw [← HLA.out]; rfl
        rw [hacc]
        go_wp2_with fail
        go_ret
        exact ⟨rfl, hend⟩
end Go.Proofs.Ytmjcdjekakaigaa.Fs
