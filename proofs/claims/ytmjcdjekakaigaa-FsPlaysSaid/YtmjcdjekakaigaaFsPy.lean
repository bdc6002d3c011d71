/- fs.Play, fs.Do. -/
import Derived.Test.YtmjcdjekakaigaaFsDo
namespace Go.Proofs.Ytmjcdjekakaigaa.Fs
open Go.RowKit
set_option linter.unusedVariables false

theorem playF_step (f : T) (l : List Op) (k : Nat) (h : k < l.length) : playF f (l.drop k) = if (doOp f (l.getD k nulO)).2 ≠ 0 then (nul, (doOp f (l.getD k nulO)).2) else playF (doOp f (l.getD k nulO)).1 (l.drop (k + 1)) := by
  rw [drop_cons l nulO k h, playF]
theorem playF_end (f : T) (l : List Op) : playF f (l.drop l.length) = (f, 0) := by rw [List.drop_length, playF]
set_option maxHeartbeats 8000000 in
set_option maxRecDepth 100000 in
theorem play_any (p : At) (f : T) (a : Option Addr) (c : Nat) (l : List Op) (w : World) (h : Fss w w.heap.size p f) (hlm : l.length ≤ maxLen) (hu : Ops w w.heap.size a l) (hol : ∀ x ∈ l, opOk x) :
    Calls Try.prog 18 #[fsV p f, .slice a l.length c] w (FsPost (play f l) w) := by
  have hal0 : Below w.heap.size w (w.alloc (.cells #[.slice p.an f.nodes.length p.cn, .slice p.ad f.dir.length p.cd, .slice p.ay f.syn.length p.cy] 25)) := (Below.refl _ _).alloc (Nat.le_refl _) _
  have hT0 : Bk (w.alloc (.cells #[.slice p.an f.nodes.length p.cn, .slice p.ad f.dir.length p.cd, .slice p.ay f.syn.length p.cy] 25)) w.heap.size 25 #[.slice p.an f.nodes.length p.cn, .slice p.ad f.dir.length p.cd, .slice p.ay f.syn.length p.cy] := bk_new _ _ _
  have hal1 := (Below.refl (w.alloc (.cells #[.slice p.an f.nodes.length p.cn, .slice p.ad f.dir.length p.cd, .slice p.ay f.syn.length p.cy] 25)).heap.size (w.alloc (.cells #[.slice p.an f.nodes.length p.cn, .slice p.ad f.dir.length p.cd, .slice p.ay f.syn.length p.cy] 25))).alloc (Nat.le_refl _) (.cells #[.slice none 0 0, .slice none 0 0, .slice none 0 0] 25)
  have hT := hT0.next hal1
  have hR : Bk ((w.alloc (.cells #[.slice p.an f.nodes.length p.cn, .slice p.ad f.dir.length p.cd, .slice p.ay f.syn.length p.cy] 25)).alloc (.cells #[.slice none 0 0, .slice none 0 0, .slice none 0 0] 25)) (w.heap.size + 1) 25 #[.slice none 0 0, .slice none 0 0, .slice none 0 0] := by
    have := bk_new (w.alloc (.cells #[.slice p.an f.nodes.length p.cn, .slice p.ad f.dir.length p.cd, .slice p.ay f.syn.length p.cy] 25)) 25 #[.slice none 0 0, .slice none 0 0, .slice none 0 0]
    simpa using this
  have hF := (h.next hal0).next hal1
  have hU := (hu.next opAt_firm hal0).next opAt_firm hal1
  have hal := hal0.trans (hal1.mono hal0.size)
  have hcl := check_lt f
  clear hal0 hal1 hT0 h hu
  generalize hW : (w.alloc (.cells #[.slice p.an f.nodes.length p.cn, .slice p.ad f.dir.length p.cd, .slice p.ay f.syn.length p.cy] 25)).alloc (.cells #[.slice none 0 0, .slice none 0 0, .slice none 0 0] 25) = W1 at *
  have HW := Lib.hid hW
  have HT := Lib.hid hT
  have HR := Lib.hid hR
  have HF := Lib.hid hF
  have HU := Lib.hid hU
  have HC := Lib.hid (check_any p f W1 hF)
  have hsz : w.heap.size + 2 ≤ W1.heap.size := hR.lt
  obtain ⟨RB, hRB⟩ : ∃ RB, RB = w.heap.size + 1 := ⟨_, rfl⟩
  rw [← hRB] at HR
  have hRBw : w.heap.size ≤ RB := by omega
  have hRB1 : RB < W1.heap.size := by omega
  obtain ⟨d0, d1, d2⟩ := hT.three
  obtain ⟨an, cn, ad, cd, ay, cy⟩ := p
  unfold fsV at *
  simp only at *
  clear hW hT hR hF hU
  unfold play
  unfold maxLen at hlm
  by_cases hc : check f ≠ 0
  · rw [if_pos hc]
    have g1 : ((check f : Int) != 0) = true := by rw [bne_iff_ne]; omega
    generalize check f = er at *
    go_enter Try.func18, Try.ntmps18
    go_wp2_with fail
    rw [HW.out]
    go_wp2_with fail
    refine (HC.out).mono ?_
    rintro e w1 ⟨rfl, hb1⟩
    have q := HR.out.next hb1
    have hO := Own.nul w1 W1.heap.size
    obtain ⟨o1, o2, o3⟩ := store3 q hO hRBw hRB1 (hal.trans (hb1.mono (by omega)))
    rw [← hRB]
    obtain ⟨z0, z1, z2⟩ := o3.three
    obtain ⟨a0, a1, a2⟩ := q.three
    have b0 := q.free 0
    have b1 := q.free 1
    have b2 := q.free 2
    have HO1 := Lib.hid o1
    have HO2 := Lib.hid o2
    clear o1 o2 o3 q hO hRB
    go_wp2_with fail
    refine bodyPost_ret (v := .tuple #[.agg #[.slice none 0 0, .slice none 0 0, .slice none 0 0], .int .i64 er]) (by simp [results, Try.results18, go_sem, z0, z1, z2]) rfl ?_
    exact ⟨_, _, _, rfl, HO1.out, HO2.out⟩
  rw [if_neg hc]
  have hc0 : check f = 0 := by omega
  have hok := (check_ok f).1 hc0
  have hdl := dir_len hok.dir
  have hsl := dir_len hok.syn
  have hnl := hok.len
  rw [hc0] at HC
  by_cases h64 : 64 < l.length
  · rw [if_pos h64]
    have g1 : decide ((64 : Int) < (l.length : Int)) = true := decide_eq_true (by omega)
    go_enter Try.func18, Try.ntmps18
    go_wp2_with fail
    rw [HW.out]
    go_wp2_with fail
    refine (HC.out).mono ?_
    rintro e w1 ⟨rfl, hb1⟩
    have q := HR.out.next hb1
    have hO := Own.nul w1 W1.heap.size
    obtain ⟨o1, o2, o3⟩ := store3 q hO hRBw hRB1 (hal.trans (hb1.mono (by omega)))
    rw [← hRB]
    obtain ⟨z0, z1, z2⟩ := o3.three
    obtain ⟨a0, a1, a2⟩ := q.three
    have b0 := q.free 0
    have b1 := q.free 1
    have b2 := q.free 2
    have HO1 := Lib.hid o1
    have HO2 := Lib.hid o2
    clear o1 o2 o3 q hO hRB
    go_wp2_with fail
    refine bodyPost_ret (v := .tuple #[.agg #[.slice none 0 0, .slice none 0 0, .slice none 0 0], .int .i64 2]) (by simp [results, Try.results18, go_sem, z0, z1, z2]) rfl ?_
    exact ⟨_, _, _, rfl, HO1.out, HO2.out⟩
  rw [if_neg h64]
  have g64 : decide ((64 : Int) < (l.length : Int)) = false := decide_eq_false (by omega)
  have HCO := Lib.hid (fun W (hb : Below W1.heap.size W1 W) => copied_any ⟨an, cn, ad, cd, ay, cy⟩ f W (HF.out.next hb) (by omega) (by omega) (by omega))
  have HOK := Lib.hid hok
  have HOL := Lib.hid (fun j (hj : j < l.length) => hol _ (getD_mem l nulO j hj))
  have HSTP := Lib.hid (fun (g : T) k hk => playF_step g l k hk)
  have HEND := Lib.hid (fun (g : T) => playF_end g l)
  have H0 := Lib.hid (show playF f l = playF f (l.drop 0) by rw [List.drop_zero])
  unfold fsV at HCO
  simp only at HCO
  generalize playF f l = R at *
  clear hc hc0 hok hol
  go_enter Try.func18, Try.ntmps18
  go_wp2_with fail
  rw [HW.out]
  go_wp2_with fail
  refine (HC.out).mono ?_
  rintro e w1 ⟨rfl, hb1⟩
  obtain ⟨x0, x1, x2⟩ := (HT.out.next hb1).three
  clear d0 d1 d2
  go_wp2_with fail
  refine (HCO.out _ hb1).mono ?_
  rintro e w2 ⟨G, nv, dv, sv, rfl, hch, hb2⟩
  rw [← hRB]
  have HB1 := Lib.hid (show Below w.heap.size w w1 from hal.trans (hb1.mono (by omega)))
  have hRBw1 : RB < w1.heap.size := Nat.lt_of_lt_of_le hRB1 hb1.size
  have HQ := Lib.hid (HR.out.next hb1)
  have HUB := Lib.hid (HU.out.next opAt_firm hb1)
  have HCH := Lib.hid hch
  clear hRB hch x0 x1 x2 HF HT HR HU HCO HC
  go_wp2_with fail
  go_loopw [25] (fun i wr => ∃ k : Nat, k ≤ l.length ∧ i = .int .i64 k ∧ (∃ g nv dv sv, Hid (Chg wr w1.heap.size G g nv dv sv) ∧ Hid (Ok g) ∧ Hid (R = playF g (l.drop k))) ∧ Below w1.heap.size w1 wr) (fun i _ => l.length - (intOf i).toNat)
  case atStart => exact ⟨0, by omega, rfl, ⟨_, _, _, _, HCH, HOK, H0⟩, hb2⟩
  case round =>
    obtain ⟨k, hk, rfl, ⟨g, nv, dv, sv, HG, HGO, HGR⟩, hbw⟩ := hrel
    by_cases hlt : k < l.length
    · obtain ⟨bb, off, rfl, hbb, hcc⟩ := HUB.out (fun e => by rw [e] at hlt; simp at hlt)
      obtain ⟨k0, k1, k2, k3⟩ := hcc k hlt
      have e0 := (hbw.cell (p := ⟨bb, off + k * 4, none⟩) hbb).trans k0
      have e1 := (hbw.cell (p := ⟨bb, off + k * 4 + 1, none⟩) hbb).trans k1
      have e2 := (hbw.cell (p := ⟨bb, off + k * 4 + 2, none⟩) hbb).trans k2
      have e3 := (hbw.cell (p := ⟨bb, off + k * 4 + 3, none⟩) hbb).trans k3
      have hkI : (k : Int) < (l.length : Int) := by omega
      have hoo := HOL.out k hlt
      have hst := HSTP.out g k hlt
      generalize l.getD k nulO = o at *
      have hbA : Below w1.heap.size w1 (wr.alloc (.cells #[.int .i64 o.kind, .string (str o.name), .string (str o.to), .string (str o.text)] 27)) := hbw.alloc hbw.size _
      have hGA := HG.out.move ((Below.refl _ _).alloc (Nat.le_refl _) (.cells #[.int .i64 o.kind, .string (str o.name), .string (str o.to), .string (str o.text)] 27))
      have HDO := Lib.hid (do_any w1.heap.size G g o _ _ _ _ hGA HGO.out hoo)
      have hgood := fun he => doOp_ok HGO.out (o := o) he
      have hdlt := doOp_lt g o
      have HST := Lib.hid hst
      have HGD := Lib.hid hgood
      unfold opV at HDO
      generalize doOp g o = D at *
      generalize o.kind = kd at *
      generalize str o.name = X at *
      generalize str o.to = Y at *
      generalize str o.text = Z at *
      clear k0 k1 k2 k3 hcc hGA hst hgood hoo
      go_wp2_with fail
      refine (HDO.out).mono ?_
      rintro e w4 ⟨rfl, hb4, hres⟩
      by_cases hz : D.2 = 0
      · obtain ⟨nv4, dv4, sv4, h4⟩ := hres hz
        have HG4 := Lib.hid h4
        have HO4 := Lib.hid (HGD.out hz)
        have HR4 := Lib.hid (show R = playF D.1 (l.drop (k + 1)) by rw [HGR.out, HST.out, if_neg (by rw [hz]; simp)])
        have her : ((D.2 : Int) != 0) = false := by rw [hz]; rfl
        clear hz hres h4
        go_wp2_with fail
        exact ⟨⟨k + 1, by omega, by go_num, ⟨_, _, _, _, HG4, HO4, HR4⟩, hbA.trans hb4⟩, by simp [intOf]; omega⟩
      · have her : ((D.2 : Int) != 0) = true := by rw [bne_iff_ne]; omega
        have HR4 := Lib.hid (show R = (nul, D.2) by rw [HGR.out, HST.out, if_pos hz])
        have q := HQ.out.below (hbA.trans hb4) hRBw1
        have hO := Own.nul w4 w1.heap.size
        obtain ⟨o1, o2, o3⟩ := store3 q hO hRBw hRBw1 (HB1.out.trans ((hbA.trans hb4).mono (by omega)))
        obtain ⟨z0, z1, z2⟩ := o3.three
        obtain ⟨a0, a1, a2⟩ := q.three
        have b0 := q.free 0
        have b1 := q.free 1
        have b2 := q.free 2
        have HO1 := Lib.hid o1
        have HO2 := Lib.hid o2
        clear o1 o2 o3 q hO hres hz
        go_wp2_with fail
        refine bodyPost_ret (v := .tuple #[.agg #[.slice none 0 0, .slice none 0 0, .slice none 0 0], .int .i64 D.2]) (by simp [results, Try.results18, go_sem, z0, z1, z2]) rfl ?_
        rw [HR4.out]
        exact ⟨_, _, _, rfl, HO1.out, HO2.out⟩
    · obtain rfl : k = l.length := by omega
      have HR4 := Lib.hid (show R = (g, 0) by rw [HGR.out, HEND.out])
      have q := HQ.out.below hbw hRBw1
      obtain ⟨o1, o2, o3⟩ := store3 q HG.out.toOwn hRBw hRBw1 (HB1.out.trans (hbw.mono (by omega)))
      obtain ⟨z0, z1, z2⟩ := o3.three
      obtain ⟨a0, a1, a2⟩ := q.three
      have b0 := q.free 0
      have b1 := q.free 1
      have b2 := q.free 2
      obtain ⟨y0, y1, y2⟩ := HG.out.bk.three
      obtain ⟨p9, q1, q2, q3, -⟩ := HG.out.toOwn.fss
      subst q1; subst q2; subst q3
      have HO1 := Lib.hid o1
      have HO2 := Lib.hid o2
      have hGR : RB ≠ G := by have := HG.out.ge; omega
      clear o1 o2 o3 q
      go_wp2_with fail
      refine bodyPost_ret (v := .tuple #[.agg #[.slice p9.an g.nodes.length p9.cn, .slice p9.ad g.dir.length p9.cd, .slice p9.ay g.syn.length p9.cy], .int .i64 0]) (by simp [results, Try.results18, go_sem, z0, z1, z2]) rfl ?_
      rw [HR4.out]
      exact ⟨_, _, _, rfl, HO1.out, HO2.out⟩
end Go.Proofs.Ytmjcdjekakaigaa.Fs
