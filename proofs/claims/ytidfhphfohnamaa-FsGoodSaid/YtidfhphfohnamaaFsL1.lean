/- The walk of FsReads. -/
import Derived.Test.YtidfhphfohnamaaFsB
import Derived.Test.YtidfhphfohnamaaFsR9
import Derived.Test.YtidfhphfohnamaaFsP4
namespace Go.Proofs.Ytidfhphfohnamaa.Fs
open Go.RowKit
set_option linter.unusedVariables false

theorem own_put {w : World} {B O : Nat} {f : T} {nv dv sv : Value} {vs : Array Value} (h : Own w B f nv dv sv) (hb : Bk w O 25 vs) (x y z : Value) :
    Own (((w.setCell ⟨O, 0, none⟩ x).setCell ⟨O, 1, none⟩ y).setCell ⟨O, 2, none⟩ z) B f nv dv sv :=
  ⟨row_put3 h.nro hb (by decide) x y z, row_put3 h.dro hb (by decide) x y z, row_put3 h.sro hb (by decide) x y z, h.far, h.nok, h.dok, h.sok⟩
theorem bk_put3 {w : World} {O : Nat} {a b c : Value} (hb : Bk w O 25 #[a, b, c]) (x y z : Value) : Bk (((w.setCell ⟨O, 0, none⟩ x).setCell ⟨O, 1, none⟩ y).setCell ⟨O, 2, none⟩ z) O 25 #[x, y, z] := by
  have := ((hb.set 0 x).set 1 y).set 2 z
  simpa using this
theorem own_fss2 {w : World} {B n m k cn cd cy : Nat} {f : T} {an ad ay : Option Addr} (h : Own w B f (.slice an n cn) (.slice ad m cd) (.slice ay k cy)) : Fss w w.heap.size ⟨an, cn, ad, cd, ay, cy⟩ f := by
  obtain ⟨p, e1, e2, e3, hf⟩ := h.fss
  obtain ⟨q1, q2, q3, q4, q5, q6⟩ := p
  simp only [Value.slice.injEq] at e1 e2 e3
  obtain ⟨rfl, _, rfl⟩ := e1
  obtain ⟨rfl, _, rfl⟩ := e2
  obtain ⟨rfl, _, rfl⟩ := e3
  exact hf
/-- a file system that a region has laid into a block of its own -/
structure Put (W0 WF : World) (O : Nat) (f : T) (p : At) : Prop where
  bel : Below W0.heap.size W0 WF
  bk : Bk WF O 25 #[.slice p.an f.nodes.length p.cn, .slice p.ad f.dir.length p.cd, .slice p.ay f.syn.length p.cy]
  fs : Fss WF WF.heap.size p f
theorem put_last {W0 w9 : World} {B : Nat} {f : T} {p : At} (h : Own w9 B f (.slice p.an f.nodes.length p.cn) (.slice p.ad f.dir.length p.cd) (.slice p.ay f.syn.length p.cy)) (hb : Below W0.heap.size W0 w9) :
    Put W0 (w9.alloc (.cells #[.slice p.an f.nodes.length p.cn, .slice p.ad f.dir.length p.cd, .slice p.ay f.syn.length p.cy] 25)) w9.heap.size f p :=
  ⟨hb.alloc hb.size _, bk_new _ _ _, (own_fss2 h).next ((Below.refl _ _).alloc (Nat.le_refl _) _)⟩
theorem put_mid {W0 w9 : World} {B O : Nat} {f : T} {p : At} (h : Own w9 B f (.slice p.an f.nodes.length p.cn) (.slice p.ad f.dir.length p.cd) (.slice p.ay f.syn.length p.cy)) (hb : Below W0.heap.size W0 w9) (hO : W0.heap.size ≤ O)
    (hk : Bk w9 O 25 #[.slice none 0 0, .slice none 0 0, .slice none 0 0]) :
    Put W0 (((w9.setCell ⟨O, 0, none⟩ (.slice p.an f.nodes.length p.cn)).setCell ⟨O, 1, none⟩ (.slice p.ad f.dir.length p.cd)).setCell ⟨O, 2, none⟩ (.slice p.ay f.syn.length p.cy)) O f p :=
  ⟨((hb.setCell (p := ⟨O, 0, none⟩) hO _).setCell (p := ⟨O, 1, none⟩) hO _).setCell (p := ⟨O, 2, none⟩) hO _, bk_put3 hk _ _ _, own_fss2 (own_put h hk _ _ _)⟩

set_option maxHeartbeats 8000000 in
set_option maxRecDepth 100000 in
theorem fsReads_walk (w : World) (p : At) (f : T) (hf : Fss w w.heap.size p f) (nm : ByteArray) (hnm : nm.size ≤ maxLen) (tm : ByteArray) (htm : tm.size ≤ maxLen) (om : ByteArray) (hom : om.size ≤ maxLen) :
    Calls Try.prog 5 #[fsV p f, .string nm, .string tm, .string om] w (BoolPost true w) := by
  obtain ⟨n, rfl⟩ : ∃ n, nm = str n := ⟨nm.data.toList, by simp [str]⟩
  obtain ⟨tx, rfl⟩ : ∃ n, tm = str n := ⟨tm.data.toList, by simp [str]⟩
  obtain ⟨m, rfl⟩ : ∃ n, om = str n := ⟨om.data.toList, by simp [str]⟩
  rw [str_size] at hnm htm hom
  have hal : Below w.heap.size w (w.alloc (.cells #[.slice p.an f.nodes.length p.cn, .slice p.ad f.dir.length p.cd, .slice p.ay f.syn.length p.cy] 25)) := (Below.refl _ _).alloc (Nat.le_refl _) _
  have HT := Lib.hid (bk_new w 25 #[.slice p.an f.nodes.length p.cn, .slice p.ad f.dir.length p.cd, .slice p.ay f.syn.length p.cy])
  have HF := Lib.hid (hf.next hal)
  generalize hW0 : w.alloc (.cells #[.slice p.an f.nodes.length p.cn, .slice p.ad f.dir.length p.cd, .slice p.ay f.syn.length p.cy] 25) = W0 at *
  have HW := Lib.hid hW0
  have hs0 := hal.size
  have HOP := Lib.hid (fun W => show Calls Try.prog 20 #[.int .i64 1, .string (str n), .string ⟨#[]⟩, .string (str tx)] W (fun e w' => e = .returned (opV ⟨1, n, [], tx⟩) ∧ Below W.heap.size W w') from op_any ⟨1, n, [], tx⟩ W)
  have HOP4 := Lib.hid (fun W => show Calls Try.prog 20 #[.int .i64 4, .string (str n), .string ⟨#[]⟩, .string ⟨#[]⟩] W (fun e w' => e = .returned (opV ⟨4, n, [], []⟩) ∧ Below W.heap.size W w') from op_any ⟨4, n, [], []⟩ W)
  have hok1 : opOk ⟨1, n, [], tx⟩ := ⟨by simp, hnm, by simp, htm⟩
  have hok4 : opOk ⟨4, n, [], []⟩ := ⟨by simp, hnm, by simp, by simp⟩
  have HD := Lib.hid (fun W (hb : Below W0.heap.size W0 W) => done_any p f ⟨1, n, [], tx⟩ W (HF.out.next hb) hok1)
  have HRD := Lib.hid (fun W (hb : Below W0.heap.size W0 W) => read_any p f m W (HF.out.next hb))
  have HFB := Lib.hid (fun W => fsBegun_any W)
  have hlaw := reads_law (f := f) (n := n) (tx := tx)
  have hbad := play_bad f [⟨1, n, [], tx⟩]
  have HD4 := Lib.hid (fun (g : T) (q : At) (W1 : World) (hg : Fss W1 W1.heap.size q g) W (hb : Below W1.heap.size W1 W) => done_any q g ⟨4, n, [], []⟩ W (hg.next hb) hok4)
  generalize play f [⟨1, n, [], tx⟩] = R at *
  obtain ⟨g, er⟩ := R
  generalize hV1 : opV ⟨1, n, [], tx⟩ = V1 at *
  generalize hV4 : opV ⟨4, n, [], []⟩ = V4 at *
  generalize hrf : read f m = rf at *
  have HRF := Lib.hid hrf
  obtain ⟨t1, t2⟩ := rf
  obtain ⟨an, cn, ad, cd, ay, cy⟩ := p
  unfold fsV at *
  unfold TextEPost at *
  simp only at *
  have d := HT.out.three
  obtain ⟨d0, d1, d2⟩ := d
  have hself : Below W0.heap.size W0 W0 := Below.refl _ _
  have q0 : ∀ W, Below W0.heap.size W0 W → W.cell? ⟨w.heap.size, 0, none⟩ = some (.slice an f.nodes.length cn) := fun W hb => (HT.out.next hb).three.1
  have q1 : ∀ W, Below W0.heap.size W0 W → W.cell? ⟨w.heap.size, 1, none⟩ = some (.slice ad f.dir.length cd) := fun W hb => (HT.out.next hb).three.2.1
  have q2 : ∀ W, Below W0.heap.size W0 W → W.cell? ⟨w.heap.size, 2, none⟩ = some (.slice ay f.syn.length cy) := fun W hb => (HT.out.next hb).three.2.2
  have HLAW := Lib.hid hlaw
  have HBAD := Lib.hid hbad
  clear hV1 hV4 hrf hlaw hbad hok1 hok4 hf hW0 d0 d1 d2
  by_cases he : er ≠ 0
  · obtain rfl : g = nul := HBAD.out he
    have hne : ((er : Int) != 0) = true := by rw [bne_iff_ne]; omega
    clear HLAW HBAD HD4 HOP4 HRD he
    go_enter Try.func5, Try.ntmps5
    go_wp2_with fail
    rw [HW.out]
    go_region_held3 (fun W => Below W0.heap.size W0 W)
      (first
        | assumption
        | exact (show Below W0.heap.size W0 _ by assumption).drew
        | exact (show Below W0.heap.size W0 _ by assumption).alloc (show Below W0.heap.size W0 _ by assumption).size _
        | exact below_then (by assumption) h9a
        | exact below_then (by assumption) h8a
        | exact (((show Below W0.heap.size W0 _ by assumption).setCell (p := ⟨_, 0, none⟩) (by first | assumption | exact Nat.le_refl _) _).setCell (p := ⟨_, 1, none⟩) (by first | assumption | exact Nat.le_refl _) _).setCell (p := ⟨_, 2, none⟩) (by first | assumption | exact Nat.le_refl _) _
        | exact Below.trans (by assumption) (h9a.mono (show Below W0.heap.size W0 _ by assumption).size)
        | exact Below.trans (by assumption) h9a
        | exact Below.trans (by assumption) (h8a.mono (show Below W0.heap.size W0 _ by assumption).size)
        | exact Below.trans (by assumption) h8a)
      (first
        | (go_at_call 20; (with_reducible refine (HOP.out _).mono ?_); rintro e w8a ⟨rfl, h8a⟩; have s8a := Nat.le_trans (show Below W0.heap.size W0 _ by assumption).size h8a.size; have S8a := Below.trans (show Below W0.heap.size W0 _ by assumption) (h8a.mono (show Below W0.heap.size W0 _ by assumption).size); obtain ⟨cAa, fAa⟩ := bcell h8a; (try simp at cAa); (try simp at fAa); have z8a := h8a.size; (try simp at z8a); (try have z9a := Nat.lt_of_succ_le z8a))
        | (go_at_call 9; (with_reducible refine (HD.out _ (by assumption)).mono ?_); rintro e w9a ⟨nv, dv, sv, rfl, owna, h9a⟩; obtain ⟨p9a, e1, e2, e3, -⟩ := owna.fss; subst e1; subst e2; subst e3; have s9a := Nat.le_trans (show Below W0.heap.size W0 _ by assumption).size h9a.size; have S9a := Below.trans (show Below W0.heap.size W0 _ by assumption) (h9a.mono (show Below W0.heap.size W0 _ by assumption).size); obtain ⟨cBa, fBa⟩ := bcell h9a; (try simp at cBa); (try simp at fBa)))
    · have HPU := Lib.hid (put_last owna (show Below W0.heap.size W0 w9a by assumption))
      revert HPU
      generalize (w9a.alloc (.cells #[.slice p9a.an nul.nodes.length p9a.cn, .slice p9a.ad nul.dir.length p9a.cd, .slice p9a.ay nul.syn.length p9a.cy] 25)) = WF
      intro HPU
      obtain ⟨O, hOO⟩ : ∃ O, O = w9a.heap.size := ⟨_, rfl⟩
      have HPU := Lib.hid (show Put W0 WF O nul p9a by rw [hOO]; exact HPU.out)
      rw [← hOO]
      clear hOO owna h8a h9a s8a s9a S8a S9a cAa cBa fAa fBa
      obtain ⟨pan, pcn, pad, pcd, pay, pcy⟩ := p9a
      simp only at *
      go_wp2_with fail
      refine (HFB.out _).mono ?_
      rintro e w10 ⟨rfl, hb10⟩
      obtain ⟨o0, o1, o2⟩ := (HPU.out.bk.next hb10).three
      simp only at o0 o1 o2
      go_wp2_with fail
      have HSM := Lib.hid (rSame_any ⟨pan, pcn, pad, pcd, pay, pcy⟩ nulAt nul nul w10 (HPU.out.fs.next hb10) (Fss.nul _ _))
      unfold fsV at HSM
      simp only at HSM
      refine (HSM.out).mono ?_
      rintro e w11 ⟨rfl, hb11⟩
      have hend := hal.trans ((below_then HPU.out.bel (below_then hb10 hb11)).mono hs0)
      clear hb10 hb11 o0 o1 o2
      go_wp2_with fail
      go_ret
      exact ⟨by first | rfl | simp, hend⟩
    · have HPU := Lib.hid (put_mid owna (show Below W0.heap.size W0 w9a by assumption) (show Below W0.heap.size W0 w8a by assumption).size ((bk_new w8a 25 #[.slice none 0 0, .slice none 0 0, .slice none 0 0]).next h9a))
      revert HPU
      generalize (((w9a.setCell ⟨w8a.heap.size, 0, none⟩ (.slice p9a.an nul.nodes.length p9a.cn)).setCell ⟨w8a.heap.size, 1, none⟩ (.slice p9a.ad nul.dir.length p9a.cd)).setCell ⟨w8a.heap.size, 2, none⟩ (.slice p9a.ay nul.syn.length p9a.cy)) = WF
      intro HPU
      obtain ⟨O, hOO⟩ : ∃ O, O = w8a.heap.size := ⟨_, rfl⟩
      have HPU := Lib.hid (show Put W0 WF O nul p9a by rw [hOO]; exact HPU.out)
      rw [← hOO]
      clear hOO owna h8a h9a s8a s9a S8a S9a cAa cBa fAa fBa
      obtain ⟨pan, pcn, pad, pcd, pay, pcy⟩ := p9a
      simp only at *
      go_wp2_with fail
      refine (HFB.out _).mono ?_
      rintro e w10 ⟨rfl, hb10⟩
      obtain ⟨o0, o1, o2⟩ := (HPU.out.bk.next hb10).three
      simp only at o0 o1 o2
      go_wp2_with fail
      have HSM := Lib.hid (rSame_any ⟨pan, pcn, pad, pcd, pay, pcy⟩ nulAt nul nul w10 (HPU.out.fs.next hb10) (Fss.nul _ _))
      unfold fsV at HSM
      simp only at HSM
      refine (HSM.out).mono ?_
      rintro e w11 ⟨rfl, hb11⟩
      have hend := hal.trans ((below_then HPU.out.bel (below_then hb10 hb11)).mono hs0)
      clear hb10 hb11 o0 o1 o2
      go_wp2_with fail
      go_ret
      exact ⟨by first | rfl | simp, hend⟩
    · have HPU := Lib.hid (put_mid owna (show Below W0.heap.size W0 w9a by assumption) (Nat.le_refl _) (((bk_drew (bk_new W0 25 #[.slice none 0 0, .slice none 0 0, .slice none 0 0])).next h8a).next h9a))
      revert HPU
      generalize (((w9a.setCell ⟨W0.heap.size, 0, none⟩ (.slice p9a.an nul.nodes.length p9a.cn)).setCell ⟨W0.heap.size, 1, none⟩ (.slice p9a.ad nul.dir.length p9a.cd)).setCell ⟨W0.heap.size, 2, none⟩ (.slice p9a.ay nul.syn.length p9a.cy)) = WF
      intro HPU
      obtain ⟨O, hOO⟩ : ∃ O, O = W0.heap.size := ⟨_, rfl⟩
      have HPU := Lib.hid (show Put W0 WF O nul p9a by rw [hOO]; exact HPU.out)
      rw [← hOO]
      clear hOO owna h8a h9a s8a s9a S8a S9a cAa cBa fAa fBa
      obtain ⟨pan, pcn, pad, pcd, pay, pcy⟩ := p9a
      simp only at *
      go_wp2_with fail
      refine (HFB.out _).mono ?_
      rintro e w10 ⟨rfl, hb10⟩
      obtain ⟨o0, o1, o2⟩ := (HPU.out.bk.next hb10).three
      simp only at o0 o1 o2
      go_wp2_with fail
      have HSM := Lib.hid (rSame_any ⟨pan, pcn, pad, pcd, pay, pcy⟩ nulAt nul nul w10 (HPU.out.fs.next hb10) (Fss.nul _ _))
      unfold fsV at HSM
      simp only at HSM
      refine (HSM.out).mono ?_
      rintro e w11 ⟨rfl, hb11⟩
      have hend := hal.trans ((below_then HPU.out.bel (below_then hb10 hb11)).mono hs0)
      clear hb10 hb11 o0 o1 o2
      go_wp2_with fail
      go_ret
      exact ⟨by first | rfl | simp, hend⟩
  · obtain rfl : er = 0 := by omega
    obtain ⟨l1, l2, l3, l4⟩ := HLAW.out rfl
    try simp only at l1 l2 l3 l4
    generalize hB : play g [⟨4, n, [], []⟩] = B at *
    obtain ⟨b, eb⟩ := B
    try simp only at l2 l3 l4
    subst l2
    have HEB := Lib.hid hB
    have HL1 := Lib.hid l1
    have HL3 := Lib.hid l3
    by_cases hmn : m = n
    · have hmn2 := hmn.symm
      clear hmn
      subst hmn2
      have HL5 := Lib.hid l1
      have HL6 := Lib.hid l3
      clear hB l1 l3 l4 HLAW HBAD he HRF
      go_enter Try.func5, Try.ntmps5
      go_wp2_with fail
      rw [HW.out]
      go_region_held3 (fun W => Below W0.heap.size W0 W)
        (first
          | assumption
          | exact (show Below W0.heap.size W0 _ by assumption).drew
          | exact (show Below W0.heap.size W0 _ by assumption).alloc (show Below W0.heap.size W0 _ by assumption).size _
          | exact below_then (by assumption) h9a
          | exact below_then (by assumption) h8a
          | exact (((show Below W0.heap.size W0 _ by assumption).setCell (p := ⟨_, 0, none⟩) (by first | assumption | exact Nat.le_refl _) _).setCell (p := ⟨_, 1, none⟩) (by first | assumption | exact Nat.le_refl _) _).setCell (p := ⟨_, 2, none⟩) (by first | assumption | exact Nat.le_refl _) _
          | exact Below.trans (by assumption) (h9a.mono (show Below W0.heap.size W0 _ by assumption).size)
          | exact Below.trans (by assumption) h9a
          | exact Below.trans (by assumption) (h8a.mono (show Below W0.heap.size W0 _ by assumption).size)
          | exact Below.trans (by assumption) h8a)
        (first
          | (go_at_call 20; (with_reducible refine (HOP.out _).mono ?_); rintro e w8a ⟨rfl, h8a⟩; have s8a := Nat.le_trans (show Below W0.heap.size W0 _ by assumption).size h8a.size; have S8a := Below.trans (show Below W0.heap.size W0 _ by assumption) (h8a.mono (show Below W0.heap.size W0 _ by assumption).size); obtain ⟨cAa, fAa⟩ := bcell h8a; (try simp at cAa); (try simp at fAa); have z8a := h8a.size; (try simp at z8a); (try have z9a := Nat.lt_of_succ_le z8a))
          | (go_at_call 9; (with_reducible refine (HD.out _ (by assumption)).mono ?_); rintro e w9a ⟨nv, dv, sv, rfl, owna, h9a⟩; obtain ⟨p9a, e1, e2, e3, -⟩ := owna.fss; subst e1; subst e2; subst e3; have s9a := Nat.le_trans (show Below W0.heap.size W0 _ by assumption).size h9a.size; have S9a := Below.trans (show Below W0.heap.size W0 _ by assumption) (h9a.mono (show Below W0.heap.size W0 _ by assumption).size); obtain ⟨cBa, fBa⟩ := bcell h9a; (try simp at cBa); (try simp at fBa)))
      · have HPU := Lib.hid (put_last owna (show Below W0.heap.size W0 w9a by assumption))
        revert HPU
        generalize (w9a.alloc (.cells #[.slice p9a.an g.nodes.length p9a.cn, .slice p9a.ad g.dir.length p9a.cd, .slice p9a.ay g.syn.length p9a.cy] 25)) = WF
        intro HPU
        obtain ⟨O, hOO⟩ : ∃ O, O = w9a.heap.size := ⟨_, rfl⟩
        have HPU := Lib.hid (show Put W0 WF O g p9a by rw [hOO]; exact HPU.out)
        rw [← hOO]
        clear hOO owna h8a h9a s8a s9a S8a S9a cAa cBa fAa fBa
        obtain ⟨pan, pcn, pad, pcd, pay, pcy⟩ := p9a
        simp only at *
        go_wp2_with fail
        refine (HFB.out _).mono ?_
        rintro e w10 ⟨rfl, hb10⟩
        obtain ⟨o0, o1, o2⟩ := (HPU.out.bk.next hb10).three
        simp only at o0 o1 o2
        go_wp2_with fail
        clear o0 o1 o2
        have HR1 := read_any ⟨pan, pcn, pad, pcd, pay, pcy⟩ g n _ (HPU.out.fs.next hb10)
        rw [HL1.out] at HR1
        unfold fsV TextEPost at HR1
        simp only at HR1
        refine HR1.mono ?_
        clear HR1
        rintro e w11 ⟨rfl, hb11⟩
        have b11 := below_then hb10 hb11
        have B11 := below_then HPU.out.bel b11
        have d0 := q0 w11 B11
        have d1 := q1 w11 B11
        have d2 := q2 w11 B11
        go_wp2_with fail
        clear d0 d1 d2
        refine (HRD.out w11 B11).mono ?_
        rintro e w12 ⟨rfl, hb12⟩
        have b12 := below_then b11 hb12
        obtain ⟨o0, o1, o2⟩ := (HPU.out.bk.next b12).three
        simp only at o0 o1 o2
        go_wp2_with fail
        clear o0 o1 o2
        have HR3 := read_any ⟨pan, pcn, pad, pcd, pay, pcy⟩ g n _ (HPU.out.fs.next b12)
        rw [HL5.out] at HR3
        unfold fsV TextEPost at HR3
        simp only at HR3
        refine HR3.mono ?_
        clear HR3
        rintro e w13 ⟨rfl, hb13⟩
        have b13 := below_then b12 hb13
        have HB13 := Lib.hid (below_then HPU.out.bel b13)
        have HBK13 := Lib.hid (HPU.out.bk.next b13)
        have HD5 := Lib.hid (HD4.out g ⟨pan, pcn, pad, pcd, pay, pcy⟩ w13 (HPU.out.fs.next b13))
        rw [HEB.out] at HD5
        try unfold fsV at HD5
        simp only at HD5
        have hself13 : Below w13.heap.size w13 w13 := Below.refl _ _
        have p0 : ∀ W, Below w13.heap.size w13 W → W.cell? ⟨O, 0, none⟩ = some (.slice pan g.nodes.length pcn) := fun W hb => (HBK13.out.next hb).three.1
        have p1 : ∀ W, Below w13.heap.size w13 W → W.cell? ⟨O, 1, none⟩ = some (.slice pad g.dir.length pcd) := fun W hb => (HBK13.out.next hb).three.2.1
        have p2 : ∀ W, Below w13.heap.size w13 W → W.cell? ⟨O, 2, none⟩ = some (.slice pay g.syn.length pcy) := fun W hb => (HBK13.out.next hb).three.2.2
        clear q0 q1 q2 hb10 hb11 hb12 hb13 b11 b12 b13 B11 HPU HRD HD HOP HBK13 hself HFB
        go_wp2_with fail
        go_region_held3 (fun W => Below w13.heap.size w13 W)
          (first
            | assumption
            | exact (show Below w13.heap.size w13 _ by assumption).drew
            | exact (show Below w13.heap.size w13 _ by assumption).alloc (show Below w13.heap.size w13 _ by assumption).size _
            | exact below_then (by assumption) h9b
            | exact below_then (by assumption) h8b
            | exact (((show Below w13.heap.size w13 _ by assumption).setCell (p := ⟨_, 0, none⟩) (by first | assumption | exact Nat.le_refl _) _).setCell (p := ⟨_, 1, none⟩) (by first | assumption | exact Nat.le_refl _) _).setCell (p := ⟨_, 2, none⟩) (by first | assumption | exact Nat.le_refl _) _
            | exact Below.trans (by assumption) (h9b.mono (show Below w13.heap.size w13 _ by assumption).size)
            | exact Below.trans (by assumption) h9b
            | exact Below.trans (by assumption) (h8b.mono (show Below w13.heap.size w13 _ by assumption).size)
            | exact Below.trans (by assumption) h8b)
          (first
            | (go_at_call 20; (with_reducible refine (HOP4.out _).mono ?_); rintro e w8b ⟨rfl, h8b⟩; have s8b := Nat.le_trans (show Below w13.heap.size w13 _ by assumption).size h8b.size; have S8b := Below.trans (show Below w13.heap.size w13 _ by assumption) (h8b.mono (show Below w13.heap.size w13 _ by assumption).size); obtain ⟨cAb, fAb⟩ := bcell h8b; (try simp at cAb); (try simp at fAb); have z8b := h8b.size; (try simp at z8b); (try have z9b := Nat.lt_of_succ_le z8b))
            | (go_at_call 9; (with_reducible refine (HD5.out _ (by assumption)).mono ?_); rintro e w9b ⟨nv, dv, sv, rfl, ownb, h9b⟩; obtain ⟨p9b, e1, e2, e3, -⟩ := ownb.fss; subst e1; subst e2; subst e3; have s9b := Nat.le_trans (show Below w13.heap.size w13 _ by assumption).size h9b.size; have S9b := Below.trans (show Below w13.heap.size w13 _ by assumption) (h9b.mono (show Below w13.heap.size w13 _ by assumption).size); obtain ⟨cBb, fBb⟩ := bcell h9b; (try simp at cBb); (try simp at fBb)))
        · have HPV := Lib.hid (put_last ownb (show Below w13.heap.size w13 w9b by assumption))
          revert HPV
          generalize (w9b.alloc (.cells #[.slice p9b.an b.nodes.length p9b.cn, .slice p9b.ad b.dir.length p9b.cd, .slice p9b.ay b.syn.length p9b.cy] 25)) = WG
          intro HPV
          obtain ⟨O2, hOO2⟩ : ∃ O, O = w9b.heap.size := ⟨_, rfl⟩
          have HPV := Lib.hid (show Put w13 WG O2 b p9b by rw [hOO2]; exact HPV.out)
          rw [← hOO2]
          clear hOO2 ownb h8b h9b s8b s9b S8b S9b cAb cBb fAb fBb
          obtain ⟨ban, bcn, bad, bcd, bay, bcy⟩ := p9b
          simp only at *
          clear p0 p1 p2
          have HBW := Lib.hid (hal.trans ((HB13.out.trans (HPV.out.bel.mono HB13.out.size)).mono hs0))
          obtain ⟨o0, o1, o2⟩ := HPV.out.bk.three
          simp only at o0 o1 o2
          go_wp2_with fail
          clear o0 o1 o2
          have HR4 := read_any ⟨ban, bcn, bad, bcd, bay, bcy⟩ b n _ (HPV.out.fs)
          rw [HL3.out] at HR4
          unfold fsV TextEPost at HR4
          simp only at HR4
          refine HR4.mono ?_
          clear HR4
          rintro e w21 ⟨rfl, hb21⟩
          obtain ⟨o0, o1, o2⟩ := (HPV.out.bk.next hb21).three
          simp only at o0 o1 o2
          go_wp2_with fail
          clear o0 o1 o2
          have HR5 := read_any ⟨ban, bcn, bad, bcd, bay, bcy⟩ b n _ (HPV.out.fs.next hb21)
          rw [HL6.out] at HR5
          unfold fsV TextEPost at HR5
          simp only at HR5
          refine HR5.mono ?_
          clear HR5
          rintro e w22 ⟨rfl, hb22⟩
          have hend := HBW.out.trans ((below_then hb21 hb22).mono HBW.out.size)
          clear hb21 hb22 HPV HBW
          go_wp2_with fail
          go_ret
          exact ⟨by first | rfl | simp, hend⟩
        · have HPV := Lib.hid (put_mid ownb (show Below w13.heap.size w13 w9b by assumption) (show Below w13.heap.size w13 w8b by assumption).size ((bk_new w8b 25 #[.slice none 0 0, .slice none 0 0, .slice none 0 0]).next h9b))
          revert HPV
          generalize (((w9b.setCell ⟨w8b.heap.size, 0, none⟩ (.slice p9b.an b.nodes.length p9b.cn)).setCell ⟨w8b.heap.size, 1, none⟩ (.slice p9b.ad b.dir.length p9b.cd)).setCell ⟨w8b.heap.size, 2, none⟩ (.slice p9b.ay b.syn.length p9b.cy)) = WG
          intro HPV
          obtain ⟨O2, hOO2⟩ : ∃ O, O = w8b.heap.size := ⟨_, rfl⟩
          have HPV := Lib.hid (show Put w13 WG O2 b p9b by rw [hOO2]; exact HPV.out)
          rw [← hOO2]
          clear hOO2 ownb h8b h9b s8b s9b S8b S9b cAb cBb fAb fBb
          obtain ⟨ban, bcn, bad, bcd, bay, bcy⟩ := p9b
          simp only at *
          clear p0 p1 p2
          have HBW := Lib.hid (hal.trans ((HB13.out.trans (HPV.out.bel.mono HB13.out.size)).mono hs0))
          obtain ⟨o0, o1, o2⟩ := HPV.out.bk.three
          simp only at o0 o1 o2
          go_wp2_with fail
          clear o0 o1 o2
          have HR4 := read_any ⟨ban, bcn, bad, bcd, bay, bcy⟩ b n _ (HPV.out.fs)
          rw [HL3.out] at HR4
          unfold fsV TextEPost at HR4
          simp only at HR4
          refine HR4.mono ?_
          clear HR4
          rintro e w21 ⟨rfl, hb21⟩
          obtain ⟨o0, o1, o2⟩ := (HPV.out.bk.next hb21).three
          simp only at o0 o1 o2
          go_wp2_with fail
          clear o0 o1 o2
          have HR5 := read_any ⟨ban, bcn, bad, bcd, bay, bcy⟩ b n _ (HPV.out.fs.next hb21)
          rw [HL6.out] at HR5
          unfold fsV TextEPost at HR5
          simp only at HR5
          refine HR5.mono ?_
          clear HR5
          rintro e w22 ⟨rfl, hb22⟩
          have hend := HBW.out.trans ((below_then hb21 hb22).mono HBW.out.size)
          clear hb21 hb22 HPV HBW
          go_wp2_with fail
          go_ret
          exact ⟨by first | rfl | simp, hend⟩
        · have HPV := Lib.hid (put_mid ownb (show Below w13.heap.size w13 w9b by assumption) (Nat.le_refl _) (((bk_drew (bk_new w13 25 #[.slice none 0 0, .slice none 0 0, .slice none 0 0])).next h8b).next h9b))
          revert HPV
          generalize (((w9b.setCell ⟨w13.heap.size, 0, none⟩ (.slice p9b.an b.nodes.length p9b.cn)).setCell ⟨w13.heap.size, 1, none⟩ (.slice p9b.ad b.dir.length p9b.cd)).setCell ⟨w13.heap.size, 2, none⟩ (.slice p9b.ay b.syn.length p9b.cy)) = WG
          intro HPV
          obtain ⟨O2, hOO2⟩ : ∃ O, O = w13.heap.size := ⟨_, rfl⟩
          have HPV := Lib.hid (show Put w13 WG O2 b p9b by rw [hOO2]; exact HPV.out)
          rw [← hOO2]
          clear hOO2 ownb h8b h9b s8b s9b S8b S9b cAb cBb fAb fBb
          obtain ⟨ban, bcn, bad, bcd, bay, bcy⟩ := p9b
          simp only at *
          clear p0 p1 p2
          have HBW := Lib.hid (hal.trans ((HB13.out.trans (HPV.out.bel.mono HB13.out.size)).mono hs0))
          obtain ⟨o0, o1, o2⟩ := HPV.out.bk.three
          simp only at o0 o1 o2
          go_wp2_with fail
          clear o0 o1 o2
          have HR4 := read_any ⟨ban, bcn, bad, bcd, bay, bcy⟩ b n _ (HPV.out.fs)
          rw [HL3.out] at HR4
          unfold fsV TextEPost at HR4
          simp only at HR4
          refine HR4.mono ?_
          clear HR4
          rintro e w21 ⟨rfl, hb21⟩
          obtain ⟨o0, o1, o2⟩ := (HPV.out.bk.next hb21).three
          simp only at o0 o1 o2
          go_wp2_with fail
          clear o0 o1 o2
          have HR5 := read_any ⟨ban, bcn, bad, bcd, bay, bcy⟩ b n _ (HPV.out.fs.next hb21)
          rw [HL6.out] at HR5
          unfold fsV TextEPost at HR5
          simp only at HR5
          refine HR5.mono ?_
          clear HR5
          rintro e w22 ⟨rfl, hb22⟩
          have hend := HBW.out.trans ((below_then hb21 hb22).mono HBW.out.size)
          clear hb21 hb22 HPV HBW
          go_wp2_with fail
          go_ret
          exact ⟨by first | rfl | simp, hend⟩
      · have HPU := Lib.hid (put_mid owna (show Below W0.heap.size W0 w9a by assumption) (show Below W0.heap.size W0 w8a by assumption).size ((bk_new w8a 25 #[.slice none 0 0, .slice none 0 0, .slice none 0 0]).next h9a))
        revert HPU
        generalize (((w9a.setCell ⟨w8a.heap.size, 0, none⟩ (.slice p9a.an g.nodes.length p9a.cn)).setCell ⟨w8a.heap.size, 1, none⟩ (.slice p9a.ad g.dir.length p9a.cd)).setCell ⟨w8a.heap.size, 2, none⟩ (.slice p9a.ay g.syn.length p9a.cy)) = WF
        intro HPU
        obtain ⟨O, hOO⟩ : ∃ O, O = w8a.heap.size := ⟨_, rfl⟩
        have HPU := Lib.hid (show Put W0 WF O g p9a by rw [hOO]; exact HPU.out)
        rw [← hOO]
        clear hOO owna h8a h9a s8a s9a S8a S9a cAa cBa fAa fBa
        obtain ⟨pan, pcn, pad, pcd, pay, pcy⟩ := p9a
        simp only at *
        go_wp2_with fail
        refine (HFB.out _).mono ?_
        rintro e w10 ⟨rfl, hb10⟩
        obtain ⟨o0, o1, o2⟩ := (HPU.out.bk.next hb10).three
        simp only at o0 o1 o2
        go_wp2_with fail
        clear o0 o1 o2
        have HR1 := read_any ⟨pan, pcn, pad, pcd, pay, pcy⟩ g n _ (HPU.out.fs.next hb10)
        rw [HL1.out] at HR1
        unfold fsV TextEPost at HR1
        simp only at HR1
        refine HR1.mono ?_
        clear HR1
        rintro e w11 ⟨rfl, hb11⟩
        have b11 := below_then hb10 hb11
        have B11 := below_then HPU.out.bel b11
        have d0 := q0 w11 B11
        have d1 := q1 w11 B11
        have d2 := q2 w11 B11
        go_wp2_with fail
        clear d0 d1 d2
        refine (HRD.out w11 B11).mono ?_
        rintro e w12 ⟨rfl, hb12⟩
        have b12 := below_then b11 hb12
        obtain ⟨o0, o1, o2⟩ := (HPU.out.bk.next b12).three
        simp only at o0 o1 o2
        go_wp2_with fail
        clear o0 o1 o2
        have HR3 := read_any ⟨pan, pcn, pad, pcd, pay, pcy⟩ g n _ (HPU.out.fs.next b12)
        rw [HL5.out] at HR3
        unfold fsV TextEPost at HR3
        simp only at HR3
        refine HR3.mono ?_
        clear HR3
        rintro e w13 ⟨rfl, hb13⟩
        have b13 := below_then b12 hb13
        have HB13 := Lib.hid (below_then HPU.out.bel b13)
        have HBK13 := Lib.hid (HPU.out.bk.next b13)
        have HD5 := Lib.hid (HD4.out g ⟨pan, pcn, pad, pcd, pay, pcy⟩ w13 (HPU.out.fs.next b13))
        rw [HEB.out] at HD5
        try unfold fsV at HD5
        simp only at HD5
        have hself13 : Below w13.heap.size w13 w13 := Below.refl _ _
        have p0 : ∀ W, Below w13.heap.size w13 W → W.cell? ⟨O, 0, none⟩ = some (.slice pan g.nodes.length pcn) := fun W hb => (HBK13.out.next hb).three.1
        have p1 : ∀ W, Below w13.heap.size w13 W → W.cell? ⟨O, 1, none⟩ = some (.slice pad g.dir.length pcd) := fun W hb => (HBK13.out.next hb).three.2.1
        have p2 : ∀ W, Below w13.heap.size w13 W → W.cell? ⟨O, 2, none⟩ = some (.slice pay g.syn.length pcy) := fun W hb => (HBK13.out.next hb).three.2.2
        clear q0 q1 q2 hb10 hb11 hb12 hb13 b11 b12 b13 B11 HPU HRD HD HOP HBK13 hself HFB
        go_wp2_with fail
        go_region_held3 (fun W => Below w13.heap.size w13 W)
          (first
            | assumption
            | exact (show Below w13.heap.size w13 _ by assumption).drew
            | exact (show Below w13.heap.size w13 _ by assumption).alloc (show Below w13.heap.size w13 _ by assumption).size _
            | exact below_then (by assumption) h9b
            | exact below_then (by assumption) h8b
            | exact (((show Below w13.heap.size w13 _ by assumption).setCell (p := ⟨_, 0, none⟩) (by first | assumption | exact Nat.le_refl _) _).setCell (p := ⟨_, 1, none⟩) (by first | assumption | exact Nat.le_refl _) _).setCell (p := ⟨_, 2, none⟩) (by first | assumption | exact Nat.le_refl _) _
            | exact Below.trans (by assumption) (h9b.mono (show Below w13.heap.size w13 _ by assumption).size)
            | exact Below.trans (by assumption) h9b
            | exact Below.trans (by assumption) (h8b.mono (show Below w13.heap.size w13 _ by assumption).size)
            | exact Below.trans (by assumption) h8b)
          (first
            | (go_at_call 20; (with_reducible refine (HOP4.out _).mono ?_); rintro e w8b ⟨rfl, h8b⟩; have s8b := Nat.le_trans (show Below w13.heap.size w13 _ by assumption).size h8b.size; have S8b := Below.trans (show Below w13.heap.size w13 _ by assumption) (h8b.mono (show Below w13.heap.size w13 _ by assumption).size); obtain ⟨cAb, fAb⟩ := bcell h8b; (try simp at cAb); (try simp at fAb); have z8b := h8b.size; (try simp at z8b); (try have z9b := Nat.lt_of_succ_le z8b))
            | (go_at_call 9; (with_reducible refine (HD5.out _ (by assumption)).mono ?_); rintro e w9b ⟨nv, dv, sv, rfl, ownb, h9b⟩; obtain ⟨p9b, e1, e2, e3, -⟩ := ownb.fss; subst e1; subst e2; subst e3; have s9b := Nat.le_trans (show Below w13.heap.size w13 _ by assumption).size h9b.size; have S9b := Below.trans (show Below w13.heap.size w13 _ by assumption) (h9b.mono (show Below w13.heap.size w13 _ by assumption).size); obtain ⟨cBb, fBb⟩ := bcell h9b; (try simp at cBb); (try simp at fBb)))
        · have HPV := Lib.hid (put_last ownb (show Below w13.heap.size w13 w9b by assumption))
          revert HPV
          generalize (w9b.alloc (.cells #[.slice p9b.an b.nodes.length p9b.cn, .slice p9b.ad b.dir.length p9b.cd, .slice p9b.ay b.syn.length p9b.cy] 25)) = WG
          intro HPV
          obtain ⟨O2, hOO2⟩ : ∃ O, O = w9b.heap.size := ⟨_, rfl⟩
          have HPV := Lib.hid (show Put w13 WG O2 b p9b by rw [hOO2]; exact HPV.out)
          rw [← hOO2]
          clear hOO2 ownb h8b h9b s8b s9b S8b S9b cAb cBb fAb fBb
          obtain ⟨ban, bcn, bad, bcd, bay, bcy⟩ := p9b
          simp only at *
          clear p0 p1 p2
          have HBW := Lib.hid (hal.trans ((HB13.out.trans (HPV.out.bel.mono HB13.out.size)).mono hs0))
          obtain ⟨o0, o1, o2⟩ := HPV.out.bk.three
          simp only at o0 o1 o2
          go_wp2_with fail
          clear o0 o1 o2
          have HR4 := read_any ⟨ban, bcn, bad, bcd, bay, bcy⟩ b n _ (HPV.out.fs)
          rw [HL3.out] at HR4
          unfold fsV TextEPost at HR4
          simp only at HR4
          refine HR4.mono ?_
          clear HR4
          rintro e w21 ⟨rfl, hb21⟩
          obtain ⟨o0, o1, o2⟩ := (HPV.out.bk.next hb21).three
          simp only at o0 o1 o2
          go_wp2_with fail
          clear o0 o1 o2
          have HR5 := read_any ⟨ban, bcn, bad, bcd, bay, bcy⟩ b n _ (HPV.out.fs.next hb21)
          rw [HL6.out] at HR5
          unfold fsV TextEPost at HR5
          simp only at HR5
          refine HR5.mono ?_
          clear HR5
          rintro e w22 ⟨rfl, hb22⟩
          have hend := HBW.out.trans ((below_then hb21 hb22).mono HBW.out.size)
          clear hb21 hb22 HPV HBW
          go_wp2_with fail
          go_ret
          exact ⟨by first | rfl | simp, hend⟩
        · have HPV := Lib.hid (put_mid ownb (show Below w13.heap.size w13 w9b by assumption) (show Below w13.heap.size w13 w8b by assumption).size ((bk_new w8b 25 #[.slice none 0 0, .slice none 0 0, .slice none 0 0]).next h9b))
          revert HPV
          generalize (((w9b.setCell ⟨w8b.heap.size, 0, none⟩ (.slice p9b.an b.nodes.length p9b.cn)).setCell ⟨w8b.heap.size, 1, none⟩ (.slice p9b.ad b.dir.length p9b.cd)).setCell ⟨w8b.heap.size, 2, none⟩ (.slice p9b.ay b.syn.length p9b.cy)) = WG
          intro HPV
          obtain ⟨O2, hOO2⟩ : ∃ O, O = w8b.heap.size := ⟨_, rfl⟩
          have HPV := Lib.hid (show Put w13 WG O2 b p9b by rw [hOO2]; exact HPV.out)
          rw [← hOO2]
          clear hOO2 ownb h8b h9b s8b s9b S8b S9b cAb cBb fAb fBb
          obtain ⟨ban, bcn, bad, bcd, bay, bcy⟩ := p9b
          simp only at *
          clear p0 p1 p2
          have HBW := Lib.hid (hal.trans ((HB13.out.trans (HPV.out.bel.mono HB13.out.size)).mono hs0))
          obtain ⟨o0, o1, o2⟩ := HPV.out.bk.three
          simp only at o0 o1 o2
          go_wp2_with fail
          clear o0 o1 o2
          have HR4 := read_any ⟨ban, bcn, bad, bcd, bay, bcy⟩ b n _ (HPV.out.fs)
          rw [HL3.out] at HR4
          unfold fsV TextEPost at HR4
          simp only at HR4
          refine HR4.mono ?_
          clear HR4
          rintro e w21 ⟨rfl, hb21⟩
          obtain ⟨o0, o1, o2⟩ := (HPV.out.bk.next hb21).three
          simp only at o0 o1 o2
          go_wp2_with fail
          clear o0 o1 o2
          have HR5 := read_any ⟨ban, bcn, bad, bcd, bay, bcy⟩ b n _ (HPV.out.fs.next hb21)
          rw [HL6.out] at HR5
          unfold fsV TextEPost at HR5
          simp only at HR5
          refine HR5.mono ?_
          clear HR5
          rintro e w22 ⟨rfl, hb22⟩
          have hend := HBW.out.trans ((below_then hb21 hb22).mono HBW.out.size)
          clear hb21 hb22 HPV HBW
          go_wp2_with fail
          go_ret
          exact ⟨by first | rfl | simp, hend⟩
        · have HPV := Lib.hid (put_mid ownb (show Below w13.heap.size w13 w9b by assumption) (Nat.le_refl _) (((bk_drew (bk_new w13 25 #[.slice none 0 0, .slice none 0 0, .slice none 0 0])).next h8b).next h9b))
          revert HPV
          generalize (((w9b.setCell ⟨w13.heap.size, 0, none⟩ (.slice p9b.an b.nodes.length p9b.cn)).setCell ⟨w13.heap.size, 1, none⟩ (.slice p9b.ad b.dir.length p9b.cd)).setCell ⟨w13.heap.size, 2, none⟩ (.slice p9b.ay b.syn.length p9b.cy)) = WG
          intro HPV
          obtain ⟨O2, hOO2⟩ : ∃ O, O = w13.heap.size := ⟨_, rfl⟩
          have HPV := Lib.hid (show Put w13 WG O2 b p9b by rw [hOO2]; exact HPV.out)
          rw [← hOO2]
          clear hOO2 ownb h8b h9b s8b s9b S8b S9b cAb cBb fAb fBb
          obtain ⟨ban, bcn, bad, bcd, bay, bcy⟩ := p9b
          simp only at *
          clear p0 p1 p2
          have HBW := Lib.hid (hal.trans ((HB13.out.trans (HPV.out.bel.mono HB13.out.size)).mono hs0))
          obtain ⟨o0, o1, o2⟩ := HPV.out.bk.three
          simp only at o0 o1 o2
          go_wp2_with fail
          clear o0 o1 o2
          have HR4 := read_any ⟨ban, bcn, bad, bcd, bay, bcy⟩ b n _ (HPV.out.fs)
          rw [HL3.out] at HR4
          unfold fsV TextEPost at HR4
          simp only at HR4
          refine HR4.mono ?_
          clear HR4
          rintro e w21 ⟨rfl, hb21⟩
          obtain ⟨o0, o1, o2⟩ := (HPV.out.bk.next hb21).three
          simp only at o0 o1 o2
          go_wp2_with fail
          clear o0 o1 o2
          have HR5 := read_any ⟨ban, bcn, bad, bcd, bay, bcy⟩ b n _ (HPV.out.fs.next hb21)
          rw [HL6.out] at HR5
          unfold fsV TextEPost at HR5
          simp only at HR5
          refine HR5.mono ?_
          clear HR5
          rintro e w22 ⟨rfl, hb22⟩
          have hend := HBW.out.trans ((below_then hb21 hb22).mono HBW.out.size)
          clear hb21 hb22 HPV HBW
          go_wp2_with fail
          go_ret
          exact ⟨by first | rfl | simp, hend⟩
      · have HPU := Lib.hid (put_mid owna (show Below W0.heap.size W0 w9a by assumption) (Nat.le_refl _) (((bk_drew (bk_new W0 25 #[.slice none 0 0, .slice none 0 0, .slice none 0 0])).next h8a).next h9a))
        revert HPU
        generalize (((w9a.setCell ⟨W0.heap.size, 0, none⟩ (.slice p9a.an g.nodes.length p9a.cn)).setCell ⟨W0.heap.size, 1, none⟩ (.slice p9a.ad g.dir.length p9a.cd)).setCell ⟨W0.heap.size, 2, none⟩ (.slice p9a.ay g.syn.length p9a.cy)) = WF
        intro HPU
        obtain ⟨O, hOO⟩ : ∃ O, O = W0.heap.size := ⟨_, rfl⟩
        have HPU := Lib.hid (show Put W0 WF O g p9a by rw [hOO]; exact HPU.out)
        rw [← hOO]
        clear hOO owna h8a h9a s8a s9a S8a S9a cAa cBa fAa fBa
        obtain ⟨pan, pcn, pad, pcd, pay, pcy⟩ := p9a
        simp only at *
        go_wp2_with fail
        refine (HFB.out _).mono ?_
        rintro e w10 ⟨rfl, hb10⟩
        obtain ⟨o0, o1, o2⟩ := (HPU.out.bk.next hb10).three
        simp only at o0 o1 o2
        go_wp2_with fail
        clear o0 o1 o2
        have HR1 := read_any ⟨pan, pcn, pad, pcd, pay, pcy⟩ g n _ (HPU.out.fs.next hb10)
        rw [HL1.out] at HR1
        unfold fsV TextEPost at HR1
        simp only at HR1
        refine HR1.mono ?_
        clear HR1
        rintro e w11 ⟨rfl, hb11⟩
        have b11 := below_then hb10 hb11
        have B11 := below_then HPU.out.bel b11
        have d0 := q0 w11 B11
        have d1 := q1 w11 B11
        have d2 := q2 w11 B11
        go_wp2_with fail
        clear d0 d1 d2
        refine (HRD.out w11 B11).mono ?_
        rintro e w12 ⟨rfl, hb12⟩
        have b12 := below_then b11 hb12
        obtain ⟨o0, o1, o2⟩ := (HPU.out.bk.next b12).three
        simp only at o0 o1 o2
        go_wp2_with fail
        clear o0 o1 o2
        have HR3 := read_any ⟨pan, pcn, pad, pcd, pay, pcy⟩ g n _ (HPU.out.fs.next b12)
        rw [HL5.out] at HR3
        unfold fsV TextEPost at HR3
        simp only at HR3
        refine HR3.mono ?_
        clear HR3
        rintro e w13 ⟨rfl, hb13⟩
        have b13 := below_then b12 hb13
        have HB13 := Lib.hid (below_then HPU.out.bel b13)
        have HBK13 := Lib.hid (HPU.out.bk.next b13)
        have HD5 := Lib.hid (HD4.out g ⟨pan, pcn, pad, pcd, pay, pcy⟩ w13 (HPU.out.fs.next b13))
        rw [HEB.out] at HD5
        try unfold fsV at HD5
        simp only at HD5
        have hself13 : Below w13.heap.size w13 w13 := Below.refl _ _
        have p0 : ∀ W, Below w13.heap.size w13 W → W.cell? ⟨O, 0, none⟩ = some (.slice pan g.nodes.length pcn) := fun W hb => (HBK13.out.next hb).three.1
        have p1 : ∀ W, Below w13.heap.size w13 W → W.cell? ⟨O, 1, none⟩ = some (.slice pad g.dir.length pcd) := fun W hb => (HBK13.out.next hb).three.2.1
        have p2 : ∀ W, Below w13.heap.size w13 W → W.cell? ⟨O, 2, none⟩ = some (.slice pay g.syn.length pcy) := fun W hb => (HBK13.out.next hb).three.2.2
        clear q0 q1 q2 hb10 hb11 hb12 hb13 b11 b12 b13 B11 HPU HRD HD HOP HBK13 hself HFB
        go_wp2_with fail
        go_region_held3 (fun W => Below w13.heap.size w13 W)
          (first
            | assumption
            | exact (show Below w13.heap.size w13 _ by assumption).drew
            | exact (show Below w13.heap.size w13 _ by assumption).alloc (show Below w13.heap.size w13 _ by assumption).size _
            | exact below_then (by assumption) h9b
            | exact below_then (by assumption) h8b
            | exact (((show Below w13.heap.size w13 _ by assumption).setCell (p := ⟨_, 0, none⟩) (by first | assumption | exact Nat.le_refl _) _).setCell (p := ⟨_, 1, none⟩) (by first | assumption | exact Nat.le_refl _) _).setCell (p := ⟨_, 2, none⟩) (by first | assumption | exact Nat.le_refl _) _
            | exact Below.trans (by assumption) (h9b.mono (show Below w13.heap.size w13 _ by assumption).size)
            | exact Below.trans (by assumption) h9b
            | exact Below.trans (by assumption) (h8b.mono (show Below w13.heap.size w13 _ by assumption).size)
            | exact Below.trans (by assumption) h8b)
          (first
            | (go_at_call 20; (with_reducible refine (HOP4.out _).mono ?_); rintro e w8b ⟨rfl, h8b⟩; have s8b := Nat.le_trans (show Below w13.heap.size w13 _ by assumption).size h8b.size; have S8b := Below.trans (show Below w13.heap.size w13 _ by assumption) (h8b.mono (show Below w13.heap.size w13 _ by assumption).size); obtain ⟨cAb, fAb⟩ := bcell h8b; (try simp at cAb); (try simp at fAb); have z8b := h8b.size; (try simp at z8b); (try have z9b := Nat.lt_of_succ_le z8b))
            | (go_at_call 9; (with_reducible refine (HD5.out _ (by assumption)).mono ?_); rintro e w9b ⟨nv, dv, sv, rfl, ownb, h9b⟩; obtain ⟨p9b, e1, e2, e3, -⟩ := ownb.fss; subst e1; subst e2; subst e3; have s9b := Nat.le_trans (show Below w13.heap.size w13 _ by assumption).size h9b.size; have S9b := Below.trans (show Below w13.heap.size w13 _ by assumption) (h9b.mono (show Below w13.heap.size w13 _ by assumption).size); obtain ⟨cBb, fBb⟩ := bcell h9b; (try simp at cBb); (try simp at fBb)))
        · have HPV := Lib.hid (put_last ownb (show Below w13.heap.size w13 w9b by assumption))
          revert HPV
          generalize (w9b.alloc (.cells #[.slice p9b.an b.nodes.length p9b.cn, .slice p9b.ad b.dir.length p9b.cd, .slice p9b.ay b.syn.length p9b.cy] 25)) = WG
          intro HPV
          obtain ⟨O2, hOO2⟩ : ∃ O, O = w9b.heap.size := ⟨_, rfl⟩
          have HPV := Lib.hid (show Put w13 WG O2 b p9b by rw [hOO2]; exact HPV.out)
          rw [← hOO2]
          clear hOO2 ownb h8b h9b s8b s9b S8b S9b cAb cBb fAb fBb
          obtain ⟨ban, bcn, bad, bcd, bay, bcy⟩ := p9b
          simp only at *
          clear p0 p1 p2
          have HBW := Lib.hid (hal.trans ((HB13.out.trans (HPV.out.bel.mono HB13.out.size)).mono hs0))
          obtain ⟨o0, o1, o2⟩ := HPV.out.bk.three
          simp only at o0 o1 o2
          go_wp2_with fail
          clear o0 o1 o2
          have HR4 := read_any ⟨ban, bcn, bad, bcd, bay, bcy⟩ b n _ (HPV.out.fs)
          rw [HL3.out] at HR4
          unfold fsV TextEPost at HR4
          simp only at HR4
          refine HR4.mono ?_
          clear HR4
          rintro e w21 ⟨rfl, hb21⟩
          obtain ⟨o0, o1, o2⟩ := (HPV.out.bk.next hb21).three
          simp only at o0 o1 o2
          go_wp2_with fail
          clear o0 o1 o2
          have HR5 := read_any ⟨ban, bcn, bad, bcd, bay, bcy⟩ b n _ (HPV.out.fs.next hb21)
          rw [HL6.out] at HR5
          unfold fsV TextEPost at HR5
          simp only at HR5
          refine HR5.mono ?_
          clear HR5
          rintro e w22 ⟨rfl, hb22⟩
          have hend := HBW.out.trans ((below_then hb21 hb22).mono HBW.out.size)
          clear hb21 hb22 HPV HBW
          go_wp2_with fail
          go_ret
          exact ⟨by first | rfl | simp, hend⟩
        · have HPV := Lib.hid (put_mid ownb (show Below w13.heap.size w13 w9b by assumption) (show Below w13.heap.size w13 w8b by assumption).size ((bk_new w8b 25 #[.slice none 0 0, .slice none 0 0, .slice none 0 0]).next h9b))
          revert HPV
          generalize (((w9b.setCell ⟨w8b.heap.size, 0, none⟩ (.slice p9b.an b.nodes.length p9b.cn)).setCell ⟨w8b.heap.size, 1, none⟩ (.slice p9b.ad b.dir.length p9b.cd)).setCell ⟨w8b.heap.size, 2, none⟩ (.slice p9b.ay b.syn.length p9b.cy)) = WG
          intro HPV
          obtain ⟨O2, hOO2⟩ : ∃ O, O = w8b.heap.size := ⟨_, rfl⟩
          have HPV := Lib.hid (show Put w13 WG O2 b p9b by rw [hOO2]; exact HPV.out)
          rw [← hOO2]
          clear hOO2 ownb h8b h9b s8b s9b S8b S9b cAb cBb fAb fBb
          obtain ⟨ban, bcn, bad, bcd, bay, bcy⟩ := p9b
          simp only at *
          clear p0 p1 p2
          have HBW := Lib.hid (hal.trans ((HB13.out.trans (HPV.out.bel.mono HB13.out.size)).mono hs0))
          obtain ⟨o0, o1, o2⟩ := HPV.out.bk.three
          simp only at o0 o1 o2
          go_wp2_with fail
          clear o0 o1 o2
          have HR4 := read_any ⟨ban, bcn, bad, bcd, bay, bcy⟩ b n _ (HPV.out.fs)
          rw [HL3.out] at HR4
          unfold fsV TextEPost at HR4
          simp only at HR4
          refine HR4.mono ?_
          clear HR4
          rintro e w21 ⟨rfl, hb21⟩
          obtain ⟨o0, o1, o2⟩ := (HPV.out.bk.next hb21).three
          simp only at o0 o1 o2
          go_wp2_with fail
          clear o0 o1 o2
          have HR5 := read_any ⟨ban, bcn, bad, bcd, bay, bcy⟩ b n _ (HPV.out.fs.next hb21)
          rw [HL6.out] at HR5
          unfold fsV TextEPost at HR5
          simp only at HR5
          refine HR5.mono ?_
          clear HR5
          rintro e w22 ⟨rfl, hb22⟩
          have hend := HBW.out.trans ((below_then hb21 hb22).mono HBW.out.size)
          clear hb21 hb22 HPV HBW
          go_wp2_with fail
          go_ret
          exact ⟨by first | rfl | simp, hend⟩
        · have HPV := Lib.hid (put_mid ownb (show Below w13.heap.size w13 w9b by assumption) (Nat.le_refl _) (((bk_drew (bk_new w13 25 #[.slice none 0 0, .slice none 0 0, .slice none 0 0])).next h8b).next h9b))
          revert HPV
          generalize (((w9b.setCell ⟨w13.heap.size, 0, none⟩ (.slice p9b.an b.nodes.length p9b.cn)).setCell ⟨w13.heap.size, 1, none⟩ (.slice p9b.ad b.dir.length p9b.cd)).setCell ⟨w13.heap.size, 2, none⟩ (.slice p9b.ay b.syn.length p9b.cy)) = WG
          intro HPV
          obtain ⟨O2, hOO2⟩ : ∃ O, O = w13.heap.size := ⟨_, rfl⟩
          have HPV := Lib.hid (show Put w13 WG O2 b p9b by rw [hOO2]; exact HPV.out)
          rw [← hOO2]
          clear hOO2 ownb h8b h9b s8b s9b S8b S9b cAb cBb fAb fBb
          obtain ⟨ban, bcn, bad, bcd, bay, bcy⟩ := p9b
          simp only at *
          clear p0 p1 p2
          have HBW := Lib.hid (hal.trans ((HB13.out.trans (HPV.out.bel.mono HB13.out.size)).mono hs0))
          obtain ⟨o0, o1, o2⟩ := HPV.out.bk.three
          simp only at o0 o1 o2
          go_wp2_with fail
          clear o0 o1 o2
          have HR4 := read_any ⟨ban, bcn, bad, bcd, bay, bcy⟩ b n _ (HPV.out.fs)
          rw [HL3.out] at HR4
          unfold fsV TextEPost at HR4
          simp only at HR4
          refine HR4.mono ?_
          clear HR4
          rintro e w21 ⟨rfl, hb21⟩
          obtain ⟨o0, o1, o2⟩ := (HPV.out.bk.next hb21).three
          simp only at o0 o1 o2
          go_wp2_with fail
          clear o0 o1 o2
          have HR5 := read_any ⟨ban, bcn, bad, bcd, bay, bcy⟩ b n _ (HPV.out.fs.next hb21)
          rw [HL6.out] at HR5
          unfold fsV TextEPost at HR5
          simp only at HR5
          refine HR5.mono ?_
          clear HR5
          rintro e w22 ⟨rfl, hb22⟩
          have hend := HBW.out.trans ((below_then hb21 hb22).mono HBW.out.size)
          clear hb21 hb22 HPV HBW
          go_wp2_with fail
          go_ret
          exact ⟨by first | rfl | simp, hend⟩
    · have l5 := (l4 m hmn).1
      have l6 := (l4 m hmn).2
      rw [HRF.out] at l5 l6
      have HL5 := Lib.hid l5
      have HL6 := Lib.hid l6
      have hs : ((str m).toList == (str n).toList) = false := by rw [str_toList, str_toList]; exact beq_eq_false_iff_ne.2 hmn
      clear hB l1 l3 l4 l5 l6 HLAW HBAD he HRF hmn
      go_enter Try.func5, Try.ntmps5
      go_wp2_with fail
      rw [HW.out]
      go_region_held3 (fun W => Below W0.heap.size W0 W)
        (first
          | assumption
          | exact (show Below W0.heap.size W0 _ by assumption).drew
          | exact (show Below W0.heap.size W0 _ by assumption).alloc (show Below W0.heap.size W0 _ by assumption).size _
          | exact below_then (by assumption) h9a
          | exact below_then (by assumption) h8a
          | exact (((show Below W0.heap.size W0 _ by assumption).setCell (p := ⟨_, 0, none⟩) (by first | assumption | exact Nat.le_refl _) _).setCell (p := ⟨_, 1, none⟩) (by first | assumption | exact Nat.le_refl _) _).setCell (p := ⟨_, 2, none⟩) (by first | assumption | exact Nat.le_refl _) _
          | exact Below.trans (by assumption) (h9a.mono (show Below W0.heap.size W0 _ by assumption).size)
          | exact Below.trans (by assumption) h9a
          | exact Below.trans (by assumption) (h8a.mono (show Below W0.heap.size W0 _ by assumption).size)
          | exact Below.trans (by assumption) h8a)
        (first
          | (go_at_call 20; (with_reducible refine (HOP.out _).mono ?_); rintro e w8a ⟨rfl, h8a⟩; have s8a := Nat.le_trans (show Below W0.heap.size W0 _ by assumption).size h8a.size; have S8a := Below.trans (show Below W0.heap.size W0 _ by assumption) (h8a.mono (show Below W0.heap.size W0 _ by assumption).size); obtain ⟨cAa, fAa⟩ := bcell h8a; (try simp at cAa); (try simp at fAa); have z8a := h8a.size; (try simp at z8a); (try have z9a := Nat.lt_of_succ_le z8a))
          | (go_at_call 9; (with_reducible refine (HD.out _ (by assumption)).mono ?_); rintro e w9a ⟨nv, dv, sv, rfl, owna, h9a⟩; obtain ⟨p9a, e1, e2, e3, -⟩ := owna.fss; subst e1; subst e2; subst e3; have s9a := Nat.le_trans (show Below W0.heap.size W0 _ by assumption).size h9a.size; have S9a := Below.trans (show Below W0.heap.size W0 _ by assumption) (h9a.mono (show Below W0.heap.size W0 _ by assumption).size); obtain ⟨cBa, fBa⟩ := bcell h9a; (try simp at cBa); (try simp at fBa)))
      · have HPU := Lib.hid (put_last owna (show Below W0.heap.size W0 w9a by assumption))
        revert HPU
        generalize (w9a.alloc (.cells #[.slice p9a.an g.nodes.length p9a.cn, .slice p9a.ad g.dir.length p9a.cd, .slice p9a.ay g.syn.length p9a.cy] 25)) = WF
        intro HPU
        obtain ⟨O, hOO⟩ : ∃ O, O = w9a.heap.size := ⟨_, rfl⟩
        have HPU := Lib.hid (show Put W0 WF O g p9a by rw [hOO]; exact HPU.out)
        rw [← hOO]
        clear hOO owna h8a h9a s8a s9a S8a S9a cAa cBa fAa fBa
        obtain ⟨pan, pcn, pad, pcd, pay, pcy⟩ := p9a
        simp only at *
        go_wp2_with fail
        refine (HFB.out _).mono ?_
        rintro e w10 ⟨rfl, hb10⟩
        obtain ⟨o0, o1, o2⟩ := (HPU.out.bk.next hb10).three
        simp only at o0 o1 o2
        go_wp2_with fail
        clear o0 o1 o2
        have HR1 := read_any ⟨pan, pcn, pad, pcd, pay, pcy⟩ g n _ (HPU.out.fs.next hb10)
        rw [HL1.out] at HR1
        unfold fsV TextEPost at HR1
        simp only at HR1
        refine HR1.mono ?_
        clear HR1
        rintro e w11 ⟨rfl, hb11⟩
        have b11 := below_then hb10 hb11
        have B11 := below_then HPU.out.bel b11
        have d0 := q0 w11 B11
        have d1 := q1 w11 B11
        have d2 := q2 w11 B11
        go_wp2_with fail
        clear d0 d1 d2
        refine (HRD.out w11 B11).mono ?_
        rintro e w12 ⟨rfl, hb12⟩
        have b12 := below_then b11 hb12
        obtain ⟨o0, o1, o2⟩ := (HPU.out.bk.next b12).three
        simp only at o0 o1 o2
        go_wp2_with fail
        clear o0 o1 o2
        have HR3 := read_any ⟨pan, pcn, pad, pcd, pay, pcy⟩ g m _ (HPU.out.fs.next b12)
        rw [HL5.out] at HR3
        unfold fsV TextEPost at HR3
        simp only at HR3
        refine HR3.mono ?_
        clear HR3
        rintro e w13 ⟨rfl, hb13⟩
        have b13 := below_then b12 hb13
        have HB13 := Lib.hid (below_then HPU.out.bel b13)
        have HBK13 := Lib.hid (HPU.out.bk.next b13)
        have HD5 := Lib.hid (HD4.out g ⟨pan, pcn, pad, pcd, pay, pcy⟩ w13 (HPU.out.fs.next b13))
        rw [HEB.out] at HD5
        try unfold fsV at HD5
        simp only at HD5
        have hself13 : Below w13.heap.size w13 w13 := Below.refl _ _
        have p0 : ∀ W, Below w13.heap.size w13 W → W.cell? ⟨O, 0, none⟩ = some (.slice pan g.nodes.length pcn) := fun W hb => (HBK13.out.next hb).three.1
        have p1 : ∀ W, Below w13.heap.size w13 W → W.cell? ⟨O, 1, none⟩ = some (.slice pad g.dir.length pcd) := fun W hb => (HBK13.out.next hb).three.2.1
        have p2 : ∀ W, Below w13.heap.size w13 W → W.cell? ⟨O, 2, none⟩ = some (.slice pay g.syn.length pcy) := fun W hb => (HBK13.out.next hb).three.2.2
        clear q0 q1 q2 hb10 hb11 hb12 hb13 b11 b12 b13 B11 HPU HRD HD HOP HBK13 hself HFB
        go_wp2_with fail
        go_region_held3 (fun W => Below w13.heap.size w13 W)
          (first
            | assumption
            | exact (show Below w13.heap.size w13 _ by assumption).drew
            | exact (show Below w13.heap.size w13 _ by assumption).alloc (show Below w13.heap.size w13 _ by assumption).size _
            | exact below_then (by assumption) h9b
            | exact below_then (by assumption) h8b
            | exact (((show Below w13.heap.size w13 _ by assumption).setCell (p := ⟨_, 0, none⟩) (by first | assumption | exact Nat.le_refl _) _).setCell (p := ⟨_, 1, none⟩) (by first | assumption | exact Nat.le_refl _) _).setCell (p := ⟨_, 2, none⟩) (by first | assumption | exact Nat.le_refl _) _
            | exact Below.trans (by assumption) (h9b.mono (show Below w13.heap.size w13 _ by assumption).size)
            | exact Below.trans (by assumption) h9b
            | exact Below.trans (by assumption) (h8b.mono (show Below w13.heap.size w13 _ by assumption).size)
            | exact Below.trans (by assumption) h8b)
          (first
            | (go_at_call 20; (with_reducible refine (HOP4.out _).mono ?_); rintro e w8b ⟨rfl, h8b⟩; have s8b := Nat.le_trans (show Below w13.heap.size w13 _ by assumption).size h8b.size; have S8b := Below.trans (show Below w13.heap.size w13 _ by assumption) (h8b.mono (show Below w13.heap.size w13 _ by assumption).size); obtain ⟨cAb, fAb⟩ := bcell h8b; (try simp at cAb); (try simp at fAb); have z8b := h8b.size; (try simp at z8b); (try have z9b := Nat.lt_of_succ_le z8b))
            | (go_at_call 9; (with_reducible refine (HD5.out _ (by assumption)).mono ?_); rintro e w9b ⟨nv, dv, sv, rfl, ownb, h9b⟩; obtain ⟨p9b, e1, e2, e3, -⟩ := ownb.fss; subst e1; subst e2; subst e3; have s9b := Nat.le_trans (show Below w13.heap.size w13 _ by assumption).size h9b.size; have S9b := Below.trans (show Below w13.heap.size w13 _ by assumption) (h9b.mono (show Below w13.heap.size w13 _ by assumption).size); obtain ⟨cBb, fBb⟩ := bcell h9b; (try simp at cBb); (try simp at fBb)))
        · have HPV := Lib.hid (put_last ownb (show Below w13.heap.size w13 w9b by assumption))
          revert HPV
          generalize (w9b.alloc (.cells #[.slice p9b.an b.nodes.length p9b.cn, .slice p9b.ad b.dir.length p9b.cd, .slice p9b.ay b.syn.length p9b.cy] 25)) = WG
          intro HPV
          obtain ⟨O2, hOO2⟩ : ∃ O, O = w9b.heap.size := ⟨_, rfl⟩
          have HPV := Lib.hid (show Put w13 WG O2 b p9b by rw [hOO2]; exact HPV.out)
          rw [← hOO2]
          clear hOO2 ownb h8b h9b s8b s9b S8b S9b cAb cBb fAb fBb
          obtain ⟨ban, bcn, bad, bcd, bay, bcy⟩ := p9b
          simp only at *
          clear p0 p1 p2
          have HBW := Lib.hid (hal.trans ((HB13.out.trans (HPV.out.bel.mono HB13.out.size)).mono hs0))
          obtain ⟨o0, o1, o2⟩ := HPV.out.bk.three
          simp only at o0 o1 o2
          go_wp2_with fail
          clear o0 o1 o2
          have HR4 := read_any ⟨ban, bcn, bad, bcd, bay, bcy⟩ b n _ (HPV.out.fs)
          rw [HL3.out] at HR4
          unfold fsV TextEPost at HR4
          simp only at HR4
          refine HR4.mono ?_
          clear HR4
          rintro e w21 ⟨rfl, hb21⟩
          obtain ⟨o0, o1, o2⟩ := (HPV.out.bk.next hb21).three
          simp only at o0 o1 o2
          go_wp2_with fail
          clear o0 o1 o2
          have HR5 := read_any ⟨ban, bcn, bad, bcd, bay, bcy⟩ b m _ (HPV.out.fs.next hb21)
          rw [HL6.out] at HR5
          unfold fsV TextEPost at HR5
          simp only at HR5
          refine HR5.mono ?_
          clear HR5
          rintro e w22 ⟨rfl, hb22⟩
          have hend := HBW.out.trans ((below_then hb21 hb22).mono HBW.out.size)
          clear hb21 hb22 HPV HBW
          go_wp2_with fail
          go_ret
          exact ⟨by first | rfl | simp, hend⟩
        · have HPV := Lib.hid (put_mid ownb (show Below w13.heap.size w13 w9b by assumption) (show Below w13.heap.size w13 w8b by assumption).size ((bk_new w8b 25 #[.slice none 0 0, .slice none 0 0, .slice none 0 0]).next h9b))
          revert HPV
          generalize (((w9b.setCell ⟨w8b.heap.size, 0, none⟩ (.slice p9b.an b.nodes.length p9b.cn)).setCell ⟨w8b.heap.size, 1, none⟩ (.slice p9b.ad b.dir.length p9b.cd)).setCell ⟨w8b.heap.size, 2, none⟩ (.slice p9b.ay b.syn.length p9b.cy)) = WG
          intro HPV
          obtain ⟨O2, hOO2⟩ : ∃ O, O = w8b.heap.size := ⟨_, rfl⟩
          have HPV := Lib.hid (show Put w13 WG O2 b p9b by rw [hOO2]; exact HPV.out)
          rw [← hOO2]
          clear hOO2 ownb h8b h9b s8b s9b S8b S9b cAb cBb fAb fBb
          obtain ⟨ban, bcn, bad, bcd, bay, bcy⟩ := p9b
          simp only at *
          clear p0 p1 p2
          have HBW := Lib.hid (hal.trans ((HB13.out.trans (HPV.out.bel.mono HB13.out.size)).mono hs0))
          obtain ⟨o0, o1, o2⟩ := HPV.out.bk.three
          simp only at o0 o1 o2
          go_wp2_with fail
          clear o0 o1 o2
          have HR4 := read_any ⟨ban, bcn, bad, bcd, bay, bcy⟩ b n _ (HPV.out.fs)
          rw [HL3.out] at HR4
          unfold fsV TextEPost at HR4
          simp only at HR4
          refine HR4.mono ?_
          clear HR4
          rintro e w21 ⟨rfl, hb21⟩
          obtain ⟨o0, o1, o2⟩ := (HPV.out.bk.next hb21).three
          simp only at o0 o1 o2
          go_wp2_with fail
          clear o0 o1 o2
          have HR5 := read_any ⟨ban, bcn, bad, bcd, bay, bcy⟩ b m _ (HPV.out.fs.next hb21)
          rw [HL6.out] at HR5
          unfold fsV TextEPost at HR5
          simp only at HR5
          refine HR5.mono ?_
          clear HR5
          rintro e w22 ⟨rfl, hb22⟩
          have hend := HBW.out.trans ((below_then hb21 hb22).mono HBW.out.size)
          clear hb21 hb22 HPV HBW
          go_wp2_with fail
          go_ret
          exact ⟨by first | rfl | simp, hend⟩
        · have HPV := Lib.hid (put_mid ownb (show Below w13.heap.size w13 w9b by assumption) (Nat.le_refl _) (((bk_drew (bk_new w13 25 #[.slice none 0 0, .slice none 0 0, .slice none 0 0])).next h8b).next h9b))
          revert HPV
          generalize (((w9b.setCell ⟨w13.heap.size, 0, none⟩ (.slice p9b.an b.nodes.length p9b.cn)).setCell ⟨w13.heap.size, 1, none⟩ (.slice p9b.ad b.dir.length p9b.cd)).setCell ⟨w13.heap.size, 2, none⟩ (.slice p9b.ay b.syn.length p9b.cy)) = WG
          intro HPV
          obtain ⟨O2, hOO2⟩ : ∃ O, O = w13.heap.size := ⟨_, rfl⟩
          have HPV := Lib.hid (show Put w13 WG O2 b p9b by rw [hOO2]; exact HPV.out)
          rw [← hOO2]
          clear hOO2 ownb h8b h9b s8b s9b S8b S9b cAb cBb fAb fBb
          obtain ⟨ban, bcn, bad, bcd, bay, bcy⟩ := p9b
          simp only at *
          clear p0 p1 p2
          have HBW := Lib.hid (hal.trans ((HB13.out.trans (HPV.out.bel.mono HB13.out.size)).mono hs0))
          obtain ⟨o0, o1, o2⟩ := HPV.out.bk.three
          simp only at o0 o1 o2
          go_wp2_with fail
          clear o0 o1 o2
          have HR4 := read_any ⟨ban, bcn, bad, bcd, bay, bcy⟩ b n _ (HPV.out.fs)
          rw [HL3.out] at HR4
          unfold fsV TextEPost at HR4
          simp only at HR4
          refine HR4.mono ?_
          clear HR4
          rintro e w21 ⟨rfl, hb21⟩
          obtain ⟨o0, o1, o2⟩ := (HPV.out.bk.next hb21).three
          simp only at o0 o1 o2
          go_wp2_with fail
          clear o0 o1 o2
          have HR5 := read_any ⟨ban, bcn, bad, bcd, bay, bcy⟩ b m _ (HPV.out.fs.next hb21)
          rw [HL6.out] at HR5
          unfold fsV TextEPost at HR5
          simp only at HR5
          refine HR5.mono ?_
          clear HR5
          rintro e w22 ⟨rfl, hb22⟩
          have hend := HBW.out.trans ((below_then hb21 hb22).mono HBW.out.size)
          clear hb21 hb22 HPV HBW
          go_wp2_with fail
          go_ret
          exact ⟨by first | rfl | simp, hend⟩
      · have HPU := Lib.hid (put_mid owna (show Below W0.heap.size W0 w9a by assumption) (show Below W0.heap.size W0 w8a by assumption).size ((bk_new w8a 25 #[.slice none 0 0, .slice none 0 0, .slice none 0 0]).next h9a))
        revert HPU
        generalize (((w9a.setCell ⟨w8a.heap.size, 0, none⟩ (.slice p9a.an g.nodes.length p9a.cn)).setCell ⟨w8a.heap.size, 1, none⟩ (.slice p9a.ad g.dir.length p9a.cd)).setCell ⟨w8a.heap.size, 2, none⟩ (.slice p9a.ay g.syn.length p9a.cy)) = WF
        intro HPU
        obtain ⟨O, hOO⟩ : ∃ O, O = w8a.heap.size := ⟨_, rfl⟩
        have HPU := Lib.hid (show Put W0 WF O g p9a by rw [hOO]; exact HPU.out)
        rw [← hOO]
        clear hOO owna h8a h9a s8a s9a S8a S9a cAa cBa fAa fBa
        obtain ⟨pan, pcn, pad, pcd, pay, pcy⟩ := p9a
        simp only at *
        go_wp2_with fail
        refine (HFB.out _).mono ?_
        rintro e w10 ⟨rfl, hb10⟩
        obtain ⟨o0, o1, o2⟩ := (HPU.out.bk.next hb10).three
        simp only at o0 o1 o2
        go_wp2_with fail
        clear o0 o1 o2
        have HR1 := read_any ⟨pan, pcn, pad, pcd, pay, pcy⟩ g n _ (HPU.out.fs.next hb10)
        rw [HL1.out] at HR1
        unfold fsV TextEPost at HR1
        simp only at HR1
        refine HR1.mono ?_
        clear HR1
        rintro e w11 ⟨rfl, hb11⟩
        have b11 := below_then hb10 hb11
        have B11 := below_then HPU.out.bel b11
        have d0 := q0 w11 B11
        have d1 := q1 w11 B11
        have d2 := q2 w11 B11
        go_wp2_with fail
        clear d0 d1 d2
        refine (HRD.out w11 B11).mono ?_
        rintro e w12 ⟨rfl, hb12⟩
        have b12 := below_then b11 hb12
        obtain ⟨o0, o1, o2⟩ := (HPU.out.bk.next b12).three
        simp only at o0 o1 o2
        go_wp2_with fail
        clear o0 o1 o2
        have HR3 := read_any ⟨pan, pcn, pad, pcd, pay, pcy⟩ g m _ (HPU.out.fs.next b12)
        rw [HL5.out] at HR3
        unfold fsV TextEPost at HR3
        simp only at HR3
        refine HR3.mono ?_
        clear HR3
        rintro e w13 ⟨rfl, hb13⟩
        have b13 := below_then b12 hb13
        have HB13 := Lib.hid (below_then HPU.out.bel b13)
        have HBK13 := Lib.hid (HPU.out.bk.next b13)
        have HD5 := Lib.hid (HD4.out g ⟨pan, pcn, pad, pcd, pay, pcy⟩ w13 (HPU.out.fs.next b13))
        rw [HEB.out] at HD5
        try unfold fsV at HD5
        simp only at HD5
        have hself13 : Below w13.heap.size w13 w13 := Below.refl _ _
        have p0 : ∀ W, Below w13.heap.size w13 W → W.cell? ⟨O, 0, none⟩ = some (.slice pan g.nodes.length pcn) := fun W hb => (HBK13.out.next hb).three.1
        have p1 : ∀ W, Below w13.heap.size w13 W → W.cell? ⟨O, 1, none⟩ = some (.slice pad g.dir.length pcd) := fun W hb => (HBK13.out.next hb).three.2.1
        have p2 : ∀ W, Below w13.heap.size w13 W → W.cell? ⟨O, 2, none⟩ = some (.slice pay g.syn.length pcy) := fun W hb => (HBK13.out.next hb).three.2.2
        clear q0 q1 q2 hb10 hb11 hb12 hb13 b11 b12 b13 B11 HPU HRD HD HOP HBK13 hself HFB
        go_wp2_with fail
        go_region_held3 (fun W => Below w13.heap.size w13 W)
          (first
            | assumption
            | exact (show Below w13.heap.size w13 _ by assumption).drew
            | exact (show Below w13.heap.size w13 _ by assumption).alloc (show Below w13.heap.size w13 _ by assumption).size _
            | exact below_then (by assumption) h9b
            | exact below_then (by assumption) h8b
            | exact (((show Below w13.heap.size w13 _ by assumption).setCell (p := ⟨_, 0, none⟩) (by first | assumption | exact Nat.le_refl _) _).setCell (p := ⟨_, 1, none⟩) (by first | assumption | exact Nat.le_refl _) _).setCell (p := ⟨_, 2, none⟩) (by first | assumption | exact Nat.le_refl _) _
            | exact Below.trans (by assumption) (h9b.mono (show Below w13.heap.size w13 _ by assumption).size)
            | exact Below.trans (by assumption) h9b
            | exact Below.trans (by assumption) (h8b.mono (show Below w13.heap.size w13 _ by assumption).size)
            | exact Below.trans (by assumption) h8b)
          (first
            | (go_at_call 20; (with_reducible refine (HOP4.out _).mono ?_); rintro e w8b ⟨rfl, h8b⟩; have s8b := Nat.le_trans (show Below w13.heap.size w13 _ by assumption).size h8b.size; have S8b := Below.trans (show Below w13.heap.size w13 _ by assumption) (h8b.mono (show Below w13.heap.size w13 _ by assumption).size); obtain ⟨cAb, fAb⟩ := bcell h8b; (try simp at cAb); (try simp at fAb); have z8b := h8b.size; (try simp at z8b); (try have z9b := Nat.lt_of_succ_le z8b))
            | (go_at_call 9; (with_reducible refine (HD5.out _ (by assumption)).mono ?_); rintro e w9b ⟨nv, dv, sv, rfl, ownb, h9b⟩; obtain ⟨p9b, e1, e2, e3, -⟩ := ownb.fss; subst e1; subst e2; subst e3; have s9b := Nat.le_trans (show Below w13.heap.size w13 _ by assumption).size h9b.size; have S9b := Below.trans (show Below w13.heap.size w13 _ by assumption) (h9b.mono (show Below w13.heap.size w13 _ by assumption).size); obtain ⟨cBb, fBb⟩ := bcell h9b; (try simp at cBb); (try simp at fBb)))
        · have HPV := Lib.hid (put_last ownb (show Below w13.heap.size w13 w9b by assumption))
          revert HPV
          generalize (w9b.alloc (.cells #[.slice p9b.an b.nodes.length p9b.cn, .slice p9b.ad b.dir.length p9b.cd, .slice p9b.ay b.syn.length p9b.cy] 25)) = WG
          intro HPV
          obtain ⟨O2, hOO2⟩ : ∃ O, O = w9b.heap.size := ⟨_, rfl⟩
          have HPV := Lib.hid (show Put w13 WG O2 b p9b by rw [hOO2]; exact HPV.out)
          rw [← hOO2]
          clear hOO2 ownb h8b h9b s8b s9b S8b S9b cAb cBb fAb fBb
          obtain ⟨ban, bcn, bad, bcd, bay, bcy⟩ := p9b
          simp only at *
          clear p0 p1 p2
          have HBW := Lib.hid (hal.trans ((HB13.out.trans (HPV.out.bel.mono HB13.out.size)).mono hs0))
          obtain ⟨o0, o1, o2⟩ := HPV.out.bk.three
          simp only at o0 o1 o2
          go_wp2_with fail
          clear o0 o1 o2
          have HR4 := read_any ⟨ban, bcn, bad, bcd, bay, bcy⟩ b n _ (HPV.out.fs)
          rw [HL3.out] at HR4
          unfold fsV TextEPost at HR4
          simp only at HR4
          refine HR4.mono ?_
          clear HR4
          rintro e w21 ⟨rfl, hb21⟩
          obtain ⟨o0, o1, o2⟩ := (HPV.out.bk.next hb21).three
          simp only at o0 o1 o2
          go_wp2_with fail
          clear o0 o1 o2
          have HR5 := read_any ⟨ban, bcn, bad, bcd, bay, bcy⟩ b m _ (HPV.out.fs.next hb21)
          rw [HL6.out] at HR5
          unfold fsV TextEPost at HR5
          simp only at HR5
          refine HR5.mono ?_
          clear HR5
          rintro e w22 ⟨rfl, hb22⟩
          have hend := HBW.out.trans ((below_then hb21 hb22).mono HBW.out.size)
          clear hb21 hb22 HPV HBW
          go_wp2_with fail
          go_ret
          exact ⟨by first | rfl | simp, hend⟩
        · have HPV := Lib.hid (put_mid ownb (show Below w13.heap.size w13 w9b by assumption) (show Below w13.heap.size w13 w8b by assumption).size ((bk_new w8b 25 #[.slice none 0 0, .slice none 0 0, .slice none 0 0]).next h9b))
          revert HPV
          generalize (((w9b.setCell ⟨w8b.heap.size, 0, none⟩ (.slice p9b.an b.nodes.length p9b.cn)).setCell ⟨w8b.heap.size, 1, none⟩ (.slice p9b.ad b.dir.length p9b.cd)).setCell ⟨w8b.heap.size, 2, none⟩ (.slice p9b.ay b.syn.length p9b.cy)) = WG
          intro HPV
          obtain ⟨O2, hOO2⟩ : ∃ O, O = w8b.heap.size := ⟨_, rfl⟩
          have HPV := Lib.hid (show Put w13 WG O2 b p9b by rw [hOO2]; exact HPV.out)
          rw [← hOO2]
          clear hOO2 ownb h8b h9b s8b s9b S8b S9b cAb cBb fAb fBb
          obtain ⟨ban, bcn, bad, bcd, bay, bcy⟩ := p9b
          simp only at *
          clear p0 p1 p2
          have HBW := Lib.hid (hal.trans ((HB13.out.trans (HPV.out.bel.mono HB13.out.size)).mono hs0))
          obtain ⟨o0, o1, o2⟩ := HPV.out.bk.three
          simp only at o0 o1 o2
          go_wp2_with fail
          clear o0 o1 o2
          have HR4 := read_any ⟨ban, bcn, bad, bcd, bay, bcy⟩ b n _ (HPV.out.fs)
          rw [HL3.out] at HR4
          unfold fsV TextEPost at HR4
          simp only at HR4
          refine HR4.mono ?_
          clear HR4
          rintro e w21 ⟨rfl, hb21⟩
          obtain ⟨o0, o1, o2⟩ := (HPV.out.bk.next hb21).three
          simp only at o0 o1 o2
          go_wp2_with fail
          clear o0 o1 o2
          have HR5 := read_any ⟨ban, bcn, bad, bcd, bay, bcy⟩ b m _ (HPV.out.fs.next hb21)
          rw [HL6.out] at HR5
          unfold fsV TextEPost at HR5
          simp only at HR5
          refine HR5.mono ?_
          clear HR5
          rintro e w22 ⟨rfl, hb22⟩
          have hend := HBW.out.trans ((below_then hb21 hb22).mono HBW.out.size)
          clear hb21 hb22 HPV HBW
          go_wp2_with fail
          go_ret
          exact ⟨by first | rfl | simp, hend⟩
        · have HPV := Lib.hid (put_mid ownb (show Below w13.heap.size w13 w9b by assumption) (Nat.le_refl _) (((bk_drew (bk_new w13 25 #[.slice none 0 0, .slice none 0 0, .slice none 0 0])).next h8b).next h9b))
          revert HPV
          generalize (((w9b.setCell ⟨w13.heap.size, 0, none⟩ (.slice p9b.an b.nodes.length p9b.cn)).setCell ⟨w13.heap.size, 1, none⟩ (.slice p9b.ad b.dir.length p9b.cd)).setCell ⟨w13.heap.size, 2, none⟩ (.slice p9b.ay b.syn.length p9b.cy)) = WG
          intro HPV
          obtain ⟨O2, hOO2⟩ : ∃ O, O = w13.heap.size := ⟨_, rfl⟩
          have HPV := Lib.hid (show Put w13 WG O2 b p9b by rw [hOO2]; exact HPV.out)
          rw [← hOO2]
          clear hOO2 ownb h8b h9b s8b s9b S8b S9b cAb cBb fAb fBb
          obtain ⟨ban, bcn, bad, bcd, bay, bcy⟩ := p9b
          simp only at *
          clear p0 p1 p2
          have HBW := Lib.hid (hal.trans ((HB13.out.trans (HPV.out.bel.mono HB13.out.size)).mono hs0))
          obtain ⟨o0, o1, o2⟩ := HPV.out.bk.three
          simp only at o0 o1 o2
          go_wp2_with fail
          clear o0 o1 o2
          have HR4 := read_any ⟨ban, bcn, bad, bcd, bay, bcy⟩ b n _ (HPV.out.fs)
          rw [HL3.out] at HR4
          unfold fsV TextEPost at HR4
          simp only at HR4
          refine HR4.mono ?_
          clear HR4
          rintro e w21 ⟨rfl, hb21⟩
          obtain ⟨o0, o1, o2⟩ := (HPV.out.bk.next hb21).three
          simp only at o0 o1 o2
          go_wp2_with fail
          clear o0 o1 o2
          have HR5 := read_any ⟨ban, bcn, bad, bcd, bay, bcy⟩ b m _ (HPV.out.fs.next hb21)
          rw [HL6.out] at HR5
          unfold fsV TextEPost at HR5
          simp only at HR5
          refine HR5.mono ?_
          clear HR5
          rintro e w22 ⟨rfl, hb22⟩
          have hend := HBW.out.trans ((below_then hb21 hb22).mono HBW.out.size)
          clear hb21 hb22 HPV HBW
          go_wp2_with fail
          go_ret
          exact ⟨by first | rfl | simp, hend⟩
      · have HPU := Lib.hid (put_mid owna (show Below W0.heap.size W0 w9a by assumption) (Nat.le_refl _) (((bk_drew (bk_new W0 25 #[.slice none 0 0, .slice none 0 0, .slice none 0 0])).next h8a).next h9a))
        revert HPU
        generalize (((w9a.setCell ⟨W0.heap.size, 0, none⟩ (.slice p9a.an g.nodes.length p9a.cn)).setCell ⟨W0.heap.size, 1, none⟩ (.slice p9a.ad g.dir.length p9a.cd)).setCell ⟨W0.heap.size, 2, none⟩ (.slice p9a.ay g.syn.length p9a.cy)) = WF
        intro HPU
        obtain ⟨O, hOO⟩ : ∃ O, O = W0.heap.size := ⟨_, rfl⟩
        have HPU := Lib.hid (show Put W0 WF O g p9a by rw [hOO]; exact HPU.out)
        rw [← hOO]
        clear hOO owna h8a h9a s8a s9a S8a S9a cAa cBa fAa fBa
        obtain ⟨pan, pcn, pad, pcd, pay, pcy⟩ := p9a
        simp only at *
        go_wp2_with fail
        refine (HFB.out _).mono ?_
        rintro e w10 ⟨rfl, hb10⟩
        obtain ⟨o0, o1, o2⟩ := (HPU.out.bk.next hb10).three
        simp only at o0 o1 o2
        go_wp2_with fail
        clear o0 o1 o2
        have HR1 := read_any ⟨pan, pcn, pad, pcd, pay, pcy⟩ g n _ (HPU.out.fs.next hb10)
        rw [HL1.out] at HR1
        unfold fsV TextEPost at HR1
        simp only at HR1
        refine HR1.mono ?_
        clear HR1
        rintro e w11 ⟨rfl, hb11⟩
        have b11 := below_then hb10 hb11
        have B11 := below_then HPU.out.bel b11
        have d0 := q0 w11 B11
        have d1 := q1 w11 B11
        have d2 := q2 w11 B11
        go_wp2_with fail
        clear d0 d1 d2
        refine (HRD.out w11 B11).mono ?_
        rintro e w12 ⟨rfl, hb12⟩
        have b12 := below_then b11 hb12
        obtain ⟨o0, o1, o2⟩ := (HPU.out.bk.next b12).three
        simp only at o0 o1 o2
        go_wp2_with fail
        clear o0 o1 o2
        have HR3 := read_any ⟨pan, pcn, pad, pcd, pay, pcy⟩ g m _ (HPU.out.fs.next b12)
        rw [HL5.out] at HR3
        unfold fsV TextEPost at HR3
        simp only at HR3
        refine HR3.mono ?_
        clear HR3
        rintro e w13 ⟨rfl, hb13⟩
        have b13 := below_then b12 hb13
        have HB13 := Lib.hid (below_then HPU.out.bel b13)
        have HBK13 := Lib.hid (HPU.out.bk.next b13)
        have HD5 := Lib.hid (HD4.out g ⟨pan, pcn, pad, pcd, pay, pcy⟩ w13 (HPU.out.fs.next b13))
        rw [HEB.out] at HD5
        try unfold fsV at HD5
        simp only at HD5
        have hself13 : Below w13.heap.size w13 w13 := Below.refl _ _
        have p0 : ∀ W, Below w13.heap.size w13 W → W.cell? ⟨O, 0, none⟩ = some (.slice pan g.nodes.length pcn) := fun W hb => (HBK13.out.next hb).three.1
        have p1 : ∀ W, Below w13.heap.size w13 W → W.cell? ⟨O, 1, none⟩ = some (.slice pad g.dir.length pcd) := fun W hb => (HBK13.out.next hb).three.2.1
        have p2 : ∀ W, Below w13.heap.size w13 W → W.cell? ⟨O, 2, none⟩ = some (.slice pay g.syn.length pcy) := fun W hb => (HBK13.out.next hb).three.2.2
        clear q0 q1 q2 hb10 hb11 hb12 hb13 b11 b12 b13 B11 HPU HRD HD HOP HBK13 hself HFB
        go_wp2_with fail
        go_region_held3 (fun W => Below w13.heap.size w13 W)
          (first
            | assumption
            | exact (show Below w13.heap.size w13 _ by assumption).drew
            | exact (show Below w13.heap.size w13 _ by assumption).alloc (show Below w13.heap.size w13 _ by assumption).size _
            | exact below_then (by assumption) h9b
            | exact below_then (by assumption) h8b
            | exact (((show Below w13.heap.size w13 _ by assumption).setCell (p := ⟨_, 0, none⟩) (by first | assumption | exact Nat.le_refl _) _).setCell (p := ⟨_, 1, none⟩) (by first | assumption | exact Nat.le_refl _) _).setCell (p := ⟨_, 2, none⟩) (by first | assumption | exact Nat.le_refl _) _
            | exact Below.trans (by assumption) (h9b.mono (show Below w13.heap.size w13 _ by assumption).size)
            | exact Below.trans (by assumption) h9b
            | exact Below.trans (by assumption) (h8b.mono (show Below w13.heap.size w13 _ by assumption).size)
            | exact Below.trans (by assumption) h8b)
          (first
            | (go_at_call 20; (with_reducible refine (HOP4.out _).mono ?_); rintro e w8b ⟨rfl, h8b⟩; have s8b := Nat.le_trans (show Below w13.heap.size w13 _ by assumption).size h8b.size; have S8b := Below.trans (show Below w13.heap.size w13 _ by assumption) (h8b.mono (show Below w13.heap.size w13 _ by assumption).size); obtain ⟨cAb, fAb⟩ := bcell h8b; (try simp at cAb); (try simp at fAb); have z8b := h8b.size; (try simp at z8b); (try have z9b := Nat.lt_of_succ_le z8b))
            | (go_at_call 9; (with_reducible refine (HD5.out _ (by assumption)).mono ?_); rintro e w9b ⟨nv, dv, sv, rfl, ownb, h9b⟩; obtain ⟨p9b, e1, e2, e3, -⟩ := ownb.fss; subst e1; subst e2; subst e3; have s9b := Nat.le_trans (show Below w13.heap.size w13 _ by assumption).size h9b.size; have S9b := Below.trans (show Below w13.heap.size w13 _ by assumption) (h9b.mono (show Below w13.heap.size w13 _ by assumption).size); obtain ⟨cBb, fBb⟩ := bcell h9b; (try simp at cBb); (try simp at fBb)))
        · have HPV := Lib.hid (put_last ownb (show Below w13.heap.size w13 w9b by assumption))
          revert HPV
          generalize (w9b.alloc (.cells #[.slice p9b.an b.nodes.length p9b.cn, .slice p9b.ad b.dir.length p9b.cd, .slice p9b.ay b.syn.length p9b.cy] 25)) = WG
          intro HPV
          obtain ⟨O2, hOO2⟩ : ∃ O, O = w9b.heap.size := ⟨_, rfl⟩
          have HPV := Lib.hid (show Put w13 WG O2 b p9b by rw [hOO2]; exact HPV.out)
          rw [← hOO2]
          clear hOO2 ownb h8b h9b s8b s9b S8b S9b cAb cBb fAb fBb
          obtain ⟨ban, bcn, bad, bcd, bay, bcy⟩ := p9b
          simp only at *
          clear p0 p1 p2
          have HBW := Lib.hid (hal.trans ((HB13.out.trans (HPV.out.bel.mono HB13.out.size)).mono hs0))
          obtain ⟨o0, o1, o2⟩ := HPV.out.bk.three
          simp only at o0 o1 o2
          go_wp2_with fail
          clear o0 o1 o2
          have HR4 := read_any ⟨ban, bcn, bad, bcd, bay, bcy⟩ b n _ (HPV.out.fs)
          rw [HL3.out] at HR4
          unfold fsV TextEPost at HR4
          simp only at HR4
          refine HR4.mono ?_
          clear HR4
          rintro e w21 ⟨rfl, hb21⟩
          obtain ⟨o0, o1, o2⟩ := (HPV.out.bk.next hb21).three
          simp only at o0 o1 o2
          go_wp2_with fail
          clear o0 o1 o2
          have HR5 := read_any ⟨ban, bcn, bad, bcd, bay, bcy⟩ b m _ (HPV.out.fs.next hb21)
          rw [HL6.out] at HR5
          unfold fsV TextEPost at HR5
          simp only at HR5
          refine HR5.mono ?_
          clear HR5
          rintro e w22 ⟨rfl, hb22⟩
          have hend := HBW.out.trans ((below_then hb21 hb22).mono HBW.out.size)
          clear hb21 hb22 HPV HBW
          go_wp2_with fail
          go_ret
          exact ⟨by first | rfl | simp, hend⟩
        · have HPV := Lib.hid (put_mid ownb (show Below w13.heap.size w13 w9b by assumption) (show Below w13.heap.size w13 w8b by assumption).size ((bk_new w8b 25 #[.slice none 0 0, .slice none 0 0, .slice none 0 0]).next h9b))
          revert HPV
          generalize (((w9b.setCell ⟨w8b.heap.size, 0, none⟩ (.slice p9b.an b.nodes.length p9b.cn)).setCell ⟨w8b.heap.size, 1, none⟩ (.slice p9b.ad b.dir.length p9b.cd)).setCell ⟨w8b.heap.size, 2, none⟩ (.slice p9b.ay b.syn.length p9b.cy)) = WG
          intro HPV
          obtain ⟨O2, hOO2⟩ : ∃ O, O = w8b.heap.size := ⟨_, rfl⟩
          have HPV := Lib.hid (show Put w13 WG O2 b p9b by rw [hOO2]; exact HPV.out)
          rw [← hOO2]
          clear hOO2 ownb h8b h9b s8b s9b S8b S9b cAb cBb fAb fBb
          obtain ⟨ban, bcn, bad, bcd, bay, bcy⟩ := p9b
          simp only at *
          clear p0 p1 p2
          have HBW := Lib.hid (hal.trans ((HB13.out.trans (HPV.out.bel.mono HB13.out.size)).mono hs0))
          obtain ⟨o0, o1, o2⟩ := HPV.out.bk.three
          simp only at o0 o1 o2
          go_wp2_with fail
          clear o0 o1 o2
          have HR4 := read_any ⟨ban, bcn, bad, bcd, bay, bcy⟩ b n _ (HPV.out.fs)
          rw [HL3.out] at HR4
          unfold fsV TextEPost at HR4
          simp only at HR4
          refine HR4.mono ?_
          clear HR4
          rintro e w21 ⟨rfl, hb21⟩
          obtain ⟨o0, o1, o2⟩ := (HPV.out.bk.next hb21).three
          simp only at o0 o1 o2
          go_wp2_with fail
          clear o0 o1 o2
          have HR5 := read_any ⟨ban, bcn, bad, bcd, bay, bcy⟩ b m _ (HPV.out.fs.next hb21)
          rw [HL6.out] at HR5
          unfold fsV TextEPost at HR5
          simp only at HR5
          refine HR5.mono ?_
          clear HR5
          rintro e w22 ⟨rfl, hb22⟩
          have hend := HBW.out.trans ((below_then hb21 hb22).mono HBW.out.size)
          clear hb21 hb22 HPV HBW
          go_wp2_with fail
          go_ret
          exact ⟨by first | rfl | simp, hend⟩
        · have HPV := Lib.hid (put_mid ownb (show Below w13.heap.size w13 w9b by assumption) (Nat.le_refl _) (((bk_drew (bk_new w13 25 #[.slice none 0 0, .slice none 0 0, .slice none 0 0])).next h8b).next h9b))
          revert HPV
          generalize (((w9b.setCell ⟨w13.heap.size, 0, none⟩ (.slice p9b.an b.nodes.length p9b.cn)).setCell ⟨w13.heap.size, 1, none⟩ (.slice p9b.ad b.dir.length p9b.cd)).setCell ⟨w13.heap.size, 2, none⟩ (.slice p9b.ay b.syn.length p9b.cy)) = WG
          intro HPV
          obtain ⟨O2, hOO2⟩ : ∃ O, O = w13.heap.size := ⟨_, rfl⟩
          have HPV := Lib.hid (show Put w13 WG O2 b p9b by rw [hOO2]; exact HPV.out)
          rw [← hOO2]
          clear hOO2 ownb h8b h9b s8b s9b S8b S9b cAb cBb fAb fBb
          obtain ⟨ban, bcn, bad, bcd, bay, bcy⟩ := p9b
          simp only at *
          clear p0 p1 p2
          have HBW := Lib.hid (hal.trans ((HB13.out.trans (HPV.out.bel.mono HB13.out.size)).mono hs0))
          obtain ⟨o0, o1, o2⟩ := HPV.out.bk.three
          simp only at o0 o1 o2
          go_wp2_with fail
          clear o0 o1 o2
          have HR4 := read_any ⟨ban, bcn, bad, bcd, bay, bcy⟩ b n _ (HPV.out.fs)
          rw [HL3.out] at HR4
          unfold fsV TextEPost at HR4
          simp only at HR4
          refine HR4.mono ?_
          clear HR4
          rintro e w21 ⟨rfl, hb21⟩
          obtain ⟨o0, o1, o2⟩ := (HPV.out.bk.next hb21).three
          simp only at o0 o1 o2
          go_wp2_with fail
          clear o0 o1 o2
          have HR5 := read_any ⟨ban, bcn, bad, bcd, bay, bcy⟩ b m _ (HPV.out.fs.next hb21)
          rw [HL6.out] at HR5
          unfold fsV TextEPost at HR5
          simp only at HR5
          refine HR5.mono ?_
          clear HR5
          rintro e w22 ⟨rfl, hb22⟩
          have hend := HBW.out.trans ((below_then hb21 hb22).mono HBW.out.size)
          clear hb21 hb22 HPV HBW
          go_wp2_with fail
          go_ret
          exact ⟨by first | rfl | simp, hend⟩
end Go.Proofs.Ytidfhphfohnamaa.Fs
