/- The walk of FsTells. -/
import Derived.Test.YtmjcdjekakaigaaFsB
import Derived.Test.YtmjcdjekakaigaaFsR9
import Derived.Test.YtmjcdjekakaigaaFsR13
import Derived.Test.YtmjcdjekakaigaaWB
namespace Go.Proofs.Ytmjcdjekakaigaa.Fs
open Go.RowKit
set_option linter.unusedVariables false

set_option maxHeartbeats 8000000 in
set_option maxRecDepth 100000 in
theorem fsTells_walk (w : World) (p : At) (f : T) (hf : Fss w w.heap.size p f) (nm : ByteArray) (hnm : nm.size ≤ maxLen) (o : Op) (ho : opOk o) (mk : Nat) (hmk : mk < 18446744073709551616) :
    Calls Try.prog 3 #[fsV p f, .string nm, opV o, .int .u64 (mk : Nat)] w (BoolPost true w) := by
  obtain ⟨n, rfl⟩ : ∃ n, nm = str n := ⟨nm.data.toList, by simp [str]⟩
  rw [str_size] at hnm
  have hal0 := (Below.refl w.heap.size w).alloc (Nat.le_refl _) (.cells #[.slice p.an f.nodes.length p.cn, .slice p.ad f.dir.length p.cd, .slice p.ay f.syn.length p.cy] 25)
  have hT0 := bk_new w 25 #[.slice p.an f.nodes.length p.cn, .slice p.ad f.dir.length p.cd, .slice p.ay f.syn.length p.cy]
  have hF0 := hf.next hal0
  have e1 : (w.alloc (.cells #[.slice p.an f.nodes.length p.cn, .slice p.ad f.dir.length p.cd, .slice p.ay f.syn.length p.cy] 25)).heap.size = w.heap.size + 1 := by simp
  generalize hWa : w.alloc (.cells #[.slice p.an f.nodes.length p.cn, .slice p.ad f.dir.length p.cd, .slice p.ay f.syn.length p.cy] 25) = Wa at *
  have hal1 := (Below.refl Wa.heap.size Wa).alloc (Nat.le_refl _) (.cells #[.int .i64 o.kind, .string (str o.name), .string (str o.to), .string (str o.text)] 27)
  have hO1 := bk_new Wa 27 #[.int .i64 o.kind, .string (str o.name), .string (str o.to), .string (str o.text)]
  have hT1 := hT0.next hal1
  have hF1 := hF0.next hal1
  generalize hWb : Wa.alloc (.cells #[.int .i64 o.kind, .string (str o.name), .string (str o.to), .string (str o.text)] 27) = W0 at *
  rw [e1] at hO1
  have hal : Below w.heap.size w W0 := hal0.trans (hal1.mono (by omega))
  have HW := Lib.hid (show (w.alloc (.cells #[.slice p.an f.nodes.length p.cn, .slice p.ad f.dir.length p.cd, .slice p.ay f.syn.length p.cy] 25)).alloc (.cells #[.int .i64 o.kind, .string (str o.name), .string (str o.to), .string (str o.text)] 27) = W0 by rw [hWa, hWb])
  obtain ⟨OB, hOB⟩ : ∃ OB, OB = w.heap.size + 1 := ⟨_, rfl⟩
  obtain ⟨TB, hTB⟩ : ∃ TB, TB = w.heap.size := ⟨_, rfl⟩
  rw [← hOB] at hO1
  rw [← hTB] at hT1
  have HN2 := Lib.hid (show w.heap.size + 1 = OB by omega)
  have HN3 := Lib.hid (show w.heap.size = TB by omega)
  have HT := Lib.hid hT1
  have HO := Lib.hid hO1
  have HF := Lib.hid hF1
  have HAL := Lib.hid hal
  have C1 := Lib.hid (fun W (hb : Below W0.heap.size W0 W) => read_any p f n W (HF.out.next hb))
  have C2 := Lib.hid (fun W (hb : Below W0.heap.size W0 W) => done_any p f o W (HF.out.next hb) ho)
  have C3 := Lib.hid (fun W (hb : Below W0.heap.size W0 W) => crash_any p f mk W (HF.out.next hb) hmk)
  have C4 := Lib.hid (fun W (hb : Below W0.heap.size W0 W) => rRead_any p f n W (HF.out.next hb))
  have C5 := Lib.hid (fun W (hb : Below W0.heap.size W0 W) => rDone_any p f o W (HF.out.next hb) ho)
  have C6 := Lib.hid (fun W (hb : Below W0.heap.size W0 W) => rCrash_any p f mk W (HF.out.next hb) hmk)
  have C7 := Lib.hid (fun W (hb : Below W0.heap.size W0 W) => show Calls Try.prog 15 #[fsV p f] W (fun e w' => e = .returned (.int .i64 (check f : Nat)) ∧ Below W.heap.size W w') from check_any p f W (HF.out.next hb))
  have C8 := Lib.hid (fun W (hb : Below W0.heap.size W0 W) => show Calls Try.prog 16 #[fsV p f] W (fun e w' => e = .returned (.int .i64 (check f : Nat)) ∧ Below W.heap.size W w') from rCheck_any p f W (HF.out.next hb))
  have C9 := Lib.hid (fun W => show Calls Try.prog 14 #[] W (fun e w' => e = .returned (.bool true) ∧ Below W.heap.size W w') from fsBegun_any W)
  generalize read f n = rr at *
  generalize play f [o] = rd at *
  generalize crash f mk = rc at *
  generalize check f = ck at *
  obtain ⟨rs, re⟩ := rr
  obtain ⟨gd, ed⟩ := rd
  obtain ⟨gc, ec⟩ := rc
  obtain ⟨an, cn, ad, cd, ay, cy⟩ := p
  unfold fsV opV TextEPost at *
  simp only at *
  clear hWa hWb hal0 hal1 hT0 hT1 hF0 hF1 hO1 e1 hf ho hal hOB hTB
  go_enter Try.func3, Try.ntmps3
  go_wp2_with fail
  rw [HW.out, HN2.out, HN3.out]
  have HB0 := Lib.hid (Below.refl W0.heap.size W0)
  obtain ⟨d0, d1, d2⟩ := (HT.out.next HB0.out).three
  go_wp2_with fail
  refine (C1.out _ HB0.out).mono ?_
  rintro e w1 ⟨rfl, hb1⟩
  have HB1 := Lib.hid (HB0.out.trans (hb1.mono HB0.out.size))
  clear d0 d1 d2 hb1 C1
  obtain ⟨d0, d1, d2⟩ := (HT.out.next HB1.out).three
  obtain ⟨o0, o1, o2, o3⟩ := (HO.out.next HB1.out).four
  go_wp2_with fail
  refine (C2.out _ HB1.out).mono ?_
  rintro e w2 ⟨nv, dv, sv, rfl, own, hb2⟩
  obtain ⟨p2, e1, e2, e3, hfs2⟩ := own.fss
  subst e1; subst e2; subst e3
  clear own
  obtain ⟨an2, cn2, ad2, cd2, ay2, cy2⟩ := p2
  simp only at hfs2
  clear d0 d1 d2 o0 o1 o2 o3 C2
  go_upto_region 3 with fail
  have hal2 := (Below.refl w2.heap.size w2).alloc (Nat.le_refl _) (.cells #[.slice an2 gd.nodes.length cn2, .slice ad2 gd.dir.length cd2, .slice ay2 gd.syn.length cy2] 25)
  have HK2 := Lib.hid (bk_new w2 25 #[.slice an2 gd.nodes.length cn2, .slice ad2 gd.dir.length cd2, .slice ay2 gd.syn.length cy2])
  have HG2 := Lib.hid (hfs2.next hal2)
  have hbx2 := below_then hb2 hal2
  have HB2 := Lib.hid (HB1.out.trans (hbx2.mono HB1.out.size))
  generalize w2.alloc (.cells #[.slice an2 gd.nodes.length cn2, .slice ad2 gd.dir.length cd2, .slice ay2 gd.syn.length cy2] 25) = W2 at *
  generalize w2.heap.size = O2 at *
  clear hb2 hal2 hfs2 hbx2
  obtain ⟨d0, d1, d2⟩ := (HT.out.next HB2.out).three
  go_wp2_with fail
  refine (C3.out _ HB2.out).mono ?_
  rintro e w3 ⟨nv, dv, sv, rfl, own, hb3⟩
  obtain ⟨p3, e1, e2, e3, hfs3⟩ := own.fss
  subst e1; subst e2; subst e3
  clear own
  obtain ⟨an3, cn3, ad3, cd3, ay3, cy3⟩ := p3
  simp only at hfs3
  clear d0 d1 d2 C3
  go_upto_region 4 with fail
  have hal3 := (Below.refl w3.heap.size w3).alloc (Nat.le_refl _) (.cells #[.slice an3 gc.nodes.length cn3, .slice ad3 gc.dir.length cd3, .slice ay3 gc.syn.length cy3] 25)
  have HK3 := Lib.hid (bk_new w3 25 #[.slice an3 gc.nodes.length cn3, .slice ad3 gc.dir.length cd3, .slice ay3 gc.syn.length cy3])
  have HG3 := Lib.hid (hfs3.next hal3)
  have hbx3 := below_then hb3 hal3
  have HB3 := Lib.hid (HB2.out.trans (hbx3.mono HB2.out.size))
  generalize w3.alloc (.cells #[.slice an3 gc.nodes.length cn3, .slice ad3 gc.dir.length cd3, .slice ay3 gc.syn.length cy3] 25) = W3 at *
  generalize w3.heap.size = O3 at *
  have HK2 := Lib.hid (HK2.out.next hbx3)
  have HG2 := Lib.hid (HG2.out.next hbx3)
  clear hb3 hal3 hfs3 hbx3
  obtain ⟨d0, d1, d2⟩ := (HT.out.next HB3.out).three
  go_wp2_with fail
  refine (C4.out _ HB3.out).mono ?_
  rintro e w4 ⟨rfl, hb4⟩
  have HB4 := Lib.hid (HB3.out.trans (hb4.mono HB3.out.size))
  have HK2 := Lib.hid (HK2.out.next hb4)
  have HG2 := Lib.hid (HG2.out.next hb4)
  have HK3 := Lib.hid (HK3.out.next hb4)
  have HG3 := Lib.hid (HG3.out.next hb4)
  clear d0 d1 d2 hb4 C4
  obtain ⟨d0, d1, d2⟩ := (HT.out.next HB4.out).three
  obtain ⟨o0, o1, o2, o3⟩ := (HO.out.next HB4.out).four
  go_wp2_with fail
  refine (C5.out _ HB4.out).mono ?_
  rintro e w5 ⟨p5, rfl, hfs5, hb5⟩
  obtain ⟨an5, cn5, ad5, cd5, ay5, cy5⟩ := p5
  simp only at hfs5
  clear d0 d1 d2 o0 o1 o2 o3 C5
  go_upto_region 6 with fail
  have hal5 := (Below.refl w5.heap.size w5).alloc (Nat.le_refl _) (.cells #[.slice an5 gd.nodes.length cn5, .slice ad5 gd.dir.length cd5, .slice ay5 gd.syn.length cy5] 25)
  have HK5 := Lib.hid (bk_new w5 25 #[.slice an5 gd.nodes.length cn5, .slice ad5 gd.dir.length cd5, .slice ay5 gd.syn.length cy5])
  have HG5 := Lib.hid (hfs5.next hal5)
  have hbx5 := below_then hb5 hal5
  have HB5 := Lib.hid (HB4.out.trans (hbx5.mono HB4.out.size))
  generalize w5.alloc (.cells #[.slice an5 gd.nodes.length cn5, .slice ad5 gd.dir.length cd5, .slice ay5 gd.syn.length cy5] 25) = W5 at *
  generalize w5.heap.size = O5 at *
  have HK2 := Lib.hid (HK2.out.next hbx5)
  have HG2 := Lib.hid (HG2.out.next hbx5)
  have HK3 := Lib.hid (HK3.out.next hbx5)
  have HG3 := Lib.hid (HG3.out.next hbx5)
  clear hb5 hal5 hfs5 hbx5
  obtain ⟨d0, d1, d2⟩ := (HT.out.next HB5.out).three
  go_wp2_with fail
  refine (C6.out _ HB5.out).mono ?_
  rintro e w6 ⟨p6, rfl, hfs6, hb6⟩
  obtain ⟨an6, cn6, ad6, cd6, ay6, cy6⟩ := p6
  simp only at hfs6
  clear d0 d1 d2 C6
  go_upto_region 7 with fail
  have hal6 := (Below.refl w6.heap.size w6).alloc (Nat.le_refl _) (.cells #[.slice an6 gc.nodes.length cn6, .slice ad6 gc.dir.length cd6, .slice ay6 gc.syn.length cy6] 25)
  have HK6 := Lib.hid (bk_new w6 25 #[.slice an6 gc.nodes.length cn6, .slice ad6 gc.dir.length cd6, .slice ay6 gc.syn.length cy6])
  have HG6 := Lib.hid (hfs6.next hal6)
  have hbx6 := below_then hb6 hal6
  have HB6 := Lib.hid (HB5.out.trans (hbx6.mono HB5.out.size))
  generalize w6.alloc (.cells #[.slice an6 gc.nodes.length cn6, .slice ad6 gc.dir.length cd6, .slice ay6 gc.syn.length cy6] 25) = W6 at *
  generalize w6.heap.size = O6 at *
  have HK2 := Lib.hid (HK2.out.next hbx6)
  have HG2 := Lib.hid (HG2.out.next hbx6)
  have HK3 := Lib.hid (HK3.out.next hbx6)
  have HG3 := Lib.hid (HG3.out.next hbx6)
  have HK5 := Lib.hid (HK5.out.next hbx6)
  have HG5 := Lib.hid (HG5.out.next hbx6)
  clear hb6 hal6 hfs6 hbx6
  have c0 : ∀ q : WB W6, q.w.cell? ⟨TB, 0, none⟩ = some (.slice an f.nodes.length cn) := fun q => (((HT.out.next HB6.out).next q.below).three).1
  have c1 : ∀ q : WB W6, q.w.cell? ⟨TB, 1, none⟩ = some (.slice ad f.dir.length cd) := fun q => (((HT.out.next HB6.out).next q.below).three).2.1
  have c2 : ∀ q : WB W6, q.w.cell? ⟨TB, 2, none⟩ = some (.slice ay f.syn.length cy) := fun q => (((HT.out.next HB6.out).next q.below).three).2.2
  have x20 : ∀ q : WB W6, q.w.cell? ⟨O2, 0, none⟩ = some (.slice an2 gd.nodes.length cn2) := fun q => ((HK2.out.next q.below).three).1
  have x21 : ∀ q : WB W6, q.w.cell? ⟨O2, 1, none⟩ = some (.slice ad2 gd.dir.length cd2) := fun q => ((HK2.out.next q.below).three).2.1
  have x22 : ∀ q : WB W6, q.w.cell? ⟨O2, 2, none⟩ = some (.slice ay2 gd.syn.length cy2) := fun q => ((HK2.out.next q.below).three).2.2
  have x30 : ∀ q : WB W6, q.w.cell? ⟨O3, 0, none⟩ = some (.slice an3 gc.nodes.length cn3) := fun q => ((HK3.out.next q.below).three).1
  have x31 : ∀ q : WB W6, q.w.cell? ⟨O3, 1, none⟩ = some (.slice ad3 gc.dir.length cd3) := fun q => ((HK3.out.next q.below).three).2.1
  have x32 : ∀ q : WB W6, q.w.cell? ⟨O3, 2, none⟩ = some (.slice ay3 gc.syn.length cy3) := fun q => ((HK3.out.next q.below).three).2.2
  have x50 : ∀ q : WB W6, q.w.cell? ⟨O5, 0, none⟩ = some (.slice an5 gd.nodes.length cn5) := fun q => ((HK5.out.next q.below).three).1
  have x51 : ∀ q : WB W6, q.w.cell? ⟨O5, 1, none⟩ = some (.slice ad5 gd.dir.length cd5) := fun q => ((HK5.out.next q.below).three).2.1
  have x52 : ∀ q : WB W6, q.w.cell? ⟨O5, 2, none⟩ = some (.slice ay5 gd.syn.length cy5) := fun q => ((HK5.out.next q.below).three).2.2
  have x60 : ∀ q : WB W6, q.w.cell? ⟨O6, 0, none⟩ = some (.slice an6 gc.nodes.length cn6) := fun q => ((HK6.out.next q.below).three).1
  have x61 : ∀ q : WB W6, q.w.cell? ⟨O6, 1, none⟩ = some (.slice ad6 gc.dir.length cd6) := fun q => ((HK6.out.next q.below).three).2.1
  have x62 : ∀ q : WB W6, q.w.cell? ⟨O6, 2, none⟩ = some (.slice ay6 gc.syn.length cy6) := fun q => ((HK6.out.next q.below).three).2.2
  have S1 := Lib.hid (fun q : WB W6 => show Calls Try.prog 17 #[.agg #[.slice an2 gd.nodes.length cn2, .slice ad2 gd.dir.length cd2, .slice ay2 gd.syn.length cy2], .agg #[.slice an5 gd.nodes.length cn5, .slice ad5 gd.dir.length cd5, .slice ay5 gd.syn.length cy5]] q.w (fun e w' => e = .returned (.bool true) ∧ Below q.w.heap.size q.w w') from by
    have h := rSame_any ⟨an2, cn2, ad2, cd2, ay2, cy2⟩ ⟨an5, cn5, ad5, cd5, ay5, cy5⟩ gd gd q.w (HG2.out.next q.below) (HG5.out.next q.below)
    rw [decide_eq_true rfl] at h
    exact h)
  have S2 := Lib.hid (fun q : WB W6 => show Calls Try.prog 17 #[.agg #[.slice an3 gc.nodes.length cn3, .slice ad3 gc.dir.length cd3, .slice ay3 gc.syn.length cy3], .agg #[.slice an6 gc.nodes.length cn6, .slice ad6 gc.dir.length cd6, .slice ay6 gc.syn.length cy6]] q.w (fun e w' => e = .returned (.bool true) ∧ Below q.w.heap.size q.w w') from by
    have h := rSame_any ⟨an3, cn3, ad3, cd3, ay3, cy3⟩ ⟨an6, cn6, ad6, cd6, ay6, cy6⟩ gc gc q.w (HG3.out.next q.below) (HG6.out.next q.below)
    rw [decide_eq_true rfl] at h
    exact h)
  have C7 := Lib.hid (fun q : WB W6 => C7.out q.w (HB6.out.trans (q.below.mono HB6.out.size)))
  have C8 := Lib.hid (fun q : WB W6 => C8.out q.w (HB6.out.trans (q.below.mono HB6.out.size)))
  have hq : ((str rs).toList == (str rs).toList) = true := by rw [tl_eq]; exact decide_eq_true rfl
  have hend := HAL.out.trans (HB6.out.mono HAL.out.size)
  clear HK2 HK3 HK5 HK6 HG2 HG3 HG5 HG6 HB0 HB1 HB2 HB3 HB4 HB5 HT HO HF HW HN2 HN3 HAL
  generalize str rs = X at *
  generalize gd.nodes.length = nd1 at *
  generalize gd.dir.length = nd2 at *
  generalize gd.syn.length = nd3 at *
  generalize gc.nodes.length = nc1 at *
  generalize gc.dir.length = nc2 at *
  generalize gc.syn.length = nc3 at *
  refine wp_region_wb (by kernel_rfl) (by kernel_rfl) ?_
  repeat (quiet_step (first
    | (go_at_call 14; refine calls_wb (v := .bool true) ?_; with_reducible exact C9.out _)
    | (go_at_call 15; refine calls_wb (v := .int .i64 (ck : Nat)) ?_; with_reducible exact C7.out _)
    | (go_at_call 16; refine calls_wb (v := .int .i64 (ck : Nat)) ?_; with_reducible exact C8.out _)
    | (go_at_call 17; refine calls_wb (v := .bool true) ?_; (first | (with_reducible exact S1.out _) | (with_reducible exact S2.out _)))))
  refine wpQuiet_nil ?_
  rintro _ ⟨q, rfl⟩
  go_wp2_with fail
  go_ret
  exact ⟨by first | rfl | simp, hend.trans (q.below.mono (by have := HB6.out.size; have := hend.size; omega))⟩
end Go.Proofs.Ytmjcdjekakaigaa.Fs
