/- The walk of the laws' op and fsBegun. -/
import Derived.Test.YtmjcdjekakaigaaFsPy
import Derived.Test.YtmjcdjekakaigaaFsD1
namespace Go.Proofs.Ytmjcdjekakaigaa.Fs
open Go.RowKit
set_option linter.unusedVariables false

set_option maxHeartbeats 1000000 in
theorem op_any (o : Op) (w : World) : Calls Try.prog 20 #[.int .i64 o.kind, .string (str o.name), .string (str o.to), .string (str o.text)] w fun e w' => e = .returned (opV o) ∧ Below w.heap.size w w' := by
  unfold opV
  generalize str o.name = X at *
  generalize str o.to = Y at *
  generalize str o.text = Z at *
  generalize o.kind = k at *
  go_enter Try.func20, Try.ntmps20
  go_wp2_with fail
  refine bodyPost_ret (v := .agg #[.int .i64 k, .string X, .string Y, .string Z]) (by simp [results, Try.results20, go_sem]) rfl ?_
  exact ⟨rfl, (Below.refl w.heap.size w).alloc (Nat.le_refl _) _⟩

def bO1 : Op := ⟨1, [97], [], [111, 110, 101]⟩
def bO2 : Op := ⟨2, [97], [], []⟩
def bO3 : Op := ⟨5, [], [], []⟩
def bO4 : Op := ⟨1, [98], [], [116, 119, 111]⟩
def bO5 : Op := ⟨3, [98], [97], []⟩
def bOs : List Op := [bO1, bO2, bO3, bO4, bO5]
def bF : T := (play nul bOs).1
def bC : T := (crash bF 0).1
def bD : T := (crash bF 9223372036854775810).1
theorem b_play : play nul bOs = (bF, 0) := by decide +kernel
theorem b_len : bF.nodes.length = 2 := by decide +kernel
theorem b_read : read bF [97] = ([116, 119, 111], 0) := by decide +kernel
theorem b_c : crash bF 0 = (bC, 0) := by decide +kernel
theorem b_cread : read bC [97] = ([111, 110, 101], 0) := by decide +kernel
theorem b_clen : bC.nodes.length = 1 := by decide +kernel
theorem b_d : crash bF 9223372036854775810 = (bD, 0) := by decide +kernel
theorem b_dread : read bD [97] = ([116, 119, 111], 0) := by decide +kernel
theorem b_dnone : read bD [98] = ([], 5) := by decide +kernel
theorem b_bad : check ⟨[nulN], [], []⟩ = 4 := by decide +kernel
def opx (o : Op) : List Value := [.int .i64 o.kind, .string (str o.name), .string (str o.to), .string (str o.text)]
theorem ops_new (w : World) : Ops (w.alloc (.cells (bOs.flatMap opx).toArray 27)) (w.alloc (.cells (bOs.flatMap opx).toArray 27)).heap.size (some ⟨w.heap.size, 0, none⟩) bOs := fun _ => by
  have hb := bk_new w 27 (bOs.flatMap opx).toArray
  refine ⟨w.heap.size, 0, rfl, hb.lt, fun i hi => ?_⟩
  have h : i = 0 ∨ i = 1 ∨ i = 2 ∨ i = 3 ∨ i = 4 := by have : bOs.length = 5 := rfl; omega
  rcases h with rfl | rfl | rfl | rfl | rfl <;> exact ⟨hb.at _, hb.at _, hb.at _, hb.at _⟩
theorem bos_ok : ∀ x ∈ bOs, opOk x := by
  intro x hx
  simp only [bOs, List.mem_cons, List.not_mem_nil, or_false] at hx
  rcases hx with rfl | rfl | rfl | rfl | rfl <;> (unfold opOk maxLen; decide)
theorem b_put (w : World) (a b c : Value) (z : Array Value) (hz : z.size = 3) : Below w.heap.size w ((((w.alloc (.cells z 25)).setCell ⟨w.heap.size, 0, none⟩ a).setCell ⟨w.heap.size, 1, none⟩ b).setCell ⟨w.heap.size, 2, none⟩ c) ∧
    Bk ((((w.alloc (.cells z 25)).setCell ⟨w.heap.size, 0, none⟩ a).setCell ⟨w.heap.size, 1, none⟩ b).setCell ⟨w.heap.size, 2, none⟩ c) w.heap.size 25 #[a, b, c] := by
  refine ⟨((((Below.refl w.heap.size w).alloc (Nat.le_refl _) _).setCell (p := ⟨w.heap.size, 0, none⟩) (Nat.le_refl _) _).setCell (p := ⟨w.heap.size, 1, none⟩) (Nat.le_refl _) _).setCell (p := ⟨w.heap.size, 2, none⟩) (Nat.le_refl _) _, ?_⟩
  have := (((bk_new w 25 z).set 0 a).set 1 b).set 2 c
  have e : ((z.setIfInBounds 0 a).setIfInBounds 1 b).setIfInBounds 2 c = #[a, b, c] := by
    obtain ⟨l⟩ := z
    match l, hz with
    | [x, y, u], _ => simp
  rw [e] at this
  exact this
set_option maxHeartbeats 4000000 in
set_option maxRecDepth 100000 in
theorem fsBegun_any (w : World) : Calls Try.prog 14 #[] w (BoolPost true w) := by
  have HO1 := Lib.hid (fun W => op_any bO1 W)
  have HO2 := Lib.hid (fun W => op_any bO2 W)
  have HO3 := Lib.hid (fun W => op_any bO3 W)
  have HO4 := Lib.hid (fun W => op_any bO4 W)
  have HO5 := Lib.hid (fun W => op_any bO5 W)
  have HP := Lib.hid (fun (W : World) => play_any nulAt nul (some ⟨W.heap.size, 0, none⟩) 5 bOs (W.alloc (.cells (bOs.flatMap opx).toArray 27)) (Fss.nul _ _) (by decide) (ops_new W) bos_ok)
  have HBAD := Lib.hid (fun (W : World) => show Calls Try.prog 15 #[.agg #[.slice (some ⟨W.heap.size, 0, none⟩) 1 1, .slice none 0 0, .slice none 0 0]] (W.alloc (.cells #[.string ⟨#[]⟩, .string ⟨#[]⟩] 49)) (NumPost 4 (W.alloc (.cells #[.string ⟨#[]⟩, .string ⟨#[]⟩] 49))) from by
    have := check_any ⟨some ⟨W.heap.size, 0, none⟩, 1, none, 0, none, 0⟩ ⟨[nulN], [], []⟩ (W.alloc (.cells #[.string ⟨#[]⟩, .string ⟨#[]⟩] 49)) ⟨nds_one W nulN, Sl.nil _ _ _, Sl.nil _ _ _, ⟨by simp, by simp [maxLen], by simp⟩, ⟨by simp, by simp [maxLen], by simp⟩, ⟨by simp, by simp [maxLen], by simp⟩, by intro x hx; simp at hx; subst hx; unfold ndOk; simp [nulN, maxLen], by simp, by simp⟩
    rw [b_bad] at this
    exact this)
  go_enter Try.func14, Try.ntmps14
  go_wp2_with fail
  refine (HO1.out _).mono ?_
  rintro e w1 ⟨rfl, hb1⟩
  unfold opV
  go_wp2_with fail
  refine (HO2.out _).mono ?_
  rintro e w2 ⟨rfl, hb2⟩
  unfold opV
  go_wp2_with fail
  refine (HO3.out _).mono ?_
  rintro e w3 ⟨rfl, hb3⟩
  unfold opV
  go_wp2_with fail
  refine (HO4.out _).mono ?_
  rintro e w4 ⟨rfl, hb4⟩
  unfold opV
  go_wp2_with fail
  refine (HO5.out _).mono ?_
  rintro e w5 ⟨rfl, hb5⟩
  unfold opV
  go_wp2_with fail
  refine (HP.out w5).mono ?_
  rintro e w6 ⟨nv, dv, sv, rfl, hown, hb6⟩
  rw [b_play] at hown ⊢
  obtain ⟨p, rfl, rfl, rfl, hfs⟩ := hown.fss
  have hB6 : Below w.heap.size w w6 := by
    have h5 := below_then (below_then (below_then (below_then hb1 hb2) hb3) hb4) hb5
    exact below_then (below_then h5 ((Below.refl _ _).alloc (Nat.le_refl _) _)) hb6
  clear hb1 hb2 hb3 hb4 hb5 hb6 hown HO1 HO2 HO3 HO4 HO5 HP
  have HRD := Lib.hid (fun (W : World) (hb : Below w6.heap.size w6 W) => show Calls Try.prog 8 #[.agg #[.slice p.an 2 p.cn, .slice p.ad bF.dir.length p.cd, .slice p.ay bF.syn.length p.cy], .string ⟨#[97]⟩] W (fun e w' => e = .returned (.tuple #[.string ⟨#[116, 119, 111]⟩, .int .i64 0]) ∧ Below W.heap.size W w') from by
    have := read_any p bF [97] W (hfs.next hb)
    rw [b_read] at this
    unfold fsV at this
    rw [b_len] at this
    exact this)
  have HC0 := Lib.hid (fun (W : World) (hb : Below w6.heap.size w6 W) => show Calls Try.prog 10 #[.agg #[.slice p.an 2 p.cn, .slice p.ad bF.dir.length p.cd, .slice p.ay bF.syn.length p.cy], .int .u64 0] W (FsPost (bC, 0) W) from by
    have := crash_any p bF 0 W (hfs.next hb) (by decide)
    rw [b_c] at this
    unfold fsV at this
    rw [b_len] at this
    exact this)
  have HC1 := Lib.hid (fun (W : World) (hb : Below w6.heap.size w6 W) => show Calls Try.prog 10 #[.agg #[.slice p.an 2 p.cn, .slice p.ad bF.dir.length p.cd, .slice p.ay bF.syn.length p.cy], .int .u64 9223372036854775810] W (FsPost (bD, 0) W) from by
    have := crash_any p bF 9223372036854775810 W (hfs.next hb) (by decide)
    rw [b_d] at this
    unfold fsV at this
    rw [b_len] at this
    exact this)
  obtain ⟨pan, pcn, pad, pcd, pay, pcy⟩ := p
  simp only at *
  rw [b_len]
  generalize bF.dir.length = ld at *
  generalize bF.syn.length = ls at *
  have HB6 := Lib.hid hB6
  clear hfs hB6
  go_wp2_with fail
  have hal7 := (Below.refl w6.heap.size w6).alloc (Nat.le_refl _) (.cells #[.slice pan 2 pcn, .slice pad ld pcd, .slice pay ls pcy] 25)
  have HK7 := Lib.hid (bk_new w6 25 #[.slice pan 2 pcn, .slice pad ld pcd, .slice pay ls pcy])
  generalize w6.alloc (.cells #[.slice pan 2 pcn, .slice pad ld pcd, .slice pay ls pcy] 25) = W7 at *
  refine (HRD.out W7 hal7).mono ?_
  rintro e w8 ⟨rfl, hb8⟩
  obtain ⟨t0, t1, t2⟩ := (HK7.out.next hb8).three
  go_wp2_with fail
  refine (HC0.out w8 (below_then hal7 hb8)).mono ?_
  rintro e w9 ⟨nv, dv, sv, rfl, hown, hb9⟩
  obtain ⟨q, rfl, rfl, rfl, hgs⟩ := hown.fss
  have hB9 := below_then (below_then hal7 hb8) hb9
  have HK9 := Lib.hid (HK7.out.next (below_then hb8 hb9))
  have HRC := Lib.hid (fun (W : World) (hb : Below w9.heap.size w9 W) => show Calls Try.prog 8 #[.agg #[.slice q.an 1 q.cn, .slice q.ad bC.dir.length q.cd, .slice q.ay bC.syn.length q.cy], .string ⟨#[97]⟩] W (fun e w' => e = .returned (.tuple #[.string ⟨#[111, 110, 101]⟩, .int .i64 0]) ∧ Below W.heap.size W w') from by
    have := read_any q bC [97] W (hgs.next hb)
    rw [b_cread] at this
    unfold fsV at this
    rw [b_clen] at this
    exact this)
  obtain ⟨qan, qcn, qad, qcd, qay, qcy⟩ := q
  simp only at *
  rw [b_clen]
  generalize bC.dir.length = md at *
  generalize bC.syn.length = ms at *
  clear t0 t1 t2 hown hgs hb8 hb9 HK7 hal7
  have HB9 := Lib.hid hB9
  clear hB9
  go_wp2_with fail
  have hal10 := (Below.refl w9.heap.size w9).alloc (Nat.le_refl _) (.cells #[.slice qan 1 qcn, .slice qad md qcd, .slice qay ms qcy] 25)
  have HK10 := Lib.hid (bk_new w9 25 #[.slice qan 1 qcn, .slice qad md qcd, .slice qay ms qcy])
  have HJ10 := Lib.hid (HK9.out.next hal10)
  generalize w9.alloc (.cells #[.slice qan 1 qcn, .slice qad md qcd, .slice qay ms qcy] 25) = W10 at *
  refine (HRC.out W10 hal10).mono ?_
  rintro e w11 ⟨rfl, hb11⟩
  obtain ⟨t0, t1, t2⟩ := (HJ10.out.next hb11).three
  go_wp2_with fail
  have hB11 := below_then HB9.out (below_then hal10 hb11)
  refine (HC1.out w11 hB11).mono ?_
  rintro e w12 ⟨nv, dv, sv, rfl, hown, hb12⟩
  obtain ⟨q2, rfl, rfl, rfl, hgs⟩ := hown.fss
  have HB12 := Lib.hid (below_then hB11 hb12)
  have HK12 := Lib.hid (HK10.out.next (below_then hb11 hb12))
  have HJ12 := Lib.hid (HJ10.out.next (below_then hb11 hb12))
  have HRA := Lib.hid (fun (W : World) (hb : Below w12.heap.size w12 W) => show Calls Try.prog 8 #[.agg #[.slice q2.an bD.nodes.length q2.cn, .slice q2.ad bD.dir.length q2.cd, .slice q2.ay bD.syn.length q2.cy], .string ⟨#[97]⟩] W (fun e w' => e = .returned (.tuple #[.string ⟨#[116, 119, 111]⟩, .int .i64 0]) ∧ Below W.heap.size W w') from by
    have := read_any q2 bD [97] W (hgs.next hb)
    rw [b_dread] at this
    exact this)
  have HRB := Lib.hid (fun (W : World) (hb : Below w12.heap.size w12 W) => show Calls Try.prog 8 #[.agg #[.slice q2.an bD.nodes.length q2.cn, .slice q2.ad bD.dir.length q2.cd, .slice q2.ay bD.syn.length q2.cy], .string ⟨#[98]⟩] W (fun e w' => e = .returned (.tuple #[.string ⟨#[]⟩, .int .i64 5]) ∧ Below W.heap.size W w') from by
    have := read_any q2 bD [98] W (hgs.next hb)
    rw [b_dnone] at this
    exact this)
  obtain ⟨xan, xcn, xad, xcd, xay, xcy⟩ := q2
  simp only at *
  generalize bD.nodes.length = xn at *
  generalize bD.dir.length = xd at *
  generalize bD.syn.length = xs at *
  clear t0 t1 t2 hown hgs hb11 hb12 HJ10 HK10 hal10 hB11 HK9 HB9
  go_wp2_with fail
  have hal13 := (Below.refl w12.heap.size w12).alloc (Nat.le_refl _) (.cells #[.slice xan xn xcn, .slice xad xd xcd, .slice xay xs xcy] 25)
  have HL13 := Lib.hid (bk_new w12 25 #[.slice xan xn xcn, .slice xad xd xcd, .slice xay xs xcy])
  have HK13 := Lib.hid (HK12.out.next hal13)
  have HJ13 := Lib.hid (HJ12.out.next hal13)
  generalize w12.alloc (.cells #[.slice xan xn xcn, .slice xad xd xcd, .slice xay xs xcy] 25) = W13 at *
  refine (HRA.out W13 hal13).mono ?_
  rintro e w14 ⟨rfl, hb14⟩
  obtain ⟨t0, t1, t2⟩ := (HL13.out.next hb14).three
  go_wp2_with fail
  have hB14 := below_then hal13 hb14
  refine (HRB.out w14 hB14).mono ?_
  rintro e w15 ⟨rfl, hb15⟩
  have hB15 := below_then hb14 hb15
  clear t0 t1 t2
  obtain ⟨j0, j1, j2⟩ := (HJ13.out.next hB15).three
  obtain ⟨k0, k1, k2⟩ := (HK13.out.next hB15).three
  have HBL := Lib.hid (below_then HB12.out (below_then hal13 hB15))
  have HBW := Lib.hid (HB6.out.trans (HBL.out.mono HB6.out.size))
  clear hb14 hb15 hB15 hB14 hal13 HB6 HB12 HBL
  go_wp2_with fail
  have hbz := HBW.out
  have HBZ := Lib.hid (hbz.trans ((((Below.refl w15.heap.size w15).alloc (Nat.le_refl _) (.cells #[.string ⟨#[]⟩, .string ⟨#[]⟩] 49))).mono hbz.size))
  refine (HBAD.out w15).mono ?_
  rintro e w16 ⟨rfl, hb16⟩
  have hend := HBZ.out.trans (hb16.mono HBZ.out.size)
  clear hb16 hbz
  go_wp2_with fail
  go_ret
  exact ⟨rfl, hend⟩
end Go.Proofs.Ytmjcdjekakaigaa.Fs
