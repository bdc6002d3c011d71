/- (*changed).do. -/
import Derived.Test.YtmjcdjekakaigaaFsSd
import Derived.Test.YtmjcdjekakaigaaFsP3
namespace Go.Proofs.Ytmjcdjekakaigaa.Fs
open Go.RowKit
set_option linter.unusedVariables false

theorem wroteR_lt (f : T) (n tx : S) : (wroteR f n tx).2 < 9 := by
  unfold wroteR; repeat' split
  all_goals first | (show (0 : Nat) < 9; omega) | (show (2 : Nat) < 9; omega)
theorem turnR_lt (f : T) (o : Op) : (turnR f o).2 < 9 := by
  unfold turnR; split
  · show (5 : Nat) < 9; omega
  · show (0 : Nat) < 9; omega
theorem opE_7 {o : Op} (h : o.kind < 1 ∨ 5 < o.kind) : opE o = 7 := by unfold opE; rw [if_pos h]
theorem opE_1 {o : Op} (h : ¬ (o.kind < 1 ∨ 5 < o.kind)) (h2 : said o = false) : opE o = 1 := by unfold opE; rw [if_neg h, if_pos h2]
theorem opE_2 {o : Op} (h : ¬ (o.kind < 1 ∨ 5 < o.kind)) (h2 : said o = true) (h3 : 65536 < o.text.length) : opE o = 2 := by unfold opE; rw [if_neg h, if_neg (by rw [h2]; simp), if_pos h3]
theorem opE_0 {o : Op} (h : ¬ (o.kind < 1 ∨ 5 < o.kind)) (h2 : said o = true) (h3 : ¬ 65536 < o.text.length) : opE o = 0 := by unfold opE; rw [if_neg h, if_neg (by rw [h2]; simp), if_neg h3]
set_option maxHeartbeats 16000000 in
set_option maxRecDepth 100000 in
theorem do_any (B G : Nat) (f : T) (o : Op) (nv dv sv : Value) (w : World) (h : Chg w B G f nv dv sv) (hok : Ok f) (ho : opOk o) :
    Calls Try.prog 38 #[.pointer (some ⟨G, 0, none⟩), opV o] w (ErrMet B G (doOp f o) w) := by
  have hal : Below w.heap.size w (w.alloc (.cells #[.int .i64 o.kind, .string (str o.name), .string (str o.to), .string (str o.text)] 27)) := (Below.refl _ _).alloc (Nat.le_refl _) _
  have hO : Bk (w.alloc (.cells #[.int .i64 o.kind, .string (str o.name), .string (str o.to), .string (str o.text)] 27)) w.heap.size 27 #[.int .i64 o.kind, .string (str o.name), .string (str o.to), .string (str o.text)] := bk_new _ _ _
  have h0 := h.move hal
  have hbal := hal.mono h.base
  have hsz := str_size o.text
  have HSA := Lib.hid (fun W => said_any o W ho)
  have hdl := dir_len hok.dir
  have hnl := hok.len
  have HWR := Lib.hid (fun (W : World) (nv dv sv : Value) (h : Chg W B G f nv dv sv) => write_any B G f nv dv sv o.name o.text W h hok.dir.up (by omega) (by omega) hok.dir.rg ho.2.1 ho.2.2.2)
  have HSY := Lib.hid (fun (W : World) (nv dv sv : Value) (h : Chg W B G f nv dv sv) => syncDir_any B G f nv dv sv W h (by omega))
  have HTU := Lib.hid (fun (hk : o.kind = 2 ∨ o.kind = 3 ∨ o.kind = 4) (W : World) (nv dv sv : Value) (h : Chg W B G f nv dv sv) => turn_any B G f o nv dv sv W h hok.dir.up (by omega) (by omega) hok.dir.rg ho hk)
  have HSW := Lib.hid (fun (g : T) (hg : Near g) (W : World) (nv dv sv : Value) (h : Chg W B G g nv dv sv) => sweep_any B G g nv dv sv W h (by have := hg.len; omega) (by have := dir_len hg.dir; have := hg.len; omega) (by have := dir_len hg.syn; have := hg.len; omega) hg.rg)
  unfold opV at *
  generalize hW : w.alloc (.cells #[.int .i64 o.kind, .string (str o.name), .string (str o.to), .string (str o.text)] 27) = W0 at *
  have HW := Lib.hid hW
  have HO := Lib.hid hO
  have HH := Lib.hid h0
  have HOK := Lib.hid hok
  obtain ⟨t0, t1, t2, t3⟩ := hO.four
  have hs := hal.size
  have hBs := h.base
  clear h h0 hO hW hok hdl hnl ho
  by_cases k1 : o.kind < 1 ∨ 5 < o.kind
  · have hb := doOp_bad (f := f) (show opE o ≠ 0 by rw [opE_7 k1]; omega)
    rw [hb, opE_7 k1]
    by_cases k2 : o.kind < 1
    · have q1 : decide (o.kind < 1) = true := decide_eq_true k2
      go_enter Try.func38, Try.ntmps38
      go_wp2_with fail
      go_ret
      exact ⟨rfl, by rw [HW.out]; exact hbal, fun h => absurd h (by simp)⟩
    · have q1 : decide (o.kind < 1) = false := decide_eq_false k2
      have q2 : decide (5 < o.kind) = true := decide_eq_true (by omega)
      go_enter Try.func38, Try.ntmps38
      go_wp2_with fail
      rw [HW.out]
      go_wp2_with fail
      go_ret
      exact ⟨rfl, hbal, fun h => absurd h (by simp)⟩
  have q1 : decide (o.kind < 1) = false := decide_eq_false (by omega)
  have q2 : decide (5 < o.kind) = false := decide_eq_false (by omega)
  cases hsd : said o with
  | false =>
    have hb := doOp_bad (f := f) (show opE o ≠ 0 by rw [opE_1 k1 hsd]; omega)
    rw [hb, opE_1 k1 hsd]
    rw [hsd] at HSA
    go_enter Try.func38, Try.ntmps38
    go_wp2_with fail
    rw [HW.out]
    go_wp2_with fail
    refine (HSA.out _).mono ?_
    rintro e w1 ⟨rfl, hb1⟩
    go_wp2_with fail
    go_ret
    exact ⟨rfl, hbal.trans (hb1.mono (by omega)), fun h => absurd h (by simp)⟩
  | true =>
    rw [hsd] at HSA
    by_cases k3 : 65536 < o.text.length
    · have hb := doOp_bad (f := f) (show opE o ≠ 0 by rw [opE_2 k1 hsd k3]; omega)
      rw [hb, opE_2 k1 hsd k3]
      have q3 : decide ((65536 : Int) < ((str o.text).size : Int)) = true := decide_eq_true (by omega)
      go_enter Try.func38, Try.ntmps38
      go_wp2_with fail
      rw [HW.out]
      go_wp2_with fail
      refine (HSA.out _).mono ?_
      rintro e w1 ⟨rfl, hb1⟩
      obtain ⟨s0, s1, s2, s3⟩ := (HO.out.next hb1).four
      clear t0 t1 t2 t3
      go_wp2_with fail
      go_ret
      exact ⟨rfl, hbal.trans (hb1.mono (by omega)), fun h => absurd h (by simp)⟩
    have q3 : decide ((65536 : Int) < ((str o.text).size : Int)) = false := decide_eq_false (by omega)
    have hE := opE_0 k1 hsd k3
    have hN := op_name hE
    rcases kinds hE with hk | hk | hk
    · rw [doOp_wrote hE hk]
      have hgood := fun he => wrote_ok HOK.out (hN.1 (by omega)) hN.2.2.1 he
      have hlt := wroteR_lt f o.name o.text
      have q4 : (o.kind == 1) = true := beq_iff_eq.2 hk
      have HGOOD := Lib.hid hgood
      clear hk hgood
      go_enter Try.func38, Try.ntmps38
      go_wp2_with fail
      rw [HW.out]
      go_wp2_with fail
      refine (HSA.out _).mono ?_
      rintro e w1 ⟨rfl, hb1⟩
      obtain ⟨s0, s1, s2, s3⟩ := (HO.out.next hb1).four
      have h1 := HH.out.move hb1
      have hb01 := hbal.trans (hb1.mono (show B ≤ W0.heap.size by omega))
      clear t0 t1 t2 t3
      have HC := Lib.hid (HWR.out w1 _ _ _ h1)
      clear h1 HWR HSY HTU
      generalize hR : wroteR f o.name o.text = R at *
      go_wp2_with fail
      refine (HC.out).mono ?_
      rintro e w2 ⟨rfl, hb2, hres⟩
      by_cases hz : R.2 = 0
      · obtain ⟨nv2, dv2, sv2, h2⟩ := hres hz
        have hg := HGOOD.out hz
        have HSX := Lib.hid (HSW.out R.1 hg.near w2 nv2 dv2 sv2 h2)
        rw [swept_id hg] at HSX
        have her : ((R.2 : Int) == 0) = true := by rw [hz]; rfl
        have HZ := Lib.hid hz
        clear hz hres h2 hg
        go_wp2_with fail
        refine (HSX.out).mono ?_
        rintro e w3 ⟨rfl, hb3, nv3, dv3, sv3, h3⟩
        have H3 := Lib.hid h3
        clear h3
        go_wp2_with fail
        go_ret
        exact ⟨rfl, (hb01.trans hb2).trans hb3, fun _ => ⟨_, _, _, H3.out⟩⟩
      · have her : ((R.2 : Int) == 0) = false := by rw [beq_eq_false_iff_ne]; omega
        have HZ := Lib.hid hz
        clear hz hres
        go_wp2_with fail
        go_ret
        exact ⟨rfl, hb01.trans hb2, fun h => absurd h HZ.out⟩
    · rw [doOp_sync hE hk]
      have q4 : (o.kind == 1) = false := by rw [hk]; rfl
      have q5 : (o.kind == 5) = true := beq_iff_eq.2 hk
      have hgood : Near ⟨f.nodes, f.dir, f.dir⟩ := ⟨HOK.out.len, HOK.out.small, HOK.out.dir, HOK.out.dir⟩
      have HGOOD := Lib.hid hgood
      clear hk hgood
      go_enter Try.func38, Try.ntmps38
      go_wp2_with fail
      rw [HW.out]
      go_wp2_with fail
      refine (HSA.out _).mono ?_
      rintro e w1 ⟨rfl, hb1⟩
      obtain ⟨s0, s1, s2, s3⟩ := (HO.out.next hb1).four
      have h1 := HH.out.move hb1
      have hb01 := hbal.trans (hb1.mono (show B ≤ W0.heap.size by omega))
      clear t0 t1 t2 t3
      have HC := Lib.hid (HSY.out w1 _ _ _ h1)
      clear h1 HWR HSY HTU
      go_wp2_with fail
      refine (HC.out).mono ?_
      rintro e w2 ⟨rfl, hb2, nv2, dv2, sv2, h2⟩
      have HSX := Lib.hid (HSW.out _ HGOOD.out w2 nv2 dv2 sv2 h2)
      clear h2
      go_wp2_with fail
      refine (HSX.out).mono ?_
      rintro e w3 ⟨rfl, hb3, nv3, dv3, sv3, h3⟩
      have H3 := Lib.hid h3
      clear h3
      go_wp2_with fail
      go_ret
      exact ⟨rfl, (hb01.trans hb2).trans hb3, fun _ => ⟨_, _, _, H3.out⟩⟩
    · have q4 : (o.kind == 1) = false := by rw [beq_eq_false_iff_ne]; omega
      have q5 : (o.kind == 5) = false := by rw [beq_eq_false_iff_ne]; omega
      have hd : (has f.dir o.name = false ∧ turnR f o = (nul, 5) ∧ doOp f o = (nul, 5)) ∨ (has f.dir o.name = true ∧ turnR f o = (turned f o (nodeOf f.dir o.name), 0) ∧ doOp f o = (swept (turned f o (nodeOf f.dir o.name)), 0) ∧ Near (turned f o (nodeOf f.dir o.name))) := by
        rw [doOp_turn hE hk]
        unfold turnR
        cases hh : has f.dir o.name with
        | false => exact Or.inl ⟨rfl, by rw [if_pos rfl], by rw [if_pos rfl]⟩
        | true => exact Or.inr ⟨rfl, by rw [if_neg (by simp)], by rw [if_neg (by simp)], turned_near HOK.out hh hN.2.1⟩
      have HK := Lib.hid hk
      rcases hd with ⟨hh, hT, hD⟩ | ⟨hh, hT, hD, hNr⟩
      · rw [hD]
        clear hk hh hD
        go_enter Try.func38, Try.ntmps38
        go_wp2_with fail
        rw [HW.out]
        go_wp2_with fail
        refine (HSA.out _).mono ?_
        rintro e w1 ⟨rfl, hb1⟩
        obtain ⟨s0, s1, s2, s3⟩ := (HO.out.next hb1).four
        have h1 := HH.out.move hb1
        have hb01 := hbal.trans (hb1.mono (show B ≤ W0.heap.size by omega))
        clear t0 t1 t2 t3
        have HC := Lib.hid (HTU.out HK.out w1 _ _ _ h1)
        rw [hT] at HC
        clear h1 HWR HSY HTU hT
        go_wp2_with fail
        refine (HC.out).mono ?_
        rintro e w2 ⟨rfl, hb2, -⟩
        go_wp2_with fail
        go_ret
        exact ⟨rfl, hb01.trans hb2, fun h => absurd h (by simp)⟩
      · rw [hD]
        have HNR := Lib.hid hNr
        clear hk hh hD hNr
        go_enter Try.func38, Try.ntmps38
        go_wp2_with fail
        rw [HW.out]
        go_wp2_with fail
        refine (HSA.out _).mono ?_
        rintro e w1 ⟨rfl, hb1⟩
        obtain ⟨s0, s1, s2, s3⟩ := (HO.out.next hb1).four
        have h1 := HH.out.move hb1
        have hb01 := hbal.trans (hb1.mono (show B ≤ W0.heap.size by omega))
        clear t0 t1 t2 t3
        have HC := Lib.hid (HTU.out HK.out w1 _ _ _ h1)
        rw [hT] at HC
        clear h1 HWR HSY HTU hT
        generalize turned f o (nodeOf f.dir o.name) = TT at *
        go_wp2_with fail
        refine (HC.out).mono ?_
        rintro e w2 ⟨rfl, hb2, hres⟩
        obtain ⟨nv2, dv2, sv2, h2⟩ := hres rfl
        have HSX := Lib.hid (HSW.out _ HNR.out w2 nv2 dv2 sv2 h2)
        clear h2 hres
        go_wp2_with fail
        refine (HSX.out).mono ?_
        rintro e w3 ⟨rfl, hb3, nv3, dv3, sv3, h3⟩
        have H3 := Lib.hid h3
        clear h3
        go_wp2_with fail
        go_ret
        exact ⟨rfl, (hb01.trans hb2).trans hb3, fun _ => ⟨_, _, _, H3.out⟩⟩
end Go.Proofs.Ytmjcdjekakaigaa.Fs
