/- The walk of table.changed at the closure of table.Project. -/
import Derived.Test.YtnjnalehfhfefaaTw
namespace Go.Proofs.Ytnjnalehfhfefaa
open Go.RowKit
set_option linter.unusedVariables false

set_option maxHeartbeats 2000000 in
set_option maxRecDepth 100000 in
theorem changedProject_any (b0 : Nat) (ca : Option Addr) (cc : Nat) (da : Option Addr) (dc : Nat) (t : Tb.T) (er : Nat) (r : Tb.T) (w : World) (ht : Tbl w w.heap.size ca cc da dc t) (her : er < 9)
    (HF : Hid (Tb.check t = 0 → ∀ W B G cv dv vs, w.heap.size ≤ B → Below w.heap.size w W → Own W B G t cv dv vs → Calls Try.prog 68 #[.pointer (some ⟨G, 0, none⟩), .pointer (some ⟨b0, 0, none⟩)] W (ClPost B G er r W))) :
    Calls Try.prog 41 #[tag ca t.cols.length cc da t.data.length dc, .func (.func 68) #[] #[.pointer (some ⟨b0, 0, none⟩)]] w (TabPost (Tb.chg t er r) w) := by
  have hT := two_new w 25 (.slice ca t.cols.length cc) (.slice da t.data.length dc)
  have hal0 : Below w.heap.size w (w.alloc (.cells #[.slice ca t.cols.length cc, .slice da t.data.length dc] 25)) := (Below.refl _ _).alloc (Nat.le_refl _) _
  have hR := two_new (w.alloc (.cells #[.slice ca t.cols.length cc, .slice da t.data.length dc] 25)) 25 (.slice none 0 0) (.slice none 0 0)
  have hal1 : Below (w.alloc (.cells #[.slice ca t.cols.length cc, .slice da t.data.length dc] 25)).heap.size (w.alloc (.cells #[.slice ca t.cols.length cc, .slice da t.data.length dc] 25)) ((w.alloc (.cells #[.slice ca t.cols.length cc, .slice da t.data.length dc] 25)).alloc (.cells #[.slice none 0 0, .slice none 0 0] 25)) := (Below.refl _ _).alloc (Nat.le_refl _) _
  have hT := hT.next hal1
  have hal : Below w.heap.size w _ := below_then hal0 hal1
  rw [show (w.alloc (.cells #[.slice ca t.cols.length cc, .slice da t.data.length dc] 25)).heap.size = w.heap.size + 1 by simp] at hR
  have H1 := Lib.hid (fun W (hb : Below w.heap.size w W) => tcheck_any ca cc da dc t W (ht.next hb))
  have H2 := Lib.hid (fun (h : Tb.check t = 0) W (hb : Below w.heap.size w W) => cloneCols_any ca cc t.cols W (by have := (Tb.check_ok h).six; omega) ht.ccap.2.2 ht.ccap.1 (ht.next hb).gls)
  have HTB := Lib.hid ht
  have hck := Tb.check_lt t
  generalize hW : (w.alloc (.cells #[.slice ca t.cols.length cc, .slice da t.data.length dc] 25)).alloc (.cells #[.slice none 0 0, .slice none 0 0] 25) = W1 at *
  have HW := Lib.hid hW
  have HT := Lib.hid hT
  have HR := Lib.hid hR
  have hsz : w.heap.size + 2 ≤ W1.heap.size := hR.lt
  have d0 := hT.c0
  have d1 := hT.c1
  clear hW ht hT hR hal0 hal1
  obtain ⟨RB, hRB⟩ : ∃ RB, RB = w.heap.size + 1 := ⟨_, rfl⟩
  have hRBw : w.heap.size ≤ RB := by omega
  have hRB1 : RB < W1.heap.size := by omega
  by_cases h0 : Tb.check t ≠ 0
  · have HRES := Lib.hid (show Tb.chg t er r = (Tb.nul, Tb.check t) from if_pos h0)
    generalize Tb.check t = e0 at *
    have g1 : ((e0 : Int) != 0) = true := by rw [bne_iff_ne]; omega
    clear HF H2
    go_enter Try.func41, Try.ntmps41
    go_wp2_with fail
    rw [HW.out]
    go_wp2_with fail
    refine (H1.out _ hal).mono ?_
    rintro e w1 ⟨rfl, hb1⟩
    have q0 := HR.out.next hb1
    rw [← hRB] at q0 ⊢
    have q1 := q0.s0 (.slice none 0 0)
    have q2 := q1.s1 (.slice none 0 0)
    have a0 := q0.c0
    have b0 := q0.free 0
    have a1 := q1.c1
    have b1 := q1.free 1
    have z0 := q2.c0
    have z1 := q2.c1
    have HB3 := Lib.hid (((below_then hal hb1).setCell (p := ⟨RB, 0, none⟩) hRBw (.slice none 0 0)).setCell (p := ⟨RB, 1, none⟩) hRBw (.slice none 0 0))
    clear hRB
    go_wp2_with fail
    refine bodyPost_ret (v := .tuple #[.agg #[.slice none 0 0, .slice none 0 0], .int .i64 e0]) (by simp [results, Try.results41, go_sem, z0, z1]) rfl ?_
    rw [HRES.out]
    exact ⟨none, 0, none, 0, rfl, FTab.null _ _, HB3.out⟩
  have h0 : Tb.check t = 0 := by omega
  have HRES := Lib.hid (show Tb.chg t er r = if er ≠ 0 then (Tb.nul, er) else (r, 0) by unfold Tb.chg; rw [if_neg (by omega)])
  have HF := Lib.hid (HF.out h0)
  have H2 := Lib.hid (H2.out h0)
  have HOK := Lib.hid (rows_ok h0)
  have HM := Lib.hid (fun i (hi : i < t.data.length) => show (t.data.getD i []).length ≤ 1048576 by
    have := (Tb.check_ok h0).many i (by have := (Tb.check_ok h0).len; omega)
    omega)
  rw [h0] at H1
  clear h0 hck
  go_enter Try.func41, Try.ntmps41
  go_wp2_with fail
  rw [HW.out]
  go_wp2_with fail
  refine (H1.out _ hal).mono ?_
  rintro e w1 ⟨rfl, hb1⟩
  have z0 := (HT.out.next hb1).c0
  have z1 := (HT.out.next hb1).c1
  have hbw1 := below_then hal hb1
  go_wp2_with fail
  refine (H2.out _ hbw1).mono ?_
  rintro e w2 ⟨cv, rfl, hg2, hb2⟩
  obtain ⟨ga, gc, rfl, -, -⟩ := grow_gls hg2
  have hS := Own.start (B := w1.heap.size) hg2 hb2.size HTB.out.gOk
  have hT2 := (HT.out.next hb1).next hb2
  have hal2 : Below w2.heap.size w2 (w2.alloc (.cells #[.slice ga t.cols.length gc, .slice none 0 0] 25)) := (Below.refl _ _).alloc (Nat.le_refl _) _
  have hT3 := hT2.next hal2
  have y1 := hT3.c1
  have y0 := hT3.c0
  have hb3 := below_then hb2 hal2
  have hw1s : W1.heap.size ≤ w1.heap.size := hb1.size
  obtain ⟨G, hG⟩ : ∃ G, G = w2.heap.size := ⟨_, rfl⟩
  have hG1 : w1.heap.size ≤ G := by have := hb2.size; omega
  rw [← hG] at hS
  go_wp2_with fail
  rw [← hG]
  generalize hW3 : w2.alloc (.cells #[.slice ga t.cols.length gc, .slice none 0 0] 25) = W3 at *
  clear hW3 y0 y1 hT2 hT3 hal2 hb2 hg2
  have HB3 := Lib.hid hb3
  have HS := Lib.hid hS
  have hGl : G < W3.heap.size := hS.lt
  clear hS hb3 hG z0 z1 d0 d1
  go_loopw [9, 24] (fun _ i wr => ∃ (j : Nat) (dv : Value) (vs : List Value), j ≤ t.data.length ∧ i = .int .i64 j ∧ Hid (Own wr w1.heap.size G ⟨t.cols, t.data.take j⟩ (.slice ga t.cols.length gc) dv vs) ∧ Below w1.heap.size w1 wr) (fun _ i _ => t.data.length - (intOf i).toNat)
  case atStart => exact ⟨0, _, _, by omega, rfl, HS, HB3.out⟩
  case round =>
    obtain ⟨j, dv, vs, hj, rfl, HO, hbw⟩ := hrel
    have hd6 := HOK.out.1
    have hbw0 := below_then hbw1 hbw
    by_cases hlt : j < t.data.length
    · obtain ⟨db, doff, rfl, hdb, hdd⟩ := HTB.out.dat (fun e => by rw [e] at hlt; simp at hlt)
      obtain ⟨ai, ci, r0, hri⟩ := hdd j hlt
      have r1 := (hbw0.cell (p := ⟨db, doff + j, none⟩) hdb).trans r0
      have htw := HO.out.two
      have HCL := Lib.hid (fun W (hb : Below wr.heap.size wr W) => cloneCells_any ai ci (t.data.getD j []) W (HM.out j hlt) (hri.next (below_then hbw0 hb)))
      have HCO := Lib.hid hri.ok
      have HTK := Lib.hid (show t.data.take (j + 1) = t.data.take j ++ [t.data.getD j []] by
        rw [List.take_succ_eq_append_getElem hlt]; simp [List.getD, List.getElem?_eq_getElem hlt])
      have hjI : (j : Int) < (t.data.length : Int) := by omega
      generalize t.data.getD j [] = row at *
      have HPU := Lib.hid (fun w9 w4 v' u o => Own.push (wr := wr) (w9 := w9) (w4 := w4) (v' := v') (u := u) (row := row) (o := o) HO.out)
      have hvl : (vs.length + 1) * 24 ≤ 140737488355328 := by
        have h := HO.out.len
        simp only [List.length_take] at h
        have := HOK.out.1
        omega
      have hgd := HO.out.gD
      have hbs := HO.out.base
      have hvro := HO.out.vro
      have hgl := HO.out.lt
      have y1 := htw.c1
      have f1 := htw.free 1
      have HTW := Lib.hid htw
      have HVR := Lib.hid hvro
      clear r0 hdd hri htw hvro
      go_wp2_with fail
      go_region_law (first
        | (go_simp; go_at_call 83; refine (HCL.out _ (by first | exact Below.refl _ _ | exact (Below.refl _ _).drew)).mono ?_; rintro e w9 ⟨v9, rfl, hr9, hb9⟩; have hb9 : Below wr.heap.size wr w9 := (by first | exact hb9 | exact below_then (Below.drew (Below.refl _ _)) hb9); have hr9 : CRow wr.heap.size row v9 w9 := hr9; obtain ⟨a9, c9, rfl, -, -⟩ := cRow_cls hr9; have x1 := (HTW.out.next hb9).c1; have x2 := ((HTW.out.next hb9).next ((Below.refl _ _).alloc (Nat.le_refl _) (.cells #[.slice a9 row.length c9] 34))).c1)
        | (refine step_append_v rfl (.tmp 29) (.tmp 32) rfl w1.heap.size dv vs rfl ((HVR.out.below hb9).below ((Below.refl _ _).alloc (Nat.le_refl _) (.cells #[.slice a9 row.length c9] 34))) w9.heap.size (.slice a9 row.length c9) rfl (by simp) (ownsRow_one hr9) hvl (by have := hb9.size; simp at *; omega) ?_; intro v' w4 hr4 hb4 hf4 hs4; obtain ⟨a4, c4, rfl⟩ := vrow_form1 hr4; have o4 := HPU.out _ _ _ _ _ hb9 hr9 HCO.out hr4 hf4; have t4 := two_far ((HTW.out.next hb9).next ((Below.refl _ _).alloc (Nat.le_refl _) (.cells #[.slice a9 row.length c9] 34))) hgd hf4; have x4 := t4.c1; have k4 := t4.free 1))
      all_goals
        go_wp2_with fail
        exact ⟨⟨j + 1, _, _, by omega, by go_num, Lib.hid (by rw [HTK.out]; exact o4), ((hbw.trans (hb9.mono hbs)).alloc (by have := hb9.size; omega) _).trans hb4 |>.setCell hG1 _⟩, by simp [intOf]; omega⟩
    · obtain rfl : j = t.data.length := by omega
      have HO2 := Lib.hid (show Own wr w1.heap.size G t (.slice ga t.cols.length gc) dv vs by have h := HO.out; rwa [List.take_length] at h)
      have HFC := Lib.hid (fun W (hb : Below wr.heap.size wr W) => HF.out W _ _ _ _ _ hbw1.size (below_then hbw0 hb) (HO2.out.move hb))
      have qR := (HR.out.next hb1).next hbw
      rw [← hRB] at qR ⊢
      have hRw1 : RB < w1.heap.size := by omega
      clear HO HO2
      by_cases he : er ≠ 0
      · have HRES := Lib.hid (HRES.out.trans (if_pos he))
        have g1 : ((er : Int) != 0) = true := by rw [bne_iff_ne]; omega
        clear hRB
        go_wp2_with fail
        refine (HFC.out _ (Below.refl _ _)).mono ?_
        rintro e w5 ⟨rfl, hb5, -⟩
        have q0 : Two w5 RB 25 (.slice none 0 0) (.slice none 0 0) := qR.below hb5 hRw1
        have q1 := q0.s0 (.slice none 0 0)
        have q2 := q1.s1 (.slice none 0 0)
        have a0 := q0.c0
        have b0 := q0.free 0
        have a1 := q1.c1
        have b1 := q1.free 1
        have z0 := q2.c0
        have z1 := q2.c1
        have HB3 := Lib.hid (((hbw0.trans (hb5.mono (by have := hbw1.size; omega))).setCell (p := ⟨RB, 0, none⟩) hRBw (.slice none 0 0)).setCell (p := ⟨RB, 1, none⟩) hRBw (.slice none 0 0))
        go_wp2_with fail
        refine bodyPost_ret (v := .tuple #[.agg #[.slice none 0 0, .slice none 0 0], .int .i64 er]) (by simp [results, Try.results41, go_sem, z0, z1]) rfl ?_
        rw [HRES.out]
        exact ⟨none, 0, none, 0, rfl, FTab.null _ _, HB3.out⟩
      · obtain rfl : er = 0 := by omega
        have HRES := Lib.hid (HRES.out.trans (if_neg he))
        clear hRB he
        go_wp2_with fail
        refine (HFC.out _ (Below.refl _ _)).mono ?_
        rintro e w5 ⟨rfl, hb5, hres⟩
        obtain ⟨cv5, dv5, vs5, ho5⟩ := hres rfl
        obtain ⟨ra, rc, rda, rdc, rfl, rfl, -⟩ := ho5.tbl (W := w5) (fun _ _ _ => rfl) (Nat.le_refl _)
        have HO5 := Lib.hid ho5
        have p0 := ho5.two.c0
        have p1 := ho5.two.c1
        have q0 : Two w5 RB 25 (.slice none 0 0) (.slice none 0 0) := qR.below hb5 hRw1
        have q1 := q0.s0 (.slice ra r.cols.length rc)
        have q2 := q1.s1 (.slice rda r.data.length rdc)
        have a0 := q0.c0
        have b0 := q0.free 0
        have a1 := q1.c1
        have b1 := q1.free 1
        have z0 := q2.c0
        have z1 := q2.c1
        have hbz := hbw0.trans (hb5.mono (show w.heap.size ≤ w1.heap.size by have := hbw1.size; omega))
        have HB3 := Lib.hid ((hbz.setCell (p := ⟨RB, 0, none⟩) hRBw (.slice ra r.cols.length rc)).setCell (p := ⟨RB, 1, none⟩) hRBw (.slice rda r.data.length rdc))
        have HTB5 := Lib.hid (show FTab w.heap.size ((w5.setCell ⟨RB, 0, none⟩ (.slice ra r.cols.length rc)).setCell ⟨RB, 1, none⟩ (.slice rda r.data.length rdc)) ra rc rda rdc r from by
          intro W hW hsz
          obtain ⟨ra', rc', rda', rdc', e1, e2, h⟩ := HO5.out.tbl (W := W) (fun k hk hk2 => by
            rw [hW k (by have := hbw1.size; omega) (by simp; omega), heap_set _ _ _ _ (by simp; omega), heap_set _ _ _ _ (by simp; omega)]) (by simp at hsz; exact hsz)
          injection e1 with x1 x2 x3
          injection e2 with y1 y2 y3
          subst x1 x3 y1 y3
          exact h)
        clear ho5 hbz hres
        go_wp2_with fail
        refine bodyPost_ret (v := .tuple #[.agg #[.slice ra r.cols.length rc, .slice rda r.data.length rdc], .int .i64 0]) (by simp [results, Try.results41, go_sem, z0, z1]) rfl ?_
        rw [HRES.out]
        exact ⟨ra, rc, rda, rdc, rfl, HTB5.out, HB3.out⟩
end Go.Proofs.Ytnjnalehfhfefaa
