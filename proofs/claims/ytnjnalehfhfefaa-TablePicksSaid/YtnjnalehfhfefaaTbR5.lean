/- The walk of the reference's DropOf. -/
import Derived.Deep.CutRange
import Derived.Deep.DeepCutAuto
import Derived.Test.YtnjnalehfhfefaaTbR4
namespace Go.Proofs.Ytnjnalehfhfefaa
open Go.RowKit
set_option linter.unusedVariables false

/-- the values of a table's slices -/
theorem dat_vals {w : World} {a : Option Addr} {l : List (List C.Cl)} (h : Dat w w.heap.size a l) : ∃ vs, Reads w vs l ∧ ∀ i, i < l.length → ∃ b off, a = some ⟨b, off, none⟩ ∧ b < w.heap.size ∧ ∃ ua uc, vs[i]? = some (.slice ua (l.getD i []).length uc) ∧ w.cell? ⟨b, off + i, none⟩ = some (.slice ua (l.getD i []).length uc) ∧ RowIn w w.heap.size ua uc (l.getD i []) := by
  by_cases hl : l = []
  · subst hl; exact ⟨[], Reads.nil _, fun i hi => absurd hi (by simp)⟩
  obtain ⟨b, off, e, hb, hc⟩ := h hl
  have key : ∀ n, n ≤ l.length → ∃ vs : List Value, vs.length = n ∧ ∀ i, i < n → ∃ ua uc, vs[i]? = some (.slice ua (l.getD i []).length uc) ∧ w.cell? ⟨b, off + i, none⟩ = some (.slice ua (l.getD i []).length uc) ∧ RowIn w w.heap.size ua uc (l.getD i []) := by
    intro n
    induction n with
    | zero => intro _; exact ⟨[], rfl, fun i hi => absurd hi (by omega)⟩
    | succ n ih =>
      intro hn
      obtain ⟨vs, h1, h2⟩ := ih (by omega)
      obtain ⟨ua, uc, c1, c2⟩ := hc n (by omega)
      refine ⟨vs ++ [.slice ua (l.getD n []).length uc], by simp [h1], fun i hi => ?_⟩
      by_cases hin : i = n
      · subst hin; exact ⟨ua, uc, by rw [← h1]; simp, c1, c2⟩
      · obtain ⟨x1, x2, x3, x4⟩ := h2 i (by omega)
        exact ⟨x1, x2, by rw [List.getElem?_append_left (by omega)]; exact x3, x4⟩
  obtain ⟨vs, h1, h2⟩ := key l.length (Nat.le_refl _)
  refine ⟨vs, ⟨h1, fun i hi => ?_⟩, fun i hi => ?_⟩
  · obtain ⟨x1, x2, x3, _, x4⟩ := h2 i hi; exact ⟨x1, x2, x3, x4⟩
  · obtain ⟨x1, x2, x3, x4⟩ := h2 i hi; exact ⟨b, off, e, hb, x1, x2, x3, x4⟩
theorem era_step {α : Type} (l : List α) (q j : Nat) (hj : j < l.length) : (l.take (j + 1)).eraseIdx q = if j = q then (l.take j).eraseIdx q else (l.take j).eraseIdx q ++ [l[j]] := by
  rw [List.take_succ_eq_append_getElem hj]
  by_cases h : j = q
  · subst h
    have e : (l.take j).length = j := by simp; omega
    rw [if_pos rfl, List.eraseIdx_append_of_length_le (by omega), e, Nat.sub_self, List.eraseIdx_of_length_le (l := l.take j) (by omega)]
    simp
  · rw [if_neg h]
    by_cases hlt : q < j
    · rw [List.eraseIdx_append_of_lt_length (by simp; omega)]
    · rw [List.eraseIdx_append_of_length_le (by simp; omega), List.eraseIdx_of_length_le (l := l.take j) (by simp; omega)]
      have e : q - (l.take j).length ≠ 0 := by simp; omega
      rw [List.eraseIdx_of_length_le (by simp; omega)]
theorem era_len {α : Type} (l : List α) (q j : Nat) : ((l.take j).eraseIdx q).length ≤ j := by
  have := List.length_eraseIdx_le (l.take j) q
  simp at this
  omega
theorem reads_era {w : World} {vs : List Value} {l : List (List C.Cl)} (h : Reads w vs l) (q : Nat) : Reads w (vs.eraseIdx q) (l.eraseIdx q) := by
  obtain ⟨h1, h2⟩ := h
  refine ⟨by rw [List.length_eraseIdx, List.length_eraseIdx, h1], fun i hi => ?_⟩
  have hi2 : i < l.length := Nat.lt_of_lt_of_le hi (List.length_eraseIdx_le _ _)
  by_cases hq : i < q
  · obtain ⟨x1, x2, x3, x4⟩ := h2 i hi2
    have e : (l.eraseIdx q).getD i [] = l.getD i [] := by simp only [List.getD, List.getElem?_eraseIdx]; rw [if_pos hq]
    refine ⟨x1, x2, by rw [List.getElem?_eraseIdx, if_pos hq, e]; exact x3, by rw [e]; exact x4⟩
  · have hi3 : i + 1 < l.length := by
      have hl := List.length_eraseIdx (l := l) (i := q)
      by_cases hql : q < l.length
      · rw [if_pos hql] at hl; omega
      · omega
    obtain ⟨x1, x2, x3, x4⟩ := h2 (i + 1) hi3
    have e : (l.eraseIdx q).getD i [] = l.getD (i + 1) [] := by simp only [List.getD, List.getElem?_eraseIdx]; rw [if_neg hq]
    refine ⟨x1, x2, by rw [List.getElem?_eraseIdx, if_neg hq, e]; exact x3, by rw [e]; exact x4⟩
theorem mk_tbl {w W : World} {B H : Nat} {d : List Tb.Col} {vs : List Value} {cv dv : Value} {l : List (List C.Cl)} (h : Mk w B H d vs cv dv) (hag : ∀ k, B ≤ k → W.heap[k]? = w.heap[k]?) (hr : Reads W vs l) (hg : ∀ c ∈ d, gOk c) : ∃ ca cc da dc, cv = .slice ca d.length cc ∧ dv = .slice da l.length dc ∧ Tbl W W.heap.size ca cc da dc ⟨d, l⟩ := by
  have h1 : GRow B d cv W := row_move h.gro (fun g hg => hag g (h.gro.lt g hg).1)
  have h2 : VRow B vs dv W := row_move h.vro (fun g hg => hag g (h.vro.lt g hg).1)
  obtain ⟨ca, cc, e1, e2, e3⟩ := grow_gls h1
  obtain ⟨da, dc, e4, e5, e6⟩ := vrow_dat h2 hr
  exact ⟨ca, cc, da, dc, e1, e4, ⟨e2, e5, hg, e3, e6⟩⟩
set_option maxHeartbeats 4000000 in
set_option maxRecDepth 100000 in
theorem rDrop_any (ca : Option Addr) (cc : Nat) (da : Option Addr) (dc : Nat) (t : Tb.T) (o : List UInt8) (w : World) (ht : Tbl w w.heap.size ca cc da dc t) :
    Calls Try.prog 19 #[tag ca t.cols.length cc da t.data.length dc, .string (str o)] w (RTabPost (Tb.chg t (Tb.dropE t o) (Tb.drop t o)) w) := by
  have a0 : Below w.heap.size w (w.alloc (.cells #[Value.slice ca t.cols.length cc, Value.slice da t.data.length dc] 25)) := (Below.refl _ _).alloc (Nat.le_refl _) _
  have a1 : Below (w.alloc (.cells #[Value.slice ca t.cols.length cc, Value.slice da t.data.length dc] 25)).heap.size (w.alloc (.cells #[Value.slice ca t.cols.length cc, Value.slice da t.data.length dc] 25)) ((w.alloc (.cells #[Value.slice ca t.cols.length cc, Value.slice da t.data.length dc] 25)).alloc (.cells #[Value.slice none 0 0, Value.slice none 0 0] 25)) := (Below.refl _ _).alloc (Nat.le_refl _) _
  have hP := (Two.next (two_new w 25 (Value.slice ca t.cols.length cc) (Value.slice da t.data.length dc)) a1)
  have hR := (two_new (w.alloc (.cells #[Value.slice ca t.cols.length cc, Value.slice da t.data.length dc] 25)) 25 (Value.slice none 0 0) (Value.slice none 0 0))
  rw [show (w.alloc (.cells #[Value.slice ca t.cols.length cc, Value.slice da t.data.length dc] 25)).heap.size = w.heap.size + 1 by simp] at hR
  have hal := (below_then a0 a1)
  have hsz : ((w.alloc (.cells #[Value.slice ca t.cols.length cc, Value.slice da t.data.length dc] 25)).alloc (.cells #[Value.slice none 0 0, Value.slice none 0 0] 25)).heap.size = w.heap.size + 2 := by simp
  have HTT := Lib.hid (ht.next hal)
  have HT0 := Lib.hid ht
  have HM0 := Lib.hid (show t.cols.length ≤ maxLen from Nat.le_trans ht.ccap.1 ht.ccap.2.1)
  have HP := Lib.hid hP
  have HR := Lib.hid hR
  have HAL := Lib.hid hal
  have HSZ := Lib.hid hsz
  clear hal hsz hP hR a0 a1 ht
  generalize hW : ((w.alloc (.cells #[Value.slice ca t.cols.length cc, Value.slice da t.data.length dc] 25)).alloc (.cells #[Value.slice none 0 0, Value.slice none 0 0] 25)) = W1 at *
  have HW := Lib.hid hW
  clear hW
  have HT := Lib.hid (fun W (hb : Below W1.heap.size W1 W) => rTable_any ca cc da dc t W (HTT.out.next hb))
  have HCA := Lib.hid (fun x W (hb : Below W1.heap.size W1 W) => rColAt_any x ca cc t.cols W HM0.out (HTT.out.next hb).gls)
  have HQ := Lib.hid (fun y : List UInt8 => tl_eq y o)
  by_cases h0 : Tb.check t ≠ 0
  · rw [chg_bad h0]
    have g0 : ((Tb.check t : Int) == 0) = false := by rw [beq_eq_false_iff_ne]; omega
    have g1 : ((Tb.check t : Int) != 0) = true := by rw [bne_iff_ne]; omega
    generalize Tb.check t = er at *
    go_enter Try.func19, Try.ntmps19
    go_wp2_with fail
    rw [HW.out]
    have b_w := Below.refl W1.heap.size W1
    have cP0 := (HP.out.next b_w).c0
    have cP1 := (HP.out.next b_w).c1
    go_wp2_with fail
    refine (HT.out _ b_w).mono ?_
    rintro e w1 ⟨rfl, hbn⟩
    have b_w := below_then b_w hbn
    clear hbn
    clear cP0 cP1
    have q0 := HR.out.next b_w
    have q1 := q0.s0 (.slice none 0 0)
    have q2 := q1.s1 (.slice none 0 0)
    have b0 := q0.c0
    have f0 := q0.free 0
    have b1 := q1.c1
    have f1 := q1.free 1
    have y0 := q2.c0
    have y1 := q2.c1
    have hrb : w.heap.size ≤ w.heap.size + 1 := by omega
    have HB3 := Lib.hid (((below_then HAL.out b_w).setCell (p := ⟨w.heap.size + 1, 0, none⟩) hrb (.slice none 0 0)).setCell (p := ⟨w.heap.size + 1, 1, none⟩) hrb (.slice none 0 0))
    clear q0 q1 q2
    go_wp2_with fail
    refine bodyPost_ret (v := .tuple #[tag none 0 0 none 0 0, .int .i64 (er : Int)]) (by simp [results, Try.results19, go_sem, y0, y1]) rfl ?_
    exact ⟨_, _, _, _, rfl, Tbl.null _ _, HB3.out⟩
  have h0 : Tb.check t = 0 := Classical.not_not.1 h0
  have hok := Tb.check_ok h0
  have HT := Lib.hid (fun W (hb : Below W1.heap.size W1 W) => show Calls Try.prog 15 #[tag ca t.cols.length cc da t.data.length dc] W (CErrPost 0 W) by have := HT.out W hb; rwa [h0] at this)
  by_cases ho : ¬ Tb.has t.cols o
  · have e5 : Tb.dropE t o = 5 := by unfold Tb.dropE; rw [if_neg ho]
    rw [chg_err h0 (by rw [e5]; simp), e5]
    have HC := Lib.hid (fun W (hb : Below W1.heap.size W1 W) => show Calls Try.prog 35 #[.slice ca t.cols.length cc, .string (str o)] W (IntPost (-1) W) by have := HCA.out o W hb; rwa [idx_neg ho] at this)
    go_enter Try.func19, Try.ntmps19
    go_wp2_with fail
    rw [HW.out]
    have b_w := Below.refl W1.heap.size W1
    have cP0 := (HP.out.next b_w).c0
    have cP1 := (HP.out.next b_w).c1
    go_wp2_with fail
    refine (HT.out _ b_w).mono ?_
    rintro e w1 ⟨rfl, hbn⟩
    have b_w := below_then b_w hbn
    clear hbn
    clear cP0 cP1
    have cP0 := (HP.out.next b_w).c0
    have cP1 := (HP.out.next b_w).c1
    go_wp2_with fail
    refine (HC.out _ b_w).mono ?_
    rintro e w2 ⟨rfl, hbn⟩
    have b_w := below_then b_w hbn
    clear hbn
    clear cP0 cP1
    have q0 := HR.out.next b_w
    have q1 := q0.s0 (.slice none 0 0)
    have q2 := q1.s1 (.slice none 0 0)
    have b0 := q0.c0
    have f0 := q0.free 0
    have b1 := q1.c1
    have f1 := q1.free 1
    have y0 := q2.c0
    have y1 := q2.c1
    have hrb : w.heap.size ≤ w.heap.size + 1 := by omega
    have HB3 := Lib.hid (((below_then HAL.out b_w).setCell (p := ⟨w.heap.size + 1, 0, none⟩) hrb (.slice none 0 0)).setCell (p := ⟨w.heap.size + 1, 1, none⟩) hrb (.slice none 0 0))
    clear q0 q1 q2
    go_wp2_with fail
    refine bodyPost_ret (v := .tuple #[tag none 0 0 none 0 0, .int .i64 5]) (by simp [results, Try.results19, go_sem, y0, y1]) rfl ?_
    exact ⟨_, _, _, _, rfl, Tbl.null _ _, HB3.out⟩
  have ho : Tb.has t.cols o := Classical.not_not.1 ho
  have HC := Lib.hid (fun W (hb : Below W1.heap.size W1 W) => show Calls Try.prog 35 #[.slice ca t.cols.length cc, .string (str o)] W (IntPost (Tb.pos t.cols o : Int) W) by have := HCA.out o W hb; rwa [idx_pos ho] at this)
  have g5 : decide ((Tb.pos t.cols o : Int) < 0) = false := decide_eq_false (by omega)
  rw [Tb.chg_ok h0 (show Tb.dropE t o = 0 by unfold Tb.dropE; rw [if_pos ho])]
  have h6 := hok.six
  have HLEN := Lib.hid hok.len
  have hnm : ∀ j, j < t.cols.length → ((t.cols.getD j Tb.nulC).name = o ↔ j = Tb.pos t.cols o) := fun j hj => ⟨fun e => Classical.byContradiction fun hne => Tb.old_other hok ho hj hne e, fun e => by rw [e]; exact Tb.pos_name ho⟩
  have HNM := Lib.hid hnm
  obtain ⟨vs, hrd, hvs⟩ := dat_vals HT0.out.dat
  have hvl := hrd.1
  have HRD := Lib.hid hrd
  have HVS := Lib.hid hvs
  have HVSL := Lib.hid hvl
  have HDR := Lib.hid (show Tb.drop t o = ⟨t.cols.eraseIdx (Tb.pos t.cols o), t.data.eraseIdx (Tb.pos t.cols o)⟩ from rfl)
  generalize Tb.drop t o = R at *
  generalize Tb.pos t.cols o = q at *
  clear h0 hok hnm ho hrd hvs hvl HCA
  go_enter Try.func19, Try.ntmps19
  go_wp2_with fail
  rw [HW.out]
  have b_w := Below.refl W1.heap.size W1
  have cP0 := (HP.out.next b_w).c0
  have cP1 := (HP.out.next b_w).c1
  go_wp2_with fail
  refine (HT.out _ b_w).mono ?_
  rintro e w1 ⟨rfl, hbn⟩
  have b_w := below_then b_w hbn
  clear hbn
  clear cP0 cP1
  have cP0 := (HP.out.next b_w).c0
  have cP1 := (HP.out.next b_w).c1
  go_wp2_with fail
  refine (HC.out _ b_w).mono ?_
  rintro e V ⟨rfl, hbn⟩
  have b_w := below_then b_w hbn
  clear hbn
  clear cP0 cP1
  have hal : Below V.heap.size V (V.alloc (.cells #[.slice none 0 0, .slice none 0 0] 25)) := (Below.refl _ _).alloc (Nat.le_refl _) _
  obtain ⟨H, hH⟩ : ∃ H, H = V.heap.size := ⟨_, rfl⟩
  have hHw : W1.heap.size ≤ H := by rw [hH]; exact b_w.size
  have HM0' := Lib.hid (show Mk (V.alloc (.cells #[.slice none 0 0, .slice none 0 0] 25)) W1.heap.size H [] [] (.slice none 0 0) (.slice none 0 0) from ⟨by rw [hH]; exact two_new _ _ _ _, hHw, gnilRow _ _, vnilRow _ _⟩)
  have b_w := below_then b_w hal
  clear hal
  go_upto_region 7 with fail
  rw [← hH]
  generalize (V.alloc (.cells #[.slice none 0 0, .slice none 0 0] 25)) = V1 at *
  clear hH
  go_wp2_with fail
  go_loopw [8] (fun i wr => ∃ (j : Nat) (cv dv : Value), j ≤ t.cols.length ∧ i = .int .i64 j ∧ Hid (Mk wr W1.heap.size H ((t.cols.take j).eraseIdx q) ((vs.take j).eraseIdx q) cv dv) ∧ Below W1.heap.size W1 wr) (fun i _ => t.cols.length - (intOf i).toNat)
  case atStart => exact ⟨0, _, _, by omega, rfl, by simpa using HM0', b_w⟩
  case round =>
    obtain ⟨j, cv, dv, hj, rfl, HM, hbw⟩ := hrel
    have b_w := hbw
    clear hbw
    have cP0 := (HP.out.next b_w).c0
    have cP1 := (HP.out.next b_w).c1
    by_cases hlt : j < t.cols.length
    · obtain ⟨bb, off, rfl, hbb, hcc⟩ := (HTT.out.gls) (fun e => by rw [e] at hlt; simp at hlt)
      obtain ⟨k0, k1⟩ := hcc j hlt
      have e0 := (b_w.cell (p := ⟨bb, off + j * 2, none⟩) hbb).trans k0
      have e1 := (b_w.cell (p := ⟨bb, off + j * 2 + 1, none⟩) hbb).trans k1
      have hjD : j < t.data.length := by rw [HLEN.out]; exact hlt
      obtain ⟨db, doff, rfl, hdb, ua, uc, hv0, hv1, -⟩ := HVS.out j hjD
      have KV := Lib.hid (fun W (hb : Below W1.heap.size W1 W) => ((below_then HAL.out hb).cell (p := ⟨db, doff + j, none⟩) hdb).trans hv1)
      have hq := HQ.out (t.cols.getD j Tb.nulC).name
      have hnq := HNM.out j hlt
      have hjI : (j : Int) < (t.cols.length : Int) := by omega
      have hjE : (j : Int) < (t.data.length : Int) := by omega
      have hstc := era_step t.cols q j hlt
      have hjV : j < vs.length := by rw [HVSL.out]; exact hjD
      have hstv := era_step vs q j hjV
      have e2 : t.cols[j] = t.cols.getD j Tb.nulC := by simp [List.getD, List.getElem?_eq_getElem hlt]
      have e3 : vs[j] = .slice ua (t.data.getD j []).length uc := by have := hv0; rw [List.getElem?_eq_getElem hjV] at this; exact Option.some.inj this
      rw [e2] at hstc
      rw [e3] at hstv
      obtain ⟨dl, hdl⟩ : ∃ dl, dl = ((t.cols.take j).eraseIdx q).length := ⟨_, rfl⟩
      obtain ⟨vl, hvl⟩ : ∃ vl, vl = ((vs.take j).eraseIdx q).length := ⟨_, rfl⟩
      have hdl6 : dl ≤ 6 := by rw [hdl]; have := era_len t.cols q j; omega
      have hvl6 : vl ≤ 6 := by rw [hvl]; have := era_len vs q j; omega
      have HDL := Lib.hid hdl.symm
      have HVL := Lib.hid hvl.symm
      clear k0 k1 hcc hdl hvl e2 e3 hv0 hv1 hjV
      generalize (t.data.getD j []).length = rl at *
      generalize t.cols.getD j Tb.nulC = col at *
      obtain ⟨cn, ck⟩ := col
      simp only at e0 e1 hstc hq hnq
      by_cases heq : j = q
      · rw [if_pos heq] at hstc hstv
        rw [decide_eq_true (hnq.2 heq)] at hq
        have HSTC := Lib.hid hstc
        have HSTV := Lib.hid hstv
        clear hstc hstv heq hnq
        go_wp2_with fail
        exact ⟨⟨j + 1, _, _, by omega, by go_num, by rw [HSTC.out, HSTV.out]; exact HM, b_w⟩, by simp [intOf]; omega⟩
      · rw [if_neg heq] at hstc hstv
        rw [decide_eq_false (fun e => heq (hnq.1 e))] at hq
        have HSTC := Lib.hid hstc
        have HSTV := Lib.hid hstv
        clear hstc hstv heq hnq
        go_upto_region 11 with fail
        obtain ⟨ga, gc, hform⟩ := grow_form HM.out.gro
        rw [HDL.out] at hform
        subst hform
        obtain ⟨da2, dc2, hform2⟩ := vrow_form HM.out.vro
        rw [HVL.out] at hform2
        subst hform2
        have a1 := HM.out.two.c0
        have hal4 : Below wr.heap.size wr (wr.alloc (.cells #[.string (str cn), .int .i64 ck] 27)) := (Below.refl _ _).alloc (Nat.le_refl _) _
        have a2 := (HM.out.move hal4).two.c0
        have HGR := Lib.hid (HM.out.gro.below hal4)
        have hgl : (((t.cols.take j).eraseIdx q).length + 1) * 24 ≤ 140737488355328 := by rw [HDL.out]; omega
        have hbs : W1.heap.size ≤ (wr.alloc (.cells #[.string (str cn), .int .i64 ck] 27)).heap.size := by have := b_w.size; simp; omega
        have HG1 := Lib.hid (gls_one (w := (wr.alloc (.cells #[.string (str cn), .int .i64 ck] 27))) (b := wr.heap.size) (c := ⟨cn, ck⟩) (World.cell?_alloc_new _ _ _ _) (World.cell?_alloc_new _ _ _ _) (by simp))
        have HPC := Lib.hid (fun w5 v' o => Mk.col (w := wr) (w4 := w5) (v' := v') (c := ⟨cn, ck⟩) (o := o) HM.out)
        have hgg4 := HM.out.gG
        go_cut [38] from 39 to 48 (fun s38 wx => ∃ (a5 : Option Addr) (c5 : Nat), Hid (Mk wx W1.heap.size H ((t.cols.take j).eraseIdx q ++ [⟨cn, ck⟩]) ((vs.take j).eraseIdx q) (.slice a5 (dl + 1) c5) (.slice da2 vl dc2)) ∧ Hid (Below W1.heap.size W1 wx))
        case first =>
          go_region_law (first
            | (refine step_append_gls rfl (.tmp 40) (.tmp 46) rfl (W1.heap.size) _ ((t.cols.take j).eraseIdx q) rfl (GRow.below HGR.out (by first | exact Below.refl _ _ | exact (Below.refl _ _).drew)) (some ⟨wr.heap.size, 0, none⟩) 1 1 [⟨cn, ck⟩] rfl rfl (fun h => by cases h) (HG1.out.next at2_firm (by first | exact Below.refl _ _ | exact (Below.refl _ _).drew)) hgl hbs ?_; intro v' w5 hr5 hb5 hf5 hs5; obtain ⟨a5, c5, hv5⟩ := grow_form1 hr5; rw [HDL.out] at hv5; subst hv5; have o5 := HPC.out _ _ _ hr5 hf5; have t5 := two_far (HM.out.move hal4).two hgg4 hf5; have x5 := t5.c0; have k5 := t5.free 0))
          all_goals
            go_wp2_with fail
            go_meet
            exact ⟨a5, c5, Lib.hid o5, Lib.hid ((((b_w.alloc b_w.size _).drew).trans hb5).setCell (p := ⟨H, 0, none⟩) hHw _)⟩
        case rest =>
          obtain ⟨a5, c5, HM5, HB5⟩ := hcut
          have d0 := HM5.out.two.c1
          have kvc := KV.out wc HB5.out
          have dP1 := (HP.out.next HB5.out).c1
          have hal5 : Below wc.heap.size wc (wc.alloc (.cells #[.slice ua rl uc] 34)) := (Below.refl _ _).alloc (Nat.le_refl _) _
          have d2 := (HM5.out.move hal5).two.c1
          have HVR5 := Lib.hid (HM5.out.vro.below hal5)
          have hvl5 : (((vs.take j).eraseIdx q).length + 1) * 24 ≤ 140737488355328 := by rw [HVL.out]; omega
          have hbs5 : W1.heap.size ≤ (wc.alloc (.cells #[.slice ua rl uc] 34)).heap.size := by have := HB5.out.size; simp; omega
          have HPV := Lib.hid (fun w5 v' u o => Mk.val (w := wc) (w4 := w5) (v' := v') (u := u) (o := o) HM5.out)
          have hgg5 := HM5.out.gD
          clear a1 a2 HGR HG1 HPC hgg4 hal4 e0 e1
          go_wp2_with fail
          go_region_law (first
            | (refine step_append_v rfl (.tmp 50) (.tmp 56) rfl (W1.heap.size) _ ((vs.take j).eraseIdx q) rfl (VRow.below HVR5.out (by first | exact Below.refl _ _ | exact (Below.refl _ _).drew)) wc.heap.size (.slice ua rl uc) rfl (by simp) rfl hvl5 hbs5 ?_; intro v' w6 hr6 hb6 hf6 hs6; obtain ⟨a6, c6, hv6⟩ := vrow_form1 hr6; rw [HVL.out] at hv6; subst hv6; have o6 := HPV.out _ _ _ _ hr6 hf6; have t6 := two_far (HM5.out.move hal5).two hgg5 hf6; have x6 := t6.c1; have k6 := t6.free 1))
          all_goals
            go_wp2_with fail
            exact ⟨⟨j + 1, _, _, by omega, by go_num, Lib.hid (by rw [HSTC.out, HSTV.out]; exact o6), (((HB5.out.alloc HB5.out.size _).drew).trans hb6).setCell (p := ⟨H, 1, none⟩) hHw _⟩, by simp [intOf]; omega⟩
    · obtain rfl : j = t.cols.length := by omega
      rw [List.take_length, List.take_of_length_le (by rw [HVSL.out, HLEN.out]; exact Nat.le_refl _)] at HM
      obtain ⟨ga, gc, hge⟩ := grow_form HM.out.gro
      subst hge
      obtain ⟨da2, dc2, hge2⟩ := vrow_form HM.out.vro
      subst hge2
      have z0 := HM.out.two.c0
      have z1 := HM.out.two.c1
      generalize hdl : (t.cols.eraseIdx q).length = dl at z0 HM
      generalize hvl : (vs.eraseIdx q).length = vl at z1 HM
      have HDL := Lib.hid hdl
      have HVL := Lib.hid hvl
      clear hdl hvl
      have q0 := HR.out.next b_w
      have q1 := q0.s0 (.slice ga dl gc)
      have q2 := q1.s1 (.slice da2 vl dc2)
      have b0 := q0.c0
      have f0 := q0.free 0
      have b1 := q1.c1
      have f1 := q1.free 1
      have y0 := q2.c0
      have y1 := q2.c1
      have hrb : w.heap.size ≤ w.heap.size + 1 := by omega
      have HB3 := Lib.hid (((below_then HAL.out b_w).setCell (p := ⟨w.heap.size + 1, 0, none⟩) hrb (.slice ga dl gc)).setCell (p := ⟨w.heap.size + 1, 1, none⟩) hrb (.slice da2 vl dc2))
      clear q0 q1 q2
      go_wp2_with fail
      refine bodyPost_ret (v := .tuple #[tag ga dl gc da2 vl dc2, .int .i64 0]) (by simp [results, Try.results19, go_sem, y0, y1]) rfl ?_
      have HRD2 := reads_era (HRD.out.next HB3.out) q
      obtain ⟨xa, xc, xd, xe, h1, h2, h3⟩ := mk_tbl HM.out (W := (wr.setCell ⟨w.heap.size + 1, 0, none⟩ (.slice ga dl gc)).setCell ⟨w.heap.size + 1, 1, none⟩ (.slice da2 vl dc2)) (fun z hz => by
        have h2 := HSZ.out
        rw [heap_set _ _ _ _ (by simp; omega), heap_set _ _ _ _ (by simp; omega)]) HRD2 (fun c hc => HT0.out.gOk c (List.mem_of_mem_eraseIdx hc))
      injection h1 with h11 h12 h13
      injection h2 with h21 h22 h23
      subst h11 h13 h21 h23
      rw [HDR.out]
      exact ⟨ga, gc, da2, dc2, by rw [h12, h22]; rfl, h3, HB3.out⟩
end Go.Proofs.Ytnjnalehfhfefaa
