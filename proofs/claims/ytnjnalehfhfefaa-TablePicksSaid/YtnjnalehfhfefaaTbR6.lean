/- The walk of the reference's ProjectOf. -/
import Derived.Deep.CutRange
import Derived.Deep.DeepCutAuto
import Derived.Test.YtnjnalehfhfefaaTbR5
namespace Go.Proofs.Ytnjnalehfhfefaa
open Go.RowKit
set_option linter.unusedVariables false

theorem pickV_get {t : Tb.T} {vs : List Value} {n : List UInt8} {v : Value} (h : vs[Tb.pos t.cols n]? = some v) : pickV t vs n = v := by
  unfold pickV; simp [List.getD, h]
theorem reads_pick {w : World} {vs : List Value} {t : Tb.T} (h : Reads w vs t.data) (hl : t.data.length = t.cols.length) (ns : List (List UInt8)) (hn : ∀ n ∈ ns, Tb.has t.cols n) : Reads w (ns.map (pickV t vs)) (ns.map fun n => t.data.getD (Tb.pos t.cols n) []) := by
  refine ⟨by simp, fun i hi => ?_⟩
  have hi2 : i < ns.length := by simpa using hi
  have hp : Tb.pos t.cols ns[i] < t.cols.length := hn _ (List.getElem_mem hi2)
  obtain ⟨x1, x2, x3, x4⟩ := h.2 (Tb.pos t.cols ns[i]) (by omega)
  have e : (ns.map fun n => t.data.getD (Tb.pos t.cols n) []).getD i [] = t.data.getD (Tb.pos t.cols ns[i]) [] := by
    rw [List.getD, List.getElem?_map, List.getElem?_eq_getElem hi2]; rfl
  refine ⟨x1, x2, ?_, by rw [e]; exact x4⟩
  rw [List.getElem?_map, List.getElem?_eq_getElem hi2, e]
  simp only [Option.map_some, Option.some.injEq]
  exact pickV_get x3
set_option maxHeartbeats 4000000 in
set_option maxRecDepth 100000 in
theorem rProject_any (ca : Option Addr) (cc : Nat) (da : Option Addr) (dc : Nat) (t : Tb.T) (an : Option Addr) (cn : Nat) (ns : List (List UInt8)) (w : World) (ht : Tbl w w.heap.size ca cc da dc t) (hnm : ns.length ≤ maxLen) (hnu : Txts w w.heap.size an ns) :
    Calls Try.prog 32 #[tag ca t.cols.length cc da t.data.length dc, .slice an ns.length cn] w (RTabPost (Tb.chg t (Tb.projE t [] ns) (Tb.proj t ns)) w) := by
  have a0 : Below w.heap.size w (w.alloc (.cells #[Value.slice ca t.cols.length cc, Value.slice da t.data.length dc] 25)) := (Below.refl _ _).alloc (Nat.le_refl _) _
  have a1 : Below (w.alloc (.cells #[Value.slice ca t.cols.length cc, Value.slice da t.data.length dc] 25)).heap.size (w.alloc (.cells #[Value.slice ca t.cols.length cc, Value.slice da t.data.length dc] 25)) ((w.alloc (.cells #[Value.slice ca t.cols.length cc, Value.slice da t.data.length dc] 25)).alloc (.cells #[Value.slice none 0 0, Value.slice none 0 0] 25)) := (Below.refl _ _).alloc (Nat.le_refl _) _
  have hP := (Two.next (two_new w 25 (Value.slice ca t.cols.length cc) (Value.slice da t.data.length dc)) a1)
  have hR := (two_new (w.alloc (.cells #[Value.slice ca t.cols.length cc, Value.slice da t.data.length dc] 25)) 25 (Value.slice none 0 0) (Value.slice none 0 0))
  rw [show (w.alloc (.cells #[Value.slice ca t.cols.length cc, Value.slice da t.data.length dc] 25)).heap.size = w.heap.size + 1 by simp] at hR
  have hal := (below_then a0 a1)
  have hsz : ((w.alloc (.cells #[Value.slice ca t.cols.length cc, Value.slice da t.data.length dc] 25)).alloc (.cells #[Value.slice none 0 0, Value.slice none 0 0] 25)).heap.size = w.heap.size + 2 := by simp
  have HTT := Lib.hid (ht.next hal)
  have HT0 := Lib.hid ht
  have HNU := Lib.hid (hnu.next hal)
  have HM0 := Lib.hid (show t.cols.length ≤ maxLen from Nat.le_trans ht.ccap.1 ht.ccap.2.1)
  have HP := Lib.hid hP
  have HR := Lib.hid hR
  have HAL := Lib.hid hal
  have HSZ := Lib.hid hsz
  clear hal hsz hP hR a0 a1 ht hnu
  generalize hW : ((w.alloc (.cells #[Value.slice ca t.cols.length cc, Value.slice da t.data.length dc] 25)).alloc (.cells #[Value.slice none 0 0, Value.slice none 0 0] 25)) = W1 at *
  have HW := Lib.hid hW
  clear hW
  unfold maxLen at hnm
  have HT := Lib.hid (fun W (hb : Below W1.heap.size W1 W) => rTable_any ca cc da dc t W (HTT.out.next hb))
  by_cases h0 : Tb.check t ≠ 0
  · rw [chg_bad h0]
    have g0 : ((Tb.check t : Int) == 0) = false := by rw [beq_eq_false_iff_ne]; omega
    generalize Tb.check t = er at *
    go_enter Try.func32, Try.ntmps32
    go_wp2_with fail
    rw [HW.out]
    have b_w := Below.refl W1.heap.size W1
    have cP0 := (HP.out.next b_w).c0
    have cP1 := (HP.out.next b_w).c1
    go_wp2_with fail
    refine (HT.out _ b_w).mono ?_
    rintro e V ⟨rfl, hbn⟩
    have b_w := below_then b_w hbn
    clear hbn
    clear cP0 cP1
    have hal : Below V.heap.size V (V.alloc (.cells #[.slice none 0 0, .slice none 0 0] 25)) := (Below.refl _ _).alloc (Nat.le_refl _) _
    obtain ⟨H, hH⟩ : ∃ H, H = V.heap.size := ⟨_, rfl⟩
    have hHw : W1.heap.size ≤ H := by rw [hH]; exact b_w.size
    have HM0' := Lib.hid (show Mk (V.alloc (.cells #[.slice none 0 0, .slice none 0 0] 25)) W1.heap.size H [] [] (.slice none 0 0) (.slice none 0 0) from ⟨by rw [hH]; exact two_new _ _ _ _, hHw, gnilRow _ _, vnilRow _ _⟩)
    have b_w := below_then b_w hal
    clear hal
    go_upto_region 3 with fail
    rw [← hH]
    generalize (V.alloc (.cells #[.slice none 0 0, .slice none 0 0] 25)) = V1 at *
    clear hH
    go_wp2_with fail
    go_loopw [8, 9] (fun i _ wr => i = .int .i64 0 ∧ wr = V1) (fun _ _ _ => 0)
    case atStart => exact ⟨rfl, rfl⟩
    case round =>
      obtain ⟨rfl, rfl⟩ := hrel
      have z0 := HM0'.out.two.c0
      have z1 := HM0'.out.two.c1
      by_cases hlt : 0 < ns.length
      · have hjI : (0 : Int) < (ns.length : Int) := by omega
        have q0 := HR.out.next b_w
        have q1 := q0.s0 (.slice none 0 0)
        have q2 := q1.s1 (.slice none 0 0)
        have b0 := q0.c0
        have f0 := q0.free 0
        have b1 := q1.c1
        have f1 := q1.free 1
        have y0 := q2.c0
        have y1 := q2.c1
        have hrb : w.heap.size ≤ w.heap.size + 1 := by omega
        have HB3 := Lib.hid (((below_then HAL.out b_w).setCell (p := ⟨w.heap.size + 1, 0, none⟩) hrb (.slice none 0 0)).setCell (p := ⟨w.heap.size + 1, 1, none⟩) hrb (.slice none 0 0))
        clear q0 q1 q2
        go_wp2_with fail
        refine bodyPost_ret (v := .tuple #[tag none 0 0 none 0 0, .int .i64 (er : Int)]) (by simp [results, Try.results32, go_sem, y0, y1]) rfl ?_
        exact ⟨_, _, _, _, rfl, Tbl.null _ _, HB3.out⟩
      · have hjI : ns.length = 0 := by omega
        have hlI : decide ((0 : Int) < (ns.length : Int)) = false := decide_eq_false (by omega)
        rw [hjI] at hlI
        have q0 := HR.out.next b_w
        have q1 := q0.s0 (.slice none 0 0)
        have q2 := q1.s1 (.slice none 0 0)
        have b0 := q0.c0
        have f0 := q0.free 0
        have b1 := q1.c1
        have f1 := q1.free 1
        have y0 := q2.c0
        have y1 := q2.c1
        have hrb : w.heap.size ≤ w.heap.size + 1 := by omega
        have HB3 := Lib.hid (((below_then HAL.out b_w).setCell (p := ⟨w.heap.size + 1, 0, none⟩) hrb (.slice none 0 0)).setCell (p := ⟨w.heap.size + 1, 1, none⟩) hrb (.slice none 0 0))
        clear q0 q1 q2
        go_wp2_with fail
        refine bodyPost_ret (v := .tuple #[tag none 0 0 none 0 0, .int .i64 (er : Int)]) (by simp [results, Try.results32, go_sem, y0, y1]) rfl ?_
        exact ⟨_, _, _, _, rfl, Tbl.null _ _, HB3.out⟩
  have h0 : Tb.check t = 0 := Classical.not_not.1 h0
  have hok := Tb.check_ok h0
  have HT := Lib.hid (fun W (hb : Below W1.heap.size W1 W) => show Calls Try.prog 15 #[tag ca t.cols.length cc da t.data.length dc] W (CErrPost 0 W) by have := HT.out W hb; rwa [h0] at this)
  have h6 := hok.six
  have HLEN := Lib.hid hok.len
  have hm6 : t.cols.length ≤ maxLen := by unfold maxLen; omega
  have HPL := Lib.hid (fun n W (hb : Below W1.heap.size W1 W) => rColAt_any n ca cc t.cols W hm6 (HTT.out.next hb).gls)
  have HPO := Lib.hid (fun n (d : List Tb.Col) a c W (hd : d.length ≤ 1048576) (hu : Gls W W.heap.size a d) => rColAt_any n a c d W (by unfold maxLen; omega) hu)
  obtain ⟨vs, hrd, hvs⟩ := dat_vals HT0.out.dat
  have HRD := Lib.hid hrd
  have HVS := Lib.hid hvs
  have HGD := Lib.hid (fun n (h : Tb.has t.cols n) => HT0.out.gOk (t.cols.getD (Tb.pos t.cols n) Tb.nulC) (by
    have h' : Tb.pos t.cols n < t.cols.length := h
    simp only [List.getD, List.getElem?_eq_getElem h', Option.getD_some]; exact List.getElem_mem h'))
  have HSTC := Lib.hid (fun j h => tmap_take (pickC t) ns j h)
  have HSTV := Lib.hid (fun j h => tmap_take (pickV t vs) ns j h)
  have HDR := Lib.hid (fun j h => tdrop_cons ns j h)
  have HPROJ := Lib.hid (show Tb.proj t ns = ⟨ns.map (pickC t), ns.map fun n => t.data.getD (Tb.pos t.cols n) []⟩ from rfl)
  have HE0 := Lib.hid (show Tb.projE t [] ns = Tb.projE t ((ns.take 0).map (pickC t)) (ns.drop 0) by simp)
  have HCH := Lib.hid (fun (e : Nat) (r : Tb.T) => show Tb.chg t e r = if e ≠ 0 then (Tb.nul, e) else (r, 0) by unfold Tb.chg; rw [if_neg (by rw [h0]; simp)])
  generalize Tb.proj t ns = R at *
  generalize Tb.projE t [] ns = E at *
  clear h0 hok hrd hvs
  go_enter Try.func32, Try.ntmps32
  go_wp2_with fail
  rw [HW.out]
  have b_w := Below.refl W1.heap.size W1
  have cP0 := (HP.out.next b_w).c0
  have cP1 := (HP.out.next b_w).c1
  go_wp2_with fail
  refine (HT.out _ b_w).mono ?_
  rintro e V ⟨rfl, hbn⟩
  have b_w := below_then b_w hbn
  clear hbn
  clear cP0 cP1
  have hal : Below V.heap.size V (V.alloc (.cells #[.slice none 0 0, .slice none 0 0] 25)) := (Below.refl _ _).alloc (Nat.le_refl _) _
  obtain ⟨H, hH⟩ : ∃ H, H = V.heap.size := ⟨_, rfl⟩
  have hHw : W1.heap.size ≤ H := by rw [hH]; exact b_w.size
  have HM0' := Lib.hid (show Mk (V.alloc (.cells #[.slice none 0 0, .slice none 0 0] 25)) W1.heap.size H [] [] (.slice none 0 0) (.slice none 0 0) from ⟨by rw [hH]; exact two_new _ _ _ _, hHw, gnilRow _ _, vnilRow _ _⟩)
  have b_w := below_then b_w hal
  clear hal
  go_upto_region 3 with fail
  rw [← hH]
  generalize (V.alloc (.cells #[.slice none 0 0, .slice none 0 0] 25)) = V1 at *
  clear hH
  go_wp2_with fail
  go_loopw [8, 9] (fun i _ wr => ∃ (j : Nat) (cv dv : Value), j ≤ ns.length ∧ i = .int .i64 j ∧ Hid (Mk wr W1.heap.size H ((ns.take j).map (pickC t)) ((ns.take j).map (pickV t vs)) cv dv) ∧ Below W1.heap.size W1 wr ∧ Hid (E = Tb.projE t ((ns.take j).map (pickC t)) (ns.drop j)) ∧ Hid (Picks t (ns.take j))) (fun i _ _ => ns.length - (intOf i).toNat)
  case atStart => exact ⟨0, _, _, by omega, rfl, HM0', b_w, HE0, Lib.hid ⟨by simp, by simp⟩⟩
  case round =>
    obtain ⟨j, cv, dv, hj, rfl, HM, hbw, HE, HAS⟩ := hrel
    have b_w := hbw
    clear hbw
    have hj6 : j ≤ 6 := by have := HAS.out.le; simp at this; omega
    by_cases hlt : j < ns.length
    · obtain ⟨nb, noff, rfl, hnb, hnc⟩ := HNU.out (fun e => by rw [e] at hlt; simp at hlt)
      have m0 := (b_w.cell (p := ⟨nb, noff + j, none⟩) hnb).trans (hnc j hlt)
      have hjI : (j : Int) < (ns.length : Int) := by omega
      have hstc := HSTC.out j hlt
      have hstv := HSTV.out j hlt
      have hdr := HDR.out j hlt
      have HEN := Lib.hid (show E = if ¬ Tb.has t.cols (ns.getD j []) then 5 else if Tb.has ((ns.take j).map (pickC t)) (ns.getD j []) then 6 else Tb.projE t ((ns.take (j + 1)).map (pickC t)) (ns.drop (j + 1)) by
        rw [HE.out, hdr, projE_cons, hstc]; rfl)
      have HAN := Lib.hid (fun h h2 => show Picks t (ns.take (j + 1)) by rw [ttake_snoc ns j hlt]; exact HAS.out.snoc h h2)
      have hdl : ((ns.take j).map (pickC t)).length = j := by simp; omega
      have hvl : ((ns.take j).map (pickV t vs)).length = j := by simp; omega
      have HDL := Lib.hid hdl
      have HVL := Lib.hid hvl
      have HP1 := Lib.hid (fun W hb => HPL.out (ns.getD j []) W hb)
      have HP2 := Lib.hid (fun W a c h hu => HPO.out (ns.getD j []) ((ns.take j).map (pickC t)) a c W h hu)
      have HGDJ := Lib.hid (HGD.out (ns.getD j []))
      clear HE hnc hdr hdl hvl
      generalize ns.getD j [] = nm at *
      have xN := fun q : WB wr => q.cell (Nat.lt_of_lt_of_le hnb b_w.size) m0
      have xP := fun q : WB wr => q.cell (HP.out.next b_w).lt (HP.out.next b_w).c0
      have M0 := Lib.hid m0
      clear m0
      obtain ⟨ga, gc, hform⟩ := grow_form HM.out.gro
      rw [HDL.out] at hform
      subst hform
      obtain ⟨da2, dc2, hform2⟩ := vrow_form HM.out.vro
      rw [HVL.out] at hform2
      subst hform2
      have HGU : Hid (Gls wr wr.heap.size ga ((ns.take j).map (pickC t))) := Lib.hid (by
        obtain ⟨ga2, gc2, hge, hgu, -⟩ := grow_gls HM.out.gro
        rw [HDL.out] at hge
        injection hge with he1 _ he3
        subst he1 he3
        exact hgu)
      have HP2' := Lib.hid (fun W (hb : Below wr.heap.size wr W) => show Calls Try.prog 35 #[.slice ga j gc, .string (str nm)] W (IntPost (Tb.idx ((ns.take j).map (pickC t)) nm) W) by
        have := HP2.out W ga gc (by rw [HDL.out]; omega) (HGU.out.next at2_firm hb)
        rwa [HDL.out] at this)
      clear HP2
      by_cases e1 : ¬ Tb.has t.cols nm
      · have HF := Lib.hid (HEN.out.trans (if_pos e1))
        have HP1 := Lib.hid (fun W hb => show Calls Try.prog 35 #[.slice ca t.cols.length cc, .string (str nm)] W (IntPost (-1) W) by have := HP1.out W hb; rwa [idx_neg e1] at this)
        clear hstc hstv HEN HAN HGDJ e1
        go_wp2_with fail
        refine wp_region_wb (by kernel_rfl) (by kernel_rfl) ?_
        repeat (quiet_step ((go_at_call 35; refine calls_wb (v := .int .i64 (-1)) ?_; exact (HP1.out _ (below_then b_w (WB.below _))))))
        refine wpQuiet_nil ?_
        rintro _ ⟨p, rfl⟩
        have hbp := p.below
        clear xN xP
        have b_w := below_then b_w hbp
        clear hbp
        generalize p.w = Y1 at *
        have q0 := HR.out.next b_w
        have q1 := q0.s0 (.slice none 0 0)
        have q2 := q1.s1 (.slice none 0 0)
        have b0 := q0.c0
        have f0 := q0.free 0
        have b1 := q1.c1
        have f1 := q1.free 1
        have y0 := q2.c0
        have y1 := q2.c1
        have hrb : w.heap.size ≤ w.heap.size + 1 := by omega
        have HB3 := Lib.hid (((below_then HAL.out b_w).setCell (p := ⟨w.heap.size + 1, 0, none⟩) hrb (.slice none 0 0)).setCell (p := ⟨w.heap.size + 1, 1, none⟩) hrb (.slice none 0 0))
        clear q0 q1 q2
        go_wp2_with fail
        refine bodyPost_ret (v := .tuple #[tag none 0 0 none 0 0, .int .i64 5]) (by simp [results, Try.results32, go_sem, y0, y1]) rfl ?_
        rw [HCH.out, HF.out]
        exact ⟨_, _, _, _, rfl, Tbl.null _ _, HB3.out⟩
      have e1 : Tb.has t.cols nm := Classical.not_not.1 e1
      have hql : Tb.pos t.cols nm < t.cols.length := e1
      have HP1 := Lib.hid (fun W hb => show Calls Try.prog 35 #[.slice ca t.cols.length cc, .string (str nm)] W (IntPost (Tb.pos t.cols nm : Int) W) by have := HP1.out W hb; rwa [idx_pos e1] at this)
      have g0 : decide ((Tb.pos t.cols nm : Int) < 0) = false := decide_eq_false (by omega)
      by_cases e2 : Tb.has ((ns.take j).map (pickC t)) nm
      · have HF := Lib.hid (HEN.out.trans ((if_neg (by simp [e1])).trans (if_pos e2)))
        have HP2' := Lib.hid (fun W hb => show Calls Try.prog 35 #[.slice ga j gc, .string (str nm)] W (IntPost (Tb.pos ((ns.take j).map (pickC t)) nm : Int) W) by have := HP2'.out W hb; rwa [idx_pos e2] at this)
        have g1 : decide ((0 : Int) ≤ (Tb.pos ((ns.take j).map (pickC t)) nm : Int)) = true := decide_eq_true (by omega)
        generalize Tb.pos ((ns.take j).map (pickC t)) nm = q2 at *
        generalize Tb.pos t.cols nm = q at *
        clear hstc hstv HEN HAN HGDJ e1 e2
        go_wp2_with fail
        refine wp_region_wb (by kernel_rfl) (by kernel_rfl) ?_
        repeat (quiet_step ((go_at_call 35; refine calls_wb (v := .int .i64 ((q : Int))) ?_; exact (HP1.out _ (below_then b_w (WB.below _))))))
        refine wpQuiet_nil ?_
        rintro _ ⟨p, rfl⟩
        have hbp := p.below
        clear xN xP 
        have hb6 := hbp
        clear hbp
        generalize p.w = Y1 at *
        have M1 := Lib.hid ((hb6.cell (p := ⟨nb, noff + j, none⟩) (Nat.lt_of_lt_of_le hnb b_w.size)).trans M0.out)
        have xN := fun q : WB Y1 => q.cell (Nat.lt_of_lt_of_le hnb (Nat.le_trans b_w.size hb6.size)) M1.out
        have xH := fun q : WB Y1 => q.cell (HM.out.two.next hb6).lt (HM.out.two.next hb6).c0
        go_wp2_with fail
        refine wp_region_wb (by kernel_rfl) (by kernel_rfl) ?_
        repeat (quiet_step ((go_at_call 35; refine calls_wb (v := .int .i64 ((q2 : Int))) ?_; exact (HP2'.out _ (below_then hb6 (WB.below _))))))
        refine wpQuiet_nil ?_
        rintro _ ⟨p, rfl⟩
        have hbp := p.below
        clear xN xH
        have b_w := below_then b_w (below_then hb6 hbp)
        clear hbp
        generalize p.w = Y2 at *
        have q0 := HR.out.next b_w
        have q1 := q0.s0 (.slice none 0 0)
        have q2 := q1.s1 (.slice none 0 0)
        have b0 := q0.c0
        have f0 := q0.free 0
        have b1 := q1.c1
        have f1 := q1.free 1
        have y0 := q2.c0
        have y1 := q2.c1
        have hrb : w.heap.size ≤ w.heap.size + 1 := by omega
        have HB3 := Lib.hid (((below_then HAL.out b_w).setCell (p := ⟨w.heap.size + 1, 0, none⟩) hrb (.slice none 0 0)).setCell (p := ⟨w.heap.size + 1, 1, none⟩) hrb (.slice none 0 0))
        clear q0 q1 q2
        go_wp2_with fail
        refine bodyPost_ret (v := .tuple #[tag none 0 0 none 0 0, .int .i64 6]) (by simp [results, Try.results32, go_sem, y0, y1]) rfl ?_
        rw [HCH.out, HF.out]
        exact ⟨_, _, _, _, rfl, Tbl.null _ _, HB3.out⟩
      · have HF := Lib.hid (HEN.out.trans ((if_neg (by simp [e1])).trans (if_neg e2)))
        have HP2' := Lib.hid (fun W hb => show Calls Try.prog 35 #[.slice ga j gc, .string (str nm)] W (IntPost (-1) W) by have := HP2'.out W hb; rwa [idx_neg e2] at this)
        have HAN := Lib.hid (HAN.out e1 e2)
        have hgok := HGDJ.out e1
        have hqD : Tb.pos t.cols nm < t.data.length := by rw [HLEN.out]; exact hql
        obtain ⟨db, doff, rfl, hdb, ua, uc, hv0, hv1, -⟩ := HVS.out _ hqD
        have hpv := pickV_get hv0
        obtain ⟨bb, off, rfl, hbb, hcc⟩ := (HTT.out.gls) (fun e => by rw [e] at hql; simp at hql)
        obtain ⟨k0, k1⟩ := hcc _ hql
        rw [hpv] at hstv
        have hstc2 : (ns.take (j + 1)).map (pickC t) = (ns.take j).map (pickC t) ++ [t.cols.getD (Tb.pos t.cols nm) Tb.nulC] := hstc
        have hj7 : j + 1 ≤ 6 := by have := HAN.out.le; simp at this; omega
        generalize hcol : t.cols.getD (Tb.pos t.cols nm) Tb.nulC = col at *
        generalize (t.data.getD (Tb.pos t.cols nm) []).length = rl at *
        have HSTC := Lib.hid hstc2
        have HSTV := Lib.hid hstv
        generalize Tb.pos t.cols nm = q at *
        have hqI : (q : Int) < (t.cols.length : Int) := by omega
        have hqE : (q : Int) < (t.data.length : Int) := by omega
        have K0 := Lib.hid k0
        have K1 := Lib.hid k1
        have KV := Lib.hid (fun W (hb : Below W1.heap.size W1 W) => ((below_then HAL.out hb).cell (p := ⟨db, doff + q, none⟩) hdb).trans hv1)
        obtain ⟨cn, ck⟩ := col
        clear k0 k1 hcc hv0 hv1 hpv hstc hstv hstc2 HEN e1 e2 HGDJ hcol
        go_wp2_with fail
        refine wp_region_wb (by kernel_rfl) (by kernel_rfl) ?_
        repeat (quiet_step ((go_at_call 35; refine calls_wb (v := .int .i64 ((q : Int))) ?_; exact (HP1.out _ (below_then b_w (WB.below _))))))
        refine wpQuiet_nil ?_
        rintro _ ⟨p, rfl⟩
        have hbp := p.below
        clear xN xP 
        have hb6 := hbp
        clear hbp
        generalize p.w = Y1 at *
        have M1 := Lib.hid ((hb6.cell (p := ⟨nb, noff + j, none⟩) (Nat.lt_of_lt_of_le hnb b_w.size)).trans M0.out)
        have xN := fun q : WB Y1 => q.cell (Nat.lt_of_lt_of_le hnb (Nat.le_trans b_w.size hb6.size)) M1.out
        have xH := fun q : WB Y1 => q.cell (HM.out.two.next hb6).lt (HM.out.two.next hb6).c0
        go_wp2_with fail
        refine wp_region_wb (by kernel_rfl) (by kernel_rfl) ?_
        repeat (quiet_step ((go_at_call 35; refine calls_wb (v := .int .i64 (-1)) ?_; exact (HP2'.out _ (below_then hb6 (WB.below _))))))
        refine wpQuiet_nil ?_
        rintro _ ⟨p, rfl⟩
        have hbp := p.below
        clear xN xH
        have hb69 := below_then hb6 hbp
        clear hbp hb6
        generalize p.w = Y2 at *
        have HM := Lib.hid (HM.out.move hb69)
        have b_w := below_then b_w hb69
        clear hb69
        have e0 := (b_w.cell (p := ⟨bb, off + q * 2, none⟩) hbb).trans K0.out
        have e1 := (b_w.cell (p := ⟨bb, off + q * 2 + 1, none⟩) hbb).trans K1.out
        have cP0 := (HP.out.next b_w).c0
        go_upto_region 11 with fail
        clear HP2' HGU M0 M1
        generalize hwy : Y2 = wr2 at *
        clear hwy
        have a1 := HM.out.two.c0
        have hal4 : Below wr2.heap.size wr2 (wr2.alloc (.cells #[.string (str cn), .int .i64 ck] 27)) := (Below.refl _ _).alloc (Nat.le_refl _) _
        have a2 := (HM.out.move hal4).two.c0
        have HGR := Lib.hid (HM.out.gro.below hal4)
        have hgl : (((ns.take j).map (pickC t)).length + 1) * 24 ≤ 140737488355328 := by rw [HDL.out]; omega
        have hbs : W1.heap.size ≤ (wr2.alloc (.cells #[.string (str cn), .int .i64 ck] 27)).heap.size := by have := b_w.size; simp; omega
        have HG1 := Lib.hid (gls_one (w := (wr2.alloc (.cells #[.string (str cn), .int .i64 ck] 27))) (b := wr2.heap.size) (c := ⟨cn, ck⟩) (World.cell?_alloc_new _ _ _ _) (World.cell?_alloc_new _ _ _ _) (by simp))
        have HPC := Lib.hid (fun w5 v' o => Mk.col (w := wr2) (w4 := w5) (v' := v') (c := ⟨cn, ck⟩) (o := o) HM.out)
        have hgg4 := HM.out.gG
        go_cut [39] from 41 to 50 (fun s39 wx => ∃ (a5 : Option Addr) (c5 : Nat), Hid (Mk wx W1.heap.size H ((ns.take j).map (pickC t) ++ [⟨cn, ck⟩]) ((ns.take j).map (pickV t vs)) (.slice a5 (j + 1) c5) (.slice da2 j dc2)) ∧ Hid (Below W1.heap.size W1 wx))
        case first =>
          go_region_law (first
            | (refine step_append_gls rfl (.tmp 42) (.tmp 48) rfl (W1.heap.size) _ ((ns.take j).map (pickC t)) rfl (GRow.below HGR.out (by first | exact Below.refl _ _ | exact (Below.refl _ _).drew)) (some ⟨wr2.heap.size, 0, none⟩) 1 1 [⟨cn, ck⟩] rfl rfl (fun h => by cases h) (HG1.out.next at2_firm (by first | exact Below.refl _ _ | exact (Below.refl _ _).drew)) hgl hbs ?_; intro v' w5 hr5 hb5 hf5 hs5; obtain ⟨a5, c5, hv5⟩ := grow_form1 hr5; rw [HDL.out] at hv5; subst hv5; have o5 := HPC.out _ _ _ hr5 hf5; have t5 := two_far (HM.out.move hal4).two hgg4 hf5; have x5 := t5.c0; have k5 := t5.free 0))
          all_goals
            go_wp2_with fail
            go_meet
            exact ⟨a5, c5, Lib.hid o5, Lib.hid ((((b_w.alloc b_w.size _).drew).trans hb5).setCell (p := ⟨H, 0, none⟩) hHw _)⟩
        case rest =>
          obtain ⟨a5, c5, HM5, HB5⟩ := hcut
          have d0 := HM5.out.two.c1
          have kvc := KV.out wc HB5.out
          have dP1 := (HP.out.next HB5.out).c1
          have hal5 : Below wc.heap.size wc (wc.alloc (.cells #[.slice ua rl uc] 34)) := (Below.refl _ _).alloc (Nat.le_refl _) _
          have d2 := (HM5.out.move hal5).two.c1
          have HVR5 := Lib.hid (HM5.out.vro.below hal5)
          have hvl5 : (((ns.take j).map (pickV t vs)).length + 1) * 24 ≤ 140737488355328 := by rw [HVL.out]; omega
          have hbs5 : W1.heap.size ≤ (wc.alloc (.cells #[.slice ua rl uc] 34)).heap.size := by have := HB5.out.size; simp; omega
          have HPV := Lib.hid (fun w5 v' u o => Mk.val (w := wc) (w4 := w5) (v' := v') (u := u) (o := o) HM5.out)
          have hgg5 := HM5.out.gD
          clear a1 a2 HGR HG1 HPC hgg4 hal4 e0 e1
          go_wp2_with fail
          go_region_law (first
            | (refine step_append_v rfl (.tmp 52) (.tmp 58) rfl (W1.heap.size) _ ((ns.take j).map (pickV t vs)) rfl (VRow.below HVR5.out (by first | exact Below.refl _ _ | exact (Below.refl _ _).drew)) wc.heap.size (.slice ua rl uc) rfl (by simp) rfl hvl5 hbs5 ?_; intro v' w6 hr6 hb6 hf6 hs6; obtain ⟨a6, c6, hv6⟩ := vrow_form1 hr6; rw [HVL.out] at hv6; subst hv6; have o6 := HPV.out _ _ _ _ hr6 hf6; have t6 := two_far (HM5.out.move hal5).two hgg5 hf6; have x6 := t6.c1; have k6 := t6.free 1))
          all_goals
            go_wp2_with fail
            exact ⟨⟨j + 1, _, _, by omega, by go_num, Lib.hid (by rw [HSTC.out, HSTV.out]; exact o6), (((HB5.out.alloc HB5.out.size _).drew).trans hb6).setCell (p := ⟨H, 1, none⟩) hHw _, HF, HAN⟩, by simp [intOf]; omega⟩
    · obtain rfl : j = ns.length := by omega
      have hE : E = 0 := by rw [HE.out, List.drop_length]; rfl
      have HEZ := Lib.hid hE
      clear hE HE
      rw [List.take_length] at HM HAS
      obtain ⟨ga, gc, hge⟩ := grow_form HM.out.gro
      subst hge
      obtain ⟨da2, dc2, hge2⟩ := vrow_form HM.out.vro
      subst hge2
      have z0 := HM.out.two.c0
      have z1 := HM.out.two.c1
      rw [List.length_map] at z0 z1
      have q0 := HR.out.next b_w
      have q1 := q0.s0 (.slice ga ns.length gc)
      have q2 := q1.s1 (.slice da2 ns.length dc2)
      have b0 := q0.c0
      have f0 := q0.free 0
      have b1 := q1.c1
      have f1 := q1.free 1
      have y0 := q2.c0
      have y1 := q2.c1
      have hrb : w.heap.size ≤ w.heap.size + 1 := by omega
      have HB3 := Lib.hid (((below_then HAL.out b_w).setCell (p := ⟨w.heap.size + 1, 0, none⟩) hrb (.slice ga ns.length gc)).setCell (p := ⟨w.heap.size + 1, 1, none⟩) hrb (.slice da2 ns.length dc2))
      clear q0 q1 q2
      go_wp2_with fail
      refine bodyPost_ret (v := .tuple #[tag ga ns.length gc da2 ns.length dc2, .int .i64 0]) (by simp [results, Try.results32, go_sem, y0, y1]) rfl ?_
      have HRD2 := reads_pick (HRD.out.next HB3.out) HLEN.out ns HAS.out.1
      obtain ⟨xa, xc, xd, xe, h1, h2, h3⟩ := mk_tbl HM.out (W := (wr.setCell ⟨w.heap.size + 1, 0, none⟩ (.slice ga ns.length gc)).setCell ⟨w.heap.size + 1, 1, none⟩ (.slice da2 ns.length dc2)) (fun z hz => by
        have h2 := HSZ.out
        rw [heap_set _ _ _ _ (by simp; omega), heap_set _ _ _ _ (by simp; omega)]) HRD2 (fun c hc => by
        obtain ⟨n, hn, rfl⟩ := List.mem_map.1 hc
        exact HGD.out n (HAS.out.1 n hn))
      injection h1 with h11 h12 h13
      injection h2 with h21 h22 h23
      subst h11 h13 h21 h23
      rw [HCH.out, HEZ.out, if_neg (by simp), HPROJ.out]
      exact ⟨ga, gc, da2, dc2, by simp, h3, HB3.out⟩
end Go.Proofs.Ytnjnalehfhfefaa
