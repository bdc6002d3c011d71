/- The walks of table.Check, rows, Rows. -/
import Derived.Test.YtnjnalehfhfefaaTbW2
namespace Go.Proofs.Ytnjnalehfhfefaa
open Go.RowKit
set_option linter.unusedVariables false

theorem checkAt_fresh {t : Tb.T} {i : Nat} (h : Tb.fresh (t.cols.take i) (t.cols.getD i Tb.nulC) ≠ 0) : Tb.checkAt t i = Tb.fresh (t.cols.take i) (t.cols.getD i Tb.nulC) := by unfold Tb.checkAt; rw [if_pos h]
theorem checkAt_col {t : Tb.T} {i : Nat} (h : Tb.fresh (t.cols.take i) (t.cols.getD i Tb.nulC) = 0) (h2 : Tb.colE (t.cols.getD i Tb.nulC).kind (t.data.getD i []) ≠ 0) : Tb.checkAt t i = Tb.colE (t.cols.getD i Tb.nulC).kind (t.data.getD i []) := by
  unfold Tb.checkAt; rw [if_neg (by omega), if_pos h2]
theorem checkAt_len {t : Tb.T} {i : Nat} (h : Tb.fresh (t.cols.take i) (t.cols.getD i Tb.nulC) = 0) (h2 : Tb.colE (t.cols.getD i Tb.nulC).kind (t.data.getD i []) = 0) : Tb.checkAt t i = if (t.data.getD i []).length ≠ (t.data.getD 0 []).length then 1 else 0 := by
  unfold Tb.checkAt; rw [if_neg (by omega), if_neg (by omega)]
theorem take_gls {w : World} {b off : Nat} {cc : Nat} {l : List Tb.Col} {B : Nat} (h : Gls w B (some ⟨b, off, none⟩) l) (j : Nat) : Gls w B (some ⟨b, off, none⟩) (l.take j) := Sl.take h j

set_option maxHeartbeats 2000000 in
set_option maxRecDepth 100000 in
theorem tcheck_any (ca : Option Addr) (cc : Nat) (da : Option Addr) (dc : Nat) (t : Tb.T) (w : World) (ht : Tbl w w.heap.size ca cc da dc t) :
    Calls Try.prog 22 #[tag ca t.cols.length cc da t.data.length dc] w (CErrPost (Tb.check t) w) := by
  have hal : Below w.heap.size w (w.alloc (.cells #[.slice ca t.cols.length cc, .slice da t.data.length dc] 25)) := (Below.refl _ _).alloc (Nat.le_refl _) _
  have hT : Two (w.alloc (.cells #[.slice ca t.cols.length cc, .slice da t.data.length dc] 25)) w.heap.size 25 (.slice ca t.cols.length cc) (.slice da t.data.length dc) := two_new _ _ _ _
  have hcl := ht.ccap
  have hdl := ht.dcap
  have hcl1 := hcl.1
  have hcl2 := hcl.2.1
  have hdl1 := hdl.1
  have hdl2 := hdl.2.1
  unfold maxLen at hcl2 hdl2
  have d0 := hT.c0
  have d1 := hT.c1
  have hwz : w.heap.size < (w.alloc (.cells #[.slice ca t.cols.length cc, .slice da t.data.length dc] 25)).heap.size := hT.lt
  have HT := Lib.hid (ht.next hal)
  have HT0 := Lib.hid ht
  have HTW := Lib.hid hT
  unfold Tb.check
  by_cases h1 : 6 < t.cols.length
  · rw [if_pos h1]
    have g1 : decide ((6 : Int) < (t.cols.length : Int)) = true := decide_eq_true (by omega)
    clear ht hT
    go_enter Try.func22, Try.ntmps22
    go_wp2_with fail
    go_ret
    exact ⟨rfl, hal⟩
  rw [if_neg h1]
  have g1 : decide ((6 : Int) < (t.cols.length : Int)) = false := decide_eq_false (by omega)
  by_cases h2 : t.data.length ≠ t.cols.length
  · rw [if_pos h2]
    have g2 : ((t.data.length : Int) != (t.cols.length : Int)) = true := by rw [bne_iff_ne]; omega
    clear ht hT
    go_enter Try.func22, Try.ntmps22
    go_wp2_with fail
    go_ret
    exact ⟨rfl, hal⟩
  rw [if_neg h2]
  have g2 : ((t.data.length : Int) != (t.cols.length : Int)) = false := by rw [bne_eq_false_iff_eq]; omega
  have HHIT := Lib.hid (fun j (h : Tb.NoneYet (Tb.checkAt t) j) (hj : j < t.cols.length) h0 => h.hit hj h0)
  have HALL := Lib.hid (fun (h : Tb.NoneYet (Tb.checkAt t) t.cols.length) => h.all)
  have HL := Lib.hid (show t.data.length = t.cols.length by omega)
  have HF := Lib.hid (fun j => Tb.fresh_lt (t.cols.take j) (t.cols.getD j Tb.nulC))
  have HE := Lib.hid (fun j => Tb.colE_lt (t.cols.getD j Tb.nulC).kind (t.data.getD j []))
  have HC1 := Lib.hid (fun j h => checkAt_fresh (t := t) (i := j) h)
  have HC2 := Lib.hid (fun j h h2 => checkAt_col (t := t) (i := j) h h2)
  have HC3 := Lib.hid (fun j h h2 => checkAt_len (t := t) (i := j) h h2)
  generalize Tb.firstE (Tb.checkAt t) t.cols.length 0 = R at *
  generalize hW : w.alloc (.cells #[.slice ca t.cols.length cc, .slice da t.data.length dc] 25) = W1 at *
  have HW := Lib.hid hW
  clear hW ht hT h2
  go_enter Try.func22, Try.ntmps22
  go_wp2_with fail
  rw [HW.out]
  go_wp2_with fail
  go_loopw [3, 4, 5, 6, 21] (fun _ _ _ _ i wr => ∃ j : Nat, j ≤ t.cols.length ∧ i = .int .i64 j ∧ Below W1.heap.size W1 wr ∧ Hid (Tb.NoneYet (Tb.checkAt t) j)) (fun _ _ _ _ i _ => t.cols.length - (intOf i).toNat)
  case atStart => exact ⟨0, by omega, rfl, Below.refl _ _, Lib.hid (Tb.NoneYet.zero _)⟩
  case round =>
    obtain ⟨j, hj, rfl, hbw, HJ⟩ := hrel
    have hbw0 := below_then hal hbw
    by_cases hlt : j < t.cols.length
    · obtain ⟨bb, off, rfl, hbb, hcc⟩ := HT.out.gls (fun e => by rw [e] at hlt; simp at hlt)
      have hltd : j < t.data.length := by rw [HL.out]; exact hlt
      obtain ⟨db, doff, rfl, hdb, hdd⟩ := HT.out.dat (fun e => by rw [e] at hltd; simp at hltd)
      obtain ⟨ai, ci, r0, hrow⟩ := hdd j hltd
      obtain ⟨a0, c0', s0, hrow0⟩ := hdd 0 (by omega)
      obtain ⟨k0, k1⟩ := hcc j hlt
      have hg := HT.out.gOk (t.cols.getD j Tb.nulC) (by simp only [List.getD, List.getElem?_eq_getElem hlt, Option.getD_some]; exact List.getElem_mem hlt)
      have e0 := (hbw.cell (p := ⟨bb, off + j * 2, none⟩) hbb).trans k0
      have e1 := (hbw.cell (p := ⟨bb, off + j * 2 + 1, none⟩) hbb).trans k1
      have hTr := HTW.out.next hbw
      have t0 := hTr.c0
      have t1 := hTr.c1
      have HG := Lib.hid (fun W (hb : Below W1.heap.size W1 W) => show Calls Try.prog 43 #[.slice (some ⟨bb, off, none⟩) j cc, gag (t.cols.getD j Tb.nulC)] W (CErrPost (Tb.fresh (t.cols.take j) (t.cols.getD j Tb.nulC)) W) by
        have := fresh_any (some ⟨bb, off, none⟩) cc (t.cols.take j) (t.cols.getD j Tb.nulC) W (by rw [List.length_take]; unfold maxLen; omega) ((HT.out.gls.take j).next at2_firm hb) hg
        rwa [List.length_take, Nat.min_eq_left (by omega)] at this)
      have HCC := Lib.hid (fun W (hb : Below W1.heap.size W1 W) => colcheck_any (t.cols.getD j Tb.nulC).kind ai ci (t.data.getD j []) W (hrow.next hb))
      have hl1 := HF.out j
      have hl2 := HE.out j
      have hc1 := HC1.out j
      have hc2 := HC2.out j
      have hc3 := HC3.out j
      have hh := HHIT.out j HJ.out hlt
      have hn := fun h => Lib.hid (HJ.out.succ (f := Tb.checkAt t) (j := j) h)
      have hrm := hrow.max
      have hrm0 := hrow0.max
      unfold maxLen at hrm hrm0
      generalize Tb.checkAt t j = X at *
      generalize Tb.fresh (t.cols.take j) (t.cols.getD j Tb.nulC) = er1 at *
      generalize Tb.colE (t.cols.getD j Tb.nulC).kind (t.data.getD j []) = er2 at *
      unfold gag at HG
      generalize (t.cols.getD j Tb.nulC).kind = kd at *
      generalize str (t.cols.getD j Tb.nulC).name = nm at *
      generalize (t.data.getD j []).length = n1 at *
      generalize (t.data.getD 0 []).length = n0 at *
      have hjI : (j : Int) < (t.cols.length : Int) := by omega
      have hjD : (j : Int) < (t.data.length : Int) := by omega
      have h0D : 0 < t.data.length := by omega
      have hjc : j ≤ cc := by omega
      have ha0 : Below W1.heap.size W1 (wr.alloc (.cells #[.string nm, .int .i64 kd] 27)) := hbw.alloc hbw.size _
      have hT2 := two_new wr 27 (.string nm) (.int .i64 kd)
      generalize hW2 : wr.alloc (.cells #[.string nm, .int .i64 kd] 27) = W2 at *
      have HW2 := Lib.hid hW2
      have hTw := HTW.out.next ha0
      have rr0 := (ha0.cell (p := ⟨db, doff + j, none⟩) hdb).trans r0
      have ss0 := (ha0.cell (p := ⟨db, doff + 0, none⟩) hdb).trans s0
      have hdb2 : db < W2.heap.size := Nat.lt_of_lt_of_le hdb ha0.size
      have p0 := fun p : WB W2 => p.cell hTw.lt hTw.c0
      have p1 := fun p : WB W2 => p.cell hTw.lt hTw.c1
      have p2 := fun p : WB W2 => p.cell hT2.lt hT2.c0
      have p3 := fun p : WB W2 => p.cell hT2.lt hT2.c1
      have p4 := fun p : WB W2 => p.cell hdb2 rr0
      have p5 := fun p : WB W2 => p.cell hdb2 ss0
      rw [Nat.add_zero] at p5
      have HTw := Lib.hid hTw
      have HT2 := Lib.hid hT2
      clear k0 k1 r0 s0 t0 t1 hTr d0 d1 hcc hdd hg hW2 hrow hrow0 rr0 ss0 hTw hT2 HT0 HF HE HC1 HC2 HC3
      by_cases ho1 : er1 ≠ 0
      · have hX := hc1 ho1
        have HF := Lib.hid ((hh (by omega)).trans hX)
        have g3 : ((er1 : Int) != 0) = true := by rw [bne_iff_ne]; omega
        clear hh hn hc1 hc2 hc3 hX
        go_wp2_with fail
        rw [HW2.out]
        refine wp_region_wb (by kernel_rfl) (by kernel_rfl) ?_
        repeat (quiet_step ((go_at_call 43; refine calls_wb (v := .int .i64 (er1 : Int)) ?_; exact (HG.out _ (below_then ha0 (WB.below _))))))
        refine wpQuiet_nil ?_
        rintro _ ⟨p, rfl⟩
        have hp := p.below
        clear p0 p1 p2 p3 p4 p5
        go_wp2_with fail
        go_ret
        exact ⟨by rw [HF.out]; rfl, below_then (below_then hal ha0) hp⟩
      obtain rfl : er1 = 0 := by omega
      by_cases ho2 : er2 ≠ 0
      · have hX := hc2 rfl ho2
        have HF := Lib.hid ((hh (by omega)).trans hX)
        have g3 : ((er2 : Int) != 0) = true := by rw [bne_iff_ne]; omega
        clear hh hn hc1 hc2 hc3 hX
        go_wp2_with fail
        rw [HW2.out]
        refine wp_region_wb (by kernel_rfl) (by kernel_rfl) ?_
        repeat (quiet_step ((go_at_call 43; refine calls_wb (v := .int .i64 0) ?_; exact (HG.out _ (below_then ha0 (WB.below _))))))
        refine wpQuiet_nil ?_
        rintro _ ⟨p, rfl⟩
        have hp := p.below
        have q1 := fun q : WB p.w => q.cell (HTw.out.next hp).lt (HTw.out.next hp).c1
        have q3 := fun q : WB p.w => q.cell (HT2.out.next hp).lt (HT2.out.next hp).c1
        have q4 := fun q : WB p.w => q.cell (Nat.lt_of_lt_of_le hdb2 hp.size) (p4 p)
        clear p0 p1 p2 p3 p4 p5
        generalize p.w = W3 at *
        go_wp2_with fail
        refine wp_region_wb (by kernel_rfl) (by kernel_rfl) ?_
        repeat (quiet_step ((go_at_call 62; refine calls_wb (v := .int .i64 (er2 : Int)) ?_; exact (HCC.out _ (below_then (below_then ha0 hp) (WB.below _))))))
        refine wpQuiet_nil ?_
        rintro _ ⟨p, rfl⟩
        have hp2 := p.below
        clear q1 q3 q4
        go_wp2_with fail
        go_ret
        exact ⟨by rw [HF.out]; rfl, below_then (below_then (below_then hal ha0) hp) hp2⟩
      obtain rfl : er2 = 0 := by omega
      have hc3 := hc3 rfl rfl
      by_cases ho3 : n1 ≠ n0
      · rw [if_pos ho3] at hc3
        have HF := Lib.hid ((hh (by omega)).trans hc3)
        have g3 : ((n1 : Int) != (n0 : Int)) = true := by rw [bne_iff_ne]; omega
        clear hh hn hc1 hc2 hc3
        go_wp2_with fail
        rw [HW2.out]
        refine wp_region_wb (by kernel_rfl) (by kernel_rfl) ?_
        repeat (quiet_step ((go_at_call 43; refine calls_wb (v := .int .i64 0) ?_; exact (HG.out _ (below_then ha0 (WB.below _))))))
        refine wpQuiet_nil ?_
        rintro _ ⟨p, rfl⟩
        have hp := p.below
        have q1 := fun q : WB p.w => q.cell (HTw.out.next hp).lt (HTw.out.next hp).c1
        have q3 := fun q : WB p.w => q.cell (HT2.out.next hp).lt (HT2.out.next hp).c1
        have q4 := fun q : WB p.w => q.cell (Nat.lt_of_lt_of_le hdb2 hp.size) (p4 p)
        have q5 := Lib.hid (p5 p)
        have q6 := Lib.hid (p4 p)
        have q7 := Lib.hid (HTw.out.next hp)
        clear p0 p1 p2 p3 p4 p5
        have hdb3 := Nat.lt_of_lt_of_le hdb2 hp.size
        generalize p.w = W3 at *
        go_wp2_with fail
        refine wp_region_wb (by kernel_rfl) (by kernel_rfl) ?_
        repeat (quiet_step ((go_at_call 62; refine calls_wb (v := .int .i64 0) ?_; exact (HCC.out _ (below_then (below_then ha0 hp) (WB.below _))))))
        refine wpQuiet_nil ?_
        rintro _ ⟨p, rfl⟩
        have hp2 := p.below
        clear q1 q3 q4
        have z1 := fun q : WB p.w => q.cell (q7.out.next hp2).lt (q7.out.next hp2).c1
        have z4 := fun q : WB p.w => q.cell (Nat.lt_of_lt_of_le hdb3 hp2.size) (p.cell hdb3 q6.out)
        have z5 := fun q : WB p.w => q.cell (Nat.lt_of_lt_of_le hdb3 hp2.size) (p.cell hdb3 q5.out)
        generalize p.w = W4 at *
        go_wp2_with fail
        refine wp_region_wb (by kernel_rfl) (by kernel_rfl) ?_
        repeat (quiet_step (fail))
        refine wpQuiet_nil ?_
        rintro _ ⟨p, rfl⟩
        have hp3 := p.below
        clear z1 z4 z5
        go_wp2_with fail
        go_ret
        exact ⟨by rw [HF.out]; rfl, below_then (below_then (below_then (below_then hal ha0) hp) hp2) hp3⟩
      · rw [if_neg ho3] at hc3
        have HNX := hn hc3
        have g3 : ((n1 : Int) != (n0 : Int)) = false := by rw [bne_eq_false_iff_eq]; omega
        clear hh hn hc1 hc2 hc3
        go_wp2_with fail
        rw [HW2.out]
        refine wp_region_wb (by kernel_rfl) (by kernel_rfl) ?_
        repeat (quiet_step ((go_at_call 43; refine calls_wb (v := .int .i64 0) ?_; exact (HG.out _ (below_then ha0 (WB.below _))))))
        refine wpQuiet_nil ?_
        rintro _ ⟨p, rfl⟩
        have hp := p.below
        have q1 := fun q : WB p.w => q.cell (HTw.out.next hp).lt (HTw.out.next hp).c1
        have q3 := fun q : WB p.w => q.cell (HT2.out.next hp).lt (HT2.out.next hp).c1
        have q4 := fun q : WB p.w => q.cell (Nat.lt_of_lt_of_le hdb2 hp.size) (p4 p)
        have q5 := Lib.hid (p5 p)
        have q6 := Lib.hid (p4 p)
        have q7 := Lib.hid (HTw.out.next hp)
        clear p0 p1 p2 p3 p4 p5
        have hdb3 := Nat.lt_of_lt_of_le hdb2 hp.size
        generalize p.w = W3 at *
        go_wp2_with fail
        refine wp_region_wb (by kernel_rfl) (by kernel_rfl) ?_
        repeat (quiet_step ((go_at_call 62; refine calls_wb (v := .int .i64 0) ?_; exact (HCC.out _ (below_then (below_then ha0 hp) (WB.below _))))))
        refine wpQuiet_nil ?_
        rintro _ ⟨p, rfl⟩
        have hp2 := p.below
        clear q1 q3 q4
        have z1 := fun q : WB p.w => q.cell (q7.out.next hp2).lt (q7.out.next hp2).c1
        have z4 := fun q : WB p.w => q.cell (Nat.lt_of_lt_of_le hdb3 hp2.size) (p.cell hdb3 q6.out)
        have z5 := fun q : WB p.w => q.cell (Nat.lt_of_lt_of_le hdb3 hp2.size) (p.cell hdb3 q5.out)
        generalize p.w = W4 at *
        go_wp2_with fail
        refine wp_region_wb (by kernel_rfl) (by kernel_rfl) ?_
        repeat (quiet_step (fail))
        refine wpQuiet_nil ?_
        rintro _ ⟨p, rfl⟩
        have hp3 := p.below
        clear z1 z4 z5
        go_wp2_with fail
        exact ⟨⟨j + 1, by omega, by go_num, below_then (below_then (below_then ha0 hp) hp2) hp3, HNX⟩, by simp [intOf]; omega⟩
    · obtain rfl : j = t.cols.length := by omega
      have HF := Lib.hid (HALL.out HJ.out)
      go_wp2_with fail
      go_ret
      exact ⟨by rw [HF.out]; rfl, hbw0⟩
end Go.Proofs.Ytnjnalehfhfefaa
