/- (*changed).sweep. -/
import Derived.Test.YtmjcdjekakaigaaFsSwP
import Derived.RegionTactic
import Derived.BigRegion
namespace Go.Proofs.Ytmjcdjekakaigaa.Fs
open Go.RowKit Go.Maps Go.WideMaps
set_option linter.unusedVariables false

set_option maxHeartbeats 4000000 in
set_option maxRecDepth 100000 in
theorem sweep_any (B G : Nat) (f : T) (nv dv sv : Value) (w : World) (h : Chg w B G f nv dv sv) (hn : f.nodes.length ≤ 1048576) (hd : f.dir.length ≤ 1048576) (hs : f.syn.length ≤ 1048576)
    (hr : ∀ e, e ∈ f.dir ∨ e ∈ f.syn → 0 ≤ e.node ∧ e.node < (f.nodes.length : Int)) :
    Calls Try.prog 26 #[.pointer (some ⟨G, 0, none⟩)] w (MetPost B G (swept f) w) := by
  obtain ⟨p, e1, e2, e3, hf⟩ := h.toOwn.fss
  subst e1; subst e2; subst e3
  have HST := Lib.hid (staying_any p f w hd hs hf)
  have HF := Lib.hid hf
  have HH := Lib.hid h
  have HR := Lib.hid hr
  have HNO := Lib.hid (fun k (hk : k < f.nodes.length) => h.nok _ (getD_mem f.nodes nulN k hk))
  obtain ⟨c0, c1, c2⟩ := h.bk.three
  have HB0 := Lib.hid h.base
  have HSW := Lib.hid (show swept f = ⟨keepN f.dir f.syn f.nodes f.nodes.length, f.dir.map (movE f.dir f.syn), f.syn.map (movE f.dir f.syn)⟩ from rfl)
  clear h hf hr
  obtain ⟨an, cn, ad, cd, ay, cy⟩ := p
  unfold fsV at HST
  simp only at *
  go_enter Try.func26, Try.ntmps26
  go_wp2_with fail
  refine (HST.out).mono ?_
  rintro e w1 ⟨M, rfl, hM, hown, hb1⟩
  have h1 := HH.out.move hb1
  obtain ⟨d0, d1, d2⟩ := h1.bk.three
  have HM0 := Lib.hid hown
  have HHF := Lib.hid (Half.start f.dir f.syn)
  clear h1 hown
  generalize Maps.setOf z0 (accOf (f.dir ++ f.syn)) = D0 at *
  go_wp2_with fail
  have HKY := Lib.hid (fun (k : Nat) (D : D1) (hk : named f.dir f.syn (k : Int) = true) (hh : Half f.dir f.syn D k) => hh.yes hk)
  have HKN := Lib.hid (fun (k : Nat) (D : D1) (hk : named f.dir f.syn (k : Int) = false) (hh : Half f.dir f.syn D k) => hh.no hk)
  have hS0 : w.heap.size ≤ w1.heap.size := hb1.size
  clear d0 d1 d2 c0 c1 c2 HST
  go_loopw [3, 23] (fun v i wr => ∃ (k cnt : Nat) (D : D1), k ≤ f.nodes.length ∧ i = .int .i64 k ∧ Hid (NRow w.heap.size (keepN f.dir f.syn f.nodes k) v wr) ∧ Hid (MapI wr M cnt D) ∧ cnt ≤ f.dir.length + f.syn.length + k ∧ Hid (Half f.dir f.syn D k) ∧ Below w.heap.size w wr) (fun _ i _ => f.nodes.length - (intOf i).toNat)
  case atStart => exact ⟨0, _, D0, by omega, rfl, Lib.hid (nnil _ _), HM0, by omega, HHF, hb1⟩
  case round =>
    obtain ⟨k, cnt, D, hk, rfl, HNR, HMP, hcnt, HHD, hbw⟩ := hrel
    by_cases hlt : k < f.nodes.length
    · obtain ⟨bb, off, rfl, hbb, hcc⟩ := HF.out.nds (fun e => by rw [e] at hlt; simp at hlt)
      obtain ⟨k0, k1⟩ := hcc k hlt
      have e0 := (hbw.cell (p := ⟨bb, off + k * 2, none⟩) hbb).trans k0
      have e1 := (hbw.cell (p := ⟨bb, off + k * 2 + 1, none⟩) hbb).trans k1
      have hkI : (k : Int) < (f.nodes.length : Int) := by omega
      have HNX := Lib.hid (HNO.out k hlt)
      have HKEY := Lib.hid (key_int (k : Int) (by omega) (by omega))
      have hhas := HHD.out.has (k : Int)
      have HON := Lib.hid (fun W => nds_one W (f.nodes.getD k nulN))
      have hKY := HKY.out k D
      have hKN := HKN.out k D
      have hyes := fun h => keepN_yes (d := f.dir) (s := f.syn) f.nodes (k := k) h
      have hno := fun h => keepN_no (d := f.dir) (s := f.syn) f.nodes (k := k) h
      have hlen := keepN_len f.dir f.syn f.nodes k
      have hfl := fewer_le f.dir f.syn k
      generalize str (f.nodes.getD k nulN).live = X at *
      generalize str (f.nodes.getD k nulN).syn = Y at *
      generalize hnd : f.nodes.getD k nulN = nd at *
      have hbA : Below w.heap.size w (wr.alloc (.cells #[.string X, .string Y] 49)) := hbw.alloc hbw.size _
      have hBA := bk_new wr 49 #[.string X, .string Y]
      have HMA := Lib.hid (show MapI (wr.alloc (.cells #[.string X, .string Y] 49)) M cnt D from World.ownsMap.alloc HMP.out _)
      have HNA := Lib.hid (show NRow w.heap.size (keepN f.dir f.syn f.nodes k) _ (wr.alloc (.cells #[.string X, .string Y] 49)) from World.ownsRow.alloc HNR.out _)
      clear k0 k1 hcc hnd
      generalize hK : keepN f.dir f.syn f.nodes k = K at *
      obtain ⟨a3, c3, rfl, -, hc3⟩ := nrow_nds HNR.out
      have hKm : K.length ≤ 1048576 := by omega
      clear hK
      by_cases hnm : named f.dir f.syn (k : Int) = true
      · have HY := Lib.hid (hyes hnm)
        have HD2 := Lib.hid (hKY hnm HHD.out)
        rw [hnm] at hhas
        rw [← hlen] at HD2
        clear hyes hno hKY hKN hnm hlen hfl
        go_wp2_with (at_lookup; refine wpList_lookup_own_ok_int _ rfl (.tmp 29) (.tmp 30) 66 rfl 3 3 .i64 law_int Try.underlying66 Try.underlying3 (zero_int _) M cnt D rfl HMA.out _ _ rfl HKEY.out ?_)
        intro cv hat hwc
        clear hat hwc
        go_wp2_with (at_mapUpdate; refine wpList_mapUpdate_own _ rfl (.tmp 35) (.tmp 36) (.tmp 38) 66 rfl 3 3 law_int Try.underlying66 _ M cnt _ rfl HMA.out (by unfold maxLen; omega) _ _ _ rfl rfl HKEY.out _ [] (elem_int (K.length : Int) (by omega) (by omega)) ?_)
        intro w5 hown5 hg5
        have hMl := HMA.out.lt
        have hMlt : M < wr.heap.size := HMP.out.lt
        have hB5 := hBA.move (hg5.block wr.heap.size hBA.lt (by intro e; injection e with e; omega))
        obtain ⟨t0, t1⟩ := hB5.two
        have hN5 : NRow w.heap.size K (.slice a3 K.length c3) w5 := row_move HNA.out (fun g hg => hg5.block g (HNA.out.lt g hg).2 (fun e => map_ne HMA.out HNA.out g hg (by injection e)))
        have HN6 := Lib.hid (show NRow w.heap.size K (.slice a3 K.length c3) (w5.alloc (.cells #[.string X, .string Y] 49)) from World.ownsRow.alloc hN5 _)
        have HM6 := Lib.hid (show MapI (w5.alloc (.cells #[.string X, .string Y] 49)) M (cnt + 1) _ from World.ownsMap.alloc hown5 _)
        have hb5 : Below w.heap.size w w5 := hbA.grown hg5 hbA.size (fun j hj => by cases hj; exact hM)
        have hb6a : Below w.heap.size w (w5.alloc (.cells #[.string X, .string Y] 49)) := hb5.alloc hb5.size _
        have hby : (K.length + 1) * 32 ≤ 140737488355328 := by omega
        have hbase := hb6a.size
        clear hown5 hg5 hN5 hB5 hBA
        go_wp2_with (at_builtin; refine wpList_append_nd rfl (.tmp 39) (.tmp 41) rfl w.heap.size _ K rfl HN6.out (some ⟨w5.heap.size, 0, none⟩) 1 1 [nd] rfl rfl (fun h => by cases h) (HON.out w5) hby hbase ?_)
        intro v6 w6 hr6 hb6 hg6
        have HM7 := Lib.hid (map_keep HM6.out (hg6.block M HM6.out.lt (fun e => map_ne HM6.out HN6.out M e.symm rfl)))
        have HR6 := Lib.hid (show NRow w.heap.size (keepN f.dir f.syn f.nodes (k + 1)) v6 w6 by rw [HY.out]; exact hr6)
        clear hr6 hg6
        go_wp2_with fail
        exact ⟨⟨k + 1, cnt + 1, _, by omega, by go_num, HR6, HM7, by omega, HD2, hb6a.trans hb6⟩, by simp [intOf]; omega⟩
      · have hnm : named f.dir f.syn (k : Int) = false := by simpa using hnm
        have HY := Lib.hid (hno hnm)
        have HD2 := Lib.hid (hKN hnm HHD.out)
        rw [hnm] at hhas
        have HNB := Lib.hid (show NRow w.heap.size (keepN f.dir f.syn f.nodes (k + 1)) _ (wr.alloc (.cells #[.string X, .string Y] 49)) by rw [HY.out]; exact HNA.out)
        clear hyes hno hKY hKN hnm hlen hfl
        go_wp2_with (at_lookup; refine wpList_lookup_own_ok_int _ rfl (.tmp 29) (.tmp 30) 66 rfl 3 3 .i64 law_int Try.underlying66 Try.underlying3 (zero_int _) M cnt D rfl HMA.out _ _ rfl HKEY.out ?_)
        intro cv hat hwc
        clear hat hwc
        go_wp2_with fail
        exact ⟨⟨k + 1, cnt, D, by omega, by go_num, HNB, HMA, by omega, HD2, hbA⟩, by simp [intOf]; omega⟩
    · obtain rfl : k = f.nodes.length := by omega
      have h1 := HH.out.move hbw
      obtain ⟨d0, d1, d2⟩ := h1.bk.three
      have g0 := h1.bk.free 0
      have HKO := Lib.hid (show ∀ x ∈ keepN f.dir f.syn f.nodes f.nodes.length, ndOk x from fun x hx => by
        unfold keepN at hx
        obtain ⟨i, hi, rfl⟩ := List.mem_map.1 hx
        exact HNO.out i (List.mem_range.1 (List.mem_filter.1 hi).1))
      generalize keepN f.dir f.syn f.nodes f.nodes.length = K at *
      obtain ⟨a3, c3, rfl, -, hc3⟩ := nrow_nds HNR.out
      have hC2 : Chg (wr.setCell ⟨G, 0, none⟩ (.slice a3 K.length c3)) B G ⟨K, mixF (movE f.dir f.syn) f.dir 0, f.syn⟩ (.slice a3 K.length c3) (.slice ad f.dir.length cd) (.slice ay f.syn.length cy) := by
        rw [mixF_zero]
        exact h1.turn h1.bk ⟨HNR.out.weak HB0.out, h1.dro, h1.sro, h1.far, HKO.out, h1.dok, h1.sok⟩ rfl
      have hGM : G < w.heap.size := HH.out.bk.lt
      have hM2 : MapI (wr.setCell ⟨G, 0, none⟩ (.slice a3 K.length c3)) M cnt D := map_keep HMP.out (heap_set _ _ _ _ (by show ¬ M = G; omega))
      have hb2 : Below B w (wr.setCell ⟨G, 0, none⟩ (.slice a3 K.length c3)) := (hbw.mono HB0.out).setCell (p := ⟨G, 0, none⟩) HH.out.ge _
      have HC2 := Lib.hid hC2
      have HM2 := Lib.hid hM2
      have HB2 := Lib.hid hb2
      obtain ⟨x0, x1, x2⟩ := hC2.bk.three
      have HDD := Lib.hid HHD.out
      have HFD := Lib.hid (fun j (hj : j < f.dir.length) => mixF_at (movE f.dir f.syn) f.dir j hj)
      have HFT := Lib.hid (fun j (hj : j < f.dir.length) => mixF_set (movE f.dir f.syn) f.dir j hj)
      have HFS := Lib.hid (fun j (hj : j < f.syn.length) => mixF_at (movE f.dir f.syn) f.syn j hj)
      have HFU := Lib.hid (fun j (hj : j < f.syn.length) => mixF_set (movE f.dir f.syn) f.syn j hj)
      clear hC2 hM2 hb2 h1 HMP HNR HHD HKY HKN HHF HM0 HNO HF
      go_wp2_with fail
      generalize wr.setCell ⟨G, 0, none⟩ (.slice a3 K.length c3) = W2 at *
      clear x0 x1 x2 d0 d1 d2 g0 hbw
      go_loopw [55] (fun i wr => ∃ j : Nat, j ≤ f.dir.length ∧ i = .int .i64 j ∧ Hid (Chg wr B G ⟨K, mixF (movE f.dir f.syn) f.dir j, f.syn⟩ (.slice a3 K.length c3) (.slice ad f.dir.length cd) (.slice ay f.syn.length cy)) ∧ Hid (MapI wr M cnt D) ∧ Below B w wr) (fun i _ => f.dir.length - (intOf i).toNat)
      case atStart => exact ⟨0, by omega, rfl, HC2, HM2, HB2.out⟩
      case round =>
        obtain ⟨j, hj, rfl, HC, HMJ, hbw⟩ := hrel
        by_cases hlt2 : j < f.dir.length
        · have hjl : j < (mixF (movE f.dir f.syn) f.dir j).length := by rw [mixF_len _ _ _ hj]; exact hlt2
          obtain ⟨g, n9, c9, eq9, hn9, hBg, k0, k1, hfz, hlc, hcm⟩ := HC.out.dro.at hjl
          injection eq9 with q1 q2 q3
          subst q1; subst q2; subst q3
          rw [HFD.out j hlt2] at k0 k1
          have hjI : (j : Int) < (f.dir.length : Int) := by omega
          have hrg := HR.out _ (Or.inl (getD_mem f.dir nulE j hlt2))
          have hgt := HDD.out.get (l := f.dir) (Or.inl rfl) (getD_mem f.dir nulE j hlt2) hrg
          have hok := HC.out.dok _ (getD_mem _ nulE j hjl)
          rw [HFD.out j hlt2] at hok
          have hfw : (movE f.dir f.syn (f.dir.getD j nulE)).node ≤ 1048576 ∧ 0 ≤ (movE f.dir f.syn (f.dir.getD j nulE)).node := by
            have := fewer_le f.dir f.syn (f.dir.getD j nulE).node.toNat
            unfold movE
            simp only
            omega
          have hy : enOk (movE f.dir f.syn (f.dir.getD j nulE)) := ⟨hok.1, by omega, by omega⟩
          have hset := HFT.out j hlt2
          have hCA := (HC.out.move ((Below.refl _ _).alloc (Nat.le_refl _) (.cells #[.string (str (f.dir.getD j nulE).name), .int .i64 (f.dir.getD j nulE).node] 47))).move (Below.refl _ _).drew
          have hPD := hCA.putD (i := j) (j := 1) (u := .int .i64 (movE f.dir f.syn (f.dir.getD j nulE)).node) (y := movE f.dir f.syn (f.dir.getD j nulE)) hjl (by omega) (by rw [HFD.out j hlt2]; rfl) hy
          rw [hset] at hPD
          have hMA : MapI (wr.alloc (.cells #[.string (str (f.dir.getD j nulE).name), .int .i64 (f.dir.getD j nulE).node] 47)).drew M cnt D := World.ownsMap.alloc HMJ.out _
          obtain ⟨cv, hrun, hat, -⟩ := hMA.lookup_int law_int Try.underlying66 Try.underlying3 (zero_int _) (key_int (f.dir.getD j nulE).node (by omega) (by omega))
          have hcv : cv = (movE f.dir f.syn (f.dir.getD j nulE)).node := by
            have e := hat.symm.trans hgt
            injection e with e
            injection e
          subst hcv
          have hgM : M ≠ g := fun e => map_ne hMA hCA.dro g rfl e.symm
          obtain ⟨x0, x1, x2⟩ := hCA.bk.three
          have y1 := (hCA.dro.at hjl)
          have hPM : MapI ((wr.alloc (.cells #[.string (str (f.dir.getD j nulE).name), .int .i64 (f.dir.getD j nulE).node] 47)).drew.setCell ⟨g, j * 2 + 1, none⟩ (.int .i64 (movE f.dir f.syn (f.dir.getD j nulE)).node)) M cnt D := map_keep hMA (heap_set _ _ _ _ hgM)
          have hPB : Below B w ((wr.alloc (.cells #[.string (str (f.dir.getD j nulE).name), .int .i64 (f.dir.getD j nulE).node] 47)).drew.setCell ⟨g, j * 2 + 1, none⟩ (.int .i64 (movE f.dir f.syn (f.dir.getD j nulE)).node)) := ((hbw.alloc (Nat.le_trans HB0.out hbw.size) _).drew).setCell (p := ⟨g, j * 2 + 1, none⟩) hBg _
          have HPD := Lib.hid hPD
          have HPM := Lib.hid hPM
          have HPB := Lib.hid hPB
          have hlc2 : f.dir.length ≤ cd := by have := hlc; rw [mixF_len _ _ _ hj] at this; exact this
          clear hPD hPM hPB hCA hMA hat hgt hset hy hok y1 hn9 hlc hjl
          generalize (movE f.dir f.syn (f.dir.getD j nulE)).node = nn at *
          generalize (f.dir.getD j nulE).node = z at *
          generalize str (f.dir.getD j nulE).name = X at *
          have hbA := (Below.refl wr.heap.size wr).alloc (Nat.le_refl _) (.cells #[.string X, .int .i64 z] 47)
          have hgl := (HC.out.dro.lt g rfl).2
          have z1A := (hbA.frozen (p := ⟨g, j * 2 + 1, none⟩) hgl).trans (hfz (j * 2 + 1))
          have z2A := (hbA.cell (p := ⟨g, j * 2 + 1, none⟩) hgl).trans k1
          clear hbA hgl
          go_wp2_with fail
          go_region
          all_goals (go_wp2_with fail; exact ⟨⟨j + 1, by omega, by go_num, HPD, HPM, HPB.out⟩, by simp [intOf]; omega⟩)
        · obtain rfl : j = f.dir.length := by omega
          have hC3 : Chg wr B G ⟨K, f.dir.map (movE f.dir f.syn), mixF (movE f.dir f.syn) f.syn 0⟩ (.slice a3 K.length c3) (.slice ad f.dir.length cd) (.slice ay f.syn.length cy) := by
            rw [mixF_zero, ← mixF_all]; exact HC.out
          have HC3 := Lib.hid hC3
          have HM3 := HMJ
          obtain ⟨x0, x1, x2⟩ := hC3.bk.three
          clear hC3 HC HMJ
          go_wp2_with fail
          clear x0 x1 x2
          go_loopw [79] (fun i wr => ∃ j : Nat, j ≤ f.syn.length ∧ i = .int .i64 j ∧ Hid (Chg wr B G ⟨K, f.dir.map (movE f.dir f.syn), mixF (movE f.dir f.syn) f.syn j⟩ (.slice a3 K.length c3) (.slice ad f.dir.length cd) (.slice ay f.syn.length cy)) ∧ Hid (MapI wr M cnt D) ∧ Below B w wr) (fun i _ => f.syn.length - (intOf i).toNat)
          case atStart => exact ⟨0, by omega, rfl, HC3, HM3, hbw⟩
          case round =>
            obtain ⟨j, hj, rfl, HC, HMJ, hbw⟩ := hrel
            by_cases hlt2 : j < f.syn.length
            · have hjl : j < (mixF (movE f.dir f.syn) f.syn j).length := by rw [mixF_len _ _ _ hj]; exact hlt2
              obtain ⟨g, n9, c9, eq9, hn9, hBg, k0, k1, hfz, hlc, hcm⟩ := HC.out.sro.at hjl
              injection eq9 with q1 q2 q3
              subst q1; subst q2; subst q3
              rw [HFS.out j hlt2] at k0 k1
              have hjI : (j : Int) < (f.syn.length : Int) := by omega
              have hrg := HR.out _ (Or.inr (getD_mem f.syn nulE j hlt2))
              have hgt := HDD.out.get (l := f.syn) (Or.inr rfl) (getD_mem f.syn nulE j hlt2) hrg
              have hok := HC.out.sok _ (getD_mem _ nulE j hjl)
              rw [HFS.out j hlt2] at hok
              have hfw : (movE f.dir f.syn (f.syn.getD j nulE)).node ≤ 1048576 ∧ 0 ≤ (movE f.dir f.syn (f.syn.getD j nulE)).node := by
                have := fewer_le f.dir f.syn (f.syn.getD j nulE).node.toNat
                unfold movE
                simp only
                omega
              have hy : enOk (movE f.dir f.syn (f.syn.getD j nulE)) := ⟨hok.1, by omega, by omega⟩
              have hset := HFU.out j hlt2
              have hCA := (HC.out.move ((Below.refl _ _).alloc (Nat.le_refl _) (.cells #[.string (str (f.syn.getD j nulE).name), .int .i64 (f.syn.getD j nulE).node] 47))).move (Below.refl _ _).drew
              have hPD := hCA.putS (i := j) (j := 1) (u := .int .i64 (movE f.dir f.syn (f.syn.getD j nulE)).node) (y := movE f.dir f.syn (f.syn.getD j nulE)) hjl (by omega) (by rw [HFS.out j hlt2]; rfl) hy
              rw [hset] at hPD
              have hMA : MapI (wr.alloc (.cells #[.string (str (f.syn.getD j nulE).name), .int .i64 (f.syn.getD j nulE).node] 47)).drew M cnt D := World.ownsMap.alloc HMJ.out _
              obtain ⟨cv, hrun, hat, -⟩ := hMA.lookup_int law_int Try.underlying66 Try.underlying3 (zero_int _) (key_int (f.syn.getD j nulE).node (by omega) (by omega))
              have hcv : cv = (movE f.dir f.syn (f.syn.getD j nulE)).node := by
                have e := hat.symm.trans hgt
                injection e with e
                injection e
              subst hcv
              have hgM : M ≠ g := fun e => map_ne hMA hCA.sro g rfl e.symm
              obtain ⟨x0, x1, x2⟩ := hCA.bk.three
              have y1 := (hCA.sro.at hjl)
              have hPM : MapI ((wr.alloc (.cells #[.string (str (f.syn.getD j nulE).name), .int .i64 (f.syn.getD j nulE).node] 47)).drew.setCell ⟨g, j * 2 + 1, none⟩ (.int .i64 (movE f.dir f.syn (f.syn.getD j nulE)).node)) M cnt D := map_keep hMA (heap_set _ _ _ _ hgM)
              have hPB : Below B w ((wr.alloc (.cells #[.string (str (f.syn.getD j nulE).name), .int .i64 (f.syn.getD j nulE).node] 47)).drew.setCell ⟨g, j * 2 + 1, none⟩ (.int .i64 (movE f.dir f.syn (f.syn.getD j nulE)).node)) := ((hbw.alloc (Nat.le_trans HB0.out hbw.size) _).drew).setCell (p := ⟨g, j * 2 + 1, none⟩) hBg _
              have HPD := Lib.hid hPD
              have HPM := Lib.hid hPM
              have HPB := Lib.hid hPB
              have hlc2 : f.syn.length ≤ cy := by have := hlc; rw [mixF_len _ _ _ hj] at this; exact this
              clear hPD hPM hPB hCA hMA hat hgt hset hy hok y1 hn9 hlc hjl
              generalize (movE f.dir f.syn (f.syn.getD j nulE)).node = nn at *
              generalize (f.syn.getD j nulE).node = z at *
              generalize str (f.syn.getD j nulE).name = X at *
              have hbA := (Below.refl wr.heap.size wr).alloc (Nat.le_refl _) (.cells #[.string X, .int .i64 z] 47)
              have hgl := (HC.out.sro.lt g rfl).2
              have z1A := (hbA.frozen (p := ⟨g, j * 2 + 1, none⟩) hgl).trans (hfz (j * 2 + 1))
              have z2A := (hbA.cell (p := ⟨g, j * 2 + 1, none⟩) hgl).trans k1
              clear hbA hgl
              go_wp2_with fail
              go_region
              all_goals (go_wp2_with fail; exact ⟨⟨j + 1, by omega, by go_num, HPD, HPM, HPB.out⟩, by simp [intOf]; omega⟩)
            · obtain rfl : j = f.syn.length := by omega
              have hC4 : Chg wr B G ⟨K, f.dir.map (movE f.dir f.syn), f.syn.map (movE f.dir f.syn)⟩ (.slice a3 K.length c3) (.slice ad f.dir.length cd) (.slice ay f.syn.length cy) := by
                rw [← mixF_all (movE f.dir f.syn) f.syn]; exact HC.out
              have HC4 := Lib.hid hC4
              clear hC4 HC HMJ
              go_wp2_with fail
              go_end0
              exact ⟨rfl, hbw, _, _, _, by rw [HSW.out]; exact HC4.out⟩
end Go.Proofs.Ytmjcdjekakaigaa.Fs
