/- The law BloomNever. -/
import Derived.Test.YtbhggbohkddlaaaBlB
import Derived.Test.YtbhggbohkddlaaaBlEqS
import Derived.Test.YtbhggbohkddlaaaBlClit
import Derived.Test.YtbhggbohkddlaaaCApp
namespace Go.Proofs.Ytbhggbohkddlaaa
open Go.RowKit
set_option linter.unusedVariables false

set_option maxHeartbeats 8000000 in
set_option maxRecDepth 100000 in
theorem bloomNever_walk (w : World) (f : Bl.F) (hf : Bl.fOk f) (a : Option Addr) (cap : Nat) (l : List C.Cl) (hm : l.length ≤ maxLen) (hq : l.length ≤ cap ∧ cap ≤ maxLen ∧ (a = none → cap = 0)) (hx : ∀ x ∈ l, cOk x) (hu : Cls w w.heap.size a l)
    (b : Option Addr) (cap2 : Nat) (m : List C.Cl) (hm2 : m.length ≤ maxLen) (hq2 : m.length ≤ cap2 ∧ cap2 ≤ maxLen ∧ (b = none → cap2 = 0)) (hx2 : ∀ x ∈ m, cOk x) (hv : Cls w w.heap.size b m)
    (c : C.Cl) (hc : cOk c) (hbd : l.length + m.length ≤ 1048576) :
    Calls Try.prog 4 #[fag f, .slice a l.length cap, .slice b m.length cap2, cag c] w (BoolPost true w) := by
  have hne : Bl.may (Bl.fil (Bl.add (Bl.fil f l) c) m) c = true := Bl.may_never f l m c
  have hXok : Bl.fOk (Bl.fil (Bl.add (Bl.fil f l) c) m) := Bl.fil_ok (Bl.add_ok (Bl.fil_ok hf l) c) m
  have HM1 := Lib.hid (fun W => by
    have := may_any (Bl.fil (Bl.add (Bl.fil f l) c) m) c W hXok hc
    rw [hne] at this; exact this)
  have HAD := Lib.hid (fun W => by
    have := add_any (Bl.fil (Bl.add (Bl.fil f l) c) m) c W hXok hc
    rw [(Bl.may_add _ _).1 hne] at this; exact this)
  have hYok : Bl.fOk (Bl.fil Bl.none_ (l ++ [c] ++ m)) := Bl.fil_ok Bl.none_ok _
  have HM2 := Lib.hid (fun W => by
    have := may_any (Bl.fil Bl.none_ (l ++ [c] ++ m)) c W hYok hc
    rw [show Bl.may (Bl.fil Bl.none_ (l ++ [c] ++ m)) c = true by rw [Bl.fil_append, Bl.fil_snoc]; exact Bl.may_never Bl.none_ l m c] at this; exact this)
  have hall : ∀ x ∈ l ++ [c] ++ m, cOk x := by
    intro x h
    rcases List.mem_append.1 h with h | h
    · rcases List.mem_append.1 h with h | h
      · exact hx x h
      · rw [List.mem_singleton.1 h]; exact hc
    · exact hx2 x h
  have HOF := Lib.hid (fun W a3 c3 (h : Cls W W.heap.size a3 (l ++ [c] ++ m)) => by
    have := of_any a3 c3 (l ++ [c] ++ m) W (by simp only [List.length_append, List.length_cons, List.length_nil]; unfold maxLen; omega) hall h
    rw [show (l ++ [c] ++ m).length = l.length + (m.length + 1) by simp only [List.length_append, List.length_cons, List.length_nil]; omega] at this
    exact this)
  have HSA := Lib.hid (fun j (h : j < l.length) => show Bl.add (Bl.fil f (l.take j)) (l.getD j C.null) = Bl.fil f (l.take (j + 1)) by rw [ctake_succ l j h, Bl.fil_snoc])
  have HSB := Lib.hid (fun j (h : j < m.length) => show Bl.add (Bl.fil (Bl.add (Bl.fil f l) c) (m.take j)) (m.getD j C.null) = Bl.fil (Bl.add (Bl.fil f l) c) (m.take (j + 1)) by rw [ctake_succ m j h, Bl.fil_snoc])
  have HCA := Lib.hid (fun j (h : j < l.length) W => add_any (Bl.fil f (l.take j)) (l.getD j C.null) W (Bl.fil_ok hf _) (hx _ (cgetD_mem l j h)))
  have HCB := Lib.hid (fun j (h : j < m.length) W => add_any (Bl.fil (Bl.add (Bl.fil f l) c) (m.take j)) (m.getD j C.null) W (Bl.fil_ok (Bl.add_ok (Bl.fil_ok hf l) c) _) (hx2 _ (cgetD_mem m j h)))
  have HCM := Lib.hid (fun W => add_any (Bl.fil f l) c W (Bl.fil_ok hf l) hc)
  have HEND := Lib.hid (show Bl.fil (Bl.add (Bl.fil f l) c) (m.take m.length) = Bl.fil (Bl.add (Bl.fil f l) c) m by rw [List.take_length])
  have HENDA := Lib.hid (show Bl.fil f (l.take l.length) = Bl.fil f l by rw [List.take_length])
  have HNA := Lib.hid hq.2.2
  have HNB := Lib.hid hq2.2.2
  have HUA := Lib.hid hu
  have HUB := Lib.hid hv
  have HL1 := Lib.hid (show (0 + l.length) * 32 ≤ 140737488355328 by omega)
  have HL2 := Lib.hid (show (l.length + 1) * 32 ≤ 140737488355328 by omega)
  have HL3 := Lib.hid (show ((l ++ [c]).length + m.length) * 32 ≤ 140737488355328 by simp only [List.length_append, List.length_cons, List.length_nil]; omega)
  have hlI : l.length ≤ 1048576 := by omega
  have hmI : m.length ≤ 1048576 := by omega
  have HCL := Lib.hid (one_clit c)
  clear hne hXok hYok hall hu hv hx hx2 hc hm hm2 hq hq2 hbd hf
  obtain ⟨X, hX⟩ : ∃ X, X = Bl.fil (Bl.add (Bl.fil f l) c) m := ⟨_, rfl⟩
  rw [← hX] at HM1 HAD HEND
  clear hX
  have e1 := eql_self X
  have hgd := guards_fil .eql
  have hcu : cag c = .agg #[.int .i64 c.kind, .int .u64 (c.num : Int), .string (str c.txt)] := rfl
  have hcag := cag
  unfold fag cag qv at *
  clear hcu hcag
  have t0 := tri_new (w.alloc (.cells (qv f) 23)) (.int .i64 c.kind) (.int .u64 (c.num : Int)) (.string (str c.txt))
  rw [show (w.alloc (.cells (qv f) 23)).heap.size = w.heap.size + 1 by simp] at t0
  have q0 := (quad_new w f).next ((Below.refl _ _).alloc (Nat.le_refl _) (.cells #[.int .i64 c.kind, .int .u64 (c.num : Int), .string (str c.txt)] 26))
  have hb0 : Below w.heap.size w ((w.alloc (.cells (qv f) 23)).alloc (.cells #[.int .i64 c.kind, .int .u64 (c.num : Int), .string (str c.txt)] 26)) := by
    refine Below.alloc (Below.alloc (Below.refl _ _) (Nat.le_refl _) _) ?_ _ <;> simp
  unfold qv at t0 q0 hb0
  go_enter Try.func4, Try.ntmps4
  go_wp2_with fail
  generalize (w.alloc (.cells #[.int .u64 (f 0 : Nat), .int .u64 (f 1 : Nat), .int .u64 (f 2 : Nat), .int .u64 (f 3 : Nat)] 23)).alloc (.cells #[.int .i64 c.kind, .int .u64 (c.num : Int), .string (str c.txt)] 26) = W1 at *
  go_loopw [9] (fun i wr => ∃ j : Nat, j ≤ l.length ∧ i = .int .i64 j ∧ Quad wr w.heap.size (Bl.fil f (l.take j)) ∧ Tri wr (w.heap.size + 1) (.int .i64 c.kind) (.int .u64 (c.num : Int)) (.string (str c.txt)) ∧ Below w.heap.size w wr) (fun i _ => l.length - (intOf i).toNat)
  case atStart => exact ⟨0, by omega, rfl, q0, t0, hb0⟩
  case round =>
    obtain ⟨j, hj, rfl, hF, hT, hbw⟩ := hrel
    by_cases hlt : j < l.length
    · obtain ⟨b', off, rfl, hb, hcc⟩ := HUA.out (fun e => by rw [e] at hlt; simp at hlt)
      obtain ⟨k0, k1, k2⟩ := hcc j hlt
      have c0 := (hbw.cell (p := ⟨b', off + j * 3, none⟩) hb).trans k0
      have c1 := (hbw.cell (p := ⟨b', off + j * 3 + 1, none⟩) hb).trans k1
      have c2 := (hbw.cell (p := ⟨b', off + j * 3 + 2, none⟩) hb).trans k2
      have HA := Lib.hid (HCA.out j hlt)
      have HN := Lib.hid (HSA.out j hlt)
      obtain ⟨Z, hZ⟩ : ∃ Z, Z = Bl.add (Bl.fil f (l.take j)) (l.getD j C.null) := ⟨_, rfl⟩
      rw [← hZ] at HA HN
      clear hZ
      generalize Bl.fil f (l.take j) = Y at *
      generalize (l.getD j C.null).kind = z at *
      generalize (l.getD j C.null).num = n at *
      generalize str (l.getD j C.null).txt = T at *
      obtain ⟨y0, y1, y2, y3⟩ := hF.all
      have hjI : (j : Int) < (l.length : Int) := by omega
      have HFD := Lib.hid hF.drew
      have HTD := Lib.hid hT.drew
      have HBD := Lib.hid hbw.drew
      have hs0 := hF.lt
      clear k0 k1 k2 hcc hF hT hbw
      go_wp2_with fail
      refine wp_region_still_tail 5 (by kernel_rfl) (by kernel_rfl) ?_
      simp only [List.take_succ_cons, List.take_zero, List.drop_succ_cons, List.drop_zero]
      rw [show ({ wr with drawn := wr.drawn + 1 } : World) = wr.drew from rfl]
      have c0 : wr.drew.cell? ⟨b', off + j * 3, none⟩ = some (.int .i64 z) := c0
      have c1 : wr.drew.cell? ⟨b', off + j * 3 + 1, none⟩ = some (.int .u64 (n : Int)) := c1
      have c2 : wr.drew.cell? ⟨b', off + j * 3 + 2, none⟩ = some (.string T) := c2
      have y0 : wr.drew.cell? ⟨w.heap.size, 0, none⟩ = some (.int .u64 (Y 0 : Nat)) := y0
      have y1 : wr.drew.cell? ⟨w.heap.size, 1, none⟩ = some (.int .u64 (Y 1 : Nat)) := y1
      have y2 : wr.drew.cell? ⟨w.heap.size, 2, none⟩ = some (.int .u64 (Y 2 : Nat)) := y2
      have y3 : wr.drew.cell? ⟨w.heap.size, 3, none⟩ = some (.int .u64 (Y 3 : Nat)) := y3
      generalize wr.drew = W9 at *
      repeat still_step
      refine wpStill_nil ?_
      go_wp2_with fail
      refine (HA.out _).mono ?_
      rintro e w5 ⟨rfl, hb5⟩
      have q5 := HFD.out.next hb5
      have t5 := HTD.out.next hb5
      have h5 := below_then HBD.out hb5
      clear hb5 HFD HTD HBD
      obtain ⟨v0, v1, v2, v3⟩ := q5.all
      have z0 := q5.free 0
      have z1 := q5.free 1
      have z2 := q5.free 2
      have z3 := q5.free 3
      go_wp2_with fail
      refine ⟨⟨j + 1, by omega, by go_num, ?_, ?_, below_set4 h5 (Nat.le_refl _) _ _ _ _⟩, by simp [intOf]; omega⟩
      · rw [← HN.out]; exact q5.set4 Z
      · exact t5.far4 _ _ _ _ _ (by omega)
    · obtain rfl : j = l.length := by omega
      rw [HENDA.out] at hF
      have HC2 := Lib.hid (fun W => HCM.out W)
      obtain ⟨y0, y1, y2, y3⟩ := hF.all
      have r0 := hT.c0
      have r1 := hT.c1
      have r2 := hT.c2
      generalize hY : Bl.add (Bl.fil f l) c = Y at *
      generalize Bl.fil f l = V at *
      go_wp2_with fail
      refine (HC2.out _).mono ?_
      rintro e w5 ⟨rfl, hb5⟩
      have q5 := hF.next hb5
      have t5 := hT.next hb5
      have h5 := below_then hbw hb5
      clear hb5 hF hT hbw y0 y1 y2 y3 r0 r1 r2 hY
      obtain ⟨v0, v1, v2, v3⟩ := q5.all
      have z0 := q5.free 0
      have z1 := q5.free 1
      have z2 := q5.free 2
      have z3 := q5.free 3
      have HQ6 := Lib.hid (q5.set4 Y)
      have HT6 := Lib.hid (t5.far4 w.heap.size (.int .u64 (Y 0 : Nat)) (.int .u64 (Y 1 : Nat)) (.int .u64 (Y 2 : Nat)) (.int .u64 (Y 3 : Nat)) (by omega))
      have HB6 := Lib.hid (below_set4 h5 (Nat.le_refl _) (.int .u64 (Y 0 : Nat)) (.int .u64 (Y 1 : Nat)) (.int .u64 (Y 2 : Nat)) (.int .u64 (Y 3 : Nat)))
      clear q5 t5 h5
      go_wp2_with fail
      clear v0 v1 v2 v3 z0 z1 z2 z3
      generalize (((w5.setCell ⟨w.heap.size, 0, none⟩ (.int .u64 (Y 0 : Nat))).setCell ⟨w.heap.size, 1, none⟩ (.int .u64 (Y 1 : Nat))).setCell ⟨w.heap.size, 2, none⟩ (.int .u64 (Y 2 : Nat))).setCell ⟨w.heap.size, 3, none⟩ (.int .u64 (Y 3 : Nat)) = W6 at *
      go_loopw [10] (fun i wr => ∃ j : Nat, j ≤ m.length ∧ i = .int .i64 j ∧ Quad wr w.heap.size (Bl.fil Y (m.take j)) ∧ Tri wr (w.heap.size + 1) (.int .i64 c.kind) (.int .u64 (c.num : Int)) (.string (str c.txt)) ∧ Below w.heap.size w wr) (fun i _ => m.length - (intOf i).toNat)
      case atStart => exact ⟨0, by omega, rfl, HQ6.out, HT6.out, HB6.out⟩
      case round =>
        obtain ⟨j, hj, rfl, hF, hT, hbw⟩ := hrel
        by_cases hlt : j < m.length
        · obtain ⟨b', off, rfl, hb, hcc⟩ := HUB.out (fun e => by rw [e] at hlt; simp at hlt)
          obtain ⟨k0, k1, k2⟩ := hcc j hlt
          have c0 := (hbw.cell (p := ⟨b', off + j * 3, none⟩) hb).trans k0
          have c1 := (hbw.cell (p := ⟨b', off + j * 3 + 1, none⟩) hb).trans k1
          have c2 := (hbw.cell (p := ⟨b', off + j * 3 + 2, none⟩) hb).trans k2
          have HA := Lib.hid (HCB.out j hlt)
          have HN := Lib.hid (HSB.out j hlt)
          obtain ⟨Z, hZ⟩ : ∃ Z, Z = Bl.add (Bl.fil Y (m.take j)) (m.getD j C.null) := ⟨_, rfl⟩
          rw [← hZ] at HA HN
          clear hZ
          generalize Bl.fil Y (m.take j) = V2 at *
          generalize (m.getD j C.null).kind = z at *
          generalize (m.getD j C.null).num = n at *
          generalize str (m.getD j C.null).txt = T at *
          obtain ⟨y0, y1, y2, y3⟩ := hF.all
          have hjI : (j : Int) < (m.length : Int) := by omega
          have HFD := Lib.hid hF.drew
          have HTD := Lib.hid hT.drew
          have HBD := Lib.hid hbw.drew
          have hs0 := hF.lt
          clear k0 k1 k2 hcc hF hT hbw
          go_wp2_with fail
          refine wp_region_still_tail 5 (by kernel_rfl) (by kernel_rfl) ?_
          simp only [List.take_succ_cons, List.take_zero, List.drop_succ_cons, List.drop_zero]
          rw [show ({ wr with drawn := wr.drawn + 1 } : World) = wr.drew from rfl]
          have c0 : wr.drew.cell? ⟨b', off + j * 3, none⟩ = some (.int .i64 z) := c0
          have c1 : wr.drew.cell? ⟨b', off + j * 3 + 1, none⟩ = some (.int .u64 (n : Int)) := c1
          have c2 : wr.drew.cell? ⟨b', off + j * 3 + 2, none⟩ = some (.string T) := c2
          have y0 : wr.drew.cell? ⟨w.heap.size, 0, none⟩ = some (.int .u64 (V2 0 : Nat)) := y0
          have y1 : wr.drew.cell? ⟨w.heap.size, 1, none⟩ = some (.int .u64 (V2 1 : Nat)) := y1
          have y2 : wr.drew.cell? ⟨w.heap.size, 2, none⟩ = some (.int .u64 (V2 2 : Nat)) := y2
          have y3 : wr.drew.cell? ⟨w.heap.size, 3, none⟩ = some (.int .u64 (V2 3 : Nat)) := y3
          generalize wr.drew = W9 at *
          repeat still_step
          refine wpStill_nil ?_
          go_wp2_with fail
          refine (HA.out _).mono ?_
          rintro e w5 ⟨rfl, hb5⟩
          have q5 := HFD.out.next hb5
          have t5 := HTD.out.next hb5
          have h5 := below_then HBD.out hb5
          clear hb5 HFD HTD HBD
          obtain ⟨v0, v1, v2, v3⟩ := q5.all
          have z0 := q5.free 0
          have z1 := q5.free 1
          have z2 := q5.free 2
          have z3 := q5.free 3
          go_wp2_with fail
          refine ⟨⟨j + 1, by omega, by go_num, ?_, ?_, below_set4 h5 (Nat.le_refl _) _ _ _ _⟩, by simp [intOf]; omega⟩
          · rw [← HN.out]; exact q5.set4 Z
          · exact t5.far4 _ _ _ _ _ (by omega)
        · obtain rfl : j = m.length := by omega
          rw [HEND.out] at hF
          obtain ⟨P, hP⟩ : ∃ P, P = Bl.fil Bl.none_ (l ++ [c] ++ m) := ⟨_, rfl⟩
          rw [← hP] at HM2 HOF
          clear hP HSA HSB HCA HCB HCM HEND HENDA HC2 HQ6 HT6 HB6
          go_wp2_with fail
          have fx := hF.all
          have lx := hF.lt
          have lc := hT.lt
          have x0 : ∀ W, Below wr.heap.size wr W → W.cell? ⟨w.heap.size, 0, none⟩ = some (.int .u64 (X 0 : Nat)) := fun W h => (h.cell (p := ⟨w.heap.size, 0, none⟩) lx).trans fx.1
          have x1 : ∀ W, Below wr.heap.size wr W → W.cell? ⟨w.heap.size, 1, none⟩ = some (.int .u64 (X 1 : Nat)) := fun W h => (h.cell (p := ⟨w.heap.size, 1, none⟩) lx).trans fx.2.1
          have x2 : ∀ W, Below wr.heap.size wr W → W.cell? ⟨w.heap.size, 2, none⟩ = some (.int .u64 (X 2 : Nat)) := fun W h => (h.cell (p := ⟨w.heap.size, 2, none⟩) lx).trans fx.2.2.1
          have x3 : ∀ W, Below wr.heap.size wr W → W.cell? ⟨w.heap.size, 3, none⟩ = some (.int .u64 (X 3 : Nat)) := fun W h => (h.cell (p := ⟨w.heap.size, 3, none⟩) lx).trans fx.2.2.2
          have d0 : ∀ W, Below wr.heap.size wr W → W.cell? ⟨w.heap.size + 1, 0, none⟩ = some (.int .i64 c.kind) := fun W h => (h.cell (p := ⟨w.heap.size + 1, 0, none⟩) lc).trans hT.c0
          have d1 : ∀ W, Below wr.heap.size wr W → W.cell? ⟨w.heap.size + 1, 1, none⟩ = some (.int .u64 (c.num : Int)) := fun W h => (h.cell (p := ⟨w.heap.size + 1, 1, none⟩) lc).trans hT.c1
          have d2 : ∀ W, Below wr.heap.size wr W → W.cell? ⟨w.heap.size + 1, 2, none⟩ = some (.string (str c.txt)) := fun W h => (h.cell (p := ⟨w.heap.size + 1, 2, none⟩) lc).trans hT.c2
          clear fx lx lc hF hT
          have hself : Below wr.heap.size wr wr := Below.refl _ _
          have HSA := Lib.hid (fun W (h : Below wr.heap.size wr W) => HUA.out.next (below_then hbw h))
          have HSB := Lib.hid (fun W (h : Below wr.heap.size wr W) => HUB.out.next (below_then hbw h))
          have HCL2 := Lib.hid (one_clit2 c)
          have HCL3 := Lib.hid (one_clit3 c)
          go_region_held3 (fun W => Below wr.heap.size wr W)
            (first
              | assumption
              | exact (show Below wr.heap.size wr _ by assumption).drew
              | exact (show Below wr.heap.size wr _ by assumption).alloc (show Below wr.heap.size wr _ by assumption).size _
              | exact below_then (by assumption) hb9
              | exact Below.trans (by assumption) hb9)
            (first
              | (go_at_call 6; refine (blbegun_any _).mono ?_; rintro e w9 ⟨rfl, hb9⟩; have hs9 := Nat.le_trans (show Below wr.heap.size wr _ by assumption).size hb9.size)
              | (go_at_call 13; (with_reducible refine (HM1.out _).mono ?_); rintro e w9 ⟨rfl, hb9⟩; have hs9 := Nat.le_trans (show Below wr.heap.size wr _ by assumption).size hb9.size)
              | (go_at_call 13; (with_reducible refine (HM2.out _).mono ?_); rintro e w9 ⟨rfl, hb9⟩; have hs9 := Nat.le_trans (show Below wr.heap.size wr _ by assumption).size hb9.size)
              | (go_at_call 9; refine (HAD.out _).mono ?_; rintro e w9 ⟨rfl, hb9⟩; have hs9 := Nat.le_trans (show Below wr.heap.size wr _ by assumption).size hb9.size)
              | (go_at_call 12; refine (HOF.out _ _ _ hcls8).mono ?_; rintro e w9 ⟨rfl, hb9⟩; have hs9 := Nat.le_trans (show Below wr.heap.size wr _ by assumption).size hb9.size)
              | (refine step_append_cells ?_ (.tmp 52) (.tmp 53) rfl wr.heap.size _ [] rfl ?_ a l.length cap l rfl rfl HNA.out ?_ HL1.out ?_ ?_; rfl; (first | exact cempty _ _ hs9 | exact (cempty _ _ hs9).alloc_ _ | exact cempty2 _ _ _ hs9); exact HSA.out _ (by assumption); exact (show Below wr.heap.size wr _ by assumption).size; intro v9 w10 hrow9 hb9 hf9 hs10)
              | (refine step_append_cells ?_ (.tmp 54) (.tmp 56) rfl wr.heap.size _ l rfl ?_ _ 1 1 [c] rfl rfl (fun h => by cases h) ?_ HL2.out ?_ ?_; rfl; (first | exact hrow9 | exact hrow9.alloc_ _); (first | exact HCL.out _ | exact (HCL2.out _ _).far hf9 (show (some (w9.heap.size + 1) : Option Nat) ≠ some w9.heap.size by simp) hs10 | exact (HCL3.out _ _).far hf9 (show (some w9.heap.size : Option Nat) ≠ some (w9.heap.size + 1) by simp) hs10); exact (show Below wr.heap.size wr _ by assumption).size; intro v8 w8 hrow8 hb9 hf8 hs8)
              | (refine step_append_cells ?_ (.tmp 57) (.tmp 58) rfl wr.heap.size _ (l ++ [c]) rfl hrow8 b m.length cap2 m rfl rfl HNB.out ?_ HL3.out ?_ ?_; rfl; exact HSB.out _ (by assumption); exact (show Below wr.heap.size wr _ by assumption).size; intro v7 w7 hrow7 hb9 hf7 hs7; obtain ⟨a8, c8, rfl, hcls8, hq8⟩ := cRow_cls hrow7))
          all_goals
            go_wp2_with fail
            go_ret
            exact ⟨rfl, below_then hbw (by assumption)⟩
end Go.Proofs.Ytbhggbohkddlaaa
