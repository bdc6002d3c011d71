/- The walk of hypostyleref.leafSet. -/
import Derived.Test.YtecfknolpnjokaaOR5
namespace Go.Proofs.Ytecfknolpnjokaa
open Go.RowKit
set_option linter.unusedVariables false

theorem wb_drewN {w : World} {n : Nat} : Below w.heap.size w (w.drewN n) := below_drewN (Below.refl _ _) n

set_option maxHeartbeats 4000000 in
set_option maxRecDepth 100000 in
theorem leafSet_any' (op col k : Int) (n : Nat) (t : List UInt8) (rows nulls lk : Int) (ln : Nat) (lt : List UInt8) (mk : Int) (mn : Nat) (mt : List UInt8) (f : Bl.F) (w : World) (hcc : cOk ⟨k, n, t⟩) (hf : Bl.fOk f) (hop : 1 ≤ op ∧ op ≤ 4)
    (htl : t.length + 16 ≤ maxLen) (hll : lt.length ≤ maxLen) (hml : mt.length ≤ maxLen) :
    Calls Try.prog 63 #[.agg #[.int .i64 op, .int .i64 col, .int .i64 k, .int .u64 (n : Int), .string (str t)],
      .agg #[.int .i64 rows, .int .i64 nulls, .int .i64 lk, .int .u64 (ln : Int), .string (str lt), .int .i64 mk, .int .u64 (mn : Int), .string (str mt)],
      .agg #[.int .u64 (f 0 : Nat), .int .u64 (f 1 : Nat), .int .u64 (f 2 : Nat), .int .u64 (f 3 : Nat)]] w (CErrPost (O.leafS ⟨op, col, ⟨k, n, t⟩⟩ ⟨rows, nulls, ⟨lk, ln, lt⟩, ⟨mk, mn, mt⟩⟩ f) w) := by
  have hp := pen_new w (.int .i64 op) (.int .i64 col) (.int .i64 k) (.int .u64 (n : Int)) (.string (str t))
  have hb0 : Below w.heap.size w (w.alloc (.cells #[.int .i64 op, .int .i64 col, .int .i64 k, .int .u64 (n : Int), .string (str t)] 51)) := (Below.refl _ _).alloc (Nat.le_refl _) _
  have ho := oct_new (w.alloc (.cells #[.int .i64 op, .int .i64 col, .int .i64 k, .int .u64 (n : Int), .string (str t)] 51)) [.int .i64 rows, .int .i64 nulls, .int .i64 lk, .int .u64 (ln : Int), .string (str lt), .int .i64 mk, .int .u64 (mn : Int), .string (str mt)]
  rw [show (w.alloc (.cells #[.int .i64 op, .int .i64 col, .int .i64 k, .int .u64 (n : Int), .string (str t)] 51)).heap.size = w.heap.size + 1 by simp] at ho
  have ho : Oct ((w.alloc (.cells #[.int .i64 op, .int .i64 col, .int .i64 k, .int .u64 (n : Int), .string (str t)] 51)).alloc (.cells #[.int .i64 rows, .int .i64 nulls, .int .i64 lk, .int .u64 (ln : Int), .string (str lt), .int .i64 mk, .int .u64 (mn : Int), .string (str mt)] 40)) (w.heap.size + 1) [.int .i64 rows, .int .i64 nulls, .int .i64 lk, .int .u64 (ln : Int), .string (str lt), .int .i64 mk, .int .u64 (mn : Int), .string (str mt)] := ho
  have hp1 := hp.next ((Below.refl _ _).alloc (Nat.le_refl _) (.cells #[.int .i64 rows, .int .i64 nulls, .int .i64 lk, .int .u64 (ln : Int), .string (str lt), .int .i64 mk, .int .u64 (mn : Int), .string (str mt)] 40))
  have hb1 := hb0.alloc (by simp) (.cells #[.int .i64 rows, .int .i64 nulls, .int .i64 lk, .int .u64 (ln : Int), .string (str lt), .int .i64 mk, .int .u64 (mn : Int), .string (str mt)] 40)
  have hs2 : ((w.alloc (.cells #[.int .i64 op, .int .i64 col, .int .i64 k, .int .u64 (n : Int), .string (str t)] 51)).alloc (.cells #[.int .i64 rows, .int .i64 nulls, .int .i64 lk, .int .u64 (ln : Int), .string (str lt), .int .i64 mk, .int .u64 (mn : Int), .string (str mt)] 40)).heap.size = w.heap.size + 1 + 1 := by simp
  have hq := quad_new ((w.alloc (.cells #[.int .i64 op, .int .i64 col, .int .i64 k, .int .u64 (n : Int), .string (str t)] 51)).alloc (.cells #[.int .i64 rows, .int .i64 nulls, .int .i64 lk, .int .u64 (ln : Int), .string (str lt), .int .i64 mk, .int .u64 (mn : Int), .string (str mt)] 40)) f
  rw [hs2] at hq
  have ho1 := ho.next ((Below.refl _ _).alloc (Nat.le_refl _) (.cells (qv f) 43))
  have hp2 := hp1.next ((Below.refl _ _).alloc (Nat.le_refl _) (.cells (qv f) 43))
  have hb2 := hb1.alloc (by rw [hs2]; omega) (.cells (qv f) 43)
  clear hs2 hp hp1 ho hb0 hb1
  have hL1 := fun W => cellLess_any ⟨k, n, t⟩ ⟨lk, ln, lt⟩ W hcc.2.2.2 hll
  have hL2 := fun W => cellLess_any ⟨mk, mn, mt⟩ ⟨k, n, t⟩ W hml hcc.2.2.2
  have hL3 := fun W => cellLess_any ⟨lk, ln, lt⟩ ⟨k, n, t⟩ W hll hcc.2.2.2
  have hL4 := fun W => cellLess_any ⟨k, n, t⟩ ⟨mk, mn, mt⟩ W hcc.2.2.2 hml
  have hM := fun W => mayOf_any f ⟨k, n, t⟩ W hf hcc htl
  have hgd := guards_cell .eql
  have heq := fun W => ceql lk ln lt mk mn mt W
  have hR : O.leafS ⟨op, col, ⟨k, n, t⟩⟩ ⟨rows, nulls, ⟨lk, ln, lt⟩, ⟨mk, mn, mt⟩⟩ f = if op = 4 then O.ms (decide (nulls < rows)) false (decide (0 < nulls))
    else if ¬ nulls < rows then O.ms false (decide (0 < nulls)) false
    else if op = 1 then (if C.less ⟨k, n, t⟩ ⟨lk, ln, lt⟩ || C.less ⟨mk, mn, mt⟩ ⟨k, n, t⟩ || !Bl.may f ⟨k, n, t⟩ then O.ms true (decide (0 < nulls)) false else if (⟨lk, ln, lt⟩ : C.Cl) = ⟨mk, mn, mt⟩ then O.ms false (decide (0 < nulls)) true else O.ms true (decide (0 < nulls)) true)
    else if op = 2 then O.ms (!C.less ⟨mk, mn, mt⟩ ⟨k, n, t⟩) (decide (0 < nulls)) (C.less ⟨mk, mn, mt⟩ ⟨k, n, t⟩ || C.less ⟨lk, ln, lt⟩ ⟨k, n, t⟩)
    else O.ms (!C.less ⟨k, n, t⟩ ⟨lk, ln, lt⟩) (decide (0 < nulls)) (C.less ⟨k, n, t⟩ ⟨lk, ln, lt⟩ || C.less ⟨k, n, t⟩ ⟨mk, mn, mt⟩) := rfl
  rw [hR]
  unfold cag fag qv at *
  simp only at hL1 hL2 hL3 hL4 hM
  generalize C.less ⟨k, n, t⟩ ⟨lk, ln, lt⟩ = b1 at *
  generalize C.less ⟨mk, mn, mt⟩ ⟨k, n, t⟩ = b2 at *
  generalize C.less ⟨lk, ln, lt⟩ ⟨k, n, t⟩ = b4 at *
  generalize C.less ⟨k, n, t⟩ ⟨mk, mn, mt⟩ = b5 at *
  generalize Bl.may f ⟨k, n, t⟩ = b3 at *
  have HM := Lib.hid hM
  have HL1 := Lib.hid hL1
  have HL2 := Lib.hid hL2
  have HL3 := Lib.hid hL3
  have HL4 := Lib.hid hL4
  have HS := Lib.hid (fun a b c W => maySet_any a b c W)
  generalize hbn : decide (0 < nulls) = bn at *
  have hbn2 : (decide (nulls > 0)) = bn := hbn
  clear hR hf hcc hM hL1 hL2 hL3 hL4 htl hll hml
  obtain ⟨be, hbe⟩ : ∃ be, be = decide ((⟨lk, ln, lt⟩ : C.Cl) = ⟨mk, mn, mt⟩) := ⟨_, rfl⟩
  rw [← hbe] at heq
  have HIF := Lib.hid (fun (x y : Nat) => show (if (⟨lk, ln, lt⟩ : C.Cl) = ⟨mk, mn, mt⟩ then x else y) = (if be = true then x else y) by
    by_cases h : (⟨lk, ln, lt⟩ : C.Cl) = ⟨mk, mn, mt⟩
    · rw [if_pos h, if_pos (by rw [hbe]; exact decide_eq_true h)]
    · rw [if_neg h, if_neg (by rw [hbe, decide_eq_false h]; simp)])
  rw [HIF.out]
  clear hbe HIF
  generalize str t = X at *
  generalize str lt = X1 at *
  generalize str mt = X2 at *
  obtain ⟨p0, p1, p2, p3, p4⟩ := hp2.all
  obtain ⟨o0, o1, o2, o3, o4, o5, o6, o7⟩ := ho1.cells
  obtain ⟨q0, q1, q2, q3⟩ := hq.all
  by_cases hr : nulls < rows
  · have hd : decide (nulls < rows) = true := decide_eq_true hr
    by_cases h4 : op = 4
    · rw [if_pos h4, hd]
      subst h4
      clear hop
      go_enter Try.func63, Try.ntmps63
      go_wp2_with fail
      generalize ((w.alloc (.cells #[.int .i64 4, .int .i64 col, .int .i64 k, .int .u64 (n : Int), .string X] 51)).alloc (.cells #[.int .i64 rows, .int .i64 nulls, .int .i64 lk, .int .u64 (ln : Int), .string X1, .int .i64 mk, .int .u64 (mn : Int), .string X2] 40)).alloc (.cells #[.int .u64 (f 0 : Nat), .int .u64 (f 1 : Nat), .int .u64 (f 2 : Nat), .int .u64 (f 3 : Nat)] 43) = W0 at *
      go_quiet (fail)
      obtain ⟨W2, hW2⟩ : ∃ W2, W2 = W0.drewN nq := ⟨_, rfl⟩
      have hbW : Below W0.heap.size W0 W2 := by rw [hW2]; exact wb_drewN
      rw [← hW2]
      have hp3 := hp2.next hbW
      have ho3 := ho1.next hbW
      have hq3 := hq.next hbW
      have hb3 := below_then hb2 hbW
      clear hW2 hbW hp2 ho1 hq hb2 p0 p1 p2 p3 p4 o0 o1 o2 o3 o4 o5 o6 o7 q0 q1 q2 q3
      obtain ⟨p0, p1, p2, p3, p4⟩ := hp3.all
      obtain ⟨o0, o1, o2, o3, o4, o5, o6, o7⟩ := ho3.cells
      obtain ⟨q0, q1, q2, q3⟩ := hq3.all
      go_wp2_with fail
      refine (HS.out true false bn _).mono ?_
      rintro e wz ⟨rfl, rfl⟩
      go_wp2_with fail
      go_ret
      exact ⟨rfl, hb3⟩
    rw [if_neg h4, if_neg (show ¬ ¬ nulls < rows from fun h => h hr)]
    have h3 : op = 1 ∨ op = 2 ∨ op = 3 := by omega
    clear hop h4
    rcases h3 with rfl | rfl | rfl
    · rw [if_pos rfl]
      cases b1
      · cases b2
        · cases b3
          · go_enter Try.func63, Try.ntmps63
            go_wp2_with fail
            generalize ((w.alloc (.cells #[.int .i64 1, .int .i64 col, .int .i64 k, .int .u64 (n : Int), .string X] 51)).alloc (.cells #[.int .i64 rows, .int .i64 nulls, .int .i64 lk, .int .u64 (ln : Int), .string X1, .int .i64 mk, .int .u64 (mn : Int), .string X2] 40)).alloc (.cells #[.int .u64 (f 0 : Nat), .int .u64 (f 1 : Nat), .int .u64 (f 2 : Nat), .int .u64 (f 3 : Nat)] 43) = W0 at *
            go_quiet (fail)
            obtain ⟨W2, hW2⟩ : ∃ W2, W2 = W0.drewN nq := ⟨_, rfl⟩
            have hbW : Below W0.heap.size W0 W2 := by rw [hW2]; exact wb_drewN
            rw [← hW2]
            have hp3 := hp2.next hbW
            have ho3 := ho1.next hbW
            have hq3 := hq.next hbW
            have hb3 := below_then hb2 hbW
            clear hW2 hbW hp2 ho1 hq hb2 p0 p1 p2 p3 p4 o0 o1 o2 o3 o4 o5 o6 o7 q0 q1 q2 q3
            obtain ⟨p0, p1, p2, p3, p4⟩ := hp3.all
            obtain ⟨o0, o1, o2, o3, o4, o5, o6, o7⟩ := ho3.cells
            obtain ⟨q0, q1, q2, q3⟩ := hq3.all
            go_wp2_with fail
            refine (HL1.out _).mono ?_
            rintro e w1 ⟨rfl, hc1⟩
            obtain ⟨p0, p1, p2, p3, p4⟩ := (hp3.next hc1).all
            obtain ⟨o0, o1, o2, o3, o4, o5, o6, o7⟩ := (ho3.next hc1).cells
            obtain ⟨q0, q1, q2, q3⟩ := (hq3.next hc1).all
            go_wp2_with fail
            refine (HL2.out _).mono ?_
            rintro e w2 ⟨rfl, hc2⟩
            have hc2 := below_then hc1 hc2
            obtain ⟨p0, p1, p2, p3, p4⟩ := (hp3.next hc2).all
            obtain ⟨o0, o1, o2, o3, o4, o5, o6, o7⟩ := (ho3.next hc2).cells
            obtain ⟨q0, q1, q2, q3⟩ := (hq3.next hc2).all
            go_wp2_with fail
            refine (HM.out _).mono ?_
            rintro e w3 ⟨rfl, hc3⟩
            have hc3 := below_then hc2 hc3
            obtain ⟨p0, p1, p2, p3, p4⟩ := (hp3.next hc3).all
            obtain ⟨o0, o1, o2, o3, o4, o5, o6, o7⟩ := (ho3.next hc3).cells
            obtain ⟨q0, q1, q2, q3⟩ := (hq3.next hc3).all
            go_wp2_with fail
            refine (HS.out true bn false _).mono ?_
            rintro e wz ⟨rfl, rfl⟩
            go_wp2_with fail
            go_ret
            exact ⟨rfl, below_then hb3 hc3⟩
          · cases be
            · go_enter Try.func63, Try.ntmps63
              go_wp2_with fail
              generalize ((w.alloc (.cells #[.int .i64 1, .int .i64 col, .int .i64 k, .int .u64 (n : Int), .string X] 51)).alloc (.cells #[.int .i64 rows, .int .i64 nulls, .int .i64 lk, .int .u64 (ln : Int), .string X1, .int .i64 mk, .int .u64 (mn : Int), .string X2] 40)).alloc (.cells #[.int .u64 (f 0 : Nat), .int .u64 (f 1 : Nat), .int .u64 (f 2 : Nat), .int .u64 (f 3 : Nat)] 43) = W0 at *
              go_quiet (fail)
              obtain ⟨W2, hW2⟩ : ∃ W2, W2 = W0.drewN nq := ⟨_, rfl⟩
              have hbW : Below W0.heap.size W0 W2 := by rw [hW2]; exact wb_drewN
              rw [← hW2]
              have hp3 := hp2.next hbW
              have ho3 := ho1.next hbW
              have hq3 := hq.next hbW
              have hb3 := below_then hb2 hbW
              clear hW2 hbW hp2 ho1 hq hb2 p0 p1 p2 p3 p4 o0 o1 o2 o3 o4 o5 o6 o7 q0 q1 q2 q3
              obtain ⟨p0, p1, p2, p3, p4⟩ := hp3.all
              obtain ⟨o0, o1, o2, o3, o4, o5, o6, o7⟩ := ho3.cells
              obtain ⟨q0, q1, q2, q3⟩ := hq3.all
              go_wp2_with fail
              refine (HL1.out _).mono ?_
              rintro e w1 ⟨rfl, hc1⟩
              obtain ⟨p0, p1, p2, p3, p4⟩ := (hp3.next hc1).all
              obtain ⟨o0, o1, o2, o3, o4, o5, o6, o7⟩ := (ho3.next hc1).cells
              obtain ⟨q0, q1, q2, q3⟩ := (hq3.next hc1).all
              go_wp2_with fail
              refine (HL2.out _).mono ?_
              rintro e w2 ⟨rfl, hc2⟩
              have hc2 := below_then hc1 hc2
              obtain ⟨p0, p1, p2, p3, p4⟩ := (hp3.next hc2).all
              obtain ⟨o0, o1, o2, o3, o4, o5, o6, o7⟩ := (ho3.next hc2).cells
              obtain ⟨q0, q1, q2, q3⟩ := (hq3.next hc2).all
              go_wp2_with fail
              refine (HM.out _).mono ?_
              rintro e w3 ⟨rfl, hc3⟩
              have hc3 := below_then hc2 hc3
              obtain ⟨p0, p1, p2, p3, p4⟩ := (hp3.next hc3).all
              obtain ⟨o0, o1, o2, o3, o4, o5, o6, o7⟩ := (ho3.next hc3).cells
              obtain ⟨q0, q1, q2, q3⟩ := (hq3.next hc3).all
              go_wp2_with fail
              refine (HS.out true bn true _).mono ?_
              rintro e wz ⟨rfl, rfl⟩
              go_wp2_with fail
              go_ret
              exact ⟨rfl, below_then hb3 hc3⟩
            · go_enter Try.func63, Try.ntmps63
              go_wp2_with fail
              generalize ((w.alloc (.cells #[.int .i64 1, .int .i64 col, .int .i64 k, .int .u64 (n : Int), .string X] 51)).alloc (.cells #[.int .i64 rows, .int .i64 nulls, .int .i64 lk, .int .u64 (ln : Int), .string X1, .int .i64 mk, .int .u64 (mn : Int), .string X2] 40)).alloc (.cells #[.int .u64 (f 0 : Nat), .int .u64 (f 1 : Nat), .int .u64 (f 2 : Nat), .int .u64 (f 3 : Nat)] 43) = W0 at *
              go_quiet (fail)
              obtain ⟨W2, hW2⟩ : ∃ W2, W2 = W0.drewN nq := ⟨_, rfl⟩
              have hbW : Below W0.heap.size W0 W2 := by rw [hW2]; exact wb_drewN
              rw [← hW2]
              have hp3 := hp2.next hbW
              have ho3 := ho1.next hbW
              have hq3 := hq.next hbW
              have hb3 := below_then hb2 hbW
              clear hW2 hbW hp2 ho1 hq hb2 p0 p1 p2 p3 p4 o0 o1 o2 o3 o4 o5 o6 o7 q0 q1 q2 q3
              obtain ⟨p0, p1, p2, p3, p4⟩ := hp3.all
              obtain ⟨o0, o1, o2, o3, o4, o5, o6, o7⟩ := ho3.cells
              obtain ⟨q0, q1, q2, q3⟩ := hq3.all
              go_wp2_with fail
              refine (HL1.out _).mono ?_
              rintro e w1 ⟨rfl, hc1⟩
              obtain ⟨p0, p1, p2, p3, p4⟩ := (hp3.next hc1).all
              obtain ⟨o0, o1, o2, o3, o4, o5, o6, o7⟩ := (ho3.next hc1).cells
              obtain ⟨q0, q1, q2, q3⟩ := (hq3.next hc1).all
              go_wp2_with fail
              refine (HL2.out _).mono ?_
              rintro e w2 ⟨rfl, hc2⟩
              have hc2 := below_then hc1 hc2
              obtain ⟨p0, p1, p2, p3, p4⟩ := (hp3.next hc2).all
              obtain ⟨o0, o1, o2, o3, o4, o5, o6, o7⟩ := (ho3.next hc2).cells
              obtain ⟨q0, q1, q2, q3⟩ := (hq3.next hc2).all
              go_wp2_with fail
              refine (HM.out _).mono ?_
              rintro e w3 ⟨rfl, hc3⟩
              have hc3 := below_then hc2 hc3
              obtain ⟨p0, p1, p2, p3, p4⟩ := (hp3.next hc3).all
              obtain ⟨o0, o1, o2, o3, o4, o5, o6, o7⟩ := (ho3.next hc3).cells
              obtain ⟨q0, q1, q2, q3⟩ := (hq3.next hc3).all
              go_wp2_with fail
              refine (HS.out false bn true _).mono ?_
              rintro e wz ⟨rfl, rfl⟩
              go_wp2_with fail
              go_ret
              exact ⟨rfl, below_then hb3 hc3⟩
        · go_enter Try.func63, Try.ntmps63
          go_wp2_with fail
          generalize ((w.alloc (.cells #[.int .i64 1, .int .i64 col, .int .i64 k, .int .u64 (n : Int), .string X] 51)).alloc (.cells #[.int .i64 rows, .int .i64 nulls, .int .i64 lk, .int .u64 (ln : Int), .string X1, .int .i64 mk, .int .u64 (mn : Int), .string X2] 40)).alloc (.cells #[.int .u64 (f 0 : Nat), .int .u64 (f 1 : Nat), .int .u64 (f 2 : Nat), .int .u64 (f 3 : Nat)] 43) = W0 at *
          go_quiet (fail)
          obtain ⟨W2, hW2⟩ : ∃ W2, W2 = W0.drewN nq := ⟨_, rfl⟩
          have hbW : Below W0.heap.size W0 W2 := by rw [hW2]; exact wb_drewN
          rw [← hW2]
          have hp3 := hp2.next hbW
          have ho3 := ho1.next hbW
          have hq3 := hq.next hbW
          have hb3 := below_then hb2 hbW
          clear hW2 hbW hp2 ho1 hq hb2 p0 p1 p2 p3 p4 o0 o1 o2 o3 o4 o5 o6 o7 q0 q1 q2 q3
          obtain ⟨p0, p1, p2, p3, p4⟩ := hp3.all
          obtain ⟨o0, o1, o2, o3, o4, o5, o6, o7⟩ := ho3.cells
          obtain ⟨q0, q1, q2, q3⟩ := hq3.all
          go_wp2_with fail
          refine (HL1.out _).mono ?_
          rintro e w1 ⟨rfl, hc1⟩
          obtain ⟨p0, p1, p2, p3, p4⟩ := (hp3.next hc1).all
          obtain ⟨o0, o1, o2, o3, o4, o5, o6, o7⟩ := (ho3.next hc1).cells
          obtain ⟨q0, q1, q2, q3⟩ := (hq3.next hc1).all
          go_wp2_with fail
          refine (HL2.out _).mono ?_
          rintro e w2 ⟨rfl, hc2⟩
          have hc2 := below_then hc1 hc2
          obtain ⟨p0, p1, p2, p3, p4⟩ := (hp3.next hc2).all
          obtain ⟨o0, o1, o2, o3, o4, o5, o6, o7⟩ := (ho3.next hc2).cells
          obtain ⟨q0, q1, q2, q3⟩ := (hq3.next hc2).all
          go_wp2_with fail
          refine (HS.out true bn false _).mono ?_
          rintro e wz ⟨rfl, rfl⟩
          go_wp2_with fail
          go_ret
          exact ⟨rfl, below_then hb3 hc2⟩
      · go_enter Try.func63, Try.ntmps63
        go_wp2_with fail
        generalize ((w.alloc (.cells #[.int .i64 1, .int .i64 col, .int .i64 k, .int .u64 (n : Int), .string X] 51)).alloc (.cells #[.int .i64 rows, .int .i64 nulls, .int .i64 lk, .int .u64 (ln : Int), .string X1, .int .i64 mk, .int .u64 (mn : Int), .string X2] 40)).alloc (.cells #[.int .u64 (f 0 : Nat), .int .u64 (f 1 : Nat), .int .u64 (f 2 : Nat), .int .u64 (f 3 : Nat)] 43) = W0 at *
        go_quiet (fail)
        obtain ⟨W2, hW2⟩ : ∃ W2, W2 = W0.drewN nq := ⟨_, rfl⟩
        have hbW : Below W0.heap.size W0 W2 := by rw [hW2]; exact wb_drewN
        rw [← hW2]
        have hp3 := hp2.next hbW
        have ho3 := ho1.next hbW
        have hq3 := hq.next hbW
        have hb3 := below_then hb2 hbW
        clear hW2 hbW hp2 ho1 hq hb2 p0 p1 p2 p3 p4 o0 o1 o2 o3 o4 o5 o6 o7 q0 q1 q2 q3
        obtain ⟨p0, p1, p2, p3, p4⟩ := hp3.all
        obtain ⟨o0, o1, o2, o3, o4, o5, o6, o7⟩ := ho3.cells
        obtain ⟨q0, q1, q2, q3⟩ := hq3.all
        go_wp2_with fail
        refine (HL1.out _).mono ?_
        rintro e w1 ⟨rfl, hc1⟩
        obtain ⟨p0, p1, p2, p3, p4⟩ := (hp3.next hc1).all
        obtain ⟨o0, o1, o2, o3, o4, o5, o6, o7⟩ := (ho3.next hc1).cells
        obtain ⟨q0, q1, q2, q3⟩ := (hq3.next hc1).all
        go_wp2_with fail
        refine (HS.out true bn false _).mono ?_
        rintro e wz ⟨rfl, rfl⟩
        go_wp2_with fail
        go_ret
        exact ⟨rfl, below_then hb3 hc1⟩
    · rw [if_neg (show ¬ (2 : Int) = 1 by decide), if_pos rfl]
      cases b2
      · cases b4
        · go_enter Try.func63, Try.ntmps63
          go_wp2_with fail
          generalize ((w.alloc (.cells #[.int .i64 2, .int .i64 col, .int .i64 k, .int .u64 (n : Int), .string X] 51)).alloc (.cells #[.int .i64 rows, .int .i64 nulls, .int .i64 lk, .int .u64 (ln : Int), .string X1, .int .i64 mk, .int .u64 (mn : Int), .string X2] 40)).alloc (.cells #[.int .u64 (f 0 : Nat), .int .u64 (f 1 : Nat), .int .u64 (f 2 : Nat), .int .u64 (f 3 : Nat)] 43) = W0 at *
          go_quiet (fail)
          obtain ⟨W2, hW2⟩ : ∃ W2, W2 = W0.drewN nq := ⟨_, rfl⟩
          have hbW : Below W0.heap.size W0 W2 := by rw [hW2]; exact wb_drewN
          rw [← hW2]
          have hp3 := hp2.next hbW
          have ho3 := ho1.next hbW
          have hq3 := hq.next hbW
          have hb3 := below_then hb2 hbW
          clear hW2 hbW hp2 ho1 hq hb2 p0 p1 p2 p3 p4 o0 o1 o2 o3 o4 o5 o6 o7 q0 q1 q2 q3
          obtain ⟨p0, p1, p2, p3, p4⟩ := hp3.all
          obtain ⟨o0, o1, o2, o3, o4, o5, o6, o7⟩ := ho3.cells
          obtain ⟨q0, q1, q2, q3⟩ := hq3.all
          go_wp2_with fail
          refine (HL2.out _).mono ?_
          rintro e w1 ⟨rfl, hc1⟩
          obtain ⟨p0, p1, p2, p3, p4⟩ := (hp3.next hc1).all
          obtain ⟨o0, o1, o2, o3, o4, o5, o6, o7⟩ := (ho3.next hc1).cells
          obtain ⟨q0, q1, q2, q3⟩ := (hq3.next hc1).all
          go_wp2_with fail
          refine (HL3.out _).mono ?_
          rintro e w2 ⟨rfl, hc2⟩
          have hc2 := below_then hc1 hc2
          obtain ⟨p0, p1, p2, p3, p4⟩ := (hp3.next hc2).all
          obtain ⟨o0, o1, o2, o3, o4, o5, o6, o7⟩ := (ho3.next hc2).cells
          obtain ⟨q0, q1, q2, q3⟩ := (hq3.next hc2).all
          go_wp2_with fail
          refine (HS.out true bn false _).mono ?_
          rintro e wz ⟨rfl, rfl⟩
          go_wp2_with fail
          go_ret
          exact ⟨rfl, below_then hb3 hc2⟩
        · go_enter Try.func63, Try.ntmps63
          go_wp2_with fail
          generalize ((w.alloc (.cells #[.int .i64 2, .int .i64 col, .int .i64 k, .int .u64 (n : Int), .string X] 51)).alloc (.cells #[.int .i64 rows, .int .i64 nulls, .int .i64 lk, .int .u64 (ln : Int), .string X1, .int .i64 mk, .int .u64 (mn : Int), .string X2] 40)).alloc (.cells #[.int .u64 (f 0 : Nat), .int .u64 (f 1 : Nat), .int .u64 (f 2 : Nat), .int .u64 (f 3 : Nat)] 43) = W0 at *
          go_quiet (fail)
          obtain ⟨W2, hW2⟩ : ∃ W2, W2 = W0.drewN nq := ⟨_, rfl⟩
          have hbW : Below W0.heap.size W0 W2 := by rw [hW2]; exact wb_drewN
          rw [← hW2]
          have hp3 := hp2.next hbW
          have ho3 := ho1.next hbW
          have hq3 := hq.next hbW
          have hb3 := below_then hb2 hbW
          clear hW2 hbW hp2 ho1 hq hb2 p0 p1 p2 p3 p4 o0 o1 o2 o3 o4 o5 o6 o7 q0 q1 q2 q3
          obtain ⟨p0, p1, p2, p3, p4⟩ := hp3.all
          obtain ⟨o0, o1, o2, o3, o4, o5, o6, o7⟩ := ho3.cells
          obtain ⟨q0, q1, q2, q3⟩ := hq3.all
          go_wp2_with fail
          refine (HL2.out _).mono ?_
          rintro e w1 ⟨rfl, hc1⟩
          obtain ⟨p0, p1, p2, p3, p4⟩ := (hp3.next hc1).all
          obtain ⟨o0, o1, o2, o3, o4, o5, o6, o7⟩ := (ho3.next hc1).cells
          obtain ⟨q0, q1, q2, q3⟩ := (hq3.next hc1).all
          go_wp2_with fail
          refine (HL3.out _).mono ?_
          rintro e w2 ⟨rfl, hc2⟩
          have hc2 := below_then hc1 hc2
          obtain ⟨p0, p1, p2, p3, p4⟩ := (hp3.next hc2).all
          obtain ⟨o0, o1, o2, o3, o4, o5, o6, o7⟩ := (ho3.next hc2).cells
          obtain ⟨q0, q1, q2, q3⟩ := (hq3.next hc2).all
          go_wp2_with fail
          refine (HS.out true bn true _).mono ?_
          rintro e wz ⟨rfl, rfl⟩
          go_wp2_with fail
          go_ret
          exact ⟨rfl, below_then hb3 hc2⟩
      · go_enter Try.func63, Try.ntmps63
        go_wp2_with fail
        generalize ((w.alloc (.cells #[.int .i64 2, .int .i64 col, .int .i64 k, .int .u64 (n : Int), .string X] 51)).alloc (.cells #[.int .i64 rows, .int .i64 nulls, .int .i64 lk, .int .u64 (ln : Int), .string X1, .int .i64 mk, .int .u64 (mn : Int), .string X2] 40)).alloc (.cells #[.int .u64 (f 0 : Nat), .int .u64 (f 1 : Nat), .int .u64 (f 2 : Nat), .int .u64 (f 3 : Nat)] 43) = W0 at *
        go_quiet (fail)
        obtain ⟨W2, hW2⟩ : ∃ W2, W2 = W0.drewN nq := ⟨_, rfl⟩
        have hbW : Below W0.heap.size W0 W2 := by rw [hW2]; exact wb_drewN
        rw [← hW2]
        have hp3 := hp2.next hbW
        have ho3 := ho1.next hbW
        have hq3 := hq.next hbW
        have hb3 := below_then hb2 hbW
        clear hW2 hbW hp2 ho1 hq hb2 p0 p1 p2 p3 p4 o0 o1 o2 o3 o4 o5 o6 o7 q0 q1 q2 q3
        obtain ⟨p0, p1, p2, p3, p4⟩ := hp3.all
        obtain ⟨o0, o1, o2, o3, o4, o5, o6, o7⟩ := ho3.cells
        obtain ⟨q0, q1, q2, q3⟩ := hq3.all
        go_wp2_with fail
        refine (HL2.out _).mono ?_
        rintro e w1 ⟨rfl, hc1⟩
        obtain ⟨p0, p1, p2, p3, p4⟩ := (hp3.next hc1).all
        obtain ⟨o0, o1, o2, o3, o4, o5, o6, o7⟩ := (ho3.next hc1).cells
        obtain ⟨q0, q1, q2, q3⟩ := (hq3.next hc1).all
        go_wp2_with fail
        refine (HS.out false bn true _).mono ?_
        rintro e wz ⟨rfl, rfl⟩
        go_wp2_with fail
        go_ret
        exact ⟨rfl, below_then hb3 hc1⟩
    · rw [if_neg (show ¬ (3 : Int) = 1 by decide), if_neg (show ¬ (3 : Int) = 2 by decide)]
      cases b1
      · cases b5
        · go_enter Try.func63, Try.ntmps63
          go_wp2_with fail
          generalize ((w.alloc (.cells #[.int .i64 3, .int .i64 col, .int .i64 k, .int .u64 (n : Int), .string X] 51)).alloc (.cells #[.int .i64 rows, .int .i64 nulls, .int .i64 lk, .int .u64 (ln : Int), .string X1, .int .i64 mk, .int .u64 (mn : Int), .string X2] 40)).alloc (.cells #[.int .u64 (f 0 : Nat), .int .u64 (f 1 : Nat), .int .u64 (f 2 : Nat), .int .u64 (f 3 : Nat)] 43) = W0 at *
          go_quiet (fail)
          obtain ⟨W2, hW2⟩ : ∃ W2, W2 = W0.drewN nq := ⟨_, rfl⟩
          have hbW : Below W0.heap.size W0 W2 := by rw [hW2]; exact wb_drewN
          rw [← hW2]
          have hp3 := hp2.next hbW
          have ho3 := ho1.next hbW
          have hq3 := hq.next hbW
          have hb3 := below_then hb2 hbW
          clear hW2 hbW hp2 ho1 hq hb2 p0 p1 p2 p3 p4 o0 o1 o2 o3 o4 o5 o6 o7 q0 q1 q2 q3
          obtain ⟨p0, p1, p2, p3, p4⟩ := hp3.all
          obtain ⟨o0, o1, o2, o3, o4, o5, o6, o7⟩ := ho3.cells
          obtain ⟨q0, q1, q2, q3⟩ := hq3.all
          go_wp2_with fail
          refine (HL1.out _).mono ?_
          rintro e w1 ⟨rfl, hc1⟩
          obtain ⟨p0, p1, p2, p3, p4⟩ := (hp3.next hc1).all
          obtain ⟨o0, o1, o2, o3, o4, o5, o6, o7⟩ := (ho3.next hc1).cells
          obtain ⟨q0, q1, q2, q3⟩ := (hq3.next hc1).all
          go_wp2_with fail
          refine (HL4.out _).mono ?_
          rintro e w2 ⟨rfl, hc2⟩
          have hc2 := below_then hc1 hc2
          obtain ⟨p0, p1, p2, p3, p4⟩ := (hp3.next hc2).all
          obtain ⟨o0, o1, o2, o3, o4, o5, o6, o7⟩ := (ho3.next hc2).cells
          obtain ⟨q0, q1, q2, q3⟩ := (hq3.next hc2).all
          go_wp2_with fail
          refine (HS.out true bn false _).mono ?_
          rintro e wz ⟨rfl, rfl⟩
          go_wp2_with fail
          go_ret
          exact ⟨rfl, below_then hb3 hc2⟩
        · go_enter Try.func63, Try.ntmps63
          go_wp2_with fail
          generalize ((w.alloc (.cells #[.int .i64 3, .int .i64 col, .int .i64 k, .int .u64 (n : Int), .string X] 51)).alloc (.cells #[.int .i64 rows, .int .i64 nulls, .int .i64 lk, .int .u64 (ln : Int), .string X1, .int .i64 mk, .int .u64 (mn : Int), .string X2] 40)).alloc (.cells #[.int .u64 (f 0 : Nat), .int .u64 (f 1 : Nat), .int .u64 (f 2 : Nat), .int .u64 (f 3 : Nat)] 43) = W0 at *
          go_quiet (fail)
          obtain ⟨W2, hW2⟩ : ∃ W2, W2 = W0.drewN nq := ⟨_, rfl⟩
          have hbW : Below W0.heap.size W0 W2 := by rw [hW2]; exact wb_drewN
          rw [← hW2]
          have hp3 := hp2.next hbW
          have ho3 := ho1.next hbW
          have hq3 := hq.next hbW
          have hb3 := below_then hb2 hbW
          clear hW2 hbW hp2 ho1 hq hb2 p0 p1 p2 p3 p4 o0 o1 o2 o3 o4 o5 o6 o7 q0 q1 q2 q3
          obtain ⟨p0, p1, p2, p3, p4⟩ := hp3.all
          obtain ⟨o0, o1, o2, o3, o4, o5, o6, o7⟩ := ho3.cells
          obtain ⟨q0, q1, q2, q3⟩ := hq3.all
          go_wp2_with fail
          refine (HL1.out _).mono ?_
          rintro e w1 ⟨rfl, hc1⟩
          obtain ⟨p0, p1, p2, p3, p4⟩ := (hp3.next hc1).all
          obtain ⟨o0, o1, o2, o3, o4, o5, o6, o7⟩ := (ho3.next hc1).cells
          obtain ⟨q0, q1, q2, q3⟩ := (hq3.next hc1).all
          go_wp2_with fail
          refine (HL4.out _).mono ?_
          rintro e w2 ⟨rfl, hc2⟩
          have hc2 := below_then hc1 hc2
          obtain ⟨p0, p1, p2, p3, p4⟩ := (hp3.next hc2).all
          obtain ⟨o0, o1, o2, o3, o4, o5, o6, o7⟩ := (ho3.next hc2).cells
          obtain ⟨q0, q1, q2, q3⟩ := (hq3.next hc2).all
          go_wp2_with fail
          refine (HS.out true bn true _).mono ?_
          rintro e wz ⟨rfl, rfl⟩
          go_wp2_with fail
          go_ret
          exact ⟨rfl, below_then hb3 hc2⟩
      · go_enter Try.func63, Try.ntmps63
        go_wp2_with fail
        generalize ((w.alloc (.cells #[.int .i64 3, .int .i64 col, .int .i64 k, .int .u64 (n : Int), .string X] 51)).alloc (.cells #[.int .i64 rows, .int .i64 nulls, .int .i64 lk, .int .u64 (ln : Int), .string X1, .int .i64 mk, .int .u64 (mn : Int), .string X2] 40)).alloc (.cells #[.int .u64 (f 0 : Nat), .int .u64 (f 1 : Nat), .int .u64 (f 2 : Nat), .int .u64 (f 3 : Nat)] 43) = W0 at *
        go_quiet (fail)
        obtain ⟨W2, hW2⟩ : ∃ W2, W2 = W0.drewN nq := ⟨_, rfl⟩
        have hbW : Below W0.heap.size W0 W2 := by rw [hW2]; exact wb_drewN
        rw [← hW2]
        have hp3 := hp2.next hbW
        have ho3 := ho1.next hbW
        have hq3 := hq.next hbW
        have hb3 := below_then hb2 hbW
        clear hW2 hbW hp2 ho1 hq hb2 p0 p1 p2 p3 p4 o0 o1 o2 o3 o4 o5 o6 o7 q0 q1 q2 q3
        obtain ⟨p0, p1, p2, p3, p4⟩ := hp3.all
        obtain ⟨o0, o1, o2, o3, o4, o5, o6, o7⟩ := ho3.cells
        obtain ⟨q0, q1, q2, q3⟩ := hq3.all
        go_wp2_with fail
        refine (HL1.out _).mono ?_
        rintro e w1 ⟨rfl, hc1⟩
        obtain ⟨p0, p1, p2, p3, p4⟩ := (hp3.next hc1).all
        obtain ⟨o0, o1, o2, o3, o4, o5, o6, o7⟩ := (ho3.next hc1).cells
        obtain ⟨q0, q1, q2, q3⟩ := (hq3.next hc1).all
        go_wp2_with fail
        refine (HS.out false bn true _).mono ?_
        rintro e wz ⟨rfl, rfl⟩
        go_wp2_with fail
        go_ret
        exact ⟨rfl, below_then hb3 hc1⟩
  · have hd : decide (nulls < rows) = false := decide_eq_false hr
    by_cases h4 : op = 4
    · rw [if_pos h4, hd]
      subst h4
      clear hop
      go_enter Try.func63, Try.ntmps63
      go_wp2_with fail
      generalize ((w.alloc (.cells #[.int .i64 4, .int .i64 col, .int .i64 k, .int .u64 (n : Int), .string X] 51)).alloc (.cells #[.int .i64 rows, .int .i64 nulls, .int .i64 lk, .int .u64 (ln : Int), .string X1, .int .i64 mk, .int .u64 (mn : Int), .string X2] 40)).alloc (.cells #[.int .u64 (f 0 : Nat), .int .u64 (f 1 : Nat), .int .u64 (f 2 : Nat), .int .u64 (f 3 : Nat)] 43) = W0 at *
      go_quiet (fail)
      obtain ⟨W2, hW2⟩ : ∃ W2, W2 = W0.drewN nq := ⟨_, rfl⟩
      have hbW : Below W0.heap.size W0 W2 := by rw [hW2]; exact wb_drewN
      rw [← hW2]
      have hp3 := hp2.next hbW
      have ho3 := ho1.next hbW
      have hq3 := hq.next hbW
      have hb3 := below_then hb2 hbW
      clear hW2 hbW hp2 ho1 hq hb2 p0 p1 p2 p3 p4 o0 o1 o2 o3 o4 o5 o6 o7 q0 q1 q2 q3
      obtain ⟨p0, p1, p2, p3, p4⟩ := hp3.all
      obtain ⟨o0, o1, o2, o3, o4, o5, o6, o7⟩ := ho3.cells
      obtain ⟨q0, q1, q2, q3⟩ := hq3.all
      go_wp2_with fail
      refine (HS.out false false bn _).mono ?_
      rintro e wz ⟨rfl, rfl⟩
      go_wp2_with fail
      go_ret
      exact ⟨rfl, hb3⟩
    · rw [if_neg h4, if_pos hr]
      have g4 : (op == 4) = false := by rw [beq_eq_false_iff_ne]; exact h4
      clear hop
      go_enter Try.func63, Try.ntmps63
      go_wp2_with fail
      generalize ((w.alloc (.cells #[.int .i64 op, .int .i64 col, .int .i64 k, .int .u64 (n : Int), .string X] 51)).alloc (.cells #[.int .i64 rows, .int .i64 nulls, .int .i64 lk, .int .u64 (ln : Int), .string X1, .int .i64 mk, .int .u64 (mn : Int), .string X2] 40)).alloc (.cells #[.int .u64 (f 0 : Nat), .int .u64 (f 1 : Nat), .int .u64 (f 2 : Nat), .int .u64 (f 3 : Nat)] 43) = W0 at *
      go_quiet (fail)
      obtain ⟨W2, hW2⟩ : ∃ W2, W2 = W0.drewN nq := ⟨_, rfl⟩
      have hbW : Below W0.heap.size W0 W2 := by rw [hW2]; exact wb_drewN
      rw [← hW2]
      have hp3 := hp2.next hbW
      have ho3 := ho1.next hbW
      have hq3 := hq.next hbW
      have hb3 := below_then hb2 hbW
      clear hW2 hbW hp2 ho1 hq hb2 p0 p1 p2 p3 p4 o0 o1 o2 o3 o4 o5 o6 o7 q0 q1 q2 q3
      obtain ⟨p0, p1, p2, p3, p4⟩ := hp3.all
      obtain ⟨o0, o1, o2, o3, o4, o5, o6, o7⟩ := ho3.cells
      obtain ⟨q0, q1, q2, q3⟩ := hq3.all
      go_wp2_with fail
      refine (HS.out false bn false _).mono ?_
      rintro e wz ⟨rfl, rfl⟩
      go_wp2_with fail
      go_ret
      exact ⟨rfl, hb3⟩
theorem leafSet_any (c : O.Cd) (s : S.St) (f : Bl.F) (w : World) (hcc : cOk c.c) (hf : Bl.fOk f) (hop : 1 ≤ c.op ∧ c.op ≤ 4) (htl : c.c.txt.length + 16 ≤ maxLen) (hs : sOk s) : Calls Try.prog 63 #[dag c, sag s, fag f] w (CErrPost (O.leafS c s f) w) :=
  leafSet_any' c.op c.col c.c.kind c.c.num c.c.txt s.rows s.nulls s.least.kind s.least.num s.least.txt s.most.kind s.most.num s.most.txt f w hcc hf hop htl hs.2.2.1.2.2.2 hs.2.2.2.2.2.2
end Go.Proofs.Ytecfknolpnjokaa
