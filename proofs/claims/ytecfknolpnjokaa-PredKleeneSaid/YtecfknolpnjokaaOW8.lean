/- The walks of pred.mayBeThere, mayBe. -/
import Derived.Test.YtecfknolpnjokaaOW7
namespace Go.Proofs.Ytecfknolpnjokaa
open Go.RowKit
set_option linter.unusedVariables false

theorem wb_oct {W : World} {b : Nat} {v0 v1 v2 v3 v4 v5 v6 v7 : Value} (h : Oct W b [v0, v1, v2, v3, v4, v5, v6, v7]) : (∀ p : WB W, p.w.cell? ⟨b, 0, none⟩ = some v0) ∧ (∀ p : WB W, p.w.cell? ⟨b, 1, none⟩ = some v1) ∧ (∀ p : WB W, p.w.cell? ⟨b, 2, none⟩ = some v2) ∧ (∀ p : WB W, p.w.cell? ⟨b, 3, none⟩ = some v3) ∧ (∀ p : WB W, p.w.cell? ⟨b, 4, none⟩ = some v4) ∧
    (∀ p : WB W, p.w.cell? ⟨b, 5, none⟩ = some v5) ∧ (∀ p : WB W, p.w.cell? ⟨b, 6, none⟩ = some v6) ∧ (∀ p : WB W, p.w.cell? ⟨b, 7, none⟩ = some v7) := by
  obtain ⟨a0, a1, a2, a3, a4, a5, a6, a7⟩ := h.cells
  exact ⟨fun p => p.cell h.lt a0, fun p => p.cell h.lt a1, fun p => p.cell h.lt a2, fun p => p.cell h.lt a3, fun p => p.cell h.lt a4, fun p => p.cell h.lt a5, fun p => p.cell h.lt a6, fun p => p.cell h.lt a7⟩

set_option maxHeartbeats 2000000 in
set_option maxRecDepth 100000 in
theorem there_any' (op col k : Int) (n : Nat) (t : List UInt8) (rows nulls lk : Int) (ln : Nat) (lt : List UInt8) (mk : Int) (mn : Nat) (mt : List UInt8) (f : Bl.F) (w : World) (hcc : cOk ⟨k, n, t⟩) (hf : Bl.fOk f) :
    Calls Try.prog 62 #[.agg #[.int .i64 op, .int .i64 col, .int .i64 k, .int .u64 (n : Int), .string (str t)],
      .agg #[.int .i64 rows, .int .i64 nulls, .int .i64 lk, .int .u64 (ln : Int), .string (str lt), .int .i64 mk, .int .u64 (mn : Int), .string (str mt)],
      .agg #[.int .u64 (f 0 : Nat), .int .u64 (f 1 : Nat), .int .u64 (f 2 : Nat), .int .u64 (f 3 : Nat)]] w (CErrPost (O.there ⟨op, col, ⟨k, n, t⟩⟩ ⟨rows, nulls, ⟨lk, ln, lt⟩, ⟨mk, mn, mt⟩⟩ f) w) := by
  have hp := pen_new w (.int .i64 op) (.int .i64 col) (.int .i64 k) (.int .u64 (n : Int)) (.string (str t))
  have hb0 : Below w.heap.size w (w.alloc (.cells #[.int .i64 op, .int .i64 col, .int .i64 k, .int .u64 (n : Int), .string (str t)] 51)) := (Below.refl _ _).alloc (Nat.le_refl _) _
  have ho := oct_new (w.alloc (.cells #[.int .i64 op, .int .i64 col, .int .i64 k, .int .u64 (n : Int), .string (str t)] 51)) [.int .i64 rows, .int .i64 nulls, .int .i64 lk, .int .u64 (ln : Int), .string (str lt), .int .i64 mk, .int .u64 (mn : Int), .string (str mt)]
  rw [show (w.alloc (.cells #[.int .i64 op, .int .i64 col, .int .i64 k, .int .u64 (n : Int), .string (str t)] 51)).heap.size = w.heap.size + 1 by simp] at ho
  have ho : Oct ((w.alloc (.cells #[.int .i64 op, .int .i64 col, .int .i64 k, .int .u64 (n : Int), .string (str t)] 51)).alloc (.cells #[.int .i64 rows, .int .i64 nulls, .int .i64 lk, .int .u64 (ln : Int), .string (str lt), .int .i64 mk, .int .u64 (mn : Int), .string (str mt)] 40)) (w.heap.size + 1) [.int .i64 rows, .int .i64 nulls, .int .i64 lk, .int .u64 (ln : Int), .string (str lt), .int .i64 mk, .int .u64 (mn : Int), .string (str mt)] := ho
  have hp1 := hp.next ((Below.refl _ _).alloc (Nat.le_refl _) (.cells #[.int .i64 rows, .int .i64 nulls, .int .i64 lk, .int .u64 (ln : Int), .string (str lt), .int .i64 mk, .int .u64 (mn : Int), .string (str mt)] 40))
  have hb1 := hb0.alloc (by simp) (.cells #[.int .i64 rows, .int .i64 nulls, .int .i64 lk, .int .u64 (ln : Int), .string (str lt), .int .i64 mk, .int .u64 (mn : Int), .string (str mt)] 40)
  have hs2 : ((w.alloc (.cells #[.int .i64 op, .int .i64 col, .int .i64 k, .int .u64 (n : Int), .string (str t)] 51)).alloc (.cells #[.int .i64 rows, .int .i64 nulls, .int .i64 lk, .int .u64 (ln : Int), .string (str lt), .int .i64 mk, .int .u64 (mn : Int), .string (str mt)] 40)).heap.size = w.heap.size + 1 + 1 := by simp
  have hq := quad_new ((w.alloc (.cells #[.int .i64 op, .int .i64 col, .int .i64 k, .int .u64 (n : Int), .string (str t)] 51)).alloc (.cells #[.int .i64 rows, .int .i64 nulls, .int .i64 lk, .int .u64 (ln : Int), .string (str lt), .int .i64 mk, .int .u64 (mn : Int), .string (str mt)] 40)) f
  rw [hs2] at hq
  have ho1 := ho.next ((Below.refl _ _).alloc (Nat.le_refl _) (.cells (qv f) 43))
  have hp2 := hp1.next ((Below.refl _ _).alloc (Nat.le_refl _) (.cells (qv f) 43))
  have hb2 := hb1.alloc (by rw [hs2]; omega) (.cells (qv f) 43)
  clear hs2 hp hp1 ho hb0 hb1
  have hT1 := fun W => told_any' op col k n t lk ln lt W
  have hT2 := fun W => told_any' op col k n t mk mn mt W
  have hl1 := O.told_le ⟨op, col, ⟨k, n, t⟩⟩ ⟨lk, ln, lt⟩
  have hl2 := O.told_le ⟨op, col, ⟨k, n, t⟩⟩ ⟨mk, mn, mt⟩
  have hL1 := nless_any ⟨k, n, t⟩ ⟨lk, ln, lt⟩
  have hL2 := nless_any ⟨mk, mn, mt⟩ ⟨k, n, t⟩
  have hM := fun W => may_any f ⟨k, n, t⟩ W hf hcc
  have hgd := guards_cell .eql
  have heq := fun W => ceql lk ln lt mk mn mt W
  have hR : O.there ⟨op, col, ⟨k, n, t⟩⟩ ⟨rows, nulls, ⟨lk, ln, lt⟩, ⟨mk, mn, mt⟩⟩ f = if op ≠ 1 then 2 ^ O.told ⟨op, col, ⟨k, n, t⟩⟩ ⟨lk, ln, lt⟩ ||| 2 ^ O.told ⟨op, col, ⟨k, n, t⟩⟩ ⟨mk, mn, mt⟩
    else if C.less ⟨k, n, t⟩ ⟨lk, ln, lt⟩ || C.less ⟨mk, mn, mt⟩ ⟨k, n, t⟩ || !Bl.may f ⟨k, n, t⟩ then 1 else if (⟨lk, ln, lt⟩ : C.Cl) = ⟨mk, mn, mt⟩ then 4 else 5 := rfl
  rw [hR]
  unfold cag fag qv at *
  simp only at hL1 hL2 hM
  generalize O.told ⟨op, col, ⟨k, n, t⟩⟩ ⟨lk, ln, lt⟩ = t1 at *
  generalize O.told ⟨op, col, ⟨k, n, t⟩⟩ ⟨mk, mn, mt⟩ = t2 at *
  generalize C.less ⟨k, n, t⟩ ⟨lk, ln, lt⟩ = b1 at *
  generalize C.less ⟨mk, mn, mt⟩ ⟨k, n, t⟩ = b2 at *
  generalize Bl.may f ⟨k, n, t⟩ = b3 at *
  clear hR hf hcc
  by_cases h1 : op ≠ 1
  · rw [if_pos h1]
    have g1 : (op != 1) = true := by rw [bne_iff_ne]; exact h1
    obtain ⟨P1, hP1⟩ : ∃ P, P = 2 ^ t1 := ⟨_, rfl⟩
    obtain ⟨P2, hP2⟩ : ∃ P, P = 2 ^ t2 := ⟨_, rfl⟩
    have q1 : P1 < 8 := by have := O.pow_le t1 hl1; omega
    have q2 : P2 < 8 := by have := O.pow_le t2 hl2; omega
    have hor := or8 q1 q2
    rw [← hP1, ← hP2]
    have HO1 := Lib.hid (fun W => vb (only_at t1 P1 hl1 hP1 W))
    have HO2 := Lib.hid (fun W => vb (only_at t2 P2 hl2 hP2 W))
    have HT1 := Lib.hid (fun W => show Calls Try.prog 25 #[.agg #[.int .i64 op, .int .i64 col, .int .i64 k, .int .u64 (n : Int), .string (str t)], .agg #[.int .i64 lk, .int .u64 (ln : Int), .string (str lt)]] W (fun e w' => e = .returned (.int .i64 (t1 : Int)) ∧ Below W.heap.size W w') from hT1 W)
    have HT2 := Lib.hid (fun W => show Calls Try.prog 25 #[.agg #[.int .i64 op, .int .i64 col, .int .i64 k, .int .u64 (n : Int), .string (str t)], .agg #[.int .i64 mk, .int .u64 (mn : Int), .string (str mt)]] W (fun e w' => e = .returned (.int .i64 (t2 : Int)) ∧ Below W.heap.size W w') from hT2 W)
    generalize (P1 ||| P2) = R at *
    clear hL1 hL2 hM heq hT1 hT2 hP1 hP2 hgd
    generalize str t = X at *
    generalize str lt = X1 at *
    generalize str mt = X2 at *
    obtain ⟨p0, p1, p2, p3, p4⟩ := wb_pen hp2
    obtain ⟨o0, o1, o2, o3, o4, o5, o6, o7⟩ := wb_oct ho1
    clear hp2 ho1 hq
    go_enter Try.func62, Try.ntmps62
    go_wp2_with fail
    generalize ((w.alloc (.cells #[.int .i64 op, .int .i64 col, .int .i64 k, .int .u64 (n : Int), .string X] 51)).alloc (.cells #[.int .i64 rows, .int .i64 nulls, .int .i64 lk, .int .u64 (ln : Int), .string X1, .int .i64 mk, .int .u64 (mn : Int), .string X2] 40)).alloc (.cells #[.int .u64 (f 0 : Nat), .int .u64 (f 1 : Nat), .int .u64 (f 2 : Nat), .int .u64 (f 3 : Nat)] 43) = W0 at *
    refine wp_region_wb (by kernel_rfl) (by kernel_rfl) ?_
    repeat (quiet_step (first
      | (go_at_call 25; refine calls_wb (v := .int .i64 (t1 : Int)) ?_; with_reducible exact HT1.out _)
      | (go_at_call 25; refine calls_wb (v := .int .i64 (t2 : Int)) ?_; with_reducible exact HT2.out _)
      | (go_at_call 61; refine calls_wb (v := .int .i64 (P1 : Int)) ?_; with_reducible exact HO1.out _)
      | (go_at_call 61; refine calls_wb (v := .int .i64 (P2 : Int)) ?_; with_reducible exact HO2.out _)))
    refine wpQuiet_nil ?_
    rintro _ ⟨p, rfl⟩
    have hp := p.below
    clear p0 p1 p2 p3 p4 o0 o1 o2 o3 o4 o5 o6 o7
    go_wp2_with fail
    go_ret
    exact ⟨rfl, below_then hb2 hp⟩
  rw [if_neg h1]
  have h1' : op = 1 := by omega
  subst h1'
  have HL1 := Lib.hid hL1
  have HL2 := Lib.hid hL2
  have HM := Lib.hid hM
  have HO0 := Lib.hid (fun W => only_at 0 1 (by omega) rfl W)
  have HO2 := Lib.hid (fun W => only_at 2 4 (by omega) rfl W)
  have hor : bits .or .i64 1 4 = 5 := or8 (a := 1) (b := 4) (by omega) (by omega)
  obtain ⟨be, hbe⟩ : ∃ be, be = decide ((⟨lk, ln, lt⟩ : C.Cl) = ⟨mk, mn, mt⟩) := ⟨_, rfl⟩
  rw [← hbe] at heq
  have HIF := Lib.hid (show (if (⟨lk, ln, lt⟩ : C.Cl) = ⟨mk, mn, mt⟩ then 4 else 5) = (if be = true then 4 else 5) by
    by_cases h : (⟨lk, ln, lt⟩ : C.Cl) = ⟨mk, mn, mt⟩
    · rw [if_pos h, if_pos (by rw [hbe]; exact decide_eq_true h)]
    · rw [if_neg h, if_neg (by rw [hbe, decide_eq_false h]; simp)])
  rw [HIF.out]
  clear hL1 hL2 hM hT1 hT2 hbe HIF hl1 hl2
  generalize str t = X at *
  generalize str lt = X1 at *
  generalize str mt = X2 at *
  cases b1
  · cases b2
    · cases b3
      · go_enter Try.func62, Try.ntmps62
        go_wp2_with fail
        refine (HL1.out _).mono ?_
        rintro e w1 ⟨rfl, hb3⟩
        obtain ⟨p0, p1, p2, p3, p4⟩ := (hp2.next hb3).all
        obtain ⟨o0, o1, o2, o3, o4, o5, o6, o7⟩ := (ho1.next hb3).cells
        go_wp2_with fail
        refine (HL2.out _).mono ?_
        rintro e w2 ⟨rfl, hb4⟩
        have hb5 := below_then hb3 hb4
        obtain ⟨p0, p1, p2, p3, p4⟩ := (hp2.next hb5).all
        obtain ⟨q0, q1, q2, q3⟩ := (hq.next hb5).all
        go_wp2_with fail
        refine (HM.out _).mono ?_
        rintro e w3 ⟨rfl, hb6⟩
        go_wp2_with fail
        refine (HO0.out _).mono ?_
        rintro e w4 ⟨rfl, rfl⟩
        go_wp2_with fail
        go_ret
        exact ⟨rfl, below_then (below_then hb2 hb5) hb6⟩
      · cases be
        all_goals
          go_enter Try.func62, Try.ntmps62
          go_wp2_with fail
          refine (HL1.out _).mono ?_
          rintro e w1 ⟨rfl, hb3⟩
          obtain ⟨p0, p1, p2, p3, p4⟩ := (hp2.next hb3).all
          obtain ⟨o0, o1, o2, o3, o4, o5, o6, o7⟩ := (ho1.next hb3).cells
          go_wp2_with fail
          refine (HL2.out _).mono ?_
          rintro e w2 ⟨rfl, hb4⟩
          have hb5 := below_then hb3 hb4
          obtain ⟨p0, p1, p2, p3, p4⟩ := (hp2.next hb5).all
          obtain ⟨q0, q1, q2, q3⟩ := (hq.next hb5).all
          go_wp2_with fail
          refine (HM.out _).mono ?_
          rintro e w3 ⟨rfl, hb6⟩
          have hb7 := below_then hb5 hb6
          obtain ⟨o0, o1, o2, o3, o4, o5, o6, o7⟩ := (ho1.next hb7).cells
          go_wp2_with fail
          first | refine (HO0.out _).mono ?_ | refine (HO2.out _).mono ?_
          rintro e w4 ⟨rfl, rfl⟩
          go_wp2_with fail
          first
            | (go_ret; exact ⟨rfl, below_then hb2 hb7⟩)
            | (refine (HO2.out _).mono ?_; rintro e w5 ⟨rfl, rfl⟩; go_wp2_with fail; go_ret; exact ⟨rfl, below_then hb2 hb7⟩)
    · go_enter Try.func62, Try.ntmps62
      go_wp2_with fail
      refine (HL1.out _).mono ?_
      rintro e w1 ⟨rfl, hb3⟩
      obtain ⟨p0, p1, p2, p3, p4⟩ := (hp2.next hb3).all
      obtain ⟨o0, o1, o2, o3, o4, o5, o6, o7⟩ := (ho1.next hb3).cells
      go_wp2_with fail
      refine (HL2.out _).mono ?_
      rintro e w2 ⟨rfl, hb4⟩
      go_wp2_with fail
      refine (HO0.out _).mono ?_
      rintro e w4 ⟨rfl, rfl⟩
      go_wp2_with fail
      go_ret
      exact ⟨rfl, below_then (below_then hb2 hb3) hb4⟩
  · go_enter Try.func62, Try.ntmps62
    go_wp2_with fail
    refine (HL1.out _).mono ?_
    rintro e w1 ⟨rfl, hb3⟩
    go_wp2_with fail
    refine (HO0.out _).mono ?_
    rintro e w4 ⟨rfl, rfl⟩
    go_wp2_with fail
    go_ret
    exact ⟨rfl, below_then hb2 hb3⟩

theorem there_any (c : O.Cd) (s : S.St) (f : Bl.F) (w : World) (hc : cOk c.c) (hf : Bl.fOk f) : Calls Try.prog 62 #[dag c, sag s, fag f] w (CErrPost (O.there c s f) w) :=
  there_any' c.op c.col c.c.kind c.c.num c.c.txt s.rows s.nulls s.least.kind s.least.num s.least.txt s.most.kind s.most.num s.most.txt f w hc hf

set_option maxHeartbeats 2000000 in
set_option maxRecDepth 100000 in
theorem mayBe_any (c : O.Cd) (s : S.St) (f : Bl.F) (w : World) (hc : cOk c.c) (hf : Bl.fOk f) :
    Calls Try.prog 41 #[dag c, sag s, fag f] w (CErrPost (O.mayBe c s f) w) := by
  have hTH := fun W => there_any c s f W hc hf
  have hTN := fun W => told_any c C.null W
  have hl1 := O.told_le c C.null
  have hl2 := O.there_lt c s f
  have hR : O.mayBe c s f = (if 0 < s.nulls then 2 ^ O.told c C.null else 0) ||| (if s.nulls < s.rows then O.there c s f else 0) := rfl
  rw [hR]
  clear hR hc hf
  rw [cag_null] at hTN
  unfold dag sag fag qv at *
  generalize O.told c C.null = t1 at *
  generalize O.there c s f = R2 at *
  generalize str c.c.txt = X at *
  generalize c.c.num = n at *
  generalize c.c.kind = k at *
  generalize c.op = op at *
  generalize c.col = col at *
  generalize str s.least.txt = X1 at *
  generalize str s.most.txt = X2 at *
  generalize s.least.num = ln at *
  generalize s.most.num = mn at *
  generalize s.least.kind = lk at *
  generalize s.most.kind = mk at *
  generalize s.rows = rows at *
  generalize s.nulls = nulls at *
  generalize f 0 = f0 at *
  generalize f 1 = f1 at *
  generalize f 2 = f2 at *
  generalize f 3 = f3 at *
  have hp := pen_new w (.int .i64 op) (.int .i64 col) (.int .i64 k) (.int .u64 (n : Int)) (.string X)
  have hb0 : Below w.heap.size w (w.alloc (.cells #[.int .i64 op, .int .i64 col, .int .i64 k, .int .u64 (n : Int), .string X] 51)) := (Below.refl _ _).alloc (Nat.le_refl _) _
  have ho : Oct ((w.alloc (.cells #[.int .i64 op, .int .i64 col, .int .i64 k, .int .u64 (n : Int), .string X] 51)).alloc (.cells #[.int .i64 rows, .int .i64 nulls, .int .i64 lk, .int .u64 (ln : Int), .string X1, .int .i64 mk, .int .u64 (mn : Int), .string X2] 40)) (w.heap.size + 1) [.int .i64 rows, .int .i64 nulls, .int .i64 lk, .int .u64 (ln : Int), .string X1, .int .i64 mk, .int .u64 (mn : Int), .string X2] := by
    have ho := oct_new (w.alloc (.cells #[.int .i64 op, .int .i64 col, .int .i64 k, .int .u64 (n : Int), .string X] 51)) [.int .i64 rows, .int .i64 nulls, .int .i64 lk, .int .u64 (ln : Int), .string X1, .int .i64 mk, .int .u64 (mn : Int), .string X2]
    rwa [show (w.alloc (.cells #[.int .i64 op, .int .i64 col, .int .i64 k, .int .u64 (n : Int), .string X] 51)).heap.size = w.heap.size + 1 by simp] at ho
  have hp1 := hp.next ((Below.refl _ _).alloc (Nat.le_refl _) (.cells #[.int .i64 rows, .int .i64 nulls, .int .i64 lk, .int .u64 (ln : Int), .string X1, .int .i64 mk, .int .u64 (mn : Int), .string X2] 40))
  have hb1 := hb0.alloc (by simp) (.cells #[.int .i64 rows, .int .i64 nulls, .int .i64 lk, .int .u64 (ln : Int), .string X1, .int .i64 mk, .int .u64 (mn : Int), .string X2] 40)
  have hs2 : ((w.alloc (.cells #[.int .i64 op, .int .i64 col, .int .i64 k, .int .u64 (n : Int), .string X] 51)).alloc (.cells #[.int .i64 rows, .int .i64 nulls, .int .i64 lk, .int .u64 (ln : Int), .string X1, .int .i64 mk, .int .u64 (mn : Int), .string X2] 40)).heap.size = w.heap.size + 1 + 1 := by simp
  have hq : Quad (((w.alloc (.cells #[.int .i64 op, .int .i64 col, .int .i64 k, .int .u64 (n : Int), .string X] 51)).alloc (.cells #[.int .i64 rows, .int .i64 nulls, .int .i64 lk, .int .u64 (ln : Int), .string X1, .int .i64 mk, .int .u64 (mn : Int), .string X2] 40)).alloc (.cells #[.int .u64 (f0 : Nat), .int .u64 (f1 : Nat), .int .u64 (f2 : Nat), .int .u64 (f3 : Nat)] 43)) (w.heap.size + 1 + 1) (fun j => if j = 0 then f0 else if j = 1 then f1 else if j = 2 then f2 else f3) := by
    have hq := quad_new ((w.alloc (.cells #[.int .i64 op, .int .i64 col, .int .i64 k, .int .u64 (n : Int), .string X] 51)).alloc (.cells #[.int .i64 rows, .int .i64 nulls, .int .i64 lk, .int .u64 (ln : Int), .string X1, .int .i64 mk, .int .u64 (mn : Int), .string X2] 40)) (fun j => if j = 0 then f0 else if j = 1 then f1 else if j = 2 then f2 else f3)
    rw [hs2] at hq
    exact hq
  have ho1 := ho.next ((Below.refl _ _).alloc (Nat.le_refl _) (.cells #[.int .u64 (f0 : Nat), .int .u64 (f1 : Nat), .int .u64 (f2 : Nat), .int .u64 (f3 : Nat)] 43))
  have hp2 := hp1.next ((Below.refl _ _).alloc (Nat.le_refl _) (.cells #[.int .u64 (f0 : Nat), .int .u64 (f1 : Nat), .int .u64 (f2 : Nat), .int .u64 (f3 : Nat)] 43))
  have hb2 := hb1.alloc (by rw [hs2]; omega) (.cells #[.int .u64 (f0 : Nat), .int .u64 (f1 : Nat), .int .u64 (f2 : Nat), .int .u64 (f3 : Nat)] 43)
  clear hs2 hp hp1 ho hb0 hb1
  have HTH := Lib.hid hTH
  have HTN := Lib.hid hTN
  obtain ⟨P1, hP1⟩ : ∃ P, P = 2 ^ t1 := ⟨_, rfl⟩
  have q1 : P1 < 8 := by have := O.pow_le t1 hl1; omega
  rw [← hP1]
  have HO1 := Lib.hid (fun W => only_at t1 P1 hl1 hP1 W)
  clear hTH hTN hP1
  have hz1 : bits .or .i64 0 (P1 : Int) = ((P1 : Nat) : Int) := by have := or8 (a := 0) (b := P1) (by omega) q1; simpa using this
  have hz2 : bits .or .i64 0 (R2 : Int) = ((R2 : Nat) : Int) := by have := or8 (a := 0) (b := R2) (by omega) hl2; simpa using this
  have hor := or8 q1 hl2
  have e1 : P1 ||| 0 = P1 := Nat.or_zero _
  have e2 : 0 ||| R2 = R2 := Nat.zero_or _
  by_cases hn : 0 < nulls
  · rw [if_pos hn]
    by_cases hr : nulls < rows
    · rw [if_pos hr]
      generalize (P1 ||| R2) = R at *
      go_enter Try.func41, Try.ntmps41
      go_wp2_with fail
      refine (HTN.out _).mono ?_
      rintro e w1 ⟨rfl, hb3⟩
      go_wp2_with fail
      refine (HO1.out _).mono ?_
      rintro e w2 ⟨rfl, rfl⟩
      obtain ⟨p0, p1, p2, p3, p4⟩ := (hp2.next hb3).all
      obtain ⟨o0, o1, o2, o3, o4, o5, o6, o7⟩ := (ho1.next hb3).cells
      obtain ⟨q0, q1, q2, q3⟩ := (hq.next hb3).all
      simp only at q0 q1 q2 q3
      go_wp2_with fail
      refine (HTH.out _).mono ?_
      rintro e w2 ⟨rfl, hb4⟩
      go_wp2_with fail
      go_ret
      exact ⟨rfl, below_then (below_then hb2 hb3) hb4⟩
    · rw [if_neg hr, e1]
      go_enter Try.func41, Try.ntmps41
      go_wp2_with fail
      refine (HTN.out _).mono ?_
      rintro e w1 ⟨rfl, hb3⟩
      go_wp2_with fail
      refine (HO1.out _).mono ?_
      rintro e w2 ⟨rfl, rfl⟩
      obtain ⟨o0, o1, o2, o3, o4, o5, o6, o7⟩ := (ho1.next hb3).cells
      go_wp2_with fail
      go_ret
      exact ⟨rfl, below_then hb2 hb3⟩
  · rw [if_neg hn]
    by_cases hr : nulls < rows
    · rw [if_pos hr, e2]
      go_enter Try.func41, Try.ntmps41
      go_wp2_with fail
      refine (HTH.out _).mono ?_
      rintro e w2 ⟨rfl, hb4⟩
      go_wp2_with fail
      go_ret
      exact ⟨rfl, below_then hb2 hb4⟩
    · rw [if_neg hr]
      go_enter Try.func41, Try.ntmps41
      go_wp2_with fail
      go_ret
      exact ⟨rfl, hb2⟩
end Go.Proofs.Ytecfknolpnjokaa
