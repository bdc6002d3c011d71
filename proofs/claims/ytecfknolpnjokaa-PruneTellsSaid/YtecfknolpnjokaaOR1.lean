/- The walks of hypostyleref.condSize, condAlone, CondCheck. -/
import Derived.Test.YtecfknolpnjokaaOW3
import Derived.Test.YtecfknolpnjokaaOPlain2
namespace Go.Proofs.Ytecfknolpnjokaa
open Go.RowKit
set_option linter.unusedVariables false

def csz (op : Int) : Int := if op < 1 ∨ 7 < op then -1 else (O.parts op : Nat)
set_option maxHeartbeats 1000000 in
theorem csize_any (op : Int) (w : World) : Calls Try.prog 36 #[.int .i64 op] w (ValPost (.int .i64 (csz op)) w) := by
  by_cases h1 : op < 1
  · have hc : csz op = -1 := by unfold csz; rw [if_pos (Or.inl h1)]
    rw [hc]
    go_enter Try.func36, Try.ntmps36
    go_wp2_with fail
    go_ret
    exact ⟨rfl, rfl⟩
  by_cases h2 : 7 < op
  · have hc : csz op = -1 := by unfold csz; rw [if_pos (Or.inr h2)]
    rw [hc]
    have g1 : decide (op < 1) = false := decide_eq_false h1
    have g2 : decide (7 < op) = true := decide_eq_true h2
    clear h1 h2
    go_enter Try.func36, Try.ntmps36
    go_wp2_with fail
    go_ret
    exact ⟨rfl, rfl⟩
  have h7 : op = 1 ∨ op = 2 ∨ op = 3 ∨ op = 4 ∨ op = 5 ∨ op = 6 ∨ op = 7 := by omega
  rcases h7 with rfl | rfl | rfl | rfl | rfl | rfl | rfl
  all_goals
    go_enter Try.func36, Try.ntmps36
    go_wp2_with fail
    go_ret
    exact ⟨rfl, rfl⟩

set_option maxHeartbeats 4000000 in
set_option maxRecDepth 100000 in
theorem calone_any (c : O.Cd) (a : Option Addr) (cap : Nat) (ks : List Int) (w : World) (hc : dOk c) (hk64 : ∀ k ∈ ks, -9223372036854775808 ≤ k ∧ k ≤ 9223372036854775807) (hm : ks.length ≤ maxLen) (hu : Ints w w.heap.size a ks) :
    Calls Try.prog 35 #[dag c, .slice a ks.length cap] w (CErrPost (O.alone ks c) w) := by
  obtain ⟨op, col, k, n, t⟩ := c
  obtain ⟨_, hcol, hcc⟩ := hc
  simp only at hcol hcc
  unfold maxLen at hm
  have hS := csize_any op
  have hne : ∀ W, (binOp .neq 38 (.agg #[.int .i64 k, .int .u64 (n : Int), .string (str t)]) (.agg #[.int .i64 0, .int .u64 0, .string ⟨#[]⟩])).run Try.prog W = .ok (.bool (decide ((⟨k, n, t⟩ : C.Cl) ≠ C.null))) W := fun W => cneq k n t 0 0 [] W
  have hgd := guards_cell .neq
  have hcell : ∀ K, (-9223372036854775808 ≤ K ∧ K ≤ 9223372036854775807) → ∀ W, Calls Try.prog 54 #[.int .i64 K, .agg #[.int .i64 k, .int .u64 (n : Int), .string (str t)]] W (CErrPost (C.cellE K ⟨k, n, t⟩) W) := fun K hK W => rchk_any K ⟨k, n, t⟩ W hcc hK
  have hA : O.alone ks ⟨op, col, ⟨k, n, t⟩⟩ = if op < 1 ∨ 7 < op then 7 else if 5 ≤ op then (if col ≠ 0 ∨ (⟨k, n, t⟩ : C.Cl) ≠ C.null then 1 else 0)
      else if col < 0 ∨ (ks.length : Int) ≤ col then 3
      else if ks.getD col.toNat 0 ≠ 1 ∧ ks.getD col.toNat 0 ≠ 2 then 7
      else if op = 4 then (if (⟨k, n, t⟩ : C.Cl) ≠ C.null then 1 else 0)
      else if C.cellE (ks.getD col.toNat 0) ⟨k, n, t⟩ ≠ 0 then C.cellE (ks.getD col.toNat 0) ⟨k, n, t⟩ else if k = 0 then 7 else 0 := rfl
  rw [hA]
  clear hA
  have hE9 := fun K => O.cellE_lt K ⟨k, n, t⟩
  have hp := pen_new w (.int .i64 op) (.int .i64 col) (.int .i64 k) (.int .u64 (n : Int)) (.string (str t))
  have hb0 : Below w.heap.size w (w.alloc (.cells #[.int .i64 op, .int .i64 col, .int .i64 k, .int .u64 (n : Int), .string (str t)] 51)) := (Below.refl _ _).alloc (Nat.le_refl _) _
  have HSZ := Lib.hid hS
  have HCELL := Lib.hid hcell
  clear hS hcell hcc
  unfold dag
  simp only
  generalize hZ : decide ((⟨k, n, t⟩ : C.Cl) ≠ C.null) = z at *
  have HZ := Lib.hid (show (if (⟨k, n, t⟩ : C.Cl) ≠ C.null then 1 else 0) = (if z = true then 1 else 0) by
    by_cases h : (⟨k, n, t⟩ : C.Cl) ≠ C.null
    · rw [if_pos h, if_pos (by rw [← hZ]; exact decide_eq_true h)]
    · rw [if_neg h, if_neg (by rw [← hZ, decide_eq_false h]; simp)])
  have HZ2 := Lib.hid (show ((⟨k, n, t⟩ : C.Cl) ≠ C.null) ↔ z = true by rw [← hZ]; exact (decide_eq_true_iff).symm)
  clear hZ
  by_cases h17 : op < 1 ∨ 7 < op
  · rw [if_pos h17]
    have HSZ := Lib.hid (fun W => show Calls Try.prog 36 #[.int .i64 op] W (ValPost (.int .i64 (-1)) W) by have h := HSZ.out W; unfold csz at h; rwa [if_pos h17] at h)
    clear h17 hne
    generalize str t = X at *
    go_enter Try.func35, Try.ntmps35
    go_wp2_with fail
    refine (HSZ.out _).mono ?_
    rintro e w1 ⟨rfl, rfl⟩
    go_wp2_with fail
    go_ret
    exact ⟨rfl, hb0⟩
  rw [if_neg h17]
  have HSZ := Lib.hid (fun W => show Calls Try.prog 36 #[.int .i64 op] W (ValPost (.int .i64 (O.parts op : Nat)) W) by have h := HSZ.out W; unfold csz at h; rwa [if_neg h17] at h)
  by_cases h5 : 5 ≤ op
  · rw [if_pos h5]
    have hpp : 0 < O.parts op := by
      rcases O.parts_cases op with h | h | h <;> omega
    have hpl := O.parts_le op
    generalize O.parts op = m at *
    have g0 : decide ((m : Int) < 0) = false := by simp
    have g1 : decide ((0 : Int) < (m : Int)) = true := by simp; omega
    have g2 : decide (0 < m) = true := by simp; omega
    generalize str t = X at *
    by_cases q1 : col ≠ 0
    · rw [if_pos (Or.inl q1)]
      have g3 : (col != 0) = true := by rw [bne_iff_ne]; exact q1
      clear h17 h5 hne
      go_enter Try.func35, Try.ntmps35
      go_wp2_with fail
      refine (HSZ.out _).mono ?_
      rintro e w1 ⟨rfl, rfl⟩
      go_wp2_with fail
      go_ret
      exact ⟨rfl, hb0⟩
    · have q1 : col = 0 := by omega
      subst q1
      have HIF := Lib.hid (show (if (0 : Int) ≠ 0 ∨ (⟨k, n, t⟩ : C.Cl) ≠ C.null then 1 else 0) = (if z = true then 1 else 0) by
        rw [← HZ.out]
        by_cases h : (⟨k, n, t⟩ : C.Cl) ≠ C.null
        · rw [if_pos (Or.inr h), if_pos h]
        · rw [if_neg (by rintro (h0 | h0); exact h0 rfl; exact h h0), if_neg h])
      rw [HIF.out]
      clear HIF h17 h5 HZ HZ2
      cases z
      all_goals
        go_enter Try.func35, Try.ntmps35
        go_wp2_with fail
        refine (HSZ.out _).mono ?_
        rintro e w1 ⟨rfl, rfl⟩
        go_wp2_with fail
        go_ret
        exact ⟨rfl, hb0⟩
  rw [if_neg h5]
  have hp0 : O.parts op = 0 := by rcases O.parts_cases op with h | h | h <;> omega
  rw [hp0] at HSZ
  by_cases hbad : col < 0 ∨ (ks.length : Int) ≤ col
  · rw [if_pos hbad]
    clear h17 h5 hne
    generalize str t = X at *
    rcases hbad with hbad | hbad
    · go_enter Try.func35, Try.ntmps35
      go_wp2_with fail
      refine (HSZ.out _).mono ?_
      rintro e w1 ⟨rfl, rfl⟩
      go_wp2_with fail
      go_ret
      exact ⟨rfl, hb0⟩
    · obtain ⟨j, rfl⟩ : ∃ j : Nat, col = j := ⟨col.toNat, by omega⟩
      have g0 : decide ((j : Int) < 0) = false := by simp
      have g1 : decide ((ks.length : Int) ≤ (j : Int)) = true := by simp; omega
      have g2 : decide (ks.length ≤ j) = true := by simp; omega
      go_enter Try.func35, Try.ntmps35
      go_wp2_with fail
      refine (HSZ.out _).mono ?_
      rintro e w1 ⟨rfl, rfl⟩
      go_wp2_with fail
      go_ret
      exact ⟨rfl, hb0⟩
  rw [if_neg hbad]
  obtain ⟨j, rfl⟩ : ∃ j : Nat, col = j := ⟨col.toNat, by omega⟩
  have hj : j < ks.length := by omega
  rw [Int.toNat_natCast]
  obtain ⟨b, off, rfl, hlt, hcells⟩ := hu (by intro e; rw [e] at hj; simp at hj)
  have hk := hcells j hj
  unfold at1 at hk
  rw [Nat.mul_one] at hk
  have hK64 := hk64 (ks.getD j 0) (by simp only [List.getD, List.getElem?_eq_getElem hj, Option.getD_some]; exact List.getElem_mem hj)
  have hE := hE9 (ks.getD j 0)
  generalize ks.getD j 0 = K at *
  have hk1 := hb0.cell (p := ⟨b, off + j, none⟩) hlt
  rw [hk] at hk1
  have HC := Lib.hid (fun W => show Calls Try.prog 54 #[.int .i64 K, .agg #[.int .i64 k, .int .u64 (n : Int), .string (str t)]] W (fun e w' => e = .returned (.int .i64 (C.cellE K ⟨k, n, t⟩ : Nat)) ∧ Below W.heap.size W w') from HCELL.out K hK64 W)
  have hjI : (j : Int) < (ks.length : Int) := by omega
  clear hcells hbad HCELL hE9 hk64
  by_cases hK : K ≠ 1 ∧ K ≠ 2
  · rw [if_pos hK]
    have g1 : (K != 1) = true := by rw [bne_iff_ne]; exact hK.1
    have g2 : (K != 2) = true := by rw [bne_iff_ne]; exact hK.2
    generalize str t = X at *
    clear h17 h5 hne hK
    go_enter Try.func35, Try.ntmps35
    go_wp2_with fail
    refine (HSZ.out _).mono ?_
    rintro e w1 ⟨rfl, rfl⟩
    go_wp2_with fail
    go_ret
    exact ⟨rfl, hb0⟩
  rw [if_neg hK]
  have hK2 : K = 1 ∨ K = 2 := by omega
  by_cases h4 : op = 4
  · rw [if_pos h4]
    subst h4
    rw [HZ.out]
    generalize str t = X at *
    clear h17 h5 HZ HZ2 HC
    cases z <;> rcases hK2 with rfl | rfl
    all_goals
      go_enter Try.func35, Try.ntmps35
      go_wp2_with fail
      refine (HSZ.out _).mono ?_
      rintro e w1 ⟨rfl, rfl⟩
      go_wp2_with fail
      go_ret
      exact ⟨rfl, hb0⟩
  rw [if_neg h4]
  generalize C.cellE K ⟨k, n, t⟩ = er at *
  generalize str t = X at *
  have g4 : (op == 4) = false := by rw [beq_eq_false_iff_ne]; exact h4
  obtain ⟨p0, p1, p2, p3, p4⟩ := wb_pen hp
  have hltA : b < (w.alloc (.cells #[.int .i64 op, .int .i64 j, .int .i64 k, .int .u64 (n : Int), .string X] 51)).heap.size := by simp; omega
  have pk := fun p : WB (w.alloc (.cells #[.int .i64 op, .int .i64 j, .int .i64 k, .int .u64 (n : Int), .string X] 51)) => p.cell hltA hk1
  obtain ⟨R, hR⟩ : ∃ R, R = (if er ≠ 0 then er else if k = 0 then 7 else 0) := ⟨_, rfl⟩
  rw [← hR]
  have HR := Lib.hid hR
  clear h17 h5 hne hR hK HZ HZ2 hcol hltA
  rcases hK2 with rfl | rfl
  all_goals
    by_cases he : er = 0
    · subst he
      by_cases hk0 : k = 0
      · have HR := Lib.hid (show R = 7 by rw [HR.out, if_neg (by simp), if_pos hk0])
        subst hk0
        go_enter Try.func35, Try.ntmps35
        go_wp2_with fail
        refine (HSZ.out _).mono ?_
        rintro e w1 ⟨rfl, rfl⟩
        go_wp2_with fail
        generalize w.alloc (.cells #[.int .i64 op, .int .i64 j, .int .i64 0, .int .u64 (n : Int), .string X] 51) = W0 at *
        refine wp_region_wb (by kernel_rfl) (by kernel_rfl) ?_
        repeat (quiet_step ((go_at_call 54; refine calls_wb (v := .int .i64 ((0 : Nat) : Int)) ?_; with_reducible exact HC.out _)))
        refine wpQuiet_nil ?_
        rintro _ ⟨p, rfl⟩
        have hpb := p.below
        have c2 := p2 p
        clear p0 p1 p2 p3 p4 pk
        go_wp2_with fail
        go_ret
        exact ⟨by rw [HR.out]; rfl, below_then hb0 hpb⟩
      · have HR := Lib.hid (show R = 0 by rw [HR.out, if_neg (by simp), if_neg hk0])
        have g5 : (k == 0) = false := by rw [beq_eq_false_iff_ne]; exact hk0
        go_enter Try.func35, Try.ntmps35
        go_wp2_with fail
        refine (HSZ.out _).mono ?_
        rintro e w1 ⟨rfl, rfl⟩
        go_wp2_with fail
        generalize w.alloc (.cells #[.int .i64 op, .int .i64 j, .int .i64 k, .int .u64 (n : Int), .string X] 51) = W0 at *
        refine wp_region_wb (by kernel_rfl) (by kernel_rfl) ?_
        repeat (quiet_step ((go_at_call 54; refine calls_wb (v := .int .i64 ((0 : Nat) : Int)) ?_; with_reducible exact HC.out _)))
        refine wpQuiet_nil ?_
        rintro _ ⟨p, rfl⟩
        have hpb := p.below
        have c2 := p2 p
        clear p0 p1 p2 p3 p4 pk
        go_wp2_with fail
        go_ret
        exact ⟨by rw [HR.out]; rfl, below_then hb0 hpb⟩
    · have HR := Lib.hid (show R = er by rw [HR.out, if_pos he])
      have g5 : ((er : Int) == 0) = false := by rw [beq_eq_false_iff_ne]; omega
      have g6 : (er == 0) = false := by rw [beq_eq_false_iff_ne]; omega
      go_enter Try.func35, Try.ntmps35
      go_wp2_with fail
      refine (HSZ.out _).mono ?_
      rintro e w1 ⟨rfl, rfl⟩
      go_wp2_with fail
      generalize w.alloc (.cells #[.int .i64 op, .int .i64 j, .int .i64 k, .int .u64 (n : Int), .string X] 51) = W0 at *
      refine wp_region_wb (by kernel_rfl) (by kernel_rfl) ?_
      repeat (quiet_step ((go_at_call 54; refine calls_wb (v := .int .i64 (er : Int)) ?_; with_reducible exact HC.out _)))
      refine wpQuiet_nil ?_
      rintro _ ⟨p, rfl⟩
      have hpb := p.below
      clear p0 p1 p2 p3 p4 pk
      go_wp2_with fail
      go_ret
      exact ⟨by rw [HR.out]; rfl, below_then hb0 hpb⟩
end Go.Proofs.Ytecfknolpnjokaa
