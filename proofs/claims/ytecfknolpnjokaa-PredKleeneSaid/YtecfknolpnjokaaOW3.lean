/- The walks of pred.told and of the closures of pred.Ask. -/
import Derived.Test.YtecfknolpnjokaaOW2
import Derived.Test.YtecfknolpnjokaaQ3
namespace Go.Proofs.Ytecfknolpnjokaa
open Go.RowKit
set_option linter.unusedVariables false

set_option maxHeartbeats 2000000 in
set_option maxRecDepth 100000 in
theorem told_any' (op col k : Int) (n : Nat) (t : List UInt8) (k' : Int) (n' : Nat) (t' : List UInt8) (w : World) :
    Calls Try.prog 25 #[.agg #[.int .i64 op, .int .i64 col, .int .i64 k, .int .u64 (n : Int), .string (str t)], .agg #[.int .i64 k', .int .u64 (n' : Int), .string (str t')]] w (CErrPost (O.told ⟨op, col, ⟨k, n, t⟩⟩ ⟨k', n', t'⟩) w) := by
  have hW := whether_any
  have hL1 := nless_any ⟨k', n', t'⟩ ⟨k, n, t⟩
  have hL2 := nless_any ⟨k, n, t⟩ ⟨k', n', t'⟩
  have hgd := guards_cell .eql
  have heq := fun W => ceql k' n' t' k n t W
  unfold cag at hL1 hL2
  simp only at hL1 hL2
  have hp := pen_new w (.int .i64 op) (.int .i64 col) (.int .i64 k) (.int .u64 (n : Int)) (.string (str t))
  have hb0 : Below w.heap.size w (w.alloc (.cells #[.int .i64 op, .int .i64 col, .int .i64 k, .int .u64 (n : Int), .string (str t)] 51)) := (Below.refl _ _).alloc (Nat.le_refl _) _
  have hb1 : Below w.heap.size w ((w.alloc (.cells #[.int .i64 op, .int .i64 col, .int .i64 k, .int .u64 (n : Int), .string (str t)] 51)).alloc (.cells #[.int .i64 k', .int .u64 (n' : Int), .string (str t')] 38)) := hb0.alloc (by simp) _
  have HW := Lib.hid hW
  clear hW
  unfold O.told
  simp only
  by_cases h4 : op = 4
  · rw [if_pos h4]
    subst h4
    by_cases hk : k' = 0
    · rw [if_pos hk]
      subst hk
      clear hL1 hL2 heq hgd
      go_enter Try.func25, Try.ntmps25
      go_wp2_with fail
      refine (HW.out true _).mono ?_
      rintro e w1 ⟨rfl, rfl⟩
      go_wp2_with fail
      go_ret
      exact ⟨rfl, hb1⟩
    · rw [if_neg hk]
      have gk : (k' == 0) = false := by simpa using hk
      clear hL1 hL2 heq hgd
      go_enter Try.func25, Try.ntmps25
      go_wp2_with fail
      refine (HW.out false _).mono ?_
      rintro e w1 ⟨rfl, rfl⟩
      go_wp2_with fail
      go_ret
      exact ⟨rfl, hb1⟩
  rw [if_neg h4]
  by_cases hk : k' = 0
  · rw [if_pos hk]
    subst hk
    clear hL1 hL2 heq hgd
    go_enter Try.func25, Try.ntmps25
    go_wp2_with fail
    go_ret
    exact ⟨rfl, hb1⟩
  rw [if_neg hk]
  by_cases h2 : op = 2
  · subst h2
    rw [if_pos rfl]
    obtain ⟨bl, hbl⟩ : ∃ bl, bl = C.less ⟨k', n', t'⟩ ⟨k, n, t⟩ := ⟨_, rfl⟩
    rw [← hbl] at hL1 ⊢
    have HL := Lib.hid hL1
    clear hL1 hL2 heq hgd hbl
    generalize str t = X at *
    generalize str t' = X' at *
    have gk : (k' == 0) = false := by simpa using hk
    cases bl
    all_goals
      go_enter Try.func25, Try.ntmps25
      go_wp2_with fail
      refine (HL.out _).mono ?_
      rintro e w1 ⟨rfl, hb2⟩
      go_wp2_with fail
      first | refine (HW.out true _).mono ?_ | refine (HW.out false _).mono ?_
      rintro e w2 ⟨rfl, rfl⟩
      go_wp2_with fail
      go_ret
      exact ⟨rfl, below_then hb1 hb2⟩
  rw [if_neg h2]
  by_cases h3 : op = 3
  · subst h3
    rw [if_pos rfl]
    obtain ⟨bl, hbl⟩ : ∃ bl, bl = C.less ⟨k, n, t⟩ ⟨k', n', t'⟩ := ⟨_, rfl⟩
    rw [← hbl] at hL2 ⊢
    have HL := Lib.hid hL2
    clear hL1 hL2 heq hgd hbl
    generalize str t = X at *
    generalize str t' = X' at *
    have gk : (k' == 0) = false := by simpa using hk
    cases bl
    all_goals
      go_enter Try.func25, Try.ntmps25
      go_wp2_with fail
      refine (HL.out _).mono ?_
      rintro e w1 ⟨rfl, hb2⟩
      go_wp2_with fail
      first | refine (HW.out true _).mono ?_ | refine (HW.out false _).mono ?_
      rintro e w2 ⟨rfl, rfl⟩
      go_wp2_with fail
      go_ret
      exact ⟨rfl, below_then hb1 hb2⟩
  rw [if_neg h3]
  obtain ⟨bl, hbl⟩ : ∃ bl, bl = decide ((⟨k', n', t'⟩ : C.Cl) = ⟨k, n, t⟩) := ⟨_, rfl⟩
  rw [← hbl] at heq ⊢
  clear hL1 hL2 hbl
  generalize str t = X at *
  generalize str t' = X' at *
  have gk : (k' == 0) = false := by simpa using hk
  cases bl
  all_goals
    go_enter Try.func25, Try.ntmps25
    go_wp2_with fail
    first | refine (HW.out true _).mono ?_ | refine (HW.out false _).mono ?_
    rintro e w2 ⟨rfl, rfl⟩
    go_wp2_with fail
    go_ret
    exact ⟨rfl, hb1⟩
theorem told_any (c : O.Cd) (x : C.Cl) (w : World) : Calls Try.prog 25 #[dag c, cag x] w (CErrPost (O.told c x) w) := told_any' c.op c.col c.c.kind c.c.num c.c.txt x.kind x.num x.txt w

theorem wb_pen {W : World} {b : Nat} {v0 v1 v2 v3 v4 : Value} (h : Pen W b v0 v1 v2 v3 v4) : (∀ p : WB W, p.w.cell? ⟨b, 0, none⟩ = some v0) ∧ (∀ p : WB W, p.w.cell? ⟨b, 1, none⟩ = some v1) ∧ (∀ p : WB W, p.w.cell? ⟨b, 2, none⟩ = some v2) ∧ (∀ p : WB W, p.w.cell? ⟨b, 3, none⟩ = some v3) ∧ (∀ p : WB W, p.w.cell? ⟨b, 4, none⟩ = some v4) :=
  ⟨fun p => p.cell h.lt h.all.1, fun p => p.cell h.lt h.all.2.1, fun p => p.cell h.lt h.all.2.2.1, fun p => p.cell h.lt h.all.2.2.2.1, fun p => p.cell h.lt h.all.2.2.2.2⟩
theorem boxed_c0 {w : World} {Cb : Nat} {t : TypeId} {v : Value} (h : Boxed w Cb t v) : w.cell? ⟨Cb, 0, none⟩ = some v := by unfold Boxed at h; simp [World.cell?, h]
theorem boxed_lt {w : World} {Cb : Nat} {t : TypeId} {v : Value} (h : Boxed w Cb t v) : Cb < w.heap.size := lt_of_block h
theorem boxed_next {w w' : World} {Cb : Nat} {t : TypeId} {v : Value} (h : Boxed w Cb t v) (hb : Below w.heap.size w w') : Boxed w' Cb t v := (hb.block Cb (boxed_lt h)).trans h

set_option maxHeartbeats 2000000 in
set_option maxRecDepth 100000 in
theorem askleaf_any (Rb : Nat) (c : O.Cd) (a : Option Addr) (cap : Nat) (row : List C.Cl) (w : World) (hB : Boxed w Rb 24 (.slice a row.length cap)) (hm : row.length ≤ maxLen) (hu : Cls w w.heap.size a row) (hcol : 0 ≤ c.col ∧ c.col < row.length) :
    Calls Try.prog 24 #[dag c, .pointer (some ⟨Rb, 0, none⟩)] w (CErrPost (O.askL row c) w) := by
  obtain ⟨op, col, k, n, t⟩ := c
  simp only at hcol
  obtain ⟨j, rfl⟩ : ∃ j : Nat, col = j := ⟨col.toNat, by omega⟩
  have hj : j < row.length := by omega
  obtain ⟨b, off, rfl, hlt, hcell⟩ := hu (by intro e; rw [e] at hj; simp at hj)
  obtain ⟨r0, r1, r2⟩ := hcell j hj
  have hT := fun W => told_any' op j k n t (row.getD j C.null).kind (row.getD j C.null).num (row.getD j C.null).txt W
  have hR : O.askL row ⟨op, j, ⟨k, n, t⟩⟩ = O.told ⟨op, j, ⟨k, n, t⟩⟩ (row.getD j C.null) := by unfold O.askL; rw [Int.toNat_natCast]
  rw [hR]
  generalize row.getD j C.null = x at *
  obtain ⟨k', n', t'⟩ := x
  simp only at r0 r1 r2 hT
  have hp := pen_new w (.int .i64 op) (.int .i64 j) (.int .i64 k) (.int .u64 (n : Int)) (.string (str t))
  have hb0 : Below w.heap.size w (w.alloc (.cells #[.int .i64 op, .int .i64 j, .int .i64 k, .int .u64 (n : Int), .string (str t)] 51)) := (Below.refl _ _).alloc (Nat.le_refl _) _
  have hrt : O.told ⟨op, j, ⟨k, n, t⟩⟩ ⟨k', n', t'⟩ ≤ 2 := O.told_le _ _
  unfold dag
  simp only
  generalize O.told ⟨op, j, ⟨k, n, t⟩⟩ ⟨k', n', t'⟩ = r at *
  generalize str t = X at *
  generalize str t' = X' at *
  unfold maxLen at hm
  have hjI : (j : Int) < (row.length : Int) := by omega
  have HT := Lib.hid (fun W => show Calls Try.prog 25 #[.agg #[.int .i64 op, .int .i64 j, .int .i64 k, .int .u64 (n : Int), .string X], .agg #[.int .i64 k', .int .u64 (n' : Int), .string X']] W (fun e w' => e = .returned (.int .i64 (r : Int)) ∧ Below W.heap.size W w') from hT W)
  obtain ⟨p0, p1, p2, p3, p4⟩ := wb_pen hp
  have hlt1 : b < (w.alloc (.cells #[.int .i64 op, .int .i64 j, .int .i64 k, .int .u64 (n : Int), .string X] 51)).heap.size := by simp; omega
  have q0 := fun p : WB (w.alloc (.cells #[.int .i64 op, .int .i64 j, .int .i64 k, .int .u64 (n : Int), .string X] 51)) => p.cell hlt1 ((hb0.cell (p := ⟨b, off + j * 3, none⟩) hlt).trans r0)
  have q1 := fun p : WB (w.alloc (.cells #[.int .i64 op, .int .i64 j, .int .i64 k, .int .u64 (n : Int), .string X] 51)) => p.cell hlt1 ((hb0.cell (p := ⟨b, off + j * 3 + 1, none⟩) hlt).trans r1)
  have q2 := fun p : WB (w.alloc (.cells #[.int .i64 op, .int .i64 j, .int .i64 k, .int .u64 (n : Int), .string X] 51)) => p.cell hlt1 ((hb0.cell (p := ⟨b, off + j * 3 + 2, none⟩) hlt).trans r2)
  have hB1 := boxed_next hB hb0
  have q3 := fun p : WB (w.alloc (.cells #[.int .i64 op, .int .i64 j, .int .i64 k, .int .u64 (n : Int), .string X] 51)) => p.cell (boxed_lt hB1) (boxed_c0 hB1)
  clear hcell hT hp r0 r1 r2 hB hB1 hlt1 hu
  go_enter Try.func24, Try.ntmps24
  go_wp2_with fail
  generalize w.alloc (.cells #[.int .i64 op, .int .i64 j, .int .i64 k, .int .u64 (n : Int), .string X] 51) = W0 at *
  refine wp_region_wb (by kernel_rfl) (by kernel_rfl) ?_
  repeat (quiet_step ((go_at_call 25; refine calls_wb (v := .int .i64 (r : Int)) ?_; with_reducible exact HT.out _)))
  refine wpQuiet_nil ?_
  rintro _ ⟨p, rfl⟩
  have hp := p.below
  clear p0 p1 p2 p3 p4 q0 q1 q2 q3
  go_wp2_with fail
  go_ret
  exact ⟨rfl, below_then hb0 hp⟩

set_option maxHeartbeats 2000000 in
set_option maxRecDepth 100000 in
theorem askcol_any (Kb Rb j : Nat) (ka : Option Addr) (kcap : Nat) (ks : List Int) (a : Option Addr) (cap : Nat) (row : List C.Cl) (w : World) (hK : Boxed w Kb 23 (.slice ka ks.length kcap)) (hB : Boxed w Rb 24 (.slice a row.length cap))
    (hku : Ints w w.heap.size ka ks) (hu : Cls w w.heap.size a row) (hx : ∀ x ∈ row, cOk x) (h1 : j < ks.length) (h2 : j < row.length) (hm : row.length ≤ maxLen) (hkm : ks.length ≤ maxLen) :
    Calls Try.prog 21 #[.int .i64 j, .pointer (some ⟨Kb, 0, none⟩), .pointer (some ⟨Rb, 0, none⟩)] w (CErrPost (oneE (ks.getD j 0) (row.getD j C.null)) w) := by
  obtain ⟨b, off, rfl, hlt, hcell⟩ := hu (by intro e; rw [e] at h2; simp at h2)
  obtain ⟨r0, r1, r2⟩ := hcell j h2
  obtain ⟨kb, koff, rfl, hklt, hkcell⟩ := hku (by intro e; rw [e] at h1; simp at h1)
  have k0 := hkcell j h1
  unfold at1 at k0
  rw [Nat.mul_one] at k0
  have hcx := hx _ (cgetD_mem row j h2)
  generalize row.getD j C.null = x at *
  generalize ks.getD j 0 = K at *
  have kw : ∀ W, Below w.heap.size w W → W.cell? ⟨kb, koff + j, none⟩ = some (.int .i64 K) := fun W h => (h.cell (p := ⟨kb, koff + j, none⟩) hklt).trans k0
  have rw0 : ∀ W, Below w.heap.size w W → W.cell? ⟨b, off + j * 3, none⟩ = some (.int .i64 x.kind) := fun W h => (h.cell (p := ⟨b, off + j * 3, none⟩) hlt).trans r0
  have rw1 : ∀ W, Below w.heap.size w W → W.cell? ⟨b, off + j * 3 + 1, none⟩ = some (.int .u64 (x.num : Int)) := fun W h => (h.cell (p := ⟨b, off + j * 3 + 1, none⟩) hlt).trans r1
  have rw2 : ∀ W, Below w.heap.size w W → W.cell? ⟨b, off + j * 3 + 2, none⟩ = some (.string (str x.txt)) := fun W h => (h.cell (p := ⟨b, off + j * 3 + 2, none⟩) hlt).trans r2
  have bw0 : ∀ W, Below w.heap.size w W → W.cell? ⟨Rb, 0, none⟩ = some (.slice (some ⟨b, off, none⟩) row.length cap) := fun W h => (h.cell (p := ⟨Rb, 0, none⟩) (boxed_lt hB)).trans (boxed_c0 hB)
  have bw1 : ∀ W, Below w.heap.size w W → W.cell? ⟨Kb, 0, none⟩ = some (.slice (some ⟨kb, koff, none⟩) ks.length kcap) := fun W h => (h.cell (p := ⟨Kb, 0, none⟩) (boxed_lt hK)).trans (boxed_c0 hK)
  unfold maxLen at hm hkm
  have hC := fun W a (h : Cls W W.heap.size a [x]) => by
    have h2 := ncheck_any K a 1 [x] W (by simp [maxLen]) (by intro x hx; rw [List.mem_singleton.1 hx]; exact hcx) h
    rw [chk_one] at h2
    exact h2
  have hCL := fun W : World => cls_lit W [x]
  have HC := Lib.hid (fun W a (h : Cls W W.heap.size a [x]) => show Calls Try.prog 22 #[.int .i64 K, .slice a 1 1] W (CErrPost (oneE K x) W) from hC W a h)
  have HCL := Lib.hid (fun W : World => show Cls (W.alloc (.cells #[.int .i64 x.kind, .int .u64 (x.num : Int), .string (str x.txt)] 38)) (W.alloc (.cells #[.int .i64 x.kind, .int .u64 (x.num : Int), .string (str x.txt)] 38)).heap.size (some ⟨W.heap.size, 0, none⟩) [x] from hCL W)
  generalize oneE K x = er at *
  have hjI : (j : Int) < (row.length : Int) := by omega
  have hjK : (j : Int) < (ks.length : Int) := by omega
  have hself : Below w.heap.size w w := Below.refl _ _
  clear hcell hkcell hB hK hC hcx k0 r0 r1 r2 hCL
  go_enter Try.func21, Try.ntmps21
  go_wp2_with fail
  go_region_held3 (fun W => Below w.heap.size w W)
    (first
      | assumption
      | exact (show Below w.heap.size w _ by assumption).drew
      | exact Below.alloc (by assumption) (Below.size (by assumption)) _
      | exact below_then (by assumption) hb9)
    (first
      | (go_at_call 22; (with_reducible refine (HC.out _ _ ?_).mono ?_); (first | exact HCL.out _ | exact (HCL.out _).next hb9); rintro e w9 ⟨rfl, hb9⟩))
  all_goals
    go_wp2_with fail
    go_ret
    exact ⟨rfl, by assumption⟩
end Go.Proofs.Ytecfknolpnjokaa
