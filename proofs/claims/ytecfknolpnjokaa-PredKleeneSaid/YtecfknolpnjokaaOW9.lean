/- The walks of pred.Prune and its closures. -/
import Derived.Test.YtecfknolpnjokaaOW5
import Derived.Test.YtecfknolpnjokaaOW8
import Derived.Test.YtecfknolpnjokaaOW6
import Derived.Test.YtecfknolpnjokaaQ3
namespace Go.Proofs.Ytecfknolpnjokaa
open Go.RowKit
set_option linter.unusedVariables false

set_option maxHeartbeats 2000000 in
set_option maxRecDepth 100000 in
theorem prunecol_any (Kb Rb j : Nat) (ka : Option Addr) (kcap : Nat) (ks : List Int) (a : Option Addr) (cap : Nat) (ss : List S.St) (w : World) (hK : Boxed w Kb 23 (.slice ka ks.length kcap)) (hB : Boxed w Rb 31 (.slice a ss.length cap))
    (hku : Ints w w.heap.size ka ks) (hu : Sts w w.heap.size a ss) (hx : ∀ x ∈ ss, sOk x) (h1 : j < ks.length) (h2 : j < ss.length) (hm : ss.length ≤ maxLen) (hkm : ks.length ≤ maxLen) :
    Calls Try.prog 37 #[.int .i64 j, .pointer (some ⟨Kb, 0, none⟩), .pointer (some ⟨Rb, 0, none⟩)] w (CErrPost (S.ck (ks.getD j 0) (ss.getD j S.zero)) w) := by
  obtain ⟨b, off, rfl, hlt, hcell⟩ := hu (by intro e; rw [e] at h2; simp at h2)
  obtain ⟨r0, r1, r2, r3, r4, r5, r6, r7⟩ := hcell j h2
  obtain ⟨kb, koff, rfl, hklt, hkcell⟩ := hku (by intro e; rw [e] at h1; simp at h1)
  have k0 := hkcell j h1
  unfold at1 at k0
  rw [Nat.mul_one] at k0
  have hsx := hx (ss.getD j S.zero) (by simp only [List.getD, List.getElem?_eq_getElem h2, Option.getD_some]; exact List.getElem_mem h2)
  generalize ss.getD j S.zero = x at *
  generalize ks.getD j 0 = K at *
  have hC := fun W => scheck_any K x W hsx
  unfold maxLen at hm hkm
  unfold sag at hC
  have HC := Lib.hid (fun W => show Calls Try.prog 38 #[.int .i64 K, .agg #[.int .i64 x.rows, .int .i64 x.nulls, .int .i64 x.least.kind, .int .u64 (x.least.num : Int), .string (str x.least.txt), .int .i64 x.most.kind, .int .u64 (x.most.num : Int), .string (str x.most.txt)]] W (fun e w' => e = .returned (.int .i64 (S.ck K x : Nat)) ∧ Below W.heap.size W w') from hC W)
  generalize S.ck K x = er at *
  have hjI : (j : Int) < (ss.length : Int) := by omega
  have hjK : (j : Int) < (ks.length : Int) := by omega
  have f0 := fun p : WB w => p.cell hlt r0
  have f1 := fun p : WB w => p.cell hlt r1
  have f2 := fun p : WB w => p.cell hlt r2
  have f3 := fun p : WB w => p.cell hlt r3
  have f4 := fun p : WB w => p.cell hlt r4
  have f5 := fun p : WB w => p.cell hlt r5
  have f6 := fun p : WB w => p.cell hlt r6
  have f7 := fun p : WB w => p.cell hlt r7
  have fk := fun p : WB w => p.cell hklt k0
  have fb := fun p : WB w => p.cell (boxed_lt hB) (boxed_c0 hB)
  have fc := fun p : WB w => p.cell (boxed_lt hK) (boxed_c0 hK)
  clear hcell hkcell hB hK hC hsx hx r0 r1 r2 r3 r4 r5 r6 r7 k0 hu hku
  go_enter Try.func37, Try.ntmps37
  go_wp2_with fail
  refine wp_region_wb (by kernel_rfl) (by kernel_rfl) ?_
  repeat (quiet_step ((go_at_call 38; refine calls_wb (v := .int .i64 (er : Int)) ?_; with_reducible exact HC.out _)))
  refine wpQuiet_nil ?_
  rintro _ ⟨p, rfl⟩
  have hp := p.below
  clear f0 f1 f2 f3 f4 f5 f6 f7 fk fb fc
  go_wp2_with fail
  go_ret
  exact ⟨rfl, hp⟩

set_option maxHeartbeats 2000000 in
set_option maxRecDepth 100000 in
theorem pruneleaf_any (Kb Rb : Nat) (c : O.Cd) (a : Option Addr) (cap : Nat) (ss : List S.St) (af : Option Addr) (capf : Nat) (fs : List Bl.F) (w : World) (hK : Boxed w Kb 31 (.slice a ss.length cap)) (hB : Boxed w Rb 32 (.slice af fs.length capf))
    (hu : Sts w w.heap.size a ss) (hfu : Fls w w.heap.size af fs) (hfx : ∀ x ∈ fs, Bl.fOk x) (hc : cOk c.c) (hcol : 0 ≤ c.col ∧ c.col < ss.length) (hlen : fs.length = ss.length) (hm : ss.length ≤ maxLen) :
    Calls Try.prog 40 #[dag c, .pointer (some ⟨Kb, 0, none⟩), .pointer (some ⟨Rb, 0, none⟩)] w (CErrPost (O.askS ss fs c) w) := by
  obtain ⟨op, col, ⟨k, n, t⟩⟩ := c
  simp only at hcol hc
  obtain ⟨j, rfl⟩ : ∃ j : Nat, col = j := ⟨col.toNat, by omega⟩
  have hj : j < ss.length := by omega
  have hjf : j < fs.length := by omega
  obtain ⟨b, off, rfl, hlt, hcell⟩ := hu (by intro e; rw [e] at hj; simp at hj)
  obtain ⟨r0, r1, r2, r3, r4, r5, r6, r7⟩ := hcell j hj
  obtain ⟨fb, foff, rfl, hflt, hfcell⟩ := hfu (by intro e; rw [e] at hjf; simp at hjf)
  obtain ⟨s0, s1, s2, s3⟩ := hfcell j hjf
  have hfo := hfx (fs.getD j Bl.none_) (by simp only [List.getD, List.getElem?_eq_getElem hjf, Option.getD_some]; exact List.getElem_mem hjf)
  have hR : O.askS ss fs ⟨op, j, ⟨k, n, t⟩⟩ = O.mayBe ⟨op, j, ⟨k, n, t⟩⟩ (ss.getD j S.zero) (fs.getD j Bl.none_) := by unfold O.askS; rw [Int.toNat_natCast]
  rw [hR]
  generalize ss.getD j S.zero = x at *
  generalize fs.getD j Bl.none_ = f at *
  have hC := fun W => mayBe_any ⟨op, j, ⟨k, n, t⟩⟩ x f W hc hfo
  unfold dag sag fag qv at hC
  unfold dag
  simp only at hC ⊢
  have HC := Lib.hid (fun W => show Calls Try.prog 41 #[.agg #[.int .i64 op, .int .i64 j, .int .i64 k, .int .u64 (n : Int), .string (str t)], .agg #[.int .i64 x.rows, .int .i64 x.nulls, .int .i64 x.least.kind, .int .u64 (x.least.num : Int), .string (str x.least.txt), .int .i64 x.most.kind, .int .u64 (x.most.num : Int), .string (str x.most.txt)], .agg #[.int .u64 (f 0 : Nat), .int .u64 (f 1 : Nat), .int .u64 (f 2 : Nat), .int .u64 (f 3 : Nat)]] W (fun e w' => e = .returned (.int .i64 (O.mayBe ⟨op, j, ⟨k, n, t⟩⟩ x f : Nat)) ∧ Below W.heap.size W w') from hC W)
  generalize O.mayBe ⟨op, j, ⟨k, n, t⟩⟩ x f = r at *
  generalize str t = X at *
  unfold maxLen at hm
  have hjI : (j : Int) < (ss.length : Int) := by omega
  have hjF : (j : Int) < (fs.length : Int) := by omega
  have hp := pen_new w (.int .i64 op) (.int .i64 j) (.int .i64 k) (.int .u64 (n : Int)) (.string X)
  have hb0 : Below w.heap.size w (w.alloc (.cells #[.int .i64 op, .int .i64 j, .int .i64 k, .int .u64 (n : Int), .string X] 51)) := (Below.refl _ _).alloc (Nat.le_refl _) _
  have hB1 := boxed_next hB hb0
  have hK1 := boxed_next hK hb0
  have hsz : w.heap.size < (w.alloc (.cells #[.int .i64 op, .int .i64 j, .int .i64 k, .int .u64 (n : Int), .string X] 51)).heap.size := by simp
  have z0 := (hb0.cell (p := ⟨b, off + j * 8, none⟩) hlt).trans r0
  have z1 := (hb0.cell (p := ⟨b, off + j * 8 + 1, none⟩) hlt).trans r1
  have z2 := (hb0.cell (p := ⟨b, off + j * 8 + 2, none⟩) hlt).trans r2
  have z3 := (hb0.cell (p := ⟨b, off + j * 8 + 3, none⟩) hlt).trans r3
  have z4 := (hb0.cell (p := ⟨b, off + j * 8 + 4, none⟩) hlt).trans r4
  have z5 := (hb0.cell (p := ⟨b, off + j * 8 + 5, none⟩) hlt).trans r5
  have z6 := (hb0.cell (p := ⟨b, off + j * 8 + 6, none⟩) hlt).trans r6
  have z7 := (hb0.cell (p := ⟨b, off + j * 8 + 7, none⟩) hlt).trans r7
  have y0 := (hb0.cell (p := ⟨fb, foff + j * 4, none⟩) hflt).trans s0
  have y1 := (hb0.cell (p := ⟨fb, foff + j * 4 + 1, none⟩) hflt).trans s1
  have y2 := (hb0.cell (p := ⟨fb, foff + j * 4 + 2, none⟩) hflt).trans s2
  have y3 := (hb0.cell (p := ⟨fb, foff + j * 4 + 3, none⟩) hflt).trans s3
  clear hcell hfcell hC hfx hfo r0 r1 r2 r3 r4 r5 r6 r7 s0 s1 s2 s3 hu hfu hR hB hK
  go_enter Try.func40, Try.ntmps40
  go_wp2_with fail
  generalize w.alloc (.cells #[.int .i64 op, .int .i64 j, .int .i64 k, .int .u64 (n : Int), .string X] 51) = W0 at *
  obtain ⟨p0, p1, p2, p3, p4⟩ := wb_pen hp
  have l1 : b < W0.heap.size := by omega
  have l2 : fb < W0.heap.size := by omega
  have f0 := fun p : WB W0 => p.cell l1 z0
  have f1 := fun p : WB W0 => p.cell l1 z1
  have f2 := fun p : WB W0 => p.cell l1 z2
  have f3 := fun p : WB W0 => p.cell l1 z3
  have f4 := fun p : WB W0 => p.cell l1 z4
  have f5 := fun p : WB W0 => p.cell l1 z5
  have f6 := fun p : WB W0 => p.cell l1 z6
  have f7 := fun p : WB W0 => p.cell l1 z7
  have g0 := fun p : WB W0 => p.cell l2 y0
  have g1 := fun p : WB W0 => p.cell l2 y1
  have g2 := fun p : WB W0 => p.cell l2 y2
  have g3 := fun p : WB W0 => p.cell l2 y3
  have fbb := fun p : WB W0 => p.cell (boxed_lt hB1) (boxed_c0 hB1)
  have fkk := fun p : WB W0 => p.cell (boxed_lt hK1) (boxed_c0 hK1)
  clear hp z0 z1 z2 z3 z4 z5 z6 z7 y0 y1 y2 y3 hB1 hK1 l1 l2 hsz
  refine wp_region_wb (by kernel_rfl) (by kernel_rfl) ?_
  repeat (quiet_step ((go_at_call 41; refine calls_wb (v := .int .i64 (r : Int)) ?_; with_reducible exact HC.out _)))
  refine wpQuiet_nil ?_
  rintro _ ⟨p, rfl⟩
  have hp := p.below
  clear p0 p1 p2 p3 p4 f0 f1 f2 f3 f4 f5 f6 f7 g0 g1 g2 g3 fbb fkk
  go_wp2_with fail
  go_ret
  exact ⟨rfl, below_then hb0 hp⟩

theorem ck_lt (k : Int) (s : S.St) : S.ck k s < 9 := by
  unfold S.ck
  have h1 := O.cellE_lt k s.least
  have h2 := O.cellE_lt k s.most
  generalize C.cellE k s.least = z1 at *
  generalize C.cellE k s.most = z2 at *
  (repeat' split) <;> omega
theorem firE_known : ∀ (ks : List Int) (ss : List S.St), ss.length = ks.length → firE (fun j => S.ck (ks.getD j 0) (ss.getD j S.zero)) 0 ks.length = O.knownE ks ss
  | [], ss, h => by cases ss <;> rfl
  | k :: ks, [], h => by simp at h
  | k :: ks, c :: ss, h => by
    rw [List.length_cons, firE, firE_shift]
    rw [show (fun i => S.ck ((k :: ks).getD (i + 1) 0) ((c :: ss).getD (i + 1) S.zero)) = fun i => S.ck (ks.getD i 0) (ss.getD i S.zero) from rfl, firE_known ks ss (by simpa using h)]
    rw [O.knownE]
    rfl
theorem knownE_lt : ∀ (ks : List Int) (ss : List S.St), O.knownE ks ss < 9
  | [], ss => by unfold O.knownE; omega
  | k :: ks, [] => by unfold O.knownE; omega
  | k :: ks, c :: ss => by
    rw [O.knownE]
    have := ck_lt k c
    split
    · exact this
    · exact knownE_lt ks ss

set_option maxHeartbeats 4000000 in
set_option maxRecDepth 100000 in
theorem prune_any (ap : Option Addr) (cp : Nat) (p : List O.Cd) (ka : Option Addr) (kcap : Nat) (ks : List Int) (a : Option Addr) (cap : Nat) (ss : List S.St) (af : Option Addr) (capf : Nat) (fs : List Bl.F) (w : World)
    (hpm : p.length ≤ maxLen) (hpx : ∀ x ∈ p, dOk x) (hpu : Cds w w.heap.size ap p) (hkm : ks.length ≤ maxLen) (hku : Ints w w.heap.size ka ks) (hm : ss.length ≤ maxLen) (hx : ∀ x ∈ ss, sOk x) (hu : Sts w w.heap.size a ss)
    (hfm : fs.length ≤ maxLen) (hfx : ∀ x ∈ fs, Bl.fOk x) (hfu : Fls w w.heap.size af fs) :
    Calls Try.prog 13 #[.slice ap p.length cp, .slice ka ks.length kcap, .slice a ss.length cap, .slice af fs.length capf] w (IEPost (O.pruneR p ks ss fs) w) := by
  have hb0 : Below w.heap.size w (w.alloc (.cells #[.slice ka ks.length kcap] 23)) := (Below.refl _ _).alloc (Nat.le_refl _) _
  have hb1 : Below w.heap.size w ((w.alloc (.cells #[.slice ka ks.length kcap] 23)).alloc (.cells #[.slice a ss.length cap] 31)) := hb0.alloc (by simp) _
  have hb2 : Below w.heap.size w (((w.alloc (.cells #[.slice ka ks.length kcap] 23)).alloc (.cells #[.slice a ss.length cap] 31)).alloc (.cells #[.slice af fs.length capf] 32)) := hb1.alloc (by simp; omega) _
  have hB0 : Boxed (w.alloc (.cells #[.slice ka ks.length kcap] 23)) w.heap.size 23 (.slice ka ks.length kcap) := boxed_new _ _ _
  have hB0' := boxed_next (boxed_next hB0 ((Below.refl _ _).alloc (Nat.le_refl _) (.cells #[.slice a ss.length cap] 31))) ((Below.refl _ _).alloc (Nat.le_refl _) (.cells #[.slice af fs.length capf] 32))
  have hB1 : Boxed ((w.alloc (.cells #[.slice ka ks.length kcap] 23)).alloc (.cells #[.slice a ss.length cap] 31)) (w.heap.size + 1) 31 (.slice a ss.length cap) := by
    have h := boxed_new (w.alloc (.cells #[.slice ka ks.length kcap] 23)) (.slice a ss.length cap) 31
    rwa [show (w.alloc (.cells #[.slice ka ks.length kcap] 23)).heap.size = w.heap.size + 1 by simp] at h
  have hB1' := boxed_next hB1 ((Below.refl _ _).alloc (Nat.le_refl _) (.cells #[.slice af fs.length capf] 32))
  have hB2 : Boxed (((w.alloc (.cells #[.slice ka ks.length kcap] 23)).alloc (.cells #[.slice a ss.length cap] 31)).alloc (.cells #[.slice af fs.length capf] 32)) (w.heap.size + 1 + 1) 32 (.slice af fs.length capf) := by
    have h := boxed_new ((w.alloc (.cells #[.slice ka ks.length kcap] 23)).alloc (.cells #[.slice a ss.length cap] 31)) (.slice af fs.length capf) 32
    rwa [show ((w.alloc (.cells #[.slice ka ks.length kcap] 23)).alloc (.cells #[.slice a ss.length cap] 31)).heap.size = w.heap.size + 1 + 1 by simp] at h
  have HC := Lib.hid (fun W (hb : Below w.heap.size w W) => pcheck_any ap cp p ka kcap ks W hpm hpx (hpu.next at5_firm hb) hkm (hku.next at1_firm hb))
  have hcl := O.check_lt p ks
  have hR : O.pruneR p ks ss fs = if O.check p ks ≠ 0 then (0, O.check p ks) else if ss.length ≠ ks.length ∨ fs.length ≠ ks.length then (0, 1) else if O.knownE ks ss ≠ 0 then (0, O.knownE ks ss) else ((O.run (O.askS ss fs) O.joS [] p).getD 0 0, 0) := rfl
  rw [hR]
  clear hR hB0 hB1
  by_cases hc : O.check p ks ≠ 0
  · rw [if_pos hc]
    generalize O.check p ks = er at *
    have g1 : ((er : Int) != 0) = true := by rw [bne_iff_ne]; omega
    have HC := Lib.hid (HC.out _ hb2)
    generalize hW : ((w.alloc (.cells #[.slice ka ks.length kcap] 23)).alloc (.cells #[.slice a ss.length cap] 31)).alloc (.cells #[.slice af fs.length capf] 32) = W1 at *
    have HW := Lib.hid hW
    clear hW
    go_enter Try.func13, Try.ntmps13
    go_wp2_with fail
    rw [HW.out]
    refine HC.out.mono ?_
    rintro e w1 ⟨rfl, hb3⟩
    go_wp2_with fail
    go_ret2
    exact ⟨rfl, below_then hb2 hb3⟩
  rw [if_neg hc]
  have hc0 : O.check p ks = 0 := by omega
  have HC := Lib.hid (HC.out _ hb2)
  rw [hc0] at HC
  obtain ⟨h16, hck⟩ := O.check_zero hc0
  have hal := O.chk_alone ks p 0 hck
  have hrf := O.run_free (O.askS ss fs) O.joS ks p [] hck
  generalize hW : ((w.alloc (.cells #[.slice ka ks.length kcap] 23)).alloc (.cells #[.slice a ss.length cap] 31)).alloc (.cells #[.slice af fs.length capf] 32) = W1 at *
  have HW := Lib.hid hW
  clear hW
  by_cases hlen : ss.length ≠ ks.length ∨ fs.length ≠ ks.length
  · rw [if_pos hlen]
    by_cases hl1 : ss.length ≠ ks.length
    · have g1 : ((ss.length : Int) != (ks.length : Int)) = true := by rw [bne_iff_ne]; omega
      clear hpx hpu hku hx hu hal hrf hfu hfx hlen
      go_enter Try.func13, Try.ntmps13
      go_wp2_with fail
      rw [HW.out]
      refine HC.out.mono ?_
      rintro e w1 ⟨rfl, hb3⟩
      have c0 := boxed_c0 (boxed_next hB0' hb3)
      have c1 := boxed_c0 (boxed_next hB1' hb3)
      have c2 := boxed_c0 (boxed_next hB2 hb3)
      go_wp2_with fail
      go_ret2
      exact ⟨rfl, below_then hb2 hb3⟩
    · have g0 : ((ss.length : Int) != (ks.length : Int)) = false := by rw [bne_eq_false_iff_eq]; omega
      have g1 : ((fs.length : Int) != (ks.length : Int)) = true := by rw [bne_iff_ne]; omega
      clear hpx hpu hku hx hu hal hrf hfu hfx hlen hl1
      go_enter Try.func13, Try.ntmps13
      go_wp2_with fail
      rw [HW.out]
      refine HC.out.mono ?_
      rintro e w1 ⟨rfl, hb3⟩
      have c0 := boxed_c0 (boxed_next hB0' hb3)
      have c1 := boxed_c0 (boxed_next hB1' hb3)
      have c2 := boxed_c0 (boxed_next hB2 hb3)
      go_wp2_with fail
      go_ret2
      exact ⟨rfl, below_then hb2 hb3⟩
  rw [if_neg hlen]
  have hl1 : ss.length = ks.length := by omega
  have hl2 : fs.length = ks.length := by omega
  have HE := Lib.hid (fun W (hb : Below W1.heap.size W1 W) => each_prune w.heap.size (w.heap.size + 1) ka ks.length kcap (fun j => S.ck (ks.getD j 0) (ss.getD j S.zero)) (fun j => Nat.lt_trans (ck_lt (ks.getD j 0) (ss.getD j S.zero)) (by omega)) W hkm (fun W2 hb3 j hj => by
    have hbb := below_then hb hb3
    exact prunecol_any w.heap.size (w.heap.size + 1) j ka kcap ks a cap ss W2 (boxed_next hB0' hbb) (boxed_next hB1' hbb) (hku.next at1_firm (below_then hb2 hbb)) (hu.next at8_firm (below_then hb2 hbb)) hx hj (by omega) hm hkm))
  rw [firE_known ks ss hl1] at HE
  have hrl := knownE_lt ks ss
  have g2 : ((ss.length : Int) != (ks.length : Int)) = false := by rw [hl1]; simp
  have g3 : ((fs.length : Int) != (ks.length : Int)) = false := by rw [hl2]; simp
  by_cases hre : O.knownE ks ss ≠ 0
  · rw [if_pos hre]
    generalize O.knownE ks ss = er at *
    have g1 : ((er : Int) != 0) = true := by rw [bne_iff_ne]; omega
    clear hpx hpu hku hx hu hal hrf hlen hfu hfx hl1 hl2
    go_enter Try.func13, Try.ntmps13
    go_wp2_with fail
    rw [HW.out]
    refine HC.out.mono ?_
    rintro e w1 ⟨rfl, hb3⟩
    have c0 := boxed_c0 (boxed_next hB0' hb3)
    have c1 := boxed_c0 (boxed_next hB1' hb3)
    have c2 := boxed_c0 (boxed_next hB2 hb3)
    go_wp2_with fail
    refine (HE.out _ hb3).mono ?_
    rintro e w2 ⟨rfl, hb4⟩
    go_wp2_with fail
    go_ret2
    exact ⟨rfl, below_then (below_then hb2 hb3) hb4⟩
  rw [if_neg hre]
  have hre0 : O.knownE ks ss = 0 := by omega
  rw [hre0] at HE
  have HAL := Lib.hid (fun W (hb : Below W1.heap.size W1 W) => along_prune (w.heap.size + 1) (w.heap.size + 1 + 1) ap cp p (O.askS ss fs) 7 (by omega) (fun c => by have := O.mayBe_lt c (ss.getD c.col.toNat S.zero) (fs.getD c.col.toNat Bl.none_); unfold O.askS; omega) (fun op a b ha hb => by have := O.joS_lt op a b; omega) W h16 hpx (hpu.next at5_firm (below_then hb2 hb)) hrf.1 hrf.2
    (fun W2 hb3 j hj hp0 => by
      have hbb := below_then hb hb3
      have hmem : p.getD j O.nullC ∈ p := by simp only [List.getD, List.getElem?_eq_getElem hj, Option.getD_some]; exact List.getElem_mem hj
      have hl := O.alone_leaf (hal _ hmem) hp0
      exact pruneleaf_any (w.heap.size + 1) (w.heap.size + 1 + 1) (p.getD j O.nullC) a cap ss af capf fs W2 (boxed_next hB1' hbb) (boxed_next hB2 hbb) (hu.next at8_firm (below_then hb2 hbb)) (hfu.next at4_firm (below_then hb2 hbb)) hfx (hpx _ hmem).2.2 ⟨hl.2.2.1, by omega⟩ (by omega) hm)
    (fun W2 op a b ha hb => mayBeJoined_any op a b W2 (by omega) (by omega)))
  generalize (O.run (O.askS ss fs) O.joS [] p).getD 0 0 = rr at *
  clear hpx hpu hku hx hu hal hrf hlen hfu hfx hl1 hl2
  go_enter Try.func13, Try.ntmps13
  go_wp2_with fail
  rw [HW.out]
  refine HC.out.mono ?_
  rintro e w1 ⟨rfl, hb3⟩
  have c0 := boxed_c0 (boxed_next hB0' hb3)
  have c1 := boxed_c0 (boxed_next hB1' hb3)
  have c2 := boxed_c0 (boxed_next hB2 hb3)
  go_wp2_with fail
  refine (HE.out _ hb3).mono ?_
  rintro e w2 ⟨rfl, hb4⟩
  have hb5 := below_then hb3 hb4
  have d0 := boxed_c0 (boxed_next hB0' hb5)
  have d1 := boxed_c0 (boxed_next hB1' hb5)
  have d2 := boxed_c0 (boxed_next hB2 hb5)
  go_wp2_with fail
  refine (HAL.out _ hb5).mono ?_
  rintro e w3 ⟨rfl, hb6⟩
  go_wp2_with fail
  go_ret2
  exact ⟨rfl, below_then (below_then hb2 hb5) hb6⟩
end Go.Proofs.Ytecfknolpnjokaa
