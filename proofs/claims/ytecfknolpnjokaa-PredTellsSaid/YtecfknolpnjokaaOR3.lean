/- The walk of hypostyleref.CondOf. -/
import Derived.Test.YtecfknolpnjokaaOR2
import Derived.Test.YtecfknolpnjokaaOW6
import Derived.Test.YtecfknolpnjokaaQ3
namespace Go.Proofs.Ytecfknolpnjokaa
open Go.RowKit
set_option linter.unusedVariables false

set_option maxHeartbeats 4000000 in
set_option maxRecDepth 100000 in
theorem cond_leaf (b off n cp : Nat) (c : O.Cd) (a : Option Addr) (rcap : Nat) (row : List C.Cl) (w : World) (hlt : b < w.heap.size) (hn1 : 1 ≤ n) (hn : n ≤ maxLen) (hc : at5 w b (off + (n - 1) * 5) c) (hcc : cOk c.c) (hop : 1 ≤ c.op ∧ c.op ≤ 4) (hcol : 0 ≤ c.col ∧ c.col < row.length)
    (hm : row.length ≤ maxLen) (hx : ∀ x ∈ row, cOk x) (hu : Cls w w.heap.size a row) :
    Calls Try.prog 28 #[.slice (some ⟨b, off, none⟩) n cp, .slice a row.length rcap] w (CErrPost (O.askL row c) w) := by
  obtain ⟨op, col, ⟨k, m, t⟩⟩ := c
  simp only at hop hcol hcc
  obtain ⟨j, rfl⟩ : ∃ j : Nat, col = j := ⟨col.toNat, by omega⟩
  have hj : j < row.length := by omega
  obtain ⟨rb, roff, rfl, hrlt, hcell⟩ := hu (by intro e; rw [e] at hj; simp at hj)
  obtain ⟨r0, r1, r2⟩ := hcell j hj
  have hxo := hx (row.getD j C.null) (cgetD_mem row j hj)
  have hR : O.askL row ⟨op, j, ⟨k, m, t⟩⟩ = O.told ⟨op, j, ⟨k, m, t⟩⟩ (row.getD j C.null) := by unfold O.askL; rw [Int.toNat_natCast]
  rw [hR]
  generalize row.getD j C.null = x at *
  obtain ⟨k', m', t'⟩ := x
  simp only at r0 r1 r2
  obtain ⟨c0, c1, c2, c3, c4⟩ := hc
  simp only at c0 c1 c2 c3 c4
  obtain ⟨l, hl⟩ : ∃ l, l = n - 1 := ⟨_, rfl⟩
  rw [← hl] at c0 c1 c2 c3 c4
  unfold maxLen at hn hm
  have hw1 : IntKind.i64.wrap ((n : Int) - 1) = (l : Int) := by rw [IntKind.wrap_i64]; omega
  have hlI : (l : Int) < (n : Int) := by omega
  have hjI : (j : Int) < (row.length : Int) := by omega
  have heq := fun W => ceql k' m' t' k m t W
  have hgd := guards_cell .eql
  have hL1 := fun W => cellLess_any ⟨k', m', t'⟩ ⟨k, m, t⟩ W hxo.2.2.2 hcc.2.2.2
  have hL2 := fun W => cellLess_any ⟨k, m, t⟩ ⟨k', m', t'⟩ W hcc.2.2.2 hxo.2.2.2
  unfold cag at hL1 hL2
  simp only at hL1 hL2
  have hp := pen_new w (.int .i64 op) (.int .i64 j) (.int .i64 k) (.int .u64 (m : Int)) (.string (str t))
  have hb0 : Below w.heap.size w (w.alloc (.cells #[.int .i64 op, .int .i64 j, .int .i64 k, .int .u64 (m : Int), .string (str t)] 51)) := (Below.refl _ _).alloc (Nat.le_refl _) _
  have hb1 := hb0.alloc (by simp) (.cells #[.int .i64 k', .int .u64 (m' : Int), .string (str t')] 38)
  have hp1 := hp.next ((Below.refl _ _).alloc (Nat.le_refl _) (.cells #[.int .i64 k', .int .u64 (m' : Int), .string (str t')] 38))
  have ht1 := tri_new (w.alloc (.cells #[.int .i64 op, .int .i64 j, .int .i64 k, .int .u64 (m : Int), .string (str t)] 51)) (.int .i64 k') (.int .u64 (m' : Int)) (.string (str t'))
  rw [show (w.alloc (.cells #[.int .i64 op, .int .i64 j, .int .i64 k, .int .u64 (m : Int), .string (str t)] 51)).heap.size = w.heap.size + 1 by simp] at ht1
  have z0 := (hb0.cell (p := ⟨rb, roff + j * 3, none⟩) hrlt).trans r0
  have z1 := (hb0.cell (p := ⟨rb, roff + j * 3 + 1, none⟩) hrlt).trans r1
  have z2 := (hb0.cell (p := ⟨rb, roff + j * 3 + 2, none⟩) hrlt).trans r2
  have HL1 := Lib.hid hL1
  have HL2 := Lib.hid hL2
  obtain ⟨R, hRR⟩ : ∃ R, R = O.told ⟨op, j, ⟨k, m, t⟩⟩ ⟨k', m', t'⟩ := ⟨_, rfl⟩
  rw [← hRR]
  unfold O.told at hRR
  simp only at hRR
  clear hL1 hL2 hcell hl hR hx hxo hcc hu hp hcol
  generalize C.less ⟨k', m', t'⟩ ⟨k, m, t⟩ = b1 at *
  generalize C.less ⟨k, m, t⟩ ⟨k', m', t'⟩ = b2 at *
  generalize decide ((⟨k', m', t'⟩ : C.Cl) = ⟨k, m, t⟩) = b3 at *
  generalize str t = X at *
  generalize str t' = X' at *
  by_cases hk : k' = 0
  · subst hk
    by_cases h4 : op = 4
    · subst h4
      have HRE := Lib.hid (show R = 2 by rw [hRR, if_pos rfl, if_pos rfl])
      clear hRR heq
      go_enter Try.func28, Try.ntmps28
      go_wp2_with fail
      go_ret
      exact ⟨by rw [HRE.out]; rfl, hb1⟩
    · have HRE := Lib.hid (show R = 1 by rw [hRR, if_neg h4, if_pos rfl])
      have h3 : op = 1 ∨ op = 2 ∨ op = 3 := by omega
      clear hRR heq hop h4
      rcases h3 with rfl | rfl | rfl
      all_goals
        go_enter Try.func28, Try.ntmps28
        go_wp2_with fail
        go_ret
        exact ⟨by rw [HRE.out]; rfl, hb1⟩
  have gk : (k' == 0) = false := by rw [beq_eq_false_iff_ne]; exact hk
  by_cases h4 : op = 4
  · subst h4
    have HRE := Lib.hid (show R = 0 by rw [hRR, if_pos rfl, if_neg hk])
    clear hRR heq
    go_enter Try.func28, Try.ntmps28
    go_wp2_with fail
    go_ret
    exact ⟨by rw [HRE.out]; rfl, hb1⟩
  rw [if_neg h4, if_neg hk] at hRR
  have h3 : op = 1 ∨ op = 2 ∨ op = 3 := by omega
  clear hop h4 hk
  rcases h3 with rfl | rfl | rfl
  · rw [if_neg (show ¬ (1 : Int) = 2 by decide), if_neg (show ¬ (1 : Int) = 3 by decide)] at hRR
    have HRE := Lib.hid hRR
    clear hRR
    cases b3
    all_goals
      go_enter Try.func28, Try.ntmps28
      go_wp2_with fail
      go_ret
      exact ⟨by rw [HRE.out]; rfl, hb1⟩
  · rw [if_pos rfl] at hRR
    have HRE := Lib.hid hRR
    clear hRR heq
    cases b1
    all_goals
      go_enter Try.func28, Try.ntmps28
      go_wp2_with fail
      refine (HL1.out _).mono ?_
      rintro e w1 ⟨rfl, hb2⟩
      obtain ⟨p0, p1, p2, p3, p4⟩ := (hp1.next hb2).all
      go_wp2_with fail
      go_ret
      exact ⟨by rw [HRE.out]; rfl, below_then hb1 hb2⟩
  · rw [if_neg (show ¬ (3 : Int) = 2 by decide), if_pos (show (3 : Int) = 3 from rfl)] at hRR
    have HRE := Lib.hid hRR
    clear hRR heq
    cases b2
    all_goals
      go_enter Try.func28, Try.ntmps28
      go_wp2_with fail
      refine (HL2.out _).mono ?_
      rintro e w1 ⟨rfl, hb2⟩
      go_wp2_with fail
      go_ret
      exact ⟨by rw [HRE.out]; rfl, below_then hb1 hb2⟩

set_option maxHeartbeats 4000000 in
set_option maxRecDepth 100000 in
theorem cond_one (b off n cp : Nat) (c : O.Cd) (rv : Value) (r : Nat) (w : World) (hn1 : 1 ≤ n) (hn : n ≤ maxLen) (hcp : n ≤ cp) (hc : at5 w b (off + (n - 1) * 5) c) (hop : c.op = 7) (hr : r ≤ 2)
    (HR : ∀ W, Below w.heap.size w W → Calls Try.prog 28 #[.slice (some ⟨b, off, none⟩) (n - 1) cp, rv] W (CErrPost r W)) :
    Calls Try.prog 28 #[.slice (some ⟨b, off, none⟩) n cp, rv] w (CErrPost (2 - r) w) := by
  obtain ⟨op, col, ⟨k, m, t⟩⟩ := c
  simp only at hop
  subst hop
  obtain ⟨c0, c1, c2, c3, c4⟩ := hc
  simp only at c0 c1 c2 c3 c4
  obtain ⟨l, hl⟩ : ∃ l, l = n - 1 := ⟨_, rfl⟩
  rw [← hl] at c0 c1 c2 c3 c4 HR
  unfold maxLen at hn
  have hw1 : IntKind.i64.wrap ((n : Int) - 1) = (l : Int) := by rw [IntKind.wrap_i64]; omega
  have hlI : (l : Int) < (n : Int) := by omega
  have hlL : (l : Int) ≤ (n : Int) := by omega
  have hlC : (l : Int) ≤ (cp : Int) := by omega
  have hlN : l ≤ cp := by omega
  have hb0 : Below w.heap.size w (w.alloc (.cells #[.int .i64 7, .int .i64 col, .int .i64 k, .int .u64 (m : Int), .string (str t)] 51)) := (Below.refl _ _).alloc (Nat.le_refl _) _
  have HC := Lib.hid (HR _ hb0)
  have hw2 : IntKind.i64.wrap (2 - (r : Int)) = ((2 - r : Nat) : Int) := by rw [IntKind.wrap_i64]; omega
  generalize str t = X at *
  clear hl HR
  go_enter Try.func28, Try.ntmps28
  go_wp2_with fail
  refine HC.out.mono ?_
  rintro e w1 ⟨rfl, hb1⟩
  go_wp2_with fail
  go_ret
  exact ⟨by first | rfl | (show Ending.returned (.int .i64 (IntKind.i64.wrap (2 - (r : Int)))) = _; rw [hw2]), below_then hb0 hb1⟩

set_option maxHeartbeats 4000000 in
set_option maxRecDepth 100000 in
theorem cond_two (b off n cp k1 : Nat) (c : O.Cd) (rv : Value) (x y : Nat) (w : World) (hn1 : 1 ≤ n) (hn : n ≤ maxLen) (hcp : n ≤ cp) (hk1 : k1 ≤ n - 1) (hc : at5 w b (off + (n - 1) * 5) c) (hop : c.op = 5 ∨ c.op = 6) (hx : x ≤ 2) (hy : y ≤ 2)
    (HB : ∀ W, Below w.heap.size w W → Calls Try.prog 55 #[.slice (some ⟨b, off, none⟩) n cp, .int .i64 ((n - 1 : Nat) : Int)] W (CErrPost k1 W))
    (HX : ∀ W, Below w.heap.size w W → Calls Try.prog 28 #[.slice (some ⟨b, off, none⟩) k1 cp, rv] W (CErrPost x W))
    (HY : ∀ W, Below w.heap.size w W → Calls Try.prog 28 #[.slice (some ⟨b, off + k1 * 5, none⟩) (n - 1 - k1) (cp - k1), rv] W (CErrPost y W)) :
    Calls Try.prog 28 #[.slice (some ⟨b, off, none⟩) n cp, rv] w (CErrPost (O.jo c.op x y) w) := by
  obtain ⟨op, col, ⟨k, m, t⟩⟩ := c
  simp only at hop
  obtain ⟨c0, c1, c2, c3, c4⟩ := hc
  simp only at c0 c1 c2 c3 c4
  obtain ⟨l, hl⟩ : ∃ l, l = n - 1 := ⟨_, rfl⟩
  rw [← hl] at c0 c1 c2 c3 c4 HB HY hk1
  unfold maxLen at hn
  have hw1 : IntKind.i64.wrap ((n : Int) - 1) = (l : Int) := by rw [IntKind.wrap_i64]; omega
  have hlI : (l : Int) < (n : Int) := by omega
  have hlC : (l : Int) ≤ (cp : Int) := by omega
  have hkC : (k1 : Int) ≤ (cp : Int) := by omega
  have hkL : (k1 : Int) ≤ (l : Int) := by omega
  have hkN : k1 ≤ cp := by omega
  have hlN : l ≤ cp := by omega
  have hkl : k1 ≤ l := by omega
  have hne : ¬ cp - k1 = 0 := by omega
  have hne2 : ¬ cp = k1 := by omega
  have hne3 : ¬ (cp : Int) - (k1 : Int) = 0 := by omega
  have hne4 : ¬ cp ≤ k1 := by omega
  have hp := pen_new w (.int .i64 op) (.int .i64 col) (.int .i64 k) (.int .u64 (m : Int)) (.string (str t))
  have hb0 : Below w.heap.size w (w.alloc (.cells #[.int .i64 op, .int .i64 col, .int .i64 k, .int .u64 (m : Int), .string (str t)] 51)) := (Below.refl _ _).alloc (Nat.le_refl _) _
  have HB := Lib.hid (HB _ hb0)
  generalize str t = X at *
  clear hl
  have HJ := Lib.hid (show O.jo op x y = O.jo op x y from rfl)
  generalize hRR : O.jo op x y = R at *
  unfold O.jo at hRR
  rcases hop with rfl | rfl
  · rw [if_pos rfl] at hRR
    have HRR := Lib.hid hRR
    clear hRR
    go_enter Try.func28, Try.ntmps28
    go_wp2_with fail
    refine HB.out.mono ?_
    rintro e w1 ⟨rfl, hb1⟩
    have hb2 := below_then hb0 hb1
    have HXX := Lib.hid (fun p : WB w1 => show Calls Try.prog 28 #[.slice (some ⟨b, off, none⟩) k1 cp, rv] p.w (fun e w' => e = .returned (.int .i64 (x : Int)) ∧ Below p.w.heap.size p.w w') from HX p.w (below_then hb2 p.below))
    have HYY := Lib.hid (fun p : WB w1 => show Calls Try.prog 28 #[.slice (some ⟨b, off + k1 * 5, none⟩) (l - k1) (cp - k1), rv] p.w (fun e w' => e = .returned (.int .i64 (y : Int)) ∧ Below p.w.heap.size p.w w') from HY p.w (below_then hb2 p.below))
    have hpn := hp.next hb1
    go_wp2_with fail
    refine wp_region_wb (by kernel_rfl) (by kernel_rfl) ?_
    repeat (quiet_step (first
      | (go_at_call 28; refine calls_wb (v := .int .i64 (x : Int)) ?_; with_reducible exact HXX.out _)
      | (go_at_call 28; refine calls_wb (v := .int .i64 (y : Int)) ?_; with_reducible exact HYY.out _)))
    refine wpQuiet_nil ?_
    rintro _ ⟨p, rfl⟩
    have hpb := p.below
    obtain ⟨p0, p1, p2, p3, p4⟩ := (hpn.next hpb).all
    have hb3 := below_then hb2 hpb
    rcases O.three x hx with rfl | rfl | rfl <;> rcases O.three y hy with rfl | rfl | rfl
    all_goals
      go_wp2_with fail
      go_ret
      exact ⟨by rw [← HRR.out]; rfl, hb3⟩
  · rw [if_neg (by decide), if_pos rfl] at hRR
    have HRR := Lib.hid hRR
    clear hRR
    go_enter Try.func28, Try.ntmps28
    go_wp2_with fail
    refine HB.out.mono ?_
    rintro e w1 ⟨rfl, hb1⟩
    have hb2 := below_then hb0 hb1
    have HXX := Lib.hid (fun p : WB w1 => show Calls Try.prog 28 #[.slice (some ⟨b, off, none⟩) k1 cp, rv] p.w (fun e w' => e = .returned (.int .i64 (x : Int)) ∧ Below p.w.heap.size p.w w') from HX p.w (below_then hb2 p.below))
    have HYY := Lib.hid (fun p : WB w1 => show Calls Try.prog 28 #[.slice (some ⟨b, off + k1 * 5, none⟩) (l - k1) (cp - k1), rv] p.w (fun e w' => e = .returned (.int .i64 (y : Int)) ∧ Below p.w.heap.size p.w w') from HY p.w (below_then hb2 p.below))
    have hpn := hp.next hb1
    go_wp2_with fail
    refine wp_region_wb (by kernel_rfl) (by kernel_rfl) ?_
    repeat (quiet_step (first
      | (go_at_call 28; refine calls_wb (v := .int .i64 (x : Int)) ?_; with_reducible exact HXX.out _)
      | (go_at_call 28; refine calls_wb (v := .int .i64 (y : Int)) ?_; with_reducible exact HYY.out _)))
    refine wpQuiet_nil ?_
    rintro _ ⟨p, rfl⟩
    have hpb := p.below
    obtain ⟨p0, p1, p2, p3, p4⟩ := (hpn.next hpb).all
    have hb3 := below_then hb2 hpb
    rcases O.three x hx with rfl | rfl | rfl <;> rcases O.three y hy with rfl | rfl | rfl
    all_goals
      go_wp2_with fail
      go_ret
      exact ⟨by rw [← HRR.out]; rfl, hb3⟩

theorem ev_len (t : O.T) : 1 ≤ (O.flat t).length := O.flat_pos t

theorem condOf_any (ks : List Int) (a : Option Addr) (rcap : Nat) (row : List C.Cl) (hm : row.length ≤ maxLen) (hx : ∀ x ∈ row, cOk x) (hlen : row.length = ks.length) : ∀ (t : O.T), O.ok ks t → (∀ x ∈ O.flat t, dOk x) →
    ∀ (b off cp : Nat) (w : World), (O.flat t).length ≤ cp → (O.flat t).length ≤ maxLen → b < w.heap.size → (∀ i, i < (O.flat t).length → at5 w b (off + i * 5) ((O.flat t).getD i O.nullC)) → Cls w w.heap.size a row →
    Calls Try.prog 28 #[.slice (some ⟨b, off, none⟩) (O.flat t).length cp, .slice a row.length rcap] w (CErrPost (O.ev (O.askL row) O.jo t) w)
  | .leaf c, h, hd, b, off, cp, w, hcp, hn, hlt, hc, hu => by
    have hl := O.alone_leaf h.2 h.1
    have := hc 0 (by simp [O.flat])
    rw [show (O.flat (.leaf c)).getD 0 O.nullC = c from rfl] at this
    exact cond_leaf b off 1 cp c a rcap row w hlt (by omega) (by simp [maxLen]) this (hd c (by simp [O.flat])).2.2 ⟨hl.1, hl.2.1⟩ ⟨hl.2.2.1, by omega⟩ hm hx hu
  | .one c t, h, hd, b, off, cp, w, hcp, hn, hlt, hc, hu => by
    have hfl : (O.flat (.one c t)).length = (O.flat t).length + 1 := by simp [O.flat]
    have hop : c.op = 7 := by rcases O.parts_cases c.op with q | q | q <;> have := h.1 <;> omega
    have hlast := hc (O.flat t).length (by omega)
    rw [show (O.flat (.one c t)).getD (O.flat t).length O.nullC = c by simp [O.flat, List.getD]] at hlast
    have := cond_one b off (O.flat (.one c t)).length cp c (.slice a row.length rcap) (O.ev (O.askL row) O.jo t) w (by omega) hn hcp (by rw [hfl, Nat.add_sub_cancel]; exact hlast) hop (O.ev_le _ (fun c => O.told_le _ _) t) (fun W hb => by
      rw [hfl, Nat.add_sub_cancel]
      refine condOf_any ks a rcap row hm hx hlen t h.2.2 (fun x hx => hd x (by simp [O.flat, hx])) b off cp W (by omega) (by omega) (by have := hb.size; omega) (fun i hi => ?_) (hu.next hb)
      have h2 := hc i (by omega)
      rw [show (O.flat (.one c t)).getD i O.nullC = (O.flat t).getD i O.nullC by simp only [O.flat, List.getD]; rw [List.getElem?_append_left hi]] at h2
      exact at5_firm w W b _ _ (fun j => hb.cell (p := ⟨b, j, none⟩) hlt) h2)
    rw [show O.ev (O.askL row) O.jo (.one c t) = 2 - O.ev (O.askL row) O.jo t by rw [O.ev, O.jo, if_neg (by omega), if_neg (by omega)]]
    exact this
  | .two c t u, h, hd, b, off, cp, w, hcp, hn, hlt, hc, hu => by
    have hfl : (O.flat (.two c t u)).length = (O.flat t).length + (O.flat u).length + 1 := by simp [O.flat]; omega
    have hop : c.op = 5 ∨ c.op = 6 := by rcases O.parts_cases c.op with q | q | q <;> have := h.1 <;> omega
    have hlast := hc ((O.flat t).length + (O.flat u).length) (by omega)
    rw [show (O.flat (.two c t u)).getD ((O.flat t).length + (O.flat u).length) O.nullC = c by
      simp only [O.flat, List.getD]; rw [List.getElem?_append_right (by simp)]; simp] at hlast
    have := cond_two b off (O.flat (.two c t u)).length cp (O.flat t).length c (.slice a row.length rcap) (O.ev (O.askL row) O.jo t) (O.ev (O.askL row) O.jo u) w (by omega) hn hcp (by omega) (by rw [hfl, Nat.add_sub_cancel]; exact hlast) hop
      (O.ev_le _ (fun c => O.told_le _ _) t) (O.ev_le _ (fun c => O.told_le _ _) u)
      (fun W hb => by
        rw [show (O.flat (.two c t u)).length - 1 = (O.flat t).length + (O.flat u).length by omega]
        exact begin_any ks b off (O.flat (.two c t u)).length cp u h.2.2.2 (O.flat t) [c] W (by simp; omega) hn (by have := hb.size; omega) (fun i hi => at5_firm w W b _ _ (fun j => hb.cell (p := ⟨b, j, none⟩) hlt) (hc i hi)))
      (fun W hb => by
        refine condOf_any ks a rcap row hm hx hlen t h.2.2.1 (fun x hx => hd x (by simp [O.flat, hx])) b off cp W (by omega) (by omega) (by have := hb.size; omega) (fun i hi => ?_) (hu.next hb)
        have h2 := hc i (by omega)
        rw [show (O.flat (.two c t u)).getD i O.nullC = (O.flat t).getD i O.nullC by simp only [O.flat, List.getD]; rw [List.append_assoc, List.getElem?_append_left hi]] at h2
        exact at5_firm w W b _ _ (fun j => hb.cell (p := ⟨b, j, none⟩) hlt) h2)
      (fun W hb => by
        rw [show (O.flat (.two c t u)).length - 1 - (O.flat t).length = (O.flat u).length by omega]
        refine condOf_any ks a rcap row hm hx hlen u h.2.2.2 (fun x hx => hd x (by simp [O.flat, hx])) b (off + (O.flat t).length * 5) (cp - (O.flat t).length) W (by omega) (by omega) (by have := hb.size; omega) (fun i hi => ?_) (hu.next hb)
        have h2 := hc ((O.flat t).length + i) (by omega)
        rw [show (O.flat (.two c t u)).getD ((O.flat t).length + i) O.nullC = (O.flat u).getD i O.nullC by
          simp only [O.flat, List.getD]; rw [List.append_assoc, List.getElem?_append_right (by omega), Nat.add_sub_cancel_left, List.getElem?_append_left hi]] at h2
        rw [show off + (O.flat t).length * 5 + i * 5 = off + ((O.flat t).length + i) * 5 by rw [Nat.add_mul]; omega]
        exact at5_firm w W b _ _ (fun j => hb.cell (p := ⟨b, j, none⟩) hlt) h2)
    exact this
end Go.Proofs.Ytecfknolpnjokaa
