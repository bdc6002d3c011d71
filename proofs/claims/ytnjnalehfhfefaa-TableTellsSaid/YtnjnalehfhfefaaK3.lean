/- OR3, Lift, CLift, OLiftC, CRws, CSame, TBase, TLift, MBase, CPut, ShelfM. -/
import Derived.ProofKit
import Derived.OpenShut
import Derived.ShutString
import Derived.ChangeOld
import Derived.JoinedCond
import Derived.Below
import Derived.Deep.Slices
import Derived.Deep.Grids
import Derived.Deep.AppendLies
import Derived.Laws.OwnMore
import Derived.Sort.KeysCollected
import Derived.Sort.Walk0
import Derived.Deep.Strs
import Derived.Shelf.Bits.Mul64
import Derived.Test.YtnjnalehfhfefaaProg
import Derived.Test.YtnjnalehfhfefaaK2
/- The walk of hypostyleref.CondOf. -/
namespace Go.Proofs.Ytnjnalehfhfefaa
open Go.RowKit
set_option linter.unusedVariables false

set_option maxHeartbeats 4000000 in
set_option maxRecDepth 100000 in
theorem cond_leaf (b off n cp : Nat) (c : O.Cd) (a : Option Addr) (rcap : Nat) (row : List C.Cl) (w : World) (hlt : b < w.heap.size) (hn1 : 1 ≤ n) (hn : n ≤ maxLen) (hc : at5 w b (off + (n - 1) * 5) c) (hcc : cOk c.c) (hop : 1 ≤ c.op ∧ c.op ≤ 4) (hcol : 0 ≤ c.col ∧ c.col < row.length)
    (hm : row.length ≤ maxLen) (hx : ∀ x ∈ row, cOk x) (hu : Cls w w.heap.size a row) :
    Calls Try.prog 73 #[.slice (some ⟨b, off, none⟩) n cp, .slice a row.length rcap] w (CErrPost (O.askL row c) w) := by
  obtain ⟨op, col, ⟨k, m, t⟩⟩ := c
  simp only at hop hcol hcc
  obtain ⟨j, rfl⟩ : ∃ j : Nat, col = j := ⟨col.toNat, by omega⟩
  have hj : j < row.length := by omega
  obtain ⟨rb, roff, rfl, hrlt, hcell⟩ := hu (by intro e; rw [e] at hj; simp at hj)
  obtain ⟨r0, r1, r2⟩ := hcell j hj
  have hxo := hx (row.getD j C.null) (cgetD_mem row j hj)
  have hR : O.askL row ⟨op, j, ⟨k, m, t⟩⟩ = O.told ⟨op, j, ⟨k, m, t⟩⟩ (row.getD j C.null) := by unfold O.askL; rw [Int.toNat_natCast]
  rw [hR]
  generalize row.getD j C.null = x at *
  obtain ⟨k', m', t'⟩ := x
  simp only at r0 r1 r2
  obtain ⟨c0, c1, c2, c3, c4⟩ := hc
  simp only at c0 c1 c2 c3 c4
  obtain ⟨l, hl⟩ : ∃ l, l = n - 1 := ⟨_, rfl⟩
  rw [← hl] at c0 c1 c2 c3 c4
  unfold maxLen at hn hm
  have hw1 : IntKind.i64.wrap ((n : Int) - 1) = (l : Int) := by rw [IntKind.wrap_i64]; omega
  have hlI : (l : Int) < (n : Int) := by omega
  have hjI : (j : Int) < (row.length : Int) := by omega
  have heq := fun W => ceql k' m' t' k m t W
  have hgd := guards_cell .eql
  have hL1 := fun W => cellLess_any ⟨k', m', t'⟩ ⟨k, m, t⟩ W hxo.2.2.2 hcc.2.2.2
  have hL2 := fun W => cellLess_any ⟨k, m, t⟩ ⟨k', m', t'⟩ W hcc.2.2.2 hxo.2.2.2
  unfold cag at hL1 hL2
  simp only at hL1 hL2
  have hp := pen_new w (.int .i64 op) (.int .i64 j) (.int .i64 k) (.int .u64 (m : Int)) (.string (str t))
  have hb0 : Below w.heap.size w (w.alloc (.cells #[.int .i64 op, .int .i64 j, .int .i64 k, .int .u64 (m : Int), .string (str t)] 59)) := (Below.refl _ _).alloc (Nat.le_refl _) _
  have hb1 := hb0.alloc (by simp) (.cells #[.int .i64 k', .int .u64 (m' : Int), .string (str t')] 30)
  have hp1 := hp.next ((Below.refl _ _).alloc (Nat.le_refl _) (.cells #[.int .i64 k', .int .u64 (m' : Int), .string (str t')] 30))
  have ht1 := tri_new (w.alloc (.cells #[.int .i64 op, .int .i64 j, .int .i64 k, .int .u64 (m : Int), .string (str t)] 59)) (.int .i64 k') (.int .u64 (m' : Int)) (.string (str t'))
  rw [show (w.alloc (.cells #[.int .i64 op, .int .i64 j, .int .i64 k, .int .u64 (m : Int), .string (str t)] 59)).heap.size = w.heap.size + 1 by simp] at ht1
  have z0 := (hb0.cell (p := ⟨rb, roff + j * 3, none⟩) hrlt).trans r0
  have z1 := (hb0.cell (p := ⟨rb, roff + j * 3 + 1, none⟩) hrlt).trans r1
  have z2 := (hb0.cell (p := ⟨rb, roff + j * 3 + 2, none⟩) hrlt).trans r2
  have HL1 := Lib.hid hL1
  have HL2 := Lib.hid hL2
  obtain ⟨R, hRR⟩ : ∃ R, R = O.told ⟨op, j, ⟨k, m, t⟩⟩ ⟨k', m', t'⟩ := ⟨_, rfl⟩
  rw [← hRR]
  unfold O.told at hRR
  simp only at hRR
  clear hL1 hL2 hcell hl hR hx hxo hcc hu hp hcol
  generalize C.less ⟨k', m', t'⟩ ⟨k, m, t⟩ = b1 at *
  generalize C.less ⟨k, m, t⟩ ⟨k', m', t'⟩ = b2 at *
  generalize decide ((⟨k', m', t'⟩ : C.Cl) = ⟨k, m, t⟩) = b3 at *
  generalize str t = X at *
  generalize str t' = X' at *
  by_cases hk : k' = 0
  · subst hk
    by_cases h4 : op = 4
    · subst h4
      have HRE := Lib.hid (show R = 2 by rw [hRR, if_pos rfl, if_pos rfl])
      clear hRR heq
      go_enter Try.func73, Try.ntmps73
      go_wp2_with fail
      go_ret
      exact ⟨by rw [HRE.out]; rfl, hb1⟩
    · have HRE := Lib.hid (show R = 1 by rw [hRR, if_neg h4, if_pos rfl])
      have h3 : op = 1 ∨ op = 2 ∨ op = 3 := by omega
      clear hRR heq hop h4
      rcases h3 with rfl | rfl | rfl
      all_goals
        go_enter Try.func73, Try.ntmps73
        go_wp2_with fail
        go_ret
        exact ⟨by rw [HRE.out]; rfl, hb1⟩
  have gk : (k' == 0) = false := by rw [beq_eq_false_iff_ne]; exact hk
  by_cases h4 : op = 4
  · subst h4
    have HRE := Lib.hid (show R = 0 by rw [hRR, if_pos rfl, if_neg hk])
    clear hRR heq
    go_enter Try.func73, Try.ntmps73
    go_wp2_with fail
    go_ret
    exact ⟨by rw [HRE.out]; rfl, hb1⟩
  rw [if_neg h4, if_neg hk] at hRR
  have h3 : op = 1 ∨ op = 2 ∨ op = 3 := by omega
  clear hop h4 hk
  rcases h3 with rfl | rfl | rfl
  · rw [if_neg (show ¬ (1 : Int) = 2 by decide), if_neg (show ¬ (1 : Int) = 3 by decide)] at hRR
    have HRE := Lib.hid hRR
    clear hRR
    cases b3
    all_goals
      go_enter Try.func73, Try.ntmps73
      go_wp2_with fail
      go_ret
      exact ⟨by rw [HRE.out]; rfl, hb1⟩
  · rw [if_pos rfl] at hRR
    have HRE := Lib.hid hRR
    clear hRR heq
    cases b1
    all_goals
      go_enter Try.func73, Try.ntmps73
      go_wp2_with fail
      refine (HL1.out _).mono ?_
      rintro e w1 ⟨rfl, hb2⟩
      obtain ⟨p0, p1, p2, p3, p4⟩ := (hp1.next hb2).all
      go_wp2_with fail
      go_ret
      exact ⟨by rw [HRE.out]; rfl, below_then hb1 hb2⟩
  · rw [if_neg (show ¬ (3 : Int) = 2 by decide), if_pos (show (3 : Int) = 3 from rfl)] at hRR
    have HRE := Lib.hid hRR
    clear hRR heq
    cases b2
    all_goals
      go_enter Try.func73, Try.ntmps73
      go_wp2_with fail
      refine (HL2.out _).mono ?_
      rintro e w1 ⟨rfl, hb2⟩
      go_wp2_with fail
      go_ret
      exact ⟨by rw [HRE.out]; rfl, below_then hb1 hb2⟩

set_option maxHeartbeats 4000000 in
set_option maxRecDepth 100000 in
theorem cond_one (b off n cp : Nat) (c : O.Cd) (rv : Value) (r : Nat) (w : World) (hn1 : 1 ≤ n) (hn : n ≤ maxLen) (hcp : n ≤ cp) (hc : at5 w b (off + (n - 1) * 5) c) (hop : c.op = 7) (hr : r ≤ 2)
    (HR : ∀ W, Below w.heap.size w W → Calls Try.prog 73 #[.slice (some ⟨b, off, none⟩) (n - 1) cp, rv] W (CErrPost r W)) :
    Calls Try.prog 73 #[.slice (some ⟨b, off, none⟩) n cp, rv] w (CErrPost (2 - r) w) := by
  obtain ⟨op, col, ⟨k, m, t⟩⟩ := c
  simp only at hop
  subst hop
  obtain ⟨c0, c1, c2, c3, c4⟩ := hc
  simp only at c0 c1 c2 c3 c4
  obtain ⟨l, hl⟩ : ∃ l, l = n - 1 := ⟨_, rfl⟩
  rw [← hl] at c0 c1 c2 c3 c4 HR
  unfold maxLen at hn
  have hw1 : IntKind.i64.wrap ((n : Int) - 1) = (l : Int) := by rw [IntKind.wrap_i64]; omega
  have hlI : (l : Int) < (n : Int) := by omega
  have hlL : (l : Int) ≤ (n : Int) := by omega
  have hlC : (l : Int) ≤ (cp : Int) := by omega
  have hlN : l ≤ cp := by omega
  have hb0 : Below w.heap.size w (w.alloc (.cells #[.int .i64 7, .int .i64 col, .int .i64 k, .int .u64 (m : Int), .string (str t)] 59)) := (Below.refl _ _).alloc (Nat.le_refl _) _
  have HC := Lib.hid (HR _ hb0)
  have hw2 : IntKind.i64.wrap (2 - (r : Int)) = ((2 - r : Nat) : Int) := by rw [IntKind.wrap_i64]; omega
  generalize str t = X at *
  clear hl HR
  go_enter Try.func73, Try.ntmps73
  go_wp2_with fail
  refine HC.out.mono ?_
  rintro e w1 ⟨rfl, hb1⟩
  go_wp2_with fail
  go_ret
  exact ⟨by first | rfl | (show Ending.returned (.int .i64 (IntKind.i64.wrap (2 - (r : Int)))) = _; rw [hw2]), below_then hb0 hb1⟩

set_option maxHeartbeats 4000000 in
set_option maxRecDepth 100000 in
theorem cond_two (b off n cp k1 : Nat) (c : O.Cd) (rv : Value) (x y : Nat) (w : World) (hn1 : 1 ≤ n) (hn : n ≤ maxLen) (hcp : n ≤ cp) (hk1 : k1 ≤ n - 1) (hc : at5 w b (off + (n - 1) * 5) c) (hop : c.op = 5 ∨ c.op = 6) (hx : x ≤ 2) (hy : y ≤ 2)
    (HB : ∀ W, Below w.heap.size w W → Calls Try.prog 92 #[.slice (some ⟨b, off, none⟩) n cp, .int .i64 ((n - 1 : Nat) : Int)] W (CErrPost k1 W))
    (HX : ∀ W, Below w.heap.size w W → Calls Try.prog 73 #[.slice (some ⟨b, off, none⟩) k1 cp, rv] W (CErrPost x W))
    (HY : ∀ W, Below w.heap.size w W → Calls Try.prog 73 #[.slice (some ⟨b, off + k1 * 5, none⟩) (n - 1 - k1) (cp - k1), rv] W (CErrPost y W)) :
    Calls Try.prog 73 #[.slice (some ⟨b, off, none⟩) n cp, rv] w (CErrPost (O.jo c.op x y) w) := by
  obtain ⟨op, col, ⟨k, m, t⟩⟩ := c
  simp only at hop
  obtain ⟨c0, c1, c2, c3, c4⟩ := hc
  simp only at c0 c1 c2 c3 c4
  obtain ⟨l, hl⟩ : ∃ l, l = n - 1 := ⟨_, rfl⟩
  rw [← hl] at c0 c1 c2 c3 c4 HB HY hk1
  unfold maxLen at hn
  have hw1 : IntKind.i64.wrap ((n : Int) - 1) = (l : Int) := by rw [IntKind.wrap_i64]; omega
  have hlI : (l : Int) < (n : Int) := by omega
  have hlC : (l : Int) ≤ (cp : Int) := by omega
  have hkC : (k1 : Int) ≤ (cp : Int) := by omega
  have hkL : (k1 : Int) ≤ (l : Int) := by omega
  have hkN : k1 ≤ cp := by omega
  have hlN : l ≤ cp := by omega
  have hkl : k1 ≤ l := by omega
  have hne : ¬ cp - k1 = 0 := by omega
  have hne2 : ¬ cp = k1 := by omega
  have hne3 : ¬ (cp : Int) - (k1 : Int) = 0 := by omega
  have hne4 : ¬ cp ≤ k1 := by omega
  have hp := pen_new w (.int .i64 op) (.int .i64 col) (.int .i64 k) (.int .u64 (m : Int)) (.string (str t))
  have hb0 : Below w.heap.size w (w.alloc (.cells #[.int .i64 op, .int .i64 col, .int .i64 k, .int .u64 (m : Int), .string (str t)] 59)) := (Below.refl _ _).alloc (Nat.le_refl _) _
  have HB := Lib.hid (HB _ hb0)
  generalize str t = X at *
  clear hl
  have HJ := Lib.hid (show O.jo op x y = O.jo op x y from rfl)
  generalize hRR : O.jo op x y = R at *
  unfold O.jo at hRR
  rcases hop with rfl | rfl
  · rw [if_pos rfl] at hRR
    have HRR := Lib.hid hRR
    clear hRR
    go_enter Try.func73, Try.ntmps73
    go_wp2_with fail
    refine HB.out.mono ?_
    rintro e w1 ⟨rfl, hb1⟩
    have hb2 := below_then hb0 hb1
    have HXX := Lib.hid (fun p : WB w1 => show Calls Try.prog 73 #[.slice (some ⟨b, off, none⟩) k1 cp, rv] p.w (fun e w' => e = .returned (.int .i64 (x : Int)) ∧ Below p.w.heap.size p.w w') from HX p.w (below_then hb2 p.below))
    have HYY := Lib.hid (fun p : WB w1 => show Calls Try.prog 73 #[.slice (some ⟨b, off + k1 * 5, none⟩) (l - k1) (cp - k1), rv] p.w (fun e w' => e = .returned (.int .i64 (y : Int)) ∧ Below p.w.heap.size p.w w') from HY p.w (below_then hb2 p.below))
    have hpn := hp.next hb1
    go_wp2_with fail
    refine wp_region_wb (by kernel_rfl) (by kernel_rfl) ?_
    repeat (quiet_step (first
      | (go_at_call 73; refine calls_wb (v := .int .i64 (x : Int)) ?_; with_reducible exact HXX.out _)
      | (go_at_call 73; refine calls_wb (v := .int .i64 (y : Int)) ?_; with_reducible exact HYY.out _)))
    refine wpQuiet_nil ?_
    rintro _ ⟨p, rfl⟩
    have hpb := p.below
    obtain ⟨p0, p1, p2, p3, p4⟩ := (hpn.next hpb).all
    have hb3 := below_then hb2 hpb
    rcases O.three x hx with rfl | rfl | rfl <;> rcases O.three y hy with rfl | rfl | rfl
    all_goals
      go_wp2_with fail
      go_ret
      exact ⟨by rw [← HRR.out]; rfl, hb3⟩
  · rw [if_neg (by decide), if_pos rfl] at hRR
    have HRR := Lib.hid hRR
    clear hRR
    go_enter Try.func73, Try.ntmps73
    go_wp2_with fail
    refine HB.out.mono ?_
    rintro e w1 ⟨rfl, hb1⟩
    have hb2 := below_then hb0 hb1
    have HXX := Lib.hid (fun p : WB w1 => show Calls Try.prog 73 #[.slice (some ⟨b, off, none⟩) k1 cp, rv] p.w (fun e w' => e = .returned (.int .i64 (x : Int)) ∧ Below p.w.heap.size p.w w') from HX p.w (below_then hb2 p.below))
    have HYY := Lib.hid (fun p : WB w1 => show Calls Try.prog 73 #[.slice (some ⟨b, off + k1 * 5, none⟩) (l - k1) (cp - k1), rv] p.w (fun e w' => e = .returned (.int .i64 (y : Int)) ∧ Below p.w.heap.size p.w w') from HY p.w (below_then hb2 p.below))
    have hpn := hp.next hb1
    go_wp2_with fail
    refine wp_region_wb (by kernel_rfl) (by kernel_rfl) ?_
    repeat (quiet_step (first
      | (go_at_call 73; refine calls_wb (v := .int .i64 (x : Int)) ?_; with_reducible exact HXX.out _)
      | (go_at_call 73; refine calls_wb (v := .int .i64 (y : Int)) ?_; with_reducible exact HYY.out _)))
    refine wpQuiet_nil ?_
    rintro _ ⟨p, rfl⟩
    have hpb := p.below
    obtain ⟨p0, p1, p2, p3, p4⟩ := (hpn.next hpb).all
    have hb3 := below_then hb2 hpb
    rcases O.three x hx with rfl | rfl | rfl <;> rcases O.three y hy with rfl | rfl | rfl
    all_goals
      go_wp2_with fail
      go_ret
      exact ⟨by rw [← HRR.out]; rfl, hb3⟩

theorem ev_len (t : O.T) : 1 ≤ (O.flat t).length := O.flat_pos t

theorem condOf_any (ks : List Int) (a : Option Addr) (rcap : Nat) (row : List C.Cl) (hm : row.length ≤ maxLen) (hx : ∀ x ∈ row, cOk x) (hlen : row.length = ks.length) : ∀ (t : O.T), O.ok ks t → (∀ x ∈ O.flat t, dOk x) →
    ∀ (b off cp : Nat) (w : World), (O.flat t).length ≤ cp → (O.flat t).length ≤ maxLen → b < w.heap.size → (∀ i, i < (O.flat t).length → at5 w b (off + i * 5) ((O.flat t).getD i O.nullC)) → Cls w w.heap.size a row →
    Calls Try.prog 73 #[.slice (some ⟨b, off, none⟩) (O.flat t).length cp, .slice a row.length rcap] w (CErrPost (O.ev (O.askL row) O.jo t) w)
  | .leaf c, h, hd, b, off, cp, w, hcp, hn, hlt, hc, hu => by
    have hl := O.alone_leaf h.2 h.1
    have := hc 0 (by simp [O.flat])
    rw [show (O.flat (.leaf c)).getD 0 O.nullC = c from rfl] at this
    exact cond_leaf b off 1 cp c a rcap row w hlt (by omega) (by simp [maxLen]) this (hd c (by simp [O.flat])).2.2 ⟨hl.1, hl.2.1⟩ ⟨hl.2.2.1, by omega⟩ hm hx hu
  | .one c t, h, hd, b, off, cp, w, hcp, hn, hlt, hc, hu => by
    have hfl : (O.flat (.one c t)).length = (O.flat t).length + 1 := by simp [O.flat]
    have hop : c.op = 7 := by rcases O.parts_cases c.op with q | q | q <;> have := h.1 <;> omega
    have hlast := hc (O.flat t).length (by omega)
    rw [show (O.flat (.one c t)).getD (O.flat t).length O.nullC = c by simp [O.flat, List.getD]] at hlast
    have := cond_one b off (O.flat (.one c t)).length cp c (.slice a row.length rcap) (O.ev (O.askL row) O.jo t) w (by omega) hn hcp (by rw [hfl, Nat.add_sub_cancel]; exact hlast) hop (O.ev_le _ (fun c => O.told_le _ _) t) (fun W hb => by
      rw [hfl, Nat.add_sub_cancel]
      refine condOf_any ks a rcap row hm hx hlen t h.2.2 (fun x hx => hd x (by simp [O.flat, hx])) b off cp W (by omega) (by omega) (by have := hb.size; omega) (fun i hi => ?_) (hu.next hb)
      have h2 := hc i (by omega)
      rw [show (O.flat (.one c t)).getD i O.nullC = (O.flat t).getD i O.nullC by simp only [O.flat, List.getD]; rw [List.getElem?_append_left hi]] at h2
      exact at5_firm w W b _ _ (fun j => hb.cell (p := ⟨b, j, none⟩) hlt) h2)
    rw [show O.ev (O.askL row) O.jo (.one c t) = 2 - O.ev (O.askL row) O.jo t by rw [O.ev, O.jo, if_neg (by omega), if_neg (by omega)]]
    exact this
  | .two c t u, h, hd, b, off, cp, w, hcp, hn, hlt, hc, hu => by
    have hfl : (O.flat (.two c t u)).length = (O.flat t).length + (O.flat u).length + 1 := by simp [O.flat]; omega
    have hop : c.op = 5 ∨ c.op = 6 := by rcases O.parts_cases c.op with q | q | q <;> have := h.1 <;> omega
    have hlast := hc ((O.flat t).length + (O.flat u).length) (by omega)
    rw [show (O.flat (.two c t u)).getD ((O.flat t).length + (O.flat u).length) O.nullC = c by
      simp only [O.flat, List.getD]; rw [List.getElem?_append_right (by simp)]; simp] at hlast
    have := cond_two b off (O.flat (.two c t u)).length cp (O.flat t).length c (.slice a row.length rcap) (O.ev (O.askL row) O.jo t) (O.ev (O.askL row) O.jo u) w (by omega) hn hcp (by omega) (by rw [hfl, Nat.add_sub_cancel]; exact hlast) hop
      (O.ev_le _ (fun c => O.told_le _ _) t) (O.ev_le _ (fun c => O.told_le _ _) u)
      (fun W hb => by
        rw [show (O.flat (.two c t u)).length - 1 = (O.flat t).length + (O.flat u).length by omega]
        exact begin_any ks b off (O.flat (.two c t u)).length cp u h.2.2.2 (O.flat t) [c] W (by simp; omega) hn (by have := hb.size; omega) (fun i hi => at5_firm w W b _ _ (fun j => hb.cell (p := ⟨b, j, none⟩) hlt) (hc i hi)))
      (fun W hb => by
        refine condOf_any ks a rcap row hm hx hlen t h.2.2.1 (fun x hx => hd x (by simp [O.flat, hx])) b off cp W (by omega) (by omega) (by have := hb.size; omega) (fun i hi => ?_) (hu.next hb)
        have h2 := hc i (by omega)
        rw [show (O.flat (.two c t u)).getD i O.nullC = (O.flat t).getD i O.nullC by simp only [O.flat, List.getD]; rw [List.append_assoc, List.getElem?_append_left hi]] at h2
        exact at5_firm w W b _ _ (fun j => hb.cell (p := ⟨b, j, none⟩) hlt) h2)
      (fun W hb => by
        rw [show (O.flat (.two c t u)).length - 1 - (O.flat t).length = (O.flat u).length by omega]
        refine condOf_any ks a rcap row hm hx hlen u h.2.2.2 (fun x hx => hd x (by simp [O.flat, hx])) b (off + (O.flat t).length * 5) (cp - (O.flat t).length) W (by omega) (by omega) (by have := hb.size; omega) (fun i hi => ?_) (hu.next hb)
        have h2 := hc ((O.flat t).length + i) (by omega)
        rw [show (O.flat (.two c t u)).getD ((O.flat t).length + i) O.nullC = (O.flat u).getD i O.nullC by
          simp only [O.flat, List.getD]; rw [List.append_assoc, List.getElem?_append_right (by omega), Nat.add_sub_cancel_left, List.getElem?_append_left hi]] at h2
        rw [show off + (O.flat t).length * 5 + i * 5 = off + ((O.flat t).length + i) * 5 by rw [Nat.add_mul]; omega]
        exact at5_firm w W b _ _ (fun j => hb.cell (p := ⟨b, j, none⟩) hlt) h2)
    exact this
end Go.Proofs.Ytnjnalehfhfefaa
/- From what the form hands over to what the walks ask for: integers, texts, slices of numbers. -/
namespace Go.Proofs.Ytnjnalehfhfefaa
open Go.ChangeShapes Go.WideShapes Go.ChangeAt Go.RowKit
set_option linter.unusedVariables false

theorem own_knob : ownKnob Try.prog.godebug = none := by kernel_rfl
theorem laid_out : laidOutB Try.prog = true := by kernel_rfl

theorem nat_u64 {a : Int} (h : (Lit.int .u64 a).wf = true) : ∃ n : Nat, a = n ∧ n < 18446744073709551616 := by
  have hb : 0 ≤ a ∧ a ≤ 18446744073709551615 := by simpa [Lit.wf, IntKind.min, IntKind.max, IntKind.signed, IntKind.bits] using h
  exact ⟨a.toNat, by omega, by omega⟩
theorem bounds_int {a : Int} (h : (Lit.int .i64 a).wf = true) : -9223372036854775808 ≤ a ∧ a ≤ 9223372036854775807 := by
  simpa [Lit.wf, IntKind.min, IntKind.max, IntKind.signed, IntKind.bits] using h

theorem lt_of_cell {w : World} {b o : Nat} {v : Value} (h : w.cell? ⟨b, o, none⟩ = some v) : b < w.heap.size := by
  rcases Nat.lt_or_ge b w.heap.size with hlt | hge
  · exact hlt
  · simp [World.cell?, Array.getElem?_eq_none hge] at h

theorem nat_of_wf (zs : List Int) (h : ∀ n ∈ zs, (Lit.int .u64 n).wf = true) : ∃ l : List Nat, zs = l.map (fun x : Nat => (x : Int)) ∧ ∀ x ∈ l, x < 18446744073709551616 := by
  induction zs with
  | nil => exact ⟨[], rfl, by simp⟩
  | cons z zs ih =>
    obtain ⟨l, rfl, hl⟩ := ih (fun n hn => h n (by simp [hn]))
    obtain ⟨n, rfl, hn⟩ := nat_u64 (h z (by simp))
    exact ⟨n :: l, rfl, by intro x hx; rcases List.mem_cons.1 hx with rfl | hx; exact hn; exact hl x hx⟩

section
variable {H : Type} {enc : TypeId × Value → H} {w : World} {base : Nat} {spare : Nat → Bool} {held : Bool}

/-- a slice of numbers that came in -/
theorem open_nums {t e : TypeId} {fuel : Nat} {a : Option Addr} {len cap : Nat} {x : DataW H × List MemPlace} (ht : Try.prog.underlying t = some (.slice e)) (he : Try.prog.underlying e = some (.int .u64)) (hc : Try.prog.cellsOf e = 1)
    (h : DataW.trod enc Try.prog w base spare held fuel t (Value.slice a len cap).cells.toList = some x) :
    ∃ l : List Nat, l.length = len ∧ len ≤ maxLen ∧ (len ≤ cap ∧ cap ≤ maxLen ∧ (a = none → cap = 0)) ∧ (∀ x ∈ l, x < 18446744073709551616) ∧ Nums w w.heap.size a l ∧
      (x.1 = .nil ∧ len = 0 ∨ ∃ r, x.1 = .slice ((l.map fun x : Nat => (x : Int)).map fun n => .lit (.int .u64 n)) r) := by
  rcases open_ints ht he hc h with ⟨hcs, hx⟩ | ⟨ad, l, c, zs, hcs, _, hl, hm, hz, hx, hcell, hwz⟩
  · simp [Value.cells] at hcs
    obtain ⟨rfl, rfl, rfl⟩ := hcs
    exact ⟨[], rfl, Nat.zero_le _, ⟨Nat.le_refl _, Nat.zero_le _, fun _ => rfl⟩, by simp, Nums.nil _ _ _, Or.inl ⟨by rw [hx], rfl⟩⟩
  · simp [Value.cells] at hcs
    obtain ⟨rfl, rfl, rfl⟩ := hcs
    have hlen : len ≤ zs.length := by rw [hz]; split <;> omega
    obtain ⟨l, hl2, hlt⟩ := nat_of_wf (zs.take len) (fun n hn => hwz n (List.mem_of_mem_take hn))
    have hll : l.length = len := by have := congrArg List.length hl2; simp only [List.length_take, List.length_map] at this; omega
    refine ⟨l, hll, by omega, ⟨hl, hm, fun h => by cases h⟩, hlt, ?_, Or.inr ⟨_, by rw [hx, hl2]; rfl⟩⟩
    intro hne
    have hpos : 0 < zs.length := by
      rcases Nat.eq_zero_or_pos len with h0 | h0
      · rw [h0] at hll; exact absurd (List.eq_nil_of_length_eq_zero hll) hne
      · omega
    obtain ⟨b, off, rfl, hc2⟩ := ints_at hcell hpos
    refine ⟨b, off, rfl, lt_of_cell (hc2 0 hpos), fun i hi => ?_⟩
    rw [hc2 i (by omega)]
    have h1 : zs.getD i 0 = (zs.take len).getD i 0 := by simp [List.getD, List.getElem?_take_of_lt (show i < len by omega)]
    rw [h1, hl2]
    simp [List.getD, List.getElem?_eq_getElem hi]
end

/-- bulk -/
theorem bulk_one {H : Type} (d : DataW H) : 1 ≤ Rows.uptoBulk d := by
  cases d with
  | lit l => cases l <;> simp [Rows.uptoBulk]
  | _ => simp [Rows.uptoBulk]
theorem bulk_length {H : Type} (l : List (DataW H)) : l.length ≤ Rows.uptoBulkAll l := by
  induction l with
  | nil => simp [Rows.uptoBulkAll]
  | cons x r ih => have := bulk_one x; simp only [Rows.uptoBulkAll, List.length_cons]; omega
theorem bulk_slice {H : Type} {d : DataW H} {l : List Nat} {n : Nat} (hl : l.length = n) (h : d = .nil ∧ n = 0 ∨ ∃ r, d = .slice ((l.map fun x : Nat => (x : Int)).map fun n => .lit (.int .u64 n)) r) : n + 1 ≤ Rows.uptoBulk d := by
  rcases h with ⟨rfl, rfl⟩ | ⟨r, rfl⟩
  · simp [Rows.uptoBulk]
  · have := bulk_length ((l.map fun x : Nat => (x : Int)).map fun n => DataW.lit (H := H) (.int .u64 n))
    simp only [List.length_map] at this
    simp only [Rows.uptoBulk]
    omega
theorem bulk_of {H : Type} {l : List (DataW H)} (hk : Rows.uptoSmall H l = true) : Rows.uptoBulkAll l ≤ 1048576 := of_decide_eq_true hk
end Go.Proofs.Ytnjnalehfhfefaa
/- From what the form hands over to what the walks ask for: cells, and slices of them. -/
namespace Go.Proofs.Ytnjnalehfhfefaa
open Go.ChangeShapes Go.WideShapes Go.ChangeAt Go.RowKit
set_option linter.unusedVariables false

instance : Inhabited C.Cl := ⟨C.null⟩
def cellD {H : Type} (c : C.Cl) : DataW H := .agg [.lit (.int .i64 c.kind), .lit (.int .u64 (c.num : Int)), .lit (.string c.txt)]

section
variable {H : Type} {enc : TypeId × Value → H} {w : World} {base : Nat} {held : Bool} {spare : Nat → Bool}

theorem open_three {P : Program} {e : TypeId} {f0 f1 f2 : Field} {n : Nat} {cs : List Value} {x : DataW H × List MemPlace} (he : P.underlying e = some (.struct #[f0, f1, f2])) (ce : P.cellsOf e = 3)
    (o0 : f0.offset = 0) (o1 : f1.offset = 1) (o2 : f2.offset = 2) (c0 : P.cellsOf f0.type = 1) (c1 : P.cellsOf f1.type = 1) (c2 : P.cellsOf f2.type = 1)
    (h : DataW.trod enc P w base spare held n e cs = some x) :
    ∃ (k : Nat) (v0 v1 v2 : Value) (y0 y1 y2 : DataW H × List MemPlace), cs = [v0, v1, v2] ∧ x = (.agg [y0.1, y1.1, y2.1], y0.2 ++ y1.2 ++ y2.2) ∧
      DataW.trod enc P w base spare held k f0.type [v0] = some y0 ∧ DataW.trod enc P w base spare held k f1.type [v1] = some y1 ∧ DataW.trod enc P w base spare held k f2.type [v2] = some y2 := by
  obtain ⟨xs, k, _, hxy, hlen, hxl, hf⟩ := DataW.trod_struct he h
  rw [ce] at hlen
  match xs, hxl, cs, hlen with
  | [y0, y1, y2], _, [v0, v1, v2], _ =>
    have g0 := hf 0 f0 rfl
    have g1 := hf 1 f1 rfl
    have g2 := hf 2 f2 rfl
    simp [o0, o1, o2, c0, c1, c2] at g0 g1 g2
    exact ⟨k, v0, v1, v2, y0, y1, y2, rfl, by simpa using hxy, g0, g1, g2⟩
/-- the three values of a cell that came in -/
theorem open_cell3 {n : Nat} {cs : List Value} {x : DataW H × List MemPlace} (h : DataW.trod enc Try.prog w base spare held n 30 cs = some x) :
    ∃ c : C.Cl, cOk c ∧ cs = cx c ∧ x = (cellD c, []) := by
  obtain ⟨k, v0, v1, v2, y0, y1, y2, hcs, hxy, g0, g1, g2⟩ := open_three Try.underlying30 (by kernel_rfl) rfl rfl rfl (by kernel_rfl) (by kernel_rfl) (by kernel_rfl) h
  obtain ⟨z, e1, e2, e3⟩ := DataW.trod_int Try.underlying3 g0
  obtain ⟨y, f1, f2, f3⟩ := DataW.trod_int Try.underlying28 g1
  obtain ⟨s, s1, s2, s3⟩ := DataW.trod_string Try.underlying9 g2
  obtain ⟨m, rfl, hm⟩ := nat_u64 f3
  have hz := bounds_int e3
  simp at e1 f1 s1
  subst e1; subst f1; subst s1; subst e2; subst f2; subst s2
  refine ⟨⟨z, m, s.data.toList⟩, ⟨hz.1, hz.2, hm, by rw [len_data]; exact s3⟩, by rw [hcs]; simp [cx, str], ?_⟩
  rw [hxy]; rfl

/-- a slice of cells that came in -/
theorem open_cells {t : TypeId} {fuel : Nat} {a : Option Addr} {len cap : Nat} {x : DataW H × List MemPlace} (ht : Try.prog.underlying t = some (.slice 30))
    (h : DataW.trod enc Try.prog w base spare held fuel t (Value.slice a len cap).cells.toList = some x) :
    ∃ l : List C.Cl, l.length = len ∧ len ≤ maxLen ∧ (len ≤ cap ∧ cap ≤ maxLen ∧ (a = none → cap = 0)) ∧ (∀ x ∈ l, cOk x) ∧ Cls w w.heap.size a l ∧
      (x.1 = .nil ∧ len = 0 ∨ ∃ r, x.1 = .slice (l.map cellD) r) := by
  rcases Go.Deep.open_slice ht h with ⟨hcs, hx⟩ | ⟨ad, ln, cp, m, n, D, Pl, hcs, hb, hl, hm, hmm, hx, hcell⟩
  · simp [Value.cells] at hcs
    obtain ⟨rfl, rfl, rfl⟩ := hcs
    exact ⟨[], rfl, Nat.zero_le _, ⟨Nat.le_refl _, Nat.zero_le _, fun _ => rfl⟩, by simp, Cls.nil _ _ _, Or.inl ⟨by rw [hx], rfl⟩⟩
  · simp [Value.cells] at hcs
    obtain ⟨rfl, rfl, rfl⟩ := hcs
    have hlm : len ≤ m := by rw [hmm]; split <;> omega
    have each : ∀ i, i < m → ∃ c : C.Cl, cOk c ∧ D i = cellD c ∧ w.cell? (ad.add (i * 3)) = some (.int .i64 c.kind) ∧ w.cell? (ad.add (i * 3 + 1)) = some (.int .u64 (c.num : Int)) ∧ w.cell? (ad.add (i * 3 + 2)) = some (.string (str c.txt)) := by
      intro i hi
      obtain ⟨cs', h1, h2⟩ := hcell i hi
      rw [show Try.prog.cellsOf 30 = 3 by kernel_rfl] at h1
      obtain ⟨_, hlen, hc⟩ := World.cells?_some h1
      obtain ⟨c, hok, rfl, hd⟩ := open_cell3 h2
      have c0 := hc 0 (by omega)
      have c1 := hc 1 (by omega)
      have c2 := hc 2 (by omega)
      rw [Go.Deep.add_add] at c0 c1 c2
      simp only [Prod.mk.injEq] at hd
      exact ⟨c, hok, hd.1, by simpa [cx] using c0, by simpa [cx] using c1, by simpa [cx] using c2⟩
    obtain ⟨Q, hQ⟩ := Go.Deep.choose_lt (α := C.Cl) each
    refine ⟨(List.range len).map Q, by simp, by omega, ⟨hl, hm, fun h => by cases h⟩, ?_, ?_, Or.inr ⟨_, by
      rw [hx]; simp only [List.map_map]; rw [List.map_congr_left (g := cellD ∘ Q) (fun i hi => (hQ i (by have := List.mem_range.1 hi; omega)).2.1)]⟩⟩
    · intro y hy
      obtain ⟨i, hi, rfl⟩ := List.mem_map.1 hy
      exact (hQ i (by have := List.mem_range.1 hi; omega)).1
    intro hne
    have hpos : 0 < len := by
      rcases Nat.eq_zero_or_pos len with h0 | h0
      · rw [h0] at hne; simp at hne
      · exact h0
    obtain ⟨b, off, spot⟩ := ad
    have hspot : spot = none := by simpa [Addr.add] using World.cell?_spot (hQ 0 (by omega)).2.2.1
    subst hspot
    have hc2 : ∀ i, i < len → w.cell? ⟨b, off + i * 3, none⟩ = some (.int .i64 (Q i).kind) ∧ w.cell? ⟨b, off + i * 3 + 1, none⟩ = some (.int .u64 ((Q i).num : Int)) ∧ w.cell? ⟨b, off + i * 3 + 2, none⟩ = some (.string (str (Q i).txt)) := fun i hi => by
      have hq := (hQ i (by omega)).2.2
      rw [Go.WideShapes.add_plain, Go.WideShapes.add_plain, Go.WideShapes.add_plain] at hq
      exact hq
    refine ⟨b, off, rfl, lt_of_cell (hc2 0 hpos).1, fun i hi => ?_⟩
    simp only [List.length_map, List.length_range] at hi
    have hg : ((List.range len).map Q).getD i C.null = Q i := by simp [List.getD, hi]
    rw [hg]
    exact hc2 i hi

set_option maxRecDepth 100000 in
/-- a cell that came in -/
theorem open_cell {r : Reach} {b0 : Nat} {v : Value} {d : DataW H} {ps : List MemPlace} (hval : Value.okWide Try.prog w r b0 30 v) (hd : DataW.Trod enc Try.prog w base spare held 30 v d ps) :
    ∃ c : C.Cl, v = cag c ∧ d = cellD c ∧ ps = [] ∧ cOk c := by
  obtain ⟨cs, rfl, hsz⟩ := okWide_struct Try.underlying30 hval
  obtain ⟨fuel, hf⟩ := hd
  obtain ⟨c, hok, h1, h2⟩ := open_cell3 hf
  have hcs : cs.toList = cx c := by simpa [Value.cells] using h1
  refine ⟨c, ?_, (Prod.mk.injEq _ _ _ _ ▸ h2).1, (Prod.mk.injEq _ _ _ _ ▸ h2).2, hok⟩
  unfold cag
  congr 1
  apply Array.toList_inj.mp
  rw [hcs]; rfl
end
theorem bulk_cells {H : Type} {d : DataW H} {l : List C.Cl} {n : Nat} (hl : l.length = n) (h : d = .nil ∧ n = 0 ∨ ∃ r, d = .slice (l.map cellD) r) : n + 1 ≤ Rows.uptoBulk d := by
  rcases h with ⟨rfl, rfl⟩ | ⟨r, rfl⟩
  · simp [Rows.uptoBulk]
  · have := bulk_length (l.map (cellD (H := H)))
    simp only [List.length_map] at this
    simp only [Rows.uptoBulk]
    omega
end Go.Proofs.Ytnjnalehfhfefaa
/- From what the form hands over to what the walks ask for: conditions, kinds. -/
namespace Go.Proofs.Ytnjnalehfhfefaa
open Go.ChangeShapes Go.WideShapes Go.ChangeAt Go.RowKit
set_option linter.unusedVariables false

/-- a slice that came in, of elements of n cells, each of them read by 'el' -/
theorem open_sl {α : Type} {H : Type} {enc : TypeId × Value → H} {w : World} {base : Nat} {held : Bool} {spare : Nat → Bool} {P : World → Nat → Nat → α → Prop} {n : Nat} {z : α} {t et : TypeId} {D : α → DataW H} {okk : α → Prop} {cf : α → List Value} [Inhabited α] (hn : 0 < n)
    (ht : Try.prog.underlying t = some (.slice et)) (hce : Try.prog.cellsOf et = n) (hcl : ∀ c, (cf c).length = n)
    (el : ∀ {k : Nat} {cs : List Value} {x : DataW H × List MemPlace}, DataW.trod enc Try.prog w base spare held k et cs = some x → cs.length = n → ∃ c, okk c ∧ cs = cf c ∧ x = (D c, []))
    (mk : ∀ (b o : Nat) (c : α), (∀ j v, (cf c)[j]? = some v → w.cell? ⟨b, o + j, none⟩ = some v) → P w b o c)
    {fuel : Nat} {a : Option Addr} {len cap : Nat} {x : DataW H × List MemPlace}
    (h : DataW.trod enc Try.prog w base spare held fuel t (Value.slice a len cap).cells.toList = some x) :
    ∃ l : List α, l.length = len ∧ len ≤ maxLen ∧ (len ≤ cap ∧ cap ≤ maxLen ∧ (a = none → cap = 0)) ∧ (∀ x ∈ l, okk x) ∧ Sl P n z w w.heap.size a l ∧
      (x.1 = .nil ∧ len = 0 ∨ ∃ r, x.1 = .slice (l.map D) r) := by
  rcases Go.Deep.open_slice ht h with ⟨hcs, hx⟩ | ⟨ad, ln, cp, m, n', Dd, Pl, hcs, hb, hl, hm, hmm, hx, hcell⟩
  · simp [Value.cells] at hcs
    obtain ⟨rfl, rfl, rfl⟩ := hcs
    exact ⟨[], rfl, Nat.zero_le _, ⟨Nat.le_refl _, Nat.zero_le _, fun _ => rfl⟩, by simp, Sl.nil _ _ _, Or.inl ⟨by rw [hx], rfl⟩⟩
  · simp [Value.cells] at hcs
    obtain ⟨rfl, rfl, rfl⟩ := hcs
    have hlm : len ≤ m := by rw [hmm]; split <;> omega
    have each : ∀ i, i < m → ∃ c : α, okk c ∧ Dd i = D c ∧ ∀ j v, (cf c)[j]? = some v → w.cell? (ad.add (i * n + j)) = some v := by
      intro i hi
      obtain ⟨cs', h1, h2⟩ := hcell i hi
      rw [hce] at h1
      obtain ⟨_, hlen, hc⟩ := World.cells?_some h1
      obtain ⟨c, hok, rfl, hd⟩ := el h2 hlen
      simp only [Prod.mk.injEq] at hd
      refine ⟨c, hok, hd.1, fun j v hj => ?_⟩
      have hjn : j < n := by
        rcases Nat.lt_or_ge j n with h | h
        · exact h
        · rw [List.getElem?_eq_none (by rw [hcl]; exact h)] at hj; cases hj
      have := hc j (by omega)
      rw [Go.Deep.add_add] at this
      rw [this]; exact hj
    obtain ⟨Q, hQ⟩ := Go.Deep.choose_lt (α := α) each
    refine ⟨(List.range len).map Q, by simp, by omega, ⟨hl, hm, fun h => by cases h⟩, ?_, ?_, Or.inr ⟨_, by
      rw [hx]; simp only [List.map_map]; rw [List.map_congr_left (g := D ∘ Q) (fun i hi => (hQ i (by have := List.mem_range.1 hi; omega)).2.1)]⟩⟩
    · intro y hy
      obtain ⟨i, hi, rfl⟩ := List.mem_map.1 hy
      exact (hQ i (by have := List.mem_range.1 hi; omega)).1
    intro hne
    have hpos : 0 < len := by
      rcases Nat.eq_zero_or_pos len with h0 | h0
      · rw [h0] at hne; simp at hne
      · exact h0
    obtain ⟨b, off, spot⟩ := ad
    have hfirst : ∃ v, (cf (Q 0))[0]? = some v := ⟨_, List.getElem?_eq_getElem (by rw [hcl]; exact hn)⟩
    obtain ⟨v0, hv0⟩ := hfirst
    have hc00 := (hQ 0 (by omega)).2.2 0 v0 hv0
    have hspot : spot = none := by simpa [Addr.add] using World.cell?_spot hc00
    subst hspot
    rw [Go.WideShapes.add_plain] at hc00
    refine ⟨b, off, rfl, lt_of_cell hc00, fun i hi => ?_⟩
    simp only [List.length_map, List.length_range] at hi
    have hg : ((List.range len).map Q).getD i z = Q i := by simp [List.getD, hi]
    rw [hg]
    refine mk b (off + i * n) (Q i) (fun j v hj => ?_)
    have := (hQ i (by omega)).2.2 j v hj
    rw [Go.WideShapes.add_plain] at this
    rwa [show off + (i * n + j) = off + i * n + j by omega] at this

instance : Inhabited O.Cd := ⟨O.nullC⟩
def condD {H : Type} (c : O.Cd) : DataW H := .agg [.lit (.int .i64 c.op), .lit (.int .i64 c.col), cellD c.c]
def intD {H : Type} (k : Int) : DataW H := .lit (.int .i64 k)

section
variable {H : Type} {enc : TypeId × Value → H} {w : World} {base : Nat} {held : Bool} {spare : Nat → Bool}

theorem open_cd {P : Program} {e : TypeId} {f0 f1 f2 : Field} {n : Nat} {cs : List Value} {x : DataW H × List MemPlace} (he : P.underlying e = some (.struct #[f0, f1, f2])) (ce : P.cellsOf e = 5)
    (o0 : f0.offset = 0) (o1 : f1.offset = 1) (o2 : f2.offset = 2) (c0 : P.cellsOf f0.type = 1) (c1 : P.cellsOf f1.type = 1) (c2 : P.cellsOf f2.type = 3)
    (h : DataW.trod enc P w base spare held n e cs = some x) :
    ∃ (k : Nat) (v0 v1 v2 v3 v4 : Value) (y0 y1 y2 : DataW H × List MemPlace), cs = [v0, v1, v2, v3, v4] ∧ x = (.agg [y0.1, y1.1, y2.1], y0.2 ++ y1.2 ++ y2.2) ∧
      DataW.trod enc P w base spare held k f0.type [v0] = some y0 ∧ DataW.trod enc P w base spare held k f1.type [v1] = some y1 ∧ DataW.trod enc P w base spare held k f2.type [v2, v3, v4] = some y2 := by
  obtain ⟨xs, k, _, hxy, hlen, hxl, hf⟩ := DataW.trod_struct he h
  rw [ce] at hlen
  match xs, hxl, cs, hlen with
  | [y0, y1, y2], _, [v0, v1, v2, v3, v4], _ =>
    have g0 := hf 0 f0 rfl
    have g1 := hf 1 f1 rfl
    have g2 := hf 2 f2 rfl
    simp [o0, o1, o2, c0, c1, c2] at g0 g1 g2
    exact ⟨k, v0, v1, v2, v3, v4, y0, y1, y2, rfl, by simpa using hxy, g0, g1, g2⟩
def dxl (c : O.Cd) : List Value := [.int .i64 c.op, .int .i64 c.col, .int .i64 c.c.kind, .int .u64 (c.c.num : Int), .string (str c.c.txt)]
theorem open_cond5 {n : Nat} {cs : List Value} {x : DataW H × List MemPlace} (h : DataW.trod enc Try.prog w base spare held n 59 cs = some x) :
    ∃ c : O.Cd, dOk c ∧ cs = dxl c ∧ x = (condD c, []) := by
  obtain ⟨k, v0, v1, v2, v3, v4, y0, y1, y2, hcs, hxy, g0, g1, g2⟩ := open_cd Try.underlying59 (by kernel_rfl) rfl rfl rfl (by kernel_rfl) (by kernel_rfl) (by kernel_rfl) h
  obtain ⟨z, e1, e2, e3⟩ := DataW.trod_int Try.underlying3 g0
  obtain ⟨y, f1, f2, f3⟩ := DataW.trod_int Try.underlying3 g1
  obtain ⟨l, hl, l1, l2⟩ := open_cell3 g2
  have hz := bounds_int e3
  have hy := bounds_int f3
  simp at e1 f1
  simp [cx] at l1
  obtain ⟨rfl, rfl, rfl⟩ := l1
  subst e1; subst f1; subst e2; subst f2; subst l2
  exact ⟨⟨z, y, l⟩, ⟨hz, hy, hl⟩, by rw [hcs]; rfl, by rw [hxy]; rfl⟩
theorem open_int1 {n : Nat} {cs : List Value} {x : DataW H × List MemPlace} (h : DataW.trod enc Try.prog w base spare held n 3 cs = some x) :
    ∃ c : Int, (-9223372036854775808 ≤ c ∧ c ≤ 9223372036854775807) ∧ cs = [.int .i64 c] ∧ x = (intD c, []) := by
  obtain ⟨z, e1, e2, e3⟩ := DataW.trod_int Try.underlying3 h
  exact ⟨z, bounds_int e3, e1, e2⟩
theorem open_conds {t : TypeId} {fuel : Nat} {a : Option Addr} {len cap : Nat} {x : DataW H × List MemPlace} (ht : Try.prog.underlying t = some (.slice 59))
    (h : DataW.trod enc Try.prog w base spare held fuel t (Value.slice a len cap).cells.toList = some x) :
    ∃ l : List O.Cd, l.length = len ∧ len ≤ maxLen ∧ (len ≤ cap ∧ cap ≤ maxLen ∧ (a = none → cap = 0)) ∧ (∀ x ∈ l, dOk x) ∧ Cds w w.heap.size a l ∧ (x.1 = .nil ∧ len = 0 ∨ ∃ r, x.1 = .slice (l.map condD) r) :=
  open_sl (α := O.Cd) (n := 5) (D := condD) (cf := dxl) (by omega) ht (by kernel_rfl) (fun _ => rfl) (fun h _ => open_cond5 h) (fun b o c hc => ⟨hc 0 _ rfl, hc 1 _ rfl, hc 2 _ rfl, hc 3 _ rfl, hc 4 _ rfl⟩) h
theorem open_ks {t : TypeId} {fuel : Nat} {a : Option Addr} {len cap : Nat} {x : DataW H × List MemPlace} (ht : Try.prog.underlying t = some (.slice 3))
    (h : DataW.trod enc Try.prog w base spare held fuel t (Value.slice a len cap).cells.toList = some x) :
    ∃ l : List Int, l.length = len ∧ len ≤ maxLen ∧ (len ≤ cap ∧ cap ≤ maxLen ∧ (a = none → cap = 0)) ∧ (∀ x ∈ l, -9223372036854775808 ≤ x ∧ x ≤ 9223372036854775807) ∧ Ints w w.heap.size a l ∧ (x.1 = .nil ∧ len = 0 ∨ ∃ r, x.1 = .slice (l.map intD) r) :=
  open_sl (α := Int) (n := 1) (D := intD) (cf := fun k => [.int .i64 k]) (by omega) ht (by kernel_rfl) (fun _ => rfl) (fun h _ => open_int1 h) (fun b o c hc => hc 0 _ rfl) h
end
theorem bulk_any {α H : Type} {D : α → DataW H} {d : DataW H} {l : List α} {n : Nat} (hl : l.length = n) (h : d = .nil ∧ n = 0 ∨ ∃ r, d = .slice (l.map D) r) : n + 1 ≤ Rows.uptoBulk d := by
  rcases h with ⟨rfl, rfl⟩ | ⟨r, rfl⟩
  · simp [Rows.uptoBulk]
  · have := bulk_length (l.map D)
    simp only [List.length_map] at this
    simp only [Rows.uptoBulk]
    omega
end Go.Proofs.Ytnjnalehfhfefaa
/- Rows of cells that came in. -/
namespace Go.Proofs.Ytnjnalehfhfefaa
open Go.ChangeShapes Go.WideShapes Go.ChangeAt Go.RowKit
set_option linter.unusedVariables false

/-- a slice of slices of cells that came in -/
def Rws (w : World) (B : Nat) (a : Option Addr) (l : List (List C.Cl)) : Prop :=
  l ≠ [] → ∃ b off, a = some ⟨b, off, none⟩ ∧ b < B ∧ ∀ i, i < l.length → ∃ ai ci, w.cell? ⟨b, off + i, none⟩ = some (.slice ai (l.getD i []).length ci) ∧ (l.getD i []).length ≤ maxLen ∧ (∀ x ∈ l.getD i [], cOk x) ∧ Cls w B ai (l.getD i [])
theorem Rws.below {w w' : World} {B : Nat} {a : Option Addr} {l : List (List C.Cl)} (h : Rws w B a l) (hb : Below B w w') : Rws w' B a l := by
  intro hl
  obtain ⟨b, off, e, hlt, hc⟩ := h hl
  refine ⟨b, off, e, hlt, fun i hi => ?_⟩
  obtain ⟨ai, ci, c1, c2, c3, c4⟩ := hc i hi
  exact ⟨ai, ci, by rw [hb.cell (p := ⟨b, off + i, none⟩) hlt]; exact c1, c2, c3, c4.below hb⟩

section
variable {H : Type} {enc : TypeId × Value → H} {w : World} {base : Nat} {held : Bool} {spare : Nat → Bool}
theorem open_row1 {n : Nat} {cs : List Value} {x : DataW H × List MemPlace} (h : DataW.trod enc Try.prog w base spare held n 34 cs = some x) :
    ∃ (a : Option Addr) (c : Nat) (l : List C.Cl), cs = [.slice a l.length c] ∧ l.length ≤ maxLen ∧ (∀ x ∈ l, cOk x) ∧ Cls w w.heap.size a l := by
  rcases Go.Deep.open_slice Try.underlying34 h with ⟨hcs, hx⟩ | ⟨ad, ln, cp, m, n', Dd, Pl, hcs, hb, hl, hm, hmm, hx, hcell⟩
  · exact ⟨none, 0, [], hcs, by simp, by simp, Cls.nil _ _ _⟩
  · rw [hcs] at h
    obtain ⟨l, h1, h2, h3, h4, h5, h6⟩ := open_cells (a := some ad) (len := ln) (cap := cp) Try.underlying34 (by simpa [Value.cells] using h)
    exact ⟨some ad, cp, l, by rw [hcs, h1], by omega, h4, h5⟩
theorem open_rws {t : TypeId} {fuel : Nat} {a : Option Addr} {len cap : Nat} {x : DataW H × List MemPlace} (ht : Try.prog.underlying t = some (.slice 34))
    (h : DataW.trod enc Try.prog w base spare held fuel t (Value.slice a len cap).cells.toList = some x) :
    ∃ l : List (List C.Cl), l.length = len ∧ len ≤ maxLen ∧ (len ≤ cap ∧ cap ≤ maxLen ∧ (a = none → cap = 0)) ∧ Rws w w.heap.size a l ∧ (x.1 = .nil ∧ len = 0 ∨ ∃ (ds : List (DataW H)) (r : List (DataW H)), ds.length = len ∧ x.1 = .slice ds r) := by
  rcases Go.Deep.open_slice ht h with ⟨hcs, hx⟩ | ⟨ad, ln, cp, m, n', Dd, Pl, hcs, hb, hl, hm, hmm, hx, hcell⟩
  · simp [Value.cells] at hcs
    obtain ⟨rfl, rfl, rfl⟩ := hcs
    exact ⟨[], rfl, Nat.zero_le _, ⟨Nat.le_refl _, Nat.zero_le _, fun _ => rfl⟩, fun h => absurd rfl h, Or.inl ⟨by rw [hx], rfl⟩⟩
  · simp [Value.cells] at hcs
    obtain ⟨rfl, rfl, rfl⟩ := hcs
    have hlm : len ≤ m := by rw [hmm]; split <;> omega
    have each : ∀ i, i < m → ∃ l : List C.Cl, ∃ ai ci, w.cell? (ad.add i) = some (.slice ai l.length ci) ∧ l.length ≤ maxLen ∧ (∀ x ∈ l, cOk x) ∧ Cls w w.heap.size ai l := by
      intro i hi
      obtain ⟨cs', h1, h2⟩ := hcell i hi
      rw [show Try.prog.cellsOf 34 = 1 by kernel_rfl] at h1
      obtain ⟨_, hlen, hc⟩ := World.cells?_some h1
      obtain ⟨ai, ci, l, rfl, q1, q2, q3⟩ := open_row1 h2
      have c0 := hc 0 (by omega)
      rw [Go.Deep.add_add, Nat.mul_one, Nat.add_zero] at c0
      exact ⟨l, ai, ci, by simpa using c0, q1, q2, q3⟩
    obtain ⟨Q, hQ⟩ := Go.Deep.choose_lt (α := List C.Cl) each
    refine ⟨(List.range len).map Q, by simp, by omega, ⟨hl, hm, fun h => by cases h⟩, ?_, Or.inr ⟨(List.range len).map Dd, _, by simp, by rw [hx]⟩⟩
    · intro hne
      have hpos : 0 < len := by
        rcases Nat.eq_zero_or_pos len with h0 | h0
        · rw [h0] at hne; simp at hne
        · exact h0
      obtain ⟨b, off, spot⟩ := ad
      obtain ⟨a0, c0, hc00, _⟩ := hQ 0 (by omega)
      have hspot : spot = none := by simpa [Addr.add] using World.cell?_spot hc00
      subst hspot
      rw [Go.WideShapes.add_plain] at hc00
      refine ⟨b, off, rfl, lt_of_cell hc00, fun i hi => ?_⟩
      simp only [List.length_map, List.length_range] at hi
      have hg : ((List.range len).map Q).getD i [] = Q i := by simp [List.getD, hi]
      rw [hg]
      obtain ⟨ai, ci, q0, q1, q2, q3⟩ := hQ i (by omega)
      rw [Go.WideShapes.add_plain] at q0
      exact ⟨ai, ci, q0, q1, q2, q3⟩
end
theorem bulk_rows {H : Type} {d : DataW H} {n : Nat} (h : d = .nil ∧ n = 0 ∨ ∃ (ds : List (DataW H)) (r : List (DataW H)), ds.length = n ∧ d = .slice ds r) : n + 1 ≤ Rows.uptoBulk d := by
  rcases h with ⟨rfl, rfl⟩ | ⟨ds, r, rfl, rfl⟩
  · simp [Rows.uptoBulk]
  · have := bulk_length ds
    simp only [Rows.uptoBulk]
    omega

theorem fm_get {α : Type} {f : α → List Value} {n : Nat} (hf : ∀ x, (f x).length = n) : ∀ (l : List α) (z : α) (i j : Nat), i < l.length → j < n → (l.flatMap f)[i * n + j]? = (f (l.getD i z))[j]?
  | [], z, i, j, hi, _ => by simp at hi
  | x :: l, z, 0, j, hi, hj => by
    rw [List.flatMap_cons, Nat.zero_mul, Nat.zero_add, List.getElem?_append_left (by rw [hf]; exact hj)]
    rfl
  | x :: l, z, i + 1, j, hi, hj => by
    rw [List.flatMap_cons, List.getElem?_append_right (by rw [hf, Nat.add_mul]; omega), hf, show (i + 1) * n + j - n = i * n + j by rw [Nat.add_mul]; omega, fm_get hf l z i j (by simpa using hi) hj]
    rfl
theorem fm_len {α : Type} {f : α → List Value} {n : Nat} (hf : ∀ x, (f x).length = n) (l : List α) : (l.flatMap f).length = l.length * n := by
  induction l with
  | nil => simp
  | cons x l ih => rw [List.flatMap_cons, List.length_append, ih, hf, List.length_cons, Nat.add_mul]; omega

/-- two values whose blocks are not the same -/
def Apart (v v' : Value) : Prop := v'.ownBlock = none ∨ v'.ownBlock ≠ v.ownBlock

end Go.Proofs.Ytnjnalehfhfefaa
/- The walk of hypostyleref.SameCells. -/
namespace Go.Proofs.Ytnjnalehfhfefaa
open Go.RowKit
set_option linter.unusedVariables false

theorem ctake_eq_succ (l m : List C.Cl) (k : Nat) (hlm : l.length = m.length) (hk : k < l.length) (h : l.take k = m.take k) (hq : l.getD k C.null = m.getD k C.null) : l.take (k + 1) = m.take (k + 1) := by
  rw [ctake_succ l k hk, ctake_succ m k (by omega), h, hq]
theorem cne_at (l m : List C.Cl) (k : Nat) (hq : l.getD k C.null ≠ m.getD k C.null) : ¬ l = m := fun e => hq (by rw [e])
theorem ctake_eq_all (l m : List C.Cl) (k : Nat) (hlm : l.length = m.length) (hk : l.length ≤ k) (h : l.take k = m.take k) : l = m := by
  rwa [List.take_of_length_le hk, List.take_of_length_le (by omega)] at h

set_option maxHeartbeats 400000 in
theorem csame_len (a a' : Option Addr) (n m c c' : Nat) (w : World) (h : ((n : Int) != (m : Int)) = true) :
    Calls Try.prog 23 #[.slice a n c, .slice a' m c'] w (BoolPost false w) := by
  go_enter Try.func23, Try.ntmps23
  go_wp2_with fail
  go_ret
  exact ⟨rfl, Below.refl _ _⟩

set_option maxHeartbeats 400000 in
theorem csame_nil (a a' : Option Addr) (c c' : Nat) (w : World) :
    Calls Try.prog 23 #[.slice a 0 c, .slice a' 0 c'] w (BoolPost true w) := by
  go_enter Try.func23, Try.ntmps23
  go_wp2_with fail
  refine wp_loop_rounds 1 ?_
  rw [rounds_succ]
  go_wp2_with fail
  go_ret
  exact ⟨rfl, Below.refl _ _⟩

set_option maxHeartbeats 1000000 in
set_option maxRecDepth 100000 in
theorem csame_any (a a' : Option Addr) (c c' : Nat) (l m : List C.Cl) (w : World) (B : Nat) (h1 : Cls w B a l) (h2 : Cls w B a' m) (hl : l.length < 9223372036854775807) :
    Calls Try.prog 23 #[.slice a l.length c, .slice a' m.length c'] w (BoolPost (decide (l = m)) w) := by
  by_cases hlm' : ¬ l.length = m.length
  · have hlm := hlm'
    rw [decide_eq_false (fun e => hlm (by rw [e]))]
    exact csame_len a a' _ _ c c' w (by simpa using (by omega : ¬ (l.length : Int) = (m.length : Int)))
  have hlm : l.length = m.length := Classical.not_not.1 hlm'
  clear hlm'
  by_cases hn : l = []
  · subst hn
    obtain rfl : m = [] := List.eq_nil_of_length_eq_zero hlm.symm
    exact csame_nil a a' c c' w
  obtain ⟨b, off, rfl, _, h1⟩ := h1 hn
  obtain ⟨b', off', rfl, _, h2⟩ := h2 (by intro e; rw [e] at hlm; exact hn (List.eq_nil_of_length_eq_zero hlm))
  rw [← hlm]
  have H1 := Lib.hid h1
  have H2 := Lib.hid h2
  have HL := Lib.hid hlm
  clear h1 h2 hlm hn
  go_enter Try.func23, Try.ntmps23
  go_wp2_with fail
  go_loopw [5] (fun i wr => ∃ k d : Nat, k ≤ l.length ∧ i = .int .i64 k ∧ wr = w.drewN d ∧ Hid (l.take k = m.take k)) (fun i _ => l.length - (intOf i).toNat)
  case atStart => exact ⟨0, 0, by omega, rfl, rfl, Lib.hid (by simp)⟩
  case round =>
    obtain ⟨k, d, hk, rfl, rfl, HK⟩ := hrel
    by_cases hlt : k < l.length
    · obtain ⟨c1, c2, c3⟩ := H1.out k hlt
      obtain ⟨d1, d2, d3⟩ := H2.out k (by rw [← HL.out]; exact hlt)
      have HQ := Lib.hid (fun hq => ctake_eq_succ l m k HL.out hlt HK.out hq)
      have HNQ := Lib.hid (fun hq => cne_at l m k hq)
      generalize l.getD k C.null = p at *
      generalize m.getD k C.null = q at *
      have hgd := guards_cell .neq
      have hne := fun w => cell_neq_cell w p q
      unfold cag at hne
      by_cases hq : p = q
      · have HT := Lib.hid (HQ.out hq)
        rw [decide_eq_false (fun e => e hq)] at hne
        generalize p.kind = p1 at *
        generalize p.num = p2 at *
        generalize str p.txt = p3 at *
        generalize q.kind = q1 at *
        generalize q.num = q2 at *
        generalize str q.txt = q3 at *
        clear hq HQ HNQ
        go_wp2_with fail
        go_quiet (fail)
        clear hne hgd
        go_wp2_with fail
        exact ⟨⟨k + 1, d + nq, by omega, by go_num, rfl, HT⟩, by simp [intOf]; omega⟩
      · have HN := Lib.hid (HNQ.out hq)
        rw [decide_eq_true hq] at hne
        generalize p.kind = p1 at *
        generalize p.num = p2 at *
        generalize str p.txt = p3 at *
        generalize q.kind = q1 at *
        generalize q.num = q2 at *
        generalize str q.txt = q3 at *
        clear hq HQ HNQ
        go_wp2_with fail
        go_quiet (fail)
        clear hne hgd
        go_wp2_with fail
        go_ret
        exact ⟨by rw [decide_eq_false HN.out]; rfl, below_drewN (below_drewN (Below.refl _ _) _) _⟩
    · have HE := Lib.hid (ctake_eq_all l m k HL.out (by omega) HK.out)
      go_wp2_with fail
      go_ret
      exact ⟨by rw [decide_eq_true HE.out]; rfl, below_drewN (Below.refl _ _) _⟩
end Go.Proofs.Ytnjnalehfhfefaa
/- Slices of texts. -/
namespace Go.Proofs.Ytnjnalehfhfefaa
open Go.RowKit
set_option linter.unusedVariables false

def tv (l : List (List UInt8)) : List Value := l.map fun x => Value.string (str x)
theorem tv_length (l : List (List UInt8)) : (tv l).length = l.length := by simp [tv]
theorem info_str : (Try.prog.info? 9).map (fun i => (i.zero, i.size, i.bytes)) = some (some (.string ByteArray.empty), 1, 16) := by kernel_rfl
/-- a slice's texts, read below block B -/
def Txts (w : World) (B : Nat) (a : Option Addr) (l : List (List UInt8)) : Prop :=
  l ≠ [] → ∃ b off, a = some ⟨b, off, none⟩ ∧ b < B ∧ ∀ i, i < l.length → w.cell? ⟨b, off + i, none⟩ = some (.string (str (l.getD i [])))
theorem Txts.below {w w' : World} {B : Nat} {a : Option Addr} {l : List (List UInt8)} (h : Txts w B a l) (hb : Below B w w') : Txts w' B a l := by
  intro hl
  obtain ⟨b, off, e, hlt, hc⟩ := h hl
  exact ⟨b, off, e, hlt, fun i hi => by rw [hb.cell (p := ⟨b, off + i, none⟩) hlt]; exact hc i hi⟩
theorem Txts.mono {w : World} {B B' : Nat} {a : Option Addr} {l : List (List UInt8)} (h : Txts w B a l) (hB : B ≤ B') : Txts w B' a l := by
  intro hl
  obtain ⟨b, off, e, hlt, hc⟩ := h hl
  exact ⟨b, off, e, by omega, hc⟩
theorem Txts.nil (w : World) (B : Nat) (a : Option Addr) : Txts w B a [] := fun h => absurd rfl h
theorem Txts.next {w w' : World} {a : Option Addr} {l : List (List UInt8)} (h : Txts w w.heap.size a l) (hb : Below w.heap.size w w') : Txts w' w'.heap.size a l := (h.below hb).mono hb.size

/-- a slice of texts that the call made -/
def TRow (B : Nat) (xs : List (List UInt8)) (v : Value) (wr : World) : Prop := wr.ownsRow B 9 1 v xs.length (tv xs)
theorem tRow_txts {B : Nat} {xs : List (List UInt8)} {v : Value} {w : World} (h : TRow B xs v w) : ∃ a c, v = .slice a xs.length c ∧ Txts w w.heap.size a xs ∧ xs.length ≤ c ∧ c ≤ maxLen := by
  unfold TRow at h
  rcases h.2 with ⟨rfl, h0⟩ | ⟨g, cap, cur, rfl, e2, e3, e4, e5, e6⟩
  · refine ⟨none, 0, by rw [h0], ?_, by omega, by unfold maxLen; omega⟩
    rw [List.eq_nil_of_length_eq_zero h0]; exact Txts.nil _ _ _
  · refine ⟨some ⟨g, 0, none⟩, cap, rfl, fun _ => ⟨g, 0, rfl, lt_of_block e3, fun i hi => ?_⟩, e4, e5⟩
    rw [Nat.zero_add, h.cellAt i (by omega)]
    simp [tv, List.getElem?_eq_getElem hi]
theorem TRow.below {B : Nat} {xs : List (List UInt8)} {v : Value} {w w' : World} (h : TRow B xs v w) (hb : Below w.heap.size w w') : TRow B xs v w' := row_below h hb
theorem TRow.alloc_ {B : Nat} {xs : List (List UInt8)} {v : Value} {w : World} (h : TRow B xs v w) (o : Obj) : TRow B xs v (w.alloc o) := World.ownsRow.alloc h o
theorem tnilRow (B : Nat) (w : World) : TRow B [] (.slice none 0 0) w := ⟨rfl, Or.inl ⟨rfl, rfl⟩⟩
theorem TRow.form {B : Nat} {xs : List (List UInt8)} {a : Option Addr} {n c : Nat} {w : World} (h : TRow B xs (.slice a n c) w) (hne : xs ≠ []) : ∃ g, a = some ⟨g, 0, none⟩ ∧ n = xs.length ∧ B ≤ g ∧ g < w.heap.size := by
  unfold TRow at h
  rcases h.2 with ⟨he, h0⟩ | ⟨g, cap, cur, he, e2, e3, e4⟩
  · exact absurd (List.eq_nil_of_length_eq_zero h0) hne
  · injection he with h1 h2 h3
    exact ⟨g, h1, h2, e2, lt_of_block e3⟩
theorem TRow.cell {B : Nat} {xs : List (List UInt8)} {g n c : Nat} {w : World} (h : TRow B xs (.slice (some ⟨g, 0, none⟩) n c) w) (i : Nat) (hi : i < xs.length) : w.cell? ⟨g, i, none⟩ = some (.string (str (xs.getD i []))) := by
  obtain ⟨a', c', e, _⟩ := tRow_txts h
  injection e with e1 e2 e3
  subst e2
  unfold TRow at h
  rw [h.cellAt i (by omega)]
  simp [tv, List.getElem?_eq_getElem hi]
theorem TRow.free {B : Nat} {xs : List (List UInt8)} {g n c : Nat} {w : World} (h : TRow B xs (.slice (some ⟨g, 0, none⟩) n c) w) (i : Nat) : w.frozen? ⟨g, i, none⟩ = false := by
  obtain ⟨a', c', e, _⟩ := tRow_txts h
  injection e with e1 e2 e3
  subst e2
  exact h.frozenAt i

/-- append of one text onto a row of the call's own -/
theorem wpList_append_onet {w : World} {ops : Array Oper} {rest : List Oper} {o : Oper} {a : Act} {Q : Exit → Act → World → Prop} (hgd : o.guard = none) (s x : Operand)
    (ho : o.op = .call { callee := .builtin .append, args := #[s, x], argTypes := #[49, 49] }) (base : Nat)
    (v : Value) (xs : List (List UInt8)) (hs : a.eval s = v) (hown : TRow base xs v w)
    (g : Nat) (y : List UInt8) (hx : a.eval x = .slice (some ⟨g, 0, none⟩) 1 1) (hc : w.cell? ⟨g, 0, none⟩ = some (.string (str y)))
    (hbytes : (xs.length + 1) * 16 ≤ 140737488355328) (hbase : base ≤ w.heap.size)
    (h : ∀ v' w', TRow base (xs ++ [y]) v' w' → Below base w w' → wpList Try.prog ops Q rest (a.put o.dst v') w') : wpList Try.prog ops Q (o :: rest) a w := by
  obtain ⟨i, hi, hz0, hz1, hz2⟩ := info_parts info_str
  refine wpList_append_own w hgd s x 49 ho base 9 i (.string ByteArray.empty) 1 16 Try.underlying49 hi hz0 hz1 hz2 rfl (by decide) v xs.length (tv xs) hs hown ⟨g, 0, none⟩ 1 1 [.string (str y)] hx rfl ?_ ?_ (by unfold maxLen; omega) hbytes hbase (fun v' w' h1 h2 _ => h v' w' ?_ ?_)
  · intro j u hj
    match j, hj with
    | 0, hj => simp at hj; subst hj; simpa [Addr.add] using hc
  · intro u hu; simp at hu; subst hu; rfl
  · unfold TRow; rw [List.length_append]; simpa [tv] using h1
  · exact (Below.refl base w).grown h2 hbase (fun k hk => (hown.lt k hk).1)

theorem tgetD_mem (l : List (List UInt8)) (k : Nat) (hk : k < l.length) : l.getD k [] ∈ l := by
  simp only [List.getD, List.getElem?_eq_getElem hk, Option.getD_some]
  exact List.getElem_mem hk
theorem ttake_succ (l : List (List UInt8)) (k : Nat) (h : k < l.length) : l.take (k + 1) = l.take k ++ [l.getD k []] := by
  rw [List.take_succ_eq_append_getElem h]; simp [List.getD, List.getElem?_eq_getElem h]
end Go.Proofs.Ytnjnalehfhfefaa
/- From what the form hands over to what the walks ask for: slices of texts. -/
namespace Go.Proofs.Ytnjnalehfhfefaa
open Go.ChangeShapes Go.WideShapes Go.ChangeAt Go.RowKit Go.Deep
set_option linter.unusedVariables false

section
variable {H : Type} {enc : TypeId × Value → H} {w : World} {base : Nat} {spare : Nat → Bool} {held : Bool}

/-- a slice of texts that came in -/
theorem open_texts {t e : TypeId} {fuel : Nat} {a : Option Addr} {len cap : Nat} {x : DataW H × List MemPlace} (ht : Try.prog.underlying t = some (.slice e)) (he : Try.prog.underlying e = some .string) (hc : Try.prog.cellsOf e = 1)
    (h : DataW.trod enc Try.prog w base spare held fuel t (Value.slice a len cap).cells.toList = some x) :
    ∃ l : List (List UInt8), l.length = len ∧ len ≤ maxLen ∧ (len ≤ cap ∧ cap ≤ maxLen ∧ (a = none → cap = 0)) ∧ (∀ x ∈ l, x.length ≤ maxLen) ∧ Txts w w.heap.size a l ∧
      (x.1 = .nil ∧ len = 0 ∨ ∃ r, x.1 = .slice (l.map fun x => .lit (.string x)) r) := by
  rcases open_strs ht he hc h with ⟨hcs, hx⟩ | ⟨ad, l, c, m, Sx, hcs, _, hl, hm, hmm, hx, hcell⟩
  · simp [Value.cells] at hcs
    obtain ⟨rfl, rfl, rfl⟩ := hcs
    exact ⟨[], rfl, Nat.zero_le _, ⟨Nat.le_refl _, Nat.zero_le _, fun _ => rfl⟩, by simp, Txts.nil _ _ _, Or.inl ⟨by rw [hx], rfl⟩⟩
  · simp [Value.cells] at hcs
    obtain ⟨rfl, rfl, rfl⟩ := hcs
    have hlm : len ≤ m := by rw [hmm]; split <;> omega
    refine ⟨(List.range len).map fun i => (Sx i).data.toList, by simp, by omega, ⟨hl, hm, fun h => by cases h⟩, ?_, ?_, Or.inr ⟨_, by rw [hx, List.map_map]; rfl⟩⟩
    · intro y hy
      obtain ⟨i, hi, rfl⟩ := List.mem_map.1 hy
      rw [len_data]
      exact (hcell i (by have := List.mem_range.1 hi; omega)).2
    · intro hne
      have hpos : 0 < len := by
        rcases Nat.eq_zero_or_pos len with h0 | h0
        · subst h0; exact absurd rfl hne
        · exact h0
      obtain ⟨b, off, spot⟩ := ad
      have hspot : spot = none := by simpa [Addr.add] using World.cell?_spot (hcell 0 (by omega)).1
      subst hspot
      have h0 : w.cell? ⟨b, off + 0, none⟩ = some (.string (Sx 0)) := (hcell 0 (by omega)).1
      refine ⟨b, off, rfl, lt_of_cell h0, fun i hi => ?_⟩
      have hi' : i < len := by simpa using hi
      have e : ((List.range len).map fun i => (Sx i).data.toList).getD i [] = (Sx i).data.toList := by
        simp [List.getD, List.getElem?_range hi']
      rw [e]
      have hs : str (Sx i).data.toList = Sx i := by simp [str]
      have hadd : (⟨b, off, none⟩ : Addr).add i = ⟨b, off + i, none⟩ := by unfold Addr.add; split <;> simp_all
      rw [hs, ← hadd]
      exact (hcell i (by omega)).1
end

theorem bulk_texts {H : Type} {d : DataW H} {l : List (List UInt8)} {n : Nat} (hl : l.length = n) (h : d = .nil ∧ n = 0 ∨ ∃ r, d = .slice (l.map fun x => .lit (.string x)) r) : n + 1 ≤ Rows.uptoBulk d := by
  rcases h with ⟨rfl, rfl⟩ | ⟨r, rfl⟩
  · simp [Rows.uptoBulk]
  · have := bulk_length (l.map fun x => DataW.lit (H := H) (.string x))
    simp only [List.length_map] at this
    simp only [Rows.uptoBulk]
    omega
end Go.Proofs.Ytnjnalehfhfefaa
/- Words for slices of marks. -/
namespace Go.Proofs.Ytnjnalehfhfefaa
open Go.RowKit
set_option linter.unusedVariables false

/-- a slice's marks, read below block B -/
def Bools (w : World) (B : Nat) (a : Option Addr) (l : List Bool) : Prop :=
  l ≠ [] → ∃ b off, a = some ⟨b, off, none⟩ ∧ b < B ∧ ∀ i, i < l.length → w.cell? ⟨b, off + i, none⟩ = some (.bool (l.getD i false))

theorem Bools.below {w w' : World} {B : Nat} {a : Option Addr} {l : List Bool} (h : Bools w B a l) (hb : Below B w w') : Bools w' B a l := by
  intro hl
  obtain ⟨b, off, e, hlt, hc⟩ := h hl
  exact ⟨b, off, e, hlt, fun i hi => by rw [hb.cell (p := ⟨b, off + i, none⟩) hlt]; exact hc i hi⟩
theorem Bools.mono {w : World} {B B' : Nat} {a : Option Addr} {l : List Bool} (h : Bools w B a l) (hB : B ≤ B') : Bools w B' a l := by
  intro hl
  obtain ⟨b, off, e, hlt, hc⟩ := h hl
  exact ⟨b, off, e, by omega, hc⟩
theorem Bools.nil (w : World) (B : Nat) (a : Option Addr) : Bools w B a [] := fun h => absurd rfl h
theorem Bools.next {w w' : World} {a : Option Addr} {l : List Bool} (h : Bools w w.heap.size a l) (hb : Below w.heap.size w w') : Bools w' w'.heap.size a l := (h.below hb).mono hb.size
theorem Bools.take {w : World} {B : Nat} {a : Option Addr} {l : List Bool} (h : Bools w B a l) (k : Nat) : Bools w B a (l.take k) := by
  intro hl
  obtain ⟨b, off, e, hlt, hc⟩ := h (by intro e; rw [e] at hl; simp at hl)
  refine ⟨b, off, e, hlt, fun i hi => ?_⟩
  have hi' : i < l.length := by simp only [List.length_take] at hi; omega
  have hk : i < k := by simp only [List.length_take] at hi; omega
  rw [hc i hi']; simp [List.getD, List.getElem?_take_of_lt hk]

def mv (l : List Bool) : List Value := l.map Value.bool
theorem mv_length (l : List Bool) : (mv l).length = l.length := by simp [mv]
theorem info_bool : (Try.prog.info? 4).map (fun i => (i.zero, i.size, i.bytes)) = some (some (.bool false), 1, 1) := by kernel_rfl

/-- a slice of marks that the call made -/
def MarkRow (B : Nat) (xs : List Bool) (v : Value) (wr : World) : Prop := wr.ownsRow B 4 1 v xs.length (mv xs)

theorem markRow_bools {B : Nat} {xs : List Bool} {v : Value} {w : World} (h : MarkRow B xs v w) : ∃ a c, v = .slice a xs.length c ∧ Bools w w.heap.size a xs := by
  unfold MarkRow at h
  rcases h.2 with ⟨rfl, h0⟩ | ⟨g, cap, cur, rfl, e2, e3, e4⟩
  · refine ⟨none, 0, by rw [h0], ?_⟩
    rw [List.eq_nil_of_length_eq_zero h0]; exact Bools.nil _ _ _
  · refine ⟨some ⟨g, 0, none⟩, cap, rfl, fun _ => ⟨g, 0, rfl, lt_of_block e3, fun i hi => ?_⟩⟩
    rw [Nat.zero_add, h.cellAt i (by omega)]
    simp [mv, List.getElem?_eq_getElem hi]

/-- a block of marks, known whole -/
def MBlk (w : World) (g : Nat) (l : List Bool) : Prop := w.heap[g]? = some (.cells (mv l).toArray 4 (0, 0))
theorem MBlk.cell {w : World} {g : Nat} {l : List Bool} (h : MBlk w g l) (i : Nat) (hi : i < l.length) : w.cell? ⟨g, i, none⟩ = some (.bool (l.getD i false)) := by
  unfold MBlk at h
  simp [World.cell?, h, mv, List.getElem?_eq_getElem hi]
theorem MBlk.free {w : World} {g : Nat} {l : List Bool} (h : MBlk w g l) (i : Nat) : w.frozen? ⟨g, i, none⟩ = false := by
  unfold MBlk at h
  simp [World.frozen?, h]
theorem MBlk.lt {w : World} {g : Nat} {l : List Bool} (h : MBlk w g l) : g < w.heap.size := lt_of_block h
theorem MBlk.put {w : World} {g : Nat} {l : List Bool} (h : MBlk w g l) (i : Nat) (x : Bool) : MBlk (w.setCell ⟨g, i, none⟩ (.bool x)) g (l.set i x) := by
  unfold MBlk at *
  simp [World.setCell, Array.getElem?_modify, h, mv, List.map_set]
theorem MBlk.other {w : World} {g g' : Nat} {l : List Bool} (h : MBlk w g l) (i : Nat) (x : Value) (hne : g' ≠ g) : MBlk (w.setCell ⟨g', i, none⟩ x) g l := by
  unfold MBlk at *
  simp [World.setCell, Array.getElem?_modify, h, hne]
theorem MBlk.below {w w' : World} {g : Nat} {l : List Bool} (h : MBlk w g l) (hb : Below w.heap.size w w') : MBlk w' g l := (hb.block g h.lt).trans h
theorem MBlk.bools {w : World} {g : Nat} {l : List Bool} (h : MBlk w g l) : Bools w w.heap.size (some ⟨g, 0, none⟩) l := by
  intro _
  exact ⟨g, 0, rfl, h.lt, fun i hi => by rw [Nat.zero_add]; exact h.cell i hi⟩

theorem made_mblk {w' : World} {g n B' : Nat} (h : w'.ownsRow B' 4 1 (.slice (some ⟨g, 0, none⟩) n n) n (madeCells (Value.bool false).cells (n * 1)).toList) : MBlk w' g (List.replicate n false) := by
  rcases h.2 with ⟨he, _⟩ | ⟨g', cap, cur, he, _, hh, _, _, hs, ht⟩
  · cases he
  · injection he with h1 h2 h3
    injection h1 with h1
    injection h1 with h1
    subst h1 h3
    unfold MBlk
    rw [hh]
    have e : cur = (mv (List.replicate n false)).toArray := by
      apply Array.toList_inj.mp
      rw [List.take_of_length_le (by rw [Array.length_toList, hs]; omega)] at ht
      rw [ht]
      apply List.ext_getElem
      · simp [madeCells, mv]
      · intro i h1 h2
        simp [madeCells, mv, Value.cells, Nat.mod_one]
    rw [e]

def MarkPost (r : List Bool × Nat) (w : World) (e : Ending) (w' : World) : Prop :=
  ∃ a c, e = .returned (.tuple #[.slice a r.1.length c, .int .i64 r.2]) ∧ Bools w' w'.heap.size a r.1 ∧ Below w.heap.size w w'

theorem bools_lit (w : World) (l : List Bool) : Bools (w.alloc (.cells (mv l).toArray 4)) (w.alloc (.cells (mv l).toArray 4)).heap.size (some ⟨w.heap.size, 0, none⟩) l := by
  intro _
  refine ⟨w.heap.size, 0, rfl, by simp, fun i hi => ?_⟩
  rw [Nat.zero_add, World.cell?_alloc_new]
  simp [mv, List.getElem?_eq_getElem hi]
end Go.Proofs.Ytnjnalehfhfefaa
/- Out of CW4: CRow.put, crow_len, CRow.stores, cv_rep, made_crow. -/
namespace Go.Proofs.Ytnjnalehfhfefaa
open Go.RowKit
set_option linter.unusedVariables false

/-- three stores of a row's cell -/
theorem CRow.put {B : Nat} {xs : List C.Cl} {g n c : Nat} {w : World} (h : CRow B xs (.slice (some ⟨g, 0, none⟩) n c) w) (i : Nat) (x : C.Cl) (hi : i < xs.length) :
    CRow B (xs.set i x) (.slice (some ⟨g, 0, none⟩) n c) (((w.setCell ⟨g, i * 3, none⟩ (.int .i64 x.kind)).setCell ⟨g, i * 3 + 1, none⟩ (.int .u64 (x.num : Int))).setCell ⟨g, i * 3 + 2, none⟩ (.string (str x.txt))) := by
  have hn : n = xs.length := by
    obtain ⟨a', c', e, _⟩ := cRow_cls h
    injection e
  subst hn
  unfold CRow at *
  have := (((h.stored (i * 3) (.int .i64 x.kind)).1.stored (i * 3 + 1) (.int .u64 (x.num : Int))).1.stored (i * 3 + 2) (.string (str x.txt))).1
  rw [cv_set xs i x hi] at this
  rw [List.length_set]; exact this
theorem crow_len {B : Nat} {xs : List C.Cl} {a : Option Addr} {n c : Nat} {w : World} (h : CRow B xs (.slice a n c) w) : n = xs.length := by
  obtain ⟨a', c', e, _⟩ := cRow_cls h
  injection e
/-- what the three stores need -/
theorem CRow.stores {B : Nat} {xs : List C.Cl} {g n c : Nat} {w : World} (h : CRow B xs (.slice (some ⟨g, 0, none⟩) n c) w) (i : Nat) (u v : Value) (hi : i < xs.length) :
    (∃ a, w.cell? ⟨g, i * 3, none⟩ = some a) ∧ (∃ a, (w.setCell ⟨g, i * 3, none⟩ u).cell? ⟨g, i * 3 + 1, none⟩ = some a) ∧ (∃ a, ((w.setCell ⟨g, i * 3, none⟩ u).setCell ⟨g, i * 3 + 1, none⟩ v).cell? ⟨g, i * 3 + 2, none⟩ = some a) ∧
    w.frozen? ⟨g, i * 3, none⟩ = false ∧ (w.setCell ⟨g, i * 3, none⟩ u).frozen? ⟨g, i * 3 + 1, none⟩ = false ∧ ((w.setCell ⟨g, i * 3, none⟩ u).setCell ⟨g, i * 3 + 1, none⟩ v).frozen? ⟨g, i * 3 + 2, none⟩ = false := by
  have hn := crow_len h
  subst hn
  unfold CRow at h
  have h2 := (h.stored (i * 3) u).1
  have h3 := (h2.stored (i * 3 + 1) v).1
  have hl := cv_length xs
  refine ⟨?_, ?_, ?_, h.frozenAt _, h2.frozenAt _, h3.frozenAt _⟩
  · rw [h.cellAt (i * 3) (by omega)]; exact ⟨_, List.getElem?_eq_getElem (by omega)⟩
  · rw [h2.cellAt (i * 3 + 1) (by omega)]; exact ⟨_, List.getElem?_eq_getElem (by simp; omega)⟩
  · rw [h3.cellAt (i * 3 + 2) (by omega)]; exact ⟨_, List.getElem?_eq_getElem (by simp; omega)⟩
theorem cv_rep (n : Nat) : cv (List.replicate n C.null) = (madeCells (Value.agg #[.int .i64 0, .int .u64 0, .string ByteArray.empty]).cells (n * 3)).toList := by
  apply List.ext_getElem?
  intro i
  by_cases hi : i < n * 3
  · have h3 : i % 3 = 0 ∨ i % 3 = 1 ∨ i % 3 = 2 := by omega
    have hk : i / 3 < n := by omega
    obtain ⟨g0, g1, g2⟩ := cv_get (List.replicate n C.null) (i / 3) (by simpa using hk)
    have e : (List.replicate n C.null).getD (i / 3) C.null = C.null := by simp [List.getD, hk]
    rw [e] at g0 g1 g2
    have hz : (Value.agg #[.int .i64 0, .int .u64 0, .string ByteArray.empty]).cells = #[.int .i64 0, .int .u64 0, .string ByteArray.empty] := by simp [Value.cells]
    rw [hz]
    rcases h3 with h | h | h
    · rw [show i / 3 * 3 = i by omega] at g0
      rw [g0]; simp [madeCells, hi, h]; rfl
    · rw [show i / 3 * 3 + 1 = i by omega] at g1
      rw [g1]; simp [madeCells, hi, h]; rfl
    · rw [show i / 3 * 3 + 2 = i by omega] at g2
      rw [g2]; simp [madeCells, hi, h]; rfl
  · rw [List.getElem?_eq_none (by rw [cv_length]; simp; omega), List.getElem?_eq_none (by simp [madeCells]; omega)]
theorem made_crow {w' : World} {g n B' : Nat} (h : w'.ownsRow B' 30 3 (.slice (some ⟨g, 0, none⟩) n n) n (madeCells (Value.agg #[.int .i64 0, .int .u64 0, .string ByteArray.empty]).cells (n * 3)).toList) : CRow B' (List.replicate n C.null) (.slice (some ⟨g, 0, none⟩) n n) w' := by
  unfold CRow
  rw [List.length_replicate, cv_rep]; exact h
end Go.Proofs.Ytnjnalehfhfefaa
/- The library contract math/bits.Mul64 at this program, laid by the shelf, in plain declarations. -/
namespace Go.Proofs
open Go.Shelf
def Try.lays264_ren : Go.Shelf.Ren := ⟨fun | 264 => 99 | n => n, fun | 53 => 28 | 46 => 104 | n => n, fun | n => n⟩
theorem Try.lays264 : Go.Proofs.Lays.n264 Try.prog Try.lays264_ren := {
  mixed := by kernel_rfl
  f264 := Try.func99.trans (congrArg some (by kernel_rfl))
  t46 := Try.underlying104
  a46 := Try.isAgg104
  z46 := Try.sizeOf104
  v46 := Try.zeroValue104
  t53 := Try.underlying28
  a53 := Try.isAgg28
  z53 := Try.sizeOf28
  v53 := Try.zeroValue28 }
theorem Try.bits_Mul64 (x y : Nat) (hx : x < 18446744073709551616) (hy : y < 18446744073709551616) (w : World) :
    Calls Try.prog 99 #[.int .u64 x, .int .u64 y] w fun e w' => e = .returned (.tuple #[.int .u64 ((x * y / 18446744073709551616 : Nat) : Int), .int .u64 ((x * y % 18446744073709551616 : Nat) : Int)]) ∧ w' = w := Any.bits_Mul64 Try.lays264 x y hx hy w
end Go.Proofs
