/- The walk of hypostyleref.SetOf. -/
import Derived.Test.YtecfknolpnjokaaOR2
import Derived.Test.YtecfknolpnjokaaOR6
namespace Go.Proofs.Ytecfknolpnjokaa
open Go.RowKit
set_option linter.unusedVariables false

set_option maxHeartbeats 4000000 in
set_option maxRecDepth 100000 in
theorem set_leaf (b off n cp : Nat) (c : O.Cd) (a : Option Addr) (scap : Nat) (ss : List S.St) (af : Option Addr) (fcap : Nat) (fs : List Bl.F) (w : World) (hlt : b < w.heap.size) (hn1 : 1 ≤ n) (hn : n ≤ maxLen) (hc : at5 w b (off + (n - 1) * 5) c) (hcc : cOk c.c) (htl : c.c.txt.length + 16 ≤ maxLen) (hop : 1 ≤ c.op ∧ c.op ≤ 4) (hcol : 0 ≤ c.col ∧ c.col < ss.length)
    (hlen : fs.length = ss.length) (hm : ss.length ≤ maxLen) (hx : ∀ x ∈ ss, sOk x) (hu : Sts w w.heap.size a ss) (hfx : ∀ x ∈ fs, Bl.fOk x) (hfu : Fls w w.heap.size af fs) :
    Calls Try.prog 44 #[.slice (some ⟨b, off, none⟩) n cp, .slice a ss.length scap, .slice af fs.length fcap] w (CErrPost (O.leafS c (ss.getD c.col.toNat S.zero) (fs.getD c.col.toNat Bl.none_)) w) := by
  obtain ⟨op, col, ⟨k, m, t⟩⟩ := c
  simp only at hop hcol hcc htl ⊢
  obtain ⟨j, rfl⟩ : ∃ j : Nat, col = j := ⟨col.toNat, by omega⟩
  rw [Int.toNat_natCast]
  have hj : j < ss.length := by omega
  have hjf : j < fs.length := by omega
  obtain ⟨sb, soff, rfl, hslt, hcell⟩ := hu (by intro e; rw [e] at hj; simp at hj)
  obtain ⟨r0, r1, r2, r3, r4, r5, r6, r7⟩ := hcell j hj
  obtain ⟨fb, foff, rfl, hflt, hfcell⟩ := hfu (by intro e; rw [e] at hjf; simp at hjf)
  obtain ⟨s0, s1, s2, s3⟩ := hfcell j hjf
  have hfo := hfx (fs.getD j Bl.none_) (by simp only [List.getD, List.getElem?_eq_getElem hjf, Option.getD_some]; exact List.getElem_mem hjf)
  have hso := hx (ss.getD j S.zero) (by simp only [List.getD, List.getElem?_eq_getElem hj, Option.getD_some]; exact List.getElem_mem hj)
  generalize ss.getD j S.zero = x at *
  generalize fs.getD j Bl.none_ = f at *
  have hC := fun W => leafSet_any ⟨op, j, ⟨k, m, t⟩⟩ x f W hcc hfo hop htl hso
  unfold dag sag fag qv at hC
  simp only at hC
  have HC := Lib.hid (fun W => show Calls Try.prog 63 #[.agg #[.int .i64 op, .int .i64 j, .int .i64 k, .int .u64 (m : Int), .string (str t)], .agg #[.int .i64 x.rows, .int .i64 x.nulls, .int .i64 x.least.kind, .int .u64 (x.least.num : Int), .string (str x.least.txt), .int .i64 x.most.kind, .int .u64 (x.most.num : Int), .string (str x.most.txt)], .agg #[.int .u64 (f 0 : Nat), .int .u64 (f 1 : Nat), .int .u64 (f 2 : Nat), .int .u64 (f 3 : Nat)]] W (fun e w' => e = .returned (.int .i64 (O.leafS ⟨op, j, ⟨k, m, t⟩⟩ x f : Nat)) ∧ Below W.heap.size W w') from hC W)
  generalize O.leafS ⟨op, j, ⟨k, m, t⟩⟩ x f = r at *
  obtain ⟨c0, c1, c2, c3, c4⟩ := hc
  simp only at c0 c1 c2 c3 c4
  obtain ⟨l, hl⟩ : ∃ l, l = n - 1 := ⟨_, rfl⟩
  rw [← hl] at c0 c1 c2 c3 c4
  unfold maxLen at hn hm
  have hw1 : IntKind.i64.wrap ((n : Int) - 1) = (l : Int) := by rw [IntKind.wrap_i64]; omega
  have hlI : (l : Int) < (n : Int) := by omega
  have hjI : (j : Int) < (ss.length : Int) := by omega
  have hjF : (j : Int) < (fs.length : Int) := by omega
  generalize str t = X at *
  have hp := pen_new w (.int .i64 op) (.int .i64 j) (.int .i64 k) (.int .u64 (m : Int)) (.string X)
  have hb0 : Below w.heap.size w (w.alloc (.cells #[.int .i64 op, .int .i64 j, .int .i64 k, .int .u64 (m : Int), .string X] 51)) := (Below.refl _ _).alloc (Nat.le_refl _) _
  have z0 := (hb0.cell (p := ⟨sb, soff + j * 8, none⟩) hslt).trans r0
  have z1 := (hb0.cell (p := ⟨sb, soff + j * 8 + 1, none⟩) hslt).trans r1
  have z2 := (hb0.cell (p := ⟨sb, soff + j * 8 + 2, none⟩) hslt).trans r2
  have z3 := (hb0.cell (p := ⟨sb, soff + j * 8 + 3, none⟩) hslt).trans r3
  have z4 := (hb0.cell (p := ⟨sb, soff + j * 8 + 4, none⟩) hslt).trans r4
  have z5 := (hb0.cell (p := ⟨sb, soff + j * 8 + 5, none⟩) hslt).trans r5
  have z6 := (hb0.cell (p := ⟨sb, soff + j * 8 + 6, none⟩) hslt).trans r6
  have z7 := (hb0.cell (p := ⟨sb, soff + j * 8 + 7, none⟩) hslt).trans r7
  have y0 := (hb0.cell (p := ⟨fb, foff + j * 4, none⟩) hflt).trans s0
  have y1 := (hb0.cell (p := ⟨fb, foff + j * 4 + 1, none⟩) hflt).trans s1
  have y2 := (hb0.cell (p := ⟨fb, foff + j * 4 + 2, none⟩) hflt).trans s2
  have y3 := (hb0.cell (p := ⟨fb, foff + j * 4 + 3, none⟩) hflt).trans s3
  have hsz : w.heap.size < (w.alloc (.cells #[.int .i64 op, .int .i64 j, .int .i64 k, .int .u64 (m : Int), .string X] 51)).heap.size := by simp
  have g4 : decide (op ≤ 4) = true := decide_eq_true hop.2
  clear hcell hfcell hC hfx hfo hso hx r0 r1 r2 r3 r4 r5 r6 r7 s0 s1 s2 s3 hu hfu hl hcol htl hcc
  go_enter Try.func44, Try.ntmps44
  go_wp2_with fail
  generalize w.alloc (.cells #[.int .i64 op, .int .i64 j, .int .i64 k, .int .u64 (m : Int), .string X] 51) = W0 at *
  obtain ⟨p0, p1, p2, p3, p4⟩ := wb_pen hp
  have l1 : sb < W0.heap.size := by omega
  have l2 : fb < W0.heap.size := by omega
  have f0 := fun p : WB W0 => p.cell l1 z0
  have f1 := fun p : WB W0 => p.cell l1 z1
  have f2 := fun p : WB W0 => p.cell l1 z2
  have f3 := fun p : WB W0 => p.cell l1 z3
  have f4 := fun p : WB W0 => p.cell l1 z4
  have f5 := fun p : WB W0 => p.cell l1 z5
  have f6 := fun p : WB W0 => p.cell l1 z6
  have f7 := fun p : WB W0 => p.cell l1 z7
  have g0 := fun p : WB W0 => p.cell l2 y0
  have g1 := fun p : WB W0 => p.cell l2 y1
  have g2 := fun p : WB W0 => p.cell l2 y2
  have g3 := fun p : WB W0 => p.cell l2 y3
  clear hp z0 z1 z2 z3 z4 z5 z6 z7 y0 y1 y2 y3 l1 l2 hsz c0 c1 c2 c3 c4
  refine wp_region_wb (by kernel_rfl) (by kernel_rfl) ?_
  repeat (quiet_step ((go_at_call 63; refine calls_wb (v := .int .i64 (r : Int)) ?_; with_reducible exact HC.out _)))
  refine wpQuiet_nil ?_
  rintro _ ⟨p, rfl⟩
  have hp := p.below
  clear p0 p1 p2 p3 p4 f0 f1 f2 f3 f4 f5 f6 f7 g0 g1 g2 g3
  go_wp2_with fail
  go_ret
  exact ⟨rfl, below_then hb0 hp⟩

set_option maxHeartbeats 4000000 in
set_option maxRecDepth 100000 in
theorem set_one (b off n cp : Nat) (c : O.Cd) (rv rf : Value) (r : Nat) (w : World) (hn1 : 1 ≤ n) (hn : n ≤ maxLen) (hcp : n ≤ cp) (hc : at5 w b (off + (n - 1) * 5) c) (hop : c.op = 7) (hr : r < 8)
    (HR : ∀ W, Below w.heap.size w W → Calls Try.prog 44 #[.slice (some ⟨b, off, none⟩) (n - 1) cp, rv, rf] W (CErrPost r W)) :
    Calls Try.prog 44 #[.slice (some ⟨b, off, none⟩) n cp, rv, rf] w (CErrPost (O.nt r) w) := by
  obtain ⟨op, col, ⟨k, m, t⟩⟩ := c
  simp only at hop
  subst hop
  obtain ⟨c0, c1, c2, c3, c4⟩ := hc
  simp only at c0 c1 c2 c3 c4
  obtain ⟨l, hl⟩ : ∃ l, l = n - 1 := ⟨_, rfl⟩
  rw [← hl] at c0 c1 c2 c3 c4 HR
  unfold maxLen at hn
  have hw1 : IntKind.i64.wrap ((n : Int) - 1) = (l : Int) := by rw [IntKind.wrap_i64]; omega
  have hlI : (l : Int) < (n : Int) := by omega
  have hlL : (l : Int) ≤ (n : Int) := by omega
  have hlC : (l : Int) ≤ (cp : Int) := by omega
  have hlN : l ≤ cp := by omega
  have hb0 : Below w.heap.size w (w.alloc (.cells #[.int .i64 7, .int .i64 col, .int .i64 k, .int .u64 (m : Int), .string (str t)] 51)) := (Below.refl _ _).alloc (Nat.le_refl _) _
  have HC := Lib.hid (HR _ hb0)
  have H2 := Lib.hid (fun W => hasMay_any r 2 W hr (by omega))
  have H1 := Lib.hid (fun W => hasMay_any r 1 W hr (by omega))
  have H0 := Lib.hid (fun W => hasMay_any r 0 W hr (by omega))
  have HM := Lib.hid (fun W => maySet_any (O.has r 2) (O.has r 1) (O.has r 0) W)
  have HRE := Lib.hid (show O.nt r = O.ms (O.has r 2) (O.has r 1) (O.has r 0) from rfl)
  generalize O.nt r = R at *
  generalize O.has r 2 = h2 at *
  generalize O.has r 1 = h1 at *
  generalize O.has r 0 = h0 at *
  generalize str t = X at *
  clear hl HR
  go_enter Try.func44, Try.ntmps44
  go_wp2_with fail
  refine HC.out.mono ?_
  rintro e w1 ⟨rfl, hb1⟩
  go_wp2_with fail
  refine (H2.out _).mono ?_
  rintro e w2 ⟨rfl, rfl⟩
  go_wp2_with fail
  refine (H1.out _).mono ?_
  rintro e w2 ⟨rfl, rfl⟩
  go_wp2_with fail
  refine (H0.out _).mono ?_
  rintro e w2 ⟨rfl, rfl⟩
  go_wp2_with fail
  refine (HM.out _).mono ?_
  rintro e w2 ⟨rfl, rfl⟩
  go_wp2_with fail
  go_ret
  exact ⟨by rw [HRE.out]; rfl, below_then hb0 hb1⟩

set_option maxHeartbeats 4000000 in
set_option maxRecDepth 100000 in
theorem set_two5 (b off n cp k1 : Nat) (c : O.Cd) (rv rf : Value) (x y : Nat) (w : World) (hn1 : 1 ≤ n) (hn : n ≤ maxLen) (hcp : n ≤ cp) (hk1 : k1 ≤ n - 1) (hc : at5 w b (off + (n - 1) * 5) c) (hop : c.op = 5) (hx : x < 8) (hy : y < 8)
    (HB : ∀ W, Below w.heap.size w W → Calls Try.prog 55 #[.slice (some ⟨b, off, none⟩) n cp, .int .i64 ((n - 1 : Nat) : Int)] W (CErrPost k1 W))
    (HX : ∀ W, Below w.heap.size w W → Calls Try.prog 44 #[.slice (some ⟨b, off, none⟩) k1 cp, rv, rf] W (CErrPost x W))
    (HY : ∀ W, Below w.heap.size w W → Calls Try.prog 44 #[.slice (some ⟨b, off + k1 * 5, none⟩) (n - 1 - k1) (cp - k1), rv, rf] W (CErrPost y W)) :
    Calls Try.prog 44 #[.slice (some ⟨b, off, none⟩) n cp, rv, rf] w (CErrPost (O.rj 5 x y 9) w) := by
  obtain ⟨op, col, ⟨k, m, t⟩⟩ := c
  simp only at hop
  subst hop
  obtain ⟨c0, c1, c2, c3, c4⟩ := hc
  simp only at c0 c1 c2 c3 c4
  obtain ⟨l, hl⟩ : ∃ l, l = n - 1 := ⟨_, rfl⟩
  rw [← hl] at c0 c1 c2 c3 c4 HB HY hk1
  unfold maxLen at hn
  have hw1 : IntKind.i64.wrap ((n : Int) - 1) = (l : Int) := by rw [IntKind.wrap_i64]; omega
  have hlI : (l : Int) < (n : Int) := by omega
  have hlC : (l : Int) ≤ (cp : Int) := by omega
  have hkC : (k1 : Int) ≤ (cp : Int) := by omega
  have hkL : (k1 : Int) ≤ (l : Int) := by omega
  have hkN : k1 ≤ cp := by omega
  have hlN : l ≤ cp := by omega
  have hkl : k1 ≤ l := by omega
  have hne : ¬ cp - k1 = 0 := by omega
  have hne2 : ¬ cp = k1 := by omega
  have hne3 : ¬ (cp : Int) - (k1 : Int) = 0 := by omega
  have hne4 : ¬ cp ≤ k1 := by omega
  have hp := pen_new w (.int .i64 5) (.int .i64 col) (.int .i64 k) (.int .u64 (m : Int)) (.string (str t))
  have hb0 : Below w.heap.size w (w.alloc (.cells #[.int .i64 5, .int .i64 col, .int .i64 k, .int .u64 (m : Int), .string (str t)] 51)) := (Below.refl _ _).alloc (Nat.le_refl _) _
  have HB := Lib.hid (HB _ hb0)
  have HXH := Lib.hid (fun k (h : k ≤ 2) W => hasMay_any x k W hx h)
  have HYH := Lib.hid (fun k (h : k ≤ 2) W => hasMay_any y k W hy h)
  have HS := Lib.hid (fun q => show O.rj 5 x y (q + 1) = if O.has x (q / 3) && O.has y (q % 3) && !O.has (O.rj 5 x y q) (O.rt 5 (q / 3) (q % 3)) then O.rj 5 x y q + 2 ^ O.rt 5 (q / 3) (q % 3) else O.rj 5 x y q from rfl)
  have HLT := Lib.hid (fun q (h : q < 10) => (O.rj_lt ⟨x, hx⟩ ⟨y, hy⟩ ⟨q, h⟩).1)
  have hz : O.rj 5 x y 0 = 0 := rfl
  have HRT := Lib.hid (fun k j (hk : k ≤ 2) (hj : j ≤ 2) => O.rt_le 5 k j hk hj)
  have HRTY := Lib.hid (fun k j (h : j < k) => show O.rt 5 k j = j by unfold O.rt; rw [if_pos (Or.inl ⟨rfl, h⟩)])
  have HRTN := Lib.hid (fun k j (h : ¬ (j < k)) => show O.rt 5 k j = k by unfold O.rt; rw [if_neg (by rintro (h0 | h0) <;> omega)])
  simp only at HLT
  generalize O.rj 5 x y = M at *
  generalize O.has x = hxx at *
  generalize O.has y = hyy at *
  have HZ := Lib.hid hz
  generalize str t = X at *
  clear hl hz hx hy
  go_enter Try.func44, Try.ntmps44
  go_wp2_with fail
  refine HB.out.mono ?_
  rintro e w1 ⟨rfl, hb1⟩
  have hb2 := below_then hb0 hb1
  have HXX := Lib.hid (fun p : WB w1 => show Calls Try.prog 44 #[.slice (some ⟨b, off, none⟩) k1 cp, rv, rf] p.w (fun e w' => e = .returned (.int .i64 (x : Int)) ∧ Below p.w.heap.size p.w w') from HX p.w (below_then hb2 p.below))
  have HYY := Lib.hid (fun p : WB w1 => show Calls Try.prog 44 #[.slice (some ⟨b, off + k1 * 5, none⟩) (l - k1) (cp - k1), rv, rf] p.w (fun e w' => e = .returned (.int .i64 (y : Int)) ∧ Below p.w.heap.size p.w w') from HY p.w (below_then hb2 p.below))
  have hpn := hp.next hb1
  clear HX HY hp c0 c1 c2 c3 c4
  go_wp2_with fail
  refine wp_region_wb (by kernel_rfl) (by kernel_rfl) ?_
  repeat (quiet_step (first
    | (go_at_call 44; refine calls_wb (v := .int .i64 (x : Int)) ?_; with_reducible exact HXX.out _)
    | (go_at_call 44; refine calls_wb (v := .int .i64 (y : Int)) ?_; with_reducible exact HYY.out _)))
  refine wpQuiet_nil ?_
  rintro _ ⟨p, rfl⟩
  have hpb := p.below
  obtain ⟨p0, p1, p2, p3, p4⟩ := (hpn.next hpb).all
  have hb3 := below_then hb2 hpb
  obtain ⟨W3, hW3⟩ : ∃ W3, W3 = p.w := ⟨_, rfl⟩
  rw [← hW3] at hb3 p0 ⊢
  clear hW3 hpb hpn HXX HYY p1 p2 p3 p4 hb1 hb2 p
  clear hlI hlC hkC hkL hkN hlN hkl hne hne2 hne3 hne4 hw1 hcp hn hn1
  go_wp2_with fail
  go_loopw [13, 14, 15, 16] (fun o a _ _ wr => ∃ q : Nat, q ≤ 3 ∧ a = .int .i64 q ∧ o = .int .i64 (M (3 * q) : Nat) ∧ wr = W3) (fun _ a _ _ _ => 3 - (intOf a).toNat)
  case atStart => exact ⟨0, by omega, rfl, by rw [Nat.mul_zero, HZ.out]; rfl, rfl⟩
  case round =>
    obtain ⟨q, hq, rfl, rfl, hwr⟩ := hrel
    subst hwr
    by_cases hlt : q < 3
    · have hqI : (q : Int) ≤ 2 := by omega
      have HXq := Lib.hid (HXH.out q (by omega))
      go_wp2_with fail
      go_loopw [13, 15, 16] (fun o bb _ wk => ∃ j : Nat, j ≤ 3 ∧ bb = .int .i64 j ∧ o = .int .i64 (M (3 * q + j) : Nat) ∧ wk = wr) (fun _ bb _ _ => 3 - (intOf bb).toNat)
      case atStart => exact ⟨0, by omega, rfl, rfl, rfl⟩
      case round =>
        obtain ⟨j, hj, rfl, rfl, hwk⟩ := hrel
        subst hwk
        by_cases hlj : j < 3
        · have hjI : (j : Int) ≤ 2 := by omega
          have HYj := Lib.hid (HYH.out j (by omega))
          have hst := HS.out (3 * q + j)
          rw [show (3 * q + j) / 3 = q by omega, show (3 * q + j) % 3 = j by omega] at hst
          have hml := HLT.out (3 * q + j) (by omega)
          have hrt := HRT.out q j (by omega) (by omega)
          have hry := HRTY.out q j
          have hrn := HRTN.out q j
          have HSU := Lib.hid (show M (3 * q + (j + 1)) = _ from hst)
          generalize O.rt 5 q j = r at *
          generalize M (3 * q + j) = acc at *
          have HOH := Lib.hid (fun W => hasMay_any acc r W hml hrt)
          generalize O.has acc r = ho at *
          generalize hxx q = ha at *
          generalize hyy j = hb at *
          clear hst
          obtain ⟨T, hT⟩ : ∃ T, T = 2 ^ r := ⟨_, rfl⟩
          rw [← hT] at HSU
          have hTle : T ≤ 4 := by rw [hT]; exact O.pow_le r hrt
          have hsh : IntKind.i64.wrap (2 ^ r) = (T : Int) := by
            rw [hT]; rcases O.three r hrt with rfl | rfl | rfl <;> rfl
          have hsh2 : IntKind.i64.wrap ((acc : Int) + (T : Int)) = ((acc + T : Nat) : Int) := by rw [IntKind.wrap_i64]; omega
          clear hT
          by_cases hcmp : j < q
          · have hr := hry hcmp
            have g1 : decide ((j : Int) < (q : Int)) = true := decide_eq_true (by omega)
            have g2 : decide (j < q) = true := decide_eq_true hcmp
            clear hry hrn hcmp
            subst hr
            cases ha
            · have HN := Lib.hid (show M (3 * q + (r + 1)) = acc from HSU.out)
              go_wp2_with fail
              refine (HXq.out _).mono ?_
              rintro e w1 ⟨rfl, rfl⟩
              go_wp2_with fail
              exact ⟨⟨r + 1, by omega, by go_num, by rw [HN.out], by first | rfl | trivial⟩, by simp [intOf]; omega⟩
            · cases hb
              · have HN := Lib.hid (show M (3 * q + (r + 1)) = acc from HSU.out)
                go_wp2_with fail
                refine (HXq.out _).mono ?_
                rintro e w1 ⟨rfl, rfl⟩
                go_wp2_with fail
                refine (HYj.out _).mono ?_
                rintro e w1 ⟨rfl, rfl⟩
                go_wp2_with fail
                exact ⟨⟨r + 1, by omega, by go_num, by rw [HN.out], by first | rfl | trivial⟩, by simp [intOf]; omega⟩
              · cases ho
                · have HN := Lib.hid (show M (3 * q + (r + 1)) = acc + T from HSU.out)
                  go_wp2_with fail
                  refine (HXq.out _).mono ?_
                  rintro e w1 ⟨rfl, rfl⟩
                  go_wp2_with fail
                  refine (HYj.out _).mono ?_
                  rintro e w1 ⟨rfl, rfl⟩
                  go_wp2_with fail
                  refine (HOH.out _).mono ?_
                  rintro e w1 ⟨rfl, rfl⟩
                  go_wp2_with fail
                  exact ⟨⟨r + 1, by omega, by go_num, by rw [HN.out]; simp, by first | rfl | trivial⟩, by simp [intOf]; omega⟩
                · have HN := Lib.hid (show M (3 * q + (r + 1)) = acc from HSU.out)
                  go_wp2_with fail
                  refine (HXq.out _).mono ?_
                  rintro e w1 ⟨rfl, rfl⟩
                  go_wp2_with fail
                  refine (HYj.out _).mono ?_
                  rintro e w1 ⟨rfl, rfl⟩
                  go_wp2_with fail
                  refine (HOH.out _).mono ?_
                  rintro e w1 ⟨rfl, rfl⟩
                  go_wp2_with fail
                  exact ⟨⟨r + 1, by omega, by go_num, by rw [HN.out], by first | rfl | trivial⟩, by simp [intOf]; omega⟩
          · have hr := hrn hcmp
            have g1 : decide ((j : Int) < (q : Int)) = false := decide_eq_false (by omega)
            have g2 : decide (j < q) = false := decide_eq_false hcmp
            clear hry hrn hcmp
            subst hr
            cases ha
            · have HN := Lib.hid (show M (3 * r + (j + 1)) = acc from HSU.out)
              go_wp2_with fail
              refine (HXq.out _).mono ?_
              rintro e w1 ⟨rfl, rfl⟩
              go_wp2_with fail
              exact ⟨⟨j + 1, by omega, by go_num, by rw [HN.out], by first | rfl | trivial⟩, by simp [intOf]; omega⟩
            · cases hb
              · have HN := Lib.hid (show M (3 * r + (j + 1)) = acc from HSU.out)
                go_wp2_with fail
                refine (HXq.out _).mono ?_
                rintro e w1 ⟨rfl, rfl⟩
                go_wp2_with fail
                refine (HYj.out _).mono ?_
                rintro e w1 ⟨rfl, rfl⟩
                go_wp2_with fail
                exact ⟨⟨j + 1, by omega, by go_num, by rw [HN.out], by first | rfl | trivial⟩, by simp [intOf]; omega⟩
              · cases ho
                · have HN := Lib.hid (show M (3 * r + (j + 1)) = acc + T from HSU.out)
                  go_wp2_with fail
                  refine (HXq.out _).mono ?_
                  rintro e w1 ⟨rfl, rfl⟩
                  go_wp2_with fail
                  refine (HYj.out _).mono ?_
                  rintro e w1 ⟨rfl, rfl⟩
                  go_wp2_with fail
                  refine (HOH.out _).mono ?_
                  rintro e w1 ⟨rfl, rfl⟩
                  go_wp2_with fail
                  exact ⟨⟨j + 1, by omega, by go_num, by rw [HN.out]; simp, by first | rfl | trivial⟩, by simp [intOf]; omega⟩
                · have HN := Lib.hid (show M (3 * r + (j + 1)) = acc from HSU.out)
                  go_wp2_with fail
                  refine (HXq.out _).mono ?_
                  rintro e w1 ⟨rfl, rfl⟩
                  go_wp2_with fail
                  refine (HYj.out _).mono ?_
                  rintro e w1 ⟨rfl, rfl⟩
                  go_wp2_with fail
                  refine (HOH.out _).mono ?_
                  rintro e w1 ⟨rfl, rfl⟩
                  go_wp2_with fail
                  exact ⟨⟨j + 1, by omega, by go_num, by rw [HN.out], by first | rfl | trivial⟩, by simp [intOf]; omega⟩
        · obtain rfl : j = 3 := by omega
          have h3 : 3 * q + 3 = 3 * (q + 1) := by omega
          rw [h3]
          go_wp2_with fail
          exact ⟨⟨q + 1, by omega, by go_num, rfl, by first | rfl | trivial⟩, by simp [intOf]; omega⟩
    · obtain rfl : q = 3 := by omega
      go_wp2_with fail
      go_ret
      exact ⟨rfl, hb3⟩

set_option maxHeartbeats 4000000 in
set_option maxRecDepth 100000 in
theorem set_two6 (b off n cp k1 : Nat) (c : O.Cd) (rv rf : Value) (x y : Nat) (w : World) (hn1 : 1 ≤ n) (hn : n ≤ maxLen) (hcp : n ≤ cp) (hk1 : k1 ≤ n - 1) (hc : at5 w b (off + (n - 1) * 5) c) (hop : c.op = 6) (hx : x < 8) (hy : y < 8)
    (HB : ∀ W, Below w.heap.size w W → Calls Try.prog 55 #[.slice (some ⟨b, off, none⟩) n cp, .int .i64 ((n - 1 : Nat) : Int)] W (CErrPost k1 W))
    (HX : ∀ W, Below w.heap.size w W → Calls Try.prog 44 #[.slice (some ⟨b, off, none⟩) k1 cp, rv, rf] W (CErrPost x W))
    (HY : ∀ W, Below w.heap.size w W → Calls Try.prog 44 #[.slice (some ⟨b, off + k1 * 5, none⟩) (n - 1 - k1) (cp - k1), rv, rf] W (CErrPost y W)) :
    Calls Try.prog 44 #[.slice (some ⟨b, off, none⟩) n cp, rv, rf] w (CErrPost (O.rj 6 x y 9) w) := by
  obtain ⟨op, col, ⟨k, m, t⟩⟩ := c
  simp only at hop
  subst hop
  obtain ⟨c0, c1, c2, c3, c4⟩ := hc
  simp only at c0 c1 c2 c3 c4
  obtain ⟨l, hl⟩ : ∃ l, l = n - 1 := ⟨_, rfl⟩
  rw [← hl] at c0 c1 c2 c3 c4 HB HY hk1
  unfold maxLen at hn
  have hw1 : IntKind.i64.wrap ((n : Int) - 1) = (l : Int) := by rw [IntKind.wrap_i64]; omega
  have hlI : (l : Int) < (n : Int) := by omega
  have hlC : (l : Int) ≤ (cp : Int) := by omega
  have hkC : (k1 : Int) ≤ (cp : Int) := by omega
  have hkL : (k1 : Int) ≤ (l : Int) := by omega
  have hkN : k1 ≤ cp := by omega
  have hlN : l ≤ cp := by omega
  have hkl : k1 ≤ l := by omega
  have hne : ¬ cp - k1 = 0 := by omega
  have hne2 : ¬ cp = k1 := by omega
  have hne3 : ¬ (cp : Int) - (k1 : Int) = 0 := by omega
  have hne4 : ¬ cp ≤ k1 := by omega
  have hp := pen_new w (.int .i64 6) (.int .i64 col) (.int .i64 k) (.int .u64 (m : Int)) (.string (str t))
  have hb0 : Below w.heap.size w (w.alloc (.cells #[.int .i64 6, .int .i64 col, .int .i64 k, .int .u64 (m : Int), .string (str t)] 51)) := (Below.refl _ _).alloc (Nat.le_refl _) _
  have HB := Lib.hid (HB _ hb0)
  have HXH := Lib.hid (fun k (h : k ≤ 2) W => hasMay_any x k W hx h)
  have HYH := Lib.hid (fun k (h : k ≤ 2) W => hasMay_any y k W hy h)
  have HS := Lib.hid (fun q => show O.rj 6 x y (q + 1) = if O.has x (q / 3) && O.has y (q % 3) && !O.has (O.rj 6 x y q) (O.rt 6 (q / 3) (q % 3)) then O.rj 6 x y q + 2 ^ O.rt 6 (q / 3) (q % 3) else O.rj 6 x y q from rfl)
  have HLT := Lib.hid (fun q (h : q < 10) => (O.rj_lt ⟨x, hx⟩ ⟨y, hy⟩ ⟨q, h⟩).2)
  have hz : O.rj 6 x y 0 = 0 := rfl
  have HRT := Lib.hid (fun k j (hk : k ≤ 2) (hj : j ≤ 2) => O.rt_le 6 k j hk hj)
  have HRTY := Lib.hid (fun k j (h : k < j) => show O.rt 6 k j = j by unfold O.rt; rw [if_pos (Or.inr ⟨rfl, h⟩)])
  have HRTN := Lib.hid (fun k j (h : ¬ (k < j)) => show O.rt 6 k j = k by unfold O.rt; rw [if_neg (by rintro (h0 | h0) <;> omega)])
  simp only at HLT
  generalize O.rj 6 x y = M at *
  generalize O.has x = hxx at *
  generalize O.has y = hyy at *
  have HZ := Lib.hid hz
  generalize str t = X at *
  clear hl hz hx hy
  go_enter Try.func44, Try.ntmps44
  go_wp2_with fail
  refine HB.out.mono ?_
  rintro e w1 ⟨rfl, hb1⟩
  have hb2 := below_then hb0 hb1
  have HXX := Lib.hid (fun p : WB w1 => show Calls Try.prog 44 #[.slice (some ⟨b, off, none⟩) k1 cp, rv, rf] p.w (fun e w' => e = .returned (.int .i64 (x : Int)) ∧ Below p.w.heap.size p.w w') from HX p.w (below_then hb2 p.below))
  have HYY := Lib.hid (fun p : WB w1 => show Calls Try.prog 44 #[.slice (some ⟨b, off + k1 * 5, none⟩) (l - k1) (cp - k1), rv, rf] p.w (fun e w' => e = .returned (.int .i64 (y : Int)) ∧ Below p.w.heap.size p.w w') from HY p.w (below_then hb2 p.below))
  have hpn := hp.next hb1
  clear HX HY hp c0 c1 c2 c3 c4
  go_wp2_with fail
  refine wp_region_wb (by kernel_rfl) (by kernel_rfl) ?_
  repeat (quiet_step (first
    | (go_at_call 44; refine calls_wb (v := .int .i64 (x : Int)) ?_; with_reducible exact HXX.out _)
    | (go_at_call 44; refine calls_wb (v := .int .i64 (y : Int)) ?_; with_reducible exact HYY.out _)))
  refine wpQuiet_nil ?_
  rintro _ ⟨p, rfl⟩
  have hpb := p.below
  obtain ⟨p0, p1, p2, p3, p4⟩ := (hpn.next hpb).all
  have hb3 := below_then hb2 hpb
  obtain ⟨W3, hW3⟩ : ∃ W3, W3 = p.w := ⟨_, rfl⟩
  rw [← hW3] at hb3 p0 ⊢
  clear hW3 hpb hpn HXX HYY p1 p2 p3 p4 hb1 hb2 p
  clear hlI hlC hkC hkL hkN hlN hkl hne hne2 hne3 hne4 hw1 hcp hn hn1
  go_wp2_with fail
  go_loopw [13, 14, 15, 16] (fun o a _ _ wr => ∃ q : Nat, q ≤ 3 ∧ a = .int .i64 q ∧ o = .int .i64 (M (3 * q) : Nat) ∧ wr = W3) (fun _ a _ _ _ => 3 - (intOf a).toNat)
  case atStart => exact ⟨0, by omega, rfl, by rw [Nat.mul_zero, HZ.out]; rfl, rfl⟩
  case round =>
    obtain ⟨q, hq, rfl, rfl, hwr⟩ := hrel
    subst hwr
    by_cases hlt : q < 3
    · have hqI : (q : Int) ≤ 2 := by omega
      have HXq := Lib.hid (HXH.out q (by omega))
      go_wp2_with fail
      go_loopw [13, 15, 16] (fun o bb _ wk => ∃ j : Nat, j ≤ 3 ∧ bb = .int .i64 j ∧ o = .int .i64 (M (3 * q + j) : Nat) ∧ wk = wr) (fun _ bb _ _ => 3 - (intOf bb).toNat)
      case atStart => exact ⟨0, by omega, rfl, rfl, rfl⟩
      case round =>
        obtain ⟨j, hj, rfl, rfl, hwk⟩ := hrel
        subst hwk
        by_cases hlj : j < 3
        · have hjI : (j : Int) ≤ 2 := by omega
          have HYj := Lib.hid (HYH.out j (by omega))
          have hst := HS.out (3 * q + j)
          rw [show (3 * q + j) / 3 = q by omega, show (3 * q + j) % 3 = j by omega] at hst
          have hml := HLT.out (3 * q + j) (by omega)
          have hrt := HRT.out q j (by omega) (by omega)
          have hry := HRTY.out q j
          have hrn := HRTN.out q j
          have HSU := Lib.hid (show M (3 * q + (j + 1)) = _ from hst)
          generalize O.rt 6 q j = r at *
          generalize M (3 * q + j) = acc at *
          have HOH := Lib.hid (fun W => hasMay_any acc r W hml hrt)
          generalize O.has acc r = ho at *
          generalize hxx q = ha at *
          generalize hyy j = hb at *
          clear hst
          obtain ⟨T, hT⟩ : ∃ T, T = 2 ^ r := ⟨_, rfl⟩
          rw [← hT] at HSU
          have hTle : T ≤ 4 := by rw [hT]; exact O.pow_le r hrt
          have hsh : IntKind.i64.wrap (2 ^ r) = (T : Int) := by
            rw [hT]; rcases O.three r hrt with rfl | rfl | rfl <;> rfl
          have hsh2 : IntKind.i64.wrap ((acc : Int) + (T : Int)) = ((acc + T : Nat) : Int) := by rw [IntKind.wrap_i64]; omega
          clear hT
          by_cases hcmp : q < j
          · have hr := hry hcmp
            have g1 : decide ((q : Int) < (j : Int)) = true := decide_eq_true (by omega)
            have g2 : decide (q < j) = true := decide_eq_true hcmp
            clear hry hrn hcmp
            subst hr
            cases ha
            · have HN := Lib.hid (show M (3 * q + (r + 1)) = acc from HSU.out)
              go_wp2_with fail
              refine (HXq.out _).mono ?_
              rintro e w1 ⟨rfl, rfl⟩
              go_wp2_with fail
              exact ⟨⟨r + 1, by omega, by go_num, by rw [HN.out], by first | rfl | trivial⟩, by simp [intOf]; omega⟩
            · cases hb
              · have HN := Lib.hid (show M (3 * q + (r + 1)) = acc from HSU.out)
                go_wp2_with fail
                refine (HXq.out _).mono ?_
                rintro e w1 ⟨rfl, rfl⟩
                go_wp2_with fail
                refine (HYj.out _).mono ?_
                rintro e w1 ⟨rfl, rfl⟩
                go_wp2_with fail
                exact ⟨⟨r + 1, by omega, by go_num, by rw [HN.out], by first | rfl | trivial⟩, by simp [intOf]; omega⟩
              · cases ho
                · have HN := Lib.hid (show M (3 * q + (r + 1)) = acc + T from HSU.out)
                  go_wp2_with fail
                  refine (HXq.out _).mono ?_
                  rintro e w1 ⟨rfl, rfl⟩
                  go_wp2_with fail
                  refine (HYj.out _).mono ?_
                  rintro e w1 ⟨rfl, rfl⟩
                  go_wp2_with fail
                  refine (HOH.out _).mono ?_
                  rintro e w1 ⟨rfl, rfl⟩
                  go_wp2_with fail
                  exact ⟨⟨r + 1, by omega, by go_num, by rw [HN.out]; simp, by first | rfl | trivial⟩, by simp [intOf]; omega⟩
                · have HN := Lib.hid (show M (3 * q + (r + 1)) = acc from HSU.out)
                  go_wp2_with fail
                  refine (HXq.out _).mono ?_
                  rintro e w1 ⟨rfl, rfl⟩
                  go_wp2_with fail
                  refine (HYj.out _).mono ?_
                  rintro e w1 ⟨rfl, rfl⟩
                  go_wp2_with fail
                  refine (HOH.out _).mono ?_
                  rintro e w1 ⟨rfl, rfl⟩
                  go_wp2_with fail
                  exact ⟨⟨r + 1, by omega, by go_num, by rw [HN.out], by first | rfl | trivial⟩, by simp [intOf]; omega⟩
          · have hr := hrn hcmp
            have g1 : decide ((q : Int) < (j : Int)) = false := decide_eq_false (by omega)
            have g2 : decide (q < j) = false := decide_eq_false hcmp
            clear hry hrn hcmp
            subst hr
            cases ha
            · have HN := Lib.hid (show M (3 * r + (j + 1)) = acc from HSU.out)
              go_wp2_with fail
              refine (HXq.out _).mono ?_
              rintro e w1 ⟨rfl, rfl⟩
              go_wp2_with fail
              exact ⟨⟨j + 1, by omega, by go_num, by rw [HN.out], by first | rfl | trivial⟩, by simp [intOf]; omega⟩
            · cases hb
              · have HN := Lib.hid (show M (3 * r + (j + 1)) = acc from HSU.out)
                go_wp2_with fail
                refine (HXq.out _).mono ?_
                rintro e w1 ⟨rfl, rfl⟩
                go_wp2_with fail
                refine (HYj.out _).mono ?_
                rintro e w1 ⟨rfl, rfl⟩
                go_wp2_with fail
                exact ⟨⟨j + 1, by omega, by go_num, by rw [HN.out], by first | rfl | trivial⟩, by simp [intOf]; omega⟩
              · cases ho
                · have HN := Lib.hid (show M (3 * r + (j + 1)) = acc + T from HSU.out)
                  go_wp2_with fail
                  refine (HXq.out _).mono ?_
                  rintro e w1 ⟨rfl, rfl⟩
                  go_wp2_with fail
                  refine (HYj.out _).mono ?_
                  rintro e w1 ⟨rfl, rfl⟩
                  go_wp2_with fail
                  refine (HOH.out _).mono ?_
                  rintro e w1 ⟨rfl, rfl⟩
                  go_wp2_with fail
                  exact ⟨⟨j + 1, by omega, by go_num, by rw [HN.out]; simp, by first | rfl | trivial⟩, by simp [intOf]; omega⟩
                · have HN := Lib.hid (show M (3 * r + (j + 1)) = acc from HSU.out)
                  go_wp2_with fail
                  refine (HXq.out _).mono ?_
                  rintro e w1 ⟨rfl, rfl⟩
                  go_wp2_with fail
                  refine (HYj.out _).mono ?_
                  rintro e w1 ⟨rfl, rfl⟩
                  go_wp2_with fail
                  refine (HOH.out _).mono ?_
                  rintro e w1 ⟨rfl, rfl⟩
                  go_wp2_with fail
                  exact ⟨⟨j + 1, by omega, by go_num, by rw [HN.out], by first | rfl | trivial⟩, by simp [intOf]; omega⟩
        · obtain rfl : j = 3 := by omega
          have h3 : 3 * q + 3 = 3 * (q + 1) := by omega
          rw [h3]
          go_wp2_with fail
          exact ⟨⟨q + 1, by omega, by go_num, rfl, by first | rfl | trivial⟩, by simp [intOf]; omega⟩
    · obtain rfl : q = 3 := by omega
      go_wp2_with fail
      go_ret
      exact ⟨rfl, hb3⟩
end Go.Proofs.Ytecfknolpnjokaa
