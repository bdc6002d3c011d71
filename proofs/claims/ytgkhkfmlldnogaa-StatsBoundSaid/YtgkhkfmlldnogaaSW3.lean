/- The walks of stats.Check's function, slices.IndexFunc and ContainsFunc with it, stats.Check. -/
import Derived.Test.YtgkhkfmlldnogaaSW1
import Derived.Test.YtgkhkfmlldnogaaCW2
import Derived.RangeFuncBox
namespace Go.Proofs.Ytgkhkfmlldnogaa
open Go.RowKit
set_option linter.unusedVariables false

/-- is a cell a Null, where there should be none, or none, where there should be Nulls? -/
def wrg (n : Bool) (c : C.Cl) : Bool := (c.kind == 0) != n
set_option maxHeartbeats 400000 in
theorem wclos_any (Cb : Nat) (n : Bool) (c : C.Cl) (w : World) (hB : Boxed w Cb 4 (.bool n)) :
    Calls Try.prog 26 #[cag c, .pointer (some ⟨Cb, 0, none⟩)] w (BoolPost (wrg n c) w) := by
  have c0 := hB.cell
  have hlt := hB.lt
  have hne : ¬ Cb = w.heap.size := by omega
  have hne2 : ¬ w.heap.size = Cb := by omega
  have HR := Lib.hid (show wrg n c = ((c.kind == 0) != n) from rfl)
  generalize wrg n c = R at *
  unfold cag
  generalize str c.txt = cx at *
  generalize c.kind = ck at *
  generalize c.num = cn at *
  clear hB
  go_enter Try.func26, Try.ntmps26
  go_wp2_with fail
  go_ret
  exact ⟨by rw [HR.out]; rfl, (Below.refl _ _).alloc (Nat.le_refl _) _⟩

theorem cidx_step (p : C.Cl → Bool) (l : List C.Cl) (j : Nat) (h : j < l.length) : (l.drop j).findIdx p = if p (l.getD j C.null) = true then 0 else (l.drop (j + 1)).findIdx p + 1 := by
  rw [List.drop_eq_getElem_cons h, List.findIdx_cons]
  simp only [List.getD, List.getElem?_eq_getElem h, Option.getD_some]
  cases p l[j] <;> simp
def cidx (p : C.Cl → Bool) (l : List C.Cl) : Int := if l.findIdx p < l.length then (l.findIdx p : Nat) else -1

set_option maxHeartbeats 1000000 in
set_option maxRecDepth 100000 in
theorem index_wrong (w : World) (Cb : Nat) (n : Bool) (hB : Boxed w Cb 4 (.bool n)) (a : Option Addr) (c : Nat) (l : List C.Cl) (hl : l.length ≤ 64) (hu : Cls w w.heap.size a l) :
    Calls Try.prog 35 #[.slice a l.length c, .func (.func 26) #[] #[.pointer (some ⟨Cb, 0, none⟩)]] w fun e w' => e = .returned (.int .i64 (cidx (wrg n) l)) ∧ Below w.heap.size w w' := by
  have HU := Lib.hid hu
  have HST := Lib.hid (fun j h => cidx_step (wrg n) l j h)
  have HC := Lib.hid (fun x W (hb : Below w.heap.size w W) => wclos_any Cb n x W ((hb.block Cb hB.lt).trans hB))
  have HI := Lib.hid (show cidx (wrg n) l = if l.findIdx (wrg n) < l.length then ((l.findIdx (wrg n) : Nat) : Int) else -1 from rfl)
  generalize cidx (wrg n) l = I at *
  generalize wrg n = p at *
  clear hu hB
  generalize hR : l.findIdx p = R at *
  have HR0 := Lib.hid (show R = 0 + (l.drop 0).findIdx p by rw [← hR]; simp)
  clear hR
  go_enter Try.func35, Try.ntmps35
  go_wp2_with fail
  go_loopw [5, 8] (fun _ i wr => ∃ j : Nat, j ≤ l.length ∧ i = .int .i64 j ∧ Below w.heap.size w wr ∧ Hid (R = j + (l.drop j).findIdx p)) (fun _ i _ => l.length - (intOf i).toNat)
  case atStart => exact ⟨0, by omega, rfl, Below.refl _ _, HR0⟩
  case round =>
    obtain ⟨j, hj, rfl, hbw, HJ⟩ := hrel
    by_cases hlt : j < l.length
    · obtain ⟨b, off, rfl, hb, hcc⟩ := HU.out (fun e => by rw [e] at hlt; simp at hlt)
      obtain ⟨k0, k1, k2⟩ := hcc j hlt
      have c0 := (hbw.cell (p := ⟨b, off + j * 3, none⟩) hb).trans k0
      have c1 := (hbw.cell (p := ⟨b, off + j * 3 + 1, none⟩) hb).trans k1
      have c2 := (hbw.cell (p := ⟨b, off + j * 3 + 2, none⟩) hb).trans k2
      have hst := HST.out j hlt
      have HCX := Lib.hid (HC.out (l.getD j C.null) wr hbw)
      have hjI : (j : Int) < (l.length : Int) := by omega
      unfold cag at HCX
      generalize (l.getD j C.null).kind = z at *
      generalize (l.getD j C.null).num = m at *
      generalize str (l.getD j C.null).txt = X at *
      generalize ho : p (l.getD j C.null) = q at *
      clear k0 k1 k2 hcc ho
      cases q
      · rw [if_neg (by simp)] at hst
        have HN := Lib.hid (show R = (j + 1) + (l.drop (j + 1)).findIdx p by rw [HJ.out, hst]; omega)
        clear hst
        go_wp2_with fail
        refine (HCX.out).mono ?_
        rintro e w1 ⟨rfl, hb1⟩
        have h2 := below_then hbw hb1
        go_wp2_with fail
        exact ⟨⟨j + 1, by omega, by go_num, h2, HN⟩, by simp [intOf]; omega⟩
      · rw [if_pos rfl] at hst
        have HRJ := Lib.hid (show I = (j : Int) by rw [HI.out, HJ.out, hst, Nat.add_zero, if_pos hlt])
        clear hst
        go_wp2_with fail
        refine (HCX.out).mono ?_
        rintro e w1 ⟨rfl, hb1⟩
        have h2 := below_then hbw hb1
        go_wp2_with fail
        go_ret
        exact ⟨by rw [HRJ.out]; rfl, h2⟩
    · obtain rfl : j = l.length := by omega
      have HRE := Lib.hid (show I = -1 by rw [HI.out, HJ.out, List.drop_length, if_neg (by simp)])
      go_wp2_with fail
      go_ret
      exact ⟨by rw [HRE.out]; rfl, hbw⟩

set_option maxHeartbeats 400000 in
theorem contains_wrong (w : World) (Cb : Nat) (n : Bool) (hB : Boxed w Cb 4 (.bool n)) (a : Option Addr) (c : Nat) (l : List C.Cl) (hl : l.length ≤ 64) (hu : Cls w w.heap.size a l) :
    Calls Try.prog 27 #[.slice a l.length c, .func (.func 26) #[] #[.pointer (some ⟨Cb, 0, none⟩)]] w (BoolPost (decide (l.findIdx (wrg n) < l.length)) w) := by
  have HC := Lib.hid (index_wrong w Cb n hB a c l hl hu)
  have HG := Lib.hid (show decide (0 ≤ cidx (wrg n) l) = decide (l.findIdx (wrg n) < l.length) by unfold cidx; by_cases h : l.findIdx (wrg n) < l.length <;> simp [h])
  generalize cidx (wrg n) l = I at *
  clear hu hB
  go_enter Try.func27, Try.ntmps27
  go_wp2_with fail
  refine (HC.out).mono ?_
  rintro e w1 ⟨rfl, hb⟩
  go_wp2_with fail
  go_ret
  exact ⟨by rw [← HG.out]; rfl, hb⟩

theorem six_cls {w : World} {b : Nat} {x y : C.Cl} (h : Six w b [.int .i64 x.kind, .int .u64 (x.num : Int), .string (str x.txt), .int .i64 y.kind, .int .u64 (y.num : Int), .string (str y.txt)]) : Cls w w.heap.size (some ⟨b, 0, none⟩) [x, y] := by
  intro _
  obtain ⟨a0, a1, a2, a3, a4, a5⟩ := h.cells
  refine ⟨b, 0, rfl, h.lt, fun i hi => ?_⟩
  match i, hi with
  | 0, _ => exact ⟨a0, a1, a2⟩
  | 1, _ => exact ⟨a3, a4, a5⟩
theorem two_idx (p : C.Cl → Bool) (x y : C.Cl) : decide ([x, y].findIdx p < [x, y].length) = (p x || p y) := by
  simp only [List.findIdx_cons, List.findIdx_nil, List.length_cons, List.length_nil]
  cases p x <;> cases p y <;> decide

/-- what is asked of both ends -/
theorem ck_ends {k : Int} {s : S.St} (h1 : ¬ (k ≠ 1 ∧ k ≠ 2)) (h2 : ¬ (s.rows < 0 ∨ 128 < s.rows ∨ s.nulls < 0 ∨ s.rows < s.nulls)) :
    S.ck k s = if C.chk k [s.least, s.most] ≠ 0 then C.chk k [s.least, s.most] else if (wrg (s.nulls == s.rows) s.least || wrg (s.nulls == s.rows) s.most) = true then 4 else if C.less s.most s.least = true then 4 else 0 := by
  have hc : C.chk k [s.least, s.most] = if C.cellE k s.least ≠ 0 then C.cellE k s.least else if C.cellE k s.most ≠ 0 then C.cellE k s.most else 0 := by
    rw [chk_list h1 (by simp)]; rfl
  unfold S.ck
  rw [if_neg h1, if_neg h2, hc]
  by_cases h3 : C.cellE k s.least ≠ 0
  · rw [if_pos h3, if_pos h3, if_pos h3]
  rw [if_neg h3, if_neg h3]
  by_cases h4 : C.cellE k s.most ≠ 0
  · rw [if_pos h4, if_pos h4, if_pos h4]
  rw [if_neg h4, if_neg h4]
  rw [if_neg (show ¬ ((0 : Nat) ≠ 0) by simp)]
  unfold wrg
  generalize C.less s.most s.least = lt
  generalize s.least.kind = lk at *
  generalize s.most.kind = mk at *
  have hn : s.nulls < s.rows ∨ s.nulls = s.rows := by omega
  rcases hn with hn | hn
  · have e1 : (s.nulls == s.rows) = false := by rw [beq_eq_false_iff_ne]; omega
    have e2 : ¬ s.nulls = s.rows := by omega
    rw [e1]
    by_cases a : lk = 0 <;> by_cases b : mk = 0 <;> cases lt <;> simp [a, b, e2, hn]
  · have e1 : (s.nulls == s.rows) = true := by rw [beq_iff_eq]; exact hn
    rw [e1, hn]
    by_cases a : lk = 0 <;> by_cases b : mk = 0 <;> cases lt <;> simp [a, b]

set_option maxHeartbeats 2000000 in
set_option maxRecDepth 100000 in
theorem scheck_any (k : Int) (s : S.St) (w : World) (hs : sOk s) :
    Calls Try.prog 12 #[.int .i64 k, sag s] w (CErrPost (S.ck k s) w) := by
  have hbel : Below w.heap.size w (w.alloc (.cells (sx s).toArray 27)) := (Below.refl _ _).alloc (Nat.le_refl _) _
  have hO := oct_new w (sx s)
  obtain ⟨hr, hn, hl, hm⟩ := hs
  have HC0 := Lib.hid (fun W => show Calls Try.prog 25 #[.int .i64 k, .slice none 0 0] W (CErrPost (C.chk k []) W) from ncheck_any k none 0 [] W (by simp) (fun x hx => by cases hx) (Cls.nil _ _ _))
  have hlm : ∀ x ∈ [s.least, s.most], cOk x := fun x hx => by
    simp only [List.mem_cons, List.not_mem_nil, or_false] at hx
    rcases hx with rfl | rfl
    · exact hl
    · exact hm
  have HC2 := Lib.hid (fun W b (h : Six W b [.int .i64 s.least.kind, .int .u64 (s.least.num : Int), .string (str s.least.txt), .int .i64 s.most.kind, .int .u64 (s.most.num : Int), .string (str s.most.txt)]) =>
    show Calls Try.prog 25 #[.int .i64 k, .slice (some ⟨b, 0, none⟩) 2 2] W (CErrPost (C.chk k [s.least, s.most]) W) from ncheck_any k (some ⟨b, 0, none⟩) 2 [s.least, s.most] W (by unfold maxLen; simp) hlm (six_cls h))
  have HCW := Lib.hid (fun W b Cb n (h : Six W b [.int .i64 s.least.kind, .int .u64 (s.least.num : Int), .string (str s.least.txt), .int .i64 s.most.kind, .int .u64 (s.most.num : Int), .string (str s.most.txt)]) (hB : Boxed W Cb 4 (.bool n)) =>
    show Calls Try.prog 27 #[.slice (some ⟨b, 0, none⟩) 2 2, .func (.func 26) #[] #[.pointer (some ⟨Cb, 0, none⟩)]] W (BoolPost (wrg n s.least || wrg n s.most) W) by
      rw [← two_idx]; exact contains_wrong W Cb n hB (some ⟨b, 0, none⟩) 2 [s.least, s.most] (by simp) (six_cls h))
  have HL := Lib.hid (fun W => nless_any s.most s.least W)
  unfold sag
  unfold sx at hbel hO
  unfold cag at HL
  have HB := Lib.hid hbel
  have HO := Lib.hid hO
  clear hbel hO hl hm hlm
  by_cases h1 : k ≠ 1 ∧ k ≠ 2
  · have HR := Lib.hid (show S.ck k s = 7 from if_pos h1)
    generalize S.ck k s = R at *
    rw [chk_kind h1] at HC0
    generalize str s.least.txt = lx at *
    generalize str s.most.txt = mx at *
    clear HC2 HCW HL h1
    go_enter Try.func12, Try.ntmps12
    go_wp2_with fail
    refine (HC0.out _).mono ?_
    rintro e w1 ⟨rfl, hb1⟩
    have h2 := below_then HB.out hb1
    go_wp2_with fail
    go_ret
    exact ⟨by rw [HR.out]; rfl, h2⟩
  rw [show C.chk k [] = 0 by rw [chk_list h1 (by simp)]; rfl] at HC0
  by_cases h2 : s.rows < 0 ∨ 128 < s.rows ∨ s.nulls < 0 ∨ s.rows < s.nulls
  · have HR := Lib.hid (show S.ck k s = 3 by unfold S.ck; rw [if_neg h1, if_pos h2])
    generalize S.ck k s = R at *
    have hr4 : (decide (s.rows < 0) = true) ∨ (decide (s.rows < 0) = false ∧ decide (128 < s.rows) = true) ∨ (decide (s.rows < 0) = false ∧ decide (128 < s.rows) = false ∧ decide (s.nulls < 0) = true) ∨ (decide (s.rows < 0) = false ∧ decide (128 < s.rows) = false ∧ decide (s.nulls < 0) = false ∧ decide (s.rows < s.nulls) = true) := by
      simp only [decide_eq_true_eq, decide_eq_false_iff_not]; omega
    generalize str s.least.txt = lx at *
    generalize str s.most.txt = mx at *
    generalize s.rows = r at *
    generalize s.nulls = n at *
    clear HC2 HCW HL h1 h2
    rcases hr4 with r1 | ⟨r1, r2⟩ | ⟨r1, r2, r3⟩ | ⟨r1, r2, r3, r4⟩
    all_goals
      go_enter Try.func12, Try.ntmps12
      go_wp2_with fail
      refine (HC0.out _).mono ?_
      rintro e w1 ⟨rfl, hb1⟩
      have h2 := below_then HB.out hb1
      obtain ⟨o0, o1, o2, o3, o4, o5, o6, o7⟩ := (HO.out.next hb1).cells
      go_wp2_with fail
      go_ret
      exact ⟨by rw [HR.out]; rfl, h2⟩
  have r1 : decide (s.rows < 0) = false := by rw [decide_eq_false_iff_not]; omega
  have r2 : decide (128 < s.rows) = false := by rw [decide_eq_false_iff_not]; omega
  have r3 : decide (s.nulls < 0) = false := by rw [decide_eq_false_iff_not]; omega
  have r4 : decide (s.rows < s.nulls) = false := by rw [decide_eq_false_iff_not]; omega
  have hR := ck_ends h1 h2
  have HSX := Lib.hid (fun (w1 : World) => six_new w1 [.int .i64 s.least.kind, .int .u64 (s.least.num : Int), .string (str s.least.txt), .int .i64 s.most.kind, .int .u64 (s.most.num : Int), .string (str s.most.txt)])
  generalize S.ck k s = R at *
  generalize C.chk k [s.least, s.most] = er at *
  generalize C.less s.most s.least = lt at *
  have HCW1 := Lib.hid (fun W b Cb h hB => HCW.out W b Cb (s.nulls == s.rows) h hB)
  generalize (wrg (s.nulls == s.rows) s.least || wrg (s.nulls == s.rows) s.most) = x at *
  have hnn : ∃ nn, (s.nulls == s.rows) = nn := ⟨_, rfl⟩
  obtain ⟨nn, hnn⟩ := hnn
  rw [hnn] at HCW1
  generalize str s.least.txt = lx at *
  generalize str s.most.txt = mx at *
  generalize s.rows = r at *
  generalize s.nulls = n at *
  generalize s.least.kind = lk at *
  generalize s.least.num = ln at *
  generalize s.most.kind = mk at *
  generalize s.most.num = mm at *
  clear HCW h1 h2 hr hn
  by_cases h3 : er ≠ 0
  · rw [if_pos h3] at hR
    have HR := Lib.hid hR
    have g1 : ((er : Int) != 0) = true := by rw [bne_iff_ne]; omega
    clear hR h3 HCW1 HL
    go_enter Try.func12, Try.ntmps12
    go_wp2_with fail
    refine (HC0.out _).mono ?_
    rintro e w1 ⟨rfl, hb1⟩
    have h2 := below_then HB.out hb1
    obtain ⟨o0, o1, o2, o3, o4, o5, o6, o7⟩ := (HO.out.next hb1).cells
    go_wp2_with fail
    refine (HC2.out _ _ (HSX.out w1)).mono ?_
    rintro e w2 ⟨rfl, hb2⟩
    have h3 := below_then (h2.alloc h2.size _) hb2
    go_wp2_with fail
    go_ret
    exact ⟨by rw [HR.out]; rfl, h3⟩
  obtain rfl : er = 0 := by omega
  rw [if_neg (show ¬ ((0 : Nat) ≠ 0) by simp)] at hR
  clear h3
  cases x
  · rw [if_neg (by decide)] at hR
    cases lt
    · rw [if_neg (by decide)] at hR
      have HR := Lib.hid hR
      clear hR
      go_enter Try.func12, Try.ntmps12
      go_wp2_with fail
      refine (HC0.out _).mono ?_
      rintro e w1 ⟨rfl, hb1⟩
      have h2 := below_then HB.out hb1
      have hO1 := HO.out.next hb1
      obtain ⟨o0, o1, o2, o3, o4, o5, o6, o7⟩ := hO1.cells
      have al := (Below.refl w1.heap.size w1).alloc (Nat.le_refl _) (.cells #[.int .i64 lk, .int .u64 (ln : Int), .string lx, .int .i64 mk, .int .u64 (mm : Int), .string mx] 46)
      have HO1 := Lib.hid (hO1.next al)
      have HB1 := Lib.hid (h2.alloc h2.size (.cells #[.int .i64 lk, .int .u64 (ln : Int), .string lx, .int .i64 mk, .int .u64 (mm : Int), .string mx] 46))
      clear h2 hO1 al hb1
      go_wp2_with fail
      refine (HC2.out _ _ (HSX.out w1)).mono ?_
      rintro e w2 ⟨rfl, hb2⟩
      clear o0 o1 o2 o3 o4 o5 o6 o7
      have hO2 := HO1.out.next hb2
      have hS2 := (HSX.out w1).next hb2
      have h2 := below_then HB1.out hb2
      have al := (Below.refl w2.heap.size w2).alloc (Nat.le_refl _) (.cells #[.bool nn] 4)
      have HS2 := Lib.hid (hS2.next al)
      have HB2 := Lib.hid (h2.alloc h2.size (.cells #[.bool nn] 4))
      have HO2 := Lib.hid (hO2.next al)
      obtain ⟨o0, o1, o2, o3, o4, o5, o6, o7⟩ := hO2.cells
      clear hS2 h2 al hO2 HO1 HB1 hb2
      go_wp2_with fail
      refine (HCW1.out _ _ _ HS2.out (Boxed.new _ _ _)).mono ?_
      rintro e w3 ⟨rfl, hb3⟩
      clear o0 o1 o2 o3 o4 o5 o6 o7
      obtain ⟨o0, o1, o2, o3, o4, o5, o6, o7⟩ := (HO2.out.next hb3).cells
      have h3 := below_then HB2.out hb3
      clear hb3
      go_wp2_with fail
      refine (HL.out _).mono ?_
      rintro e w4 ⟨rfl, hb4⟩
      have h4 := below_then h3 hb4
      go_wp2_with fail
      go_ret
      exact ⟨by rw [HR.out]; rfl, h4⟩
    · rw [if_pos rfl] at hR
      have HR := Lib.hid hR
      clear hR
      go_enter Try.func12, Try.ntmps12
      go_wp2_with fail
      refine (HC0.out _).mono ?_
      rintro e w1 ⟨rfl, hb1⟩
      have h2 := below_then HB.out hb1
      have hO1 := HO.out.next hb1
      obtain ⟨o0, o1, o2, o3, o4, o5, o6, o7⟩ := hO1.cells
      have al := (Below.refl w1.heap.size w1).alloc (Nat.le_refl _) (.cells #[.int .i64 lk, .int .u64 (ln : Int), .string lx, .int .i64 mk, .int .u64 (mm : Int), .string mx] 46)
      have HO1 := Lib.hid (hO1.next al)
      have HB1 := Lib.hid (h2.alloc h2.size (.cells #[.int .i64 lk, .int .u64 (ln : Int), .string lx, .int .i64 mk, .int .u64 (mm : Int), .string mx] 46))
      clear h2 hO1 al hb1
      go_wp2_with fail
      refine (HC2.out _ _ (HSX.out w1)).mono ?_
      rintro e w2 ⟨rfl, hb2⟩
      clear o0 o1 o2 o3 o4 o5 o6 o7
      have hO2 := HO1.out.next hb2
      have hS2 := (HSX.out w1).next hb2
      have h2 := below_then HB1.out hb2
      have al := (Below.refl w2.heap.size w2).alloc (Nat.le_refl _) (.cells #[.bool nn] 4)
      have HS2 := Lib.hid (hS2.next al)
      have HB2 := Lib.hid (h2.alloc h2.size (.cells #[.bool nn] 4))
      have HO2 := Lib.hid (hO2.next al)
      obtain ⟨o0, o1, o2, o3, o4, o5, o6, o7⟩ := hO2.cells
      clear hS2 h2 al hO2 HO1 HB1 hb2
      go_wp2_with fail
      refine (HCW1.out _ _ _ HS2.out (Boxed.new _ _ _)).mono ?_
      rintro e w3 ⟨rfl, hb3⟩
      clear o0 o1 o2 o3 o4 o5 o6 o7
      obtain ⟨o0, o1, o2, o3, o4, o5, o6, o7⟩ := (HO2.out.next hb3).cells
      have h3 := below_then HB2.out hb3
      clear hb3
      go_wp2_with fail
      refine (HL.out _).mono ?_
      rintro e w4 ⟨rfl, hb4⟩
      have h4 := below_then h3 hb4
      go_wp2_with fail
      go_ret
      exact ⟨by rw [HR.out]; rfl, h4⟩
  · rw [if_pos rfl] at hR
    have HR := Lib.hid hR
    clear hR
    go_enter Try.func12, Try.ntmps12
    go_wp2_with fail
    refine (HC0.out _).mono ?_
    rintro e w1 ⟨rfl, hb1⟩
    have h2 := below_then HB.out hb1
    have hO1 := HO.out.next hb1
    obtain ⟨o0, o1, o2, o3, o4, o5, o6, o7⟩ := hO1.cells
    have al := (Below.refl w1.heap.size w1).alloc (Nat.le_refl _) (.cells #[.int .i64 lk, .int .u64 (ln : Int), .string lx, .int .i64 mk, .int .u64 (mm : Int), .string mx] 46)
    have HO1 := Lib.hid (hO1.next al)
    have HB1 := Lib.hid (h2.alloc h2.size (.cells #[.int .i64 lk, .int .u64 (ln : Int), .string lx, .int .i64 mk, .int .u64 (mm : Int), .string mx] 46))
    clear h2 hO1 al hb1
    go_wp2_with fail
    refine (HC2.out _ _ (HSX.out w1)).mono ?_
    rintro e w2 ⟨rfl, hb2⟩
    clear o0 o1 o2 o3 o4 o5 o6 o7
    have hO2 := HO1.out.next hb2
    have hS2 := (HSX.out w1).next hb2
    have h2 := below_then HB1.out hb2
    have al := (Below.refl w2.heap.size w2).alloc (Nat.le_refl _) (.cells #[.bool nn] 4)
    have HS2 := Lib.hid (hS2.next al)
    have HB2 := Lib.hid (h2.alloc h2.size (.cells #[.bool nn] 4))
    have HO2 := Lib.hid (hO2.next al)
    obtain ⟨o0, o1, o2, o3, o4, o5, o6, o7⟩ := hO2.cells
    clear hS2 h2 al hO2 HO1 HB1 hb2
    go_wp2_with fail
    refine (HCW1.out _ _ _ HS2.out (Boxed.new _ _ _)).mono ?_
    rintro e w3 ⟨rfl, hb3⟩
    clear o0 o1 o2 o3 o4 o5 o6 o7
    have h3 := below_then HB2.out hb3
    clear hb3
    go_wp2_with fail
    go_ret
    exact ⟨by rw [HR.out]; rfl, h3⟩
end Go.Proofs.Ytgkhkfmlldnogaa
