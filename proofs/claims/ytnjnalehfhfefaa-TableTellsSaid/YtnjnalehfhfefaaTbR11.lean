/- The walk of the reference's AddOf. -/
import Derived.Test.YtnjnalehfhfefaaTbR10
namespace Go.Proofs.Ytnjnalehfhfefaa
open Go.RowKit
set_option linter.unusedVariables false

theorem gx_one (l : List Tb.Col) : ∀ u ∈ l.flatMap gx, u.oneCell' = true := by
  intro u hu
  obtain ⟨x, _, hx⟩ := List.mem_flatMap.1 hu
  simp [gx] at hx
  rcases hx with rfl | rfl <;> rfl
theorem gls_news2 {w : World} {B : Nat} {A : Option Addr} {l : List Tb.Col} (h : Gls w B A l) : ∀ ad, A = some ad → ∀ j u, (l.flatMap gx)[j]? = some u → w.cell? (ad.add j) = some u := by
  intro ad ha
  subst ha
  exact gls_news h
def AddInit (RB : Nat) (S : Nat → Prop) (w : World) : Prop := S RB ∧ Two w RB 25 (.slice none 0 0) (.slice none 0 0)
def addS (RB : Nat) : Nat → Prop := fun k => k = RB
def AddEnd (B RB n m : Nat) (cols : List Tb.Col) (c : Tb.Col) (vs : List Value) (lv : Value) (w : World) : Prop := ∃ g c1 g2 c2, Two w RB 25 (.slice (some ⟨g, 0, none⟩) (0 + n + 1) c1) (.slice (some ⟨g2, 0, none⟩) (0 + m + 1) c2) ∧ w.ownsRow B 27 2 (.slice (some ⟨g, 0, none⟩) (0 + n + 1) c1) (0 + n + 1) ([] ++ cols.flatMap gx ++ [c].flatMap gx) ∧ w.ownsRow B 34 1 (.slice (some ⟨g2, 0, none⟩) (0 + m + 1) c2) (0 + m + 1) ([] ++ vs ++ [lv])
def addTb (B RB : Nat) (P0 CV : Value) (n : Nat) (cols : List Tb.Col) (c : Tb.Col) (P1 DV : Value) (m : Nat) (vs : List Value) (lv : Value) : List Item := [
  itR 47 (some 3) (RowIt B 27 2 0 []),
  itC 48 P0, itC 49 CV,
  itR 50 (some 6) (RowIt B 27 2 (0 + n) ([] ++ cols.flatMap gx)),
  itC 51 (gag c),
  itR 52 none (fun v S w => ∃ g, v = .slice (some ⟨g, 0, none⟩) 1 1 ∧ Gls w w.heap.size (some ⟨g, 0, none⟩) [c]),
  itR 53 (some 14) (RowIt B 27 2 (0 + n + 1) ([] ++ cols.flatMap gx ++ [c].flatMap gx)),
  itR 54 (some 10) (RowIt B 34 1 0 []),
  itC 55 P1, itC 56 DV,
  itR 57 (some 13) (RowIt B 34 1 (0 + m) ([] ++ vs)),
  itC 58 lv,
  itR 59 none (fun v S w => ∃ g, v = .slice (some ⟨g, 0, none⟩) 1 1 ∧ w.heap[g]? = some (.cells #[lv] 34 (0, 0))),
  itR 60 (some 14) (RowIt B 34 1 (0 + m + 1) ([] ++ vs ++ [lv])),
  itR 61 (some 15) (fun v S w => ∃ g c1 g2 c2, v = .agg #[.slice (some ⟨g, 0, none⟩) (0 + n + 1) c1, .slice (some ⟨g2, 0, none⟩) (0 + m + 1) c2] ∧ S g ∧ S g2 ∧ w.ownsRow B 27 2 (.slice (some ⟨g, 0, none⟩) (0 + n + 1) c1) (0 + n + 1) ([] ++ cols.flatMap gx ++ [c].flatMap gx) ∧ w.ownsRow B 34 1 (.slice (some ⟨g2, 0, none⟩) (0 + m + 1) c2) (0 + m + 1) ([] ++ vs ++ [lv])),
  ⟨none, none, fun _ => True, fun _ S w => AddEnd B RB n m cols c vs lv w, []⟩,
  itC 7 (.int .i64 0),
  ⟨none, some 15, fun _ => True, fun _ S w => AddInit RB S w, [17]⟩]
set_option maxHeartbeats 4000000 in
set_option maxRecDepth 100000 in
theorem rAdd_any (ca : Option Addr) (cc : Nat) (da : Option Addr) (dc : Nat) (t : Tb.T) (c : Tb.Col) (x : C.Cl) (w : World) (ht : Tbl w w.heap.size ca cc da dc t) (hc : gOk c) (hx : cOk x) :
    Calls Try.prog 18 #[tag ca t.cols.length cc da t.data.length dc, gag c, cag x] w (RTabPost (Tb.chg t (Tb.addE t c x) (Tb.add t c x)) w) := by
  have a0 : Below w.heap.size w (w.alloc (.cells #[Value.slice ca t.cols.length cc, Value.slice da t.data.length dc] 25)) := (Below.refl _ _).alloc (Nat.le_refl _) _
  have a1 : Below (w.alloc (.cells #[Value.slice ca t.cols.length cc, Value.slice da t.data.length dc] 25)).heap.size (w.alloc (.cells #[Value.slice ca t.cols.length cc, Value.slice da t.data.length dc] 25)) ((w.alloc (.cells #[Value.slice ca t.cols.length cc, Value.slice da t.data.length dc] 25)).alloc (.cells #[Value.string (str c.name), Value.int .i64 c.kind] 27)) := (Below.refl _ _).alloc (Nat.le_refl _) _
  have a2 : Below ((w.alloc (.cells #[Value.slice ca t.cols.length cc, Value.slice da t.data.length dc] 25)).alloc (.cells #[Value.string (str c.name), Value.int .i64 c.kind] 27)).heap.size ((w.alloc (.cells #[Value.slice ca t.cols.length cc, Value.slice da t.data.length dc] 25)).alloc (.cells #[Value.string (str c.name), Value.int .i64 c.kind] 27)) (((w.alloc (.cells #[Value.slice ca t.cols.length cc, Value.slice da t.data.length dc] 25)).alloc (.cells #[Value.string (str c.name), Value.int .i64 c.kind] 27)).alloc (.cells #[Value.int .i64 x.kind, Value.int .u64 (x.num : Int), Value.string (str x.txt)] 30)) := (Below.refl _ _).alloc (Nat.le_refl _) _
  have a3 : Below (((w.alloc (.cells #[Value.slice ca t.cols.length cc, Value.slice da t.data.length dc] 25)).alloc (.cells #[Value.string (str c.name), Value.int .i64 c.kind] 27)).alloc (.cells #[Value.int .i64 x.kind, Value.int .u64 (x.num : Int), Value.string (str x.txt)] 30)).heap.size (((w.alloc (.cells #[Value.slice ca t.cols.length cc, Value.slice da t.data.length dc] 25)).alloc (.cells #[Value.string (str c.name), Value.int .i64 c.kind] 27)).alloc (.cells #[Value.int .i64 x.kind, Value.int .u64 (x.num : Int), Value.string (str x.txt)] 30)) ((((w.alloc (.cells #[Value.slice ca t.cols.length cc, Value.slice da t.data.length dc] 25)).alloc (.cells #[Value.string (str c.name), Value.int .i64 c.kind] 27)).alloc (.cells #[Value.int .i64 x.kind, Value.int .u64 (x.num : Int), Value.string (str x.txt)] 30)).alloc (.cells #[Value.slice none 0 0, Value.slice none 0 0] 25)) := (Below.refl _ _).alloc (Nat.le_refl _) _
  have hP := (Two.next (Two.next (Two.next (two_new w 25 (Value.slice ca t.cols.length cc) (Value.slice da t.data.length dc)) a1) a2) a3)
  have hC := (Two.next (Two.next (two_new (w.alloc (.cells #[Value.slice ca t.cols.length cc, Value.slice da t.data.length dc] 25)) 27 (Value.string (str c.name)) (Value.int .i64 c.kind)) a2) a3)
  rw [show (w.alloc (.cells #[Value.slice ca t.cols.length cc, Value.slice da t.data.length dc] 25)).heap.size = w.heap.size + 1 by simp] at hC
  have hX := (Tri.next (tri_new ((w.alloc (.cells #[Value.slice ca t.cols.length cc, Value.slice da t.data.length dc] 25)).alloc (.cells #[Value.string (str c.name), Value.int .i64 c.kind] 27)) (Value.int .i64 x.kind) (Value.int .u64 (x.num : Int)) (Value.string (str x.txt))) a3)
  rw [show ((w.alloc (.cells #[Value.slice ca t.cols.length cc, Value.slice da t.data.length dc] 25)).alloc (.cells #[Value.string (str c.name), Value.int .i64 c.kind] 27)).heap.size = w.heap.size + 2 by simp] at hX
  have hR := (two_new (((w.alloc (.cells #[Value.slice ca t.cols.length cc, Value.slice da t.data.length dc] 25)).alloc (.cells #[Value.string (str c.name), Value.int .i64 c.kind] 27)).alloc (.cells #[Value.int .i64 x.kind, Value.int .u64 (x.num : Int), Value.string (str x.txt)] 30)) 25 (Value.slice none 0 0) (Value.slice none 0 0))
  rw [show (((w.alloc (.cells #[Value.slice ca t.cols.length cc, Value.slice da t.data.length dc] 25)).alloc (.cells #[Value.string (str c.name), Value.int .i64 c.kind] 27)).alloc (.cells #[Value.int .i64 x.kind, Value.int .u64 (x.num : Int), Value.string (str x.txt)] 30)).heap.size = w.heap.size + 3 by simp] at hR
  have hal := (below_then (below_then (below_then a0 a1) a2) a3)
  have hsz : ((((w.alloc (.cells #[Value.slice ca t.cols.length cc, Value.slice da t.data.length dc] 25)).alloc (.cells #[Value.string (str c.name), Value.int .i64 c.kind] 27)).alloc (.cells #[Value.int .i64 x.kind, Value.int .u64 (x.num : Int), Value.string (str x.txt)] 30)).alloc (.cells #[Value.slice none 0 0, Value.slice none 0 0] 25)).heap.size = w.heap.size + 4 := by simp
  have HTT := Lib.hid (ht.next hal)
  have HT0 := Lib.hid ht
  have HM0 := Lib.hid (show t.cols.length ≤ maxLen from Nat.le_trans ht.ccap.1 ht.ccap.2.1)
  have HP := Lib.hid hP
  have HC := Lib.hid hC
  have HX := Lib.hid hX
  have HR := Lib.hid hR
  have HAL := Lib.hid hal
  have HSZ := Lib.hid hsz
  clear hal hsz hP hC hX hR a0 a1 a2 a3 ht
  generalize hW : ((((w.alloc (.cells #[Value.slice ca t.cols.length cc, Value.slice da t.data.length dc] 25)).alloc (.cells #[Value.string (str c.name), Value.int .i64 c.kind] 27)).alloc (.cells #[Value.int .i64 x.kind, Value.int .u64 (x.num : Int), Value.string (str x.txt)] 30)).alloc (.cells #[Value.slice none 0 0, Value.slice none 0 0] 25)) = W1 at *
  have HW := Lib.hid hW
  clear hW
  have HT := Lib.hid (fun W (hb : Below W1.heap.size W1 W) => rTable_any ca cc da dc t W (HTT.out.next hb))
  have HC1 := Lib.hid (fun W (hb : Below W1.heap.size W1 W) => show Calls Try.prog 52 #[.agg #[.string (str c.name), .int .i64 c.kind], .slice ca t.cols.length cc] W (CErrPost (Tb.fresh t.cols c) W) from rOneCol_any ca cc t.cols c W HM0.out (HTT.out.next hb).gls hc)
  unfold gag cag
  by_cases h0 : Tb.check t ≠ 0
  · rw [chg_bad h0]
    have g0 : ((Tb.check t : Int) == 0) = false := by rw [beq_eq_false_iff_ne]; omega
    have g1 : ((Tb.check t : Int) != 0) = true := by rw [bne_iff_ne]; omega
    generalize Tb.check t = er at *
    go_enter Try.func18, Try.ntmps18
    go_wp2_with fail
    rw [HW.out]
    have b_w := Below.refl W1.heap.size W1
    have cP0 := (HP.out.next b_w).c0
    have cP1 := (HP.out.next b_w).c1
    go_wp2_with fail
    refine (HT.out _ b_w).mono ?_
    rintro e w1 ⟨rfl, hbn⟩
    have b_w := below_then b_w hbn
    clear hbn
    clear cP0 cP1
    have q0 := HR.out.next b_w
    have q1 := q0.s0 (.slice none 0 0)
    have q2 := q1.s1 (.slice none 0 0)
    have b0 := q0.c0
    have f0 := q0.free 0
    have b1 := q1.c1
    have f1 := q1.free 1
    have y0 := q2.c0
    have y1 := q2.c1
    have hrb : w.heap.size ≤ w.heap.size + 3 := by omega
    have HB3 := Lib.hid (((below_then HAL.out b_w).setCell (p := ⟨w.heap.size + 3, 0, none⟩) hrb (.slice none 0 0)).setCell (p := ⟨w.heap.size + 3, 1, none⟩) hrb (.slice none 0 0))
    clear q0 q1 q2
    go_wp2_with fail
    refine bodyPost_ret (v := .tuple #[tag none 0 0 none 0 0, .int .i64 (er : Int)]) (by simp [results, Try.results18, go_sem, y0, y1]) rfl ?_
    exact ⟨_, _, _, _, rfl, Tbl.null _ _, HB3.out⟩
  have h0 : Tb.check t = 0 := Classical.not_not.1 h0
  have hok := Tb.check_ok h0
  have HT := Lib.hid (fun W (hb : Below W1.heap.size W1 W) => show Calls Try.prog 15 #[tag ca t.cols.length cc da t.data.length dc] W (CErrPost 0 W) by have := HT.out W hb; rwa [h0] at this)
  by_cases h1 : Tb.fresh t.cols c ≠ 0
  · have hE : Tb.addE t c x = Tb.fresh t.cols c := by unfold Tb.addE; rw [if_pos h1]
    rw [chg_err h0 (by rw [hE]; exact h1), hE]
    have g0 : ((Tb.fresh t.cols c : Int) == 0) = false := by rw [beq_eq_false_iff_ne]; omega
    have g1 : ((Tb.fresh t.cols c : Int) != 0) = true := by rw [bne_iff_ne]; omega
    generalize Tb.fresh t.cols c = er at *
    clear hE
    go_enter Try.func18, Try.ntmps18
    go_wp2_with fail
    rw [HW.out]
    have b_w := Below.refl W1.heap.size W1
    have cP0 := (HP.out.next b_w).c0
    have cP1 := (HP.out.next b_w).c1
    go_wp2_with fail
    refine (HT.out _ b_w).mono ?_
    rintro e w1 ⟨rfl, hbn⟩
    have b_w := below_then b_w hbn
    clear hbn
    clear cP0 cP1
    have cP0 := (HP.out.next b_w).c0
    have cP1 := (HP.out.next b_w).c1
    have cC0 := (HC.out.next b_w).c0
    have cC1 := (HC.out.next b_w).c1
    go_wp2_with fail
    refine (HC1.out _ b_w).mono ?_
    rintro e w2 ⟨rfl, hbn⟩
    have b_w := below_then b_w hbn
    clear hbn
    clear cP0 cP1 cC0 cC1
    have q0 := HR.out.next b_w
    have q1 := q0.s0 (.slice none 0 0)
    have q2 := q1.s1 (.slice none 0 0)
    have b0 := q0.c0
    have f0 := q0.free 0
    have b1 := q1.c1
    have f1 := q1.free 1
    have y0 := q2.c0
    have y1 := q2.c1
    have hrb : w.heap.size ≤ w.heap.size + 3 := by omega
    have HB3 := Lib.hid (((below_then HAL.out b_w).setCell (p := ⟨w.heap.size + 3, 0, none⟩) hrb (.slice none 0 0)).setCell (p := ⟨w.heap.size + 3, 1, none⟩) hrb (.slice none 0 0))
    clear q0 q1 q2
    go_wp2_with fail
    refine bodyPost_ret (v := .tuple #[tag none 0 0 none 0 0, .int .i64 (er : Int)]) (by simp [results, Try.results18, go_sem, y0, y1]) rfl ?_
    exact ⟨_, _, _, _, rfl, Tbl.null _ _, HB3.out⟩
  have h1 : Tb.fresh t.cols c = 0 := Classical.not_not.1 h1
  rw [h1] at HC1
  have h6 := hok.six
  by_cases h2 : t.cols.length = 6
  · have hE : Tb.addE t c x = 2 := by unfold Tb.addE; rw [if_neg (by rw [h1]; simp), if_pos h2]
    rw [chg_err h0 (by rw [hE]; simp), hE]
    have g2 : ((t.cols.length : Int) == 6) = true := by rw [beq_iff_eq]; omega
    clear hE h0 h1 h2 h6 hok
    go_enter Try.func18, Try.ntmps18
    go_wp2_with fail
    rw [HW.out]
    have b_w := Below.refl W1.heap.size W1
    have cP0 := (HP.out.next b_w).c0
    have cP1 := (HP.out.next b_w).c1
    go_wp2_with fail
    refine (HT.out _ b_w).mono ?_
    rintro e w1 ⟨rfl, hbn⟩
    have b_w := below_then b_w hbn
    clear hbn
    clear cP0 cP1
    have cP0 := (HP.out.next b_w).c0
    have cP1 := (HP.out.next b_w).c1
    have cC0 := (HC.out.next b_w).c0
    have cC1 := (HC.out.next b_w).c1
    go_wp2_with fail
    refine (HC1.out _ b_w).mono ?_
    rintro e w2 ⟨rfl, hbn⟩
    have b_w := below_then b_w hbn
    clear hbn
    clear cP0 cP1 cC0 cC1
    have cP0 := (HP.out.next b_w).c0
    have cP1 := (HP.out.next b_w).c1
    have b_w1 := b_w
    have q0 := HR.out.next b_w
    have q1 := q0.s0 (.slice none 0 0)
    have q2 := q1.s1 (.slice none 0 0)
    have b0 := q0.c0
    have f0 := q0.free 0
    have b1 := q1.c1
    have f1 := q1.free 1
    have y0 := q2.c0
    have y1 := q2.c1
    have hrb : w.heap.size ≤ w.heap.size + 3 := by omega
    have HB3 := Lib.hid (((below_then HAL.out b_w).setCell (p := ⟨w.heap.size + 3, 0, none⟩) hrb (.slice none 0 0)).setCell (p := ⟨w.heap.size + 3, 1, none⟩) hrb (.slice none 0 0))
    clear q0 q1 q2
    go_wp2_with fail
    refine bodyPost_ret (v := .tuple #[tag none 0 0 none 0 0, .int .i64 2]) (by simp [results, Try.results18, go_sem, y0, y1]) rfl ?_
    exact ⟨_, _, _, _, rfl, Tbl.null _ _, HB3.out⟩
  have g2 : ((t.cols.length : Int) == 6) = false := by rw [beq_eq_false_iff_ne]; omega
  have hk12 := (Tb.fresh_zero h1).2.2
  have HC2 := Lib.hid (fun W => show Calls Try.prog 54 #[.int .i64 c.kind, .agg #[.int .i64 x.kind, .int .u64 (x.num : Int), .string (str x.txt)]] W (CErrPost (C.chk c.kind [x]) W) by
    have := rchk_any c.kind x W hx hc.2
    rwa [← rchk_one hk12 x] at this)
  have hE : Tb.addE t c x = C.chk c.kind [x] := by unfold Tb.addE; rw [if_neg (by rw [h1]; simp), if_neg h2]
  by_cases h3 : C.chk c.kind [x] ≠ 0
  · rw [chg_err h0 (by rw [hE]; exact h3), hE]
    have g1 : ((C.chk c.kind [x] : Int) != 0) = true := by rw [bne_iff_ne]; omega
    generalize C.chk c.kind [x] = er at *
    clear hE h0 h1 h2 h6 hok
    go_enter Try.func18, Try.ntmps18
    go_wp2_with fail
    rw [HW.out]
    have b_w := Below.refl W1.heap.size W1
    have cP0 := (HP.out.next b_w).c0
    have cP1 := (HP.out.next b_w).c1
    go_wp2_with fail
    refine (HT.out _ b_w).mono ?_
    rintro e w1 ⟨rfl, hbn⟩
    have b_w := below_then b_w hbn
    clear hbn
    clear cP0 cP1
    have cP0 := (HP.out.next b_w).c0
    have cP1 := (HP.out.next b_w).c1
    have cC0 := (HC.out.next b_w).c0
    have cC1 := (HC.out.next b_w).c1
    go_wp2_with fail
    refine (HC1.out _ b_w).mono ?_
    rintro e w2 ⟨rfl, hbn⟩
    have b_w := below_then b_w hbn
    clear hbn
    clear cP0 cP1 cC0 cC1
    have cP0 := (HP.out.next b_w).c0
    have cP1 := (HP.out.next b_w).c1
    have cC0 := (HC.out.next b_w).c0
    have cC1 := (HC.out.next b_w).c1
    have cX0 := (HX.out.next' b_w).c0
    have cX1 := (HX.out.next' b_w).c1
    have cX2 := (HX.out.next' b_w).c2
    go_wp2_with fail
    refine (HC2.out _).mono ?_
    rintro e w3 ⟨rfl, hbn⟩
    have b_w := below_then b_w hbn
    clear hbn
    clear cP0 cP1 cC0 cC1 cX0 cX1 cX2
    have q0 := HR.out.next b_w
    have q1 := q0.s0 (.slice none 0 0)
    have q2 := q1.s1 (.slice none 0 0)
    have b0 := q0.c0
    have f0 := q0.free 0
    have b1 := q1.c1
    have f1 := q1.free 1
    have y0 := q2.c0
    have y1 := q2.c1
    have hrb : w.heap.size ≤ w.heap.size + 3 := by omega
    have HB3 := Lib.hid (((below_then HAL.out b_w).setCell (p := ⟨w.heap.size + 3, 0, none⟩) hrb (.slice none 0 0)).setCell (p := ⟨w.heap.size + 3, 1, none⟩) hrb (.slice none 0 0))
    clear q0 q1 q2
    go_wp2_with fail
    refine bodyPost_ret (v := .tuple #[tag none 0 0 none 0 0, .int .i64 (er : Int)]) (by simp [results, Try.results18, go_sem, y0, y1]) rfl ?_
    exact ⟨_, _, _, _, rfl, Tbl.null _ _, HB3.out⟩
  have h3 : C.chk c.kind [x] = 0 := Classical.not_not.1 h3
  rw [Tb.chg_ok h0 (hE.trans h3)]
  rw [h3] at HC2
  have HROWS := Lib.hid (fun W (hb : Below W1.heap.size W1 W) => rowsOf_any ca cc da dc t W (HTT.out.next hb))
  have hrl128 := hok.rows_le
  have hdl6 : t.data.length ≤ 6 := by rw [hok.len]; exact h6
  have hcl6 := h6
  obtain ⟨vs, hrd, hvs⟩ := dat_vals HT0.out.dat
  have HRD := Lib.hid hrd
  have HVL := Lib.hid hrd.1
  have HVS := Lib.hid hvs
  have HRES := Lib.hid (show (⟨t.cols ++ [c], t.data ++ [List.replicate (Tb.rows t) x]⟩ : Tb.T) = Tb.add t c x from rfl)
  have HCO := Lib.hid hc
  have HXO := Lib.hid hx
  have hrs : ∀ j, List.replicate (j + 1) x = List.replicate j x ++ [x] := fun j => by rw [List.replicate_succ']
  have HRS := Lib.hid hrs
  generalize Tb.add t c x = RR at *
  clear hE h0 hok h1 h2 h3 hrd hvs hc hx hrs hk12 h6
  go_enter Try.func18, Try.ntmps18
  go_wp2_with fail
  rw [HW.out]
  have b_w := Below.refl W1.heap.size W1
  have cP0 := (HP.out.next b_w).c0
  have cP1 := (HP.out.next b_w).c1
  go_wp2_with fail
  refine (HT.out _ b_w).mono ?_
  rintro e w1 ⟨rfl, hbn⟩
  have b_w := below_then b_w hbn
  clear hbn
  clear cP0 cP1
  have cP0 := (HP.out.next b_w).c0
  have cP1 := (HP.out.next b_w).c1
  have cC0 := (HC.out.next b_w).c0
  have cC1 := (HC.out.next b_w).c1
  go_wp2_with fail
  refine (HC1.out _ b_w).mono ?_
  rintro e w2 ⟨rfl, hbn⟩
  have b_w := below_then b_w hbn
  clear hbn
  clear cP0 cP1 cC0 cC1
  have cP0 := (HP.out.next b_w).c0
  have cP1 := (HP.out.next b_w).c1
  have cC0 := (HC.out.next b_w).c0
  have cC1 := (HC.out.next b_w).c1
  have cX0 := (HX.out.next' b_w).c0
  have cX1 := (HX.out.next' b_w).c1
  have cX2 := (HX.out.next' b_w).c2
  go_wp2_with fail
  refine (HC2.out _).mono ?_
  rintro e w3 ⟨rfl, hbn⟩
  have b_w := below_then b_w hbn
  clear hbn
  clear cP0 cP1 cC0 cC1 cX0 cX1 cX2
  go_wp2_with fail
  have b_w0 := b_w
  go_loopw [9, 10] (fun v i wr => ∃ j : Nat, j ≤ Tb.rows t ∧ i = .int .i64 j ∧ Hid (CRow W1.heap.size (List.replicate j x) v wr) ∧ Below W1.heap.size W1 wr) (fun _ i _ => Tb.rows t - (intOf i).toNat)
  case atStart => exact ⟨0, by omega, rfl, Lib.hid (cnilRow _ _), b_w0⟩
  clear b_w0
  case round =>
    obtain ⟨j, hj, rfl, HK, hbw⟩ := hrel
    have b_w := hbw
    have b_r := Below.refl wr.heap.size wr
    clear hbw
    have cP0 := (HP.out.next b_w).c0
    have cP1 := (HP.out.next b_w).c1
    go_wp2_with fail
    refine (HROWS.out _ b_w).mono ?_
    rintro e wa ⟨rfl, hbn⟩
    have b_w := below_then b_w hbn
    have b_r := below_then b_r hbn
    clear hbn
    clear cP0 cP1
    by_cases hlt : j < Tb.rows t
    · have hjI : (j : Int) < (Tb.rows t : Int) := by omega
      have cX0 := (HX.out.next' b_w).c0
      have cX1 := (HX.out.next' b_w).c1
      have cX2 := (HX.out.next' b_w).c2
      have HK := Lib.hid (HK.out.below b_r)
      have hst := HRS.out j
      have HST := Lib.hid hst
      have hlb : ((List.replicate j x).length + 1) * 32 ≤ 140737488355328 := by simp; omega
      have hb5 : W1.heap.size ≤ (wa.alloc (.cells #[.int .i64 x.kind, .int .u64 (x.num : Int), .string (str x.txt)] 30)).heap.size := by have := b_w.size; simp; omega
      have HBW := Lib.hid b_w
      clear hst
      go_wp2_with (at_builtin; refine wpList_append_onec rfl (.tmp 43) (.tmp 45) rfl W1.heap.size _ (List.replicate j x) rfl (HK.out.alloc_ _) wa.heap.size x rfl (World.cell?_alloc_new _ _ _ _) (World.cell?_alloc_new _ _ _ _) (World.cell?_alloc_new _ _ _ _) hlb hb5 ?_)
      intro v' w5 hown5 hb5w hg5
      have hbw5 : Below W1.heap.size W1 w5 := (HBW.out.alloc HBW.out.size _).trans hb5w
      clear hb5w hg5
      go_wp2_with fail
      exact ⟨⟨j + 1, by omega, by go_num, Lib.hid (by rw [HST.out]; exact hown5), hbw5⟩, by simp [intOf]; omega⟩
    · have hjr : j = Tb.rows t := by omega
      subst hjr
      have hjI : ¬ (Tb.rows t : Int) < (Tb.rows t : Int) := by omega
      have HK := Lib.hid (HK.out.below b_r)
      obtain ⟨la, lc, hlf, -, -⟩ := cRow_cls HK.out
      rw [List.length_replicate] at hlf
      subst hlf
      have hPlt := (HP.out.next b_w).lt
      have CP0 := (HP.out.next b_w).c0
      have CP1 := (HP.out.next b_w).c1
      have hClt := (HC.out.next b_w).lt
      have CC0 := (HC.out.next b_w).c0
      have CC1 := (HC.out.next b_w).c1
      have htw := HR.out.next b_w
      have hRlt := htw.lt
      have hBW := below_then HAL.out b_w
      have hwB : W1.heap.size ≤ wa.heap.size := b_w.size
      have hwW : w.heap.size + 3 < W1.heap.size := by have := HSZ.out; omega
      have hsm : ∀ b, b ≠ w.heap.size + 3 → ¬ (b = w.heap.size + 3) := fun b hb hc => hb hc
      have HGW := Lib.hid (HT0.out.next hBW).gls
      have HDC := Lib.hid (fun ad (e : da = some ad) j u (hj : vs[j]? = some u) => show wa.cell? (ad.add j) = some u ∧ (ad.add j).block < w.heap.size by
        have hjv : j < vs.length := (List.getElem?_eq_some_iff.1 hj).1
        obtain ⟨b2, o2, e2, hb2, x1, x2, x3, x4, -⟩ := HVS.out j (by rw [← HVL.out]; exact hjv)
        rw [e] at e2
        have e3 := Option.some.inj e2
        subst e3
        rw [show (⟨b2, o2, none⟩ : Addr).add j = ⟨b2, o2 + j, none⟩ by unfold Addr.add; split <;> simp_all]
        exact ⟨by rw [hBW.cell (p := ⟨b2, o2 + j, none⟩) hb2, x4, ← x3, hj], hb2⟩)
      have HONE := Lib.hid (one_of_reads HRD.out)
      have hncC : ca = none → cc = 0 ∧ t.cols.length = 0 := fun e => by have := HT0.out.ccap.2.2 e; have := HT0.out.ccap.1; omega
      have hncD : da = none → dc = 0 ∧ t.data.length = 0 := fun e => by have := HT0.out.dcap.2.2 e; have := HT0.out.dcap.1; omega
      have HIN := Lib.hid (show Obj wa.drew (addS (w.heap.size + 3)) (AddInit (w.heap.size + 3) (addS (w.heap.size + 3))) from fun W h1 h2 => ⟨rfl, (h1 _ rfl).trans htw⟩)
      have HVLT := Lib.hid (fun k (hk : addS (w.heap.size + 3) k) => show k < wa.drew.heap.size ∧ k = w.heap.size + 3 from ⟨by have : k = w.heap.size + 3 := hk; rw [this]; exact hRlt, hk⟩)
      clear hlt htw b_r
      go_wp2_with fail
      refine wp_letter (fun a0 ha0 => ?_)
      have A3 : a0.eval (.tmp 3) = .pointer (some ⟨w.heap.size, 0, none⟩) := by rw [ha0]; rfl
      have A4 : a0.eval (.tmp 4) = .pointer (some ⟨w.heap.size + 1, 0, none⟩) := by rw [ha0]; rfl
      have A6 : a0.eval (.tmp 6) = .pointer (some ⟨w.heap.size + 3, 0, none⟩) := by rw [ha0]; rfl
      have A9 : a0.eval (.tmp 9) = (.slice la (Tb.rows t) lc) := by rw [ha0]; rfl
      have hAS : a0.tmps.size = 62 := by rw [ha0]; rfl
      have HA0 := Lib.hid ha0
      clear ha0
      refine wp_region_inv (by kernel_rfl) (by kernel_rfl) (StJ (addTb W1.heap.size (w.heap.size + 3) (.pointer (some ⟨w.heap.size, 0, none⟩)) (.slice ca t.cols.length cc) t.cols.length t.cols c (.pointer (some ⟨w.heap.size, 1, none⟩)) (.slice da t.data.length dc) t.data.length vs (.slice la (Tb.rows t) lc)) (fun k => k = w.heap.size + 3) wa [47, 48, 49, 50, 51, 52, 53, 54, 55, 56, 57, 58, 59, 60, 61, 7]) (fun L hL0 hL1 => ⟨_, _, _, (upd_none a0).symm, St.start1 17 rfl (Kept.drew_ _) (fun i hi => hL0 i hi) undef (addS (w.heap.size + 3)) (hL1 17 (Nat.le_refl _)) rfl rfl (by kernel_rfl) trivial HVLT.out HIN.out⟩) ?hs ?hend
      case hs =>
        refine steps_cons (fun L a wx hJ hL haft K hK => ?_) ?_
        · obtain ⟨f, own, val, rfl, H⟩ := hJ
          refine wanted_step rfl ?_
          refine wp_of_run (w' := wx.alloc (.cells #[] 27)) (v := .slice (some ⟨wx.heap.size, 0, none⟩) 0 0) ?_ (hK _ _ (H.make (i := 0) (show 0 < 18 by decide) hL (fun d h => by cases h; decide) (by kernel_rfl) (fun j hj => absurd hj List.not_mem_nil) _ (fun s h => Or.inl (by cases h; rfl)) _ ((Below.refl _ _).alloc (Nat.le_refl _) _) trivial (RowIt.obj (row_empty _ _ _ _ (Nat.le_trans hwB H.kept.size)) ⟨Nat.le_refl _, by simp⟩) (Or.inr rfl)))
          have qf : ∀ n, (upd a0 f).eval (.func n) = .func (.func n) #[] #[] := fun _ => rfl
          have qc : ∀ v, (upd a0 f).eval (.const v) = v := fun _ => rfl
          generalize (upd a0 f).eval = ev at *
          go_simp
        refine steps_cons (fun L a wx hJ hL haft K hK => ?_) ?_
        · obtain ⟨f, own, val, rfl, H⟩ := hJ
          refine wanted_step rfl ?_
          have e3 := ((H.ev0 3 (by decide)).trans A3)
          refine wp_of_run (w' := wx) (v := .pointer (some ⟨w.heap.size, 0, none⟩)) ?_ (hK _ _ (H.quiet (i := 1) (show 1 < 18 by decide) hL (fun d h => by cases h; decide) (by kernel_rfl) (fun j hj => absurd hj List.not_mem_nil) _ (fun s h => Or.inl (by cases h; rfl)) rfl (fun _ _ => trivial) (Or.inr rfl)))
          have qf : ∀ n, (upd a0 f).eval (.func n) = .func (.func n) #[] #[] := fun _ => rfl
          have qc : ∀ v, (upd a0 f).eval (.const v) = v := fun _ => rfl
          generalize (upd a0 f).eval = ev at *
          go_simp
        refine steps_cons (fun L a wx hJ hL haft K hK => ?_) ?_
        · obtain ⟨f, own, val, rfl, H⟩ := hJ
          refine wanted_step rfl ?_
          have ex := (H.ev 1 48 (show 1 < 18 by decide) (haft ⟨1, .data⟩ (by simp) rfl) rfl (by rw [hAS]; decide)).trans (H.pur 1 (show 1 < 18 by decide) (haft ⟨1, .data⟩ (by simp) rfl))
          have c0 := (H.kept.cell (o := 0) hPlt (fun h => by omega)).trans CP0
          refine wp_of_run (w' := wx) (v := .slice ca t.cols.length cc) ?_ (hK _ _ (H.quiet (i := 2) (show 2 < 18 by decide) hL (fun d h => by cases h; decide) (by kernel_rfl) (fun j hj => absurd hj List.not_mem_nil) _ (fun s h => Or.inl (by cases h; rfl)) rfl (fun _ _ => trivial) (Or.inr rfl)))
          have qf : ∀ n, (upd a0 f).eval (.func n) = .func (.func n) #[] #[] := fun _ => rfl
          have qc : ∀ v, (upd a0 f).eval (.const v) = v := fun _ => rfl
          generalize (upd a0 f).eval = ev at *
          go_simp
        refine steps_cons (fun L a wx hJ hL haft K hK => ?_) ?_
        · obtain ⟨f, own, val, rfl, H⟩ := hJ
          refine wanted_step rfl ?_
          have ex := (H.ev 2 49 (show 2 < 18 by decide) (haft ⟨2, .data⟩ (by simp) rfl) rfl (by rw [hAS]; decide)).trans (H.pur 2 (show 2 < 18 by decide) (haft ⟨2, .data⟩ (by simp) rfl))
          have hbw := H.kept.below (B := w.heap.size + 3) (fun k hk => Nat.le_of_eq hk.symm) (Nat.le_trans (Nat.le_of_lt hwW) hwB)
          exact H.app (i := 3) 0 47 (show 0 < 18 by decide) (haft ⟨0, .data⟩ (by simp) rfl) rfl rfl (by rw [hAS]; decide) rfl (show 3 < 18 by decide) hL (fun d h => by cases h; decide) (by kernel_rfl) (fun j hj => absurd hj List.not_mem_nil) (fun s h => by cases h; rfl) _ 22 rfl (.agg #[.string ByteArray.empty, .int .i64 0]) 24 Try.underlying22 info_col rfl (by decide) ca t.cols.length cc (t.cols.flatMap gx) (gx_len _) ex hncC (gls_news2 (HT0.out.next (below_then (Below.refl _ _) (hBW.trans (hbw.mono (by omega))))).gls) (gx_one _) (by unfold maxLen; omega) (by omega) (Nat.le_trans hwB H.kept.size) rfl (fun _ => trivial) hK
        refine steps_cons (fun L a wx hJ hL haft K hK => ?_) ?_
        · obtain ⟨f, own, val, rfl, H⟩ := hJ
          refine wanted_step rfl ?_
          have e4 := ((H.ev0 4 (by decide)).trans A4)
          have c0 := (H.kept.cell (o := 0) hClt (fun h => by omega)).trans CC0
          have c1 := (H.kept.cell (o := 1) hClt (fun h => by omega)).trans CC1
          refine wp_of_run (w' := wx) (v := (.agg #[.string (str c.name), .int .i64 c.kind])) ?_ (hK _ _ (H.quiet (i := 4) (show 4 < 18 by decide) hL (fun d h => by cases h; decide) (by kernel_rfl) (fun j hj => absurd hj List.not_mem_nil) _ (fun s h => Or.inl (by cases h; rfl)) rfl (fun _ _ => trivial) (Or.inr rfl)))
          have qf : ∀ n, (upd a0 f).eval (.func n) = .func (.func n) #[] #[] := fun _ => rfl
          have qc : ∀ v, (upd a0 f).eval (.const v) = v := fun _ => rfl
          generalize (upd a0 f).eval = ev at *
          go_simp
        refine steps_cons (fun L a wx hJ hL haft K hK => ?_) ?_
        · obtain ⟨f, own, val, rfl, H⟩ := hJ
          refine wanted_step rfl ?_
          have ex : (upd a0 f).eval (.tmp 51) = .agg #[.string (str c.name), .int .i64 c.kind] := (H.ev 4 51 (show 4 < 18 by decide) (haft ⟨4, .data⟩ (by simp) rfl) rfl (by rw [hAS]; decide)).trans (H.pur 4 (show 4 < 18 by decide) (haft ⟨4, .data⟩ (by simp) rfl))
          have hn := heap_alloc_new wx (.cells #[.string (str c.name), .int .i64 c.kind] 27)
          refine wp_of_run (w' := wx.alloc (.cells #[.string (str c.name), .int .i64 c.kind] 27)) (v := .slice (some ⟨wx.heap.size, 0, none⟩) 1 1) ?_ (hK _ _ (H.make (i := 5) (show 5 < 18 by decide) hL (fun d h => by cases h; decide) (by kernel_rfl) (fun j hj => absurd hj List.not_mem_nil) _ (fun s h => Or.inl (by cases h; rfl)) _ ((Below.refl _ _).alloc (Nat.le_refl _) _) trivial (fun W' h1 _ => ⟨_, rfl, (by have h9 := (h1 wx.heap.size ⟨Nat.le_refl _, by simp⟩).trans hn; exact gls_one (by simp [World.cell?, h9]) (by simp [World.cell?, h9]) (lt_of_block h9))⟩) (Or.inr rfl)))
          clear hn 
          have qf : ∀ n, (upd a0 f).eval (.func n) = .func (.func n) #[] #[] := fun _ => rfl
          have qc : ∀ v, (upd a0 f).eval (.const v) = v := fun _ => rfl
          generalize (upd a0 f).eval = ev at *
          go_simp
        refine steps_cons (fun L a wx hJ hL haft K hK => ?_) ?_
        · obtain ⟨f, own, val, rfl, H⟩ := hJ
          refine wanted_step rfl ?_
          obtain ⟨g5, hv5, h5⟩ := (H.free 5 (show 5 < 18 by decide) (haft ⟨5, .data⟩ (by simp) rfl) rfl).now
          have ex := (H.ev 5 52 (show 5 < 18 by decide) (haft ⟨5, .data⟩ (by simp) rfl) rfl (by rw [hAS]; decide)).trans hv5
          have hbw := H.kept.below (B := w.heap.size + 3) (fun k hk => Nat.le_of_eq hk.symm) (Nat.le_trans (Nat.le_of_lt hwW) hwB)
          exact H.app (i := 6) 3 50 (show 3 < 18 by decide) (haft ⟨3, .data⟩ (by simp) rfl) rfl rfl (by rw [hAS]; decide) rfl (show 6 < 18 by decide) hL (fun d h => by cases h; decide) (by kernel_rfl) (fun j hj => absurd hj List.not_mem_nil) (fun s h => by cases h; rfl) _ 22 rfl (.agg #[.string ByteArray.empty, .int .i64 0]) 24 Try.underlying22 info_col rfl (by decide) (some ⟨g5, 0, none⟩) 1 1 ([c].flatMap gx) (gx_len [c]) ex (fun e => by cases e) (gls_news2 h5) (gx_one [c]) (by unfold maxLen; omega) (by omega) (Nat.le_trans hwB H.kept.size) rfl (fun _ => trivial) hK
        refine steps_cons (fun L a wx hJ hL haft K hK => ?_) ?_
        · obtain ⟨f, own, val, rfl, H⟩ := hJ
          refine wanted_step rfl ?_
          refine wp_of_run (w' := wx.alloc (.cells #[] 34)) (v := .slice (some ⟨wx.heap.size, 0, none⟩) 0 0) ?_ (hK _ _ (H.make (i := 7) (show 7 < 18 by decide) hL (fun d h => by cases h; decide) (by kernel_rfl) (fun j hj => absurd hj List.not_mem_nil) _ (fun s h => Or.inl (by cases h; rfl)) _ ((Below.refl _ _).alloc (Nat.le_refl _) _) trivial (RowIt.obj (row_empty _ _ _ _ (Nat.le_trans hwB H.kept.size)) ⟨Nat.le_refl _, by simp⟩) (Or.inr rfl)))
          have qf : ∀ n, (upd a0 f).eval (.func n) = .func (.func n) #[] #[] := fun _ => rfl
          have qc : ∀ v, (upd a0 f).eval (.const v) = v := fun _ => rfl
          generalize (upd a0 f).eval = ev at *
          go_simp
        refine steps_cons (fun L a wx hJ hL haft K hK => ?_) ?_
        · obtain ⟨f, own, val, rfl, H⟩ := hJ
          refine wanted_step rfl ?_
          have e3 := ((H.ev0 3 (by decide)).trans A3)
          refine wp_of_run (w' := wx) (v := .pointer (some ⟨w.heap.size, 1, none⟩)) ?_ (hK _ _ (H.quiet (i := 8) (show 8 < 18 by decide) hL (fun d h => by cases h; decide) (by kernel_rfl) (fun j hj => absurd hj List.not_mem_nil) _ (fun s h => Or.inl (by cases h; rfl)) rfl (fun _ _ => trivial) (Or.inr rfl)))
          have qf : ∀ n, (upd a0 f).eval (.func n) = .func (.func n) #[] #[] := fun _ => rfl
          have qc : ∀ v, (upd a0 f).eval (.const v) = v := fun _ => rfl
          generalize (upd a0 f).eval = ev at *
          go_simp
        refine steps_cons (fun L a wx hJ hL haft K hK => ?_) ?_
        · obtain ⟨f, own, val, rfl, H⟩ := hJ
          refine wanted_step rfl ?_
          have ex := (H.ev 8 55 (show 8 < 18 by decide) (haft ⟨8, .data⟩ (by simp) rfl) rfl (by rw [hAS]; decide)).trans (H.pur 8 (show 8 < 18 by decide) (haft ⟨8, .data⟩ (by simp) rfl))
          have c1 := (H.kept.cell (o := 1) hPlt (fun h => by omega)).trans CP1
          refine wp_of_run (w' := wx) (v := .slice da t.data.length dc) ?_ (hK _ _ (H.quiet (i := 9) (show 9 < 18 by decide) hL (fun d h => by cases h; decide) (by kernel_rfl) (fun j hj => absurd hj List.not_mem_nil) _ (fun s h => Or.inl (by cases h; rfl)) rfl (fun _ _ => trivial) (Or.inr rfl)))
          have qf : ∀ n, (upd a0 f).eval (.func n) = .func (.func n) #[] #[] := fun _ => rfl
          have qc : ∀ v, (upd a0 f).eval (.const v) = v := fun _ => rfl
          generalize (upd a0 f).eval = ev at *
          go_simp
        refine steps_cons (fun L a wx hJ hL haft K hK => ?_) ?_
        · obtain ⟨f, own, val, rfl, H⟩ := hJ
          refine wanted_step rfl ?_
          have ex := (H.ev 9 56 (show 9 < 18 by decide) (haft ⟨9, .data⟩ (by simp) rfl) rfl (by rw [hAS]; decide)).trans (H.pur 9 (show 9 < 18 by decide) (haft ⟨9, .data⟩ (by simp) rfl))
          have hbw := H.kept.below (B := w.heap.size + 3) (fun k hk => Nat.le_of_eq hk.symm) (Nat.le_trans (Nat.le_of_lt hwW) hwB)
          exact H.app (i := 10) 7 54 (show 7 < 18 by decide) (haft ⟨7, .data⟩ (by simp) rfl) rfl rfl (by rw [hAS]; decide) rfl (show 10 < 18 by decide) hL (fun d h => by cases h; decide) (by kernel_rfl) (fun j hj => absurd hj List.not_mem_nil) (fun s h => by cases h; rfl) _ 23 rfl (.slice none 0 0) 24 Try.underlying23 info_row rfl (by decide) da t.data.length dc vs (by rw [HVL.out]; simp) ex hncD (fun ad e j u hj => by
            obtain ⟨h8, h9⟩ := HDC.out ad e j u hj
            exact (World.cell?_of_block (H.kept.block _ (by omega) (fun h => by omega))).trans h8) HONE.out (by unfold maxLen; omega) (by omega) (Nat.le_trans hwB H.kept.size) rfl (fun _ => trivial) hK
        refine steps_cons (fun L a wx hJ hL haft K hK => ?_) ?_
        · obtain ⟨f, own, val, rfl, H⟩ := hJ
          refine wanted_step rfl ?_
          have e9 := ((H.ev0 9 (by decide)).trans A9)
          refine wp_of_run (w' := wx) (v := (.slice la (Tb.rows t) lc)) ?_ (hK _ _ (H.quiet (i := 11) (show 11 < 18 by decide) hL (fun d h => by cases h; decide) (by kernel_rfl) (fun j hj => absurd hj List.not_mem_nil) _ (fun s h => Or.inl (by cases h; rfl)) rfl (fun _ _ => trivial) (Or.inr rfl)))
          have qf : ∀ n, (upd a0 f).eval (.func n) = .func (.func n) #[] #[] := fun _ => rfl
          have qc : ∀ v, (upd a0 f).eval (.const v) = v := fun _ => rfl
          generalize (upd a0 f).eval = ev at *
          go_simp
        refine steps_cons (fun L a wx hJ hL haft K hK => ?_) ?_
        · obtain ⟨f, own, val, rfl, H⟩ := hJ
          refine wanted_step rfl ?_
          have ex := (H.ev 11 58 (show 11 < 18 by decide) (haft ⟨11, .data⟩ (by simp) rfl) rfl (by rw [hAS]; decide)).trans (H.pur 11 (show 11 < 18 by decide) (haft ⟨11, .data⟩ (by simp) rfl))
          have hn := heap_alloc_new wx (.cells #[(.slice la (Tb.rows t) lc)] 34)
          refine wp_of_run (w' := wx.alloc (.cells #[(.slice la (Tb.rows t) lc)] 34)) (v := .slice (some ⟨wx.heap.size, 0, none⟩) 1 1) ?_ (hK _ _ (H.make (i := 12) (show 12 < 18 by decide) hL (fun d h => by cases h; decide) (by kernel_rfl) (fun j hj => absurd hj List.not_mem_nil) _ (fun s h => Or.inl (by cases h; rfl)) _ ((Below.refl _ _).alloc (Nat.le_refl _) _) trivial (fun W' h1 _ => ⟨_, rfl, (h1 wx.heap.size ⟨Nat.le_refl _, by simp⟩).trans hn⟩) (Or.inr rfl)))
          clear hn 
          have qf : ∀ n, (upd a0 f).eval (.func n) = .func (.func n) #[] #[] := fun _ => rfl
          have qc : ∀ v, (upd a0 f).eval (.const v) = v := fun _ => rfl
          generalize (upd a0 f).eval = ev at *
          go_simp
        refine steps_cons (fun L a wx hJ hL haft K hK => ?_) ?_
        · obtain ⟨f, own, val, rfl, H⟩ := hJ
          refine wanted_step rfl ?_
          obtain ⟨g5, hv5, h5⟩ := (H.free 12 (show 12 < 18 by decide) (haft ⟨12, .data⟩ (by simp) rfl) rfl).now
          have ex := (H.ev 12 59 (show 12 < 18 by decide) (haft ⟨12, .data⟩ (by simp) rfl) rfl (by rw [hAS]; decide)).trans hv5
          have hbw := H.kept.below (B := w.heap.size + 3) (fun k hk => Nat.le_of_eq hk.symm) (Nat.le_trans (Nat.le_of_lt hwW) hwB)
          exact H.app (i := 13) 10 57 (show 10 < 18 by decide) (haft ⟨10, .data⟩ (by simp) rfl) rfl rfl (by rw [hAS]; decide) rfl (show 13 < 18 by decide) hL (fun d h => by cases h; decide) (by kernel_rfl) (fun j hj => absurd hj List.not_mem_nil) (fun s h => by cases h; rfl) _ 23 rfl (.slice none 0 0) 24 Try.underlying23 info_row rfl (by decide) (some ⟨g5, 0, none⟩) 1 1 [(.slice la (Tb.rows t) lc)] rfl ex (fun e => by cases e) (fun ad e j u hj => by
            have e := Option.some.inj e
            subst e
            match j, hj with
            | 0, hj =>
              simp at hj
              subst hj
              simp [World.cell?, Addr.add, h5]) (fun y hy => by rw [List.mem_singleton.1 hy]; rfl) (by unfold maxLen; omega) (by omega) (Nat.le_trans hwB H.kept.size) rfl (fun _ => trivial) hK
        refine steps_cons (fun L a wx hJ hL haft K hK => ?_) ?_
        · obtain ⟨f, own, val, rfl, H⟩ := hJ
          refine wanted_step rfl ?_
          have ho6 := (H.mine 6 14 (show 6 < 18 by decide) (haft ⟨6, .data⟩ (by simp) rfl) rfl hL)
          have ho13 := (H.mine 13 14 (show 13 < 18 by decide) (haft ⟨13, .data⟩ (by simp) rfl) rfl hL)
          obtain ⟨g, c1, hv6, hs6, hr6⟩ := ho6.now
          obtain ⟨g2, c2, hv13, hs13, hr13⟩ := ho13.now
          have e53 := (H.ev 6 53 (show 6 < 18 by decide) (haft ⟨6, .data⟩ (by simp) rfl) rfl (by rw [hAS]; decide)).trans hv6
          have e60 := (H.ev 13 60 (show 13 < 18 by decide) (haft ⟨13, .data⟩ (by simp) rfl) rfl (by rw [hAS]; decide)).trans hv13
          refine wp_of_run (w' := wx) (v := .agg #[.slice (some ⟨g, 0, none⟩) (0 + t.cols.length + 1) c1, .slice (some ⟨g2, 0, none⟩) (0 + t.data.length + 1) c2]) ?_ (hK _ _ (H.step (i := 14) (show 14 < 18 by decide) hL (fun d h => by cases h; decide) (by kernel_rfl) (fun j hj => absurd hj List.not_mem_nil) _ (fun s h => Or.inl (by cases h; rfl)) (fun z => own 6 z ∨ own 13 z) wx H.kept (Nat.le_refl _) (fun z _ => Or.inl rfl) (fun z hz => ?_) trivial (fun W' h1 h2 => ?_) (Or.inr rfl)))
          · have qf : ∀ n, (upd a0 f).eval (.func n) = .func (.func n) #[] #[] := fun _ => rfl; have qc : ∀ v, (upd a0 f).eval (.const v) = v := fun _ => rfl; generalize (upd a0 f).eval = ev at *; go_simp
          · have al6 : ∀ e, (tab (addTb W1.heap.size (w.heap.size + 3) (.pointer (some ⟨w.heap.size, 0, none⟩)) (.slice ca t.cols.length cc) t.cols.length t.cols c (.pointer (some ⟨w.heap.size, 1, none⟩)) (.slice da t.data.length dc) t.data.length vs (.slice la (Tb.rows t) lc)) 6).cons = some e → L e = false := fun e h => by cases h; exact hL
            have al13 : ∀ e, (tab (addTb W1.heap.size (w.heap.size + 3) (.pointer (some ⟨w.heap.size, 0, none⟩)) (.slice ca t.cols.length cc) t.cols.length t.cols c (.pointer (some ⟨w.heap.size, 1, none⟩)) (.slice da t.data.length dc) t.data.length vs (.slice la (Tb.rows t) lc)) 13).cons = some e → L e = false := fun e h => by cases h; exact hL
            rcases hz with hz | hz
            · exact ⟨(H.rng 6 z (show 6 < 18 by decide) (haft ⟨6, .data⟩ (by simp) rfl) al6 hz).1, Or.inr ⟨6, (show 6 < 18 by decide), (haft ⟨6, .data⟩ (by simp) rfl), rfl, hz⟩⟩
            · exact ⟨(H.rng 13 z (show 13 < 18 by decide) (haft ⟨13, .data⟩ (by simp) rfl) al13 hz).1, Or.inr ⟨13, (show 13 < 18 by decide), (haft ⟨13, .data⟩ (by simp) rfl), rfl, hz⟩⟩
          · exact ⟨g, c1, g2, c2, rfl, Or.inl hs6, Or.inr hs13, row_blk hr6 (h1 g (Or.inl hs6)), row_blk hr13 (h1 g2 (Or.inr hs13))⟩
        refine steps_cons (fun L a wx hJ hL haft K hK => ?_) ?_
        · obtain ⟨f, own, val, rfl, H⟩ := hJ
          refine wanted_step rfl ?_
          obtain ⟨hcR, htw⟩ := (H.mine 17 15 (show 17 < 18 by decide) (H.ini 17 (show 17 < 18 by decide) (List.mem_singleton.2 rfl)) rfl hL).now
          have hL17 := H.ini 17 (show 17 < 18 by decide) (List.mem_singleton.2 rfl)
          have ho14 := (H.mine 14 15 (show 14 < 18 by decide) (haft ⟨14, .data⟩ (by simp) rfl) rfl hL)
          obtain ⟨g, c1, g2, c2, hv14, hsg, hsg2, hr, hr2⟩ := ho14.now
          have e6 := ((H.ev0 6 (by decide)).trans A6)
          have e61 := (H.ev 14 61 (show 14 < 18 by decide) (haft ⟨14, .data⟩ (by simp) rfl) rfl (by rw [hAS]; decide)).trans hv14
          have al14 : ∀ e, (tab (addTb W1.heap.size (w.heap.size + 3) (.pointer (some ⟨w.heap.size, 0, none⟩)) (.slice ca t.cols.length cc) t.cols.length t.cols c (.pointer (some ⟨w.heap.size, 1, none⟩)) (.slice da t.data.length dc) t.data.length vs (.slice la (Tb.rows t) lc)) 14).cons = some e → L e = false := fun e h => by cases h; exact hL
          have al17 : ∀ e, (tab (addTb W1.heap.size (w.heap.size + 3) (.pointer (some ⟨w.heap.size, 0, none⟩)) (.slice ca t.cols.length cc) t.cols.length t.cols c (.pointer (some ⟨w.heap.size, 1, none⟩)) (.slice da t.data.length dc) t.data.length vs (.slice la (Tb.rows t) lc)) 17).cons = some e → L e = false := fun e h => by cases h; exact hL
          have hne : ∀ z, own 14 z → z ≠ w.heap.size + 3 := fun z hz e => by
            have := H.dis 14 17 z (show 14 < 18 by decide) (show 17 < 18 by decide) (haft ⟨14, .data⟩ (by simp) rfl) hL17 al14 al17 hz (by rw [e]; exact hcR)
            cases this
          have hRl := htw.lt
          have c0 := htw.c0
          have f0 := htw.free 0
          have k1 := htw.s0 (.slice (some ⟨g, 0, none⟩) (0 + t.cols.length + 1) c1)
          have c1' := k1.c1
          have f1 := k1.free 1
          have k2 := k1.s1 (.slice (some ⟨g2, 0, none⟩) (0 + t.data.length + 1) c2)
          have hbl : ∀ z, z ≠ w.heap.size + 3 → ((wx.setCell ⟨w.heap.size + 3, 0, none⟩ (.slice (some ⟨g, 0, none⟩) (0 + t.cols.length + 1) c1)).setCell ⟨w.heap.size + 3, 1, none⟩ (.slice (some ⟨g2, 0, none⟩) (0 + t.data.length + 1) c2)).heap[z]? = wx.heap[z]? := fun z hz => by
            rw [heap_set _ _ _ _ hz, heap_set _ _ _ _ hz]
          refine wp_of_skip (w' := (wx.setCell ⟨w.heap.size + 3, 0, none⟩ (.slice (some ⟨g, 0, none⟩) (0 + t.cols.length + 1) c1)).setCell ⟨w.heap.size + 3, 1, none⟩ (.slice (some ⟨g2, 0, none⟩) (0 + t.data.length + 1) c2)) ?_ (hK _ _ (H.turn 17 (show 17 < 18 by decide) hL17 rfl (i := 15) (show 15 < 18 by decide) hL (fun d h => by cases h) (by kernel_rfl) (fun j hj => absurd hj List.not_mem_nil) undef (fun s h => by cases h) (w.heap.size + 3) hcR _ (((Below.refl _ _).setCell (p := ⟨w.heap.size + 3, 0, none⟩) (Nat.zero_le _) _).setCell (p := ⟨w.heap.size + 3, 1, none⟩) (Nat.zero_le _) _) (fun z _ hz => hbl z hz) trivial (fun z => own 17 z ∨ own 14 z) (fun z hz => ?_) (fun W' h1 h2 => ?_) (Or.inl rfl)))
          · clear k2 ho14 hbl hne al14 al17
            simp only [Nat.zero_add] at c1' f1
            have qf : ∀ n, (upd a0 f).eval (.func n) = .func (.func n) #[] #[] := fun _ => rfl; have qc : ∀ v, (upd a0 f).eval (.const v) = v := fun _ => rfl; generalize (upd a0 f).eval = ev at *; go_simp
          · rcases hz with hz | hz
            · exact ⟨by simpa using (H.rng 17 z (show 17 < 18 by decide) hL17 al17 hz).1, Or.inr (Or.inl hz)⟩
            · exact ⟨by simpa using (H.rng 14 z (show 14 < 18 by decide) (haft ⟨14, .data⟩ (by simp) rfl) al14 hz).1, Or.inr (Or.inr ⟨14, (show 14 < 18 by decide), (haft ⟨14, .data⟩ (by simp) rfl), rfl, hz⟩)⟩
          · exact ⟨g, c1, g2, c2, (h1 _ (Or.inl hcR)).trans k2, row_blk hr ((h1 g (Or.inr hsg)).trans (hbl g (hne g hsg))), row_blk hr2 ((h1 g2 (Or.inr hsg2)).trans (hbl g2 (hne g2 hsg2)))⟩
        refine steps_cons (fun L a wx hJ hL haft K hK => ?_) ?_
        · obtain ⟨f, own, val, rfl, H⟩ := hJ
          refine wanted_step rfl ?_
          refine wp_of_run (w' := wx) (v := .int .i64 0) ?_ (hK _ _ (H.quiet (i := 16) (show 16 < 18 by decide) hL (fun d h => by cases h; decide) (by kernel_rfl) (fun j hj => absurd hj List.not_mem_nil) _ (fun s h => Or.inl (by cases h; rfl)) rfl (fun _ _ => trivial) (Or.inr rfl)))
          have qf : ∀ n, (upd a0 f).eval (.func n) = .func (.func n) #[] #[] := fun _ => rfl
          have qc : ∀ v, (upd a0 f).eval (.const v) = v := fun _ => rfl
          generalize (upd a0 f).eval = ev at *
          go_simp
        exact steps_nil
      case hend =>
        intro L a wz hall hJ
        obtain ⟨f, own, val, rfl, H⟩ := hJ
        obtain ⟨g, c1, g2, c2, htw, hr, hr2⟩ := (H.free 15 (show 15 < 18 by decide) (hall _) rfl).now
        have hv16 := H.pur 16 (show 16 < 18 by decide) (hall _)
        have hv16 : val 16 = .int .i64 0 := hv16
        have hkep := H.kept
        have s47 := H.slot 0 47 (show 0 < 18 by decide) (hall _) rfl
        have s48 := H.slot 1 48 (show 1 < 18 by decide) (hall _) rfl
        have s49 := H.slot 2 49 (show 2 < 18 by decide) (hall _) rfl
        have s50 := H.slot 3 50 (show 3 < 18 by decide) (hall _) rfl
        have s51 := H.slot 4 51 (show 4 < 18 by decide) (hall _) rfl
        have s52 := H.slot 5 52 (show 5 < 18 by decide) (hall _) rfl
        have s53 := H.slot 6 53 (show 6 < 18 by decide) (hall _) rfl
        have s54 := H.slot 7 54 (show 7 < 18 by decide) (hall _) rfl
        have s55 := H.slot 8 55 (show 8 < 18 by decide) (hall _) rfl
        have s56 := H.slot 9 56 (show 9 < 18 by decide) (hall _) rfl
        have s57 := H.slot 10 57 (show 10 < 18 by decide) (hall _) rfl
        have s58 := H.slot 11 58 (show 11 < 18 by decide) (hall _) rfl
        have s59 := H.slot 12 59 (show 12 < 18 by decide) (hall _) rfl
        have s60 := H.slot 13 60 (show 13 < 18 by decide) (hall _) rfl
        have s61 := H.slot 14 61 (show 14 < 18 by decide) (hall _) rfl
        have s7 := H.slot 16 7 (show 16 < 18 by decide) (hall _) rfl
        have hup := upd_puts a0 [47, 48, 49, 50, 51, 52, 53, 54, 55, 56, 57, 58, 59, 60, 61, 7] f (fun _ => none) (fun s hs => H.off s hs) (fun s hs => by simp only [List.mem_cons, List.not_mem_nil, or_false] at hs; rcases hs with rfl | rfl | rfl | rfl | rfl | rfl | rfl | rfl | rfl | rfl | rfl | rfl | rfl | rfl | rfl | rfl <;> exact ⟨_, by assumption⟩)
        rw [upd_none] at hup
        simp only [List.map_cons, List.map_nil, s47, s48, s49, s50, s51, s52, s53, s54, s55, s56, s57, s58, s59, s60, s61, s7, Option.getD_some, hv16] at hup
        rw [hup]
        have hbz := H.kept.below (B := w.heap.size + 3) (fun z hz => Nat.le_of_eq hz.symm) (Nat.le_trans (Nat.le_of_lt hwW) hwB)
        clear H hup hall hAS hv16 s47 s48 s49 s50 s51 s52 s53 s54 s55 s56 s57 s58 s59 s60 s61 s7
        generalize val 0 = y0
        generalize val 1 = y1
        generalize val 2 = y2
        generalize val 3 = y3
        generalize val 4 = y4
        generalize val 5 = y5
        generalize val 6 = y6
        generalize val 7 = y7
        generalize val 8 = y8
        generalize val 9 = y9
        generalize val 10 = y10
        generalize val 11 = y11
        generalize val 12 = y12
        generalize val 13 = y13
        generalize val 14 = y14
        rw [HA0.out]
        clear HA0
        simp only [puts, Act.put]
        have hb2 := hBW.trans (hbz.mono (by omega))
        have HK2 := Lib.hid (show CRow W1.heap.size (List.replicate (Tb.rows t) x) (.slice la (Tb.rows t) lc) wz from row_move HK.out (fun g hg => hkep.block g (HK.out.lt g hg).2 (fun e => by have := (HK.out.lt g hg).1; omega)))
        rw [Nat.zero_add] at htw hr hr2
        have y0 := htw.c0
        have y1 := htw.c1
        have HRW := Lib.hid hr
        have HRW2 := Lib.hid hr2
        clear hbz hkep hr hr2 htw A3 A4 A6 A9
        go_simp
        go_wp2_with fail
        refine bodyPost_ret (v := .tuple #[tag (some ⟨g, 0, none⟩) (t.cols.length + 1) c1 (some ⟨g2, 0, none⟩) (t.data.length + 1) c2, .int .i64 0]) (by simp [results, Try.results18, go_sem, y0, y1]) rfl ?_
        have hg : GRow W1.heap.size (t.cols ++ [c]) (.slice (some ⟨g, 0, none⟩) (t.cols.length + 1) c1) wz := by
          unfold GRow
          rw [List.flatMap_append, List.length_append]
          exact HRW.out
        have hv : VRow W1.heap.size (vs ++ [.slice la (Tb.rows t) lc]) (.slice (some ⟨g2, 0, none⟩) (t.data.length + 1) c2) wz := by
          unfold VRow
          rw [List.length_append, HVL.out]
          exact HRW2.out
        have hri := (CRow.rowIn HK2.out (fun y hy => by rw [List.eq_of_mem_replicate hy]; exact HXO.out)).2
        have hrd2 := (HRD.out.next hb2).snoc hri
        rw [List.length_replicate] at hrd2
        obtain ⟨xa, xc, he, hd, hdc⟩ := vrow_dat hv hrd2
        injection he with he1 _ he3
        subst he1 he3
        obtain ⟨ga, gc, hf, hgl, hgc⟩ := grow_gls hg
        injection hf with hf1 _ hf3
        subst hf1 hf3
        rw [← HRES.out]
        refine ⟨_, _, _, _, by simp only [List.length_append]; rfl, ⟨hgl, hd, fun y hy => ?_, hgc, hdc⟩, hb2⟩
        rcases List.mem_append.1 hy with hy | hy
        · exact HT0.out.gOk y hy
        · rw [List.mem_singleton.1 hy]; exact HCO.out
end Go.Proofs.Ytnjnalehfhfefaa
