/- The walk of the closure of table.Add. -/
import Derived.Deep.CutRange
import Derived.Deep.DeepCutAuto
import Derived.Test.YtnjnalehfhfefaaTbRep
import Derived.Test.YtnjnalehfhfefaaTw
namespace Go.Proofs.Ytnjnalehfhfefaa
open Go.RowKit
set_option linter.unusedVariables false

/-- a column more -/
theorem Own.col {w9 w4 : World} {B G : Nat} {cols : List Tb.Col} {l : List (List C.Cl)} {cv dv v' : Value} {vs : List Value} {c : Tb.Col} {o : Obj} (h : Own w9 B G ⟨cols, l⟩ cv dv vs)
    (hok : gOk c) (h4 : GRow B (cols ++ [c]) v' w4) (hfar : ∀ k, k < (w9.alloc o).heap.size → some k ≠ cv.ownBlock → w4.heap[k]? = (w9.alloc o).heap[k]?) : Own (w4.setCell ⟨G, 0, none⟩ v') B G ⟨cols ++ [c], l⟩ v' dv vs := by
  have hal : Below w9.heap.size w9 (w9.alloc o) := (Below.refl _ _).alloc (Nat.le_refl _) _
  have hA := h.move hal
  have same : ∀ g, g < (w9.alloc o).heap.size → some g ≠ cv.ownBlock → g ≠ G → (w4.setCell ⟨G, 0, none⟩ v').heap[g]? = (w9.alloc o).heap[g]? := fun g h1 h2 h3 => by
    rw [heap_set _ _ _ _ h3]; exact hfar g h1 h2
  have tw4 : Two w4 G 25 cv dv := (hfar G hA.lt hA.gG).trans hA.two
  refine ⟨tw4.s0 v', h.ge, ?_, ?_, h.len, ?_, h.far, ?_, h.okC⟩
  · exact row_move h4 (fun g hg => heap_set _ _ _ _ (fun e => two_kind h4 tw4 (by decide) (by rw [hg, e])))
  · exact row_move hA.vro (fun g hg => same g (hA.vro.lt g hg).2 (row_kinds hA.vro hA.gro (by decide) hg) (fun e => hA.gD (by rw [hg, e])))
  · intro i hi
    obtain ⟨v, h1, h2⟩ := hA.row i hi
    exact ⟨v, h1, row_move h2 (fun g hg => same g (h2.lt g hg).2 (row_kinds h2 hA.gro (by decide) hg) (fun e => two_kind h2 hA.two (by decide) (by rw [hg, e])))⟩
  · intro x hx
    rcases List.mem_append.1 hx with hx | hx
    · exact h.okG x hx
    · rw [List.mem_singleton.1 hx]; exact hok
theorem two_ne {w : World} {B G b : Nat} {t : Tb.T} {cv dv : Value} {vs : List Value} (h : Own w B G t cv dv vs) (hb : b < B) : some b ≠ dv.ownBlock := fun e => by
  have := (h.vro.lt b e.symm).1
  omega
theorem two_ne2 {w : World} {B G b : Nat} {t : Tb.T} {cv dv : Value} {vs : List Value} (h : Own w B G t cv dv vs) (hb : b < B) : some b ≠ cv.ownBlock := fun e => by
  have := (h.gro.lt b e.symm).1
  omega
theorem grow_form {B : Nat} {l : List Tb.Col} {v : Value} {w : World} (h : GRow B l v w) : ∃ a c, v = .slice a l.length c := by
  rcases h.2 with ⟨rfl, h0⟩ | ⟨g, cap, cur, rfl, _⟩
  · exact ⟨none, 0, by rw [h0]⟩
  · exact ⟨_, _, rfl⟩
theorem grow_form1 {B : Nat} {l : List Tb.Col} {c : Tb.Col} {v : Value} {w : World} (h : GRow B (l ++ [c]) v w) : ∃ a cc, v = .slice a (l.length + 1) cc := by
  obtain ⟨a, cc, h⟩ := grow_form h
  exact ⟨a, cc, by rw [h, List.length_append]; rfl⟩
theorem gls_one {w : World} {b : Nat} {c : Tb.Col} (h0 : w.cell? ⟨b, 0, none⟩ = some (.string (str c.name))) (h1 : w.cell? ⟨b, 1, none⟩ = some (.int .i64 c.kind)) (hb : b < w.heap.size) : Gls w w.heap.size (some ⟨b, 0, none⟩) [c] := by
  intro _
  refine ⟨b, 0, rfl, hb, fun i hi => ?_⟩
  obtain rfl : i = 0 := by simp at hi; omega
  exact ⟨h0, h1⟩
theorem cls_one {w : World} {b : Nat} {c : C.Cl} (h0 : w.cell? ⟨b, 0, none⟩ = some (.int .i64 c.kind)) (h1 : w.cell? ⟨b, 1, none⟩ = some (.int .u64 (c.num : Int))) (h2 : w.cell? ⟨b, 2, none⟩ = some (.string (str c.txt))) (hb : b < w.heap.size) : Cls w w.heap.size (some ⟨b, 0, none⟩) [c] := by
  intro _
  refine ⟨b, 0, rfl, hb, fun i hi => ?_⟩
  obtain rfl : i = 0 := by simp at hi; omega
  exact ⟨h0, h1, h2⟩

set_option maxHeartbeats 4000000 in
set_option maxRecDepth 100000 in
theorem add1_any (b0 b1 : Nat) (c : Tb.Col) (x : C.Cl) (t : Tb.T) (w : World) (B G : Nat) (cv dv : Value) (vs : List Value) (hO : Own w B G t cv dv vs) (h0 : Tb.check t = 0) (hb0 : b0 < B) (hb1 : b1 < B)
    (hC : Two w b0 27 (.string (str c.name)) (.int .i64 c.kind)) (hX : Tri w b1 (.int .i64 x.kind) (.int .u64 (x.num : Int)) (.string (str x.txt))) (hc : gOk c) (hx : cOk x) :
    Calls Try.prog 42 #[.pointer (some ⟨G, 0, none⟩), .pointer (some ⟨b0, 0, none⟩), .pointer (some ⟨b1, 0, none⟩)] w (ClPost B G (Tb.addE t c x) (Tb.add t c x) w) := by
  obtain ⟨ca, cc, da, dc, rfl, rfl, hTB⟩ := hO.tbl
  have HTB := Lib.hid hTB
  have hok := Tb.check_ok h0
  have h6 := hok.six
  have hdl := hok.len
  have hrw : Tb.rows t ≤ 128 := by
    by_cases hz : t.cols.length = 0
    · unfold Tb.rows; rw [List.eq_nil_of_length_eq_zero (show t.data.length = 0 by omega)]; simp
    · have := hok.many 0 (by omega); unfold Tb.rows; omega
  have hBw := hO.base
  have H1 := Lib.hid (fun W (hb : Below w.heap.size w W) => show Calls Try.prog 43 #[.slice ca t.cols.length cc, .agg #[.string (str c.name), .int .i64 c.kind]] W (CErrPost (Tb.fresh t.cols c) W) from fresh_any ca cc t.cols c W (by unfold maxLen; omega) (HTB.out.next hb).gls hc)
  have H2 := Lib.hid (fun W b (hb : b < W.heap.size) (q0 : W.cell? ⟨b, 0, none⟩ = some (.int .i64 x.kind)) (q1 : W.cell? ⟨b, 1, none⟩ = some (.int .u64 (x.num : Int))) (q2 : W.cell? ⟨b, 2, none⟩ = some (.string (str x.txt))) => show Calls Try.prog 44 #[.int .i64 c.kind, .slice (some ⟨b, 0, none⟩) 1 1] W (CErrPost (C.chk c.kind [x]) W) from ncheck_any c.kind (some ⟨b, 0, none⟩) 1 [x] W (by simp [maxLen]) (by intro y hy; rw [List.mem_singleton.1 hy]; exact hx) (cls_one q0 q1 q2 hb))
  have H3 := Lib.hid (fun W (hb : Below w.heap.size w W) => trows_any ca cc da dc t W (HTB.out.next hb))
  have H4 := Lib.hid (fun W b (hb : b < W.heap.size) (q0 : W.cell? ⟨b, 0, none⟩ = some (.int .i64 x.kind)) (q1 : W.cell? ⟨b, 1, none⟩ = some (.int .u64 (x.num : Int))) (q2 : W.cell? ⟨b, 2, none⟩ = some (.string (str x.txt))) => repeatc_all b 0 1 (Tb.rows t) x W (by omega) hb q0 q1 q2)
  have hl1 := Tb.fresh_lt t.cols c
  have hl2 := Tb.chk_lt9 c.kind x
  have htw := hO.two
  have HTW := Lib.hid htw
  have HCW := Lib.hid hC
  have HXW := Lib.hid hX
  have HO := Lib.hid hO
  have p0 := fun p : WB w => p.cell htw.lt htw.c0
  have p1 := fun p : WB w => p.cell hC.lt hC.c0
  have p2 := fun p : WB w => p.cell hC.lt hC.c1
  have HXOK := Lib.hid hx
  have HCOK := Lib.hid hc
  have HADD := Lib.hid (show Tb.add t c x = ⟨t.cols ++ [c], t.data ++ [List.replicate (Tb.rows t) x]⟩ from rfl)
  have HRL := Lib.hid (show (List.replicate (Tb.rows t) x).length = Tb.rows t by simp)
  unfold Tb.addE
  generalize Tb.add t c x = R at *
  by_cases e1 : Tb.fresh t.cols c ≠ 0
  · rw [if_pos e1]
    generalize Tb.fresh t.cols c = er at *
    have g1 : ((er : Int) != 0) = true := by rw [bne_iff_ne]; omega
    clear hO hC hX hc hx h0 hok hTB htw
    go_enter Try.func42, Try.ntmps42
    go_wp2_with fail
    refine wp_region_wb (by kernel_rfl) (by kernel_rfl) ?_
    repeat (quiet_step ((go_at_call 43; refine calls_wb (v := .int .i64 (er : Int)) ?_; exact (H1.out _ (WB.below _)))))
    refine wpQuiet_nil ?_
    rintro _ ⟨p, rfl⟩
    have hp := p.below
    clear p0 p1 p2
    go_wp2_with fail
    go_ret
    exact ⟨rfl, hp.mono hBw, fun h => by omega⟩
  rw [if_neg e1]
  have e1 : Tb.fresh t.cols c = 0 := by omega
  rw [e1] at H1
  clear e1 hl1
  by_cases e2 : t.cols.length = 6
  · rw [if_pos e2]
    have g1 : ((t.cols.length : Int) == 6) = true := by rw [beq_iff_eq]; omega
    clear hO hC hX hc hx h0 hok hTB htw e2
    go_enter Try.func42, Try.ntmps42
    go_wp2_with fail
    refine wp_region_wb (by kernel_rfl) (by kernel_rfl) ?_
    repeat (quiet_step ((go_at_call 43; refine calls_wb (v := .int .i64 0) ?_; exact (H1.out _ (WB.below _)))))
    refine wpQuiet_nil ?_
    rintro _ ⟨p, rfl⟩
    have hp := p.below
    have q0 := (HTW.out.next hp).c0
    clear p0 p1 p2
    go_wp2_with fail
    go_ret
    exact ⟨rfl, hp.mono hBw, fun h => by omega⟩
  rw [if_neg e2]
  have g1 : ((t.cols.length : Int) == 6) = false := by rw [beq_eq_false_iff_ne]; omega
  by_cases e3 : C.chk c.kind [x] ≠ 0
  · generalize C.chk c.kind [x] = er at *
    have g2 : ((er : Int) != 0) = true := by rw [bne_iff_ne]; omega
    clear hO hC hX hc hx h0 hok hTB htw e2
    go_enter Try.func42, Try.ntmps42
    go_wp2_with fail
    refine wp_region_wb (by kernel_rfl) (by kernel_rfl) ?_
    repeat (quiet_step ((go_at_call 43; refine calls_wb (v := .int .i64 0) ?_; exact (H1.out _ (WB.below _)))))
    refine wpQuiet_nil ?_
    rintro _ ⟨p, rfl⟩
    have hp := p.below
    have q0 := (HTW.out.next hp).c0
    have x0 := (HXW.out.next hp).c0
    have x1 := (HXW.out.next hp).c1
    have x2 := (HXW.out.next hp).c2
    clear p0 p1 p2
    generalize p.w = W1 at *
    have hal : Below W1.heap.size W1 (W1.alloc (.cells #[.int .i64 x.kind, .int .u64 (x.num : Int), .string (str x.txt)] 30)) := (Below.refl _ _).alloc (Nat.le_refl _) _
    have k1 := ((HCW.out.next hp).next hal).c1
    have HCK := Lib.hid (H2.out (W1.alloc (.cells #[.int .i64 x.kind, .int .u64 (x.num : Int), .string (str x.txt)] 30)) W1.heap.size (by simp) (World.cell?_alloc_new _ _ _ _) (World.cell?_alloc_new _ _ _ _) (World.cell?_alloc_new _ _ _ _))
    go_wp2_with fail
    refine HCK.out.mono ?_
    rintro e w3 ⟨rfl, hb3⟩
    go_wp2_with fail
    go_ret
    exact ⟨rfl, (below_then hp (below_then hal hb3)).mono hBw, fun h => by omega⟩
  have e3 : C.chk c.kind [x] = 0 := by omega
  rw [e3] at H2 ⊢
  clear e3 hl2 hO hC hX hc hx h0 hok hTB htw e2
  go_enter Try.func42, Try.ntmps42
  go_wp2_with fail
  refine wp_region_wb (by kernel_rfl) (by kernel_rfl) ?_
  repeat (quiet_step ((go_at_call 43; refine calls_wb (v := .int .i64 0) ?_; exact (H1.out _ (WB.below _)))))
  refine wpQuiet_nil ?_
  rintro _ ⟨p, rfl⟩
  have hp := p.below
  have q0 := (HTW.out.next hp).c0
  have x0 := (HXW.out.next hp).c0
  have x1 := (HXW.out.next hp).c1
  have x2 := (HXW.out.next hp).c2
  clear p0 p1 p2
  generalize p.w = W1 at *
  have hal : Below W1.heap.size W1 (W1.alloc (.cells #[.int .i64 x.kind, .int .u64 (x.num : Int), .string (str x.txt)] 30)) := (Below.refl _ _).alloc (Nat.le_refl _) _
  have k1 := ((HCW.out.next hp).next hal).c1
  have HTR := Lib.hid (tri_new W1 (.int .i64 x.kind) (.int .u64 (x.num : Int)) (.string (str x.txt)))
  have HCK := Lib.hid (H2.out (W1.alloc (.cells #[.int .i64 x.kind, .int .u64 (x.num : Int), .string (str x.txt)] 30)) W1.heap.size (by simp) (World.cell?_alloc_new _ _ _ _) (World.cell?_alloc_new _ _ _ _) (World.cell?_alloc_new _ _ _ _))
  go_wp2_with fail
  refine HCK.out.mono ?_
  rintro e w3 ⟨rfl, hb3⟩
  have HTR3 := Lib.hid (HTR.out.next hb3)
  have hb3 : Below w.heap.size w w3 := below_then hp (below_then hal hb3)
  have HO3 := Lib.hid (HO.out.move hb3)
  have HTW3 := Lib.hid HO3.out.two
  have HC3 := Lib.hid (HCW.out.next hb3)
  obtain ⟨L, hL⟩ : ∃ L, L = W1.heap.size := ⟨_, rfl⟩
  rw [← hL] at HTR3 ⊢
  have hgd := HO3.out.gD
  have hgg := HO3.out.gG
  have hB3 := HO3.out.base
  have hL3 := HTR3.out.lt
  have y0 := HTW3.out.c0
  have y1 := HTW3.out.c1
  have HVR := Lib.hid HO3.out.vro
  have hvl : (vs.length + 1) * 24 ≤ 140737488355328 := by have := HO3.out.len; omega
  clear hdl
  have HPU := Lib.hid (fun w9 w4 v' u o => Own.push (wr := w3) (w9 := w9) (w4 := w4) (v' := v') (u := u) (row := List.replicate (Tb.rows t) x) (o := o) HO3.out)
  have HRK := Lib.hid (show ∀ y ∈ List.replicate (Tb.rows t) x, cOk y from fun y hy => by rw [List.eq_of_mem_replicate hy]; exact HXOK.out)
  have HR3 := Lib.hid (fun W (hb : Below w3.heap.size w3 W) => H3.out W (below_then hb3 hb))
  have HR4 := Lib.hid (fun W (hb : Below w3.heap.size w3 W) => H4.out W L (Nat.lt_of_lt_of_le hL3 hb.size) (HTR3.out.next hb).c0 (HTR3.out.next hb).c1 (HTR3.out.next hb).c2)
  clear hL x0 x1 x2 q0 k1 hal
  generalize List.replicate (Tb.rows t) x = row at *
  generalize Tb.rows t = n at *
  have hrl := HRL.out
  have HRL2 := Lib.hid hrl
  clear hrl
  go_upto_region 10 with fail
  go_cut [6] from 32 to 46 (fun s6 wx => ∃ (a4 : Option Addr) (c4 : Nat) (u : Value), Hid (Own wx B G ⟨t.cols, t.data ++ [row]⟩ (.slice ca t.cols.length cc) (.slice a4 (vs.length + 1) c4) (vs ++ [u])) ∧ Hid (Two wx b0 27 (.string (str c.name)) (.int .i64 c.kind)) ∧ Hid (Below B w wx))
  case first =>
    go_region_law (first
      | (go_simp; go_at_call 39; refine (HR3.out _ (by first | exact Below.refl _ _ | exact (Below.refl _ _).drew)).mono ?_; rintro e w5 ⟨rfl, hb5⟩; have hb5 : Below w3.heap.size w3 w5 := (by first | exact hb5 | exact below_then (Below.drew (Below.refl _ _)) hb5); have a1 := (HTW3.out.next hb5).c1)
      | (go_simp; go_at_call 45; refine (HR4.out _ (by first | exact hb5 | exact hb5.drew)).mono ?_; rintro e w9 ⟨v9, rfl, hr9, hb9⟩; have hb9 : Below w5.heap.size w5 w9 := (by first | exact hb9 | exact below_then (Below.drew (Below.refl _ _)) hb9); have hr9 : CRow w5.heap.size row v9 w9 := hr9; have hr9 := hr9.weak hb5.size; have hb9 := below_then hb5 hb9; obtain ⟨a9, c9, rfl, -, -⟩ := cRow_cls hr9; have z1 := (HTW3.out.next hb9).c1; have z2 := ((HTW3.out.next hb9).next ((Below.refl _ _).alloc (Nat.le_refl _) (.cells #[.slice a9 row.length c9] 34))).c1)
      | (refine step_append_v rfl (.tmp 36) (.tmp 43) rfl B _ vs rfl ((HVR.out.below hb9).below ((Below.refl _ _).alloc (Nat.le_refl _) (.cells #[.slice a9 row.length c9] 34))) w9.heap.size (.slice a9 row.length c9) rfl (by simp) (ownsRow_one hr9) hvl (by have := hb9.size; simp at *; omega) ?_; intro v' w4 hr4 hb4 hf4 hs4; obtain ⟨a4, c4, rfl⟩ := vrow_form1 hr4; have o4 := HPU.out _ _ _ _ _ hb9 hr9 HRK.out hr4 hf4; have t4 := two_far ((HTW3.out.next hb9).next ((Below.refl _ _).alloc (Nat.le_refl _) (.cells #[.slice a9 row.length c9] 34))) hgd hf4; have x4 := t4.c1; have k4 := t4.free 1; have HC4 := Lib.hid (two_far ((HC3.out.next hb9).next ((Below.refl _ _).alloc (Nat.le_refl _) (.cells #[.slice a9 row.length c9] 34))) (two_ne HO3.out hb0) hf4)))
    all_goals
      go_wp2_with fail
      go_meet
      exact ⟨a4, c4, _, Lib.hid o4, Lib.hid ((heap_set _ _ _ _ (show b0 ≠ G by have := HO3.out.ge; omega)).trans HC4.out), Lib.hid ((((hb3.mono hBw).trans (hb9.mono hB3)).alloc (by have := hb9.size; omega) _).trans hb4 |>.setCell HO3.out.ge _)⟩
  case rest =>
    obtain ⟨a4, c4, u, HO4, HC4, HB4⟩ := hcut
    have y0 := HO4.out.two.c0
    have f0 := HO4.out.two.free 0
    have HTW4 := Lib.hid HO4.out.two
    have k0 := HC4.out.c0
    have k1 := HC4.out.c1
    have hal4 : Below wc.heap.size wc (wc.alloc (.cells #[.string (str c.name), .int .i64 c.kind] 27)) := (Below.refl _ _).alloc (Nat.le_refl _) _
    have z0 := (HTW4.out.next hal4).c0
    have HGR := Lib.hid (HO4.out.gro.below hal4)
    have hgl : (t.cols.length + 1) * 24 ≤ 140737488355328 := by omega
    have hbs : B ≤ (wc.alloc (.cells #[.string (str c.name), .int .i64 c.kind] 27)).heap.size := Nat.le_trans HO4.out.base hal4.size
    have HG1 := Lib.hid (gls_one (w := wc.alloc (.cells #[.string (str c.name), .int .i64 c.kind] 27)) (b := wc.heap.size) (c := c) (World.cell?_alloc_new _ _ _ _) (World.cell?_alloc_new _ _ _ _) (by simp))
    have HPC := Lib.hid (fun w4 v' o => Own.col (w9 := wc) (w4 := w4) (v' := v') (c := c) (o := o) HO4.out HCOK.out)
    have hgg4 := HO4.out.gG
    have hge := HO4.out.ge
    clear y0 y1 HO3 HTW3 HVR HPU HR3 HR4 hgg hgd
    have y0 := HO4.out.two.c0
    go_wp2_with fail
    go_region_law (first
      | (refine step_append_gls rfl (.tmp 51) (.tmp 53) rfl B _ t.cols rfl (GRow.below HGR.out (by first | exact Below.refl _ _ | exact (Below.refl _ _).drew)) (some ⟨wc.heap.size, 0, none⟩) 1 1 [c] rfl rfl (fun h => by cases h) (HG1.out.next at2_firm (by first | exact Below.refl _ _ | exact (Below.refl _ _).drew)) hgl hbs ?_; intro v' w5 hr5 hb5 hf5 hs5; obtain ⟨a5, c5, rfl⟩ := grow_form1 hr5; have o5 := HPC.out _ _ _ hr5 hf5; have t5 := two_far (HTW4.out.next hal4) hgg4 hf5; have x5 := t5.c0; have k5 := t5.free 0))
    all_goals
      go_wp2_with fail
      go_ret
      rw [HADD.out]
      exact ⟨rfl, ((HB4.out.alloc HO4.out.base _).drew.trans hb5).setCell hge _, fun _ => ⟨_, _, _, o5.out⟩⟩
end Go.Proofs.Ytnjnalehfhfefaa
