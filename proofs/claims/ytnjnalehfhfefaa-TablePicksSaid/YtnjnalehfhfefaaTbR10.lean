/- The walk of the reference's AppendOf. -/
import Derived.Test.YtnjnalehfhfefaaTbR9
import Derived.Test.YtnjnalehfhfefaaTj
namespace Go.Proofs.Ytnjnalehfhfefaa
open Go.RowKit
set_option linter.unusedVariables false

theorem cls_news2 {w : World} {B : Nat} {A : Option Addr} {l : List C.Cl} (h : Cls w B A l) : ∀ ad, A = some ad → ∀ j u, (cv l)[j]? = some u → w.cell? (ad.add j) = some u := by
  intro ad ha j u hj
  have hjl : j < l.length * 3 := by
    rcases Nat.lt_or_ge j (l.length * 3) with h | h
    · exact h
    · rw [List.getElem?_eq_none (by rw [cv_length]; exact h)] at hj; simp at hj
  obtain ⟨b, off, e, _, hc⟩ := h (by intro e; rw [e] at hjl; simp at hjl)
  rw [ha] at e
  have e := Option.some.inj e
  subst e
  have hadd : (⟨b, off, none⟩ : Addr).add j = ⟨b, off + j, none⟩ := by unfold Addr.add; split <;> simp_all
  have hk : j / 3 < l.length := by omega
  obtain ⟨c0, c1, c2⟩ := hc (j / 3) hk
  obtain ⟨g0, g1, g2⟩ := cv_get l (j / 3) hk
  rw [hadd]
  have h3 : j % 3 = 0 ∨ j % 3 = 1 ∨ j % 3 = 2 := by omega
  rcases h3 with h | h | h
  · rw [show off + j / 3 * 3 = off + j by omega] at c0
    rw [show j / 3 * 3 = j by omega] at g0
    rw [c0, ← hj, g0]
  · rw [show off + j / 3 * 3 + 1 = off + j by omega] at c1
    rw [show j / 3 * 3 + 1 = j by omega] at g1
    rw [c1, ← hj, g1]
  · rw [show off + j / 3 * 3 + 2 = off + j by omega] at c2
    rw [show j / 3 * 3 + 2 = j by omega] at g2
    rw [c2, ← hj, g2]
theorem Mt.grow {w w' : World} {B H : Nat} {cv_ dv v' u : Value} {vs : List Value} {l : List (List C.Cl)} {row : List C.Cl} (h : Mt w B H cv_ dv vs l) (hk : Kept (fun k => k = H ∨ some k = dv.ownBlock) w w') (ht : Two w' H 25 cv_ v') (hv : VRow B (vs ++ [u]) v' w') (hu : CRow B row u w') (hok : ∀ x ∈ row, cOk x) : Mt w' B H cv_ v' (vs ++ [u]) (l ++ [row]) := by
  refine ⟨ht, h.ge, hv, by simp [h.len], fun i hi => ?_, fun r hr => ?_⟩
  · by_cases hlt : i < l.length
    · obtain ⟨v, h1, h2⟩ := h.row i hlt
      have e : (l ++ [row]).getD i [] = l.getD i [] := by simp [List.getD, List.getElem?_append_left hlt]
      refine ⟨v, by rw [List.getElem?_append_left (by rw [h.len]; exact hlt)]; exact h1, ?_⟩
      rw [e]
      exact row_move h2 (fun g hg => hk.block g (h2.lt g hg).2 (fun hc => by
        rcases hc with hc | hc
        · exact two_kind h2 h.two (by decide) (by rw [hg, hc])
        · exact row_kinds h2 h.vro (by decide) hg hc))
    · have hi' : i = l.length := by simp at hi; omega
      subst hi'
      have e : (l ++ [row]).getD l.length [] = row := by simp [List.getD]
      exact ⟨u, by rw [← h.len]; simp, by rw [e]; exact hu⟩
  · rcases List.mem_append.1 hr with hr | hr
    · exact h.okC r hr
    · rw [List.mem_singleton.1 hr]; exact hok
theorem zip_step (a b : List (List C.Cl)) (j : Nat) (h1 : j < a.length) (h2 : j < b.length) : (List.zipWith (· ++ ·) a b).take (j + 1) = (List.zipWith (· ++ ·) a b).take j ++ [a.getD j [] ++ b.getD j []] := by
  have hl : j < (List.zipWith (· ++ ·) a b).length := by simp; omega
  rw [List.take_succ_eq_append_getElem hl]
  simp [List.getD, List.getElem?_eq_getElem h1, List.getElem?_eq_getElem h2]
def NewRow (B : Nat) (n rl : Nat) (vs : List Value) (xs : List Value) (v : Value) (w : World) : Prop := ∃ g c gl cl, v = .slice (some ⟨g, 0, none⟩) (n + 1) c ∧ w.ownsRow B 34 1 (.slice (some ⟨g, 0, none⟩) (n + 1) c) (n + 1) (vs ++ [.slice (some ⟨gl, 0, none⟩) rl cl]) ∧ w.ownsRow B 30 3 (.slice (some ⟨gl, 0, none⟩) rl cl) rl xs
def appS (H : Nat) (DV : Value) : Nat → Prop := fun k => k = H ∨ some k = DV.ownBlock
def AppInit (B H n : Nat) (CV DV : Value) (vs : List Value) (S : Nat → Prop) (w : World) : Prop := S H ∧ (∀ g, some g = DV.ownBlock → S g) ∧ Two w H 25 CV DV ∧ w.ownsRow B 34 1 DV n vs
def appTb (B : Nat) (PH : Value) (DV PA DA JV PAj XA PB DB PBj XB PH2 : Value) (H n : Nat) (CV : Value) (vs : List Value) (x y : List C.Cl) : List Item := [
  itC 49 PH, itC 50 DV,
  itR 51 (some 8) (RowIt B 30 3 0 []),
  itC 52 PA, itC 53 DA, itC 54 JV, itC 55 PAj, itC 56 XA,
  itR 57 (some 14) (RowIt B 30 3 (0 + x.length) ([] ++ cv x)),
  itC 58 PB, itC 59 DB, itC 60 JV, itC 61 PBj, itC 62 XB,
  itR 63 (some 15) (RowIt B 30 3 (0 + x.length + y.length) ([] ++ cv x ++ cv y)),
  itR 64 (some 16) (fun v S w => ∃ g gl cl, v = .slice (some ⟨g, 0, none⟩) 1 1 ∧ S g ∧ S gl ∧ w.heap[g]? = some (.cells #[.slice (some ⟨gl, 0, none⟩) (0 + x.length + y.length) cl] 34 (0, 0)) ∧ w.ownsRow B 30 3 (.slice (some ⟨gl, 0, none⟩) (0 + x.length + y.length) cl) (0 + x.length + y.length) ([] ++ cv x ++ cv y)),
  ⟨some 65, some 18, fun _ => True, (fun v S w => ∃ g c gl cl, v = .slice (some ⟨g, 0, none⟩) (n + 1) c ∧ S g ∧ S gl ∧ w.ownsRow B 34 1 (.slice (some ⟨g, 0, none⟩) (n + 1) c) (n + 1) (vs ++ [.slice (some ⟨gl, 0, none⟩) (0 + x.length + y.length) cl]) ∧ w.ownsRow B 30 3 (.slice (some ⟨gl, 0, none⟩) (0 + x.length + y.length) cl) (0 + x.length + y.length) ([] ++ cv x ++ cv y) ∧ Two w H 25 CV DV ∧ S H), [1]⟩,
  itC 66 PH2,
  ⟨none, none, fun _ => True, fun v S w => NewRow B n (0 + x.length + y.length) vs ([] ++ cv x ++ cv y) v w ∧ Two w H 25 CV v, []⟩,
  ⟨none, some 16, fun v => v = DV, fun v S w => AppInit B H n CV DV vs S w, [19]⟩]
set_option maxHeartbeats 4000000 in
set_option maxRecDepth 100000 in
theorem rAppend_any (ca : Option Addr) (cc : Nat) (da : Option Addr) (dc : Nat) (t : Tb.T) (oa : Option Addr) (oc : Nat) (od : Option Addr) (oe : Nat) (u : Tb.T) (w : World) (ht : Tbl w w.heap.size ca cc da dc t) (hu : Tbl w w.heap.size oa oc od oe u) :
    Calls Try.prog 34 #[tag ca t.cols.length cc da t.data.length dc, tag oa u.cols.length oc od u.data.length oe] w (RTabPost (Tb.chg t (Tb.appE t u) (Tb.app t u)) w) := by
  have a0 : Below w.heap.size w (w.alloc (.cells #[Value.slice ca t.cols.length cc, Value.slice da t.data.length dc] 25)) := (Below.refl _ _).alloc (Nat.le_refl _) _
  have a1 : Below (w.alloc (.cells #[Value.slice ca t.cols.length cc, Value.slice da t.data.length dc] 25)).heap.size (w.alloc (.cells #[Value.slice ca t.cols.length cc, Value.slice da t.data.length dc] 25)) ((w.alloc (.cells #[Value.slice ca t.cols.length cc, Value.slice da t.data.length dc] 25)).alloc (.cells #[Value.slice oa u.cols.length oc, Value.slice od u.data.length oe] 25)) := (Below.refl _ _).alloc (Nat.le_refl _) _
  have a2 : Below ((w.alloc (.cells #[Value.slice ca t.cols.length cc, Value.slice da t.data.length dc] 25)).alloc (.cells #[Value.slice oa u.cols.length oc, Value.slice od u.data.length oe] 25)).heap.size ((w.alloc (.cells #[Value.slice ca t.cols.length cc, Value.slice da t.data.length dc] 25)).alloc (.cells #[Value.slice oa u.cols.length oc, Value.slice od u.data.length oe] 25)) (((w.alloc (.cells #[Value.slice ca t.cols.length cc, Value.slice da t.data.length dc] 25)).alloc (.cells #[Value.slice oa u.cols.length oc, Value.slice od u.data.length oe] 25)).alloc (.cells #[Value.slice none 0 0, Value.slice none 0 0] 25)) := (Below.refl _ _).alloc (Nat.le_refl _) _
  have hP := (Two.next (Two.next (two_new w 25 (Value.slice ca t.cols.length cc) (Value.slice da t.data.length dc)) a1) a2)
  have hQ := (Two.next (two_new (w.alloc (.cells #[Value.slice ca t.cols.length cc, Value.slice da t.data.length dc] 25)) 25 (Value.slice oa u.cols.length oc) (Value.slice od u.data.length oe)) a2)
  rw [show (w.alloc (.cells #[Value.slice ca t.cols.length cc, Value.slice da t.data.length dc] 25)).heap.size = w.heap.size + 1 by simp] at hQ
  have hR := (two_new ((w.alloc (.cells #[Value.slice ca t.cols.length cc, Value.slice da t.data.length dc] 25)).alloc (.cells #[Value.slice oa u.cols.length oc, Value.slice od u.data.length oe] 25)) 25 (Value.slice none 0 0) (Value.slice none 0 0))
  rw [show ((w.alloc (.cells #[Value.slice ca t.cols.length cc, Value.slice da t.data.length dc] 25)).alloc (.cells #[Value.slice oa u.cols.length oc, Value.slice od u.data.length oe] 25)).heap.size = w.heap.size + 2 by simp] at hR
  have hal := (below_then (below_then a0 a1) a2)
  have hsz : (((w.alloc (.cells #[Value.slice ca t.cols.length cc, Value.slice da t.data.length dc] 25)).alloc (.cells #[Value.slice oa u.cols.length oc, Value.slice od u.data.length oe] 25)).alloc (.cells #[Value.slice none 0 0, Value.slice none 0 0] 25)).heap.size = w.heap.size + 3 := by simp
  have HTT := Lib.hid (ht.next hal)
  have HT0 := Lib.hid ht
  have HUU := Lib.hid (hu.next hal)
  have HU0 := Lib.hid hu
  have HP := Lib.hid hP
  have HQ := Lib.hid hQ
  have HR := Lib.hid hR
  have HAL := Lib.hid hal
  have HSZ := Lib.hid hsz
  clear hal hsz hP hQ hR a0 a1 a2 ht hu
  generalize hW : (((w.alloc (.cells #[Value.slice ca t.cols.length cc, Value.slice da t.data.length dc] 25)).alloc (.cells #[Value.slice oa u.cols.length oc, Value.slice od u.data.length oe] 25)).alloc (.cells #[Value.slice none 0 0, Value.slice none 0 0] 25)) = W1 at *
  have HW := Lib.hid hW
  clear hW
  have HT := Lib.hid (fun W (hb : Below W1.heap.size W1 W) => rTable_any ca cc da dc t W (HTT.out.next hb))
  have HU := Lib.hid (fun W (hb : Below W1.heap.size W1 W) => rTable_any oa oc od oe u W (HUU.out.next hb))
  by_cases h0 : Tb.check t ≠ 0
  · rw [chg_bad h0]
    have g0 : ((Tb.check t : Int) == 0) = false := by rw [beq_eq_false_iff_ne]; omega
    have g1 : ((Tb.check t : Int) != 0) = true := by rw [bne_iff_ne]; omega
    generalize Tb.check t = er at *
    go_enter Try.func34, Try.ntmps34
    go_wp2_with fail
    rw [HW.out]
    have b_w := Below.refl W1.heap.size W1
    have cP0 := (HP.out.next b_w).c0
    have cP1 := (HP.out.next b_w).c1
    go_wp2_with fail
    refine (HT.out _ b_w).mono ?_
    rintro e w1 ⟨rfl, hbn⟩
    have b_w := below_then b_w hbn
    clear hbn
    clear cP0 cP1
    go_wp2_with fail
    refine wp_region_wbh (by kernel_rfl) (by kernel_rfl) ?_
    iterate 10 (refine wq_step (fun K hK => ?_); go_simp; refine hK _ ?_; clear hK K)
    refine wq_nil ?_
    rintro _ ⟨p, rfl⟩
    have b_w := below_then b_w p.below
    generalize p.w = Z at *
    have q0 := HR.out.next b_w
    have q1 := q0.s0 (.slice none 0 0)
    have q2 := q1.s1 (.slice none 0 0)
    have b0 := q0.c0
    have f0 := q0.free 0
    have b1 := q1.c1
    have f1 := q1.free 1
    have y0 := q2.c0
    have y1 := q2.c1
    have hrb : w.heap.size ≤ w.heap.size + 2 := by omega
    have HB3 := Lib.hid (((below_then HAL.out b_w).setCell (p := ⟨w.heap.size + 2, 0, none⟩) hrb (.slice none 0 0)).setCell (p := ⟨w.heap.size + 2, 1, none⟩) hrb (.slice none 0 0))
    clear q0 q1 q2
    go_wp2_with fail
    refine bodyPost_ret (v := .tuple #[tag none 0 0 none 0 0, .int .i64 (er : Int)]) (by simp [results, Try.results34, go_sem, y0, y1]) rfl ?_
    exact ⟨_, _, _, _, rfl, Tbl.null _ _, HB3.out⟩
  have h0 : Tb.check t = 0 := Classical.not_not.1 h0
  have hok := Tb.check_ok h0
  have HT := Lib.hid (fun W (hb : Below W1.heap.size W1 W) => show Calls Try.prog 15 #[tag ca t.cols.length cc da t.data.length dc] W (CErrPost 0 W) by have := HT.out W hb; rwa [h0] at this)
  by_cases h1 : Tb.check u ≠ 0
  · have hE : Tb.appE t u = Tb.check u := by unfold Tb.appE; rw [if_pos h1]
    rw [chg_err h0 (by rw [hE]; exact h1), hE]
    have g0 : ((Tb.check u : Int) == 0) = false := by rw [beq_eq_false_iff_ne]; omega
    have g1 : ((Tb.check u : Int) != 0) = true := by rw [bne_iff_ne]; omega
    generalize Tb.check u = er at *
    go_enter Try.func34, Try.ntmps34
    go_wp2_with fail
    rw [HW.out]
    have b_w := Below.refl W1.heap.size W1
    have cP0 := (HP.out.next b_w).c0
    have cP1 := (HP.out.next b_w).c1
    go_wp2_with fail
    refine (HT.out _ b_w).mono ?_
    rintro e w1 ⟨rfl, hbn⟩
    have b_w := below_then b_w hbn
    clear hbn
    clear cP0 cP1
    have cQ0 := (HQ.out.next b_w).c0
    have cQ1 := (HQ.out.next b_w).c1
    go_wp2_with fail
    refine (HU.out _ b_w).mono ?_
    rintro e w2 ⟨rfl, hbn⟩
    have b_w := below_then b_w hbn
    clear hbn
    clear cQ0 cQ1
    go_wp2_with fail
    refine wp_region_wbh (by kernel_rfl) (by kernel_rfl) ?_
    iterate 10 (refine wq_step (fun K hK => ?_); go_simp; refine hK _ ?_; clear hK K)
    refine wq_nil ?_
    rintro _ ⟨p, rfl⟩
    have b_w := below_then b_w p.below
    generalize p.w = Z at *
    have q0 := HR.out.next b_w
    have q1 := q0.s0 (.slice none 0 0)
    have q2 := q1.s1 (.slice none 0 0)
    have b0 := q0.c0
    have f0 := q0.free 0
    have b1 := q1.c1
    have f1 := q1.free 1
    have y0 := q2.c0
    have y1 := q2.c1
    have hrb : w.heap.size ≤ w.heap.size + 2 := by omega
    have HB3 := Lib.hid (((below_then HAL.out b_w).setCell (p := ⟨w.heap.size + 2, 0, none⟩) hrb (.slice none 0 0)).setCell (p := ⟨w.heap.size + 2, 1, none⟩) hrb (.slice none 0 0))
    clear q0 q1 q2
    go_wp2_with fail
    refine bodyPost_ret (v := .tuple #[tag none 0 0 none 0 0, .int .i64 (er : Int)]) (by simp [results, Try.results34, go_sem, y0, y1]) rfl ?_
    exact ⟨_, _, _, _, rfl, Tbl.null _ _, HB3.out⟩
  have h1 : Tb.check u = 0 := Classical.not_not.1 h1
  have hok2 := Tb.check_ok h1
  have HU := Lib.hid (fun W (hb : Below W1.heap.size W1 W) => show Calls Try.prog 15 #[tag oa u.cols.length oc od u.data.length oe] W (CErrPost 0 W) by have := HU.out W hb; rwa [h1] at this)
  have h6 := hok.six
  have HS := Lib.hid (fun W (hb : Below W1.heap.size W1 W) => gsame_any ca oa cc oc t.cols u.cols W W.heap.size (HTT.out.next hb).gls (HUU.out.next hb).gls (by omega))
  by_cases h2 : t.cols ≠ u.cols
  · have hE : Tb.appE t u = 7 := by unfold Tb.appE; rw [if_neg (by rw [h1]; simp), if_pos h2]
    rw [chg_err h0 (by rw [hE]; simp), hE]
    rw [decide_eq_false h2] at HS
    go_enter Try.func34, Try.ntmps34
    go_wp2_with fail
    rw [HW.out]
    have b_w := Below.refl W1.heap.size W1
    have cP0 := (HP.out.next b_w).c0
    have cP1 := (HP.out.next b_w).c1
    go_wp2_with fail
    refine (HT.out _ b_w).mono ?_
    rintro e w1 ⟨rfl, hbn⟩
    have b_w := below_then b_w hbn
    clear hbn
    clear cP0 cP1
    have cQ0 := (HQ.out.next b_w).c0
    have cQ1 := (HQ.out.next b_w).c1
    go_wp2_with fail
    refine (HU.out _ b_w).mono ?_
    rintro e w2 ⟨rfl, hbn⟩
    have b_w := below_then b_w hbn
    clear hbn
    clear cQ0 cQ1
    have cP0 := (HP.out.next b_w).c0
    have cP1 := (HP.out.next b_w).c1
    have cQ0 := (HQ.out.next b_w).c0
    have cQ1 := (HQ.out.next b_w).c1
    go_wp2_with fail
    refine (HS.out _ b_w).mono ?_
    rintro e w3 ⟨rfl, hbn⟩
    have b_w := below_then b_w hbn
    clear hbn
    clear cP0 cP1 cQ0 cQ1
    go_wp2_with fail
    refine wp_region_wbh (by kernel_rfl) (by kernel_rfl) ?_
    iterate 10 (refine wq_step (fun K hK => ?_); go_simp; refine hK _ ?_; clear hK K)
    refine wq_nil ?_
    rintro _ ⟨p, rfl⟩
    have b_w := below_then b_w p.below
    generalize p.w = Z at *
    have q0 := HR.out.next b_w
    have q1 := q0.s0 (.slice none 0 0)
    have q2 := q1.s1 (.slice none 0 0)
    have b0 := q0.c0
    have f0 := q0.free 0
    have b1 := q1.c1
    have f1 := q1.free 1
    have y0 := q2.c0
    have y1 := q2.c1
    have hrb : w.heap.size ≤ w.heap.size + 2 := by omega
    have HB3 := Lib.hid (((below_then HAL.out b_w).setCell (p := ⟨w.heap.size + 2, 0, none⟩) hrb (.slice none 0 0)).setCell (p := ⟨w.heap.size + 2, 1, none⟩) hrb (.slice none 0 0))
    clear q0 q1 q2
    go_wp2_with fail
    refine bodyPost_ret (v := .tuple #[tag none 0 0 none 0 0, .int .i64 7]) (by simp [results, Try.results34, go_sem, y0, y1]) rfl ?_
    exact ⟨_, _, _, _, rfl, Tbl.null _ _, HB3.out⟩
  have h2 : t.cols = u.cols := Classical.not_not.1 h2
  rw [decide_eq_true h2] at HS
  have hr1 := hok.rows_le
  have hr2 := hok2.rows_le
  have gw : IntKind.i64.wrap ((Tb.rows t : Int) + (Tb.rows u : Int)) = (Tb.rows t : Int) + (Tb.rows u : Int) := by rw [IntKind.wrap_i64]; omega
  by_cases h3 : 128 < Tb.rows t + Tb.rows u
  · have hE : Tb.appE t u = 2 := by unfold Tb.appE; rw [if_neg (by rw [h1]; simp), if_neg (by rw [h2]; simp), if_pos h3]
    rw [chg_err h0 (by rw [hE]; simp), hE]
    have g3 : decide ((128 : Int) < (Tb.rows t : Int) + (Tb.rows u : Int)) = true := decide_eq_true (by omega)
    clear hE h0 hok hok2 h1 h2
    go_enter Try.func34, Try.ntmps34
    go_wp2_with fail
    rw [HW.out]
    have b_w := Below.refl W1.heap.size W1
    have cP0 := (HP.out.next b_w).c0
    have cP1 := (HP.out.next b_w).c1
    go_wp2_with fail
    refine (HT.out _ b_w).mono ?_
    rintro e w1 ⟨rfl, hbn⟩
    have b_w := below_then b_w hbn
    clear hbn
    clear cP0 cP1
    have cQ0 := (HQ.out.next b_w).c0
    have cQ1 := (HQ.out.next b_w).c1
    go_wp2_with fail
    refine (HU.out _ b_w).mono ?_
    rintro e w2 ⟨rfl, hbn⟩
    have b_w := below_then b_w hbn
    clear hbn
    clear cQ0 cQ1
    have cP0 := (HP.out.next b_w).c0
    have cP1 := (HP.out.next b_w).c1
    have cQ0 := (HQ.out.next b_w).c0
    have cQ1 := (HQ.out.next b_w).c1
    go_wp2_with fail
    refine (HS.out _ b_w).mono ?_
    rintro e w3 ⟨rfl, hbn⟩
    have b_w := below_then b_w hbn
    clear hbn
    clear cP0 cP1 cQ0 cQ1
    go_wp2_with fail
    have xP0 := fun q : WB w3 => q.cell (HP.out.next b_w).lt (HP.out.next b_w).c0
    have xP1 := fun q : WB w3 => q.cell (HP.out.next b_w).lt (HP.out.next b_w).c1
    have xQ0 := fun q : WB w3 => q.cell (HQ.out.next b_w).lt (HQ.out.next b_w).c0
    have xQ1 := fun q : WB w3 => q.cell (HQ.out.next b_w).lt (HQ.out.next b_w).c1
    have HR1 := Lib.hid (fun q : WB w3 => show Calls Try.prog 16 #[tag ca t.cols.length cc da t.data.length dc] q.w (fun e w' => e = .returned (.int .i64 (Tb.rows t : Nat)) ∧ Below q.w.heap.size q.w w') from rowsOf_any ca cc da dc t q.w (HTT.out.next (below_then b_w q.below)))
    have HR2 := Lib.hid (fun q : WB w3 => show Calls Try.prog 16 #[tag oa u.cols.length oc od u.data.length oe] q.w (fun e w' => e = .returned (.int .i64 (Tb.rows u : Nat)) ∧ Below q.w.heap.size q.w w') from rowsOf_any oa oc od oe u q.w (HUU.out.next (below_then b_w q.below)))
    refine wp_region_wbh (by kernel_rfl) (by kernel_rfl) ?_
    iterate 5 (refine wq_step (fun K hK => ?_); go_simp; first | (refine hK _ ?_; clear hK K) | (apply Exists.intro; refine ⟨fun _ => ?_, hK _ ?_⟩; (go_at_call 16; exact calls_wb (v := .int .i64 (Tb.rows t : Nat)) (HR1.out _)); clear hK K))
    iterate 5 (refine wq_step (fun K hK => ?_); go_simp; first | (refine hK _ ?_; clear hK K) | (apply Exists.intro; refine ⟨fun _ => ?_, hK _ ?_⟩; (go_at_call 16; exact calls_wb (v := .int .i64 (Tb.rows u : Nat)) (HR2.out _)); clear hK K))
    refine wq_nil ?_
    rintro _ ⟨p, rfl⟩
    have b_w := below_then b_w p.below
    clear xP0 xP1 xQ0 xQ1 HR1 HR2
    generalize p.w = Z at *
    have q0 := HR.out.next b_w
    have q1 := q0.s0 (.slice none 0 0)
    have q2 := q1.s1 (.slice none 0 0)
    have b0 := q0.c0
    have f0 := q0.free 0
    have b1 := q1.c1
    have f1 := q1.free 1
    have y0 := q2.c0
    have y1 := q2.c1
    have hrb : w.heap.size ≤ w.heap.size + 2 := by omega
    have HB3 := Lib.hid (((below_then HAL.out b_w).setCell (p := ⟨w.heap.size + 2, 0, none⟩) hrb (.slice none 0 0)).setCell (p := ⟨w.heap.size + 2, 1, none⟩) hrb (.slice none 0 0))
    clear q0 q1 q2
    go_wp2_with fail
    refine bodyPost_ret (v := .tuple #[tag none 0 0 none 0 0, .int .i64 2]) (by simp [results, Try.results34, go_sem, y0, y1]) rfl ?_
    exact ⟨_, _, _, _, rfl, Tbl.null _ _, HB3.out⟩
  have hE : Tb.appE t u = 0 := by unfold Tb.appE; rw [if_neg (by rw [h1]; simp), if_neg (by rw [h2]; simp), if_neg h3]
  rw [Tb.chg_ok h0 hE]
  have g3 : decide ((128 : Int) < (Tb.rows t : Int) + (Tb.rows u : Int)) = false := decide_eq_false (by omega)
  have HRES := Lib.hid (show (⟨t.cols, List.zipWith (· ++ ·) t.data u.data⟩ : Tb.T) = Tb.app t u from rfl)
  have hld : u.data.length = t.data.length := by rw [hok.len, hok2.len, h2]
  have hd6 : t.data.length ≤ 6 := by rw [hok.len]; exact h6
  have HLD := Lib.hid hld
  have HRA := Lib.hid (fun i (hi : i < t.data.length) => hok.rows i (by rw [← hok.len]; exact hi))
  have HRB := Lib.hid (fun i (hi : i < t.data.length) => hok2.rows i (by rw [← hok2.len, hld]; exact hi))
  have HZ := Lib.hid (fun j (hj : j < t.data.length) => zip_step t.data u.data j hj (by rw [hld]; exact hj))
  have HZL := Lib.hid (show (List.zipWith (· ++ ·) t.data u.data).length = t.data.length by simp [hld])
  generalize Tb.app t u = RR at *
  generalize List.zipWith (· ++ ·) t.data u.data = ZZ at *
  clear hE h0 hok hok2 h1 h2 hld
  go_enter Try.func34, Try.ntmps34
  go_wp2_with fail
  rw [HW.out]
  have b_w := Below.refl W1.heap.size W1
  have cP0 := (HP.out.next b_w).c0
  have cP1 := (HP.out.next b_w).c1
  go_wp2_with fail
  refine (HT.out _ b_w).mono ?_
  rintro e w1 ⟨rfl, hbn⟩
  have b_w := below_then b_w hbn
  clear hbn
  clear cP0 cP1
  have cQ0 := (HQ.out.next b_w).c0
  have cQ1 := (HQ.out.next b_w).c1
  go_wp2_with fail
  refine (HU.out _ b_w).mono ?_
  rintro e w2 ⟨rfl, hbn⟩
  have b_w := below_then b_w hbn
  clear hbn
  clear cQ0 cQ1
  have cP0 := (HP.out.next b_w).c0
  have cP1 := (HP.out.next b_w).c1
  have cQ0 := (HQ.out.next b_w).c0
  have cQ1 := (HQ.out.next b_w).c1
  go_wp2_with fail
  refine (HS.out _ b_w).mono ?_
  rintro e w3 ⟨rfl, hbn⟩
  have b_w := below_then b_w hbn
  clear hbn
  clear cP0 cP1 cQ0 cQ1
  go_wp2_with fail
  have xP0 := fun q : WB w3 => q.cell (HP.out.next b_w).lt (HP.out.next b_w).c0
  have xP1 := fun q : WB w3 => q.cell (HP.out.next b_w).lt (HP.out.next b_w).c1
  have xQ0 := fun q : WB w3 => q.cell (HQ.out.next b_w).lt (HQ.out.next b_w).c0
  have xQ1 := fun q : WB w3 => q.cell (HQ.out.next b_w).lt (HQ.out.next b_w).c1
  have HR1 := Lib.hid (fun q : WB w3 => show Calls Try.prog 16 #[tag ca t.cols.length cc da t.data.length dc] q.w (fun e w' => e = .returned (.int .i64 (Tb.rows t : Nat)) ∧ Below q.w.heap.size q.w w') from rowsOf_any ca cc da dc t q.w (HTT.out.next (below_then b_w q.below)))
  have HR2 := Lib.hid (fun q : WB w3 => show Calls Try.prog 16 #[tag oa u.cols.length oc od u.data.length oe] q.w (fun e w' => e = .returned (.int .i64 (Tb.rows u : Nat)) ∧ Below q.w.heap.size q.w w') from rowsOf_any oa oc od oe u q.w (HUU.out.next (below_then b_w q.below)))
  refine wp_region_wbh (by kernel_rfl) (by kernel_rfl) ?_
  iterate 5 (refine wq_step (fun K hK => ?_); go_simp; first | (refine hK _ ?_; clear hK K) | (apply Exists.intro; refine ⟨fun _ => ?_, hK _ ?_⟩; (go_at_call 16; exact calls_wb (v := .int .i64 (Tb.rows t : Nat)) (HR1.out _)); clear hK K))
  iterate 5 (refine wq_step (fun K hK => ?_); go_simp; first | (refine hK _ ?_; clear hK K) | (apply Exists.intro; refine ⟨fun _ => ?_, hK _ ?_⟩; (go_at_call 16; exact calls_wb (v := .int .i64 (Tb.rows u : Nat)) (HR2.out _)); clear hK K))
  refine wq_nil ?_
  rintro _ ⟨p, rfl⟩
  have b_w := below_then b_w p.below
  clear xP0 xP1 xQ0 xQ1 HR1 HR2
  generalize p.w = Z at *
  have cP0 := (HP.out.next b_w).c0
  have cP1 := (HP.out.next b_w).c1
  have hal : Below Z.heap.size Z (Z.alloc (.cells #[.slice ca t.cols.length cc, .slice none 0 0] 25)) := (Below.refl _ _).alloc (Nat.le_refl _) _
  obtain ⟨HO, hH⟩ : ∃ H, H = Z.heap.size := ⟨_, rfl⟩
  have hHw : W1.heap.size ≤ HO := by rw [hH]; exact b_w.size
  have HM0 := Lib.hid (show Mt (Z.alloc (.cells #[.slice ca t.cols.length cc, .slice none 0 0] 25)) W1.heap.size HO (.slice ca t.cols.length cc) (.slice none 0 0) [] [] from ⟨by rw [hH]; exact two_new _ _ _ _, hHw, vnilRow _ _, rfl, fun i hi => absurd hi (by simp), by simp⟩)
  have b_w := below_then b_w hal
  clear hal
  go_upto_region 11 with fail
  rw [← hH]
  generalize (Z.alloc (.cells #[.slice ca t.cols.length cc, .slice none 0 0] 25)) = V1 at *
  clear hH cP0 cP1
  go_wp2_with fail
  go_loopw [8] (fun c wr => ∃ (j : Nat) (dv : Value) (vs : List Value), j ≤ t.data.length ∧ c = .int .i64 j ∧ Hid (Mt wr W1.heap.size HO (.slice ca t.cols.length cc) dv vs (ZZ.take j)) ∧ Below W1.heap.size W1 wr) (fun c _ => t.data.length - (intOf c).toNat)
  case atStart => exact ⟨0, _, _, by omega, rfl, HM0, b_w⟩
  case round =>
    obtain ⟨j, dv, vs, hj, rfl, HM, hbw⟩ := hrel
    have b_w := hbw
    clear hbw
    have cP0 := (HP.out.next b_w).c0
    have cP1 := (HP.out.next b_w).c1
    by_cases hlt : j < t.data.length
    · have hjI : (j : Int) < (t.data.length : Int) := by omega
      obtain ⟨db, doff, rfl, hdb, hdd⟩ := HT0.out.dat (fun e => by rw [e] at hlt; simp at hlt)
      obtain ⟨xa, xc, kva, hxr⟩ := hdd j hlt
      have hltu : j < u.data.length := by rw [HLD.out]; exact hlt
      have hjU : (j : Int) < (u.data.length : Int) := by omega
      obtain ⟨eb, eoff, rfl, heb, hee⟩ := HU0.out.dat (fun e => by rw [e] at hltu; simp at hltu)
      obtain ⟨ya, yc, kvb, hyr⟩ := hee j hltu
      have hxl := HRA.out j hlt
      have hyl := HRB.out j hlt
      have hz := HZ.out j hlt
      have HZ2 := Lib.hid hz
      clear hdd hee hz
      generalize t.data.getD j [] = x at *
      generalize u.data.getD j [] = y at *
      have HXR := Lib.hid hxr
      have HYR := Lib.hid hyr
      have hBW := below_then HAL.out b_w
      have hdbW := Nat.lt_of_lt_of_le hdb hBW.size
      have hebW := Nat.lt_of_lt_of_le heb hBW.size
      have KVA := (hBW.cell (p := ⟨db, doff + j, none⟩) hdb).trans kva
      have KVB := (hBW.cell (p := ⟨eb, eoff + j, none⟩) heb).trans kvb
      have CP1 := (HP.out.next b_w).c1
      have hPlt := (HP.out.next b_w).lt
      have CQ1 := (HQ.out.next b_w).c1
      have hQlt := (HQ.out.next b_w).lt
      have CH1 := HM.out.two.c1
      have hwB : W1.heap.size ≤ wr.heap.size := b_w.size
      have hvl : vs.length = j := by rw [HM.out.len, List.length_take, HZL.out]; omega
      have hwW : w.heap.size < W1.heap.size := by have := HSZ.out; omega
      have hsm : ∀ b, b < w.heap.size → ¬ (b = HO ∨ some b = dv.ownBlock) := fun b hb hc => by
        rcases hc with hc | hc
        · omega
        · have := (HM.out.vro.lt b hc.symm).1; omega
      have hsmP : ∀ b, b < W1.heap.size → ¬ (b = HO ∨ some b = dv.ownBlock) := fun b hb hc => by
        rcases hc with hc | hc
        · omega
        · have := (HM.out.vro.lt b hc.symm).1; omega
      have hP1 := HP.out.lt
      have hQ1 := HQ.out.lt
      have HGD := Lib.hid HM.out.gD
      have hxn : xa = none → xc = 0 ∧ x.length = 0 := fun e => by have := HXR.out.nil e; have := HXR.out.len; omega
      have hyn : ya = none → yc = 0 ∧ y.length = 0 := fun e => by have := HYR.out.nil e; have := HYR.out.len; omega
      have hxy : x.length ≤ 128 ∧ y.length ≤ 128 := by omega
      have HIN := Lib.hid (show Obj wr.drew (appS HO dv) (AppInit W1.heap.size HO j (.slice ca t.cols.length cc) dv vs (appS HO dv)) from fun W h1 h2 => ⟨Or.inl rfl, fun g hg => Or.inr hg, (h1 HO (Or.inl rfl)).trans HM.out.two, by
        have h9 : VRow W1.heap.size vs dv W := row_move HM.out.vro (fun g hg => h1 g (Or.inr hg.symm))
        unfold VRow at h9
        rwa [hvl] at h9⟩)
      have HVLT := Lib.hid (fun k (hk : appS HO dv k) => show k < wr.drew.heap.size ∧ (k = HO ∨ some k = dv.ownBlock) from ⟨by
        rcases hk with hk | hk
        · rw [hk]; exact HM.out.two.lt
        · exact (HM.out.vro.lt k hk.symm).2, hk⟩)
      have HDV1 := Lib.hid HM.out.two.c1
      clear kva kvb hxr hyr hxl hyl
      go_wp2_with fail
      refine wp_letter (fun a0 ha0 => ?_)
      have A7 : a0.eval (.tmp 7) = .pointer (some ⟨HO, 0, none⟩) := by rw [ha0]; rfl
      have A8 : a0.eval (.tmp 8) = .int .i64 j := by rw [ha0]; rfl
      have A2 : a0.eval (.tmp 2) = .pointer (some ⟨w.heap.size, 0, none⟩) := by rw [ha0]; rfl
      have A3 : a0.eval (.tmp 3) = .pointer (some ⟨w.heap.size + 1, 0, none⟩) := by rw [ha0]; rfl
      have hAS : a0.tmps.size = 68 := by rw [ha0]; rfl
      have HA0 := Lib.hid ha0
      clear ha0
      refine wp_region_inv (by kernel_rfl) (by kernel_rfl) (StJ (appTb W1.heap.size (.pointer (some ⟨HO, 1, none⟩)) dv (.pointer (some ⟨w.heap.size, 1, none⟩)) (.slice (some ⟨db, doff, none⟩) t.data.length dc) (.int .i64 j) (.pointer (some ⟨db, doff + j, none⟩)) (.slice xa x.length xc) (.pointer (some ⟨w.heap.size + 1, 1, none⟩)) (.slice (some ⟨eb, eoff, none⟩) u.data.length oe) (.pointer (some ⟨eb, eoff + j, none⟩)) (.slice ya y.length yc) (.pointer (some ⟨HO, 1, none⟩)) HO j (.slice ca t.cols.length cc) vs x y) (fun k => k = HO ∨ some k = dv.ownBlock) wr [49, 50, 51, 52, 53, 54, 55, 56, 57, 58, 59, 60, 61, 62, 63, 64, 65, 66]) (fun L hL0 hL1 => ⟨_, _, _, (upd_none a0).symm, St.start1 19 rfl (Kept.drew_ _) (fun i hi => hL0 i hi) dv (appS HO dv) (hL1 19 (Nat.le_refl _)) rfl rfl (by kernel_rfl) rfl HVLT.out HIN.out⟩) ?hs ?hend
      case hs =>
        refine steps_cons (fun L a wx hJ hL haft K hK => ?_) ?_
        · obtain ⟨f, own, val, rfl, H⟩ := hJ
          refine wanted_step rfl ?_
          have e7 := ((H.ev0 7 (by decide)).trans A7)
          refine wp_of_run (w' := wx) (v := .pointer (some ⟨HO, 1, none⟩)) ?_ (hK _ _ (H.quiet (i := 0) (show 0 < 20 by decide) hL (fun d h => by cases h; decide) (by kernel_rfl) (fun j hj => absurd hj List.not_mem_nil) _ (fun s h => Or.inl (by cases h; rfl)) rfl (fun _ _ => trivial) (Or.inr rfl)))
          have qf : ∀ n, (upd a0 f).eval (.func n) = .func (.func n) #[] #[] := fun _ => rfl
          have qc : ∀ v, (upd a0 f).eval (.const v) = v := fun _ => rfl
          generalize (upd a0 f).eval = ev at *
          go_simp
        refine steps_cons (fun L a wx hJ hL haft K hK => ?_) ?_
        · obtain ⟨f, own, val, rfl, H⟩ := hJ
          refine wanted_step rfl ?_
          have ex := (H.ev 0 49 (show 0 < 20 by decide) (haft ⟨0, .data⟩ (by simp) rfl) rfl (by rw [hAS]; decide)).trans (H.pur 0 (show 0 < 20 by decide) (haft ⟨0, .data⟩ (by simp) rfl))
          have h19 := (H.mine 19 16 (show 19 < 20 by decide) (H.ini 19 (show 19 < 20 by decide) (List.mem_singleton.2 rfl)) rfl (H.late 16 1 (show 16 < 20 by decide) (List.mem_singleton.2 rfl) hL)).now
          refine wp_of_run (w' := wx) (v := dv) ?_ (hK _ _ (H.quiet (i := 1) (show 1 < 20 by decide) hL (fun d h => by cases h; decide) (by kernel_rfl) (fun j hj => absurd hj List.not_mem_nil) _ (fun s h => Or.inl (by cases h; rfl)) rfl (fun _ _ => trivial) (Or.inr rfl)))
          have c1 := h19.2.2.1.c1
          clear h19
          have qf : ∀ n, (upd a0 f).eval (.func n) = .func (.func n) #[] #[] := fun _ => rfl
          have qc : ∀ v, (upd a0 f).eval (.const v) = v := fun _ => rfl
          generalize (upd a0 f).eval = ev at *
          go_simp
        refine steps_cons (fun L a wx hJ hL haft K hK => ?_) ?_
        · obtain ⟨f, own, val, rfl, H⟩ := hJ
          refine wanted_step rfl ?_
          refine wp_of_run (w' := wx.alloc (.cells #[] 30)) (v := .slice (some ⟨wx.heap.size, 0, none⟩) 0 0) ?_ (hK _ _ (H.make (i := 2) (show 2 < 20 by decide) hL (fun d h => by cases h; decide) (by kernel_rfl) (fun j hj => absurd hj List.not_mem_nil) _ (fun s h => Or.inl (by cases h; rfl)) _ ((Below.refl _ _).alloc (Nat.le_refl _) _) trivial (RowIt.obj (row_empty _ _ _ _ (Nat.le_trans hwB H.kept.size)) ⟨Nat.le_refl _, by simp⟩) (Or.inr rfl)))
          have qf : ∀ n, (upd a0 f).eval (.func n) = .func (.func n) #[] #[] := fun _ => rfl
          have qc : ∀ v, (upd a0 f).eval (.const v) = v := fun _ => rfl
          generalize (upd a0 f).eval = ev at *
          go_simp
        refine steps_cons (fun L a wx hJ hL haft K hK => ?_) ?_
        · obtain ⟨f, own, val, rfl, H⟩ := hJ
          refine wanted_step rfl ?_
          have e2 := ((H.ev0 2 (by decide)).trans A2)
          refine wp_of_run (w' := wx) (v := .pointer (some ⟨w.heap.size, 1, none⟩)) ?_ (hK _ _ (H.quiet (i := 3) (show 3 < 20 by decide) hL (fun d h => by cases h; decide) (by kernel_rfl) (fun j hj => absurd hj List.not_mem_nil) _ (fun s h => Or.inl (by cases h; rfl)) rfl (fun _ _ => trivial) (Or.inr rfl)))
          have qf : ∀ n, (upd a0 f).eval (.func n) = .func (.func n) #[] #[] := fun _ => rfl
          have qc : ∀ v, (upd a0 f).eval (.const v) = v := fun _ => rfl
          generalize (upd a0 f).eval = ev at *
          go_simp
        refine steps_cons (fun L a wx hJ hL haft K hK => ?_) ?_
        · obtain ⟨f, own, val, rfl, H⟩ := hJ
          refine wanted_step rfl ?_
          have ex := (H.ev 3 52 (show 3 < 20 by decide) (haft ⟨3, .data⟩ (by simp) rfl) rfl (by rw [hAS]; decide)).trans (H.pur 3 (show 3 < 20 by decide) (haft ⟨3, .data⟩ (by simp) rfl))
          have c1 := (H.kept.cell (o := 1) hPlt (hsmP _ hP1)).trans CP1
          refine wp_of_run (w' := wx) (v := .slice (some ⟨db, doff, none⟩) t.data.length dc) ?_ (hK _ _ (H.quiet (i := 4) (show 4 < 20 by decide) hL (fun d h => by cases h; decide) (by kernel_rfl) (fun j hj => absurd hj List.not_mem_nil) _ (fun s h => Or.inl (by cases h; rfl)) rfl (fun _ _ => trivial) (Or.inr rfl)))
          have qf : ∀ n, (upd a0 f).eval (.func n) = .func (.func n) #[] #[] := fun _ => rfl
          have qc : ∀ v, (upd a0 f).eval (.const v) = v := fun _ => rfl
          generalize (upd a0 f).eval = ev at *
          go_simp
        refine steps_cons (fun L a wx hJ hL haft K hK => ?_) ?_
        · obtain ⟨f, own, val, rfl, H⟩ := hJ
          refine wanted_step rfl ?_
          have e8 := ((H.ev0 8 (by decide)).trans A8)
          refine wp_of_run (w' := wx) (v := .int .i64 j) ?_ (hK _ _ (H.quiet (i := 5) (show 5 < 20 by decide) hL (fun d h => by cases h; decide) (by kernel_rfl) (fun j hj => absurd hj List.not_mem_nil) _ (fun s h => Or.inl (by cases h; rfl)) rfl (fun _ _ => trivial) (Or.inr rfl)))
          have qf : ∀ n, (upd a0 f).eval (.func n) = .func (.func n) #[] #[] := fun _ => rfl
          have qc : ∀ v, (upd a0 f).eval (.const v) = v := fun _ => rfl
          generalize (upd a0 f).eval = ev at *
          go_simp
        refine steps_cons (fun L a wx hJ hL haft K hK => ?_) ?_
        · obtain ⟨f, own, val, rfl, H⟩ := hJ
          refine wanted_step rfl ?_
          have ex := (H.ev 4 53 (show 4 < 20 by decide) (haft ⟨4, .data⟩ (by simp) rfl) rfl (by rw [hAS]; decide)).trans (H.pur 4 (show 4 < 20 by decide) (haft ⟨4, .data⟩ (by simp) rfl))
          have ey := (H.ev 5 54 (show 5 < 20 by decide) (haft ⟨5, .data⟩ (by simp) rfl) rfl (by rw [hAS]; decide)).trans (H.pur 5 (show 5 < 20 by decide) (haft ⟨5, .data⟩ (by simp) rfl))
          refine wp_of_run (w' := wx) (v := .pointer (some ⟨db, doff + j, none⟩)) ?_ (hK _ _ (H.quiet (i := 6) (show 6 < 20 by decide) hL (fun d h => by cases h; decide) (by kernel_rfl) (fun j hj => absurd hj List.not_mem_nil) _ (fun s h => Or.inl (by cases h; rfl)) rfl (fun _ _ => trivial) (Or.inr rfl)))
          have qf : ∀ n, (upd a0 f).eval (.func n) = .func (.func n) #[] #[] := fun _ => rfl
          have qc : ∀ v, (upd a0 f).eval (.const v) = v := fun _ => rfl
          generalize (upd a0 f).eval = ev at *
          go_simp
        refine steps_cons (fun L a wx hJ hL haft K hK => ?_) ?_
        · obtain ⟨f, own, val, rfl, H⟩ := hJ
          refine wanted_step rfl ?_
          have ex := (H.ev 6 55 (show 6 < 20 by decide) (haft ⟨6, .data⟩ (by simp) rfl) rfl (by rw [hAS]; decide)).trans (H.pur 6 (show 6 < 20 by decide) (haft ⟨6, .data⟩ (by simp) rfl))
          have c1 := (H.kept.cell (o := doff + j) hdbW (hsm _ hdb)).trans KVA
          refine wp_of_run (w' := wx) (v := .slice xa x.length xc) ?_ (hK _ _ (H.quiet (i := 7) (show 7 < 20 by decide) hL (fun d h => by cases h; decide) (by kernel_rfl) (fun j hj => absurd hj List.not_mem_nil) _ (fun s h => Or.inl (by cases h; rfl)) rfl (fun _ _ => trivial) (Or.inr rfl)))
          have qf : ∀ n, (upd a0 f).eval (.func n) = .func (.func n) #[] #[] := fun _ => rfl
          have qc : ∀ v, (upd a0 f).eval (.const v) = v := fun _ => rfl
          generalize (upd a0 f).eval = ev at *
          go_simp
        refine steps_cons (fun L a wx hJ hL haft K hK => ?_) ?_
        · obtain ⟨f, own, val, rfl, H⟩ := hJ
          refine wanted_step rfl ?_
          have ex := (H.ev 7 56 (show 7 < 20 by decide) (haft ⟨7, .data⟩ (by simp) rfl) rfl (by rw [hAS]; decide)).trans (H.pur 7 (show 7 < 20 by decide) (haft ⟨7, .data⟩ (by simp) rfl))
          have hbw := H.kept.below (B := w.heap.size) (fun k hk => Nat.le_of_not_lt (fun hc => hsm k hc hk)) (Nat.le_trans (Nat.le_of_lt hwW) hwB)
          exact H.app (i := 8) 2 51 (show 2 < 20 by decide) (haft ⟨2, .data⟩ (by simp) rfl) rfl rfl (by rw [hAS]; decide) rfl (show 8 < 20 by decide) hL (fun d h => by cases h; decide) (by kernel_rfl) (fun j hj => absurd hj List.not_mem_nil) (fun s h => by cases h; rfl) _ 34 rfl (.agg #[.int .i64 0, .int .u64 0, .string ByteArray.empty]) 32 Try.underlying34 info_cell rfl (by decide) xa x.length xc (cv x) (cv_length _) ex hxn (cls_news2 (HXR.out.cls.next (hBW.trans hbw))) (cv_one _) (by unfold maxLen; omega) (by omega) (Nat.le_trans hwB H.kept.size) rfl (fun _ => trivial) hK
        refine steps_cons (fun L a wx hJ hL haft K hK => ?_) ?_
        · obtain ⟨f, own, val, rfl, H⟩ := hJ
          refine wanted_step rfl ?_
          have e3 := ((H.ev0 3 (by decide)).trans A3)
          refine wp_of_run (w' := wx) (v := .pointer (some ⟨w.heap.size + 1, 1, none⟩)) ?_ (hK _ _ (H.quiet (i := 9) (show 9 < 20 by decide) hL (fun d h => by cases h; decide) (by kernel_rfl) (fun j hj => absurd hj List.not_mem_nil) _ (fun s h => Or.inl (by cases h; rfl)) rfl (fun _ _ => trivial) (Or.inr rfl)))
          have qf : ∀ n, (upd a0 f).eval (.func n) = .func (.func n) #[] #[] := fun _ => rfl
          have qc : ∀ v, (upd a0 f).eval (.const v) = v := fun _ => rfl
          generalize (upd a0 f).eval = ev at *
          go_simp
        refine steps_cons (fun L a wx hJ hL haft K hK => ?_) ?_
        · obtain ⟨f, own, val, rfl, H⟩ := hJ
          refine wanted_step rfl ?_
          have ex := (H.ev 9 58 (show 9 < 20 by decide) (haft ⟨9, .data⟩ (by simp) rfl) rfl (by rw [hAS]; decide)).trans (H.pur 9 (show 9 < 20 by decide) (haft ⟨9, .data⟩ (by simp) rfl))
          have c1 := (H.kept.cell (o := 1) hQlt (hsmP _ hQ1)).trans CQ1
          refine wp_of_run (w' := wx) (v := .slice (some ⟨eb, eoff, none⟩) u.data.length oe) ?_ (hK _ _ (H.quiet (i := 10) (show 10 < 20 by decide) hL (fun d h => by cases h; decide) (by kernel_rfl) (fun j hj => absurd hj List.not_mem_nil) _ (fun s h => Or.inl (by cases h; rfl)) rfl (fun _ _ => trivial) (Or.inr rfl)))
          have qf : ∀ n, (upd a0 f).eval (.func n) = .func (.func n) #[] #[] := fun _ => rfl
          have qc : ∀ v, (upd a0 f).eval (.const v) = v := fun _ => rfl
          generalize (upd a0 f).eval = ev at *
          go_simp
        refine steps_cons (fun L a wx hJ hL haft K hK => ?_) ?_
        · obtain ⟨f, own, val, rfl, H⟩ := hJ
          refine wanted_step rfl ?_
          have e8 := ((H.ev0 8 (by decide)).trans A8)
          refine wp_of_run (w' := wx) (v := .int .i64 j) ?_ (hK _ _ (H.quiet (i := 11) (show 11 < 20 by decide) hL (fun d h => by cases h; decide) (by kernel_rfl) (fun j hj => absurd hj List.not_mem_nil) _ (fun s h => Or.inl (by cases h; rfl)) rfl (fun _ _ => trivial) (Or.inr rfl)))
          have qf : ∀ n, (upd a0 f).eval (.func n) = .func (.func n) #[] #[] := fun _ => rfl
          have qc : ∀ v, (upd a0 f).eval (.const v) = v := fun _ => rfl
          generalize (upd a0 f).eval = ev at *
          go_simp
        refine steps_cons (fun L a wx hJ hL haft K hK => ?_) ?_
        · obtain ⟨f, own, val, rfl, H⟩ := hJ
          refine wanted_step rfl ?_
          have ex := (H.ev 10 59 (show 10 < 20 by decide) (haft ⟨10, .data⟩ (by simp) rfl) rfl (by rw [hAS]; decide)).trans (H.pur 10 (show 10 < 20 by decide) (haft ⟨10, .data⟩ (by simp) rfl))
          have ey := (H.ev 11 60 (show 11 < 20 by decide) (haft ⟨11, .data⟩ (by simp) rfl) rfl (by rw [hAS]; decide)).trans (H.pur 11 (show 11 < 20 by decide) (haft ⟨11, .data⟩ (by simp) rfl))
          refine wp_of_run (w' := wx) (v := .pointer (some ⟨eb, eoff + j, none⟩)) ?_ (hK _ _ (H.quiet (i := 12) (show 12 < 20 by decide) hL (fun d h => by cases h; decide) (by kernel_rfl) (fun j hj => absurd hj List.not_mem_nil) _ (fun s h => Or.inl (by cases h; rfl)) rfl (fun _ _ => trivial) (Or.inr rfl)))
          have qf : ∀ n, (upd a0 f).eval (.func n) = .func (.func n) #[] #[] := fun _ => rfl
          have qc : ∀ v, (upd a0 f).eval (.const v) = v := fun _ => rfl
          generalize (upd a0 f).eval = ev at *
          go_simp
        refine steps_cons (fun L a wx hJ hL haft K hK => ?_) ?_
        · obtain ⟨f, own, val, rfl, H⟩ := hJ
          refine wanted_step rfl ?_
          have ex := (H.ev 12 61 (show 12 < 20 by decide) (haft ⟨12, .data⟩ (by simp) rfl) rfl (by rw [hAS]; decide)).trans (H.pur 12 (show 12 < 20 by decide) (haft ⟨12, .data⟩ (by simp) rfl))
          have c1 := (H.kept.cell (o := eoff + j) hebW (hsm _ heb)).trans KVB
          refine wp_of_run (w' := wx) (v := .slice ya y.length yc) ?_ (hK _ _ (H.quiet (i := 13) (show 13 < 20 by decide) hL (fun d h => by cases h; decide) (by kernel_rfl) (fun j hj => absurd hj List.not_mem_nil) _ (fun s h => Or.inl (by cases h; rfl)) rfl (fun _ _ => trivial) (Or.inr rfl)))
          have qf : ∀ n, (upd a0 f).eval (.func n) = .func (.func n) #[] #[] := fun _ => rfl
          have qc : ∀ v, (upd a0 f).eval (.const v) = v := fun _ => rfl
          generalize (upd a0 f).eval = ev at *
          go_simp
        refine steps_cons (fun L a wx hJ hL haft K hK => ?_) ?_
        · obtain ⟨f, own, val, rfl, H⟩ := hJ
          refine wanted_step rfl ?_
          have ex := (H.ev 13 62 (show 13 < 20 by decide) (haft ⟨13, .data⟩ (by simp) rfl) rfl (by rw [hAS]; decide)).trans (H.pur 13 (show 13 < 20 by decide) (haft ⟨13, .data⟩ (by simp) rfl))
          have hbw := H.kept.below (B := w.heap.size) (fun k hk => Nat.le_of_not_lt (fun hc => hsm k hc hk)) (Nat.le_trans (Nat.le_of_lt hwW) hwB)
          exact H.app (i := 14) 8 57 (show 8 < 20 by decide) (haft ⟨8, .data⟩ (by simp) rfl) rfl rfl (by rw [hAS]; decide) rfl (show 14 < 20 by decide) hL (fun d h => by cases h; decide) (by kernel_rfl) (fun j hj => absurd hj List.not_mem_nil) (fun s h => by cases h; rfl) _ 34 rfl (.agg #[.int .i64 0, .int .u64 0, .string ByteArray.empty]) 32 Try.underlying34 info_cell rfl (by decide) ya y.length yc (cv y) (cv_length _) ex hyn (cls_news2 (HYR.out.cls.next (hBW.trans hbw))) (cv_one _) (by unfold maxLen; omega) (by omega) (Nat.le_trans hwB H.kept.size) rfl (fun _ => trivial) hK
        refine steps_cons (fun L a wx hJ hL haft K hK => ?_) ?_
        · obtain ⟨f, own, val, rfl, H⟩ := hJ
          refine wanted_step rfl ?_
          have ho14 := (H.mine 14 15 (show 14 < 20 by decide) (haft ⟨14, .data⟩ (by simp) rfl) rfl hL)
          obtain ⟨gl, cl, hv14, hs14, hr14⟩ := ho14.now
          have ex := (H.ev 14 63 (show 14 < 20 by decide) (haft ⟨14, .data⟩ (by simp) rfl) rfl (by rw [hAS]; decide)).trans hv14
          have hn := heap_alloc_new wx (.cells #[.slice (some ⟨gl, 0, none⟩) (0 + x.length + y.length) cl] 34)
          refine wp_of_run (w' := wx.alloc (.cells #[.slice (some ⟨gl, 0, none⟩) (0 + x.length + y.length) cl] 34)) (v := .slice (some ⟨wx.heap.size, 0, none⟩) 1 1) ?_ (hK _ _ (H.wrap 14 (show 14 < 20 by decide) (haft ⟨14, .data⟩ (by simp) rfl) rfl (i := 15) (show 15 < 20 by decide) hL (fun d h => by cases h; decide) (by kernel_rfl) (fun j hj => absurd hj List.not_mem_nil) _ (fun s h => Or.inl (by cases h; rfl)) _ ((Below.refl _ _).alloc (Nat.le_refl _) _) trivial (fun W' h1 _ => ?_) (Or.inr rfl)))
          · clear hn ho14
            have qf : ∀ n, (upd a0 f).eval (.func n) = .func (.func n) #[] #[] := fun _ => rfl; have qc : ∀ v, (upd a0 f).eval (.const v) = v := fun _ => rfl; generalize (upd a0 f).eval = ev at *; go_simp
          · refine ⟨_, gl, cl, rfl, Or.inl ⟨Nat.le_refl _, by simp⟩, Or.inr hs14, (h1 _ (Or.inl ⟨Nat.le_refl _, by simp⟩)).trans hn, row_blk hr14 ?_⟩
            rw [h1 gl (Or.inr hs14)]
            exact ((Below.refl wx.heap.size wx).alloc (Nat.le_refl _) _).block gl (row_at hr14).2
        refine steps_cons (fun L a wx hJ hL haft K hK => ?_) ?_
        · obtain ⟨f, own, val, rfl, H⟩ := hJ
          refine wanted_step rfl ?_
          obtain ⟨hcH, hcD, h191, h192⟩ := (H.mine 19 16 (show 19 < 20 by decide) (H.ini 19 (show 19 < 20 by decide) (List.mem_singleton.2 rfl)) rfl hL).now
          have ho15 := (H.mine 15 16 (show 15 < 20 by decide) (haft ⟨15, .data⟩ (by simp) rfl) rfl hL)
          obtain ⟨g, gl, cl, hv15, hsg, hsl, hblk, hrl⟩ := ho15.now
          have e50 : (upd a0 f).eval (.tmp 50) = dv := (H.ev 1 50 (show 1 < 20 by decide) (haft ⟨1, .data⟩ (by simp) rfl) rfl (by rw [hAS]; decide)).trans (H.pur 1 (show 1 < 20 by decide) (haft ⟨1, .data⟩ (by simp) rfl))
          have e64 := (H.ev 15 64 (show 15 < 20 by decide) (haft ⟨15, .data⟩ (by simp) rfl) rfl (by rw [hAS]; decide)).trans hv15
          have al19 : ∀ e, (tab (appTb W1.heap.size (.pointer (some ⟨HO, 1, none⟩)) dv (.pointer (some ⟨w.heap.size, 1, none⟩)) (.slice (some ⟨db, doff, none⟩) t.data.length dc) (.int .i64 j) (.pointer (some ⟨db, doff + j, none⟩)) (.slice xa x.length xc) (.pointer (some ⟨w.heap.size + 1, 1, none⟩)) (.slice (some ⟨eb, eoff, none⟩) u.data.length oe) (.pointer (some ⟨eb, eoff + j, none⟩)) (.slice ya y.length yc) (.pointer (some ⟨HO, 1, none⟩)) HO j (.slice ca t.cols.length cc) vs x y) 19).cons = some e → L e = false := fun e h => by cases h; exact hL
          have al15 : ∀ e, (tab (appTb W1.heap.size (.pointer (some ⟨HO, 1, none⟩)) dv (.pointer (some ⟨w.heap.size, 1, none⟩)) (.slice (some ⟨db, doff, none⟩) t.data.length dc) (.int .i64 j) (.pointer (some ⟨db, doff + j, none⟩)) (.slice xa x.length xc) (.pointer (some ⟨w.heap.size + 1, 1, none⟩)) (.slice (some ⟨eb, eoff, none⟩) u.data.length oe) (.pointer (some ⟨eb, eoff + j, none⟩)) (.slice ya y.length yc) (.pointer (some ⟨HO, 1, none⟩)) HO j (.slice ca t.cols.length cc) vs x y) 15).cons = some e → L e = false := fun e h => by cases h; exact hL
          have hL19 := H.ini 19 (show 19 < 20 by decide) (List.mem_singleton.2 rfl)
          have hL15 := (haft ⟨15, .data⟩ (by simp) rfl)
          obtain ⟨i, hi, hz0, hz1, hz2⟩ := info_parts info_row
          have hgl : some gl ≠ dv.ownBlock := fun e => by
            have := H.dis 15 19 gl (show 15 < 20 by decide) (show 19 < 20 by decide) hL15 hL19 al15 al19 hsl (hcD gl e)
            cases this
          have hglw := (row_at hrl).2
          refine wp_append_lies wx (.tmp 50) (.tmp 64) 23 rfl W1.heap.size 34 i (.slice none 0 0) 1 24 Try.underlying23 hi hz0 hz1 hz2 rfl (by decide) dv j vs e50 h192 ⟨g, 0, none⟩ 1 1 [(.slice (some ⟨gl, 0, none⟩) (0 + x.length + y.length) cl)] e64 rfl (fun z y hz => ?_) (fun y hy => by rw [List.mem_singleton.1 hy]; rfl) (by decide) (by unfold maxLen; omega) (by omega) (Nat.le_trans hwB H.kept.size) wx.heap.size rfl (fun g' c' w' a1 a2 a3 a4 => hK _ _ ?_)
          · match z, hz with
            | 0, hz =>
              simp at hz
              subst hz
              simp [World.cell?, Addr.add, hblk]
          · have hg'S : g' < w'.heap.size ∧ (wx.heap.size ≤ g' ∨ own 19 g' ∨ own 15 g') := ⟨a4, by
              rcases a3 with a3 | a3
              · exact Or.inr (Or.inl (hcD g' a3.symm))
              · exact Or.inl (by omega)⟩
            refine H.step (i := 16) (show 16 < 20 by decide) hL (fun d h => by cases h; decide) (by kernel_rfl) (fun j hj => by rw [List.mem_singleton.1 hj]; exact (haft ⟨1, .data⟩ (by simp) rfl)) (.slice (some ⟨g', 0, none⟩) (j + 1) c') (fun s h => Or.inl (by cases h; rfl)) (fun z => z < w'.heap.size ∧ (wx.heap.size ≤ z ∨ own 19 z ∨ own 15 z)) w' ⟨a2.os.trans H.kept.os, a2.tape.trans H.kept.tape, a2.output.trans H.kept.output, Nat.le_trans H.kept.size a2.size, fun z hz hm => (a2.block z (Nat.lt_of_lt_of_le hz H.kept.size) (fun e => hm (Or.inr e))).trans (H.kept.block z hz hm)⟩ a2.size (fun z hz => ?_) (fun z hz => ⟨hz.1, ?_⟩) trivial (fun W' h1 h2 => ?_) (Or.inr rfl)
            · by_cases e : some z = dv.ownBlock
              · exact Or.inr (Or.inr ⟨19, (show 19 < 20 by decide), hL19, rfl, hcD z e⟩)
              · exact Or.inl (a2.block z hz e)
            · rcases hz.2 with hz | hz | hz
              · exact Or.inl hz
              · exact Or.inr ⟨19, (show 19 < 20 by decide), hL19, rfl, hz⟩
              · exact Or.inr ⟨15, (show 15 < 20 by decide), hL15, rfl, hz⟩
            · have hHlt := h191.lt
              refine ⟨g', c', gl, cl, rfl, hg'S, ⟨Nat.lt_of_lt_of_le hglw a2.size, Or.inr (Or.inr hsl)⟩, row_blk a1 (h1 g' hg'S), row_blk hrl ((h1 gl ⟨Nat.lt_of_lt_of_le hglw a2.size, Or.inr (Or.inr hsl)⟩).trans (a2.block gl hglw hgl)), ?_, ⟨Nat.lt_of_lt_of_le hHlt a2.size, Or.inr (Or.inl hcH)⟩⟩
              exact ((h1 HO ⟨Nat.lt_of_lt_of_le hHlt a2.size, Or.inr (Or.inl hcH)⟩).trans (a2.block HO hHlt HGD.out)).trans h191
        refine steps_cons (fun L a wx hJ hL haft K hK => ?_) ?_
        · obtain ⟨f, own, val, rfl, H⟩ := hJ
          refine wanted_step rfl ?_
          have e7 := ((H.ev0 7 (by decide)).trans A7)
          refine wp_of_run (w' := wx) (v := .pointer (some ⟨HO, 1, none⟩)) ?_ (hK _ _ (H.quiet (i := 17) (show 17 < 20 by decide) hL (fun d h => by cases h; decide) (by kernel_rfl) (fun j hj => absurd hj List.not_mem_nil) _ (fun s h => Or.inl (by cases h; rfl)) rfl (fun _ _ => trivial) (Or.inr rfl)))
          have qf : ∀ n, (upd a0 f).eval (.func n) = .func (.func n) #[] #[] := fun _ => rfl
          have qc : ∀ v, (upd a0 f).eval (.const v) = v := fun _ => rfl
          generalize (upd a0 f).eval = ev at *
          go_simp
        refine steps_cons (fun L a wx hJ hL haft K hK => ?_) ?_
        · obtain ⟨f, own, val, rfl, H⟩ := hJ
          refine wanted_step rfl ?_
          obtain ⟨g', c', gl, cl, hv16, hsg, hsl, hr16, hrl, htw, hsH⟩ := (H.mine 16 18 (show 16 < 20 by decide) (haft ⟨16, .data⟩ (by simp) rfl) rfl hL).now
          have e66 := (H.ev 17 66 (show 17 < 20 by decide) (haft ⟨17, .data⟩ (by simp) rfl) rfl (by rw [hAS]; decide)).trans (H.pur 17 (show 17 < 20 by decide) (haft ⟨17, .data⟩ (by simp) rfl))
          have e65 := (H.ev 16 65 (show 16 < 20 by decide) (haft ⟨16, .data⟩ (by simp) rfl) rfl (by rw [hAS]; decide)).trans hv16
          have al16 : ∀ e, (tab (appTb W1.heap.size (.pointer (some ⟨HO, 1, none⟩)) dv (.pointer (some ⟨w.heap.size, 1, none⟩)) (.slice (some ⟨db, doff, none⟩) t.data.length dc) (.int .i64 j) (.pointer (some ⟨db, doff + j, none⟩)) (.slice xa x.length xc) (.pointer (some ⟨w.heap.size + 1, 1, none⟩)) (.slice (some ⟨eb, eoff, none⟩) u.data.length oe) (.pointer (some ⟨eb, eoff + j, none⟩)) (.slice ya y.length yc) (.pointer (some ⟨HO, 1, none⟩)) HO j (.slice ca t.cols.length cc) vs x y) 16).cons = some e → L e = false := fun e h => by cases h; exact hL
          have hHlt := htw.lt
          have c1 := htw.c1
          have f1 := htw.free 1
          have k1 := htw.s1 (.slice (some ⟨g', 0, none⟩) (j + 1) c')
          have hg1 : g' ≠ HO := fun e => two_kind hr16 htw (by decide) (by rw [← e]; rfl)
          have hg2 : gl ≠ HO := fun e => two_kind hrl htw (by decide) (by rw [← e]; rfl)
          refine wp_of_skip (w' := wx.setCell ⟨HO, 1, none⟩ (.slice (some ⟨g', 0, none⟩) (j + 1) c')) ?_ (hK _ _ (H.turn 16 (show 16 < 20 by decide) (haft ⟨16, .data⟩ (by simp) rfl) rfl (i := 18) (show 18 < 20 by decide) hL (fun d h => by cases h) (by kernel_rfl) (fun j hj => absurd hj List.not_mem_nil) (val 16) (fun s h => by cases h) HO hsH _ ((Below.refl _ _).setCell (p := ⟨HO, 1, none⟩) (Nat.zero_le _) _) (fun z _ hz => heap_set _ _ _ _ hz) trivial (own 16) (fun z hz => ⟨by simpa using (H.rng 16 z (show 16 < 20 by decide) (haft ⟨16, .data⟩ (by simp) rfl) al16 hz).1, Or.inr (Or.inl hz)⟩) (fun W' h1 h2 => ?_) (Or.inl rfl)))
          · clear k1
            have qf : ∀ n, (upd a0 f).eval (.func n) = .func (.func n) #[] #[] := fun _ => rfl; have qc : ∀ v, (upd a0 f).eval (.const v) = v := fun _ => rfl; generalize (upd a0 f).eval = ev at *; go_simp
          · refine ⟨⟨g', c', gl, cl, hv16, row_blk hr16 ((h1 g' hsg).trans (heap_set _ _ _ _ hg1)), row_blk hrl ((h1 gl hsl).trans (heap_set _ _ _ _ hg2))⟩, ?_⟩
            rw [hv16]
            exact (h1 HO hsH).trans k1
        exact steps_nil
      case hend =>
        intro L a wz hall hJ
        obtain ⟨f, own, val, rfl, H⟩ := hJ
        obtain ⟨⟨g', c', gl, cl, hv18, hr18, hrl18⟩, htw18⟩ := (H.free 18 (show 18 < 20 by decide) (hall _) rfl).now
        rw [hv18] at htw18
        clear hv18
        have hkep := H.kept
        have s49 := H.slot 0 49 (show 0 < 20 by decide) (hall _) rfl
        have s50 := H.slot 1 50 (show 1 < 20 by decide) (hall _) rfl
        have s51 := H.slot 2 51 (show 2 < 20 by decide) (hall _) rfl
        have s52 := H.slot 3 52 (show 3 < 20 by decide) (hall _) rfl
        have s53 := H.slot 4 53 (show 4 < 20 by decide) (hall _) rfl
        have s54 := H.slot 5 54 (show 5 < 20 by decide) (hall _) rfl
        have s55 := H.slot 6 55 (show 6 < 20 by decide) (hall _) rfl
        have s56 := H.slot 7 56 (show 7 < 20 by decide) (hall _) rfl
        have s57 := H.slot 8 57 (show 8 < 20 by decide) (hall _) rfl
        have s58 := H.slot 9 58 (show 9 < 20 by decide) (hall _) rfl
        have s59 := H.slot 10 59 (show 10 < 20 by decide) (hall _) rfl
        have s60 := H.slot 11 60 (show 11 < 20 by decide) (hall _) rfl
        have s61 := H.slot 12 61 (show 12 < 20 by decide) (hall _) rfl
        have s62 := H.slot 13 62 (show 13 < 20 by decide) (hall _) rfl
        have s63 := H.slot 14 63 (show 14 < 20 by decide) (hall _) rfl
        have s64 := H.slot 15 64 (show 15 < 20 by decide) (hall _) rfl
        have s65 := H.slot 16 65 (show 16 < 20 by decide) (hall _) rfl
        have s66 := H.slot 17 66 (show 17 < 20 by decide) (hall _) rfl
        have hup := upd_puts a0 [49, 50, 51, 52, 53, 54, 55, 56, 57, 58, 59, 60, 61, 62, 63, 64, 65, 66] f (fun _ => none) (fun s hs => H.off s hs) (fun s hs => by simp only [List.mem_cons, List.not_mem_nil, or_false] at hs; rcases hs with rfl | rfl | rfl | rfl | rfl | rfl | rfl | rfl | rfl | rfl | rfl | rfl | rfl | rfl | rfl | rfl | rfl | rfl <;> exact ⟨_, by assumption⟩)
        rw [upd_none] at hup
        simp only [List.map_cons, List.map_nil, s49, s50, s51, s52, s53, s54, s55, s56, s57, s58, s59, s60, s61, s62, s63, s64, s65, s66, Option.getD_some] at hup
        rw [hup]
        have hbz := H.kept.below (B := W1.heap.size) (fun z hz => hz.elim (fun e => by rw [e]; exact hHw) (fun e => (HM.out.vro.lt z e.symm).1)) hwB
        clear H hup hall hAS  s49 s50 s51 s52 s53 s54 s55 s56 s57 s58 s59 s60 s61 s62 s63 s64 s65 s66
        generalize val 0 = y0
        generalize val 1 = y1
        generalize val 2 = y2
        generalize val 3 = y3
        generalize val 4 = y4
        generalize val 5 = y5
        generalize val 6 = y6
        generalize val 7 = y7
        generalize val 8 = y8
        generalize val 9 = y9
        generalize val 10 = y10
        generalize val 11 = y11
        generalize val 12 = y12
        generalize val 13 = y13
        generalize val 14 = y14
        generalize val 15 = y15
        generalize val 16 = y16
        generalize val 17 = y17
        rw [HA0.out]
        clear HA0
        simp only [puts, Act.put]
        rw [Nat.zero_add] at hr18 hrl18
        have HM2 := Lib.hid (HM.out.grow (row := x ++ y) hkep htw18 (by unfold VRow; rw [List.length_append, hvl]; exact hr18) (by unfold CRow; rw [List.length_append, cv_append]; rw [List.nil_append] at hrl18; exact hrl18) (fun z hz => by
          rcases List.mem_append.1 hz with hz | hz
          · exact HXR.out.ok z hz
          · exact HYR.out.ok z hz))
        have hb2 := b_w.trans hbz
        clear hbz hkep htw18 hr18 hrl18 A7 A8 A2 A3
        go_simp
        go_wp2_with fail
        exact ⟨⟨j + 1, _, _, by omega, by go_num, Lib.hid (by rw [HZ2.out]; exact HM2.out), hb2⟩, by simp [intOf]; omega⟩
    · obtain rfl : j = t.data.length := by omega
      rw [show ZZ.take t.data.length = ZZ from List.take_of_length_le (by rw [HZL.out]; exact Nat.le_refl _)] at HM
      obtain ⟨da2, dc2, hge2⟩ := vrow_form HM.out.vro
      have hvl : vs.length = t.data.length := by rw [HM.out.len, HZL.out]
      rw [hvl] at hge2
      subst hge2
      clear hvl
      have z0 := HM.out.two.c0
      have z1 := HM.out.two.c1
      have q0 := HR.out.next b_w
      have q1 := q0.s0 (.slice ca t.cols.length cc)
      have q2 := q1.s1 (.slice da2 t.data.length dc2)
      have b0 := q0.c0
      have f0 := q0.free 0
      have b1 := q1.c1
      have f1 := q1.free 1
      have y0 := q2.c0
      have y1 := q2.c1
      have hrb : w.heap.size ≤ w.heap.size + 2 := by omega
      have HB3 := Lib.hid (((below_then HAL.out b_w).setCell (p := ⟨w.heap.size + 2, 0, none⟩) hrb (.slice ca t.cols.length cc)).setCell (p := ⟨w.heap.size + 2, 1, none⟩) hrb (.slice da2 t.data.length dc2))
      clear q0 q1 q2
      go_wp2_with fail
      refine bodyPost_ret (v := .tuple #[tag ca t.cols.length cc da2 t.data.length dc2, .int .i64 0]) (by simp [results, Try.results34, go_sem, y0, y1]) rfl ?_
      have hmf := HM.out.far (W := (wr.setCell ⟨w.heap.size + 2, 0, none⟩ (.slice ca t.cols.length cc)).setCell ⟨w.heap.size + 2, 1, none⟩ (.slice da2 t.data.length dc2)) (fun z hz hz2 => by
        have h2 := HSZ.out
        rw [heap_set _ _ _ _ (by simp; omega), heap_set _ _ _ _ (by simp; omega)])
      obtain ⟨da3, dc3, he, hd, hc⟩ := hmf.dat
      injection he with he1 he2 he3
      subst he1 he3
      have htn := HT0.out.next HB3.out
      rw [← HRES.out]
      exact ⟨ca, cc, da2, dc2, by simp only [HZL.out]; rfl, ⟨htn.gls, hd, htn.gOk, htn.ccap, hc⟩, HB3.out⟩
end Go.Proofs.Ytnjnalehfhfefaa
