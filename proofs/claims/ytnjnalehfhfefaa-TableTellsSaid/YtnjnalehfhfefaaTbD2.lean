/- The walk of the closure of table.Drop. -/
import Derived.Test.YtnjnalehfhfefaaTbD3
import Derived.Test.YtnjnalehfhfefaaTbDel
import Derived.Test.YtnjnalehfhfefaaTw
namespace Go.Proofs.Ytnjnalehfhfefaa
open Go.RowKit
set_option linter.unusedVariables false

theorem gx_erase (l : List Tb.Col) (q : Nat) (hq : q < l.length) : (l.flatMap gx).take (q * 2) ++ (l.flatMap gx).drop ((q + 1) * 2) = (l.eraseIdx q).flatMap gx := by
  induction l generalizing q with
  | nil => simp at hq
  | cons r l ih =>
    cases q with
    | zero => simp [gx]
    | succ q =>
      have := ih q (by simpa using hq)
      rw [List.eraseIdx_cons_succ, List.flatMap_cons, List.flatMap_cons, ← this, show (q + 1) * 2 = q * 2 + 1 + 1 by omega, show (q + 1 + 1) * 2 = (q + 1) * 2 + 1 + 1 by omega]
      simp only [gx, List.cons_append, List.nil_append, List.take_succ_cons, List.drop_succ_cons]
      rw [show q * 2 + 1 + 1 = (q + 1) * 2 by omega]
theorem gx_one (l : List Tb.Col) : ∀ v ∈ l.flatMap gx, v.oneCell' = true := by
  intro u hu
  simp only [List.mem_flatMap] at hu
  obtain ⟨x, _, hx⟩ := hu
  simp [gx] at hx
  rcases hx with rfl | rfl <;> rfl
theorem Own.vsOne {w : World} {B G : Nat} {t : Tb.T} {cv dv : Value} {vs : List Value} (h : Own w B G t cv dv vs) : ∀ v ∈ vs, v.oneCell' = true := by
  intro v hv
  obtain ⟨i, hi, rfl⟩ := List.mem_iff_getElem.1 hv
  obtain ⟨u, h1, h2⟩ := h.row i (by rw [← h.len]; exact hi)
  rw [List.getElem?_eq_getElem hi] at h1
  rw [Option.some.inj h1]
  exact ownsRow_one h2
theorem Own.delc {w w' : World} {B G g q : Nat} {t : Tb.T} {cv dv v' : Value} {vs : List Value} (h : Own w B G t cv dv vs) (hD : GRow B (t.cols.eraseIdx q) v' w') (same : ∀ k, k ≠ g → w'.heap[k]? = w.heap[k]?) (hc : cv.ownBlock = some g) (hv : v'.ownBlock = some g) :
    Own (w'.setCell ⟨G, 0, none⟩ v') B G ⟨t.cols.eraseIdx q, t.data⟩ v' dv vs := by
  have hGg : G ≠ g := fun e => h.gG (by rw [hc, e])
  have tw : Two w' G 25 cv dv := (same G hGg).trans h.two
  have s2 : ∀ k, k ≠ g → k ≠ G → (w'.setCell ⟨G, 0, none⟩ v').heap[k]? = w.heap[k]? := fun k h1 h2 => (heap_set _ _ _ _ h2).trans (same k h1)
  refine ⟨tw.s0 v', h.ge, ?_, ?_, h.len, ?_, h.far, ?_, h.okC⟩
  · exact row_move hD (fun k hk => heap_set _ _ _ _ (fun e => hGg ((show k = G from e).symm.trans (Option.some.inj (hk.symm.trans hv)))))
  · exact row_move h.vro (fun k hk => s2 k (fun e => row_kinds h.vro h.gro (by decide) hk (by rw [hc, e])) (fun e => h.gD (by rw [hk, e])))
  · intro i hi
    obtain ⟨u, h1, h2⟩ := h.row i hi
    exact ⟨u, h1, row_move h2 (fun k hk => s2 k (fun e => row_kinds h2 h.gro (by decide) hk (by rw [hc, e])) (fun e => two_kind h2 h.two (by decide) (by rw [hk, e])))⟩
  · intro x hx
    exact h.okG x (List.mem_of_mem_eraseIdx hx)
theorem erase_get {α : Type} (l : List α) (q i : Nat) : (l.eraseIdx q)[i]? = l[if i < q then i else i + 1]? := by
  rw [List.getElem?_eraseIdx]; split <;> rfl
theorem Own.delv {w w' : World} {B G g q : Nat} {t : Tb.T} {cv dv v' : Value} {vs : List Value} (h : Own w B G t cv dv vs) (hq : q < t.data.length) (hD : VRow B (vs.eraseIdx q) v' w') (same : ∀ k, k ≠ g → w'.heap[k]? = w.heap[k]?) (hc : dv.ownBlock = some g) (hv : v'.ownBlock = some g) :
    Own (w'.setCell ⟨G, 1, none⟩ v') B G ⟨t.cols, t.data.eraseIdx q⟩ cv v' (vs.eraseIdx q) := by
  have hGg : G ≠ g := fun e => h.gD (by rw [hc, e])
  have tw : Two w' G 25 cv dv := (same G hGg).trans h.two
  have s2 : ∀ k, k ≠ g → k ≠ G → (w'.setCell ⟨G, 1, none⟩ v').heap[k]? = w.heap[k]? := fun k h1 h2 => (heap_set _ _ _ _ h2).trans (same k h1)
  refine ⟨tw.s1 v', h.ge, ?_, ?_, ?_, ?_, ?_, h.okG, ?_⟩
  · exact row_move h.gro (fun k hk => s2 k (fun e => row_kinds h.gro h.vro (by decide) hk (by rw [hc, e])) (fun e => h.gG (by rw [hk, e])))
  · exact row_move hD (fun k hk => heap_set _ _ _ _ (fun e => hGg ((show k = G from e).symm.trans (Option.some.inj (hk.symm.trans hv)))))
  · rw [List.length_eraseIdx, List.length_eraseIdx, h.len]
  · intro i hi
    have hi2 : i < (t.data.eraseIdx q).length := hi
    rw [List.length_eraseIdx, if_pos hq] at hi2
    have hj : (if i < q then i else i + 1) < t.data.length := by split <;> omega
    obtain ⟨u, h1, h2⟩ := h.row (if i < q then i else i + 1) hj
    refine ⟨u, by rw [erase_get]; exact h1, ?_⟩
    have e : (t.data.eraseIdx q).getD i [] = t.data.getD (if i < q then i else i + 1) [] := by simp only [List.getD]; rw [erase_get]
    show CRow B ((t.data.eraseIdx q).getD i []) u _
    rw [e]
    exact row_move h2 (fun k hk => s2 k (fun e => row_kinds h2 h.vro (by decide) hk (by rw [hc, e])) (fun e => two_kind h2 h.two (by decide) (by rw [hk, e])))
  · intro i j x y hij hx hy
    rw [erase_get] at hx hy
    refine h.far _ _ x y ?_ hx hy
    split <;> split <;> omega
  · intro l hl
    exact h.okC l (List.mem_of_mem_eraseIdx hl)

set_option maxHeartbeats 4000000 in
set_option maxRecDepth 100000 in
theorem drop1_any (b0 : Nat) (n : List UInt8) (t : Tb.T) (w : World) (B G : Nat) (cv dv : Value) (vs : List Value) (hO : Own w B G t cv dv vs) (h0 : Tb.check t = 0) (hb0 : b0 < B)
    (hX : Boxed w b0 9 (.string (str n))) :
    Calls Try.prog 46 #[.pointer (some ⟨G, 0, none⟩), .pointer (some ⟨b0, 0, none⟩)] w (ClPost B G (Tb.dropE t n) (Tb.drop t n) w) := by
  obtain ⟨ca, cc, da, dc, rfl, rfl, hTB⟩ := hO.tbl
  have HTB := Lib.hid hTB
  have hok := Tb.check_ok h0
  have h6 := hok.six
  have hBw := hO.base
  have H1 := Lib.hid (fun W (hb : Below w.heap.size w W) => place_any n ca cc t.cols W (by unfold maxLen; omega) (HTB.out.next hb).gls)
  have htw := hO.two
  have HTW := Lib.hid htw
  have HO := Lib.hid hO
  have HLEN := Lib.hid hok.len
  have p0 := fun p : WB w => p.cell htw.lt htw.c0
  have p1 := fun p : WB w => p.cell (boxed_lt hX) (boxed_c0 hX)
  clear hO hX h0 hok hTB htw
  unfold Tb.dropE
  by_cases e1 : ¬ Tb.has t.cols n
  · rw [if_neg e1]
    rw [idx_neg e1] at H1
    clear e1
    go_enter Try.func46, Try.ntmps46
    go_wp2_with fail
    refine wp_region_wb (by kernel_rfl) (by kernel_rfl) ?_
    repeat (quiet_step ((go_at_call 47; refine calls_wb (v := .int .i64 (-1)) ?_; exact (H1.out _ (WB.below _)))))
    refine wpQuiet_nil ?_
    rintro _ ⟨p, rfl⟩
    have hp := p.below
    clear p0 p1
    go_wp2_with fail
    go_ret
    exact ⟨rfl, hp.mono hBw, fun h => by omega⟩
  have e1 : Tb.has t.cols n := Classical.not_not.1 e1
  rw [if_pos e1]
  rw [idx_pos e1] at H1
  have hpl : Tb.pos t.cols n < t.cols.length := e1
  have HDROP := Lib.hid (show Tb.drop t n = ⟨t.cols.eraseIdx (Tb.pos t.cols n), t.data.eraseIdx (Tb.pos t.cols n)⟩ from rfl)
  generalize Tb.drop t n = R at *
  generalize Tb.pos t.cols n = q at *
  have hpd : q < t.data.length := by have := HLEN.out; omega
  have g0 : decide ((q : Int) < 0) = false := decide_eq_false (by omega)
  obtain ⟨g, gc, hform⟩ : ∃ g gc, ca = some ⟨g, 0, none⟩ ∧ cc = gc := by
    rcases HO.out.gro.2 with ⟨e, h0⟩ | ⟨g, cap, cur, e, _⟩
    · omega
    · injection e with e1 e2 e3
      exact ⟨g, cap, e1, e3⟩
  obtain ⟨rfl, rfl⟩ := hform
  obtain ⟨gd, gdc, hform⟩ : ∃ g gc, da = some ⟨g, 0, none⟩ ∧ dc = gc := by
    rcases HO.out.vro.2 with ⟨e, h0⟩ | ⟨g, cap, cur, e, _⟩
    · have := HO.out.len; omega
    · injection e with e1 e2 e3
      exact ⟨g, cap, e1, e3⟩
  obtain ⟨rfl, rfl⟩ := hform
  clear e1
  have hgB : B ≤ g := (HO.out.gro.lt g rfl).1
  have hgdB : B ≤ gd := (HO.out.vro.lt gd rfl).1
  have hGB : B ≤ G := HO.out.ge
  have hvl : vs.length = t.data.length := HO.out.len
  have HVL := Lib.hid hvl
  have hd6 : t.data.length ≤ 6 := by have := HLEN.out; omega
  clear hvl
  go_enter Try.func46, Try.ntmps46
  go_wp2_with fail
  refine wp_region_wb (by kernel_rfl) (by kernel_rfl) ?_
  repeat (quiet_step ((go_at_call 47; refine calls_wb (v := .int .i64 (q : Int)) ?_; exact (H1.out _ (WB.below _)))))
  refine wpQuiet_nil ?_
  rintro _ ⟨p, rfl⟩
  have hp := p.below
  clear p0 p1
  generalize p.w = W1 at *
  have HO1 := Lib.hid (HO.out.move hp)
  have y0 := HO1.out.two.c0
  have HD1 := Lib.hid (delc_any B g t.cols.length cc q (t.cols.flatMap gx) W1 HO1.out.gro hpl (by omega) (gx_one _))
  go_wp2_with fail
  refine (HD1.out).mono ?_
  rintro e w2 ⟨_, rfl, ⟨rfl, hr2⟩, hs2, hz2, -, hb2⟩
  have HO2 := Lib.hid (HO1.out.delc (w' := w2) (g := g) (q := q) (v' := .slice (some ⟨g, 0, none⟩) (t.cols.length - 1) cc) (by
    unfold GRow
    rw [← gx_erase t.cols q hpl, List.length_eraseIdx, if_pos hpl]
    exact hr2) hs2 rfl rfl)
  have hb2 := hb2 hgB
  have htw2 : Two w2 G 25 (.slice (some ⟨g, 0, none⟩) t.cols.length cc) (.slice (some ⟨gd, 0, none⟩) t.data.length dc) := (hs2 G (fun e => HO1.out.gG (by rw [e]; rfl))).trans HO1.out.two
  have x0 := htw2.c0
  have f0 := htw2.free 0
  have hbw2 : Below B w (w2.setCell ⟨G, 0, none⟩ (.slice (some ⟨g, 0, none⟩) (t.cols.length - 1) cc)) := ((hp.mono hBw).trans hb2).setCell (p := ⟨G, 0, none⟩) hGB _
  clear hr2 hs2 hb2 htw2 y0 hz2
  generalize t.cols.length - 1 = n1 at *
  have y1 := HO2.out.two.c1
  have HD2 := Lib.hid (delv_any B gd t.data.length dc q vs (w2.setCell ⟨G, 0, none⟩ (.slice (some ⟨g, 0, none⟩) n1 cc)) (by have h := HO2.out.vro; unfold VRow at h; rw [HVL.out] at h; exact h) hpd (by omega) HO2.out.vsOne)
  go_wp2_with fail
  refine (HD2.out).mono ?_
  rintro e w4 ⟨_, rfl, ⟨rfl, hr4⟩, hs4, hz4, -, hb4⟩
  have HO4 := Lib.hid (HO2.out.delv (w' := w4) (g := gd) (q := q) (v' := .slice (some ⟨gd, 0, none⟩) (t.data.length - 1) dc) hpd (by
    unfold VRow
    rw [List.length_eraseIdx, if_pos (by rw [HVL.out]; exact hpd), HVL.out]
    rw [Nat.mul_one, Nat.mul_one, ← List.eraseIdx_eq_take_drop_succ] at hr4
    exact hr4) hs4 rfl rfl)
  have hb4 := hb4 hgdB
  have htw4 : Two w4 G 25 (.slice (some ⟨g, 0, none⟩) n1 cc) (.slice (some ⟨gd, 0, none⟩) t.data.length dc) := (hs4 G (fun e => HO2.out.gD (by rw [e]; rfl))).trans HO2.out.two
  have x1 := htw4.c1
  have f1 := htw4.free 1
  have hbw4 : Below B w (w4.setCell ⟨G, 1, none⟩ (.slice (some ⟨gd, 0, none⟩) (t.data.length - 1) dc)) := (hbw2.trans hb4).setCell (p := ⟨G, 1, none⟩) hGB _
  clear hr4 hs4 hb4 htw4 y1 hz4 x0 f0
  generalize t.data.length - 1 = n2 at *
  go_wp2_with fail
  go_ret
  rw [HDROP.out]
  exact ⟨rfl, hbw4, fun _ => ⟨_, _, _, HO4.out.out⟩⟩
end Go.Proofs.Ytnjnalehfhfefaa
