/- The walk of the closure of table.Rename. -/
import Derived.Test.YtnjnalehfhfefaaTw
namespace Go.Proofs.Ytnjnalehfhfefaa
open Go.RowKit
set_option linter.unusedVariables false

theorem gx_set (l : List Tb.Col) (i : Nat) (n : List UInt8) (hi : i < l.length) : (l.flatMap gx).set (i * 2) (.string (str n)) = (l.set i ⟨n, (l.getD i Tb.nulC).kind⟩).flatMap gx := by
  induction l generalizing i with
  | nil => simp at hi
  | cons r l ih =>
    cases i with
    | zero => simp [gx]
    | succ i =>
      have := ih i (by simpa using hi)
      rw [List.flatMap_cons, show (i + 1) * 2 = i * 2 + 1 + 1 by omega]
      simp only [gx, List.cons_append, List.nil_append, List.set_cons_succ] at this ⊢
      rw [this]
      simp [gx]
/-- a column's name changed -/
theorem Own.ren {w : World} {B G g n c : Nat} {t : Tb.T} {dv : Value} {vs : List Value} {i : Nat} {nm : List UInt8} (h : Own w B G t (.slice (some ⟨g, 0, none⟩) n c) dv vs) (hi : i < t.cols.length) (hok : gOk ⟨nm, (t.cols.getD i Tb.nulC).kind⟩) :
    Own (w.setCell ⟨g, i * 2, none⟩ (.string (str nm))) B G ⟨t.cols.set i ⟨nm, (t.cols.getD i Tb.nulC).kind⟩, t.data⟩ (.slice (some ⟨g, 0, none⟩) n c) dv vs := by
  have hn : n = t.cols.length := by
    obtain ⟨a, cc, e, _⟩ := grow_gls h.gro
    injection e with _ e2 _
  subst hn
  have same : ∀ k, k ≠ g → (w.setCell ⟨g, i * 2, none⟩ (.string (str nm))).heap[k]? = w.heap[k]? := fun k hk => heap_set _ _ _ _ hk
  refine ⟨?_, h.ge, ?_, ?_, h.len, ?_, h.far, ?_, h.okC⟩
  · exact (same G (fun e => h.gG (by rw [e]; rfl))).trans h.two
  · have hr := World.ownsRow.stored h.gro (i * 2) (.string (str nm))
    unfold GRow
    rw [List.length_set, ← gx_set t.cols i nm hi]
    exact hr.1
  · exact row_move h.vro (fun k hk => same k (fun e => row_kinds h.vro h.gro (by decide) hk (by rw [e]; rfl)))
  · intro j hj
    obtain ⟨v, h1, h2⟩ := h.row j hj
    exact ⟨v, h1, row_move h2 (fun k hk => same k (fun e => row_kinds h2 h.gro (by decide) hk (by rw [e]; rfl)))⟩
  · intro y hy
    rcases List.mem_or_eq_of_mem_set hy with hy | hy
    · exact h.okG y hy
    · rw [hy]; exact hok

theorem idx_pos {l : List Tb.Col} {n : List UInt8} (h : Tb.has l n) : Tb.idx l n = (Tb.pos l n : Int) := if_pos h
theorem idx_neg {l : List Tb.Col} {n : List UInt8} (h : ¬ Tb.has l n) : Tb.idx l n = -1 := if_neg h

set_option maxHeartbeats 4000000 in
set_option maxRecDepth 100000 in
theorem rename1_any (b0 b1 : Nat) (o n : List UInt8) (t : Tb.T) (w : World) (B G : Nat) (cv dv : Value) (vs : List Value) (hO : Own w B G t cv dv vs) (h0 : Tb.check t = 0) (hb0 : b0 < B) (hb1 : b1 < B)
    (hC : Boxed w b0 9 (.string (str o))) (hX : Boxed w b1 9 (.string (str n))) (hn : n.length ≤ maxLen) :
    Calls Try.prog 50 #[.pointer (some ⟨G, 0, none⟩), .pointer (some ⟨b0, 0, none⟩), .pointer (some ⟨b1, 0, none⟩)] w (ClPost B G (Tb.renE t o n) (Tb.ren t o n) w) := by
  obtain ⟨ca, cc, da, dc, rfl, rfl, hTB⟩ := hO.tbl
  have HTB := Lib.hid hTB
  have hok := Tb.check_ok h0
  have h6 := hok.six
  have hBw := hO.base
  have H1 := Lib.hid (fun W (hb : Below w.heap.size w W) => place_any o ca cc t.cols W (by unfold maxLen; omega) (HTB.out.next hb).gls)
  have H2 := Lib.hid (fun W (hb : Below w.heap.size w W) => place_any n ca cc t.cols W (by unfold maxLen; omega) (HTB.out.next hb).gls)
  have H3 := Lib.hid (fun W => isName_any n W hn)
  have htw := hO.two
  have HTW := Lib.hid htw
  have HCW := Lib.hid hC
  have HXW := Lib.hid hX
  have HO := Lib.hid hO
  have p0 := fun p : WB w => p.cell htw.lt htw.c0
  have p1 := fun p : WB w => p.cell (boxed_lt hC) (boxed_c0 hC)
  have p2 := fun p : WB w => p.cell (boxed_lt hX) (boxed_c0 hX)
  clear hO hC hX h0 hok hTB htw
  unfold Tb.renE
  by_cases e1 : ¬ Tb.has t.cols o
  · rw [if_pos e1]
    rw [idx_neg e1] at H1
    clear e1
    go_enter Try.func50, Try.ntmps50
    go_wp2_with fail
    refine wp_region_wb (by kernel_rfl) (by kernel_rfl) ?_
    repeat (quiet_step ((go_at_call 47; refine calls_wb (v := .int .i64 (-1)) ?_; exact (H1.out _ (WB.below _)))))
    refine wpQuiet_nil ?_
    rintro _ ⟨p, rfl⟩
    have hp := p.below
    clear p0 p1 p2
    go_wp2_with fail
    go_ret
    exact ⟨rfl, hp.mono hBw, fun h => by omega⟩
  rw [if_neg e1]
  have e1 : Tb.has t.cols o := Classical.not_not.1 e1
  rw [idx_pos e1] at H1
  have hpl : Tb.pos t.cols o < t.cols.length := e1
  have HREN := Lib.hid (show Tb.ren t o n = ⟨t.cols.set (Tb.pos t.cols o) ⟨n, (t.cols.getD (Tb.pos t.cols o) Tb.nulC).kind⟩, t.data⟩ from rfl)
  generalize Tb.ren t o n = R at *
  generalize Tb.pos t.cols o = q at *
  have g0 : decide ((q : Int) < 0) = false := decide_eq_false (by omega)
  cases hnm : Tb.isName n with
  | false =>
    rw [hnm] at H3
    rw [if_pos rfl]
    clear e1 hnm
    go_enter Try.func50, Try.ntmps50
    go_wp2_with fail
    refine wp_region_wb (by kernel_rfl) (by kernel_rfl) ?_
    repeat (quiet_step ((go_at_call 47; refine calls_wb (v := .int .i64 (q : Int)) ?_; exact (H1.out _ (WB.below _)))))
    refine wpQuiet_nil ?_
    rintro _ ⟨p, rfl⟩
    have hp := p.below
    have x2 := p2 p
    clear p0 p1 p2
    generalize p.w = W1 at *
    go_wp2_with fail
    refine (H3.out _).mono ?_
    rintro e w3 ⟨rfl, hb3⟩
    go_wp2_with fail
    go_ret
    exact ⟨rfl, (below_then hp hb3).mono hBw, fun h => by omega⟩
  | true =>
    rw [hnm] at H3
    rw [if_neg (by simp)]
    have hcond : (if Tb.has t.cols n ∧ Tb.pos t.cols n ≠ q then 6 else 0) = if 0 ≤ Tb.idx t.cols n ∧ Tb.idx t.cols n ≠ (q : Int) then 6 else 0 := by
      by_cases h : Tb.has t.cols n
      · rw [idx_pos h]
        by_cases h2 : Tb.pos t.cols n = q
        · rw [if_neg (by simp [h2]), if_neg (by omega)]
        · rw [if_pos ⟨h, h2⟩, if_pos (by omega)]
      · rw [idx_neg h, if_neg (fun x => h x.1), if_neg (by omega)]
    rw [hcond]
    clear hcond hnm e1
    generalize Tb.idx t.cols n = ix at *
    obtain ⟨E, hE⟩ : ∃ E, E = (if 0 ≤ ix ∧ ix ≠ (q : Int) then 6 else 0) := ⟨_, rfl⟩
    rw [← hE]
    have HE := Lib.hid hE
    clear hE
    have HGK := Lib.hid (show gOk ⟨n, (t.cols.getD q Tb.nulC).kind⟩ from ⟨hn, (HO.out.okG (t.cols.getD q Tb.nulC) (by simp only [List.getD, List.getElem?_eq_getElem hpl, Option.getD_some]; exact List.getElem_mem hpl)).2⟩)
    go_enter Try.func50, Try.ntmps50
    go_wp2_with fail
    refine wp_region_wb (by kernel_rfl) (by kernel_rfl) ?_
    repeat (quiet_step ((go_at_call 47; refine calls_wb (v := .int .i64 (q : Int)) ?_; exact (H1.out _ (WB.below _)))))
    refine wpQuiet_nil ?_
    rintro _ ⟨p, rfl⟩
    have hp := p.below
    have x2 := p2 p
    clear p0 p1 p2
    generalize p.w = W1 at *
    have hX1 := boxed_next HXW.out hp
    have hT1 := HTW.out.next hp
    go_wp2_with fail
    refine (H3.out _).mono ?_
    rintro e w3 ⟨rfl, hb3⟩
    have hX3 := Lib.hid (boxed_next hX1 hb3)
    have hT3 := Lib.hid (hT1.next hb3)
    have hb3 := below_then hp hb3
    have p0 := fun p : WB w3 => p.cell hT3.out.lt hT3.out.c0
    have p2 := fun p : WB w3 => p.cell (boxed_lt hX3.out) (boxed_c0 hX3.out)
    clear x2 hX1 hT1
    go_wp2_with fail
    refine wp_region_wb (by kernel_rfl) (by kernel_rfl) ?_
    repeat (quiet_step ((go_at_call 47; refine calls_wb (v := .int .i64 ix) ?_; exact (H2.out _ (below_then hb3 (WB.below _))))))
    refine wpQuiet_nil ?_
    rintro _ ⟨p, rfl⟩
    have hp4 := below_then hb3 p.below
    have hT4 := Lib.hid (hT3.out.next p.below)
    have x2 := p2 p
    clear p0 p2
    generalize p.w = W4 at *
    by_cases h6 : 0 ≤ ix ∧ ix ≠ (q : Int)
    · obtain rfl : E = 6 := HE.out.trans (if_pos h6)
      have g1 : decide (0 ≤ ix) = true := decide_eq_true h6.1
      have g2 : (ix != (q : Int)) = true := by rw [bne_iff_ne]; exact h6.2
      clear h6
      go_wp2_with fail
      go_ret
      exact ⟨rfl, hp4.mono hBw, fun h => by omega⟩
    · obtain rfl : E = 0 := HE.out.trans (if_neg h6)
      have gg : decide (0 ≤ ix) = false ∨ (decide (0 ≤ ix) = true ∧ (ix != (q : Int)) = false) := by
        by_cases h : 0 ≤ ix
        · exact Or.inr ⟨decide_eq_true h, by rw [bne_eq_false_iff_eq]; omega⟩
        · exact Or.inl (decide_eq_false h)
      have HO4 := Lib.hid (HO.out.move hp4)
      obtain ⟨g, gc, hform⟩ : ∃ g gc, ca = some ⟨g, 0, none⟩ ∧ cc = gc := by
        rcases HO4.out.gro.2 with ⟨e, h0⟩ | ⟨g, cap, cur, e, _⟩
        · omega
        · injection e with e1 e2 e3
          exact ⟨g, cap, e1, e3⟩
      obtain ⟨rfl, rfl⟩ := hform
      have y0 := hT4.out.c0
      have hqI : (q : Int) < (t.cols.length : Int) := by omega
      have kc := World.ownsRow.cellAt HO4.out.gro (q * 2) (by omega)
      have kf := World.ownsRow.frozenAt HO4.out.gro (q * 2)
      have hex : ∃ v, W4.cell? ⟨g, q * 2, none⟩ = some v := by
        rw [kc, List.getElem?_eq_getElem (by rw [gx_len]; omega)]; exact ⟨_, rfl⟩
      obtain ⟨v0, kv⟩ := hex
      have OR := Lib.hid (HO4.out.ren (i := q) (nm := n) hpl HGK.out)
      have hgB : B ≤ g := (HO4.out.gro.lt g rfl).1
      clear kc h6
      rcases gg with g1 | ⟨g1, g2⟩
      all_goals
        go_wp2_with fail
        go_region
        all_goals
          go_wp2_with fail
          go_ret
          rw [HREN.out]
          exact ⟨rfl, ((hp4.mono hBw).setCell hgB _).drew, fun _ => ⟨_, _, _, (OR.out.move ((Below.refl _ _).drew)).out⟩⟩
end Go.Proofs.Ytnjnalehfhfefaa
