/- The walk of the closure of table.Redact. -/
import Derived.Deep.CutRange
import Derived.Deep.DeepCutAuto
import Derived.Test.YtnjnalehfhfefaaK3
import Derived.Test.YtnjnalehfhfefaaTbD3
import Derived.Test.YtnjnalehfhfefaaTbM
namespace Go.Proofs.Ytnjnalehfhfefaa
open Go.RowKit
set_option linter.unusedVariables false

/-- a cell of one's own row becomes a Null -/
theorem Own.null {w : World} {B G : Nat} {t : Tb.T} {cv dv : Value} {vs : List Value} (h : Own w B G t cv dv vs) {q g n c j : Nat} (hq : q < t.data.length) (hv : vs[q]? = some (.slice (some ⟨g, 0, none⟩) n c)) (hj : j < (t.data.getD q []).length) :
    Own (((w.setCell ⟨g, j * 3, none⟩ (.int .i64 0)).setCell ⟨g, j * 3 + 1, none⟩ (.int .u64 0)).setCell ⟨g, j * 3 + 2, none⟩ (.string ⟨#[]⟩)) B G ⟨t.cols, t.data.set q ((t.data.getD q []).set j C.null)⟩ cv dv vs := by
  obtain ⟨v, h1, hrq⟩ := h.row q hq
  rw [hv] at h1
  have h1 := Option.some.inj h1
  subst h1
  have same : ∀ k, k ≠ g → (((w.setCell ⟨g, j * 3, none⟩ (.int .i64 0)).setCell ⟨g, j * 3 + 1, none⟩ (.int .u64 0)).setCell ⟨g, j * 3 + 2, none⟩ (.string ⟨#[]⟩)).heap[k]? = w.heap[k]? := fun k hk => by
    rw [heap_set _ _ _ _ hk, heap_set _ _ _ _ hk, heap_set _ _ _ _ hk]
  refine ⟨(same G (fun e => two_kind hrq h.two (by decide) (by rw [e]; rfl))).trans h.two, h.ge, ?_, ?_, by simp [h.len], ?_, h.far, h.okG, ?_⟩
  · exact row_move h.gro (fun k hk => same k (fun e => row_kinds h.gro hrq (by decide) hk (by rw [e]; rfl)))
  · exact row_move h.vro (fun k hk => same k (fun e => row_kinds h.vro hrq (by decide) hk (by rw [e]; rfl)))
  · intro i hi
    simp only [List.length_set] at hi
    by_cases hiq : q = i
    · subst hiq
      refine ⟨_, hv, ?_⟩
      have e : (t.data.set q ((t.data.getD q []).set j C.null)).getD q [] = (t.data.getD q []).set j C.null := by simp [List.getD, hi]
      show CRow B ((t.data.set q ((t.data.getD q []).set j C.null)).getD q []) _ _
      rw [e]
      exact hrq.put j C.null hj
    · obtain ⟨u, h2, h3⟩ := h.row i hi
      have e : (t.data.set q ((t.data.getD q []).set j C.null)).getD i [] = t.data.getD i [] := by simp [List.getD, List.getElem?_set_ne hiq]
      refine ⟨u, h2, ?_⟩
      show CRow B ((t.data.set q ((t.data.getD q []).set j C.null)).getD i []) _ _
      rw [e]
      refine row_move h3 (fun k hk => same k (fun e => ?_))
      subst e
      rcases Nat.lt_or_gt_of_ne hiq with hlt | hgt
      · rcases h.far q i _ _ hlt hv h2 with h4 | h4
        · cases h4
        · exact h4 (by rw [hk]; rfl)
      · rcases h.far i q _ _ hgt h2 hv with h4 | h4
        · rw [hk] at h4; cases h4
        · exact h4 (by rw [hk]; rfl)
  · intro l hl x hx
    rcases List.mem_or_eq_of_mem_set hl with hl | hl
    · exact h.okC l hl x hx
    · subst hl
      rcases List.mem_or_eq_of_mem_set hx with hx | hx
      · refine h.okC (t.data.getD q []) ?_ x hx
        simp only [List.getD, List.getElem?_eq_getElem hq, Option.getD_some]
        exact List.getElem_mem hq
      · rw [hx]; exact cOk_null

/-- nulled as far as j -/
def nullTo (row : List C.Cl) (m : List Bool) (j : Nat) : List C.Cl := Tb.nulled (row.take j) (m.take j) ++ row.drop j
theorem nulled_len : ∀ (l : List C.Cl) (m : List Bool), (Tb.nulled l m).length = l.length
  | [], m => by cases m <;> rfl
  | x :: l, [] => rfl
  | x :: l, b :: m => by rw [Tb.nulled, List.length_cons, List.length_cons, nulled_len l m]
theorem nulled_app : ∀ (l : List C.Cl) (m : List Bool) (x : C.Cl) (b : Bool), l.length = m.length → Tb.nulled (l ++ [x]) (m ++ [b]) = Tb.nulled l m ++ [if b then C.null else x]
  | [], [], x, b, _ => by simp [Tb.nulled]
  | [], y :: m, x, b, h => by simp at h
  | y :: l, [], x, b, h => by simp at h
  | y :: l, z :: m, x, b, h => by
    rw [List.cons_append, List.cons_append, Tb.nulled, Tb.nulled, nulled_app l m x b (by simpa using h), List.cons_append]
theorem nullTo_len (row : List C.Cl) (m : List Bool) (j : Nat) : (nullTo row m j).length = row.length := by unfold nullTo; rw [List.length_append, nulled_len]; simp; omega
theorem nullTo_zero (row : List C.Cl) (m : List Bool) : nullTo row m 0 = row := by simp [nullTo, Tb.nulled]
theorem nullTo_all (row : List C.Cl) (m : List Bool) (h : m.length = row.length) : nullTo row m m.length = Tb.nulled row m := by
  unfold nullTo; rw [List.take_of_length_le (by omega), List.take_of_length_le (Nat.le_refl _), List.drop_eq_nil_of_le (by omega), List.append_nil]
theorem nullTo_step (row : List C.Cl) (m : List Bool) (j : Nat) (hj : j < m.length) (h : m.length = row.length) : nullTo row m (j + 1) = if m.getD j false = true then (nullTo row m j).set j C.null else nullTo row m j := by
  have hj2 : j < row.length := by omega
  have hl : (Tb.nulled (row.take j) (m.take j)).length = j := by rw [nulled_len]; simp; omega
  unfold nullTo
  rw [List.take_succ_eq_append_getElem hj2, List.take_succ_eq_append_getElem hj, nulled_app _ _ _ _ (by simp; omega), List.append_assoc]
  simp only [List.getD, List.getElem?_eq_getElem hj, Option.getD_some]
  by_cases hb : m[j] = true
  · rw [if_pos hb, hb]
    rw [List.set_append_right _ _ (by omega), hl, Nat.sub_self, List.drop_eq_getElem_cons hj2, List.set_cons_zero]
    rfl
  · rw [if_neg hb, if_neg hb, List.drop_eq_getElem_cons hj2]
    rfl

set_option maxHeartbeats 4000000 in
set_option maxRecDepth 100000 in
theorem redact1_any (b0 b1 : Nat) (nm : List UInt8) (ap : Option Addr) (cp : Nat) (p : List O.Cd) (t : Tb.T) (w : World) (B G : Nat) (cv dv : Value) (vs : List Value) (hO : Own w B G t cv dv vs) (h0 : Tb.check t = 0) (hb0 : b0 < B) (hb1 : b1 < B)
    (hN : Boxed w b0 9 (.string (str nm))) (hC : Boxed w b1 48 (.slice ap p.length cp)) (hpm : p.length ≤ maxLen) (hpx : ∀ x ∈ p, dOk x) (hpu : Cds w w.heap.size ap p) :
    Calls Try.prog 64 #[.pointer (some ⟨G, 0, none⟩), .pointer (some ⟨b0, 0, none⟩), .pointer (some ⟨b1, 0, none⟩)] w (ClPost B G (Tb.redE t nm p) (Tb.red t nm p) w) := by
  obtain ⟨ca, cc, da, dc, rfl, rfl, hTB⟩ := hO.tbl
  have HTB := Lib.hid hTB
  have hok := Tb.check_ok h0
  have hBw := hO.base
  have hm6 : t.cols.length ≤ maxLen := by have := hok.six; unfold maxLen; omega
  have H0 := Lib.hid (fun W (hb : Below w.heap.size w W) => place_any nm ca cc t.cols W hm6 (HTB.out.next hb).gls)
  have H1 := Lib.hid (fun W (hb : Below w.heap.size w W) => trueOf_any ap cp p ca cc da dc t W hpm hpx (hpu.next at5_firm hb) (HTB.out.next hb) h0)
  have hck := O.check_lt p (Tb.kinds t)
  have htw := hO.two
  have HTW := Lib.hid htw
  have HCW := Lib.hid hC
  have HO := Lib.hid hO
  have p0 := fun p : WB w => p.cell htw.lt htw.c0
  have p1 := fun p : WB w => p.cell (boxed_lt hN) (boxed_c0 hN)
  have hl6 : t.data.length ≤ 6 := by have := hok.six; have := hok.len; omega
  have hrw : Tb.rows t ≤ 128 := by
    by_cases hz : t.cols.length = 0
    · unfold Tb.rows; rw [List.eq_nil_of_length_eq_zero (show t.data.length = 0 by have := hok.len; omega)]; simp
    · have := hok.many 0 (by omega); unfold Tb.rows; omega
  have HRL := Lib.hid (fun j (hj : j < t.data.length) => show (Tb.marks t p).length = (t.data.getD j []).length by rw [marks_len, hok.rows j (by have := hok.len; omega)])
  have hml : (Tb.marks t p).length ≤ 128 := by rw [marks_len]; omega
  have hlen := hok.len
  have HLEN := Lib.hid hlen
  unfold Tb.redE
  by_cases e0 : ¬ Tb.has t.cols nm
  · rw [if_pos e0]
    rw [idx_neg e0] at H0
    clear hO hN hC h0 hok hTB htw hpu hpx hpm HRL hlen e0
    go_enter Try.func64, Try.ntmps64
    go_wp2_with fail
    refine wp_region_wb (by kernel_rfl) (by kernel_rfl) ?_
    repeat (quiet_step ((go_at_call 47; refine calls_wb (v := .int .i64 (-1)) ?_; exact (H0.out _ (WB.below _)))))
    refine wpQuiet_nil ?_
    rintro _ ⟨p, rfl⟩
    have hp := p.below
    clear p0 p1
    go_wp2_with fail
    go_ret
    exact ⟨rfl, hp.mono hBw, fun h => by omega⟩
  rw [if_neg e0]
  have e0 : Tb.has t.cols nm := Classical.not_not.1 e0
  rw [idx_pos e0] at H0
  have hpl : Tb.pos t.cols nm < t.data.length := by have h : Tb.pos t.cols nm < t.cols.length := e0; omega
  have HRED := Lib.hid (show Tb.red t nm p = ⟨t.cols, t.data.set (Tb.pos t.cols nm) (Tb.nulled (t.data.getD (Tb.pos t.cols nm) []) (Tb.marks t p))⟩ from rfl)
  generalize Tb.red t nm p = R at *
  generalize Tb.pos t.cols nm = q at *
  have g0 : decide ((q : Int) < 0) = false := decide_eq_false (by omega)
  clear hO hN hC h0 hok hTB htw hpu hpx hpm hlen e0
  by_cases e1 : O.check p (Tb.kinds t) ≠ 0
  · rw [if_pos e1] at H1
    generalize O.check p (Tb.kinds t) = er at *
    have g1 : ((er : Int) != 0) = true := by rw [bne_iff_ne]; omega
    clear HRL HRED
    go_enter Try.func64, Try.ntmps64
    go_wp2_with fail
    refine wp_region_wb (by kernel_rfl) (by kernel_rfl) ?_
    repeat (quiet_step ((go_at_call 47; refine calls_wb (v := .int .i64 (q : Int)) ?_; exact (H0.out _ (WB.below _)))))
    refine wpQuiet_nil ?_
    rintro _ ⟨p, rfl⟩
    have hp := p.below
    have y0 := (HTW.out.next hp).c0
    have y1 := (HTW.out.next hp).c1
    have z0 := boxed_c0 (boxed_next HCW.out hp)
    clear p0 p1
    generalize p.w = W1 at *
    go_wp2_with fail
    go_region_law (first
      | (go_simp; go_at_call 65; refine (H1.out _ (by first | exact hp | exact hp.drew)).mono ?_; rintro e w5 ⟨ma, mc, rfl, hmu, hb5⟩; have hb5 : Below W1.heap.size W1 w5 := (by first | exact hb5 | exact below_then (Below.drew (Below.refl _ _)) hb5)))
    all_goals
      go_wp2_with fail
      go_ret
      exact ⟨rfl, (below_then hp hb5).mono hBw, fun h => by omega⟩
  have e1 : O.check p (Tb.kinds t) = 0 := by omega
  rw [if_neg (by omega), e1] at H1
  rw [e1]
  generalize Tb.marks t p = M at *
  clear e1 hck
  go_enter Try.func64, Try.ntmps64
  go_wp2_with fail
  refine wp_region_wb (by kernel_rfl) (by kernel_rfl) ?_
  repeat (quiet_step ((go_at_call 47; refine calls_wb (v := .int .i64 (q : Int)) ?_; exact (H0.out _ (WB.below _)))))
  refine wpQuiet_nil ?_
  rintro _ ⟨pw, rfl⟩
  have hp := pw.below
  have y0 := (HTW.out.next hp).c0
  have y1 := (HTW.out.next hp).c1
  have z0 := boxed_c0 (boxed_next HCW.out hp)
  clear p0 p1
  generalize pw.w = W1 at *
  go_upto_region 4 with fail
  go_cut [6, 7] from 18 to 25 (fun v6 v7 wx => ∃ ma mc, v6 = .slice ma M.length mc ∧ v7 = .int .i64 0 ∧ Hid (FBools W1.heap.size wx ma M) ∧ Hid (Below W1.heap.size W1 wx))
  case first =>
    go_region_law (first
      | (go_simp; go_at_call 65; refine (H1.out _ (by first | exact hp | exact hp.drew)).mono ?_; rintro e w5 ⟨ma, mc, rfl, hmu, hb5⟩; have hb5 : Below W1.heap.size W1 w5 := (by first | exact hb5 | exact below_then (Below.drew (Below.refl _ _)) hb5)))
    all_goals
      go_wp2_with fail
      go_meet
      exact ⟨ma, mc, rfl, rfl, Lib.hid hmu, Lib.hid hb5⟩
  case rest =>
    obtain ⟨ma, mc, rfl, rfl, HMU, HB⟩ := hcut
    have hb0w := below_then hp HB.out
    have HOC := Lib.hid (HO.out.move hb0w)
    clear y0 y1 z0
    obtain ⟨vq, hvq, hrq⟩ := HOC.out.row q hpl
    obtain ⟨rr, hrr⟩ : ∃ rr, rr = t.data.getD q [] := ⟨_, rfl⟩
    have HMR := Lib.hid (show M.length = rr.length by rw [hrr]; exact HRL.out q hpl)
    have hqw : ∀ g, vq.ownBlock = some g → g < W1.heap.size := fun g hg => by
      obtain ⟨v2, h2, h3⟩ := (HO.out.move hp).row q hpl
      rw [hvq] at h2
      have h2 := Option.some.inj h2
      subst h2
      exact (h3.lt g hg).2
    have HQW := Lib.hid hqw
    have HVQ := Lib.hid hvq
    have HST := Lib.hid (fun j h => nullTo_step rr M j h HMR.out)
    have HALL := Lib.hid (nullTo_all rr M HMR.out)
    have HNL := Lib.hid (fun j => nullTo_len rr M j)
    have hset0 : t.data.set q (nullTo rr M 0) = t.data := by
      rw [nullTo_zero, hrr]
      apply List.ext_getElem?
      intro i
      by_cases hi : q = i
      · subst hi; rw [List.getElem?_set_self hpl]; simp [List.getD, List.getElem?_eq_getElem hpl]
      · rw [List.getElem?_set_ne hi]
    rw [← hrr] at HRED
    clear hvq hqw hrr
    go_wp2_with fail
    go_loopw [8, 9, 31] (fun _ _ i wr => ∃ (j : Nat), j ≤ M.length ∧ i = .int .i64 j ∧ Hid (Own wr B G ⟨t.cols, t.data.set q (nullTo rr M j)⟩ (.slice ca t.cols.length cc) (.slice da t.data.length dc) vs) ∧ Below B w wr ∧ Hid (FBools W1.heap.size wr ma M)) (fun _ _ i _ => M.length - (intOf i).toNat)
    case atStart => exact ⟨0, by omega, rfl, Lib.hid (by rw [hset0]; exact HOC.out), hb0w.mono hBw, HMU⟩
    case round =>
      obtain ⟨j, hj, rfl, HU, hbw, HM⟩ := hrel
      by_cases hlt : j < M.length
      · obtain ⟨bb, boff, rfl, hbb, hbc⟩ := HM.out.bools (fun e => by rw [e] at hlt; simp at hlt)
        have m0 := hbc j hlt
        have hst := HST.out j hlt
        have hjI : (j : Int) < (M.length : Int) := by omega
        generalize M.getD j false = bm at *
        cases bm with
        | false =>
          rw [if_neg (by simp)] at hst
          have HU2 := Lib.hid (show Own wr B G ⟨t.cols, t.data.set q (nullTo rr M (j + 1))⟩ (.slice ca t.cols.length cc) (.slice da t.data.length dc) vs by rw [hst]; exact HU.out)
          clear hst hbc
          go_wp2_with fail
          exact ⟨⟨j + 1, by omega, by go_num, HU2, hbw, HM⟩, by simp [intOf]; omega⟩
        | true =>
          rw [if_pos rfl] at hst
          have hgq : (t.data.set q (nullTo rr M j)).getD q [] = nullTo rr M j := by simp [List.getD, hpl]
          obtain ⟨v3, h3, hr3⟩ := HU.out.row q (by simpa using hpl)
          simp only at hr3
          rw [hgq] at hr3
          have hnl := HNL.out j
          have hjr : j < (nullTo rr M j).length := by rw [hnl, ← HMR.out]; exact hlt
          obtain ⟨g, gc, hform⟩ : ∃ g gc, da = some ⟨g, 0, none⟩ ∧ dc = gc := by
            rcases HO.out.vro.2 with ⟨e, h0⟩ | ⟨g, cap, cur, e, _⟩
            · have := HO.out.len; omega
            · injection e with e1 e2 e3
              exact ⟨g, cap, e1, e3⟩
          obtain ⟨rfl, rfl⟩ := hform
          obtain ⟨rg, rc, rfl⟩ : ∃ rg rc, v3 = .slice (some ⟨rg, 0, none⟩) rr.length rc := by
            rcases hr3.2 with ⟨e, h0⟩ | ⟨g, cap, cur, e, _⟩
            · omega
            · exact ⟨g, cap, by rw [e, hnl]⟩
          have hvl : q < vs.length := by have := HO.out.len; omega
          have kc := (vrow_at HU.out.vro q hvl).1.trans h3
          have y1 := HU.out.two.c1
          have hqI : (q : Int) < (t.data.length : Int) := by omega
          have hjR : (j : Int) < (rr.length : Int) := by have := HMR.out; omega
          have hrgw : rg < W1.heap.size := by
            rw [HVQ.out] at h3
            have h3 := Option.some.inj h3
            exact HQW.out rg (by rw [h3]; rfl)
          have hrgB : B ≤ rg := (hr3.lt rg rfl).1
          have hnl2 : rr.length = (nullTo rr M j).length := hnl.symm
          obtain ⟨⟨x0, s0⟩, ⟨x1, s1⟩, ⟨x2, s2⟩, f0, f1, f2⟩ := CRow.stores hr3 j (.int .i64 0) (.int .u64 0) hjr
          have HNU := Lib.hid (HU.out.null (q := q) (g := rg) (n := rr.length) (c := rc) (j := j) (by simpa using hpl) h3 (by simp only; rw [hgq]; exact hjr))
          simp only at HNU
          rw [hgq, List.set_set, ← hst] at HNU
          have HB2 := Lib.hid (((hbw.setCell (p := ⟨rg, j * 3, none⟩) hrgB (.int .i64 0)).setCell (p := ⟨rg, j * 3 + 1, none⟩) hrgB (.int .u64 0)).setCell (p := ⟨rg, j * 3 + 2, none⟩) hrgB (.string ⟨#[]⟩))
          have HM2 := Lib.hid (HM.out.move (w' := ((wr.setCell ⟨rg, j * 3, none⟩ (.int .i64 0)).setCell ⟨rg, j * 3 + 1, none⟩ (.int .u64 0)).setCell ⟨rg, j * 3 + 2, none⟩ (.string ⟨#[]⟩)) (fun k hk _ => by rw [heap_set _ _ _ _ (by simp; omega), heap_set _ _ _ _ (by simp; omega), heap_set _ _ _ _ (by simp; omega)]) (by simp))
          clear hst hbc hr3 h3 hgq hnl hnl2 hjr
          go_wp2_with fail
          exact ⟨⟨j + 1, by omega, by go_num, HNU, HB2.out, HM2⟩, by simp [intOf]; omega⟩
      · obtain rfl : j = M.length := by omega
        have HU2 := Lib.hid (show Own wr B G R (.slice ca t.cols.length cc) (.slice da t.data.length dc) vs by rw [HRED.out, ← HALL.out]; exact HU.out)
        have HRD := Lib.hid (show R.cols.length = t.cols.length by rw [HRED.out])
        go_wp2_with fail
        go_ret
        exact ⟨rfl, hbw, fun _ => ⟨_, _, _, HU2.out.out⟩⟩
end Go.Proofs.Ytnjnalehfhfefaa
