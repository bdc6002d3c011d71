/- The walk of the closure of table.Keep. -/
import Derived.Deep.CutRange
import Derived.Deep.DeepCutAuto
import Derived.Test.YtnjnalehfhfefaaTbD7
import Derived.Test.YtnjnalehfhfefaaTbM
namespace Go.Proofs.Ytnjnalehfhfefaa
open Go.RowKit
set_option linter.unusedVariables false

set_option maxHeartbeats 4000000 in
set_option maxRecDepth 100000 in
theorem keep1_any (b0 : Nat) (ap : Option Addr) (cp : Nat) (p : List O.Cd) (t : Tb.T) (w : World) (B G : Nat) (cv dv : Value) (vs : List Value) (hO : Own w B G t cv dv vs) (h0 : Tb.check t = 0) (hb0 : b0 < B)
    (hC : Boxed w b0 48 (.slice ap p.length cp)) (hpm : p.length ≤ maxLen) (hpx : ∀ x ∈ p, dOk x) (hpu : Cds w w.heap.size ap p) :
    Calls Try.prog 66 #[.pointer (some ⟨G, 0, none⟩), .pointer (some ⟨b0, 0, none⟩)] w (ClPost B G (Tb.keepE t p) (Tb.keep t p) w) := by
  obtain ⟨ca, cc, da, dc, rfl, rfl, hTB⟩ := hO.tbl
  have HTB := Lib.hid hTB
  have hok := Tb.check_ok h0
  have hBw := hO.base
  have H1 := Lib.hid (fun W (hb : Below w.heap.size w W) => trueOf_any ap cp p ca cc da dc t W hpm hpx (hpu.next at5_firm hb) (HTB.out.next hb) h0)
  have hck := O.check_lt p (Tb.kinds t)
  have htw := hO.two
  have HTW := Lib.hid htw
  have HO := Lib.hid hO
  have c0 := boxed_c0 hC
  have y0 := htw.c0
  have y1 := htw.c1
  have hl6 : t.data.length ≤ 6 := by have := hok.six; have := hok.len; omega
  have hrw : Tb.rows t ≤ 128 := by
    by_cases hz : t.cols.length = 0
    · unfold Tb.rows; rw [List.eq_nil_of_length_eq_zero (show t.data.length = 0 by have := hok.len; omega)]; simp
    · have := hok.many 0 (by omega); unfold Tb.rows; omega
  have HRL := Lib.hid (fun j (hj : j < t.data.length) => show (Tb.marks t p).length = (t.data.getD j []).length by rw [marks_len, hok.rows j (by have := hok.len; omega)])
  have HML := Lib.hid (show (Tb.marks t p).length ≤ 1048576 by rw [marks_len]; omega)
  have HKEEP := Lib.hid (show Tb.keep t p = ⟨t.cols, t.data.map fun l => Tb.marked l (Tb.marks t p)⟩ from rfl)
  unfold Tb.keepE
  generalize Tb.keep t p = R at *
  clear hO h0 hok hTB htw hpu hpx hpm
  by_cases e1 : O.check p (Tb.kinds t) ≠ 0
  · rw [if_pos e1] at H1
    generalize O.check p (Tb.kinds t) = er at *
    have g1 : ((er : Int) != 0) = true := by rw [bne_iff_ne]; omega
    clear HRL HML HKEEP
    go_enter Try.func66, Try.ntmps66
    go_wp2_with fail
    go_region_law (first
      | (go_simp; go_at_call 65; refine (H1.out _ (by first | exact Below.refl _ _ | exact (Below.refl _ _).drew)).mono ?_; rintro e w5 ⟨ma, mc, rfl, hmu, hb5⟩; have hb5 : Below w.heap.size w w5 := (by first | exact hb5 | exact below_then (Below.drew (Below.refl _ _)) hb5)))
    all_goals
      go_wp2_with fail
      go_ret
      exact ⟨rfl, hb5.mono hBw, fun h => by omega⟩
  have e1 : O.check p (Tb.kinds t) = 0 := by omega
  rw [if_neg (by omega), e1] at H1
  rw [e1]
  generalize Tb.marks t p = M at *
  clear e1 hck
  go_enter Try.func66, Try.ntmps66
  go_upto_region 1 with fail
  go_cut [4, 5] from 8 to 15 (fun v4 v5 wx => ∃ ma mc, v4 = .slice ma M.length mc ∧ v5 = .int .i64 0 ∧ Hid (FBools w.heap.size wx ma M) ∧ Hid (Below w.heap.size w wx))
  case first =>
    go_region_law (first
      | (go_simp; go_at_call 65; refine (H1.out _ (by first | exact Below.refl _ _ | exact (Below.refl _ _).drew)).mono ?_; rintro e w5 ⟨ma, mc, rfl, hmu, hb5⟩; have hb5 : Below w.heap.size w w5 := (by first | exact hb5 | exact below_then (Below.drew (Below.refl _ _)) hb5)))
    all_goals
      go_wp2_with fail
      go_meet
      exact ⟨ma, mc, rfl, rfl, Lib.hid hmu, Lib.hid hb5⟩
  case rest =>
    obtain ⟨ma, mc, rfl, rfl, HMU, HB⟩ := hcut
    have HOC := Lib.hid (HO.out.move HB.out)
    clear y0 y1 c0
    have y1 := HOC.out.two.c1
    have HHT : ∀ k, k ≠ G → True := fun _ _ => trivial
    go_wp2_with fail
    go_loopw [6, 7, 24] (fun _ _ i wr => ∃ (j : Nat) (vs' : List Value), j ≤ t.data.length ∧ i = .int .i64 j ∧ Hid (Out wr B G ⟨t.cols, upto (fun l => Tb.marked l M) t.data j⟩ (.slice ca t.cols.length cc) (.slice da t.data.length dc) vs') ∧ Below B w wr ∧ Hid (FBools w.heap.size wr ma M)) (fun _ _ i _ => t.data.length - (intOf i).toNat)
    case atStart => exact ⟨0, vs, by omega, rfl, Lib.hid (by rw [upto_zero]; exact HOC.out.out), HB.out.mono hBw, HMU⟩
    case round =>
      obtain ⟨j, vs', hj, rfl, HU, hbw, HM⟩ := hrel
      by_cases hlt : j < t.data.length
      · obtain ⟨g, gc, hform⟩ : ∃ g gc, da = some ⟨g, 0, none⟩ ∧ dc = gc := by
          rcases HO.out.vro.2 with ⟨e, h0⟩ | ⟨g, cap, cur, e, _⟩
          · have := HO.out.len; omega
          · injection e with e1 e2 e3
            exact ⟨g, cap, e1, e3⟩
        obtain ⟨rfl, rfl⟩ := hform
        have hgw : g < w.heap.size := (HO.out.vro.lt g rfl).2
        obtain ⟨aj, cj, k1, k2, k3⟩ := HU.out.row j (by simp only [upto_length]; exact hlt)
        simp only at k1 k2
        rw [upto_get _ _ _ hlt] at k1 k2
        have hvl : vs'.length = t.data.length := by have := HU.out.len; simpa [upto_length] using this
        have kcf := vrow_at HU.out.vro j (by omega)
        have kc := kcf.1.trans k1
        have y1 := HU.out.two.c1
        have hgB : B ≤ g := (HU.out.vro.lt g rfl).1
        have hjI : (j : Int) < (t.data.length : Int) := by omega
        have HMK := Lib.hid (show Calls Try.prog 67 #[.slice aj (t.data.getD j []).length cj, .slice ma M.length mc] wr.drew (CellsRowPost (Tb.marked (t.data.getD j []) M) wr.drew) from marked_any aj cj (t.data.getD j []) ma mc M wr.drew HML.out (HRL.out j hlt) k2.cls HM.out.bools)
        have HUS := Lib.hid (upto_set (fun l => Tb.marked l M) t.data j hlt)
        have HOKM := Lib.hid (show ∀ x ∈ Tb.marked (t.data.getD j []) M, cOk x from fun x hx => by
          unfold Tb.marked at hx
          obtain ⟨y, hy, rfl⟩ := List.mem_map.1 hx
          have := (List.mem_filter.1 hy).1
          exact k2.ok _ (List.of_mem_zip this).1)
        have HSET := Lib.hid (fun w9 (hb : Below wr.heap.size wr w9) a ci row h1 h2 => (HU.out.move hb).set (i := j) (a := a) (ci := ci) (row := row) (by simp only [upto_length]; exact hlt) h1 h2)
        have HTR := Lib.hid HU.out.two
        have HVR := Lib.hid HU.out.vro
        have hvl2 : j < vs'.length := by omega
        generalize t.data.getD j [] = row at *
        clear kcf k1 k2 k3 hvl
        go_wp2_with fail
        go_region_law (first
          | (go_simp; go_at_call 67; refine (HMK.out).mono ?_; rintro e w5 ⟨v5, rfl, hr5, hb5⟩; have hb5 : Below wr.heap.size wr w5 := (by first | exact hb5 | exact below_then (Below.drew (Below.refl _ _)) hb5); have hr5 : CRow wr.heap.size (Tb.marked row M) v5 w5 := hr5; obtain ⟨a5, c5, rfl, -, -⟩ := cRow_cls hr5; have x1 := (HTR.out.next hb5).c1; have hkf := vrow_at (HVR.out.below hb5) j hvl2; have hkx := (List.getElem?_eq_getElem hvl2); have hcell := hkf.1.trans hkx; have hfr := hkf.2; clear hkf hkx))
        all_goals
          go_wp2_with fail
          refine ⟨⟨j + 1, vs'.set j (.slice a5 (Tb.marked row M).length c5), by omega, by go_num, Lib.hid ?_, ((hbw.trans (hb5.mono (by have := hbw.size; omega))).setCell (p := ⟨g, j, none⟩) hgB _), Lib.hid ?_⟩, by simp [intOf]; omega⟩
          · have h := HSET.out w5 hb5 a5 c5 (Tb.marked row M) (hr5.rowIn HOKM.out).2 (fun b o s e => by
              subst e
              exact ⟨by have := (hr5.lt b rfl).1; have := hbw.size; omega, Lib.ownsRow_kind hr5 b rfl⟩)
            rw [HUS.out] at h
            exact h
          · exact (HM.out.next hb5).move (fun k hk _ => heap_set _ _ _ _ (by simp; omega)) (by simp)
      · obtain rfl : j = t.data.length := by omega
        have HU2 := Lib.hid (show Out wr B G R (.slice ca t.cols.length cc) (.slice da t.data.length dc) vs' by rw [HKEEP.out, ← upto_all]; exact HU.out)
        go_wp2_with fail
        go_ret
        exact ⟨rfl, hbw, fun _ => ⟨_, _, _, HU2.out⟩⟩
end Go.Proofs.Ytnjnalehfhfefaa
