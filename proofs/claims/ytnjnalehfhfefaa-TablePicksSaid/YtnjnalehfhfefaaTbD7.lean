/- The walk of the closure of table.Slice. -/
import Derived.Test.YtnjnalehfhfefaaTw
namespace Go.Proofs.Ytnjnalehfhfefaa
open Go.RowKit
set_option linter.unusedVariables false

/-- the first j rows changed -/
def upto (f : List C.Cl → List C.Cl) (l : List (List C.Cl)) (j : Nat) : List (List C.Cl) := (l.take j).map f ++ l.drop j
theorem upto_zero (f : List C.Cl → List C.Cl) (l : List (List C.Cl)) : upto f l 0 = l := by simp [upto]
theorem upto_all (f : List C.Cl → List C.Cl) (l : List (List C.Cl)) : upto f l l.length = l.map f := by simp [upto]
theorem upto_length (f : List C.Cl → List C.Cl) (l : List (List C.Cl)) (j : Nat) : (upto f l j).length = l.length := by simp [upto]; omega
theorem upto_get (f : List C.Cl → List C.Cl) (l : List (List C.Cl)) (j : Nat) (hj : j < l.length) : (upto f l j).getD j [] = l.getD j [] := by
  unfold upto
  have h : ((l.take j).map f).length = j := by simp; omega
  simp only [List.getD]
  rw [List.getElem?_append_right (by omega), h, Nat.sub_self, List.getElem?_drop, Nat.add_zero]
theorem upto_set (f : List C.Cl → List C.Cl) (l : List (List C.Cl)) (j : Nat) (hj : j < l.length) : (upto f l j).set j (f (l.getD j [])) = upto f l (j + 1) := by
  unfold upto
  have h : ((l.take j).map f).length = j := by simp; omega
  rw [List.set_append_right _ _ (by omega), h, Nat.sub_self, List.drop_eq_getElem_cons hj, List.set_cons_zero, List.take_succ_eq_append_getElem hj, List.map_append, List.append_assoc]
  simp [List.getD, List.getElem?_eq_getElem hj]
/-- part of a row -/
theorem RowIn.part {w : World} {b off c : Nat} {r : List C.Cl} {B : Nat} (h : RowIn w B (some ⟨b, off, none⟩) c r) {f n : Nat} (hf : f + n ≤ r.length) : RowIn w B (some ⟨b, off + f * 3, none⟩) (c - f) ((r.drop f).take n) := by
  refine ⟨?_, ?_, (fun h => by cases h), ?_, (h.cls.drop f).take n⟩
  · have := h.len; simp; omega
  · have := h.cap; omega
  · intro x hx
    exact h.ok x (List.mem_of_mem_drop (List.mem_of_mem_take hx))

theorem RowIn.sub {w : World} {ad : Addr} {c : Nat} {r : List C.Cl} {B : Nat} (h : RowIn w B (some ad) c r) {f n : Nat} (hf : f + n ≤ r.length) : RowIn w B (if c = f then some ad else some (ad.add (f * 3))) (c - f) ((r.drop f).take n) := by
  have hnil : (if c = f then some ad else some (ad.add (f * 3))) = none → c - f = 0 := fun h => by split at h <;> cases h
  have h1 := h.len
  by_cases hc : n = 0
  · subst hc
    rw [List.take_zero]
    exact ⟨by simp, by have := h.cap; omega, hnil, by simp, Cls.nil _ _ _⟩
  · obtain ⟨b, off, e, hb, hcc⟩ := h.cls (fun e => by rw [e] at hf; simp at hf; omega)
    have e := Option.some.inj e
    subst e
    rw [if_neg (by omega), show (⟨b, off, none⟩ : Addr).add (f * 3) = ⟨b, off + f * 3, none⟩ by unfold Addr.add; split <;> simp_all]
    exact h.part hf
theorem add_block (ad : Addr) (k : Nat) : (ad.add k).block = ad.block := by unfold Addr.add; split <;> rfl

set_option maxHeartbeats 4000000 in
set_option maxRecDepth 100000 in
theorem slice1_any (b0 b1 : Nat) (fr mn : Int) (t : Tb.T) (w : World) (B G : Nat) (cv dv : Value) (vs : List Value) (hO : Own w B G t cv dv vs) (h0 : Tb.check t = 0) (hb0 : b0 < B) (hb1 : b1 < B)
    (hC : Boxed w b0 3 (.int .i64 fr)) (hX : Boxed w b1 3 (.int .i64 mn)) (hfr : -9223372036854775808 ≤ fr ∧ fr ≤ 9223372036854775807) (hmn : -9223372036854775808 ≤ mn ∧ mn ≤ 9223372036854775807) :
    Calls Try.prog 69 #[.pointer (some ⟨G, 0, none⟩), .pointer (some ⟨b0, 0, none⟩), .pointer (some ⟨b1, 0, none⟩)] w (ClPost B G (Tb.sliE fr mn) (Tb.sli t fr mn) w) := by
  obtain ⟨ca, cc, da, dc, rfl, rfl, hTB⟩ := hO.tbl
  have HTB := Lib.hid hTB
  have hok := Tb.check_ok h0
  have HOK := Lib.hid hok
  have hBw := hO.base
  have H1 := Lib.hid (fun W (hb : Below w.heap.size w W) => trows_any ca cc da dc t W (HTB.out.next hb))
  have htw := hO.two
  have HTW := Lib.hid htw
  have HCW := Lib.hid hC
  have HXW := Lib.hid hX
  have HO := Lib.hid hO
  have c0 := boxed_c0 hC
  have c1 := boxed_c0 hX
  have hl6 : t.data.length ≤ 6 := by have := hok.six; have := hok.len; omega
  have hrw : Tb.rows t ≤ 128 := by
    by_cases hz : t.cols.length = 0
    · unfold Tb.rows; rw [List.eq_nil_of_length_eq_zero (show t.data.length = 0 by have := hok.len; omega)]; simp
    · have := hok.many 0 (by omega); unfold Tb.rows; omega
  have HRL := Lib.hid (fun j (hj : j < t.data.length) => hok.rows j (by have := hok.len; omega))
  clear hO h0 hok hTB
  by_cases e1 : fr < 0 ∨ mn < 0
  · have hE : Tb.sliE fr mn = 3 := if_pos e1
    rw [hE]
    have gg : decide (fr < 0) = true ∨ (decide (fr < 0) = false ∧ decide (mn < 0) = true) := by
      by_cases h : fr < 0
      · exact Or.inl (decide_eq_true h)
      · exact Or.inr ⟨decide_eq_false h, decide_eq_true (by omega)⟩
    clear e1 hE hC hX htw
    rcases gg with g1 | ⟨g1, g2⟩
    all_goals
      go_enter Try.func69, Try.ntmps69
      go_wp2_with fail
      go_ret
      exact ⟨rfl, Below.refl _ _, fun h => by omega⟩
  have hE : Tb.sliE fr mn = 0 := if_neg e1
  rw [hE]
  obtain ⟨f, rfl⟩ : ∃ f : Nat, fr = f := ⟨fr.toNat, by omega⟩
  obtain ⟨m, rfl⟩ : ∃ m : Nat, mn = m := ⟨mn.toNat, by omega⟩
  have g1 : decide ((f : Int) < 0) = false := decide_eq_false (by omega)
  have g2 : decide ((m : Int) < 0) = false := decide_eq_false (by omega)
  have HSLI := Lib.hid (show Tb.sli t f m = ⟨t.cols, t.data.map fun l => (l.drop (Tb.sliF t f)).take (Tb.sliN t f m)⟩ from rfl)
  have hF : Tb.sliF t f = min f (Tb.rows t) := by unfold Tb.sliF; rw [Int.toNat_natCast]
  have hN : Tb.sliN t f m = min m (Tb.rows t - Tb.sliF t f) := by unfold Tb.sliN; rw [Int.toNat_natCast]
  generalize Tb.sli t f m = R at *
  generalize Tb.sliF t f = F at *
  generalize Tb.sliN t f m = N at *
  have m1 : min (f : Int) ((Tb.rows t : Nat) : Int) = (F : Int) := by omega
  have m2 : IntKind.i64.wrap (((Tb.rows t : Nat) : Int) - (F : Int)) = ((Tb.rows t - F : Nat) : Int) := by rw [IntKind.wrap_i64]; omega
  have m3 : min (m : Int) ((Tb.rows t - F : Nat) : Int) = (N : Int) := by omega
  obtain ⟨E, hE2⟩ : ∃ E, E = F + N := ⟨_, rfl⟩
  have m4 : IntKind.i64.wrap ((F : Int) + (N : Int)) = (E : Int) := by rw [IntKind.wrap_i64]; omega
  have hFE : F ≤ E := by omega
  have hEn : E ≤ Tb.rows t := by omega
  have hEF : E - F = N := by omega
  have hFEI : (F : Int) ≤ (E : Int) := by omega
  have HE2 := Lib.hid hE2
  clear hE2
  clear hF hN hE e1
  have p0 := fun p : WB w => p.cell htw.lt htw.c0
  have p1 := fun p : WB w => p.cell htw.lt htw.c1
  have p2 := fun p : WB w => p.cell (boxed_lt hC) (boxed_c0 hC)
  have p3 := fun p : WB w => p.cell (boxed_lt hX) (boxed_c0 hX)
  clear hC hX htw
  generalize hn : Tb.rows t = n at *
  clear hn
  go_enter Try.func69, Try.ntmps69
  go_wp2_with fail
  refine wp_region_wb (by kernel_rfl) (by kernel_rfl) ?_
  repeat (quiet_step ((go_at_call 39; refine calls_wb (v := .int .i64 (n : Int)) ?_; exact (H1.out _ (WB.below _)))))
  refine wpQuiet_nil ?_
  rintro _ ⟨p, rfl⟩
  have hp := p.below
  have hT1 := Lib.hid (HTW.out.next hp)
  have hC1 := Lib.hid (boxed_next HCW.out hp)
  have hX1 := Lib.hid (boxed_next HXW.out hp)
  clear p0 p1 p2 p3
  generalize p.w = W1 at *
  have p0 := fun p : WB W1 => p.cell hT1.out.lt hT1.out.c0
  have p1 := fun p : WB W1 => p.cell hT1.out.lt hT1.out.c1
  have p2 := fun p : WB W1 => p.cell (boxed_lt hC1.out) (boxed_c0 hC1.out)
  have p3 := fun p : WB W1 => p.cell (boxed_lt hX1.out) (boxed_c0 hX1.out)
  go_wp2_with fail
  refine wp_region_wb (by kernel_rfl) (by kernel_rfl) ?_
  repeat (quiet_step ((go_at_call 39; refine calls_wb (v := .int .i64 (n : Int)) ?_; exact (H1.out _ (below_then hp (WB.below _))))))
  refine wpQuiet_nil ?_
  rintro _ ⟨p, rfl⟩
  have hp2 := below_then hp p.below
  have hT2 := Lib.hid (hT1.out.next p.below)
  clear p0 p1 p2 p3 c0 c1
  generalize p.w = W2 at *
  have HO2 := Lib.hid (HO.out.move hp2)
  have y1 := hT2.out.c1
  go_wp2_with fail
  go_loopw [7, 8, 36] (fun _ _ i wr => ∃ (j : Nat) (vs' : List Value), j ≤ t.data.length ∧ i = .int .i64 j ∧ Hid (Out wr B G ⟨t.cols, upto (fun l => (l.drop F).take N) t.data j⟩ (.slice ca t.cols.length cc) (.slice da t.data.length dc) vs') ∧ Below B w wr) (fun _ _ i _ => t.data.length - (intOf i).toNat)
  case atStart => exact ⟨0, vs, by omega, rfl, Lib.hid (by rw [upto_zero]; exact HO2.out.out), hp2.mono hBw⟩
  case round =>
    obtain ⟨j, vs', hj, rfl, HU, hbw⟩ := hrel
    by_cases hlt : j < t.data.length
    · obtain ⟨g, gc, hform⟩ : ∃ g gc, da = some ⟨g, 0, none⟩ ∧ dc = gc := by
        rcases HO2.out.vro.2 with ⟨e, h0⟩ | ⟨g, cap, cur, e, _⟩
        · have := HO2.out.len; omega
        · injection e with e1 e2 e3
          exact ⟨g, cap, e1, e3⟩
      obtain ⟨rfl, rfl⟩ := hform
      obtain ⟨aj, cj, k1, k2, k3⟩ := HU.out.row j (by simp only [upto_length]; exact hlt)
      simp only at k1 k2
      rw [upto_get _ _ _ hlt] at k1 k2
      have hrl := HRL.out j hlt
      have hvl : vs'.length = t.data.length := by have := HU.out.len; simpa [upto_length] using this
      have kcf := vrow_at HU.out.vro j (by omega)
      have kc := kcf.1.trans k1
      have kf := kcf.2
      clear kcf hvl
      have y1 := HU.out.two.c1
      have hgB : B ≤ g := (HU.out.vro.lt g rfl).1
      have hjI : (j : Int) < (t.data.length : Int) := by omega
      have hlen := k2.len
      have hcap := k2.cap
      unfold maxLen at hcap
      have hset := fun {a ci row} (h1 : RowIn wr wr.heap.size a ci row) h2 => HU.out.set (i := j) (by simp only [upto_length]; exact hlt) h1 h2
      have HUS := Lib.hid (upto_set (fun l => (l.drop F).take N) t.data j hlt)
      generalize t.data.getD j [] = row at *
      have hEc : E ≤ cj := by omega
      have hEcI : (E : Int) ≤ (cj : Int) := by omega
      have hFr : F + N ≤ row.length := by have := HE2.out; omega
      have hpl : ((row.drop F).take N).length = N := by simp; omega
      clear HRL
      cases aj with
      | none =>
        obtain rfl : cj = 0 := k2.nil rfl
        have hF0 : F = 0 := by omega
        have hN0 : N = 0 := by omega
        have OS := Lib.hid (show Out (wr.setCell ⟨g, j, none⟩ (.slice none N 0)) B G ⟨t.cols, upto (fun l => (l.drop F).take N) t.data (j + 1)⟩ (.slice ca t.cols.length cc) (.slice (some ⟨g, 0, none⟩) t.data.length dc) (vs'.set j (.slice none N 0)) by
          have h := hset (a := none) (ci := 0) (row := (row.drop F).take N) ⟨by omega, by unfold maxLen; omega, fun _ => rfl, fun x hx => k2.ok x (List.mem_of_mem_drop (List.mem_of_mem_take hx)), by rw [List.eq_nil_of_length_eq_zero (show ((row.drop F).take N).length = 0 by omega)]; exact Cls.nil _ _ _⟩ (fun b o s e => by cases e)
          rw [HUS.out, hpl] at h
          exact h)
        clear hset k1 k2 k3 hF0 hN0 hpl hrl hlen hFr
        go_wp2_with fail
        go_region
        all_goals
          go_wp2_with fail
          exact ⟨⟨j + 1, _, by omega, by go_num, Lib.hid (OS.out.move ((Below.refl _ _).drew)), (hbw.setCell (p := ⟨g, j, none⟩) hgB _).drew⟩, by simp [intOf]; omega⟩
      | some ad =>
        obtain ⟨b, o, s⟩ := ad
        have OS := Lib.hid (show Out (wr.setCell ⟨g, j, none⟩ (.slice (if cj = F then some ⟨b, o, s⟩ else some ((⟨b, o, s⟩ : Addr).add (F * 3))) N (cj - F))) B G ⟨t.cols, upto (fun l => (l.drop F).take N) t.data (j + 1)⟩ (.slice ca t.cols.length cc) (.slice (some ⟨g, 0, none⟩) t.data.length dc) (vs'.set j (.slice (if cj = F then some ⟨b, o, s⟩ else some ((⟨b, o, s⟩ : Addr).add (F * 3))) N (cj - F))) by
          have h := hset (k2.sub (f := F) (n := N) (by omega)) (fun b' o' s' e => by
            have : b' = b := by
              split at e
              · exact (congrArg Addr.block (Option.some.inj e)).symm
              · have h := congrArg Addr.block (Option.some.inj e); rw [add_block] at h; exact h.symm
            subst this
            exact k3 _ o s rfl)
          rw [HUS.out, hpl] at h
          exact h)
        clear hset k1 k2 k3 hpl hrl hFr
        go_wp2_with fail
        go_region
        all_goals
          go_wp2_with fail
          exact ⟨⟨j + 1, _, by omega, by go_num, Lib.hid (OS.out.move ((Below.refl _ _).drew)), (hbw.setCell (p := ⟨g, j, none⟩) hgB _).drew⟩, by simp [intOf]; omega⟩
    · obtain rfl : j = t.data.length := by omega
      have HU2 := Lib.hid (show Out wr B G R (.slice ca t.cols.length cc) (.slice da t.data.length dc) vs' by rw [HSLI.out, ← upto_all]; exact HU.out)
      go_wp2_with fail
      go_ret
      exact ⟨rfl, hbw, fun _ => ⟨_, _, _, HU2.out⟩⟩
end Go.Proofs.Ytnjnalehfhfefaa
