/- The walk of hypostyleref.AskOf. -/
import Derived.Test.YtecfknolpnjokaaOR3
namespace Go.Proofs.Ytecfknolpnjokaa
open Go.RowKit
set_option linter.unusedVariables false

theorem rowE_step : ∀ (ks : List Int) (row : List C.Cl) (i : Nat), i < row.length → row.length = ks.length → O.rowE (ks.drop i) (row.drop i) = if oneE (ks.getD i 0) (row.getD i C.null) ≠ 0 then oneE (ks.getD i 0) (row.getD i C.null) else O.rowE (ks.drop (i + 1)) (row.drop (i + 1)) := by
  intro ks row i hi hl
  rw [List.drop_eq_getElem_cons hi, List.drop_eq_getElem_cons (show i < ks.length by omega), O.rowE, chk_one]
  simp only [List.getD, List.getElem?_eq_getElem hi, List.getElem?_eq_getElem (show i < ks.length by omega), Option.getD_some]

set_option maxHeartbeats 4000000 in
set_option maxRecDepth 100000 in
theorem askOf_any (ap : Option Addr) (cp : Nat) (p : List O.Cd) (ka : Option Addr) (kcap : Nat) (ks : List Int) (a : Option Addr) (cap : Nat) (row : List C.Cl) (w : World)
    (hpm : p.length ≤ maxLen) (hpq : p.length ≤ cp) (hpx : ∀ x ∈ p, dOk x) (hpu : Cds w w.heap.size ap p) (hkm : ks.length ≤ maxLen) (hk64 : ∀ k ∈ ks, -9223372036854775808 ≤ k ∧ k ≤ 9223372036854775807) (hku : Ints w w.heap.size ka ks) (hm : row.length ≤ maxLen) (hq : row.length ≤ cap) (hx : ∀ x ∈ row, cOk x) (hu : Cls w w.heap.size a row) :
    Calls Try.prog 9 #[.slice ap p.length cp, .slice ka ks.length kcap, .slice a row.length cap] w (IEPost (O.askR p ks row) w) := by
  have HC := Lib.hid (ccheck_any ap cp p ka kcap ks w hpm hpx hpu hk64 hkm hku)
  have hcl := O.check_lt p ks
  have hR : O.askR p ks row = if O.check p ks ≠ 0 then (0, O.check p ks) else if row.length ≠ ks.length then (0, 1) else if O.rowE ks row ≠ 0 then (0, O.rowE ks row) else ((O.run (O.askL row) O.jo [] p).getD 0 0, 0) := rfl
  by_cases hc : O.check p ks ≠ 0
  · rw [if_pos hc] at hR
    rw [hR]
    generalize O.check p ks = er at *
    have g1 : ((er : Int) != 0) = true := by rw [bne_iff_ne]; omega
    clear hR hpx hpu hku hu hx
    go_enter Try.func9, Try.ntmps9
    go_wp2_with fail
    refine HC.out.mono ?_
    rintro e w1 ⟨rfl, hb2⟩
    go_wp2_with fail
    go_ret2
    exact ⟨rfl, hb2⟩
  have hc0 : O.check p ks = 0 := by omega
  rw [hc0] at HC
  obtain ⟨h16, t, hok, hft⟩ := O.tree hc0
  by_cases hlen : ¬ row.length = ks.length
  · rw [if_neg hc, if_pos hlen] at hR
    rw [hR]
    have g1 : ((row.length : Int) != (ks.length : Int)) = true := by rw [bne_iff_ne]; omega
    clear hR hpx hpu hku hu hx hft
    go_enter Try.func9, Try.ntmps9
    go_wp2_with fail
    refine HC.out.mono ?_
    rintro e w1 ⟨rfl, hb2⟩
    go_wp2_with fail
    go_ret2
    exact ⟨rfl, hb2⟩
  have hlen : row.length = ks.length := Classical.not_not.1 hlen
  have g2 : ((row.length : Int) != (ks.length : Int)) = false := by rw [hlen]; simp
  have hR2 : O.rowE ks row ≠ 0 → O.askR p ks row = (0, O.rowE ks row) := fun h => by rw [hR, if_neg hc, if_neg (by omega), if_pos h]
  have hR3 : O.rowE ks row = 0 → O.askR p ks row = (O.ev (O.askL row) O.jo t, 0) := fun h => O.askR_tree hok hft h16 hlen h
  have hpn : p ≠ [] := by intro e; rw [← hft] at e; have := O.flat_pos t; rw [e] at this; simp at this
  obtain ⟨pb, poff, rfl, hplt, hpc⟩ := hpu hpn
  have HCO := Lib.hid (fun W (hb : Below w.heap.size w W) => show Calls Try.prog 28 #[.slice (some ⟨pb, poff, none⟩) p.length cp, .slice a row.length cap] W (CErrPost (O.ev (O.askL row) O.jo t) W) by
    have h := condOf_any ks a cap row hm hx hlen t hok (by rw [hft]; exact hpx) pb poff cp W (by rw [hft]; exact hpq) (by rw [hft]; exact hpm) (by have := hb.size; omega) (by rw [hft]; exact fun i hi => at5_firm w W pb _ _ (fun j => hb.cell (p := ⟨pb, j, none⟩) hplt) (hpc i hi)) (hu.next hb)
    rwa [hft] at h)
  generalize O.ev (O.askL row) O.jo t = val at *
  have HSTEP := Lib.hid (fun i hi => rowE_step ks row i hi hlen)
  have HR0 := Lib.hid (show O.rowE ks row = O.rowE (ks.drop 0) (row.drop 0) from rfl)
  generalize O.askR p ks row = AR at *
  generalize O.rowE ks row = R at *
  have HR2 := Lib.hid hR2
  have HR3 := Lib.hid hR3
  have HCK := Lib.hid (fun W (hb : Below w.heap.size w W) (i : Nat) (hi : i < row.length) => show ∃ rb roff kb koff, a = some ⟨rb, roff, none⟩ ∧ ka = some ⟨kb, koff, none⟩ ∧ rb < w.heap.size ∧ kb < w.heap.size ∧ W.cell? ⟨kb, koff + i, none⟩ = some (.int .i64 (ks.getD i 0)) ∧
      Calls Try.prog 27 #[.int .i64 (ks.getD i 0), .slice (some ⟨rb, roff + i * 3, none⟩) 1 (cap - i)] W (fun e w' => e = .returned (.int .i64 (oneE (ks.getD i 0) (row.getD i C.null) : Nat)) ∧ Below W.heap.size W w') by
    obtain ⟨rb, roff, e1, hrlt, hrc⟩ := hu (by intro e; rw [e] at hi; simp at hi)
    obtain ⟨kb, koff, e2, hklt, hkc⟩ := hku (by intro e; rw [hlen, e] at hi; simp at hi)
    subst e1 e2
    have h0 := hkc i (by omega)
    unfold at1 at h0
    rw [Nat.mul_one] at h0
    refine ⟨rb, roff, kb, koff, rfl, rfl, hrlt, hklt, (hb.cell (p := ⟨kb, koff + i, none⟩) hklt).trans h0, ?_⟩
    have hd := ((hu.next hb).drop i).take 1
    have hone : (row.drop i).take 1 = [row.getD i C.null] := by
      rw [List.drop_eq_getElem_cons hi]
      show [row[i]] = _
      simp [List.getD, List.getElem?_eq_getElem hi]
    rw [hone] at hd
    have hks := hk64 (ks.getD i 0) (by simp only [List.getD, List.getElem?_eq_getElem (show i < ks.length by omega), Option.getD_some]; exact List.getElem_mem _)
    have h1 := crcheck_any (ks.getD i 0) (some ⟨rb, roff + i * 3, none⟩) (cap - i) [row.getD i C.null] W hks (by simp [maxLen]) (by intro x hx2; rw [List.mem_singleton.1 hx2]; exact hx _ (cgetD_mem row i hi)) hd
    rw [chk_one] at h1
    exact h1)
  have hnl := hm
  unfold maxLen at hm
  have HLEN := Lib.hid hlen
  clear hR hR2 hR3 hpx hku hx hft hpc hu hk64 hlen
  go_enter Try.func9, Try.ntmps9
  go_wp2_with fail
  refine HC.out.mono ?_
  rintro e w1 ⟨rfl, hb1⟩
  go_wp2_with fail
  go_loopw [8, 9] (fun u i wr => ∃ j : Nat, j ≤ row.length ∧ i = .int .i64 j ∧ Below w.heap.size w wr ∧ Hid (R = O.rowE (ks.drop j) (row.drop j))) (fun _ i _ => row.length - (intOf i).toNat)
  case atStart => exact ⟨0, by omega, rfl, hb1, HR0⟩
  case round =>
    obtain ⟨j, hj, rfl, hb, HJ⟩ := hrel
    by_cases hlt : j < row.length
    · have hjI : (j : Int) < (row.length : Int) := by omega
      have hjK : (j : Int) < (ks.length : Int) := by have := HLEN.out; omega
      obtain ⟨rb, roff, kb, koff, rfl, rfl, hrlt, hklt, k0, _⟩ := HCK.out wr hb j hlt
      have HCC := Lib.hid (fun p : WB wr => show Calls Try.prog 27 #[.int .i64 (ks.getD j 0), .slice (some ⟨rb, roff + j * 3, none⟩) 1 (cap - j)] p.w (fun e w' => e = .returned (.int .i64 (oneE (ks.getD j 0) (row.getD j C.null) : Nat)) ∧ Below p.w.heap.size p.w w') by
        obtain ⟨rb', roff', kb', koff', e1, e2, _, _, _, h⟩ := HCK.out p.w (below_then hb p.below) j hlt
        have e1' := Option.some.inj e1
        obtain ⟨rfl, rfl⟩ : rb = rb' ∧ roff = roff' := by simpa using e1'
        exact h)
      have hst := HSTEP.out j hlt
      have HJ2 := Lib.hid (HJ.out.trans hst)
      have hE := oneE_lt (ks.getD j 0) (row.getD j C.null)
      have kf := fun p : WB wr => p.cell (b := kb) (o := koff + j) (by have := hb.size; omega) k0
      generalize ks.getD j 0 = K at *
      generalize oneE K (row.getD j C.null) = er at *
      have hw1 : IntKind.i64.wrap ((j : Int) + 1) = (j : Int) + 1 := by rw [IntKind.wrap_i64]; omega
      obtain ⟨J, hJ⟩ : ∃ J, J = j + 1 := ⟨_, rfl⟩
      have hw2 : IntKind.i64.wrap ((j : Int) + 1) = (J : Int) := by rw [hw1]; omega
      have hJC : (J : Int) ≤ (cap : Int) := by omega
      have hJN : J ≤ cap := by omega
      have hjJ : (j : Int) ≤ (J : Int) := by omega
      have hjJN : j ≤ J := by omega
      have hone : J - j = 1 := by omega
      have hne1 : ¬ cap - j = 0 := by omega
      have hne2 : ¬ cap = j := by omega
      have hne4 : ¬ cap ≤ j := by omega
      clear hst HJ hJ hw1 k0
      by_cases he : er = 0
      · subst he
        have HN1 := Lib.hid (show R = O.rowE (ks.drop (j + 1)) (row.drop (j + 1)) by rw [HJ2.out, if_neg (by simp)])
        go_wp2_with fail
        refine wp_region_wb (by kernel_rfl) (by kernel_rfl) ?_
        repeat (quiet_step ((go_at_call 27; refine calls_wb (v := .int .i64 ((0 : Nat) : Int)) ?_; with_reducible exact HCC.out _)))
        refine wpQuiet_nil ?_
        rintro _ ⟨p, rfl⟩
        have hpb := p.below
        clear kf hw2
        go_wp2_with fail
        exact ⟨⟨j + 1, by omega, by go_num, below_then hb hpb, HN1⟩, by simp [intOf]; omega⟩
      · have HRE := Lib.hid (show AR = (0, er) by
          have hR : R = er := by rw [HJ2.out, if_pos he]
          rw [HR2.out (by rw [hR]; exact he), hR])
        have g1 : ((er : Int) != 0) = true := by rw [bne_iff_ne]; omega
        go_wp2_with fail
        refine wp_region_wb (by kernel_rfl) (by kernel_rfl) ?_
        repeat (quiet_step ((go_at_call 27; refine calls_wb (v := .int .i64 (er : Int)) ?_; with_reducible exact HCC.out _)))
        refine wpQuiet_nil ?_
        rintro _ ⟨p, rfl⟩
        have hpb := p.below
        clear kf hw2
        go_wp2_with fail
        go_ret2
        exact ⟨by rw [HRE.out]; rfl, below_then hb hpb⟩
    · obtain rfl : j = row.length := by omega
      have HRE := Lib.hid (show AR = (val, 0) by
        have hR : R = 0 := by rw [HJ.out, List.drop_length, HLEN.out, List.drop_length]; rfl
        exact HR3.out hR)
      have HCW := Lib.hid (HCO.out wr hb)
      go_wp2_with fail
      refine HCW.out.mono ?_
      rintro e w2 ⟨rfl, hb2⟩
      go_wp2_with fail
      go_ret2
      exact ⟨by rw [HRE.out]; rfl, below_then hb hb2⟩
end Go.Proofs.Ytecfknolpnjokaa
