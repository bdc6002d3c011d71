/- The walk of TableParts. -/
import Derived.Test.YtnjnalehfhfefaaTbL0
import Derived.Test.YtnjnalehfhfefaaTbB
import Derived.Test.YtnjnalehfhfefaaTbLawS
namespace Go.Proofs.Ytnjnalehfhfefaa
open Go.RowKit
set_option linter.unusedVariables false

set_option maxHeartbeats 4000000 in
set_option maxRecDepth 100000 in
theorem tableParts_walk (w : World) (ca : Option Addr) (cc : Nat) (da : Option Addr) (dc : Nat) (t : Tb.T) (ht : Tbl w w.heap.size ca cc da dc t) (k : Int) (hk : -9223372036854775808 ≤ k ∧ k ≤ 9223372036854775807) (ap : Option Addr) (cp : Nat) (p : List O.Cd) (hpm : p.length ≤ maxLen) (hpq : p.length ≤ cp ∧ cp ≤ maxLen ∧ (ap = none → cp = 0)) (hpx : ∀ x ∈ p, dOk x) (hpu : Cds w w.heap.size ap p) :
    Calls Try.prog 8 #[tag ca t.cols.length cc da t.data.length dc, .int .i64 k, .slice ap p.length cp] w (BoolPost true w) := by
  have a0 : Below w.heap.size w (w.alloc (.cells #[.slice ca t.cols.length cc, .slice da t.data.length dc] 25)) := (Below.refl _ _).alloc (Nat.le_refl _) _
  have HP := Lib.hid (two_new w 25 (.slice ca t.cols.length cc) (.slice da t.data.length dc))
  have HUP := Lib.hid (ht.next a0)
  have HCD := Lib.hid (hpu.next at5_firm a0)
  have HB0 := Lib.hid a0
  have b_P := Below.refl (w.alloc (.cells #[.slice ca t.cols.length cc, .slice da t.data.length dc] 25)).heap.size (w.alloc (.cells #[.slice ca t.cols.length cc, .slice da t.data.length dc] 25))
  clear ht hpu
  clear a0
  go_enter Try.func8, Try.ntmps8
  go_upto_region 1 with fail
  generalize w.alloc (.cells #[.slice ca t.cols.length cc, .slice da t.data.length dc] 25) = W0 at *
  go_wp2_with fail
  refine (tbegun_any _).mono ?_
  rintro e w1 ⟨rfl, hbn⟩
  have b_P := below_then b_P hbn
  clear hbn
  have cP0 := (HP.out.next b_P).c0
  have cP1 := (HP.out.next b_P).c1
  go_wp2_with fail
  refine (tcheck_any ca cc da dc t _ (HUP.out.next b_P)).mono ?_
  rintro e w2 ⟨rfl, hbn⟩
  have b_P := below_then b_P hbn
  clear hbn
  clear cP0 cP1
  have h9 := Tb.check_lt t
  by_cases h0 : Tb.check t ≠ 0
  · have g0 : ((Tb.check t : Int) != 0) = true := by rw [bne_iff_ne]; omega
    go_wp2_with fail
    go_ret
    exact ⟨rfl, below_then HB0.out b_P⟩
  have h0 : Tb.check t = 0 := by omega
  rw [h0]
  by_cases hk0 : k < 0
  · have g2 : decide (k < 0) = true := decide_eq_true hk0
    go_wp2_with fail
    go_ret
    exact ⟨rfl, below_then HB0.out b_P⟩
  have g2 : decide (k < 0) = false := decide_eq_false hk0
  have hok := Tb.check_ok h0
  obtain ⟨a, b, e1, e2, e3, hkp⟩ := Tb.parts_law hok k hk0 p
  have cP0 := (HP.out.next b_P).c0
  have cP1 := (HP.out.next b_P).c1
  have hcon := tSlice_any ca cc da dc t 0 k w2 (HUP.out.next b_P) (by omega) hk
  rw [e1] at hcon
  go_wp2_with fail
  refine (hcon).mono ?_
  clear hcon
  rintro e w3 ⟨raA, rcA, rdA, reA, rfl, hf, hbn⟩
  have hal : Below w3.heap.size w3 (w3.alloc (.cells #[.slice raA a.cols.length rcA, .slice rdA a.data.length reA] 25)) := (Below.refl _ _).alloc (Nat.le_refl _) _
  have HUA := Lib.hid (hf.tbl.next hal)
  have hbn := below_then hbn hal
  have HA := two_new w3 25 (.slice raA a.cols.length rcA) (.slice rdA a.data.length reA)
  obtain ⟨GA, hG⟩ : ∃ G, G = w3.heap.size := ⟨_, rfl⟩
  rw [← hG] at HA
  have HA := Lib.hid HA
  have b_P := below_then b_P hbn
  clear hf hal hbn cP0 cP1
  go_upto_region 6 with fail
  rw [← hG]
  generalize w3.alloc (.cells #[.slice raA a.cols.length rcA, .slice rdA a.data.length reA] 25) = W3 at *
  clear hG
  have b_A := Below.refl W3.heap.size W3
  have cP0 := (HP.out.next b_P).c0
  have cP1 := (HP.out.next b_P).c1
  have hcon := tSlice_any ca cc da dc t k 128 W3 (HUP.out.next b_P) hk (by omega)
  rw [e2] at hcon
  go_wp2_with fail
  refine (hcon).mono ?_
  clear hcon
  rintro e w4 ⟨raB, rcB, rdB, reB, rfl, hf, hbn⟩
  have hal : Below w4.heap.size w4 (w4.alloc (.cells #[.slice raB b.cols.length rcB, .slice rdB b.data.length reB] 25)) := (Below.refl _ _).alloc (Nat.le_refl _) _
  have HUB := Lib.hid (hf.tbl.next hal)
  have hbn := below_then hbn hal
  have HB := two_new w4 25 (.slice raB b.cols.length rcB) (.slice rdB b.data.length reB)
  obtain ⟨GB, hG⟩ : ∃ G, G = w4.heap.size := ⟨_, rfl⟩
  rw [← hG] at HB
  have HB := Lib.hid HB
  have b_P := below_then b_P hbn
  have b_A := below_then b_A hbn
  clear hf hal hbn cP0 cP1
  go_upto_region 7 with fail
  rw [← hG]
  generalize w4.alloc (.cells #[.slice raB b.cols.length rcB, .slice rdB b.data.length reB] 25) = W4 at *
  clear hG
  have b_B := Below.refl W4.heap.size W4
  have cA0 := (HA.out.next b_A).c0
  have cA1 := (HA.out.next b_A).c1
  have cB0 := (HB.out.next b_B).c0
  have cB1 := (HB.out.next b_B).c1
  have hcon := tAppend_any raA rcA rdA reA a raB rcB rdB reB b W4 (HUA.out.next b_A) (HUB.out.next b_B)
  rw [e3] at hcon
  go_wp2_with fail
  refine (hcon).mono ?_
  clear hcon
  rintro e w5 ⟨raC, rcC, rdC, reC, rfl, hf, hbn⟩
  have hal : Below w5.heap.size w5 (w5.alloc (.cells #[.slice raC t.cols.length rcC, .slice rdC t.data.length reC] 25)) := (Below.refl _ _).alloc (Nat.le_refl _) _
  have HUC := Lib.hid (hf.tbl.next hal)
  have hbn := below_then hbn hal
  have HC := two_new w5 25 (.slice raC t.cols.length rcC) (.slice rdC t.data.length reC)
  obtain ⟨GC, hG⟩ : ∃ G, G = w5.heap.size := ⟨_, rfl⟩
  rw [← hG] at HC
  have HC := Lib.hid HC
  have b_P := below_then b_P hbn
  have b_A := below_then b_A hbn
  have b_B := below_then b_B hbn
  clear hf hal hbn cA0 cA1 cB0 cB1
  go_upto_region 8 with fail
  rw [← hG]
  generalize w5.alloc (.cells #[.slice raC t.cols.length rcC, .slice rdC t.data.length reC] 25) = W5 at *
  clear hG
  have b_C := Below.refl W5.heap.size W5
  have cC0 := (HC.out.next b_C).c0
  have cC1 := (HC.out.next b_C).c1
  have cP0 := (HP.out.next b_P).c0
  have cP1 := (HP.out.next b_P).c1
  go_wp2_with fail
  refine (stab_true (HUC.out.next b_C) (HUP.out.next b_P) hok.small).mono ?_
  rintro e w6 ⟨rfl, hbn⟩
  have b_P := below_then b_P hbn
  have b_A := below_then b_A hbn
  have b_B := below_then b_B hbn
  have b_C := below_then b_C hbn
  clear hbn
  clear cC0 cC1 cP0 cP1
  have cP0 := (HP.out.next b_P).c0
  have cP1 := (HP.out.next b_P).c1
  clear e1 e2 e3 h9
  go_wp2_with fail
  refine (tKeep_any ca cc da dc t ap cp p _ (HUP.out.next b_P) hpm hpx (HCD.out.next at5_firm b_P)).mono ?_
  generalize Tb.chg t (Tb.keepE t p) (Tb.keep t p) = r at hkp ⊢
  obtain ⟨r1, r2⟩ := r
  rintro e w7 ⟨raD, rcD, rdD, reD, rfl, hf, hbn⟩
  have hal : Below w7.heap.size w7 (w7.alloc (.cells #[.slice raD r1.cols.length rcD, .slice rdD r1.data.length reD] 25)) := (Below.refl _ _).alloc (Nat.le_refl _) _
  have HUD := Lib.hid (hf.tbl.next hal)
  have hbn := below_then hbn hal
  have HD := two_new w7 25 (.slice raD r1.cols.length rcD) (.slice rdD r1.data.length reD)
  obtain ⟨GD, hG⟩ : ∃ G, G = w7.heap.size := ⟨_, rfl⟩
  rw [← hG] at HD
  have HD := Lib.hid HD
  have b_P := below_then b_P hbn
  have b_A := below_then b_A hbn
  have b_B := below_then b_B hbn
  have b_C := below_then b_C hbn
  clear hf hal hbn cP0 cP1
  go_upto_region 11 with fail
  rw [← hG]
  generalize w7.alloc (.cells #[.slice raD r1.cols.length rcD, .slice rdD r1.data.length reD] 25) = W7 at *
  clear hG
  have b_D := Below.refl W7.heap.size W7
  rcases hkp with ⟨hne, rfl⟩ | ⟨d, x, y, hrd, e4, e5, e6, hod⟩
  · have hne : r2 ≠ 0 := hne
    have g4 : ((r2 : Int) != 0) = true := by rw [bne_iff_ne]; omega
    have cD0 := (HD.out.next b_D).c0
    have cD1 := (HD.out.next b_D).c1
    go_wp2_with fail
    refine (stab_true (HUD.out.next b_D) (Tbl.null _ _) small_nul).mono ?_
    rintro e w8 ⟨rfl, hbn⟩
    have b_P := below_then b_P hbn
    have b_A := below_then b_A hbn
    have b_B := below_then b_B hbn
    have b_C := below_then b_C hbn
    have b_D := below_then b_D hbn
    clear hbn
    go_wp2_with fail
    go_ret
    exact ⟨rfl, below_then HB0.out b_P⟩
  obtain ⟨rfl, rfl⟩ : r1 = d ∧ r2 = 0 := by simpa using hrd
  have cA0 := (HA.out.next b_A).c0
  have cA1 := (HA.out.next b_A).c1
  have hcon := tKeep_any raA rcA rdA reA a ap cp p W7 (HUA.out.next b_A) hpm hpx (HCD.out.next at5_firm b_P)
  rw [e4] at hcon
  go_wp2_with fail
  refine (hcon).mono ?_
  clear hcon
  rintro e w8 ⟨raX, rcX, rdX, reX, rfl, hf, hbn⟩
  have hal : Below w8.heap.size w8 (w8.alloc (.cells #[.slice raX x.cols.length rcX, .slice rdX x.data.length reX] 25)) := (Below.refl _ _).alloc (Nat.le_refl _) _
  have HUX := Lib.hid (hf.tbl.next hal)
  have hbn := below_then hbn hal
  have HX := two_new w8 25 (.slice raX x.cols.length rcX) (.slice rdX x.data.length reX)
  obtain ⟨GX, hG⟩ : ∃ G, G = w8.heap.size := ⟨_, rfl⟩
  rw [← hG] at HX
  have HX := Lib.hid HX
  have b_P := below_then b_P hbn
  have b_A := below_then b_A hbn
  have b_B := below_then b_B hbn
  have b_C := below_then b_C hbn
  have b_D := below_then b_D hbn
  clear hf hal hbn cA0 cA1
  go_upto_region 14 with fail
  rw [← hG]
  generalize w8.alloc (.cells #[.slice raX x.cols.length rcX, .slice rdX x.data.length reX] 25) = W8 at *
  clear hG
  have b_X := Below.refl W8.heap.size W8
  have cB0 := (HB.out.next b_B).c0
  have cB1 := (HB.out.next b_B).c1
  have hcon := tKeep_any raB rcB rdB reB b ap cp p W8 (HUB.out.next b_B) hpm hpx (HCD.out.next at5_firm b_P)
  rw [e5] at hcon
  go_wp2_with fail
  refine (hcon).mono ?_
  clear hcon
  rintro e w9 ⟨raY, rcY, rdY, reY, rfl, hf, hbn⟩
  have hal : Below w9.heap.size w9 (w9.alloc (.cells #[.slice raY y.cols.length rcY, .slice rdY y.data.length reY] 25)) := (Below.refl _ _).alloc (Nat.le_refl _) _
  have HUY := Lib.hid (hf.tbl.next hal)
  have hbn := below_then hbn hal
  have HY := two_new w9 25 (.slice raY y.cols.length rcY) (.slice rdY y.data.length reY)
  obtain ⟨GY, hG⟩ : ∃ G, G = w9.heap.size := ⟨_, rfl⟩
  rw [← hG] at HY
  have HY := Lib.hid HY
  have b_P := below_then b_P hbn
  have b_A := below_then b_A hbn
  have b_B := below_then b_B hbn
  have b_C := below_then b_C hbn
  have b_D := below_then b_D hbn
  have b_X := below_then b_X hbn
  clear hf hal hbn cB0 cB1
  go_upto_region 15 with fail
  rw [← hG]
  generalize w9.alloc (.cells #[.slice raY y.cols.length rcY, .slice rdY y.data.length reY] 25) = W9 at *
  clear hG
  have b_Y := Below.refl W9.heap.size W9
  have cX0 := (HX.out.next b_X).c0
  have cX1 := (HX.out.next b_X).c1
  have cY0 := (HY.out.next b_Y).c0
  have cY1 := (HY.out.next b_Y).c1
  have hcon := tAppend_any raX rcX rdX reX x raY rcY rdY reY y W9 (HUX.out.next b_X) (HUY.out.next b_Y)
  rw [e6] at hcon
  go_wp2_with fail
  refine (hcon).mono ?_
  clear hcon
  rintro e w10 ⟨raZ, rcZ, rdZ, reZ, rfl, hf, hbn⟩
  have hal : Below w10.heap.size w10 (w10.alloc (.cells #[.slice raZ r1.cols.length rcZ, .slice rdZ r1.data.length reZ] 25)) := (Below.refl _ _).alloc (Nat.le_refl _) _
  have HUZ := Lib.hid (hf.tbl.next hal)
  have hbn := below_then hbn hal
  have HZ := two_new w10 25 (.slice raZ r1.cols.length rcZ) (.slice rdZ r1.data.length reZ)
  obtain ⟨GZ, hG⟩ : ∃ G, G = w10.heap.size := ⟨_, rfl⟩
  rw [← hG] at HZ
  have HZ := Lib.hid HZ
  have b_P := below_then b_P hbn
  have b_A := below_then b_A hbn
  have b_B := below_then b_B hbn
  have b_C := below_then b_C hbn
  have b_D := below_then b_D hbn
  have b_X := below_then b_X hbn
  have b_Y := below_then b_Y hbn
  clear hf hal hbn cX0 cX1 cY0 cY1
  go_upto_region 16 with fail
  rw [← hG]
  generalize w10.alloc (.cells #[.slice raZ r1.cols.length rcZ, .slice rdZ r1.data.length reZ] 25) = W10 at *
  clear hG
  have b_Z := Below.refl W10.heap.size W10
  have cZ0 := (HZ.out.next b_Z).c0
  have cZ1 := (HZ.out.next b_Z).c1
  have cD0 := (HD.out.next b_D).c0
  have cD1 := (HD.out.next b_D).c1
  go_wp2_with fail
  refine (stab_true (HUZ.out.next b_Z) (HUD.out.next b_D) hod.small).mono ?_
  rintro e w11 ⟨rfl, hbn⟩
  have b_P := below_then b_P hbn
  have b_A := below_then b_A hbn
  have b_B := below_then b_B hbn
  have b_C := below_then b_C hbn
  have b_D := below_then b_D hbn
  have b_X := below_then b_X hbn
  have b_Y := below_then b_Y hbn
  have b_Z := below_then b_Z hbn
  clear hbn
  go_wp2_with fail
  go_ret
  exact ⟨rfl, below_then HB0.out b_P⟩
end Go.Proofs.Ytnjnalehfhfefaa
