/- The walk of TableProjects. -/
import Derived.Test.YtnjnalehfhfefaaTbL0
import Derived.Test.YtnjnalehfhfefaaTbB
import Derived.Test.YtnjnalehfhfefaaTbLawP
namespace Go.Proofs.Ytnjnalehfhfefaa
open Go.RowKit
set_option linter.unusedVariables false

set_option maxHeartbeats 4000000 in
set_option maxRecDepth 100000 in
theorem tableProjects_walk (w : World) (ca : Option Addr) (cc : Nat) (da : Option Addr) (dc : Nat) (t : Tb.T) (ht : Tbl w w.heap.size ca cc da dc t) (an : Option Addr) (cn : Nat) (ns : List (List UInt8)) (hnm : ns.length ≤ maxLen) (hnq : ns.length ≤ cn ∧ cn ≤ maxLen ∧ (an = none → cn = 0)) (hnx : ∀ x ∈ ns, x.length ≤ maxLen) (hnu : Txts w w.heap.size an ns) (af : Option Addr) (cf : Nat) (fw : List (List UInt8)) (hfm : fw.length ≤ maxLen) (hfq : fw.length ≤ cf ∧ cf ≤ maxLen ∧ (af = none → cf = 0)) (hfx : ∀ x ∈ fw, x.length ≤ maxLen) (hfu : Txts w w.heap.size af fw) (f : Int) (hf : -9223372036854775808 ≤ f ∧ f ≤ 9223372036854775807) (m : Int) (hm : -9223372036854775808 ≤ m ∧ m ≤ 9223372036854775807) :
    Calls Try.prog 9 #[tag ca t.cols.length cc da t.data.length dc, .slice an ns.length cn, .slice af fw.length cf, .int .i64 f, .int .i64 m] w (BoolPost true w) := by
  have a0 : Below w.heap.size w (w.alloc (.cells #[.slice ca t.cols.length cc, .slice da t.data.length dc] 25)) := (Below.refl _ _).alloc (Nat.le_refl _) _
  have HP := Lib.hid (two_new w 25 (.slice ca t.cols.length cc) (.slice da t.data.length dc))
  have HUP := Lib.hid (ht.next a0)
  have HN := Lib.hid (hnu.next a0)
  have HF := Lib.hid (hfu.next a0)
  have HL := Lib.hid (Tb.proj_law t ns fw f m)
  have HB0 := Lib.hid a0
  have b_P := Below.refl (w.alloc (.cells #[.slice ca t.cols.length cc, .slice da t.data.length dc] 25)).heap.size (w.alloc (.cells #[.slice ca t.cols.length cc, .slice da t.data.length dc] 25))
  clear ht hnu hfu
  clear a0
  go_enter Try.func9, Try.ntmps9
  go_upto_region 1 with fail
  generalize w.alloc (.cells #[.slice ca t.cols.length cc, .slice da t.data.length dc] 25) = W0 at *
  have cP0 := (HP.out.next b_P).c0
  have cP1 := (HP.out.next b_P).c1
  go_wp2_with fail
  refine (tProject_any ca cc da dc t an cn ns _ (HUP.out.next b_P) hnm (HN.out.next b_P)).mono ?_
  generalize Tb.chg t (Tb.projE t [] ns) (Tb.proj t ns) = r at HL ⊢
  obtain ⟨r1, r2⟩ := r
  rintro e w1 ⟨raA, rcA, rdA, reA, rfl, hf, hbn⟩
  have hal : Below w1.heap.size w1 (w1.alloc (.cells #[.slice raA r1.cols.length rcA, .slice rdA r1.data.length reA] 25)) := (Below.refl _ _).alloc (Nat.le_refl _) _
  have HUA := Lib.hid (hf.tbl.next hal)
  have hbn := below_then hbn hal
  have HA := two_new w1 25 (.slice raA r1.cols.length rcA) (.slice rdA r1.data.length reA)
  obtain ⟨GA, hG⟩ : ∃ G, G = w1.heap.size := ⟨_, rfl⟩
  rw [← hG] at HA
  have HA := Lib.hid HA
  have b_P := below_then b_P hbn
  clear hf hal hbn cP0 cP1
  go_upto_region 2 with fail
  rw [← hG]
  generalize w1.alloc (.cells #[.slice raA r1.cols.length rcA, .slice rdA r1.data.length reA] 25) = W1 at *
  clear hG
  have b_A := Below.refl W1.heap.size W1
  go_wp2_with fail
  refine (tbegun_any _).mono ?_
  rintro e w2 ⟨rfl, hbn⟩
  have b_P := below_then b_P hbn
  have b_A := below_then b_A hbn
  clear hbn
  rcases HL.out with ⟨hne, rfl⟩ | ⟨u, hru, hsl, hfw⟩
  · have hne : r2 ≠ 0 := hne
    have g0 : ((r2 : Int) != 0) = true := by rw [bne_iff_ne]; omega
    have g1 : ((r2 : Int) == 0) = false := by rw [beq_eq_false_iff_ne]; omega
    have cA0 := (HA.out.next b_A).c0
    have cA1 := (HA.out.next b_A).c1
    go_wp2_with fail
    refine (stab_true (HUA.out.next b_A) (Tbl.null _ _) small_nul).mono ?_
    rintro e w3 ⟨rfl, hbn⟩
    have b_P := below_then b_P hbn
    have b_A := below_then b_A hbn
    clear hbn
    go_wp2_with fail
    go_ret
    exact ⟨rfl, below_then HB0.out b_P⟩
  obtain ⟨rfl, rfl⟩ : r1 = u ∧ r2 = 0 := by simpa using hru
  by_cases hf0 : f < 0
  · have g2 : decide (f < 0) = true := decide_eq_true hf0
    go_wp2_with fail
    go_ret
    exact ⟨rfl, below_then HB0.out b_P⟩
  have g2 : decide (f < 0) = false := decide_eq_false hf0
  by_cases hm0 : m < 0
  · have g3 : decide (m < 0) = true := decide_eq_true hm0
    go_wp2_with fail
    go_ret
    exact ⟨rfl, below_then HB0.out b_P⟩
  have g3 : decide (m < 0) = false := decide_eq_false hm0
  obtain ⟨b, s, e1, e2, e3, hob⟩ := hsl (by omega) (by omega)
  clear hsl hru HL
  have cA0 := (HA.out.next b_A).c0
  have cA1 := (HA.out.next b_A).c1
  have hcon := tSlice_any raA rcA rdA reA r1 f m w2 (HUA.out.next b_A) hf hm
  rw [e1] at hcon
  go_wp2_with fail
  refine (hcon).mono ?_
  clear hcon
  rintro e w3 ⟨raB, rcB, rdB, reB, rfl, hf, hbn⟩
  have hal : Below w3.heap.size w3 (w3.alloc (.cells #[.slice raB b.cols.length rcB, .slice rdB b.data.length reB] 25)) := (Below.refl _ _).alloc (Nat.le_refl _) _
  have HUB := Lib.hid (hf.tbl.next hal)
  have hbn := below_then hbn hal
  have HB := two_new w3 25 (.slice raB b.cols.length rcB) (.slice rdB b.data.length reB)
  obtain ⟨GB, hG⟩ : ∃ G, G = w3.heap.size := ⟨_, rfl⟩
  rw [← hG] at HB
  have HB := Lib.hid HB
  have b_P := below_then b_P hbn
  have b_A := below_then b_A hbn
  clear hf hal hbn cA0 cA1
  go_upto_region 7 with fail
  rw [← hG]
  generalize w3.alloc (.cells #[.slice raB b.cols.length rcB, .slice rdB b.data.length reB] 25) = W3 at *
  clear hG
  have b_B := Below.refl W3.heap.size W3
  have cP0 := (HP.out.next b_P).c0
  have cP1 := (HP.out.next b_P).c1
  have hcon := tSlice_any ca cc da dc t f m W3 (HUP.out.next b_P) hf hm
  rw [e2] at hcon
  go_wp2_with fail
  refine (hcon).mono ?_
  clear hcon
  rintro e w4 ⟨raS, rcS, rdS, reS, rfl, hf, hbn⟩
  have hal : Below w4.heap.size w4 (w4.alloc (.cells #[.slice raS s.cols.length rcS, .slice rdS s.data.length reS] 25)) := (Below.refl _ _).alloc (Nat.le_refl _) _
  have HUS := Lib.hid (hf.tbl.next hal)
  have hbn := below_then hbn hal
  have HS := two_new w4 25 (.slice raS s.cols.length rcS) (.slice rdS s.data.length reS)
  obtain ⟨GS, hG⟩ : ∃ G, G = w4.heap.size := ⟨_, rfl⟩
  rw [← hG] at HS
  have HS := Lib.hid HS
  have b_P := below_then b_P hbn
  have b_A := below_then b_A hbn
  have b_B := below_then b_B hbn
  clear hf hal hbn cP0 cP1
  go_upto_region 8 with fail
  rw [← hG]
  generalize w4.alloc (.cells #[.slice raS s.cols.length rcS, .slice rdS s.data.length reS] 25) = W4 at *
  clear hG
  have b_S := Below.refl W4.heap.size W4
  have cS0 := (HS.out.next b_S).c0
  have cS1 := (HS.out.next b_S).c1
  have hcon := tProject_any raS rcS rdS reS s an cn ns W4 (HUS.out.next b_S) hnm (HN.out.next b_P)
  rw [e3] at hcon
  go_wp2_with fail
  refine (hcon).mono ?_
  clear hcon
  rintro e w5 ⟨raD, rcD, rdD, reD, rfl, hf, hbn⟩
  have hal : Below w5.heap.size w5 (w5.alloc (.cells #[.slice raD b.cols.length rcD, .slice rdD b.data.length reD] 25)) := (Below.refl _ _).alloc (Nat.le_refl _) _
  have HUD := Lib.hid (hf.tbl.next hal)
  have hbn := below_then hbn hal
  have HD := two_new w5 25 (.slice raD b.cols.length rcD) (.slice rdD b.data.length reD)
  obtain ⟨GD, hG⟩ : ∃ G, G = w5.heap.size := ⟨_, rfl⟩
  rw [← hG] at HD
  have HD := Lib.hid HD
  have b_P := below_then b_P hbn
  have b_A := below_then b_A hbn
  have b_B := below_then b_B hbn
  have b_S := below_then b_S hbn
  clear hf hal hbn cS0 cS1
  go_upto_region 9 with fail
  rw [← hG]
  generalize w5.alloc (.cells #[.slice raD b.cols.length rcD, .slice rdD b.data.length reD] 25) = W5 at *
  clear hG
  have b_D := Below.refl W5.heap.size W5
  have cB0 := (HB.out.next b_B).c0
  have cB1 := (HB.out.next b_B).c1
  have cD0 := (HD.out.next b_D).c0
  have cD1 := (HD.out.next b_D).c1
  go_wp2_with fail
  refine (stab_true (HUB.out.next b_B) (HUD.out.next b_D) hob.small).mono ?_
  rintro e w6 ⟨rfl, hbn⟩
  have b_P := below_then b_P hbn
  have b_A := below_then b_A hbn
  have b_B := below_then b_B hbn
  have b_S := below_then b_S hbn
  have b_D := below_then b_D hbn
  clear hbn
  clear cB0 cB1 cD0 cD1
  have cA0 := (HA.out.next b_A).c0
  have cA1 := (HA.out.next b_A).c1
  clear e1 e2 e3
  go_wp2_with fail
  refine (tProject_any raA rcA rdA reA r1 af cf fw _ (HUA.out.next b_A) hfm (HF.out.next b_P)).mono ?_
  generalize Tb.chg r1 (Tb.projE r1 [] fw) (Tb.proj r1 fw) = y at hfw ⊢
  obtain ⟨y1, y2⟩ := y
  rintro e w7 ⟨raX, rcX, rdX, reX, rfl, hf, hbn⟩
  have hal : Below w7.heap.size w7 (w7.alloc (.cells #[.slice raX y1.cols.length rcX, .slice rdX y1.data.length reX] 25)) := (Below.refl _ _).alloc (Nat.le_refl _) _
  have HUX := Lib.hid (hf.tbl.next hal)
  have hbn := below_then hbn hal
  have HX := two_new w7 25 (.slice raX y1.cols.length rcX) (.slice rdX y1.data.length reX)
  obtain ⟨GX, hG⟩ : ∃ G, G = w7.heap.size := ⟨_, rfl⟩
  rw [← hG] at HX
  have HX := Lib.hid HX
  have b_P := below_then b_P hbn
  have b_A := below_then b_A hbn
  have b_B := below_then b_B hbn
  have b_S := below_then b_S hbn
  have b_D := below_then b_D hbn
  clear hf hal hbn cA0 cA1
  go_upto_region 12 with fail
  rw [← hG]
  generalize w7.alloc (.cells #[.slice raX y1.cols.length rcX, .slice rdX y1.data.length reX] 25) = W7 at *
  clear hG
  have b_X := Below.refl W7.heap.size W7
  rcases hfw with ⟨hne, rfl⟩ | ⟨y, hry, e4, hoy⟩
  · have hne : y2 ≠ 0 := hne
    have g4 : ((y2 : Int) != 0) = true := by rw [bne_iff_ne]; omega
    have cX0 := (HX.out.next b_X).c0
    have cX1 := (HX.out.next b_X).c1
    go_wp2_with fail
    refine (stab_true (HUX.out.next b_X) (Tbl.null _ _) small_nul).mono ?_
    rintro e w8 ⟨rfl, hbn⟩
    have b_P := below_then b_P hbn
    have b_A := below_then b_A hbn
    have b_B := below_then b_B hbn
    have b_S := below_then b_S hbn
    have b_D := below_then b_D hbn
    have b_X := below_then b_X hbn
    clear hbn
    go_wp2_with fail
    go_ret
    exact ⟨rfl, below_then HB0.out b_P⟩
  obtain ⟨rfl, rfl⟩ : y1 = y ∧ y2 = 0 := by simpa using hry
  have cP0 := (HP.out.next b_P).c0
  have cP1 := (HP.out.next b_P).c1
  have hcon := tProject_any ca cc da dc t af cf fw W7 (HUP.out.next b_P) hfm (HF.out.next b_P)
  rw [e4] at hcon
  go_wp2_with fail
  refine (hcon).mono ?_
  clear hcon
  rintro e w8 ⟨raY, rcY, rdY, reY, rfl, hf, hbn⟩
  have hal : Below w8.heap.size w8 (w8.alloc (.cells #[.slice raY y1.cols.length rcY, .slice rdY y1.data.length reY] 25)) := (Below.refl _ _).alloc (Nat.le_refl _) _
  have HUY := Lib.hid (hf.tbl.next hal)
  have hbn := below_then hbn hal
  have HY := two_new w8 25 (.slice raY y1.cols.length rcY) (.slice rdY y1.data.length reY)
  obtain ⟨GY, hG⟩ : ∃ G, G = w8.heap.size := ⟨_, rfl⟩
  rw [← hG] at HY
  have HY := Lib.hid HY
  have b_P := below_then b_P hbn
  have b_A := below_then b_A hbn
  have b_B := below_then b_B hbn
  have b_S := below_then b_S hbn
  have b_D := below_then b_D hbn
  have b_X := below_then b_X hbn
  clear hf hal hbn cP0 cP1
  go_upto_region 15 with fail
  rw [← hG]
  generalize w8.alloc (.cells #[.slice raY y1.cols.length rcY, .slice rdY y1.data.length reY] 25) = W8 at *
  clear hG
  have b_Y := Below.refl W8.heap.size W8
  have cX0 := (HX.out.next b_X).c0
  have cX1 := (HX.out.next b_X).c1
  have cY0 := (HY.out.next b_Y).c0
  have cY1 := (HY.out.next b_Y).c1
  go_wp2_with fail
  refine (stab_true (HUX.out.next b_X) (HUY.out.next b_Y) hoy.small).mono ?_
  rintro e w9 ⟨rfl, hbn⟩
  have b_P := below_then b_P hbn
  have b_A := below_then b_A hbn
  have b_B := below_then b_B hbn
  have b_S := below_then b_S hbn
  have b_D := below_then b_D hbn
  have b_X := below_then b_X hbn
  have b_Y := below_then b_Y hbn
  clear hbn
  go_wp2_with fail
  go_ret
  exact ⟨rfl, below_then HB0.out b_P⟩
end Go.Proofs.Ytnjnalehfhfefaa
