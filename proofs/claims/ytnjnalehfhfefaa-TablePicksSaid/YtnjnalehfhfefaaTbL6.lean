/- The walk of TablePicks. -/
import Derived.Test.YtnjnalehfhfefaaTbB
import Derived.Test.YtnjnalehfhfefaaTbR11
import Derived.Test.YtnjnalehfhfefaaTl
import Derived.Test.YtnjnalehfhfefaaTs
namespace Go.Proofs.Ytnjnalehfhfefaa
open Go.RowKit
set_option linter.unusedVariables false

theorem small_ok {t : Tb.T} {e : Nat} {r : Tb.T} (h : Tb.check t = 0 → e = 0 → Small r) : Small (Tb.chg t e r).1 := by
  rcases Tb.chg_or t e r with ⟨_, h1⟩ | ⟨h1, h2, h3⟩
  · rw [h1]; exact small_nul
  · rw [h3]; exact h h1 h2
theorem small_red (t : Tb.T) (o : List UInt8) (p : List O.Cd) : Small (Tb.chg t (Tb.redE t o p) (Tb.red t o p)).1 := small_ok fun h1 h2 => ((Tb.check_ok h1).red (by
  unfold Tb.redE at h2
  by_cases hx : ¬ Tb.has t.cols o
  · rw [if_pos hx] at h2; cases h2
  · exact Classical.not_not.1 hx) p).small
theorem small_keep (t : Tb.T) (p : List O.Cd) : Small (Tb.chg t (Tb.keepE t p) (Tb.keep t p)).1 := small_ok fun h1 _ => ((Tb.check_ok h1).keep p).small
theorem small_proj (t : Tb.T) (ns : List (List UInt8)) : Small (Tb.chg t (Tb.projE t [] ns) (Tb.proj t ns)).1 := small_ok fun h1 h2 => ((Tb.check_ok h1).proj h2).small
theorem small_sli (t : Tb.T) (f m : Int) : Small (Tb.chg t (Tb.sliE f m) (Tb.sli t f m)).1 := small_ok fun h1 _ => ((Tb.check_ok h1).sli f m).small
theorem small_app (t u : Tb.T) : Small (Tb.chg t (Tb.appE t u) (Tb.app t u)).1 := small_ok fun h1 h2 => by
  have hok := Tb.check_ok h1
  have hu : Tb.check u = 0 := by
    unfold Tb.appE at h2
    by_cases hx : Tb.check u ≠ 0
    · rw [if_pos hx] at h2; omega
    · omega
  have hok2 := Tb.check_ok hu
  refine ⟨by have := hok.six; show t.cols.length ≤ _; omega, fun l hl => ?_⟩
  unfold Tb.app at hl
  obtain ⟨i, hi, rfl⟩ := List.mem_iff_getElem.1 hl
  rw [List.length_zipWith] at hi
  rw [List.getElem_zipWith, List.length_append]
  have a := hok.lens _ (List.getElem_mem (show i < t.data.length by omega))
  have b := hok2.lens _ (List.getElem_mem (show i < u.data.length by omega))
  have := hok.rows_le
  have := hok2.rows_le
  omega
theorem small_add (t : Tb.T) (c : Tb.Col) (x : C.Cl) : Small (Tb.chg t (Tb.addE t c x) (Tb.add t c x)).1 := small_ok fun h1 h2 => ((Tb.check_ok h1).add h2).small
theorem small_ren (t : Tb.T) (o n : List UInt8) : Small (Tb.chg t (Tb.renE t o n) (Tb.ren t o n)).1 := small_ok fun h1 h2 => ((Tb.check_ok h1).ren h2).small
theorem small_drop (t : Tb.T) (o : List UInt8) : Small (Tb.chg t (Tb.dropE t o) (Tb.drop t o)).1 := small_ok fun h1 _ => by
  have hok := Tb.check_ok h1
  refine ⟨?_, fun l hl => ?_⟩
  · have := hok.six
    have h9 := List.length_eraseIdx_le t.cols (Tb.pos t.cols o)
    show (t.cols.eraseIdx _).length ≤ _
    omega
  · have := hok.lens l (List.mem_of_mem_eraseIdx hl)
    have := hok.rows_le
    omega
set_option maxHeartbeats 8000000 in
set_option maxRecDepth 100000 in
theorem tablePicks_walk (w : World) (ca : Option Addr) (cc : Nat) (da : Option Addr) (dc : Nat) (t : Tb.T) (ht : Tbl w w.heap.size ca cc da dc t) (oa : Option Addr) (oc : Nat) (od : Option Addr) (oe : Nat) (u : Tb.T) (hu : Tbl w w.heap.size oa oc od oe u) (ap : Option Addr) (cp : Nat) (p : List O.Cd) (hpm : p.length ≤ maxLen) (hpq : p.length ≤ cp ∧ cp ≤ maxLen ∧ (ap = none → cp = 0)) (hpx : ∀ x ∈ p, dOk x) (hpu : Cds w w.heap.size ap p) (an : Option Addr) (cn : Nat) (ns : List (List UInt8)) (hnm : ns.length ≤ maxLen) (hnq : ns.length ≤ cn ∧ cn ≤ maxLen ∧ (an = none → cn = 0)) (hnx : ∀ x ∈ ns, x.length ≤ maxLen) (hnu : Txts w w.heap.size an ns) (f : Int) (hf : -9223372036854775808 ≤ f ∧ f ≤ 9223372036854775807) (m : Int) (hm : -9223372036854775808 ≤ m ∧ m ≤ 9223372036854775807) :
    Calls Try.prog 4 #[tag ca t.cols.length cc da t.data.length dc, tag oa u.cols.length oc od u.data.length oe, .slice ap p.length cp, .slice an ns.length cn, .int .i64 f, .int .i64 m] w (BoolPost true w) := by
  have a0 : Below w.heap.size w (w.alloc (.cells #[.slice ca t.cols.length cc, .slice da t.data.length dc] 25)) := (Below.refl _ _).alloc (Nat.le_refl _) _
  have a1 : Below (w.alloc (.cells #[.slice ca t.cols.length cc, .slice da t.data.length dc] 25)).heap.size (w.alloc (.cells #[.slice ca t.cols.length cc, .slice da t.data.length dc] 25)) ((w.alloc (.cells #[.slice ca t.cols.length cc, .slice da t.data.length dc] 25)).alloc (.cells #[.slice oa u.cols.length oc, .slice od u.data.length oe] 25)) := (Below.refl _ _).alloc (Nat.le_refl _) _
  have HP := Lib.hid (Two.next (two_new w 25 (.slice ca t.cols.length cc) (.slice da t.data.length dc)) a1)
  have hQ := two_new (w.alloc (.cells #[.slice ca t.cols.length cc, .slice da t.data.length dc] 25)) 25 (.slice oa u.cols.length oc) (.slice od u.data.length oe)
  rw [show (w.alloc (.cells #[.slice ca t.cols.length cc, .slice da t.data.length dc] 25)).heap.size = w.heap.size + 1 by simp] at hQ
  have HQ := Lib.hid hQ
  have hal := below_then a0 a1
  have HUP := Lib.hid (ht.next hal)
  have HUQ := Lib.hid (hu.next hal)
  have HCD := Lib.hid (hpu.next at5_firm hal)
  have HNM := Lib.hid (hnu.next hal)
  have HB0 := Lib.hid hal
  have HNQ := Lib.hid hnq
  have HPQ := Lib.hid hpq
  have b_P := Below.refl ((w.alloc (.cells #[.slice ca t.cols.length cc, .slice da t.data.length dc] 25)).alloc (.cells #[.slice oa u.cols.length oc, .slice od u.data.length oe] 25)).heap.size ((w.alloc (.cells #[.slice ca t.cols.length cc, .slice da t.data.length dc] 25)).alloc (.cells #[.slice oa u.cols.length oc, .slice od u.data.length oe] 25))
  have b_Q := b_P
  clear ht hu hpu hnu hQ hal a0 a1 hpq hnq
  have hnm2 := hnm
  unfold maxLen at hnm2
  go_enter Try.func4, Try.ntmps4
  go_upto_region 1 with fail
  generalize ((w.alloc (.cells #[.slice ca t.cols.length cc, .slice da t.data.length dc] 25)).alloc (.cells #[.slice oa u.cols.length oc, .slice od u.data.length oe] 25)) = W0 at *
  rcases Decidable.em (ns.length = 0) with hz | hz
  case' inl =>
    have g1 : decide ((0 : Int) < (ns.length : Int)) = false := decide_eq_false (by omega)
    obtain ⟨nm, hnm3⟩ : ∃ nm, str nm = (⟨#[]⟩ : ByteArray) := ⟨[], rfl⟩
    have hz2 : (ns.length : Int) = 0 := by omega
    clear hz
    go_upto_region 4 with fail
    rw [← hnm3]
    clear hnm3 g1 hz2
  case' inr =>
    have g1 : decide ((0 : Int) < (ns.length : Int)) = true := decide_eq_true (by omega)
    obtain ⟨nb, noff, rfl, hnb, hnc⟩ := HNM.out (fun e => by rw [e] at hz; simp at hz)
    have m0 := hnc 0 (by omega)
    rw [Nat.add_zero] at m0
    have g2 : (0 : Int) < (ns.length : Int) := by omega
    generalize ns.getD 0 [] = nm at *
    clear hz hnc
    go_upto_region 4 with fail
    clear m0 g1 g2
  all_goals
    clear hnm2
    obtain ⟨⟨a1, a2⟩, hRA⟩ : ∃ r : Tb.T × Nat, r = Tb.chg t (Tb.redE t nm p) (Tb.red t nm p) := ⟨_, rfl⟩
    have HRA := Lib.hid hRA
    have HSA := Lib.hid (show Small a1 by have h9 := small_red t nm p; rw [← hRA] at h9; exact h9)
    clear hRA
    obtain ⟨⟨b1, b2⟩, hRB⟩ : ∃ r : Tb.T × Nat, r = Tb.chg t (Tb.keepE t p) (Tb.keep t p) := ⟨_, rfl⟩
    have HRB := Lib.hid hRB
    have HSB := Lib.hid (show Small b1 by have h9 := small_keep t p; rw [← hRB] at h9; exact h9)
    clear hRB
    obtain ⟨⟨c1, c2⟩, hRC⟩ : ∃ r : Tb.T × Nat, r = Tb.chg t (Tb.projE t [] ns) (Tb.proj t ns) := ⟨_, rfl⟩
    have HRC := Lib.hid hRC
    have HSC := Lib.hid (show Small c1 by have h9 := small_proj t ns; rw [← hRC] at h9; exact h9)
    clear hRC
    obtain ⟨⟨d1, d2⟩, hRD⟩ : ∃ r : Tb.T × Nat, r = Tb.chg t (Tb.sliE f m) (Tb.sli t f m) := ⟨_, rfl⟩
    have HRD := Lib.hid hRD
    have HSD := Lib.hid (show Small d1 by have h9 := small_sli t f m; rw [← hRD] at h9; exact h9)
    clear hRD
    obtain ⟨⟨e1, e2⟩, hRE⟩ : ∃ r : Tb.T × Nat, r = Tb.chg t (Tb.appE t u) (Tb.app t u) := ⟨_, rfl⟩
    have HRE := Lib.hid hRE
    have HSE := Lib.hid (show Small e1 by have h9 := small_app t u; rw [← hRE] at h9; exact h9)
    clear hRE
    have cP0 := (HP.out.next b_P).c0
    have cP1 := (HP.out.next b_P).c1
    have hcon := tRedact_any ca cc da dc t nm ap cp p W0 (HUP.out.next b_P) hpm hpx (HCD.out.next at5_firm b_P)
    rw [← HRA.out] at hcon
    go_wp2_with fail
    refine (hcon).mono ?_
    clear hcon
    rintro e w1 ⟨raA, rcA, rdA, reA, rfl, hf, hbn⟩
    have hal : Below w1.heap.size w1 (w1.alloc (.cells #[.slice raA a1.cols.length rcA, .slice rdA a1.data.length reA] 25)) := (Below.refl _ _).alloc (Nat.le_refl _) _
    have HUA := Lib.hid (hf.tbl.next hal)
    have hbn := below_then hbn hal
    have HA := two_new w1 25 (.slice raA a1.cols.length rcA) (.slice rdA a1.data.length reA)
    obtain ⟨GA, hG⟩ : ∃ G, G = w1.heap.size := ⟨_, rfl⟩
    rw [← hG] at HA
    have HA := Lib.hid HA
    have b_P := below_then b_P hbn
    have b_Q := below_then b_Q hbn
    clear hf hal hbn cP0 cP1
    go_upto_region 5 with fail
    rw [← hG]
    generalize w1.alloc (.cells #[.slice raA a1.cols.length rcA, .slice rdA a1.data.length reA] 25) = W1 at *
    clear hG
    have b_A := Below.refl W1.heap.size W1
    have cP0 := (HP.out.next b_P).c0
    have cP1 := (HP.out.next b_P).c1
    have hcon := tKeep_any ca cc da dc t ap cp p W1 (HUP.out.next b_P) hpm hpx (HCD.out.next at5_firm b_P)
    rw [← HRB.out] at hcon
    go_wp2_with fail
    refine (hcon).mono ?_
    clear hcon
    rintro e w2 ⟨raB, rcB, rdB, reB, rfl, hf, hbn⟩
    have hal : Below w2.heap.size w2 (w2.alloc (.cells #[.slice raB b1.cols.length rcB, .slice rdB b1.data.length reB] 25)) := (Below.refl _ _).alloc (Nat.le_refl _) _
    have HUB := Lib.hid (hf.tbl.next hal)
    have hbn := below_then hbn hal
    have HB := two_new w2 25 (.slice raB b1.cols.length rcB) (.slice rdB b1.data.length reB)
    obtain ⟨GB, hG⟩ : ∃ G, G = w2.heap.size := ⟨_, rfl⟩
    rw [← hG] at HB
    have HB := Lib.hid HB
    have b_P := below_then b_P hbn
    have b_Q := below_then b_Q hbn
    have b_A := below_then b_A hbn
    clear hf hal hbn cP0 cP1
    go_upto_region 6 with fail
    rw [← hG]
    generalize w2.alloc (.cells #[.slice raB b1.cols.length rcB, .slice rdB b1.data.length reB] 25) = W2 at *
    clear hG
    have b_B := Below.refl W2.heap.size W2
    have cP0 := (HP.out.next b_P).c0
    have cP1 := (HP.out.next b_P).c1
    have hcon := tProject_any ca cc da dc t _ cn ns W2 (HUP.out.next b_P) hnm (HNM.out.next b_P)
    rw [← HRC.out] at hcon
    go_wp2_with fail
    refine (hcon).mono ?_
    clear hcon
    rintro e w3 ⟨raC, rcC, rdC, reC, rfl, hf, hbn⟩
    have hal : Below w3.heap.size w3 (w3.alloc (.cells #[.slice raC c1.cols.length rcC, .slice rdC c1.data.length reC] 25)) := (Below.refl _ _).alloc (Nat.le_refl _) _
    have HUC := Lib.hid (hf.tbl.next hal)
    have hbn := below_then hbn hal
    have HC := two_new w3 25 (.slice raC c1.cols.length rcC) (.slice rdC c1.data.length reC)
    obtain ⟨GC, hG⟩ : ∃ G, G = w3.heap.size := ⟨_, rfl⟩
    rw [← hG] at HC
    have HC := Lib.hid HC
    have b_P := below_then b_P hbn
    have b_Q := below_then b_Q hbn
    have b_A := below_then b_A hbn
    have b_B := below_then b_B hbn
    clear hf hal hbn cP0 cP1
    go_upto_region 7 with fail
    rw [← hG]
    generalize w3.alloc (.cells #[.slice raC c1.cols.length rcC, .slice rdC c1.data.length reC] 25) = W3 at *
    clear hG
    have b_C := Below.refl W3.heap.size W3
    have cP0 := (HP.out.next b_P).c0
    have cP1 := (HP.out.next b_P).c1
    have hcon := tSlice_any ca cc da dc t f m W3 (HUP.out.next b_P) hf hm
    rw [← HRD.out] at hcon
    go_wp2_with fail
    refine (hcon).mono ?_
    clear hcon
    rintro e w4 ⟨raD, rcD, rdD, reD, rfl, hf, hbn⟩
    have hal : Below w4.heap.size w4 (w4.alloc (.cells #[.slice raD d1.cols.length rcD, .slice rdD d1.data.length reD] 25)) := (Below.refl _ _).alloc (Nat.le_refl _) _
    have HUD := Lib.hid (hf.tbl.next hal)
    have hbn := below_then hbn hal
    have HD := two_new w4 25 (.slice raD d1.cols.length rcD) (.slice rdD d1.data.length reD)
    obtain ⟨GD, hG⟩ : ∃ G, G = w4.heap.size := ⟨_, rfl⟩
    rw [← hG] at HD
    have HD := Lib.hid HD
    have b_P := below_then b_P hbn
    have b_Q := below_then b_Q hbn
    have b_A := below_then b_A hbn
    have b_B := below_then b_B hbn
    have b_C := below_then b_C hbn
    clear hf hal hbn cP0 cP1
    go_upto_region 8 with fail
    rw [← hG]
    generalize w4.alloc (.cells #[.slice raD d1.cols.length rcD, .slice rdD d1.data.length reD] 25) = W4 at *
    clear hG
    have b_D := Below.refl W4.heap.size W4
    have cP0 := (HP.out.next b_P).c0
    have cP1 := (HP.out.next b_P).c1
    have cQ0 := (HQ.out.next b_Q).c0
    have cQ1 := (HQ.out.next b_Q).c1
    have hcon := tAppend_any ca cc da dc t oa oc od oe u W4 (HUP.out.next b_P) (HUQ.out.next b_Q)
    rw [← HRE.out] at hcon
    go_wp2_with fail
    refine (hcon).mono ?_
    clear hcon
    rintro e w5 ⟨raE, rcE, rdE, reE, rfl, hf, hbn⟩
    have hal : Below w5.heap.size w5 (w5.alloc (.cells #[.slice raE e1.cols.length rcE, .slice rdE e1.data.length reE] 25)) := (Below.refl _ _).alloc (Nat.le_refl _) _
    have HUE := Lib.hid (hf.tbl.next hal)
    have hbn := below_then hbn hal
    have HE := two_new w5 25 (.slice raE e1.cols.length rcE) (.slice rdE e1.data.length reE)
    obtain ⟨GE, hG⟩ : ∃ G, G = w5.heap.size := ⟨_, rfl⟩
    rw [← hG] at HE
    have HE := Lib.hid HE
    have b_P := below_then b_P hbn
    have b_Q := below_then b_Q hbn
    have b_A := below_then b_A hbn
    have b_B := below_then b_B hbn
    have b_C := below_then b_C hbn
    have b_D := below_then b_D hbn
    clear hf hal hbn cP0 cP1 cQ0 cQ1
    go_upto_region 9 with fail
    rw [← hG]
    generalize w5.alloc (.cells #[.slice raE e1.cols.length rcE, .slice rdE e1.data.length reE] 25) = W5 at *
    clear hG
    have b_E := Below.refl W5.heap.size W5
    have cP0 := (HP.out.next b_P).c0
    have cP1 := (HP.out.next b_P).c1
    have hcon := rRedact_any ca cc da dc t nm ap cp p W5 (HUP.out.next b_P) hpm HPQ.out.1 hpx (HCD.out.next at5_firm b_P)
    rw [← HRA.out] at hcon
    go_wp2_with fail
    refine (hcon).mono ?_
    clear hcon
    rintro e w6 ⟨raK, rcK, rdK, reK, rfl, hf, hbn⟩
    have hal : Below w6.heap.size w6 (w6.alloc (.cells #[.slice raK a1.cols.length rcK, .slice rdK a1.data.length reK] 25)) := (Below.refl _ _).alloc (Nat.le_refl _) _
    have HUK := Lib.hid (hf.next hal)
    have hbn := below_then hbn hal
    have HK := two_new w6 25 (.slice raK a1.cols.length rcK) (.slice rdK a1.data.length reK)
    obtain ⟨GK, hG⟩ : ∃ G, G = w6.heap.size := ⟨_, rfl⟩
    rw [← hG] at HK
    have HK := Lib.hid HK
    have b_P := below_then b_P hbn
    have b_Q := below_then b_Q hbn
    have b_A := below_then b_A hbn
    have b_B := below_then b_B hbn
    have b_C := below_then b_C hbn
    have b_D := below_then b_D hbn
    have b_E := below_then b_E hbn
    clear hf hal hbn cP0 cP1
    go_upto_region 10 with fail
    rw [← hG]
    generalize w6.alloc (.cells #[.slice raK a1.cols.length rcK, .slice rdK a1.data.length reK] 25) = W6 at *
    clear hG
    have b_K := Below.refl W6.heap.size W6
    have cP0 := (HP.out.next b_P).c0
    have cP1 := (HP.out.next b_P).c1
    have hcon := rKeep_any ca cc da dc t ap cp p W6 (HUP.out.next b_P) hpm HPQ.out.1 hpx (HCD.out.next at5_firm b_P)
    rw [← HRB.out] at hcon
    go_wp2_with fail
    refine (hcon).mono ?_
    clear hcon
    rintro e w7 ⟨raM, rcM, rdM, reM, rfl, hf, hbn⟩
    have hal : Below w7.heap.size w7 (w7.alloc (.cells #[.slice raM b1.cols.length rcM, .slice rdM b1.data.length reM] 25)) := (Below.refl _ _).alloc (Nat.le_refl _) _
    have HUM := Lib.hid (hf.next hal)
    have hbn := below_then hbn hal
    have HM := two_new w7 25 (.slice raM b1.cols.length rcM) (.slice rdM b1.data.length reM)
    obtain ⟨GM, hG⟩ : ∃ G, G = w7.heap.size := ⟨_, rfl⟩
    rw [← hG] at HM
    have HM := Lib.hid HM
    have b_P := below_then b_P hbn
    have b_Q := below_then b_Q hbn
    have b_A := below_then b_A hbn
    have b_B := below_then b_B hbn
    have b_C := below_then b_C hbn
    have b_D := below_then b_D hbn
    have b_E := below_then b_E hbn
    have b_K := below_then b_K hbn
    clear hf hal hbn cP0 cP1
    go_upto_region 11 with fail
    rw [← hG]
    generalize w7.alloc (.cells #[.slice raM b1.cols.length rcM, .slice rdM b1.data.length reM] 25) = W7 at *
    clear hG
    have b_M := Below.refl W7.heap.size W7
    have cP0 := (HP.out.next b_P).c0
    have cP1 := (HP.out.next b_P).c1
    have hcon := rProject_any ca cc da dc t _ cn ns W7 (HUP.out.next b_P) hnm (HNM.out.next b_P)
    rw [← HRC.out] at hcon
    go_wp2_with fail
    refine (hcon).mono ?_
    clear hcon
    rintro e w8 ⟨raO, rcO, rdO, reO, rfl, hf, hbn⟩
    have hal : Below w8.heap.size w8 (w8.alloc (.cells #[.slice raO c1.cols.length rcO, .slice rdO c1.data.length reO] 25)) := (Below.refl _ _).alloc (Nat.le_refl _) _
    have HUO := Lib.hid (hf.next hal)
    have hbn := below_then hbn hal
    have HO := two_new w8 25 (.slice raO c1.cols.length rcO) (.slice rdO c1.data.length reO)
    obtain ⟨GO, hG⟩ : ∃ G, G = w8.heap.size := ⟨_, rfl⟩
    rw [← hG] at HO
    have HO := Lib.hid HO
    have b_P := below_then b_P hbn
    have b_Q := below_then b_Q hbn
    have b_A := below_then b_A hbn
    have b_B := below_then b_B hbn
    have b_C := below_then b_C hbn
    have b_D := below_then b_D hbn
    have b_E := below_then b_E hbn
    have b_K := below_then b_K hbn
    have b_M := below_then b_M hbn
    clear hf hal hbn cP0 cP1
    go_upto_region 12 with fail
    rw [← hG]
    generalize w8.alloc (.cells #[.slice raO c1.cols.length rcO, .slice rdO c1.data.length reO] 25) = W8 at *
    clear hG
    have b_O := Below.refl W8.heap.size W8
    have cP0 := (HP.out.next b_P).c0
    have cP1 := (HP.out.next b_P).c1
    have hcon := rSlice_any ca cc da dc t f m W8 (HUP.out.next b_P) hf hm
    rw [← HRD.out] at hcon
    go_wp2_with fail
    refine (hcon).mono ?_
    clear hcon
    rintro e w9 ⟨raR, rcR, rdR, reR, rfl, hf, hbn⟩
    have hal : Below w9.heap.size w9 (w9.alloc (.cells #[.slice raR d1.cols.length rcR, .slice rdR d1.data.length reR] 25)) := (Below.refl _ _).alloc (Nat.le_refl _) _
    have HUR := Lib.hid (hf.next hal)
    have hbn := below_then hbn hal
    have HR := two_new w9 25 (.slice raR d1.cols.length rcR) (.slice rdR d1.data.length reR)
    obtain ⟨GR, hG⟩ : ∃ G, G = w9.heap.size := ⟨_, rfl⟩
    rw [← hG] at HR
    have HR := Lib.hid HR
    have b_P := below_then b_P hbn
    have b_Q := below_then b_Q hbn
    have b_A := below_then b_A hbn
    have b_B := below_then b_B hbn
    have b_C := below_then b_C hbn
    have b_D := below_then b_D hbn
    have b_E := below_then b_E hbn
    have b_K := below_then b_K hbn
    have b_M := below_then b_M hbn
    have b_O := below_then b_O hbn
    clear hf hal hbn cP0 cP1
    go_upto_region 13 with fail
    rw [← hG]
    generalize w9.alloc (.cells #[.slice raR d1.cols.length rcR, .slice rdR d1.data.length reR] 25) = W9 at *
    clear hG
    have b_R := Below.refl W9.heap.size W9
    have cP0 := (HP.out.next b_P).c0
    have cP1 := (HP.out.next b_P).c1
    have cQ0 := (HQ.out.next b_Q).c0
    have cQ1 := (HQ.out.next b_Q).c1
    have hcon := rAppend_any ca cc da dc t oa oc od oe u W9 (HUP.out.next b_P) (HUQ.out.next b_Q)
    rw [← HRE.out] at hcon
    go_wp2_with fail
    refine (hcon).mono ?_
    clear hcon
    rintro e w10 ⟨raU, rcU, rdU, reU, rfl, hf, hbn⟩
    have hal : Below w10.heap.size w10 (w10.alloc (.cells #[.slice raU e1.cols.length rcU, .slice rdU e1.data.length reU] 25)) := (Below.refl _ _).alloc (Nat.le_refl _) _
    have HUU := Lib.hid (hf.next hal)
    have hbn := below_then hbn hal
    have HU := two_new w10 25 (.slice raU e1.cols.length rcU) (.slice rdU e1.data.length reU)
    obtain ⟨GU, hG⟩ : ∃ G, G = w10.heap.size := ⟨_, rfl⟩
    rw [← hG] at HU
    have HU := Lib.hid HU
    have b_P := below_then b_P hbn
    have b_Q := below_then b_Q hbn
    have b_A := below_then b_A hbn
    have b_B := below_then b_B hbn
    have b_C := below_then b_C hbn
    have b_D := below_then b_D hbn
    have b_E := below_then b_E hbn
    have b_K := below_then b_K hbn
    have b_M := below_then b_M hbn
    have b_O := below_then b_O hbn
    have b_R := below_then b_R hbn
    clear hf hal hbn cP0 cP1 cQ0 cQ1
    go_upto_region 14 with fail
    rw [← hG]
    generalize w10.alloc (.cells #[.slice raU e1.cols.length rcU, .slice rdU e1.data.length reU] 25) = W10 at *
    clear hG
    have b_U := Below.refl W10.heap.size W10
    go_wp2_with fail
    refine (tbegun_any _).mono ?_
    rintro e w11 ⟨rfl, hbn⟩
    have b_P := below_then b_P hbn
    have b_Q := below_then b_Q hbn
    have b_A := below_then b_A hbn
    have b_B := below_then b_B hbn
    have b_C := below_then b_C hbn
    have b_D := below_then b_D hbn
    have b_E := below_then b_E hbn
    have b_K := below_then b_K hbn
    have b_M := below_then b_M hbn
    have b_O := below_then b_O hbn
    have b_R := below_then b_R hbn
    have b_U := below_then b_U hbn
    clear hbn
    have cA0 := (HA.out.next b_A).c0
    have cA1 := (HA.out.next b_A).c1
    have cK0 := (HK.out.next b_K).c0
    have cK1 := (HK.out.next b_K).c1
    go_wp2_with fail
    refine (stab_true (HUA.out.next b_A) (HUK.out.next b_K) HSA.out).mono ?_
    rintro e w12 ⟨rfl, hbn⟩
    have b_P := below_then b_P hbn
    have b_Q := below_then b_Q hbn
    have b_A := below_then b_A hbn
    have b_B := below_then b_B hbn
    have b_C := below_then b_C hbn
    have b_D := below_then b_D hbn
    have b_E := below_then b_E hbn
    have b_K := below_then b_K hbn
    have b_M := below_then b_M hbn
    have b_O := below_then b_O hbn
    have b_R := below_then b_R hbn
    have b_U := below_then b_U hbn
    clear hbn
    clear cA0 cA1 cK0 cK1
    have cB0 := (HB.out.next b_B).c0
    have cB1 := (HB.out.next b_B).c1
    have cM0 := (HM.out.next b_M).c0
    have cM1 := (HM.out.next b_M).c1
    go_wp2_with fail
    refine (stab_true (HUB.out.next b_B) (HUM.out.next b_M) HSB.out).mono ?_
    rintro e w13 ⟨rfl, hbn⟩
    have b_P := below_then b_P hbn
    have b_Q := below_then b_Q hbn
    have b_B := below_then b_B hbn
    have b_C := below_then b_C hbn
    have b_D := below_then b_D hbn
    have b_E := below_then b_E hbn
    have b_M := below_then b_M hbn
    have b_O := below_then b_O hbn
    have b_R := below_then b_R hbn
    have b_U := below_then b_U hbn
    clear hbn
    clear cB0 cB1 cM0 cM1
    have cC0 := (HC.out.next b_C).c0
    have cC1 := (HC.out.next b_C).c1
    have cO0 := (HO.out.next b_O).c0
    have cO1 := (HO.out.next b_O).c1
    go_wp2_with fail
    refine (stab_true (HUC.out.next b_C) (HUO.out.next b_O) HSC.out).mono ?_
    rintro e w14 ⟨rfl, hbn⟩
    have b_P := below_then b_P hbn
    have b_Q := below_then b_Q hbn
    have b_C := below_then b_C hbn
    have b_D := below_then b_D hbn
    have b_E := below_then b_E hbn
    have b_O := below_then b_O hbn
    have b_R := below_then b_R hbn
    have b_U := below_then b_U hbn
    clear hbn
    clear cC0 cC1 cO0 cO1
    have cD0 := (HD.out.next b_D).c0
    have cD1 := (HD.out.next b_D).c1
    have cR0 := (HR.out.next b_R).c0
    have cR1 := (HR.out.next b_R).c1
    go_wp2_with fail
    refine (stab_true (HUD.out.next b_D) (HUR.out.next b_R) HSD.out).mono ?_
    rintro e w15 ⟨rfl, hbn⟩
    have b_P := below_then b_P hbn
    have b_Q := below_then b_Q hbn
    have b_D := below_then b_D hbn
    have b_E := below_then b_E hbn
    have b_R := below_then b_R hbn
    have b_U := below_then b_U hbn
    clear hbn
    clear cD0 cD1 cR0 cR1
    have cE0 := (HE.out.next b_E).c0
    have cE1 := (HE.out.next b_E).c1
    have cU0 := (HU.out.next b_U).c0
    have cU1 := (HU.out.next b_U).c1
    go_wp2_with fail
    refine (stab_true (HUE.out.next b_E) (HUU.out.next b_U) HSE.out).mono ?_
    rintro e w16 ⟨rfl, hbn⟩
    have b_P := below_then b_P hbn
    have b_Q := below_then b_Q hbn
    have b_E := below_then b_E hbn
    have b_U := below_then b_U hbn
    clear hbn
    go_wp2_with fail
    go_ret
    exact ⟨rfl, below_then HB0.out b_P⟩
end Go.Proofs.Ytnjnalehfhfefaa
