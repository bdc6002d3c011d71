/- The walk of TableTells. -/
import Derived.Test.YtnjnalehfhfefaaTbL6
import Derived.Test.YtnjnalehfhfefaaTf
import Derived.Test.YtnjnalehfhfefaaTs
namespace Go.Proofs.Ytnjnalehfhfefaa
open Go.RowKit
set_option linter.unusedVariables false

set_option maxHeartbeats 8000000 in
set_option maxRecDepth 100000 in
theorem tableTells_walk (w : World) (ca : Option Addr) (cc : Nat) (da : Option Addr) (dc : Nat) (t : Tb.T) (ht : Tbl w w.heap.size ca cc da dc t) (c : Tb.Col) (hc : gOk c) (x : C.Cl) (hx : cOk x) (nm : ByteArray) (hnm : nm.size ≤ maxLen) (i : Int) (hi : -9223372036854775808 ≤ i ∧ i ≤ 9223372036854775807) :
    Calls Try.prog 3 #[tag ca t.cols.length cc da t.data.length dc, gag c, cag x, .string nm, .int .i64 i] w (BoolPost true w) := by
  have a0 : Below w.heap.size w (w.alloc (.cells #[.slice ca t.cols.length cc, .slice da t.data.length dc] 25)) := (Below.refl _ _).alloc (Nat.le_refl _) _
  have a1 : Below (w.alloc (.cells #[.slice ca t.cols.length cc, .slice da t.data.length dc] 25)).heap.size (w.alloc (.cells #[.slice ca t.cols.length cc, .slice da t.data.length dc] 25)) ((w.alloc (.cells #[.slice ca t.cols.length cc, .slice da t.data.length dc] 25)).alloc (.cells #[.string (str c.name), .int .i64 c.kind] 27)) := (Below.refl _ _).alloc (Nat.le_refl _) _
  have a2 : Below ((w.alloc (.cells #[.slice ca t.cols.length cc, .slice da t.data.length dc] 25)).alloc (.cells #[.string (str c.name), .int .i64 c.kind] 27)).heap.size ((w.alloc (.cells #[.slice ca t.cols.length cc, .slice da t.data.length dc] 25)).alloc (.cells #[.string (str c.name), .int .i64 c.kind] 27)) (((w.alloc (.cells #[.slice ca t.cols.length cc, .slice da t.data.length dc] 25)).alloc (.cells #[.string (str c.name), .int .i64 c.kind] 27)).alloc (.cells #[.int .i64 x.kind, .int .u64 (x.num : Int), .string (str x.txt)] 30)) := (Below.refl _ _).alloc (Nat.le_refl _) _
  have HP := Lib.hid (Two.next (Two.next (two_new w 25 (.slice ca t.cols.length cc) (.slice da t.data.length dc)) a1) a2)
  have hC := Two.next (two_new (w.alloc (.cells #[.slice ca t.cols.length cc, .slice da t.data.length dc] 25)) 27 (.string (str c.name)) (.int .i64 c.kind)) a2
  rw [show (w.alloc (.cells #[.slice ca t.cols.length cc, .slice da t.data.length dc] 25)).heap.size = w.heap.size + 1 by simp] at hC
  have HC := Lib.hid hC
  have hX := tri_new ((w.alloc (.cells #[.slice ca t.cols.length cc, .slice da t.data.length dc] 25)).alloc (.cells #[.string (str c.name), .int .i64 c.kind] 27)) (.int .i64 x.kind) (.int .u64 (x.num : Int)) (.string (str x.txt))
  rw [show ((w.alloc (.cells #[.slice ca t.cols.length cc, .slice da t.data.length dc] 25)).alloc (.cells #[.string (str c.name), .int .i64 c.kind] 27)).heap.size = w.heap.size + 2 by simp] at hX
  have HX := Lib.hid hX
  have hal := below_then (below_then a0 a1) a2
  have HUP := Lib.hid (ht.next hal)
  have HB0 := Lib.hid hal
  have b_P := Below.refl (((w.alloc (.cells #[.slice ca t.cols.length cc, .slice da t.data.length dc] 25)).alloc (.cells #[.string (str c.name), .int .i64 c.kind] 27)).alloc (.cells #[.int .i64 x.kind, .int .u64 (x.num : Int), .string (str x.txt)] 30)).heap.size (((w.alloc (.cells #[.slice ca t.cols.length cc, .slice da t.data.length dc] 25)).alloc (.cells #[.string (str c.name), .int .i64 c.kind] 27)).alloc (.cells #[.int .i64 x.kind, .int .u64 (x.num : Int), .string (str x.txt)] 30))
  clear ht hC hX hal a0 a1 a2
  obtain ⟨n, rfl⟩ : ∃ n, nm = str n := ⟨nm.data.toList, by simp [str]⟩
  have hnm : n.length ≤ maxLen := by have h9 := hnm; rw [str_size] at h9; exact h9
  obtain ⟨⟨a1, a2⟩, hRA⟩ : ∃ r : Tb.T × Nat, r = Tb.chg t (Tb.addE t c x) (Tb.add t c x) := ⟨_, rfl⟩
  have HRA := Lib.hid hRA
  have HSA := Lib.hid (show Small a1 by have h9 := small_add t c x; rw [← hRA] at h9; exact h9)
  clear hRA
  obtain ⟨⟨b1, b2⟩, hRB⟩ : ∃ r : Tb.T × Nat, r = Tb.chg t (Tb.dropE t c.name) (Tb.drop t c.name) := ⟨_, rfl⟩
  have HRB := Lib.hid hRB
  have HSB := Lib.hid (show Small b1 by have h9 := small_drop t c.name; rw [← hRB] at h9; exact h9)
  clear hRB
  obtain ⟨⟨d1, d2⟩, hRD⟩ : ∃ r : Tb.T × Nat, r = Tb.chg t (Tb.renE t c.name n) (Tb.ren t c.name n) := ⟨_, rfl⟩
  have HRD := Lib.hid hRD
  have HSD := Lib.hid (show Small d1 by have h9 := small_ren t c.name n; rw [← hRD] at h9; exact h9)
  clear hRD
  obtain ⟨⟨rl, re⟩, hRW⟩ : ∃ r, r = Tb.rowR t i := ⟨_, rfl⟩
  obtain ⟨⟨n1, n2⟩, hRN⟩ : ∃ r, r = Tb.rowsR t := ⟨_, rfl⟩
  have HRW := Lib.hid hRW
  have HRN := Lib.hid hRN
  have hrl6 : rl.length ≤ 6 := by
    unfold Tb.rowR at hRW
    by_cases h0 : Tb.check t ≠ 0
    · rw [if_pos h0] at hRW; injection hRW with h1 _; rw [h1]; simp
    · rw [if_neg h0] at hRW
      have hok := Tb.check_ok (Classical.not_not.1 h0)
      have := hok.six
      have := hok.len
      by_cases h1 : i < 0 ∨ (Tb.rows t : Int) ≤ i
      · rw [if_pos h1] at hRW; injection hRW with h2 _; rw [h2]; simp
      · rw [if_neg h1] at hRW; injection hRW with h2 _; rw [h2, Tb.rowAt_len]; omega
  clear hRW hRN
  unfold gag cag
  go_enter Try.func3, Try.ntmps3
  go_upto_region 1 with fail
  generalize (((w.alloc (.cells #[.slice ca t.cols.length cc, .slice da t.data.length dc] 25)).alloc (.cells #[.string (str c.name), .int .i64 c.kind] 27)).alloc (.cells #[.int .i64 x.kind, .int .u64 (x.num : Int), .string (str x.txt)] 30)) = W0 at *
  have cP0 := (HP.out.next b_P).c0
  have cP1 := (HP.out.next b_P).c1
  have hcon := tRows_any ca cc da dc t W0 (HUP.out.next b_P)
  rw [← HRN.out] at hcon
  go_wp2_with fail
  refine (hcon).mono ?_
  rintro e w1 ⟨rfl, hbn⟩
  have b_P := below_then b_P hbn
  clear hbn
  clear hcon
  clear cP0 cP1
  have cP0 := (HP.out.next b_P).c0
  have cP1 := (HP.out.next b_P).c1
  have hcon := tRow_any ca cc da dc t i w1 (HUP.out.next b_P)
  rw [← HRW.out] at hcon
  go_wp2_with fail
  refine (hcon).mono ?_
  rintro e w2 ⟨xa, xc, rfl, hxu, hbn⟩
  have b_P := below_then b_P hbn
  clear hbn
  clear hcon
  have HXU := Lib.hid hxu
  clear hxu
  have b_R := Below.refl w2.heap.size w2
  clear cP0 cP1
  have cP0 := (HP.out.next b_P).c0
  have cP1 := (HP.out.next b_P).c1
  have cC0 := (HC.out.next b_P).c0
  have cC1 := (HC.out.next b_P).c1
  have cX0 := (HX.out.next' b_P).c0
  have cX1 := (HX.out.next' b_P).c1
  have cX2 := (HX.out.next' b_P).c2
  have hcon := tAdd_any ca cc da dc t c x w2 (HUP.out.next b_P) hc hx
  rw [← HRA.out] at hcon
  go_wp2_with fail
  refine (hcon).mono ?_
  clear hcon
  rintro e w3 ⟨raA, rcA, rdA, reA, rfl, hf, hbn⟩
  have hal : Below w3.heap.size w3 (w3.alloc (.cells #[.slice raA a1.cols.length rcA, .slice rdA a1.data.length reA] 25)) := (Below.refl _ _).alloc (Nat.le_refl _) _
  have HUA := Lib.hid (hf.tbl.next hal)
  have hbn := below_then hbn hal
  have HA := two_new w3 25 (.slice raA a1.cols.length rcA) (.slice rdA a1.data.length reA)
  obtain ⟨GA, hG⟩ : ∃ G, G = w3.heap.size := ⟨_, rfl⟩
  rw [← hG] at HA
  have HA := Lib.hid HA
  have b_P := below_then b_P hbn
  have b_R := below_then b_R hbn
  clear hf hal hbn cP0 cP1 cC0 cC1 cX0 cX1 cX2
  go_upto_region 4 with fail
  rw [← hG]
  generalize w3.alloc (.cells #[.slice raA a1.cols.length rcA, .slice rdA a1.data.length reA] 25) = W3 at *
  clear hG
  have b_A := Below.refl W3.heap.size W3
  have cP0 := (HP.out.next b_P).c0
  have cP1 := (HP.out.next b_P).c1
  have cC0 := (HC.out.next b_P).c0
  have cC1 := (HC.out.next b_P).c1
  have hcon := tDrop_any ca cc da dc t c.name W3 (HUP.out.next b_P)
  rw [← HRB.out] at hcon
  go_wp2_with fail
  refine (hcon).mono ?_
  clear hcon
  rintro e w4 ⟨raB, rcB, rdB, reB, rfl, hf, hbn⟩
  have hal : Below w4.heap.size w4 (w4.alloc (.cells #[.slice raB b1.cols.length rcB, .slice rdB b1.data.length reB] 25)) := (Below.refl _ _).alloc (Nat.le_refl _) _
  have HUB := Lib.hid (hf.tbl.next hal)
  have hbn := below_then hbn hal
  have HB := two_new w4 25 (.slice raB b1.cols.length rcB) (.slice rdB b1.data.length reB)
  obtain ⟨GB, hG⟩ : ∃ G, G = w4.heap.size := ⟨_, rfl⟩
  rw [← hG] at HB
  have HB := Lib.hid HB
  have b_P := below_then b_P hbn
  have b_R := below_then b_R hbn
  have b_A := below_then b_A hbn
  clear hf hal hbn cP0 cP1 cC0 cC1
  go_upto_region 5 with fail
  rw [← hG]
  generalize w4.alloc (.cells #[.slice raB b1.cols.length rcB, .slice rdB b1.data.length reB] 25) = W4 at *
  clear hG
  have b_B := Below.refl W4.heap.size W4
  have cP0 := (HP.out.next b_P).c0
  have cP1 := (HP.out.next b_P).c1
  have cC0 := (HC.out.next b_P).c0
  have cC1 := (HC.out.next b_P).c1
  have hcon := tRename_any ca cc da dc t c.name n W4 (HUP.out.next b_P) hnm
  rw [← HRD.out] at hcon
  go_wp2_with fail
  refine (hcon).mono ?_
  clear hcon
  rintro e w5 ⟨raD, rcD, rdD, reD, rfl, hf, hbn⟩
  have hal : Below w5.heap.size w5 (w5.alloc (.cells #[.slice raD d1.cols.length rcD, .slice rdD d1.data.length reD] 25)) := (Below.refl _ _).alloc (Nat.le_refl _) _
  have HUD := Lib.hid (hf.tbl.next hal)
  have hbn := below_then hbn hal
  have HD := two_new w5 25 (.slice raD d1.cols.length rcD) (.slice rdD d1.data.length reD)
  obtain ⟨GD, hG⟩ : ∃ G, G = w5.heap.size := ⟨_, rfl⟩
  rw [← hG] at HD
  have HD := Lib.hid HD
  have b_P := below_then b_P hbn
  have b_R := below_then b_R hbn
  have b_A := below_then b_A hbn
  have b_B := below_then b_B hbn
  clear hf hal hbn cP0 cP1 cC0 cC1
  go_upto_region 6 with fail
  rw [← hG]
  generalize w5.alloc (.cells #[.slice raD d1.cols.length rcD, .slice rdD d1.data.length reD] 25) = W5 at *
  clear hG
  have b_D := Below.refl W5.heap.size W5
  have cP0 := (HP.out.next b_P).c0
  have cP1 := (HP.out.next b_P).c1
  go_wp2_with fail
  refine (rTable_any ca cc da dc t _ (HUP.out.next b_P)).mono ?_
  rintro e w6 ⟨rfl, hbn⟩
  have b_P := below_then b_P hbn
  have b_R := below_then b_R hbn
  have b_A := below_then b_A hbn
  have b_B := below_then b_B hbn
  have b_D := below_then b_D hbn
  clear hbn
  clear cP0 cP1
  have hn2 : n2 = Tb.check t := by have := HRN.out; unfold Tb.rowsR at this; injection this
  have hrl2 : rl.length < 9223372036854775807 := by omega
  have hcases : (Tb.check t ≠ 0 ∧ rl = [] ∧ re = Tb.check t ∧ n1 = 0) ∨ (Tb.check t = 0 ∧ n1 = Tb.rows t ∧ i < 0 ∧ rl = [] ∧ re = 3) ∨ (Tb.check t = 0 ∧ n1 = Tb.rows t ∧ ¬ i < 0 ∧ (Tb.rows t : Int) ≤ i ∧ rl = [] ∧ re = 3) ∨ (Tb.check t = 0 ∧ n1 = Tb.rows t ∧ 0 ≤ i ∧ i < (Tb.rows t : Int) ∧ rl = Tb.rowAt t i.toNat ∧ re = 0) := by
    have h1 := HRW.out
    have h2 := HRN.out
    unfold Tb.rowR at h1
    unfold Tb.rowsR at h2
    by_cases h0 : Tb.check t ≠ 0
    · rw [if_pos h0] at h1 h2
      injection h1 with a b
      injection h2 with d e
      exact Or.inl ⟨h0, a, b, d⟩
    · rw [if_neg h0] at h1 h2
      have h0 := Classical.not_not.1 h0
      injection h2 with d e
      by_cases h3 : i < 0 ∨ (Tb.rows t : Int) ≤ i
      · rw [if_pos h3] at h1
        injection h1 with a b
        by_cases h4 : i < 0
        · exact Or.inr (Or.inl ⟨h0, d, h4, a, b⟩)
        · exact Or.inr (Or.inr (Or.inl ⟨h0, d, h4, by omega, a, b⟩))
      · rw [if_neg h3] at h1
        injection h1 with a b
        exact Or.inr (Or.inr (Or.inr ⟨h0, d, by omega, by omega, a, b⟩))
  have HTC := Lib.hid (fun W (hb : Below W0.heap.size W0 W) => tcheck_any ca cc da dc t W (HUP.out.next hb))
  have hok0 := @Tb.check_ok t
  have HOK0 := Lib.hid hok0
  clear hok0 HRW HRN
  generalize Tb.check t = er at *
  rcases hcases with ⟨h0, hl, rfl, rfl⟩ | ⟨h0, rfl, hi0, hl, rfl⟩ | ⟨h0, rfl, hi0, hi1, hl, rfl⟩ | ⟨h0, rfl, hi0, hi1, hl, rfl⟩
  case' inl =>
    have g0 : ((re : Int) == 0) = false := by rw [beq_eq_false_iff_ne]; omega
    have HL := Lib.hid hl
    clear hl
    subst hn2
    clear HOK0
    go_upto_region 14 with fail
    obtain ⟨ga, gc, hform, hcls⟩ : ∃ ga gc, (Value.slice none 0 0) = .slice ga rl.length gc ∧ Cls w6 w6.heap.size ga rl := ⟨none, 0, by rw [HL.out]; rfl, by rw [HL.out]; intro h; exact absurd rfl h⟩
    rw [hform]
    clear hform HL
    clear g0 h0
    generalize hV : w6 = V at *
    clear hV
  case' inr.inl =>
    have HL := Lib.hid hl
    clear hl
    have hok := HOK0.out h0
    subst h0
    subst hn2
    clear HOK0
    have HR0 := Lib.hid (rowsOf_any ca cc da dc t w6 (HUP.out.next b_P))
    have cP0 := (HP.out.next b_P).c0
    have cP1 := (HP.out.next b_P).c1
    have g2 : decide (i < 0) = true := decide_eq_true hi0
    go_wp2_with fail
    refine (HR0.out).mono ?_
    rintro e V ⟨rfl, hbn⟩
    have b_P := below_then b_P hbn
    have b_R := below_then b_R hbn
    have b_A := below_then b_A hbn
    have b_B := below_then b_B hbn
    have b_D := below_then b_D hbn
    clear hbn cP0 cP1
    go_upto_region 14 with fail
    obtain ⟨ga, gc, hform, hcls⟩ : ∃ ga gc, (Value.slice none 0 0) = .slice ga rl.length gc ∧ Cls V V.heap.size ga rl := ⟨none, 0, by rw [HL.out]; rfl, by rw [HL.out]; intro h; exact absurd rfl h⟩
    rw [hform]
    clear hform HL
    clear hok HR0 g2 hi0
  case' inr.inr.inl =>
    have HL := Lib.hid hl
    clear hl
    have hok := HOK0.out h0
    subst h0
    subst hn2
    clear HOK0
    have HR0 := Lib.hid (rowsOf_any ca cc da dc t w6 (HUP.out.next b_P))
    have cP0 := (HP.out.next b_P).c0
    have cP1 := (HP.out.next b_P).c1
    have g2 : decide (i < 0) = false := decide_eq_false hi0
    have g3 : decide ((Tb.rows t : Int) ≤ i) = true := decide_eq_true hi1
    go_wp2_with fail
    refine (HR0.out).mono ?_
    rintro e V ⟨rfl, hbn⟩
    have b_P := below_then b_P hbn
    have b_R := below_then b_R hbn
    have b_A := below_then b_A hbn
    have b_B := below_then b_B hbn
    have b_D := below_then b_D hbn
    clear hbn cP0 cP1
    go_upto_region 14 with fail
    obtain ⟨ga, gc, hform, hcls⟩ : ∃ ga gc, (Value.slice none 0 0) = .slice ga rl.length gc ∧ Cls V V.heap.size ga rl := ⟨none, 0, by rw [HL.out]; rfl, by rw [HL.out]; intro h; exact absurd rfl h⟩
    rw [hform]
    clear hform HL
    clear hok HR0 g2 g3 hi1 hi0
  case' inr.inr.inr =>
    have HL := Lib.hid hl
    clear hl
    have hok := HOK0.out h0
    subst h0
    subst hn2
    clear HOK0
    have HR0 := Lib.hid (rowsOf_any ca cc da dc t w6 (HUP.out.next b_P))
    have cP0 := (HP.out.next b_P).c0
    have cP1 := (HP.out.next b_P).c1
    have g2 : decide (i < 0) = false := decide_eq_false (by omega)
    have g3 : decide ((Tb.rows t : Int) ≤ i) = false := decide_eq_false (by omega)
    have HRO := Lib.hid (fun z (hz : z < t.data.length) => show i.toNat < (t.data.getD z []).length by rw [hok.rows z (by rw [← hok.len]; exact hz)]; omega)
    have hd6 : t.data.length ≤ 1048576 := by have := hok.six; have := hok.len; omega
    obtain ⟨ix, hix⟩ : ∃ ix : Nat, i = (ix : Int) := ⟨i.toNat, by omega⟩
    subst hix
    rw [Int.toNat_natCast] at HRO HL
    clear hok
    go_wp2_with fail
    refine (HR0.out).mono ?_
    rintro e V1 ⟨rfl, hbn⟩
    have b_P := below_then b_P hbn
    have b_R := below_then b_R hbn
    have b_A := below_then b_A hbn
    have b_B := below_then b_B hbn
    have b_D := below_then b_D hbn
    clear hbn cP0 cP1
    have cP0 := (HP.out.next b_P).c0
    have cP1 := (HP.out.next b_P).c1
    have HRA := Lib.hid (rRowAt_any ca cc da dc t ix V1 (HUP.out.next b_P) hd6 HRO.out)
    go_wp2_with fail
    refine (HRA.out).mono ?_
    rintro e V ⟨vr, rfl, hrow, hbn⟩
    have b_P := below_then b_P hbn
    have b_R := below_then b_R hbn
    have b_A := below_then b_A hbn
    have b_B := below_then b_B hbn
    have b_D := below_then b_D hbn
    clear hbn cP0 cP1
    obtain ⟨ga, gc, rfl, hcls, -⟩ := cRow_cls hrow
    rw [← HL.out] at hcls
    rw [← HL.out]
    go_upto_region 14 with fail
    clear HR0 HRA hrow g2 g3 hi0 hi1 HRO hd6 HL
  all_goals
    have HG := Lib.hid hcls
    clear hcls
    have b_G := Below.refl V.heap.size V
    have cP0 := (HP.out.next b_P).c0
    have cP1 := (HP.out.next b_P).c1
    have cC0 := (HC.out.next b_P).c0
    have cC1 := (HC.out.next b_P).c1
    have cX0 := (HX.out.next' b_P).c0
    have cX1 := (HX.out.next' b_P).c1
    have cX2 := (HX.out.next' b_P).c2
    have hcon := rAdd_any ca cc da dc t c x V (HUP.out.next b_P) hc hx
    rw [← HRA.out] at hcon
    go_wp2_with fail
    refine (hcon).mono ?_
    clear hcon
    rintro e w7 ⟨raK, rcK, rdK, reK, rfl, hf, hbn⟩
    have hal : Below w7.heap.size w7 (w7.alloc (.cells #[.slice raK a1.cols.length rcK, .slice rdK a1.data.length reK] 25)) := (Below.refl _ _).alloc (Nat.le_refl _) _
    have HUK := Lib.hid (hf.next hal)
    have hbn := below_then hbn hal
    have HK := two_new w7 25 (.slice raK a1.cols.length rcK) (.slice rdK a1.data.length reK)
    obtain ⟨GK, hG⟩ : ∃ G, G = w7.heap.size := ⟨_, rfl⟩
    rw [← hG] at HK
    have HK := Lib.hid HK
    have b_P := below_then b_P hbn
    have b_R := below_then b_R hbn
    have b_A := below_then b_A hbn
    have b_B := below_then b_B hbn
    have b_D := below_then b_D hbn
    have b_G := below_then b_G hbn
    clear hf hal hbn cP0 cP1 cC0 cC1 cX0 cX1 cX2
    go_upto_region 15 with fail
    rw [← hG]
    generalize w7.alloc (.cells #[.slice raK a1.cols.length rcK, .slice rdK a1.data.length reK] 25) = W7 at *
    clear hG
    have b_K := Below.refl W7.heap.size W7
    have cP0 := (HP.out.next b_P).c0
    have cP1 := (HP.out.next b_P).c1
    have cC0 := (HC.out.next b_P).c0
    have cC1 := (HC.out.next b_P).c1
    have hcon := rDrop_any ca cc da dc t c.name W7 (HUP.out.next b_P)
    rw [← HRB.out] at hcon
    go_wp2_with fail
    refine (hcon).mono ?_
    clear hcon
    rintro e w8 ⟨raM, rcM, rdM, reM, rfl, hf, hbn⟩
    have hal : Below w8.heap.size w8 (w8.alloc (.cells #[.slice raM b1.cols.length rcM, .slice rdM b1.data.length reM] 25)) := (Below.refl _ _).alloc (Nat.le_refl _) _
    have HUM := Lib.hid (hf.next hal)
    have hbn := below_then hbn hal
    have HM := two_new w8 25 (.slice raM b1.cols.length rcM) (.slice rdM b1.data.length reM)
    obtain ⟨GM, hG⟩ : ∃ G, G = w8.heap.size := ⟨_, rfl⟩
    rw [← hG] at HM
    have HM := Lib.hid HM
    have b_P := below_then b_P hbn
    have b_R := below_then b_R hbn
    have b_A := below_then b_A hbn
    have b_B := below_then b_B hbn
    have b_D := below_then b_D hbn
    have b_G := below_then b_G hbn
    have b_K := below_then b_K hbn
    clear hf hal hbn cP0 cP1 cC0 cC1
    go_upto_region 16 with fail
    rw [← hG]
    generalize w8.alloc (.cells #[.slice raM b1.cols.length rcM, .slice rdM b1.data.length reM] 25) = W8 at *
    clear hG
    have b_M := Below.refl W8.heap.size W8
    have cP0 := (HP.out.next b_P).c0
    have cP1 := (HP.out.next b_P).c1
    have cC0 := (HC.out.next b_P).c0
    have cC1 := (HC.out.next b_P).c1
    have hcon := rRename_any ca cc da dc t c.name n W8 (HUP.out.next b_P) hnm
    rw [← HRD.out] at hcon
    go_wp2_with fail
    refine (hcon).mono ?_
    clear hcon
    rintro e w9 ⟨raO, rcO, rdO, reO, rfl, hf, hbn⟩
    have hal : Below w9.heap.size w9 (w9.alloc (.cells #[.slice raO d1.cols.length rcO, .slice rdO d1.data.length reO] 25)) := (Below.refl _ _).alloc (Nat.le_refl _) _
    have HUO := Lib.hid (hf.next hal)
    have hbn := below_then hbn hal
    have HO := two_new w9 25 (.slice raO d1.cols.length rcO) (.slice rdO d1.data.length reO)
    obtain ⟨GO, hG⟩ : ∃ G, G = w9.heap.size := ⟨_, rfl⟩
    rw [← hG] at HO
    have HO := Lib.hid HO
    have b_P := below_then b_P hbn
    have b_R := below_then b_R hbn
    have b_A := below_then b_A hbn
    have b_B := below_then b_B hbn
    have b_D := below_then b_D hbn
    have b_G := below_then b_G hbn
    have b_K := below_then b_K hbn
    have b_M := below_then b_M hbn
    clear hf hal hbn cP0 cP1 cC0 cC1
    go_upto_region 17 with fail
    rw [← hG]
    generalize w9.alloc (.cells #[.slice raO d1.cols.length rcO, .slice rdO d1.data.length reO] 25) = W9 at *
    clear hG
    have b_O := Below.refl W9.heap.size W9
    go_wp2_with fail
    refine (tbegun_any _).mono ?_
    rintro e w10 ⟨rfl, hbn⟩
    have b_P := below_then b_P hbn
    have b_R := below_then b_R hbn
    have b_A := below_then b_A hbn
    have b_B := below_then b_B hbn
    have b_D := below_then b_D hbn
    have b_G := below_then b_G hbn
    have b_K := below_then b_K hbn
    have b_M := below_then b_M hbn
    have b_O := below_then b_O hbn
    clear hbn
    have cP0 := (HP.out.next b_P).c0
    have cP1 := (HP.out.next b_P).c1
    go_wp2_with fail
    refine (HTC.out _ b_P).mono ?_
    rintro e w11 ⟨rfl, hbn⟩
    have b_P := below_then b_P hbn
    have b_R := below_then b_R hbn
    have b_A := below_then b_A hbn
    have b_B := below_then b_B hbn
    have b_D := below_then b_D hbn
    have b_G := below_then b_G hbn
    have b_K := below_then b_K hbn
    have b_M := below_then b_M hbn
    have b_O := below_then b_O hbn
    clear hbn
    clear cP0 cP1
    have hcon := csame_any xa ga xc gc rl rl w11 _ (HXU.out.next b_R) (HG.out.next b_G) hrl2
    rw [decide_eq_true rfl] at hcon
    go_wp2_with fail
    refine (hcon).mono ?_
    rintro e w12 ⟨rfl, hbn⟩
    have b_P := below_then b_P hbn
    have b_R := below_then b_R hbn
    have b_A := below_then b_A hbn
    have b_B := below_then b_B hbn
    have b_D := below_then b_D hbn
    have b_G := below_then b_G hbn
    have b_K := below_then b_K hbn
    have b_M := below_then b_M hbn
    have b_O := below_then b_O hbn
    clear hbn
    clear hcon
    have cA0 := (HA.out.next b_A).c0
    have cA1 := (HA.out.next b_A).c1
    have cK0 := (HK.out.next b_K).c0
    have cK1 := (HK.out.next b_K).c1
    go_wp2_with fail
    refine (stab_true (HUA.out.next b_A) (HUK.out.next b_K) HSA.out).mono ?_
    rintro e w13 ⟨rfl, hbn⟩
    have b_P := below_then b_P hbn
    have b_R := below_then b_R hbn
    have b_A := below_then b_A hbn
    have b_B := below_then b_B hbn
    have b_D := below_then b_D hbn
    have b_G := below_then b_G hbn
    have b_K := below_then b_K hbn
    have b_M := below_then b_M hbn
    have b_O := below_then b_O hbn
    clear hbn
    clear cA0 cA1 cK0 cK1
    have cB0 := (HB.out.next b_B).c0
    have cB1 := (HB.out.next b_B).c1
    have cM0 := (HM.out.next b_M).c0
    have cM1 := (HM.out.next b_M).c1
    go_wp2_with fail
    refine (stab_true (HUB.out.next b_B) (HUM.out.next b_M) HSB.out).mono ?_
    rintro e w14 ⟨rfl, hbn⟩
    have b_P := below_then b_P hbn
    have b_R := below_then b_R hbn
    have b_A := below_then b_A hbn
    have b_B := below_then b_B hbn
    have b_D := below_then b_D hbn
    have b_G := below_then b_G hbn
    have b_K := below_then b_K hbn
    have b_M := below_then b_M hbn
    have b_O := below_then b_O hbn
    clear hbn
    clear cB0 cB1 cM0 cM1
    have cD0 := (HD.out.next b_D).c0
    have cD1 := (HD.out.next b_D).c1
    have cO0 := (HO.out.next b_O).c0
    have cO1 := (HO.out.next b_O).c1
    go_wp2_with fail
    refine (stab_true (HUD.out.next b_D) (HUO.out.next b_O) HSD.out).mono ?_
    rintro e w15 ⟨rfl, hbn⟩
    have b_P := below_then b_P hbn
    have b_R := below_then b_R hbn
    have b_A := below_then b_A hbn
    have b_B := below_then b_B hbn
    have b_D := below_then b_D hbn
    have b_G := below_then b_G hbn
    have b_K := below_then b_K hbn
    have b_M := below_then b_M hbn
    have b_O := below_then b_O hbn
    clear hbn
    go_wp2_with fail
    go_ret
    exact ⟨rfl, below_then HB0.out b_P⟩
end Go.Proofs.Ytnjnalehfhfefaa
