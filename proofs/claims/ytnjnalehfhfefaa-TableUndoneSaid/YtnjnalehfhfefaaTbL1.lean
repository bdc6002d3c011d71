/- The walk of TableUndone. -/
import Derived.Test.YtnjnalehfhfefaaTbB
import Derived.Test.YtnjnalehfhfefaaTbF2
import Derived.Test.YtnjnalehfhfefaaTbL0
import Derived.Test.YtnjnalehfhfefaaTbLawU
namespace Go.Proofs.Ytnjnalehfhfefaa
open Go.RowKit
set_option linter.unusedVariables false

set_option maxHeartbeats 4000000 in
set_option maxRecDepth 100000 in
theorem tableUndone_walk (w : World) (ca : Option Addr) (cc : Nat) (da : Option Addr) (dc : Nat) (t : Tb.T) (ht : Tbl w w.heap.size ca cc da dc t) (c : Tb.Col) (hc : gOk c) (x : C.Cl) (hx : cOk x) (nm : ByteArray) (hnm : nm.size ≤ maxLen) :
    Calls Try.prog 5 #[tag ca t.cols.length cc da t.data.length dc, gag c, cag x, .string nm] w (BoolPost true w) := by
  obtain ⟨n, rfl⟩ : ∃ n, nm = str n := ⟨nm.data.toList, by simp [str]⟩
  have hn : n.length ≤ maxLen := by rwa [str_size] at hnm
  have a0 : Below w.heap.size w (w.alloc (.cells #[.slice ca t.cols.length cc, .slice da t.data.length dc] 25)) := (Below.refl _ _).alloc (Nat.le_refl _) _
  have a1 := a0.alloc a0.size (.cells #[.string (str c.name), .int .i64 c.kind] 27)
  have a2 := a1.alloc a1.size (.cells #[.int .i64 x.kind, .int .u64 (x.num : Int), .string (str x.txt)] 30)
  have hT := two_new w 25 (.slice ca t.cols.length cc) (.slice da t.data.length dc)
  have hT := (hT.next ((Below.refl _ _).alloc (Nat.le_refl _) (.cells #[.string (str c.name), .int .i64 c.kind] 27))).next ((Below.refl _ _).alloc (Nat.le_refl _) (.cells #[.int .i64 x.kind, .int .u64 (x.num : Int), .string (str x.txt)] 30))
  have hC := (two_new (w.alloc (.cells #[.slice ca t.cols.length cc, .slice da t.data.length dc] 25)) 27 (.string (str c.name)) (.int .i64 c.kind)).next ((Below.refl _ _).alloc (Nat.le_refl _) (.cells #[.int .i64 x.kind, .int .u64 (x.num : Int), .string (str x.txt)] 30))
  have hX := tri_new ((w.alloc (.cells #[.slice ca t.cols.length cc, .slice da t.data.length dc] 25)).alloc (.cells #[.string (str c.name), .int .i64 c.kind] 27)) (.int .i64 x.kind) (.int .u64 (x.num : Int)) (.string (str x.txt))
  rw [show (w.alloc (.cells #[.slice ca t.cols.length cc, .slice da t.data.length dc] 25)).heap.size = w.heap.size + 1 by simp] at hC
  rw [show ((w.alloc (.cells #[.slice ca t.cols.length cc, .slice da t.data.length dc] 25)).alloc (.cells #[.string (str c.name), .int .i64 c.kind] 27)).heap.size = w.heap.size + 2 by simp] at hX
  have HA := Lib.hid (fun W (hb : Below w.heap.size w W) => tAdd_any ca cc da dc t c x W (ht.next hb) hc hx)
  have HR := Lib.hid (fun W (hb : Below w.heap.size w W) => tRename_any ca cc da dc t c.name n W (ht.next hb) hn)
  have HT := Lib.hid (fun W (hb : Below w.heap.size w W) => ht.next hb)
  have hcn := hc.1
  have HCA := Lib.hid (Tb.chg_add t c x)
  have HCR := Lib.hid (Tb.chg_ren t c.name n)
  clear a0 a1 ht hx hc
  have x0 := hT.c0
  have x1 := hT.c1
  have y0 := hC.c0
  have y1 := hC.c1
  have z0 := hX.c0
  have z1 := hX.c1
  have z2 := hX.c2
  have HT3 := Lib.hid hT
  have HC3 := Lib.hid hC
  have HB3 := Lib.hid a2
  clear hT hC hX a2
  unfold gag cag
  go_enter Try.func5, Try.ntmps5
  go_wp2_with fail
  generalize ((w.alloc (.cells #[.slice ca t.cols.length cc, .slice da t.data.length dc] 25)).alloc (.cells #[.string (str c.name), .int .i64 c.kind] 27)).alloc (.cells #[.int .i64 x.kind, .int .u64 (x.num : Int), .string (str x.txt)] 30) = W3 at *
  refine (HA.out _ HB3.out).mono ?_
  generalize Tb.chg t (Tb.addE t c x) (Tb.add t c x) = r at HCA ⊢
  clear HA
  obtain ⟨r1, r2⟩ := r
  rintro e w4 ⟨ra, rc, rda, rdc, rfl, hf4, hb4⟩
  have hg4 := hb4.size
  have hb5 := hb4.alloc hb4.size (.cells #[.slice ra r1.cols.length rc, .slice rda r1.data.length rdc] 25)
  have hu5 := hf4.tbl.next ((Below.refl _ _).alloc (Nat.le_refl _) (.cells #[.slice ra r1.cols.length rc, .slice rda r1.data.length rdc] 25))
  have kA5 := two_new w4 25 (.slice ra r1.cols.length rc) (.slice rda r1.data.length rdc)
  obtain ⟨G, hG⟩ : ∃ G, G = w4.heap.size := ⟨_, rfl⟩
  rw [← hG] at kA5 hg4
  clear hf4 hb4 x0 x1 y0 y1 z0 z1 z2
  simp only [] at *
  go_wp2_with fail
  rw [← hG]
  generalize w4.alloc (.cells #[.slice ra r1.cols.length rc, .slice rda r1.data.length rdc] 25) = W5 at *
  clear hG
  refine (tbegun_any _).mono ?_
  rintro e w6 ⟨rfl, hb6⟩
  have hu6 := hu5.next hb6
  have kA6 := kA5.next hb6
  have hb6 := below_then hb5 hb6
  have x0 := (HT3.out.next hb6).c0
  have x1 := (HT3.out.next hb6).c1
  have y0 := (HC3.out.next hb6).c0
  have y1 := (HC3.out.next hb6).c1
  have v0 := kA6.c0
  have v1 := kA6.c1
  clear hu5 kA5 hb5
  rcases HCA.out with hne | ⟨hok, u, hru, hch⟩
  case' inl =>
    have hne : r2 ≠ 0 := hne
    have g0 : ((r2 : Int) == 0) = false := by rw [beq_eq_false_iff_ne]; omega
    go_wp2_with fail
    obtain ⟨W8, rfl⟩ : ∃ W, W = w6 := ⟨_, rfl⟩
    have kA8 := kA6
    have hb8 := hb6
  case' inr =>
    obtain ⟨rfl, rfl⟩ : r1 = u ∧ r2 = 0 := by simpa using hru
    have HD := Lib.hid (tDrop_any ra rc rda rdc r1 c.name w6 hu6)
    rw [hch] at HD
    go_wp2_with fail
    refine (HD.out).mono ?_
    rintro e w7 ⟨qa, qc, qda, qdc, rfl, hf7, hb7⟩
    have hal := hb7.alloc hb7.size (.cells #[.slice qa t.cols.length qc, .slice qda t.data.length qdc] 25)
    have hu7 := hf7.tbl.next ((Below.refl _ _).alloc (Nat.le_refl _) (.cells #[.slice qa t.cols.length qc, .slice qda t.data.length qdc] 25))
    have kB7 := two_new w7 25 (.slice qa t.cols.length qc) (.slice qda t.data.length qdc)
    have kA7 := kA6.next hal
    have hb7 := below_then hb6 hal
    obtain ⟨Q, hQ⟩ : ∃ Q, Q = w7.heap.size := ⟨_, rfl⟩
    rw [← hQ] at kB7
    clear hf7 HD x0 x1 y0 y1 v0 v1 hal
    go_upto_region 6 with fail
    rw [← hQ]
    generalize w7.alloc (.cells #[.slice qa t.cols.length qc, .slice qda t.data.length qdc] 25) = W7 at *
    clear hQ
    have x0 := (HT3.out.next hb7).c0
    have x1 := (HT3.out.next hb7).c1
    have b0 := kB7.c0
    have b1 := kB7.c1
    go_wp2_with fail
    refine (stab_true hu7 (HT.out _ (below_then HB3.out hb7)) hok.small).mono ?_
    rintro e W8 ⟨rfl, hb8⟩
    have kA8 := kA7.next hb8
    have hb8 := below_then hb7 hb8
    clear x0 x1 b0 b1
    have x0 := (HT3.out.next hb8).c0
    have x1 := (HT3.out.next hb8).c1
    have y0 := (HC3.out.next hb8).c0
    have y1 := (HC3.out.next hb8).c1
    go_wp2_with fail
  all_goals
    refine (HR.out _ (below_then HB3.out hb8)).mono ?_
    generalize Tb.chg t (Tb.renE t c.name n) (Tb.ren t c.name n) = r' at HCR ⊢
    clear HR
    obtain ⟨s1, s2⟩ := r'
    rintro e w9 ⟨pa, pc, pda, pdc, rfl, hf9, hb9⟩
    have hu10 := (ftab_set hf9 kA8.lt (Nat.le_refl _) (.slice pa s1.cols.length pc) (.slice pda s1.data.length pdc)).tbl
    have kA9 := kA8.next hb9
    have hb9 := below_then hb8 hb9
    have f0 := kA9.free 0
    have v0 := kA9.c0
    have k0 := kA9.s0 (.slice pa s1.cols.length pc)
    have f1 := k0.free 1
    have v1 := k0.c1
    have k1 := k0.s1 (.slice pda s1.data.length pdc)
    have hb10 := (hb9.setCell (p := ⟨G, 0, none⟩) hg4 (.slice pa s1.cols.length pc)).setCell (p := ⟨G, 1, none⟩) hg4 (.slice pda s1.data.length pdc)
    have x0 := (HT3.out.next hb10).c0
    have x1 := (HT3.out.next hb10).c1
    have y0 := (HC3.out.next hb10).c0
    have y1 := (HC3.out.next hb10).c1
    have u0 := k1.c0
    have u1 := k1.c1
    rcases HCR.out with ⟨hne, rfl⟩ | ⟨hok, u', hru', hch'⟩
    · have hne : s2 ≠ 0 := hne
      have g0 : ((s2 : Int) != 0) = true := by rw [bne_iff_ne]; omega
      go_wp2_with fail
      refine (stab_true hu10 (Tbl.null _ _) small_nul).mono ?_
      rintro e w11 ⟨rfl, hb11⟩
      have hb11 := below_then (below_then HB3.out hb10) hb11
      go_wp2_with fail
      go_ret
      exact ⟨rfl, hb11⟩
    · obtain ⟨rfl, rfl⟩ : s1 = u' ∧ s2 = 0 := by simpa using hru'
      go_upto_region 11 with fail
      generalize ((w9.setCell ⟨G, 0, none⟩ (.slice pa s1.cols.length pc)).setCell ⟨G, 1, none⟩ (.slice pda s1.data.length pdc)) = W10 at *
      have HD := Lib.hid (tRename_any pa pc pda pdc s1 n c.name W10 hu10 hcn)
      rw [hch'] at HD
      go_wp2_with fail
      refine (HD.out).mono ?_
      rintro e w11 ⟨qa, qc, qda, qdc, rfl, hf11, hb11⟩
      have hal := hb11.alloc hb11.size (.cells #[.slice qa t.cols.length qc, .slice qda t.data.length qdc] 25)
      have hu12 := hf11.tbl.next ((Below.refl _ _).alloc (Nat.le_refl _) (.cells #[.slice qa t.cols.length qc, .slice qda t.data.length qdc] 25))
      have kD12 := two_new w11 25 (.slice qa t.cols.length qc) (.slice qda t.data.length qdc)
      have hb12 := below_then hb10 hal
      obtain ⟨Q, hQ⟩ : ∃ Q, Q = w11.heap.size := ⟨_, rfl⟩
      rw [← hQ] at kD12
      clear HD hal x0 x1 y0 y1 u0 u1 hf11 hb11 f0 f1 v0 v1 k0 k1
      go_upto_region 12 with fail
      rw [← hQ]
      generalize w11.alloc (.cells #[.slice qa t.cols.length qc, .slice qda t.data.length qdc] 25) = W12 at *
      clear hQ
      have x0 := (HT3.out.next hb12).c0
      have x1 := (HT3.out.next hb12).c1
      have b0 := kD12.c0
      have b1 := kD12.c1
      go_wp2_with fail
      refine (stab_true hu12 (HT.out _ (below_then HB3.out hb12)) hok.small).mono ?_
      rintro e w13 ⟨rfl, hb13⟩
      have hb13 := below_then (below_then HB3.out hb12) hb13
      go_wp2_with fail
      go_ret
      exact ⟨rfl, hb13⟩
end Go.Proofs.Ytnjnalehfhfefaa
