/- The walk of tableBegun. -/
import Derived.Deep.CutRange
import Derived.Deep.DeepCutAuto
import Derived.Test.YtnjnalehfhfefaaTf
import Derived.Test.YtnjnalehfhfefaaTs
namespace Go.Proofs.Ytnjnalehfhfefaa
open Go.RowKit
set_option linter.unusedVariables false

def nNote : List UInt8 := [110, 111, 116, 101]
def nKey : List UInt8 := [107, 101, 121]
def moreC : List O.Cd := [⟨3, 0, ⟨1, 1, []⟩⟩]
def goneC : List O.Cd := [⟨4, 1, C.null⟩]
def bT1 : Tb.T := Tb.add birdsT ⟨nNote, 1⟩ ⟨1, 7, []⟩
def bT2 : Tb.T := Tb.red bT1 nName moreC
def bT3 : Tb.T := Tb.keep bT2 goneC
def bT4 : Tb.T := Tb.ren bT3 nId nKey
def bT5 : Tb.T := Tb.proj bT4 [nNote, nKey]
def bT6 : Tb.T := Tb.sli birdsT 1 1
def bT7 : Tb.T := Tb.app bT6 birdsT
theorem bch1 : Tb.chg birdsT (Tb.addE birdsT ⟨nNote, 1⟩ ⟨1, 7, []⟩) (Tb.add birdsT ⟨nNote, 1⟩ ⟨1, 7, []⟩) = (bT1, 0) := by decide +kernel
theorem bch2 : Tb.chg bT1 (Tb.redE bT1 nName moreC) (Tb.red bT1 nName moreC) = (bT2, 0) := by decide +kernel
theorem bch3 : Tb.chg bT2 (Tb.keepE bT2 goneC) (Tb.keep bT2 goneC) = (bT3, 0) := by decide +kernel
theorem bch4 : Tb.chg bT3 (Tb.renE bT3 nId nKey) (Tb.ren bT3 nId nKey) = (bT4, 0) := by decide +kernel
theorem bch5 : Tb.chg bT4 (Tb.projE bT4 [] [nNote, nKey]) (Tb.proj bT4 [nNote, nKey]) = (bT5, 0) := by decide +kernel
theorem bch6 : Tb.chg birdsT (Tb.sliE 1 1) (Tb.sli birdsT 1 1) = (bT6, 0) := by decide +kernel
theorem bch7 : Tb.chg bT6 (Tb.appE bT6 birdsT) (Tb.app bT6 birdsT) = (bT7, 0) := by decide +kernel
theorem brow : Tb.rowR bT5 1 = ([⟨1, 7, []⟩, ⟨1, 9, []⟩], 0) := by decide +kernel
theorem brows : Tb.rowsR bT7 = (4, 0) := by decide +kernel
theorem bbad : Tb.check ⟨birdsT.cols, []⟩ = 1 := by decide +kernel
theorem bAdd (w : World) (ca da : Option Addr) (h : Tbl w w.heap.size ca 2 da 2 birdsT) : Calls Try.prog 12 #[tag ca 2 2 da 2 2, .agg #[.string ⟨#[110, 111, 116, 101]⟩, .int .i64 1], .agg #[.int .i64 1, .int .u64 7, .string ⟨#[]⟩]] w (TabPost (bT1, 0) w) := by
  have := tAdd_any ca 2 da 2 birdsT ⟨nNote, 1⟩ ⟨1, 7, []⟩ w h (by unfold gOk; simp [maxLen, nNote]) (by unfold cOk; simp [maxLen])
  rw [bch1] at this
  exact this
theorem bRed (w : World) (ca : Option Addr) (cc : Nat) (da : Option Addr) (dc : Nat) (h : Tbl w w.heap.size ca cc da dc bT1) (ap : Option Addr) (hp : Cds w w.heap.size ap moreC) : Calls Try.prog 25 #[tag ca bT1.cols.length cc da bT1.data.length dc, .string ⟨#[110, 97, 109, 101]⟩, .slice ap 1 1] w (TabPost (bT2, 0) w) := by
  have := tRedact_any ca cc da dc bT1 nName ap 1 moreC w h (by simp [maxLen, moreC]) (by intro x hx; simp [moreC] at hx; subst hx; unfold dOk cOk; simp [maxLen]) hp
  rw [bch2] at this
  exact this
theorem bKeep (w : World) (ca : Option Addr) (cc : Nat) (da : Option Addr) (dc : Nat) (h : Tbl w w.heap.size ca cc da dc bT2) (ap : Option Addr) (hp : Cds w w.heap.size ap goneC) : Calls Try.prog 26 #[tag ca bT2.cols.length cc da bT2.data.length dc, .slice ap 1 1] w (TabPost (bT3, 0) w) := by
  have := tKeep_any ca cc da dc bT2 ap 1 goneC w h (by simp [maxLen, goneC]) (by intro x hx; simp [goneC] at hx; subst hx; unfold dOk cOk; simp [maxLen, C.null]) hp
  rw [bch3] at this
  exact this
theorem bRen (w : World) (ca : Option Addr) (cc : Nat) (da : Option Addr) (dc : Nat) (h : Tbl w w.heap.size ca cc da dc bT3) : Calls Try.prog 14 #[tag ca bT3.cols.length cc da bT3.data.length dc, .string ⟨#[105, 100]⟩, .string ⟨#[107, 101, 121]⟩] w (TabPost (bT4, 0) w) := by
  have := tRename_any ca cc da dc bT3 nId nKey w h (by simp [maxLen, nKey])
  rw [bch4] at this
  exact this
theorem bProj (w : World) (ca : Option Addr) (cc : Nat) (da : Option Addr) (dc : Nat) (h : Tbl w w.heap.size ca cc da dc bT4) (an : Option Addr) (hp : Txts w w.heap.size an [nNote, nKey]) : Calls Try.prog 27 #[tag ca bT4.cols.length cc da bT4.data.length dc, .slice an 2 2] w (TabPost (bT5, 0) w) := by
  have := tProject_any ca cc da dc bT4 an 2 [nNote, nKey] w h (by simp [maxLen]) hp
  rw [bch5] at this
  exact this
theorem bSli (w : World) (ca da : Option Addr) (h : Tbl w w.heap.size ca 2 da 2 birdsT) : Calls Try.prog 28 #[tag ca 2 2 da 2 2, .int .i64 1, .int .i64 1] w (TabPost (bT6, 0) w) := by
  have := tSlice_any ca 2 da 2 birdsT 1 1 w h (by omega) (by omega)
  rw [bch6] at this
  exact this
theorem bApp (w : World) (ca : Option Addr) (cc : Nat) (da : Option Addr) (dc : Nat) (h : Tbl w w.heap.size ca cc da dc bT6) (oa oda : Option Addr) (ho : Tbl w w.heap.size oa 2 oda 2 birdsT) : Calls Try.prog 29 #[tag ca bT6.cols.length cc da bT6.data.length dc, tag oa 2 2 oda 2 2] w (TabPost (bT7, 0) w) := by
  have := tAppend_any ca cc da dc bT6 oa 2 oda 2 birdsT w h ho
  rw [bch7] at this
  exact this
theorem cds_one' {w : World} {b : Nat} {c : O.Cd} (h : w.heap[b]? = some (.cells #[.int .i64 c.op, .int .i64 c.col, .int .i64 c.c.kind, .int .u64 (c.c.num : Int), .string (str c.c.txt)] 59 (0, 0))) : Cds w w.heap.size (some ⟨b, 0, none⟩) [c] := by
  intro _
  refine ⟨b, 0, rfl, lt_of_block h, fun i hi => ?_⟩
  obtain rfl : i = 0 := by simp at hi; omega
  have hc : ∀ j, w.cell? ⟨b, j, none⟩ = (#[.int .i64 c.op, .int .i64 c.col, .int .i64 c.c.kind, .int .u64 (c.c.num : Int), .string (str c.c.txt)] : Array Value)[j]? := fun j => by simp [World.cell?, h]
  exact ⟨hc 0, hc 1, hc 2, hc 3, hc 4⟩
theorem txts_two {w : World} {b : Nat} (h : w.heap[b]? = some (.cells #[.string ⟨#[110, 111, 116, 101]⟩, .string ⟨#[107, 101, 121]⟩] 9 (0, 0))) : Txts w w.heap.size (some ⟨b, 0, none⟩) [nNote, nKey] := by
  intro _
  refine ⟨b, 0, rfl, lt_of_block h, fun i hi => ?_⟩
  have hc : ∀ j, w.cell? ⟨b, j, none⟩ = (#[.string ⟨#[110, 111, 116, 101]⟩, .string ⟨#[107, 101, 121]⟩] : Array Value)[j]? := fun j => by simp [World.cell?, h]
  have : i = 0 ∨ i = 1 := by simp at hi; omega
  rcases this with rfl | rfl
  · exact hc 0
  · exact hc 1
theorem bRow (w : World) (ca : Option Addr) (cc : Nat) (da : Option Addr) (dc : Nat) (h : Tbl w w.heap.size ca cc da dc bT5) : Calls Try.prog 11 #[tag ca bT5.cols.length cc da bT5.data.length dc, .int .i64 1] w (CellsPost ([⟨1, 7, []⟩, ⟨1, 9, []⟩], 0) w) := by
  have := tRow_any ca cc da dc bT5 1 w h
  rw [brow] at this
  exact this
theorem bRows (w : World) (ca : Option Addr) (cc : Nat) (da : Option Addr) (dc : Nat) (h : Tbl w w.heap.size ca cc da dc bT7) : Calls Try.prog 10 #[tag ca bT7.cols.length cc da bT7.data.length dc] w (IntEPost (4, 0) w) := by
  have := tRows_any ca cc da dc bT7 w h
  rw [brows] at this
  exact this
theorem bBad (w : World) (ca : Option Addr) (da : Option Addr) (h : Tbl w w.heap.size ca 2 da 2 birdsT) : Calls Try.prog 22 #[.agg #[.slice ca 2 2, .slice none 0 0]] w (CErrPost 1 w) := by
  have := tcheck_any ca 2 none 0 ⟨birdsT.cols, []⟩ w ⟨h.gls, Dat.nil _ _ _, h.gOk, h.ccap, ⟨Nat.le_refl _, by unfold maxLen; omega, fun _ => rfl⟩⟩
  rw [bbad] at this
  exact this
theorem cls_set2 {w : World} {B g : Nat} {a : Option Addr} {l : List C.Cl} (h : Cls w B a l) (hg : B ≤ g) (hB : B ≤ w.heap.size) (u v : Value) : Cls ((w.setCell ⟨g, 0, none⟩ u).setCell ⟨g, 1, none⟩ v) ((w.setCell ⟨g, 0, none⟩ u).setCell ⟨g, 1, none⟩ v).heap.size a l :=
  (h.below (((Below.refl B w).setCell (p := ⟨g, 0, none⟩) hg u).setCell (p := ⟨g, 1, none⟩) hg v)).mono (by simp; exact hB)
theorem bsc (w : World) (a : Option Addr) (c : Nat) (a2 : Option Addr) (B : Nat) (h : Cls w B a [⟨1, 7, []⟩, ⟨1, 9, []⟩]) (h2 : Cls w B a2 [⟨1, 7, []⟩, ⟨1, 9, []⟩]) : Calls Try.prog 23 #[.slice a 2 c, .slice a2 2 2] w (BoolPost true w) := by
  have := csame_any a a2 c 2 [⟨1, 7, []⟩, ⟨1, 9, []⟩] [⟨1, 7, []⟩, ⟨1, 9, []⟩] w B h h2 (by simp)
  simpa using this

set_option maxHeartbeats 4000000 in
set_option maxRecDepth 100000 in
theorem tbegun_any (w : World) : Calls Try.prog 21 #[] w (BoolPost true w) := by
  go_enter Try.func21, Try.ntmps21
  go_wp2_with fail
  refine (tcnum_any _ _).mono ?_
  rintro e w1 ⟨rfl, hb1⟩
  have kp := cds_one' (c := ⟨3, 0, ⟨1, 1, []⟩⟩) (heap_alloc_new w1 (.cells #[.int .i64 3, .int .i64 0, .int .i64 1, .int .u64 1, .string ⟨#[]⟩] 59))
  have hb2 := hb1.alloc hb1.size (.cells #[.int .i64 3, .int .i64 0, .int .i64 1, .int .u64 1, .string ⟨#[]⟩] 59)
  obtain ⟨pb, hpb⟩ : ∃ pb, pb = w1.heap.size := ⟨_, rfl⟩
  go_wp2_with fail
  rw [← hpb] at kp ⊢
  generalize w1.alloc (.cells #[.int .i64 3, .int .i64 0, .int .i64 1, .int .u64 1, .string ⟨#[]⟩] 59) = W2 at *
  clear hpb hb1
  refine (tconds_any _ _).mono ?_
  rintro e w3 ⟨rfl, hb3⟩
  have kp := kp.next at5_firm hb3
  have hb3 := below_then hb2 hb3
  go_wp2_with fail
  refine (birds_any _).mono ?_
  rintro e w4 ⟨ca, da, rfl, ht4, hb4⟩
  have kp := kp.next at5_firm hb4
  have hb4 := below_then hb3 hb4
  go_wp2_with fail
  refine (column_any _ _ _).mono ?_
  rintro e w5 ⟨rfl, hb5⟩
  have kp := kp.next at5_firm hb5
  have ht5 := ht4.next hb5
  have hb5 := below_then hb4 hb5
  go_wp2_with fail
  refine (tcnum_any _ _).mono ?_
  rintro e w6 ⟨rfl, hb6⟩
  have kp := kp.next at5_firm hb6
  have ht6 := ht5.next hb6
  have hb6 := below_then hb5 hb6
  go_wp2_with fail
  refine (bAdd _ _ _ ht6).mono ?_
  rintro e w7 ⟨ra, rc, rda, rdc, rfl, hf7, hb7⟩
  have kp := kp.next at5_firm hb7
  have hb7 := below_then hb6 hb7
  have ht7 := hf7.tbl
  have hal7 : Below w7.heap.size w7 (w7.alloc (.cells #[.slice ra bT1.cols.length rc, .slice rda bT1.data.length rdc] 25)) := (Below.refl _ _).alloc (Nat.le_refl _) _
  have tw8 := two_new w7 25 (.slice ra bT1.cols.length rc) (.slice rda bT1.data.length rdc)
  have x0 := tw8.c0
  have x1 := tw8.c1
  have kp := Lib.hid (kp.next at5_firm hal7)
  have ht8 := Lib.hid (ht7.next hal7)
  have hb8 := below_then hb7 hal7
  clear hf7 ht7 ht6 ht5 ht4 hb2 hb3 hb4 hb5 hb6 hb7 hal7
  simp only [] at *
  go_wp2_with fail
  generalize w7.alloc (.cells #[.slice ra bT1.cols.length rc, .slice rda bT1.data.length rdc] 25) = W8 at *
  refine (bRed _ _ _ _ _ ht8.out _ kp.out).mono ?_
  rintro e w9 ⟨rb, rbc, rdb, rdbc, rfl, hf9, hb9⟩
  have hb9 := below_then hb8 hb9
  have ht9 := hf9.tbl
  have hal9 : Below w9.heap.size w9 (w9.alloc (.cells #[.slice rb bT2.cols.length rbc, .slice rdb bT2.data.length rdbc] 25)) := (Below.refl _ _).alloc (Nat.le_refl _) _
  have tw9 := two_new w9 25 (.slice rb bT2.cols.length rbc) (.slice rdb bT2.data.length rdbc)
  have ht10 := Lib.hid (ht9.next hal9)
  have hb10 := below_then hb9 hal9
  clear hf9 ht9 hb8 hb9 x0 x1 tw8 ht8 kp
  obtain ⟨G9, hG9⟩ : ∃ G9, G9 = w9.heap.size := ⟨_, rfl⟩
  rw [← hG9] at tw9
  go_upto_region 4 with fail
  rw [← hG9]
  generalize w9.alloc (.cells #[.slice rb bT2.cols.length rbc, .slice rdb bT2.data.length rdbc] 25) = W9 at *
  clear hG9 hal9
  go_cut [6, 7] from 37 to 44 (fun p e wx => ∃ g ra rc rda rdc, p = .pointer (some ⟨g, 0, none⟩) ∧ e = .int .i64 0 ∧ Two wx g 25 (.slice ra bT3.cols.length rc) (.slice rda bT3.data.length rdc) ∧ Tbl wx wx.heap.size ra rc rda rdc bT3 ∧ Below w.heap.size w wx)
  case first =>
    -- GEN R4
    have x0 := tw9.c0
    have x1 := tw9.c1
    have TWX := Lib.hid tw9
    have P0 : Below W9.heap.size W9 W9 := Below.refl _ _
    have P1 : Below W9.heap.size W9 (W9.alloc (.cells #[.int .i64 4, .int .i64 1, .int .i64 0, .int .u64 0, .string ⟨#[]⟩] 59)) := P0.alloc (Nat.le_refl _) _
    have P4 : Below W9.heap.size W9 (W9.alloc (.cells #[.slice none 0 0, .slice none 0 0] 25)) := P0.alloc (Nat.le_refl _) _
    have P2 : Below W9.heap.size W9 ((W9.alloc (.cells #[.slice none 0 0, .slice none 0 0] 25)).alloc (.cells #[.int .i64 4, .int .i64 1, .int .i64 0, .int .u64 0, .string ⟨#[]⟩] 59)) := P4.alloc P4.size _
    have P3 : Below W9.heap.size W9 ((W9.alloc (.cells #[.int .i64 4, .int .i64 1, .int .i64 0, .int .u64 0, .string ⟨#[]⟩] 59)).alloc (.cells #[.slice none 0 0, .slice none 0 0] 25)) := P1.alloc P1.size _
    have y0a := (tw9.next P1).c0
    have y1a := (tw9.next P1).c1
    have y0b := (tw9.next P2).c0
    have y1b := (tw9.next P2).c1
    have y0c := (tw9.next P3).c0
    have y1c := (tw9.next P3).c1
    have y0d := (tw9.next P4).c0
    have y1d := (tw9.next P4).c1
    have KL1 := Lib.hid (cds_one' (c := ⟨4, 1, C.null⟩) (heap_alloc_new W9 (.cells #[.int .i64 4, .int .i64 1, .int .i64 0, .int .u64 0, .string ⟨#[]⟩] 59)))
    have KL2 := Lib.hid (cds_one' (c := ⟨4, 1, C.null⟩) (heap_alloc_new (W9.alloc (.cells #[.slice none 0 0, .slice none 0 0] 25)) (.cells #[.int .i64 4, .int .i64 1, .int .i64 0, .int .u64 0, .string ⟨#[]⟩] 59)))
    have KL3 := Lib.hid (KL1.out.next at5_firm ((Below.refl _ _).alloc (Nat.le_refl _) (.cells #[.slice none 0 0, .slice none 0 0] 25)))
    have TZ2 := Lib.hid ((two_new W9 25 (.slice none 0 0) (.slice none 0 0)).next ((Below.refl _ _).alloc (Nat.le_refl _) (.cells #[.int .i64 4, .int .i64 1, .int .i64 0, .int .u64 0, .string ⟨#[]⟩] 59)))
    have TZ3 := Lib.hid (two_new (W9.alloc (.cells #[.int .i64 4, .int .i64 1, .int .i64 0, .int .u64 0, .string ⟨#[]⟩] 59)) 25 (.slice none 0 0) (.slice none 0 0))
    rw [show (W9.alloc (.cells #[.int .i64 4, .int .i64 1, .int .i64 0, .int .u64 0, .string ⟨#[]⟩] 59)).heap.size = W9.heap.size + 1 by simp] at TZ3
    rw [show (W9.alloc (.cells #[.slice none 0 0, .slice none 0 0] 25)).heap.size = W9.heap.size + 1 by simp] at KL2
    go_region_law (first
      | (go_simp; go_at_call 56; refine (tconds_any _ _).mono ?_; rintro e w10 ⟨rfl, hb11⟩; (first | (have hbx : Below (W9.alloc (.cells #[.int .i64 4, .int .i64 1, .int .i64 0, .int .u64 0, .string ⟨#[]⟩] 59)).heap.size (W9.alloc (.cells #[.int .i64 4, .int .i64 1, .int .i64 0, .int .u64 0, .string ⟨#[]⟩] 59)) w10 := (by first | exact hb11 | exact below_then (Below.drew (Below.refl _ _)) hb11); have h10 := below_then P1 hbx; have kg := KL1.out.next at5_firm hbx) | (have hbx : Below ((W9.alloc (.cells #[.slice none 0 0, .slice none 0 0] 25)).alloc (.cells #[.int .i64 4, .int .i64 1, .int .i64 0, .int .u64 0, .string ⟨#[]⟩] 59)).heap.size ((W9.alloc (.cells #[.slice none 0 0, .slice none 0 0] 25)).alloc (.cells #[.int .i64 4, .int .i64 1, .int .i64 0, .int .u64 0, .string ⟨#[]⟩] 59)) w10 := (by first | exact hb11 | exact below_then (Below.drew (Below.refl _ _)) hb11); have h10 := below_then P2 hbx; have kg := KL2.out.next at5_firm hbx; have tz10 := TZ2.out.next hbx) | (have hbx : Below ((W9.alloc (.cells #[.int .i64 4, .int .i64 1, .int .i64 0, .int .u64 0, .string ⟨#[]⟩] 59)).alloc (.cells #[.slice none 0 0, .slice none 0 0] 25)).heap.size ((W9.alloc (.cells #[.int .i64 4, .int .i64 1, .int .i64 0, .int .u64 0, .string ⟨#[]⟩] 59)).alloc (.cells #[.slice none 0 0, .slice none 0 0] 25)) w10 := (by first | exact hb11 | exact below_then (Below.drew (Below.refl _ _)) hb11); have h10 := below_then P3 hbx; have kg := KL3.out.next at5_firm hbx; have tz10 := TZ3.out.next hbx)); have v0 := (TWX.out.next h10).c0; have v1 := (TWX.out.next h10).c1; have v2 := ((TWX.out.next h10).next ((Below.refl _ _).alloc (Nat.le_refl _) (.cells #[.slice none 0 0, .slice none 0 0] 25))).c0; have v3 := ((TWX.out.next h10).next ((Below.refl _ _).alloc (Nat.le_refl _) (.cells #[.slice none 0 0, .slice none 0 0] 25))).c1)
      | (go_simp; go_at_call 26; refine (bKeep w10 _ _ _ _ (ht10.out.next h10) _ kg).mono ?_; rintro e w11 ⟨ra3, rc3, rda3, rdc3, rfl, hf11, hb12⟩; have h11 := below_then h10 hb12; have tz11 := tz10.next hb12; have hgz := tz10.lt; have z0 := tz11.c0; have f0 := tz11.free 0; have ts := tz11.s0 (.slice ra3 bT3.cols.length rc3); have z1 := ts.c1; have f1 := ts.free 1)
      | (go_simp; go_at_call 26; refine (bKeep w10 _ _ _ _ (ht10.out.next h10) _ kg).mono ?_; rintro e w11 ⟨ra3, rc3, rda3, rdc3, rfl, hf11, hb12⟩; have h11 := below_then h10 hb12)
      | (go_simp; go_at_call 26; refine (bKeep (w10.alloc (.cells #[.slice none 0 0, .slice none 0 0] 25)) _ _ _ _ (ht10.out.next (h10.alloc h10.size (.cells #[.slice none 0 0, .slice none 0 0] 25))) _ (kg.next at5_firm ((Below.refl _ _).alloc (Nat.le_refl _) (.cells #[.slice none 0 0, .slice none 0 0] 25)))).mono ?_; rintro e w11 ⟨ra3, rc3, rda3, rdc3, rfl, hf11, hb12⟩; have h11 := below_then (h10.alloc h10.size (.cells #[.slice none 0 0, .slice none 0 0] 25)) hb12; have tz11 := (two_new w10 25 (.slice none 0 0) (.slice none 0 0)).next hb12; have hgz := (two_new w10 25 (.slice none 0 0) (.slice none 0 0)).lt; have hgq := h10.size; have z0 := tz11.c0; have f0 := tz11.free 0; have ts := tz11.s0 (.slice ra3 bT3.cols.length rc3); have z1 := ts.c1; have f1 := ts.free 1))
    all_goals
      go_wp2_with fail
      go_meet
      first
        | exact ⟨w11.heap.size, _, _, _, _, rfl, rfl, two_new _ _ _ _, hf11.tbl.next ((Below.refl _ _).alloc (Nat.le_refl _) _), (below_then hb10 h11).alloc (below_then hb10 h11).size _⟩
        | exact ⟨_, _, _, _, _, rfl, rfl, (tz11.s0 _).s1 _, (ftab_set hf11 hgz (Nat.le_refl _) _ _).tbl, ((below_then hb10 h11).setCell (by have hbq := hb10.size; (try dsimp only); omega) _).setCell (by have hbq := hb10.size; (try dsimp only); omega) _⟩
    -- END R4
  case rest =>
    obtain ⟨g12, ra3, rc3, rda3, rdc3, rfl, rfl, tw12, ht12, hb12⟩ := hcut
    have x0 := tw12.c0
    have x1 := tw12.c1
    clear ht10 tw9 hb10
    go_wp2_with fail
    refine (bRen _ _ _ _ _ ht12).mono ?_
    rintro e w13 ⟨rb, rbc, rdb, rdbc, rfl, hf13, hb13⟩
    have hb13 := below_then hb12 hb13
    have ht13 := hf13.tbl
    have hal13 : Below w13.heap.size w13 (w13.alloc (.cells #[.slice rb bT4.cols.length rbc, .slice rdb bT4.data.length rdbc] 25)) := (Below.refl _ _).alloc (Nat.le_refl _) _
    have tw13 := two_new w13 25 (.slice rb bT4.cols.length rbc) (.slice rdb bT4.data.length rdbc)
    have ht13 := Lib.hid (ht13.next hal13)
    have hb13 := below_then hb13 hal13
    clear hf13 x0 x1 tw12 ht12 hb12
    obtain ⟨G13, hG13⟩ : ∃ G13, G13 = w13.heap.size := ⟨_, rfl⟩
    rw [← hG13] at tw13
    go_upto_region 6 with fail
    rw [← hG13]
    generalize w13.alloc (.cells #[.slice rb bT4.cols.length rbc, .slice rdb bT4.data.length rdbc] 25) = W13 at *
    clear hG13 hal13
    go_cut [10, 11] from 50 to 56 (fun p e wx => ∃ g ra rc rda rdc, p = .pointer (some ⟨g, 0, none⟩) ∧ e = .int .i64 0 ∧ Two wx g 25 (.slice ra bT5.cols.length rc) (.slice rda bT5.data.length rdc) ∧ Tbl wx wx.heap.size ra rc rda rdc bT5 ∧ Below w.heap.size w wx)
    case first =>
    -- GEN R6
      have x0 := tw13.c0
      have x1 := tw13.c1
      have TWX := Lib.hid tw13
      have P0 : Below W13.heap.size W13 W13 := Below.refl _ _
      have P1 : Below W13.heap.size W13 (W13.alloc (.cells #[.string ⟨#[110, 111, 116, 101]⟩, .string ⟨#[107, 101, 121]⟩] 9)) := P0.alloc (Nat.le_refl _) _
      have P4 : Below W13.heap.size W13 (W13.alloc (.cells #[.slice none 0 0, .slice none 0 0] 25)) := P0.alloc (Nat.le_refl _) _
      have P2 : Below W13.heap.size W13 ((W13.alloc (.cells #[.slice none 0 0, .slice none 0 0] 25)).alloc (.cells #[.string ⟨#[110, 111, 116, 101]⟩, .string ⟨#[107, 101, 121]⟩] 9)) := P4.alloc P4.size _
      have P3 : Below W13.heap.size W13 ((W13.alloc (.cells #[.string ⟨#[110, 111, 116, 101]⟩, .string ⟨#[107, 101, 121]⟩] 9)).alloc (.cells #[.slice none 0 0, .slice none 0 0] 25)) := P1.alloc P1.size _
      have y0a := (tw13.next P1).c0
      have y1a := (tw13.next P1).c1
      have y0b := (tw13.next P2).c0
      have y1b := (tw13.next P2).c1
      have y0c := (tw13.next P3).c0
      have y1c := (tw13.next P3).c1
      have y0d := (tw13.next P4).c0
      have y1d := (tw13.next P4).c1
      have KL1 := Lib.hid (txts_two (heap_alloc_new W13 (.cells #[.string ⟨#[110, 111, 116, 101]⟩, .string ⟨#[107, 101, 121]⟩] 9)))
      have KL2 := Lib.hid (txts_two (heap_alloc_new (W13.alloc (.cells #[.slice none 0 0, .slice none 0 0] 25)) (.cells #[.string ⟨#[110, 111, 116, 101]⟩, .string ⟨#[107, 101, 121]⟩] 9)))
      have KL3 := Lib.hid (KL1.out.next ((Below.refl _ _).alloc (Nat.le_refl _) (.cells #[.slice none 0 0, .slice none 0 0] 25)))
      have TZ2 := Lib.hid ((two_new W13 25 (.slice none 0 0) (.slice none 0 0)).next ((Below.refl _ _).alloc (Nat.le_refl _) (.cells #[.string ⟨#[110, 111, 116, 101]⟩, .string ⟨#[107, 101, 121]⟩] 9)))
      have TZ3 := Lib.hid (two_new (W13.alloc (.cells #[.string ⟨#[110, 111, 116, 101]⟩, .string ⟨#[107, 101, 121]⟩] 9)) 25 (.slice none 0 0) (.slice none 0 0))
      rw [show (W13.alloc (.cells #[.string ⟨#[110, 111, 116, 101]⟩, .string ⟨#[107, 101, 121]⟩] 9)).heap.size = W13.heap.size + 1 by simp] at TZ3
      rw [show (W13.alloc (.cells #[.slice none 0 0, .slice none 0 0] 25)).heap.size = W13.heap.size + 1 by simp] at KL2
      go_region_law (first
        | (go_simp; go_at_call 60; refine (ttexts_any _ _).mono ?_; rintro e w10 ⟨rfl, hb11⟩; (first | (have hbx : Below (W13.alloc (.cells #[.string ⟨#[110, 111, 116, 101]⟩, .string ⟨#[107, 101, 121]⟩] 9)).heap.size (W13.alloc (.cells #[.string ⟨#[110, 111, 116, 101]⟩, .string ⟨#[107, 101, 121]⟩] 9)) w10 := (by first | exact hb11 | exact below_then (Below.drew (Below.refl _ _)) hb11); have h10 := below_then P1 hbx; have kg := KL1.out.next hbx) | (have hbx : Below ((W13.alloc (.cells #[.slice none 0 0, .slice none 0 0] 25)).alloc (.cells #[.string ⟨#[110, 111, 116, 101]⟩, .string ⟨#[107, 101, 121]⟩] 9)).heap.size ((W13.alloc (.cells #[.slice none 0 0, .slice none 0 0] 25)).alloc (.cells #[.string ⟨#[110, 111, 116, 101]⟩, .string ⟨#[107, 101, 121]⟩] 9)) w10 := (by first | exact hb11 | exact below_then (Below.drew (Below.refl _ _)) hb11); have h10 := below_then P2 hbx; have kg := KL2.out.next hbx; have tz10 := TZ2.out.next hbx) | (have hbx : Below ((W13.alloc (.cells #[.string ⟨#[110, 111, 116, 101]⟩, .string ⟨#[107, 101, 121]⟩] 9)).alloc (.cells #[.slice none 0 0, .slice none 0 0] 25)).heap.size ((W13.alloc (.cells #[.string ⟨#[110, 111, 116, 101]⟩, .string ⟨#[107, 101, 121]⟩] 9)).alloc (.cells #[.slice none 0 0, .slice none 0 0] 25)) w10 := (by first | exact hb11 | exact below_then (Below.drew (Below.refl _ _)) hb11); have h10 := below_then P3 hbx; have kg := KL3.out.next hbx; have tz10 := TZ3.out.next hbx)); have v0 := (TWX.out.next h10).c0; have v1 := (TWX.out.next h10).c1; have v2 := ((TWX.out.next h10).next ((Below.refl _ _).alloc (Nat.le_refl _) (.cells #[.slice none 0 0, .slice none 0 0] 25))).c0; have v3 := ((TWX.out.next h10).next ((Below.refl _ _).alloc (Nat.le_refl _) (.cells #[.slice none 0 0, .slice none 0 0] 25))).c1)
        | (go_simp; go_at_call 27; refine (bProj w10 _ _ _ _ (ht13.out.next h10) _ kg).mono ?_; rintro e w11 ⟨ra3, rc3, rda3, rdc3, rfl, hf11, hb12⟩; have h11 := below_then h10 hb12; have tz11 := tz10.next hb12; have hgz := tz10.lt; have z0 := tz11.c0; have f0 := tz11.free 0; have ts := tz11.s0 (.slice ra3 bT5.cols.length rc3); have z1 := ts.c1; have f1 := ts.free 1)
        | (go_simp; go_at_call 27; refine (bProj w10 _ _ _ _ (ht13.out.next h10) _ kg).mono ?_; rintro e w11 ⟨ra3, rc3, rda3, rdc3, rfl, hf11, hb12⟩; have h11 := below_then h10 hb12)
        | (go_simp; go_at_call 27; refine (bProj (w10.alloc (.cells #[.slice none 0 0, .slice none 0 0] 25)) _ _ _ _ (ht13.out.next (h10.alloc h10.size (.cells #[.slice none 0 0, .slice none 0 0] 25))) _ (kg.next ((Below.refl _ _).alloc (Nat.le_refl _) (.cells #[.slice none 0 0, .slice none 0 0] 25)))).mono ?_; rintro e w11 ⟨ra3, rc3, rda3, rdc3, rfl, hf11, hb12⟩; have h11 := below_then (h10.alloc h10.size (.cells #[.slice none 0 0, .slice none 0 0] 25)) hb12; have tz11 := (two_new w10 25 (.slice none 0 0) (.slice none 0 0)).next hb12; have hgz := (two_new w10 25 (.slice none 0 0) (.slice none 0 0)).lt; have hgq := h10.size; have z0 := tz11.c0; have f0 := tz11.free 0; have ts := tz11.s0 (.slice ra3 bT5.cols.length rc3); have z1 := ts.c1; have f1 := ts.free 1))
      all_goals
        go_wp2_with fail
        go_meet
        first
          | exact ⟨w11.heap.size, _, _, _, _, rfl, rfl, two_new _ _ _ _, hf11.tbl.next ((Below.refl _ _).alloc (Nat.le_refl _) _), (below_then hb13 h11).alloc (below_then hb13 h11).size _⟩
          | exact ⟨_, _, _, _, _, rfl, rfl, (tz11.s0 _).s1 _, (ftab_set hf11 hgz (Nat.le_refl _) _ _).tbl, ((below_then hb13 h11).setCell (by have hbq := hb13.size; (try dsimp only); omega) _).setCell (by have hbq := hb13.size; (try dsimp only); omega) _⟩
    -- END R6
    case rest =>
      obtain ⟨g14, ra5, rc5, rda5, rdc5, rfl, rfl, tw14, ht14, hb14⟩ := hcut
      have x0 := tw14.c0
      have x1 := tw14.c1
      clear ht13 tw13 hb13
      go_wp2_with fail
      refine (bRow _ _ _ _ _ ht14).mono ?_
      rintro e w15 ⟨ar, cr, rfl, hx15, hb15⟩
      have hb15 := below_then hb14 hb15
      clear x0 x1 tw14 ht14 hb14
      go_wp2_with fail
      refine (birds_any _).mono ?_
      rintro e w16 ⟨cb, db, rfl, kb, hb16⟩
      have hx16 := hx15.next hb16
      have hb16 := below_then hb15 hb16
      clear hx15 hb15
      go_wp2_with fail
      refine (bSli _ _ _ kb).mono ?_
      rintro e w17 ⟨rb, rbc, rdb, rdbc, rfl, hf17, hb17⟩
      have hx17 := hx16.next hb17
      have hb17 := below_then hb16 hb17
      have ht17 := hf17.tbl
      have hal17 : Below w17.heap.size w17 (w17.alloc (.cells #[.slice rb bT6.cols.length rbc, .slice rdb bT6.data.length rdbc] 25)) := (Below.refl _ _).alloc (Nat.le_refl _) _
      have tw17 := two_new w17 25 (.slice rb bT6.cols.length rbc) (.slice rdb bT6.data.length rdbc)
      have ht17 := Lib.hid (ht17.next hal17)
      have hx7 := hx17.next hal17
      have hb17 := below_then hb17 hal17
      clear hf17 hx16 hx17 hb16 kb
      obtain ⟨G17, hG17⟩ : ∃ G17, G17 = w17.heap.size := ⟨_, rfl⟩
      rw [← hG17] at tw17
      go_upto_region 9 with fail
      rw [← hG17]
      generalize w17.alloc (.cells #[.slice rb bT6.cols.length rbc, .slice rdb bT6.data.length rdbc] 25) = W17 at *
      clear hG17 hal17
      go_cut [16, 17] from 67 to 72 (fun p e wx => ∃ g ra rc rda rdc, p = .pointer (some ⟨g, 0, none⟩) ∧ e = .int .i64 0 ∧ Two wx g 25 (.slice ra bT7.cols.length rc) (.slice rda bT7.data.length rdc) ∧ Tbl wx wx.heap.size ra rc rda rdc bT7 ∧ Cls wx wx.heap.size ar [⟨1, 7, []⟩, ⟨1, 9, []⟩] ∧ Below w.heap.size w wx)
      case first =>
        -- GEN R9
        have x0 := tw17.c0
        have x1 := tw17.c1
        have TWX := Lib.hid tw17
        have P0 : Below W17.heap.size W17 W17 := Below.refl _ _
        have P4 : Below W17.heap.size W17 (W17.alloc (.cells #[.slice none 0 0, .slice none 0 0] 25)) := P0.alloc (Nat.le_refl _) _
        have y0d := (tw17.next P4).c0
        have y1d := (tw17.next P4).c1
        have TZ4 := Lib.hid (two_new W17 25 (.slice none 0 0) (.slice none 0 0))
        go_region_law (first
          | (go_simp; go_at_call 58; refine (birds_any _).mono ?_; rintro e w10 ⟨cb, db, rfl, kg, hb11⟩; (first | (have hbx : Below W17.heap.size W17 w10 := (by first | exact hb11 | exact below_then (Below.drew (Below.refl _ _)) hb11); have h10 := below_then P0 hbx) | (have hbx : Below (W17.alloc (.cells #[.slice none 0 0, .slice none 0 0] 25)).heap.size (W17.alloc (.cells #[.slice none 0 0, .slice none 0 0] 25)) w10 := (by first | exact hb11 | exact below_then (Below.drew (Below.refl _ _)) hb11); have h10 := below_then P4 hbx; have tz10 := TZ4.out.next hbx)); have v0 := (TWX.out.next h10).c0; have v1 := (TWX.out.next h10).c1; have v2 := ((TWX.out.next h10).next ((Below.refl _ _).alloc (Nat.le_refl _) (.cells #[.slice none 0 0, .slice none 0 0] 25))).c0; have v3 := ((TWX.out.next h10).next ((Below.refl _ _).alloc (Nat.le_refl _) (.cells #[.slice none 0 0, .slice none 0 0] 25))).c1)
          | (go_simp; go_at_call 29; refine (bApp w10 _ _ _ _ (ht17.out.next h10) _ _ kg).mono ?_; rintro e w11 ⟨ra3, rc3, rda3, rdc3, rfl, hf11, hb12⟩; have h11 := below_then h10 hb12; have tz11 := tz10.next hb12; have hgz := tz10.lt; have z0 := tz11.c0; have f0 := tz11.free 0; have ts := tz11.s0 (.slice ra3 bT7.cols.length rc3); have z1 := ts.c1; have f1 := ts.free 1)
          | (go_simp; go_at_call 29; refine (bApp w10 _ _ _ _ (ht17.out.next h10) _ _ kg).mono ?_; rintro e w11 ⟨ra3, rc3, rda3, rdc3, rfl, hf11, hb12⟩; have h11 := below_then h10 hb12)
          | (go_simp; go_at_call 29; refine (bApp (w10.alloc (.cells #[.slice none 0 0, .slice none 0 0] 25)) _ _ _ _ (ht17.out.next (h10.alloc h10.size (.cells #[.slice none 0 0, .slice none 0 0] 25))) _ _ (kg.next ((Below.refl _ _).alloc (Nat.le_refl _) (.cells #[.slice none 0 0, .slice none 0 0] 25)))).mono ?_; rintro e w11 ⟨ra3, rc3, rda3, rdc3, rfl, hf11, hb12⟩; have h11 := below_then (h10.alloc h10.size (.cells #[.slice none 0 0, .slice none 0 0] 25)) hb12; have tz11 := (two_new w10 25 (.slice none 0 0) (.slice none 0 0)).next hb12; have hgz := (two_new w10 25 (.slice none 0 0) (.slice none 0 0)).lt; have hgq := h10.size; have z0 := tz11.c0; have f0 := tz11.free 0; have ts := tz11.s0 (.slice ra3 bT7.cols.length rc3); have z1 := ts.c1; have f1 := ts.free 1))
        all_goals
          go_wp2_with fail
          go_meet
          first
            | exact ⟨w11.heap.size, _, _, _, _, rfl, rfl, two_new _ _ _ _, hf11.tbl.next ((Below.refl _ _).alloc (Nat.le_refl _) _), hx7.next h11 |>.next ((Below.refl _ _).alloc (Nat.le_refl _) _), (below_then hb17 h11).alloc (below_then hb17 h11).size _⟩
            | exact ⟨_, _, _, _, _, rfl, rfl, (tz11.s0 _).s1 _, (ftab_set hf11 hgz (Nat.le_refl _) _ _).tbl, (cls_set2 (hx7.below h11) (by have hbq := h11.size; have hbr := hb17.size; (try dsimp only); omega) h11.size _ _), ((below_then hb17 h11).setCell (by have hbq := hb17.size; (try dsimp only); omega) _).setCell (by have hbq := hb17.size; (try dsimp only); omega) _⟩
        -- END R9
      case rest =>
        obtain ⟨g18, ra7, rc7, rda7, rdc7, rfl, rfl, tw18, ht18, hx18, hb18⟩ := hcut
        have x0 := tw18.c0
        have x1 := tw18.c1
        clear ht17 tw17 hb17 hx7
        go_wp2_with fail
        refine (bRows _ _ _ _ _ ht18).mono ?_
        rintro e w19 ⟨rfl, hb19⟩
        have hx19 := hx18.next hb19
        have hb19 := below_then hb18 hb19
        clear x0 x1 tw18 ht18 hx18 hb18
        go_wp2_with fail
        refine (tcnum_any _ _).mono ?_
        rintro e w20 ⟨rfl, hb20⟩
        have hx20 := hx19.next hb20
        have hb20 := below_then hb19 hb20
        clear hx19 hb19
        go_wp2_with fail
        refine (tcnum_any _ _).mono ?_
        rintro e w21 ⟨rfl, hb21⟩
        have hal21 : Below w21.heap.size w21 (w21.alloc (.cells #[.int .i64 1, .int .u64 7, .string ⟨#[]⟩, .int .i64 1, .int .u64 9, .string ⟨#[]⟩] 30)) := (Below.refl _ _).alloc (Nat.le_refl _) _
        have hx21 := (hx20.next hb21).next hal21
        have hb21 := below_then (below_then hb20 hb21) hal21
        have hy21 := cls_lit w21 [⟨1, 7, []⟩, ⟨1, 9, []⟩]
        simp only [cv, List.flatMap_cons, List.flatMap_nil, cx, List.append_nil, List.cons_append, List.nil_append] at hy21
        clear hx20 hb20
        go_wp2_with fail
        refine (tcells_any _ _).mono ?_
        rintro e w22 ⟨rfl, hb22⟩
        go_wp2_with fail
        refine (bsc _ _ _ _ _ (hx21.next hb22) (hy21.next hb22)).mono ?_
        rintro e w23 ⟨rfl, hb23⟩
        have hb23 := below_then (below_then hb21 hb22) hb23
        clear hx21 hy21 hb21 hb22
        go_wp2_with fail
        refine (birds_any _).mono ?_
        rintro e w24 ⟨cb, db, rfl, kb, hb24⟩
        have hb24 := below_then hb23 hb24
        clear hb23
        have hfd : ∀ w : World, (Instr.field 25 (tag cb 2 2 db 2 2) 0).run Try.prog w = .ok (.slice cb 2 2) w := fun _ => by kernel_rfl
        go_wp2_with fail
        refine (bBad _ _ _ kb).mono ?_
        rintro e w25 ⟨rfl, hb25⟩
        have hb25 := below_then hb24 hb25
        go_wp2_with fail
        go_ret
        exact ⟨rfl, hb25⟩
end Go.Proofs.Ytnjnalehfhfefaa
