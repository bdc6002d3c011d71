/- TbF1, TbF3, TbF4, TbF5, TbF6, TbF7, TbF8, TbF2. -/
import Derived.Test.YtnjnalehfhfefaaTa
import Derived.Test.YtnjnalehfhfefaaTbC1
import Derived.Test.YtnjnalehfhfefaaTbC2
import Derived.Test.YtnjnalehfhfefaaTbC3
import Derived.Test.YtnjnalehfhfefaaTbC4
import Derived.Test.YtnjnalehfhfefaaTbC5
import Derived.Test.YtnjnalehfhfefaaTbC6
import Derived.Test.YtnjnalehfhfefaaTbC7
import Derived.Test.YtnjnalehfhfefaaTbC8
import Derived.Test.YtnjnalehfhfefaaTbD1
import Derived.Test.YtnjnalehfhfefaaTbD2
import Derived.Test.YtnjnalehfhfefaaTbD3
import Derived.Test.YtnjnalehfhfefaaTbD4
import Derived.Test.YtnjnalehfhfefaaTbD5
import Derived.Test.YtnjnalehfhfefaaTbD6
import Derived.Test.YtnjnalehfhfefaaTbD7
import Derived.Test.YtnjnalehfhfefaaTbD8
/- The walk of table.Add. -/
namespace Go.Proofs.Ytnjnalehfhfefaa
open Go.RowKit
set_option linter.unusedVariables false

set_option maxHeartbeats 2000000 in
set_option maxRecDepth 100000 in
theorem tAdd_any (ca : Option Addr) (cc : Nat) (da : Option Addr) (dc : Nat) (t : Tb.T) (c : Tb.Col) (x : C.Cl) (w : World) (ht : Tbl w w.heap.size ca cc da dc t) (hc : gOk c) (hx : cOk x) :
    Calls Try.prog 12 #[tag ca t.cols.length cc da t.data.length dc, gag c, cag x] w (TabPost (Tb.chg t (Tb.addE t c x) (Tb.add t c x)) w) := by
  have a0 : Below w.heap.size w (w.alloc (.cells #[.slice ca t.cols.length cc, .slice da t.data.length dc] 25)) := (Below.refl _ _).alloc (Nat.le_refl _) _
  have a1 : Below (w.alloc (.cells #[.slice ca t.cols.length cc, .slice da t.data.length dc] 25)).heap.size (w.alloc (.cells #[.slice ca t.cols.length cc, .slice da t.data.length dc] 25)) ((w.alloc (.cells #[.slice ca t.cols.length cc, .slice da t.data.length dc] 25)).alloc (.cells #[.string (str c.name), .int .i64 c.kind] 27)) := (Below.refl _ _).alloc (Nat.le_refl _) _
  have a2 : Below ((w.alloc (.cells #[.slice ca t.cols.length cc, .slice da t.data.length dc] 25)).alloc (.cells #[.string (str c.name), .int .i64 c.kind] 27)).heap.size ((w.alloc (.cells #[.slice ca t.cols.length cc, .slice da t.data.length dc] 25)).alloc (.cells #[.string (str c.name), .int .i64 c.kind] 27)) (((w.alloc (.cells #[.slice ca t.cols.length cc, .slice da t.data.length dc] 25)).alloc (.cells #[.string (str c.name), .int .i64 c.kind] 27)).alloc (.cells #[.int .i64 x.kind, .int .u64 (x.num : Int), .string (str x.txt)] 30)) := (Below.refl _ _).alloc (Nat.le_refl _) _
  have a3 : Below (((w.alloc (.cells #[.slice ca t.cols.length cc, .slice da t.data.length dc] 25)).alloc (.cells #[.string (str c.name), .int .i64 c.kind] 27)).alloc (.cells #[.int .i64 x.kind, .int .u64 (x.num : Int), .string (str x.txt)] 30)).heap.size (((w.alloc (.cells #[.slice ca t.cols.length cc, .slice da t.data.length dc] 25)).alloc (.cells #[.string (str c.name), .int .i64 c.kind] 27)).alloc (.cells #[.int .i64 x.kind, .int .u64 (x.num : Int), .string (str x.txt)] 30)) ((((w.alloc (.cells #[.slice ca t.cols.length cc, .slice da t.data.length dc] 25)).alloc (.cells #[.string (str c.name), .int .i64 c.kind] 27)).alloc (.cells #[.int .i64 x.kind, .int .u64 (x.num : Int), .string (str x.txt)] 30)).alloc (.cells #[.slice none 0 0, .slice none 0 0] 25)) := (Below.refl _ _).alloc (Nat.le_refl _) _
  have z1 : (w.alloc (.cells #[.slice ca t.cols.length cc, .slice da t.data.length dc] 25)).heap.size = w.heap.size + 1 := by simp
  have z2 : ((w.alloc (.cells #[.slice ca t.cols.length cc, .slice da t.data.length dc] 25)).alloc (.cells #[.string (str c.name), .int .i64 c.kind] 27)).heap.size = w.heap.size + 2 := by simp
  have z3 : (((w.alloc (.cells #[.slice ca t.cols.length cc, .slice da t.data.length dc] 25)).alloc (.cells #[.string (str c.name), .int .i64 c.kind] 27)).alloc (.cells #[.int .i64 x.kind, .int .u64 (x.num : Int), .string (str x.txt)] 30)).heap.size = w.heap.size + 3 := by simp
  have hT := two_new w 25 (.slice ca t.cols.length cc) (.slice da t.data.length dc)
  have HT := Lib.hid (Two.next (Two.next (Two.next (hT) a1) a2) a3)
  have hB0 := Two.next (Two.next (two_new (w.alloc (.cells #[.slice ca t.cols.length cc, .slice da t.data.length dc] 25)) 27 (.string (str c.name)) (.int .i64 c.kind)) a2) a3
  rw [z1] at hB0
  have hB1 := Tri.next (tri_new ((w.alloc (.cells #[.slice ca t.cols.length cc, .slice da t.data.length dc] 25)).alloc (.cells #[.string (str c.name), .int .i64 c.kind] 27)) (.int .i64 x.kind) (.int .u64 (x.num : Int)) (.string (str x.txt))) a3
  rw [z2] at hB1
  have hR := two_new (((w.alloc (.cells #[.slice ca t.cols.length cc, .slice da t.data.length dc] 25)).alloc (.cells #[.string (str c.name), .int .i64 c.kind] 27)).alloc (.cells #[.int .i64 x.kind, .int .u64 (x.num : Int), .string (str x.txt)] 30)) 25 (.slice none 0 0) (.slice none 0 0)
  rw [z3] at hR
  have hal := below_then (below_then (below_then (a0) a1) a2) a3
  have hsz : ((((w.alloc (.cells #[.slice ca t.cols.length cc, .slice da t.data.length dc] 25)).alloc (.cells #[.string (str c.name), .int .i64 c.kind] 27)).alloc (.cells #[.int .i64 x.kind, .int .u64 (x.num : Int), .string (str x.txt)] 30)).alloc (.cells #[.slice none 0 0, .slice none 0 0] 25)).heap.size = w.heap.size + 4 := by simp
  have d0 := HT.out.c0
  have d1 := HT.out.c1
  have HC := Lib.hid (changedAdd_any (w.heap.size + 1) (w.heap.size + 2) ca cc da dc t (Tb.addE t c x) (Tb.add t c x) ((((w.alloc (.cells #[.slice ca t.cols.length cc, .slice da t.data.length dc] 25)).alloc (.cells #[.string (str c.name), .int .i64 c.kind] 27)).alloc (.cells #[.int .i64 x.kind, .int .u64 (x.num : Int), .string (str x.txt)] 30)).alloc (.cells #[.slice none 0 0, .slice none 0 0] 25)) (ht.next hal) (Tb.addE_lt t c x) (Lib.hid fun h0 W' B G cv dv vs hB hb hO => by
    rw [hsz] at hB
    exact add1_any _ _ c x t W' B G cv dv vs hO h0 (by omega) (by omega) (Two.next hB0 hb) (Tri.next hB1 hb) hc hx))
  generalize Tb.chg t (Tb.addE t c x) (Tb.add t c x) = r at *
  obtain ⟨r1, r2⟩ := r
  have HR := Lib.hid hR
  have HAL := Lib.hid hal
  have HSZ := Lib.hid hsz
  unfold gag cag
  clear ht hT hR hal hsz hB0 hB1 a0 a1 a2 a3 z1 z2 z3
  go_enter Try.func12, Try.ntmps12
  go_wp2_with fail
  refine (HC.out).mono ?_
  rintro e w1 ⟨ra, rc, rda, rdc, rfl, hf1, hb1⟩
  have q0 := HR.out.next hb1
  have hwl : w.heap.size + 3 < ((((w.alloc (.cells #[.slice ca t.cols.length cc, .slice da t.data.length dc] 25)).alloc (.cells #[.string (str c.name), .int .i64 c.kind] 27)).alloc (.cells #[.int .i64 x.kind, .int .u64 (x.num : Int), .string (str x.txt)] 30)).alloc (.cells #[.slice none 0 0, .slice none 0 0] 25)).heap.size := by rw [HSZ.out]; omega
  have hws : w.heap.size ≤ ((((w.alloc (.cells #[.slice ca t.cols.length cc, .slice da t.data.length dc] 25)).alloc (.cells #[.string (str c.name), .int .i64 c.kind] 27)).alloc (.cells #[.int .i64 x.kind, .int .u64 (x.num : Int), .string (str x.txt)] 30)).alloc (.cells #[.slice none 0 0, .slice none 0 0] 25)).heap.size := by rw [HSZ.out]; omega
  have hbw := below_then HAL.out hb1
  obtain ⟨RB, hRB⟩ : ∃ RB, RB = w.heap.size + 3 := ⟨_, rfl⟩
  rw [← hRB] at q0 hwl ⊢
  have hRBw : w.heap.size ≤ RB := by omega
  have q1 := q0.s0 (.slice ra r1.cols.length rc)
  have q2 := q1.s1 (.slice rda r1.data.length rdc)
  have b0 := q0.c0
  have f0 := q0.free 0
  have b1 := q1.c1
  have f1 := q1.free 1
  have y0 := q2.c0
  have y1 := q2.c1
  have HFT := Lib.hid (ftab_set hf1 hwl hws (.slice ra r1.cols.length rc) (.slice rda r1.data.length rdc))
  have HB3 := Lib.hid ((hbw.setCell (p := ⟨RB, 0, none⟩) hRBw (.slice ra r1.cols.length rc)).setCell (p := ⟨RB, 1, none⟩) hRBw (.slice rda r1.data.length rdc))
  clear hRB hf1 hb1 q0 q1 q2 hbw d0 d1
  go_wp2_with fail
  refine bodyPost_ret (v := .tuple #[tag ra r1.cols.length rc rda r1.data.length rdc, .int .i64 r2]) (by simp [results, Try.results12, go_sem, y0, y1]) rfl ?_
  exact ⟨ra, rc, rda, rdc, rfl, HFT.out, HB3.out⟩
end Go.Proofs.Ytnjnalehfhfefaa
/- The walk of table.Rename. -/
namespace Go.Proofs.Ytnjnalehfhfefaa
open Go.RowKit
set_option linter.unusedVariables false

set_option maxHeartbeats 2000000 in
set_option maxRecDepth 100000 in
theorem tRename_any (ca : Option Addr) (cc : Nat) (da : Option Addr) (dc : Nat) (t : Tb.T) (o n : List UInt8) (w : World) (ht : Tbl w w.heap.size ca cc da dc t) (hn : n.length ≤ maxLen) :
    Calls Try.prog 14 #[tag ca t.cols.length cc da t.data.length dc, .string (str o), .string (str n)] w (TabPost (Tb.chg t (Tb.renE t o n) (Tb.ren t o n)) w) := by
  have a0 : Below w.heap.size w (w.alloc (.cells #[.slice ca t.cols.length cc, .slice da t.data.length dc] 25)) := (Below.refl _ _).alloc (Nat.le_refl _) _
  have a1 : Below (w.alloc (.cells #[.slice ca t.cols.length cc, .slice da t.data.length dc] 25)).heap.size (w.alloc (.cells #[.slice ca t.cols.length cc, .slice da t.data.length dc] 25)) ((w.alloc (.cells #[.slice ca t.cols.length cc, .slice da t.data.length dc] 25)).alloc (.cells #[.string (str o)] 9)) := (Below.refl _ _).alloc (Nat.le_refl _) _
  have a2 : Below ((w.alloc (.cells #[.slice ca t.cols.length cc, .slice da t.data.length dc] 25)).alloc (.cells #[.string (str o)] 9)).heap.size ((w.alloc (.cells #[.slice ca t.cols.length cc, .slice da t.data.length dc] 25)).alloc (.cells #[.string (str o)] 9)) (((w.alloc (.cells #[.slice ca t.cols.length cc, .slice da t.data.length dc] 25)).alloc (.cells #[.string (str o)] 9)).alloc (.cells #[.string (str n)] 9)) := (Below.refl _ _).alloc (Nat.le_refl _) _
  have a3 : Below (((w.alloc (.cells #[.slice ca t.cols.length cc, .slice da t.data.length dc] 25)).alloc (.cells #[.string (str o)] 9)).alloc (.cells #[.string (str n)] 9)).heap.size (((w.alloc (.cells #[.slice ca t.cols.length cc, .slice da t.data.length dc] 25)).alloc (.cells #[.string (str o)] 9)).alloc (.cells #[.string (str n)] 9)) ((((w.alloc (.cells #[.slice ca t.cols.length cc, .slice da t.data.length dc] 25)).alloc (.cells #[.string (str o)] 9)).alloc (.cells #[.string (str n)] 9)).alloc (.cells #[.slice none 0 0, .slice none 0 0] 25)) := (Below.refl _ _).alloc (Nat.le_refl _) _
  have z1 : (w.alloc (.cells #[.slice ca t.cols.length cc, .slice da t.data.length dc] 25)).heap.size = w.heap.size + 1 := by simp
  have z2 : ((w.alloc (.cells #[.slice ca t.cols.length cc, .slice da t.data.length dc] 25)).alloc (.cells #[.string (str o)] 9)).heap.size = w.heap.size + 2 := by simp
  have z3 : (((w.alloc (.cells #[.slice ca t.cols.length cc, .slice da t.data.length dc] 25)).alloc (.cells #[.string (str o)] 9)).alloc (.cells #[.string (str n)] 9)).heap.size = w.heap.size + 3 := by simp
  have hT := two_new w 25 (.slice ca t.cols.length cc) (.slice da t.data.length dc)
  have HT := Lib.hid (Two.next (Two.next (Two.next (hT) a1) a2) a3)
  have hB0 := boxed_next (boxed_next (boxed_new (w.alloc (.cells #[.slice ca t.cols.length cc, .slice da t.data.length dc] 25)) (.string (str o)) 9) a2) a3
  rw [z1] at hB0
  have hB1 := boxed_next (boxed_new ((w.alloc (.cells #[.slice ca t.cols.length cc, .slice da t.data.length dc] 25)).alloc (.cells #[.string (str o)] 9)) (.string (str n)) 9) a3
  rw [z2] at hB1
  have hR := two_new (((w.alloc (.cells #[.slice ca t.cols.length cc, .slice da t.data.length dc] 25)).alloc (.cells #[.string (str o)] 9)).alloc (.cells #[.string (str n)] 9)) 25 (.slice none 0 0) (.slice none 0 0)
  rw [z3] at hR
  have hal := below_then (below_then (below_then (a0) a1) a2) a3
  have hsz : ((((w.alloc (.cells #[.slice ca t.cols.length cc, .slice da t.data.length dc] 25)).alloc (.cells #[.string (str o)] 9)).alloc (.cells #[.string (str n)] 9)).alloc (.cells #[.slice none 0 0, .slice none 0 0] 25)).heap.size = w.heap.size + 4 := by simp
  have d0 := HT.out.c0
  have d1 := HT.out.c1
  have HC := Lib.hid (changedRename_any (w.heap.size + 1) (w.heap.size + 2) ca cc da dc t (Tb.renE t o n) (Tb.ren t o n) ((((w.alloc (.cells #[.slice ca t.cols.length cc, .slice da t.data.length dc] 25)).alloc (.cells #[.string (str o)] 9)).alloc (.cells #[.string (str n)] 9)).alloc (.cells #[.slice none 0 0, .slice none 0 0] 25)) (ht.next hal) (Tb.renE_lt t o n) (Lib.hid fun h0 W' B G cv dv vs hB hb hO => by
    rw [hsz] at hB
    exact rename1_any _ _ o n t W' B G cv dv vs hO h0 (by omega) (by omega) (boxed_next hB0 hb) (boxed_next hB1 hb) hn))
  generalize Tb.chg t (Tb.renE t o n) (Tb.ren t o n) = r at *
  obtain ⟨r1, r2⟩ := r
  have HR := Lib.hid hR
  have HAL := Lib.hid hal
  have HSZ := Lib.hid hsz
  clear ht hT hR hal hsz hB0 hB1 a0 a1 a2 a3 z1 z2 z3
  go_enter Try.func14, Try.ntmps14
  go_wp2_with fail
  refine (HC.out).mono ?_
  rintro e w1 ⟨ra, rc, rda, rdc, rfl, hf1, hb1⟩
  have q0 := HR.out.next hb1
  have hwl : w.heap.size + 3 < ((((w.alloc (.cells #[.slice ca t.cols.length cc, .slice da t.data.length dc] 25)).alloc (.cells #[.string (str o)] 9)).alloc (.cells #[.string (str n)] 9)).alloc (.cells #[.slice none 0 0, .slice none 0 0] 25)).heap.size := by rw [HSZ.out]; omega
  have hws : w.heap.size ≤ ((((w.alloc (.cells #[.slice ca t.cols.length cc, .slice da t.data.length dc] 25)).alloc (.cells #[.string (str o)] 9)).alloc (.cells #[.string (str n)] 9)).alloc (.cells #[.slice none 0 0, .slice none 0 0] 25)).heap.size := by rw [HSZ.out]; omega
  have hbw := below_then HAL.out hb1
  obtain ⟨RB, hRB⟩ : ∃ RB, RB = w.heap.size + 3 := ⟨_, rfl⟩
  rw [← hRB] at q0 hwl ⊢
  have hRBw : w.heap.size ≤ RB := by omega
  have q1 := q0.s0 (.slice ra r1.cols.length rc)
  have q2 := q1.s1 (.slice rda r1.data.length rdc)
  have b0 := q0.c0
  have f0 := q0.free 0
  have b1 := q1.c1
  have f1 := q1.free 1
  have y0 := q2.c0
  have y1 := q2.c1
  have HFT := Lib.hid (ftab_set hf1 hwl hws (.slice ra r1.cols.length rc) (.slice rda r1.data.length rdc))
  have HB3 := Lib.hid ((hbw.setCell (p := ⟨RB, 0, none⟩) hRBw (.slice ra r1.cols.length rc)).setCell (p := ⟨RB, 1, none⟩) hRBw (.slice rda r1.data.length rdc))
  clear hRB hf1 hb1 q0 q1 q2 hbw d0 d1
  go_wp2_with fail
  refine bodyPost_ret (v := .tuple #[tag ra r1.cols.length rc rda r1.data.length rdc, .int .i64 r2]) (by simp [results, Try.results14, go_sem, y0, y1]) rfl ?_
  exact ⟨ra, rc, rda, rdc, rfl, HFT.out, HB3.out⟩
end Go.Proofs.Ytnjnalehfhfefaa
/- The walk of table.Redact. -/
namespace Go.Proofs.Ytnjnalehfhfefaa
open Go.RowKit
set_option linter.unusedVariables false

set_option maxHeartbeats 2000000 in
set_option maxRecDepth 100000 in
theorem tRedact_any (ca : Option Addr) (cc : Nat) (da : Option Addr) (dc : Nat) (t : Tb.T) (nm : List UInt8) (ap : Option Addr) (cp : Nat) (p : List O.Cd) (w : World) (ht : Tbl w w.heap.size ca cc da dc t) (hpm : p.length ≤ maxLen) (hpx : ∀ x ∈ p, dOk x) (hpu : Cds w w.heap.size ap p) :
    Calls Try.prog 25 #[tag ca t.cols.length cc da t.data.length dc, .string (str nm), .slice ap p.length cp] w (TabPost (Tb.chg t (Tb.redE t nm p) (Tb.red t nm p)) w) := by
  have a0 : Below w.heap.size w (w.alloc (.cells #[.slice ca t.cols.length cc, .slice da t.data.length dc] 25)) := (Below.refl _ _).alloc (Nat.le_refl _) _
  have a1 : Below (w.alloc (.cells #[.slice ca t.cols.length cc, .slice da t.data.length dc] 25)).heap.size (w.alloc (.cells #[.slice ca t.cols.length cc, .slice da t.data.length dc] 25)) ((w.alloc (.cells #[.slice ca t.cols.length cc, .slice da t.data.length dc] 25)).alloc (.cells #[.string (str nm)] 9)) := (Below.refl _ _).alloc (Nat.le_refl _) _
  have a2 : Below ((w.alloc (.cells #[.slice ca t.cols.length cc, .slice da t.data.length dc] 25)).alloc (.cells #[.string (str nm)] 9)).heap.size ((w.alloc (.cells #[.slice ca t.cols.length cc, .slice da t.data.length dc] 25)).alloc (.cells #[.string (str nm)] 9)) (((w.alloc (.cells #[.slice ca t.cols.length cc, .slice da t.data.length dc] 25)).alloc (.cells #[.string (str nm)] 9)).alloc (.cells #[.slice ap p.length cp] 48)) := (Below.refl _ _).alloc (Nat.le_refl _) _
  have a3 : Below (((w.alloc (.cells #[.slice ca t.cols.length cc, .slice da t.data.length dc] 25)).alloc (.cells #[.string (str nm)] 9)).alloc (.cells #[.slice ap p.length cp] 48)).heap.size (((w.alloc (.cells #[.slice ca t.cols.length cc, .slice da t.data.length dc] 25)).alloc (.cells #[.string (str nm)] 9)).alloc (.cells #[.slice ap p.length cp] 48)) ((((w.alloc (.cells #[.slice ca t.cols.length cc, .slice da t.data.length dc] 25)).alloc (.cells #[.string (str nm)] 9)).alloc (.cells #[.slice ap p.length cp] 48)).alloc (.cells #[.slice none 0 0, .slice none 0 0] 25)) := (Below.refl _ _).alloc (Nat.le_refl _) _
  have z1 : (w.alloc (.cells #[.slice ca t.cols.length cc, .slice da t.data.length dc] 25)).heap.size = w.heap.size + 1 := by simp
  have z2 : ((w.alloc (.cells #[.slice ca t.cols.length cc, .slice da t.data.length dc] 25)).alloc (.cells #[.string (str nm)] 9)).heap.size = w.heap.size + 2 := by simp
  have z3 : (((w.alloc (.cells #[.slice ca t.cols.length cc, .slice da t.data.length dc] 25)).alloc (.cells #[.string (str nm)] 9)).alloc (.cells #[.slice ap p.length cp] 48)).heap.size = w.heap.size + 3 := by simp
  have hT := two_new w 25 (.slice ca t.cols.length cc) (.slice da t.data.length dc)
  have HT := Lib.hid (Two.next (Two.next (Two.next (hT) a1) a2) a3)
  have hB0 := boxed_next (boxed_next (boxed_new (w.alloc (.cells #[.slice ca t.cols.length cc, .slice da t.data.length dc] 25)) (.string (str nm)) 9) a2) a3
  rw [z1] at hB0
  have hB1 := boxed_next (boxed_new ((w.alloc (.cells #[.slice ca t.cols.length cc, .slice da t.data.length dc] 25)).alloc (.cells #[.string (str nm)] 9)) (.slice ap p.length cp) 48) a3
  rw [z2] at hB1
  have hR := two_new (((w.alloc (.cells #[.slice ca t.cols.length cc, .slice da t.data.length dc] 25)).alloc (.cells #[.string (str nm)] 9)).alloc (.cells #[.slice ap p.length cp] 48)) 25 (.slice none 0 0) (.slice none 0 0)
  rw [z3] at hR
  have hal := below_then (below_then (below_then (a0) a1) a2) a3
  have hsz : ((((w.alloc (.cells #[.slice ca t.cols.length cc, .slice da t.data.length dc] 25)).alloc (.cells #[.string (str nm)] 9)).alloc (.cells #[.slice ap p.length cp] 48)).alloc (.cells #[.slice none 0 0, .slice none 0 0] 25)).heap.size = w.heap.size + 4 := by simp
  have d0 := HT.out.c0
  have d1 := HT.out.c1
  have HC := Lib.hid (changedRedact_any (w.heap.size + 1) (w.heap.size + 2) ca cc da dc t (Tb.redE t nm p) (Tb.red t nm p) ((((w.alloc (.cells #[.slice ca t.cols.length cc, .slice da t.data.length dc] 25)).alloc (.cells #[.string (str nm)] 9)).alloc (.cells #[.slice ap p.length cp] 48)).alloc (.cells #[.slice none 0 0, .slice none 0 0] 25)) (ht.next hal) (Tb.redE_lt t nm p) (Lib.hid fun h0 W' B G cv dv vs hB hb hO => by
    rw [hsz] at hB
    exact redact1_any _ _ nm ap cp p t W' B G cv dv vs hO h0 (by omega) (by omega) (boxed_next hB0 hb) (boxed_next hB1 hb) hpm hpx (hpu.next at5_firm (below_then hal hb))))
  generalize Tb.chg t (Tb.redE t nm p) (Tb.red t nm p) = r at *
  obtain ⟨r1, r2⟩ := r
  have HR := Lib.hid hR
  have HAL := Lib.hid hal
  have HSZ := Lib.hid hsz
  clear ht hT hR hal hsz hB0 hB1 a0 a1 a2 a3 z1 z2 z3
  go_enter Try.func25, Try.ntmps25
  go_wp2_with fail
  refine (HC.out).mono ?_
  rintro e w1 ⟨ra, rc, rda, rdc, rfl, hf1, hb1⟩
  have q0 := HR.out.next hb1
  have hwl : w.heap.size + 3 < ((((w.alloc (.cells #[.slice ca t.cols.length cc, .slice da t.data.length dc] 25)).alloc (.cells #[.string (str nm)] 9)).alloc (.cells #[.slice ap p.length cp] 48)).alloc (.cells #[.slice none 0 0, .slice none 0 0] 25)).heap.size := by rw [HSZ.out]; omega
  have hws : w.heap.size ≤ ((((w.alloc (.cells #[.slice ca t.cols.length cc, .slice da t.data.length dc] 25)).alloc (.cells #[.string (str nm)] 9)).alloc (.cells #[.slice ap p.length cp] 48)).alloc (.cells #[.slice none 0 0, .slice none 0 0] 25)).heap.size := by rw [HSZ.out]; omega
  have hbw := below_then HAL.out hb1
  obtain ⟨RB, hRB⟩ : ∃ RB, RB = w.heap.size + 3 := ⟨_, rfl⟩
  rw [← hRB] at q0 hwl ⊢
  have hRBw : w.heap.size ≤ RB := by omega
  have q1 := q0.s0 (.slice ra r1.cols.length rc)
  have q2 := q1.s1 (.slice rda r1.data.length rdc)
  have b0 := q0.c0
  have f0 := q0.free 0
  have b1 := q1.c1
  have f1 := q1.free 1
  have y0 := q2.c0
  have y1 := q2.c1
  have HFT := Lib.hid (ftab_set hf1 hwl hws (.slice ra r1.cols.length rc) (.slice rda r1.data.length rdc))
  have HB3 := Lib.hid ((hbw.setCell (p := ⟨RB, 0, none⟩) hRBw (.slice ra r1.cols.length rc)).setCell (p := ⟨RB, 1, none⟩) hRBw (.slice rda r1.data.length rdc))
  clear hRB hf1 hb1 q0 q1 q2 hbw d0 d1
  go_wp2_with fail
  refine bodyPost_ret (v := .tuple #[tag ra r1.cols.length rc rda r1.data.length rdc, .int .i64 r2]) (by simp [results, Try.results25, go_sem, y0, y1]) rfl ?_
  exact ⟨ra, rc, rda, rdc, rfl, HFT.out, HB3.out⟩
end Go.Proofs.Ytnjnalehfhfefaa
/- The walk of table.Keep. -/
namespace Go.Proofs.Ytnjnalehfhfefaa
open Go.RowKit
set_option linter.unusedVariables false

set_option maxHeartbeats 2000000 in
set_option maxRecDepth 100000 in
theorem tKeep_any (ca : Option Addr) (cc : Nat) (da : Option Addr) (dc : Nat) (t : Tb.T) (ap : Option Addr) (cp : Nat) (p : List O.Cd) (w : World) (ht : Tbl w w.heap.size ca cc da dc t) (hpm : p.length ≤ maxLen) (hpx : ∀ x ∈ p, dOk x) (hpu : Cds w w.heap.size ap p) :
    Calls Try.prog 26 #[tag ca t.cols.length cc da t.data.length dc, .slice ap p.length cp] w (TabPost (Tb.chg t (Tb.keepE t p) (Tb.keep t p)) w) := by
  have a0 : Below w.heap.size w (w.alloc (.cells #[.slice ca t.cols.length cc, .slice da t.data.length dc] 25)) := (Below.refl _ _).alloc (Nat.le_refl _) _
  have a1 : Below (w.alloc (.cells #[.slice ca t.cols.length cc, .slice da t.data.length dc] 25)).heap.size (w.alloc (.cells #[.slice ca t.cols.length cc, .slice da t.data.length dc] 25)) ((w.alloc (.cells #[.slice ca t.cols.length cc, .slice da t.data.length dc] 25)).alloc (.cells #[.slice ap p.length cp] 48)) := (Below.refl _ _).alloc (Nat.le_refl _) _
  have a2 : Below ((w.alloc (.cells #[.slice ca t.cols.length cc, .slice da t.data.length dc] 25)).alloc (.cells #[.slice ap p.length cp] 48)).heap.size ((w.alloc (.cells #[.slice ca t.cols.length cc, .slice da t.data.length dc] 25)).alloc (.cells #[.slice ap p.length cp] 48)) (((w.alloc (.cells #[.slice ca t.cols.length cc, .slice da t.data.length dc] 25)).alloc (.cells #[.slice ap p.length cp] 48)).alloc (.cells #[.slice none 0 0, .slice none 0 0] 25)) := (Below.refl _ _).alloc (Nat.le_refl _) _
  have z1 : (w.alloc (.cells #[.slice ca t.cols.length cc, .slice da t.data.length dc] 25)).heap.size = w.heap.size + 1 := by simp
  have z2 : ((w.alloc (.cells #[.slice ca t.cols.length cc, .slice da t.data.length dc] 25)).alloc (.cells #[.slice ap p.length cp] 48)).heap.size = w.heap.size + 2 := by simp
  have hT := two_new w 25 (.slice ca t.cols.length cc) (.slice da t.data.length dc)
  have HT := Lib.hid (Two.next (Two.next (hT) a1) a2)
  have hB0 := boxed_next (boxed_new (w.alloc (.cells #[.slice ca t.cols.length cc, .slice da t.data.length dc] 25)) (.slice ap p.length cp) 48) a2
  rw [z1] at hB0
  have hR := two_new ((w.alloc (.cells #[.slice ca t.cols.length cc, .slice da t.data.length dc] 25)).alloc (.cells #[.slice ap p.length cp] 48)) 25 (.slice none 0 0) (.slice none 0 0)
  rw [z2] at hR
  have hal := below_then (below_then (a0) a1) a2
  have hsz : (((w.alloc (.cells #[.slice ca t.cols.length cc, .slice da t.data.length dc] 25)).alloc (.cells #[.slice ap p.length cp] 48)).alloc (.cells #[.slice none 0 0, .slice none 0 0] 25)).heap.size = w.heap.size + 3 := by simp
  have d0 := HT.out.c0
  have d1 := HT.out.c1
  have HC := Lib.hid (changedKeep_any (w.heap.size + 1) ca cc da dc t (Tb.keepE t p) (Tb.keep t p) (((w.alloc (.cells #[.slice ca t.cols.length cc, .slice da t.data.length dc] 25)).alloc (.cells #[.slice ap p.length cp] 48)).alloc (.cells #[.slice none 0 0, .slice none 0 0] 25)) (ht.next hal) (Tb.keepE_lt t p) (Lib.hid fun h0 W' B G cv dv vs hB hb hO => by
    rw [hsz] at hB
    exact keep1_any _ ap cp p t W' B G cv dv vs hO h0 (by omega) (boxed_next hB0 hb) hpm hpx (hpu.next at5_firm (below_then hal hb))))
  generalize Tb.chg t (Tb.keepE t p) (Tb.keep t p) = r at *
  obtain ⟨r1, r2⟩ := r
  have HR := Lib.hid hR
  have HAL := Lib.hid hal
  have HSZ := Lib.hid hsz
  clear ht hT hR hal hsz hB0 a0 a1 a2 z1 z2
  go_enter Try.func26, Try.ntmps26
  go_wp2_with fail
  refine (HC.out).mono ?_
  rintro e w1 ⟨ra, rc, rda, rdc, rfl, hf1, hb1⟩
  have q0 := HR.out.next hb1
  have hwl : w.heap.size + 2 < (((w.alloc (.cells #[.slice ca t.cols.length cc, .slice da t.data.length dc] 25)).alloc (.cells #[.slice ap p.length cp] 48)).alloc (.cells #[.slice none 0 0, .slice none 0 0] 25)).heap.size := by rw [HSZ.out]; omega
  have hws : w.heap.size ≤ (((w.alloc (.cells #[.slice ca t.cols.length cc, .slice da t.data.length dc] 25)).alloc (.cells #[.slice ap p.length cp] 48)).alloc (.cells #[.slice none 0 0, .slice none 0 0] 25)).heap.size := by rw [HSZ.out]; omega
  have hbw := below_then HAL.out hb1
  obtain ⟨RB, hRB⟩ : ∃ RB, RB = w.heap.size + 2 := ⟨_, rfl⟩
  rw [← hRB] at q0 hwl ⊢
  have hRBw : w.heap.size ≤ RB := by omega
  have q1 := q0.s0 (.slice ra r1.cols.length rc)
  have q2 := q1.s1 (.slice rda r1.data.length rdc)
  have b0 := q0.c0
  have f0 := q0.free 0
  have b1 := q1.c1
  have f1 := q1.free 1
  have y0 := q2.c0
  have y1 := q2.c1
  have HFT := Lib.hid (ftab_set hf1 hwl hws (.slice ra r1.cols.length rc) (.slice rda r1.data.length rdc))
  have HB3 := Lib.hid ((hbw.setCell (p := ⟨RB, 0, none⟩) hRBw (.slice ra r1.cols.length rc)).setCell (p := ⟨RB, 1, none⟩) hRBw (.slice rda r1.data.length rdc))
  clear hRB hf1 hb1 q0 q1 q2 hbw d0 d1
  go_wp2_with fail
  refine bodyPost_ret (v := .tuple #[tag ra r1.cols.length rc rda r1.data.length rdc, .int .i64 r2]) (by simp [results, Try.results26, go_sem, y0, y1]) rfl ?_
  exact ⟨ra, rc, rda, rdc, rfl, HFT.out, HB3.out⟩
end Go.Proofs.Ytnjnalehfhfefaa
/- The walk of table.Project. -/
namespace Go.Proofs.Ytnjnalehfhfefaa
open Go.RowKit
set_option linter.unusedVariables false

set_option maxHeartbeats 2000000 in
set_option maxRecDepth 100000 in
theorem tProject_any (ca : Option Addr) (cc : Nat) (da : Option Addr) (dc : Nat) (t : Tb.T) (an : Option Addr) (cn : Nat) (ns : List (List UInt8)) (w : World) (ht : Tbl w w.heap.size ca cc da dc t) (hnm : ns.length ≤ maxLen) (hnu : Txts w w.heap.size an ns) :
    Calls Try.prog 27 #[tag ca t.cols.length cc da t.data.length dc, .slice an ns.length cn] w (TabPost (Tb.chg t (Tb.projE t [] ns) (Tb.proj t ns)) w) := by
  have a0 : Below w.heap.size w (w.alloc (.cells #[.slice ca t.cols.length cc, .slice da t.data.length dc] 25)) := (Below.refl _ _).alloc (Nat.le_refl _) _
  have a1 : Below (w.alloc (.cells #[.slice ca t.cols.length cc, .slice da t.data.length dc] 25)).heap.size (w.alloc (.cells #[.slice ca t.cols.length cc, .slice da t.data.length dc] 25)) ((w.alloc (.cells #[.slice ca t.cols.length cc, .slice da t.data.length dc] 25)).alloc (.cells #[.slice an ns.length cn] 49)) := (Below.refl _ _).alloc (Nat.le_refl _) _
  have a2 : Below ((w.alloc (.cells #[.slice ca t.cols.length cc, .slice da t.data.length dc] 25)).alloc (.cells #[.slice an ns.length cn] 49)).heap.size ((w.alloc (.cells #[.slice ca t.cols.length cc, .slice da t.data.length dc] 25)).alloc (.cells #[.slice an ns.length cn] 49)) (((w.alloc (.cells #[.slice ca t.cols.length cc, .slice da t.data.length dc] 25)).alloc (.cells #[.slice an ns.length cn] 49)).alloc (.cells #[.slice none 0 0, .slice none 0 0] 25)) := (Below.refl _ _).alloc (Nat.le_refl _) _
  have z1 : (w.alloc (.cells #[.slice ca t.cols.length cc, .slice da t.data.length dc] 25)).heap.size = w.heap.size + 1 := by simp
  have z2 : ((w.alloc (.cells #[.slice ca t.cols.length cc, .slice da t.data.length dc] 25)).alloc (.cells #[.slice an ns.length cn] 49)).heap.size = w.heap.size + 2 := by simp
  have hT := two_new w 25 (.slice ca t.cols.length cc) (.slice da t.data.length dc)
  have HT := Lib.hid (Two.next (Two.next (hT) a1) a2)
  have hB0 := boxed_next (boxed_new (w.alloc (.cells #[.slice ca t.cols.length cc, .slice da t.data.length dc] 25)) (.slice an ns.length cn) 49) a2
  rw [z1] at hB0
  have hR := two_new ((w.alloc (.cells #[.slice ca t.cols.length cc, .slice da t.data.length dc] 25)).alloc (.cells #[.slice an ns.length cn] 49)) 25 (.slice none 0 0) (.slice none 0 0)
  rw [z2] at hR
  have hal := below_then (below_then (a0) a1) a2
  have hsz : (((w.alloc (.cells #[.slice ca t.cols.length cc, .slice da t.data.length dc] 25)).alloc (.cells #[.slice an ns.length cn] 49)).alloc (.cells #[.slice none 0 0, .slice none 0 0] 25)).heap.size = w.heap.size + 3 := by simp
  have d0 := HT.out.c0
  have d1 := HT.out.c1
  have HC := Lib.hid (changedProject_any (w.heap.size + 1) ca cc da dc t (Tb.projE t [] ns) (Tb.proj t ns) (((w.alloc (.cells #[.slice ca t.cols.length cc, .slice da t.data.length dc] 25)).alloc (.cells #[.slice an ns.length cn] 49)).alloc (.cells #[.slice none 0 0, .slice none 0 0] 25)) (ht.next hal) (Tb.projE_lt t [] ns) (Lib.hid fun h0 W' B G cv dv vs hB hb hO => by
    rw [hsz] at hB
    exact project1_any _ an cn ns t W' B G cv dv vs hO h0 (by omega) (boxed_next hB0 hb) hnm (hnu.next (below_then hal hb))))
  generalize Tb.chg t (Tb.projE t [] ns) (Tb.proj t ns) = r at *
  obtain ⟨r1, r2⟩ := r
  have HR := Lib.hid hR
  have HAL := Lib.hid hal
  have HSZ := Lib.hid hsz
  clear ht hT hR hal hsz hB0 a0 a1 a2 z1 z2
  go_enter Try.func27, Try.ntmps27
  go_wp2_with fail
  refine (HC.out).mono ?_
  rintro e w1 ⟨ra, rc, rda, rdc, rfl, hf1, hb1⟩
  have q0 := HR.out.next hb1
  have hwl : w.heap.size + 2 < (((w.alloc (.cells #[.slice ca t.cols.length cc, .slice da t.data.length dc] 25)).alloc (.cells #[.slice an ns.length cn] 49)).alloc (.cells #[.slice none 0 0, .slice none 0 0] 25)).heap.size := by rw [HSZ.out]; omega
  have hws : w.heap.size ≤ (((w.alloc (.cells #[.slice ca t.cols.length cc, .slice da t.data.length dc] 25)).alloc (.cells #[.slice an ns.length cn] 49)).alloc (.cells #[.slice none 0 0, .slice none 0 0] 25)).heap.size := by rw [HSZ.out]; omega
  have hbw := below_then HAL.out hb1
  obtain ⟨RB, hRB⟩ : ∃ RB, RB = w.heap.size + 2 := ⟨_, rfl⟩
  rw [← hRB] at q0 hwl ⊢
  have hRBw : w.heap.size ≤ RB := by omega
  have q1 := q0.s0 (.slice ra r1.cols.length rc)
  have q2 := q1.s1 (.slice rda r1.data.length rdc)
  have b0 := q0.c0
  have f0 := q0.free 0
  have b1 := q1.c1
  have f1 := q1.free 1
  have y0 := q2.c0
  have y1 := q2.c1
  have HFT := Lib.hid (ftab_set hf1 hwl hws (.slice ra r1.cols.length rc) (.slice rda r1.data.length rdc))
  have HB3 := Lib.hid ((hbw.setCell (p := ⟨RB, 0, none⟩) hRBw (.slice ra r1.cols.length rc)).setCell (p := ⟨RB, 1, none⟩) hRBw (.slice rda r1.data.length rdc))
  clear hRB hf1 hb1 q0 q1 q2 hbw d0 d1
  go_wp2_with fail
  refine bodyPost_ret (v := .tuple #[tag ra r1.cols.length rc rda r1.data.length rdc, .int .i64 r2]) (by simp [results, Try.results27, go_sem, y0, y1]) rfl ?_
  exact ⟨ra, rc, rda, rdc, rfl, HFT.out, HB3.out⟩
end Go.Proofs.Ytnjnalehfhfefaa
/- The walk of table.Slice. -/
namespace Go.Proofs.Ytnjnalehfhfefaa
open Go.RowKit
set_option linter.unusedVariables false

set_option maxHeartbeats 2000000 in
set_option maxRecDepth 100000 in
theorem tSlice_any (ca : Option Addr) (cc : Nat) (da : Option Addr) (dc : Nat) (t : Tb.T) (fr mn : Int) (w : World) (ht : Tbl w w.heap.size ca cc da dc t) (hfr : -9223372036854775808 ≤ fr ∧ fr ≤ 9223372036854775807) (hmn : -9223372036854775808 ≤ mn ∧ mn ≤ 9223372036854775807) :
    Calls Try.prog 28 #[tag ca t.cols.length cc da t.data.length dc, .int .i64 fr, .int .i64 mn] w (TabPost (Tb.chg t (Tb.sliE fr mn) (Tb.sli t fr mn)) w) := by
  have a0 : Below w.heap.size w (w.alloc (.cells #[.slice ca t.cols.length cc, .slice da t.data.length dc] 25)) := (Below.refl _ _).alloc (Nat.le_refl _) _
  have a1 : Below (w.alloc (.cells #[.slice ca t.cols.length cc, .slice da t.data.length dc] 25)).heap.size (w.alloc (.cells #[.slice ca t.cols.length cc, .slice da t.data.length dc] 25)) ((w.alloc (.cells #[.slice ca t.cols.length cc, .slice da t.data.length dc] 25)).alloc (.cells #[.int .i64 fr] 3)) := (Below.refl _ _).alloc (Nat.le_refl _) _
  have a2 : Below ((w.alloc (.cells #[.slice ca t.cols.length cc, .slice da t.data.length dc] 25)).alloc (.cells #[.int .i64 fr] 3)).heap.size ((w.alloc (.cells #[.slice ca t.cols.length cc, .slice da t.data.length dc] 25)).alloc (.cells #[.int .i64 fr] 3)) (((w.alloc (.cells #[.slice ca t.cols.length cc, .slice da t.data.length dc] 25)).alloc (.cells #[.int .i64 fr] 3)).alloc (.cells #[.int .i64 mn] 3)) := (Below.refl _ _).alloc (Nat.le_refl _) _
  have a3 : Below (((w.alloc (.cells #[.slice ca t.cols.length cc, .slice da t.data.length dc] 25)).alloc (.cells #[.int .i64 fr] 3)).alloc (.cells #[.int .i64 mn] 3)).heap.size (((w.alloc (.cells #[.slice ca t.cols.length cc, .slice da t.data.length dc] 25)).alloc (.cells #[.int .i64 fr] 3)).alloc (.cells #[.int .i64 mn] 3)) ((((w.alloc (.cells #[.slice ca t.cols.length cc, .slice da t.data.length dc] 25)).alloc (.cells #[.int .i64 fr] 3)).alloc (.cells #[.int .i64 mn] 3)).alloc (.cells #[.slice none 0 0, .slice none 0 0] 25)) := (Below.refl _ _).alloc (Nat.le_refl _) _
  have z1 : (w.alloc (.cells #[.slice ca t.cols.length cc, .slice da t.data.length dc] 25)).heap.size = w.heap.size + 1 := by simp
  have z2 : ((w.alloc (.cells #[.slice ca t.cols.length cc, .slice da t.data.length dc] 25)).alloc (.cells #[.int .i64 fr] 3)).heap.size = w.heap.size + 2 := by simp
  have z3 : (((w.alloc (.cells #[.slice ca t.cols.length cc, .slice da t.data.length dc] 25)).alloc (.cells #[.int .i64 fr] 3)).alloc (.cells #[.int .i64 mn] 3)).heap.size = w.heap.size + 3 := by simp
  have hT := two_new w 25 (.slice ca t.cols.length cc) (.slice da t.data.length dc)
  have HT := Lib.hid (Two.next (Two.next (Two.next (hT) a1) a2) a3)
  have hB0 := boxed_next (boxed_next (boxed_new (w.alloc (.cells #[.slice ca t.cols.length cc, .slice da t.data.length dc] 25)) (.int .i64 fr) 3) a2) a3
  rw [z1] at hB0
  have hB1 := boxed_next (boxed_new ((w.alloc (.cells #[.slice ca t.cols.length cc, .slice da t.data.length dc] 25)).alloc (.cells #[.int .i64 fr] 3)) (.int .i64 mn) 3) a3
  rw [z2] at hB1
  have hR := two_new (((w.alloc (.cells #[.slice ca t.cols.length cc, .slice da t.data.length dc] 25)).alloc (.cells #[.int .i64 fr] 3)).alloc (.cells #[.int .i64 mn] 3)) 25 (.slice none 0 0) (.slice none 0 0)
  rw [z3] at hR
  have hal := below_then (below_then (below_then (a0) a1) a2) a3
  have hsz : ((((w.alloc (.cells #[.slice ca t.cols.length cc, .slice da t.data.length dc] 25)).alloc (.cells #[.int .i64 fr] 3)).alloc (.cells #[.int .i64 mn] 3)).alloc (.cells #[.slice none 0 0, .slice none 0 0] 25)).heap.size = w.heap.size + 4 := by simp
  have d0 := HT.out.c0
  have d1 := HT.out.c1
  have HC := Lib.hid (changedSlice_any (w.heap.size + 1) (w.heap.size + 2) ca cc da dc t (Tb.sliE fr mn) (Tb.sli t fr mn) ((((w.alloc (.cells #[.slice ca t.cols.length cc, .slice da t.data.length dc] 25)).alloc (.cells #[.int .i64 fr] 3)).alloc (.cells #[.int .i64 mn] 3)).alloc (.cells #[.slice none 0 0, .slice none 0 0] 25)) (ht.next hal) (Tb.sliE_lt fr mn) (Lib.hid fun h0 W' B G cv dv vs hB hb hO => by
    rw [hsz] at hB
    exact slice1_any _ _ fr mn t W' B G cv dv vs hO h0 (by omega) (by omega) (boxed_next hB0 hb) (boxed_next hB1 hb) hfr hmn))
  generalize Tb.chg t (Tb.sliE fr mn) (Tb.sli t fr mn) = r at *
  obtain ⟨r1, r2⟩ := r
  have HR := Lib.hid hR
  have HAL := Lib.hid hal
  have HSZ := Lib.hid hsz
  clear ht hT hR hal hsz hB0 hB1 a0 a1 a2 a3 z1 z2 z3
  go_enter Try.func28, Try.ntmps28
  go_wp2_with fail
  refine (HC.out).mono ?_
  rintro e w1 ⟨ra, rc, rda, rdc, rfl, hf1, hb1⟩
  have q0 := HR.out.next hb1
  have hwl : w.heap.size + 3 < ((((w.alloc (.cells #[.slice ca t.cols.length cc, .slice da t.data.length dc] 25)).alloc (.cells #[.int .i64 fr] 3)).alloc (.cells #[.int .i64 mn] 3)).alloc (.cells #[.slice none 0 0, .slice none 0 0] 25)).heap.size := by rw [HSZ.out]; omega
  have hws : w.heap.size ≤ ((((w.alloc (.cells #[.slice ca t.cols.length cc, .slice da t.data.length dc] 25)).alloc (.cells #[.int .i64 fr] 3)).alloc (.cells #[.int .i64 mn] 3)).alloc (.cells #[.slice none 0 0, .slice none 0 0] 25)).heap.size := by rw [HSZ.out]; omega
  have hbw := below_then HAL.out hb1
  obtain ⟨RB, hRB⟩ : ∃ RB, RB = w.heap.size + 3 := ⟨_, rfl⟩
  rw [← hRB] at q0 hwl ⊢
  have hRBw : w.heap.size ≤ RB := by omega
  have q1 := q0.s0 (.slice ra r1.cols.length rc)
  have q2 := q1.s1 (.slice rda r1.data.length rdc)
  have b0 := q0.c0
  have f0 := q0.free 0
  have b1 := q1.c1
  have f1 := q1.free 1
  have y0 := q2.c0
  have y1 := q2.c1
  have HFT := Lib.hid (ftab_set hf1 hwl hws (.slice ra r1.cols.length rc) (.slice rda r1.data.length rdc))
  have HB3 := Lib.hid ((hbw.setCell (p := ⟨RB, 0, none⟩) hRBw (.slice ra r1.cols.length rc)).setCell (p := ⟨RB, 1, none⟩) hRBw (.slice rda r1.data.length rdc))
  clear hRB hf1 hb1 q0 q1 q2 hbw d0 d1
  go_wp2_with fail
  refine bodyPost_ret (v := .tuple #[tag ra r1.cols.length rc rda r1.data.length rdc, .int .i64 r2]) (by simp [results, Try.results28, go_sem, y0, y1]) rfl ?_
  exact ⟨ra, rc, rda, rdc, rfl, HFT.out, HB3.out⟩
end Go.Proofs.Ytnjnalehfhfefaa
/- The walk of table.Append. -/
namespace Go.Proofs.Ytnjnalehfhfefaa
open Go.RowKit
set_option linter.unusedVariables false

set_option maxHeartbeats 2000000 in
set_option maxRecDepth 100000 in
theorem tAppend_any (ca : Option Addr) (cc : Nat) (da : Option Addr) (dc : Nat) (t : Tb.T) (oa : Option Addr) (occ : Nat) (oda : Option Addr) (odc : Nat) (o : Tb.T) (w : World) (ht : Tbl w w.heap.size ca cc da dc t) (hto : Tbl w w.heap.size oa occ oda odc o) :
    Calls Try.prog 29 #[tag ca t.cols.length cc da t.data.length dc, tag oa o.cols.length occ oda o.data.length odc] w (TabPost (Tb.chg t (Tb.appE t o) (Tb.app t o)) w) := by
  have a0 : Below w.heap.size w (w.alloc (.cells #[.slice ca t.cols.length cc, .slice da t.data.length dc] 25)) := (Below.refl _ _).alloc (Nat.le_refl _) _
  have a1 : Below (w.alloc (.cells #[.slice ca t.cols.length cc, .slice da t.data.length dc] 25)).heap.size (w.alloc (.cells #[.slice ca t.cols.length cc, .slice da t.data.length dc] 25)) ((w.alloc (.cells #[.slice ca t.cols.length cc, .slice da t.data.length dc] 25)).alloc (.cells #[.slice oa o.cols.length occ, .slice oda o.data.length odc] 25)) := (Below.refl _ _).alloc (Nat.le_refl _) _
  have a2 : Below ((w.alloc (.cells #[.slice ca t.cols.length cc, .slice da t.data.length dc] 25)).alloc (.cells #[.slice oa o.cols.length occ, .slice oda o.data.length odc] 25)).heap.size ((w.alloc (.cells #[.slice ca t.cols.length cc, .slice da t.data.length dc] 25)).alloc (.cells #[.slice oa o.cols.length occ, .slice oda o.data.length odc] 25)) (((w.alloc (.cells #[.slice ca t.cols.length cc, .slice da t.data.length dc] 25)).alloc (.cells #[.slice oa o.cols.length occ, .slice oda o.data.length odc] 25)).alloc (.cells #[.slice none 0 0, .slice none 0 0] 25)) := (Below.refl _ _).alloc (Nat.le_refl _) _
  have z1 : (w.alloc (.cells #[.slice ca t.cols.length cc, .slice da t.data.length dc] 25)).heap.size = w.heap.size + 1 := by simp
  have z2 : ((w.alloc (.cells #[.slice ca t.cols.length cc, .slice da t.data.length dc] 25)).alloc (.cells #[.slice oa o.cols.length occ, .slice oda o.data.length odc] 25)).heap.size = w.heap.size + 2 := by simp
  have hT := two_new w 25 (.slice ca t.cols.length cc) (.slice da t.data.length dc)
  have HT := Lib.hid (Two.next (Two.next (hT) a1) a2)
  have hB0 := Two.next (two_new (w.alloc (.cells #[.slice ca t.cols.length cc, .slice da t.data.length dc] 25)) 25 (.slice oa o.cols.length occ) (.slice oda o.data.length odc)) a2
  rw [z1] at hB0
  have hR := two_new ((w.alloc (.cells #[.slice ca t.cols.length cc, .slice da t.data.length dc] 25)).alloc (.cells #[.slice oa o.cols.length occ, .slice oda o.data.length odc] 25)) 25 (.slice none 0 0) (.slice none 0 0)
  rw [z2] at hR
  have hal := below_then (below_then (a0) a1) a2
  have hsz : (((w.alloc (.cells #[.slice ca t.cols.length cc, .slice da t.data.length dc] 25)).alloc (.cells #[.slice oa o.cols.length occ, .slice oda o.data.length odc] 25)).alloc (.cells #[.slice none 0 0, .slice none 0 0] 25)).heap.size = w.heap.size + 3 := by simp
  have d0 := HT.out.c0
  have d1 := HT.out.c1
  have HC := Lib.hid (changedAppend_any (w.heap.size + 1) ca cc da dc t (Tb.appE t o) (Tb.app t o) (((w.alloc (.cells #[.slice ca t.cols.length cc, .slice da t.data.length dc] 25)).alloc (.cells #[.slice oa o.cols.length occ, .slice oda o.data.length odc] 25)).alloc (.cells #[.slice none 0 0, .slice none 0 0] 25)) (ht.next hal) (Tb.appE_lt t o) (Lib.hid fun h0 W' B G cv dv vs hB hb hO => by
    rw [hsz] at hB
    exact append1_any _ oa occ oda odc o t W' B G cv dv vs hO h0 (by omega) (Two.next hB0 hb) (Tbl.mono (Tbl.below hto (below_then hal hb)) (by omega))))
  generalize Tb.chg t (Tb.appE t o) (Tb.app t o) = r at *
  obtain ⟨r1, r2⟩ := r
  have HR := Lib.hid hR
  have HAL := Lib.hid hal
  have HSZ := Lib.hid hsz
  clear ht hT hR hal hsz hB0 a0 a1 a2 z1 z2
  go_enter Try.func29, Try.ntmps29
  go_wp2_with fail
  refine (HC.out).mono ?_
  rintro e w1 ⟨ra, rc, rda, rdc, rfl, hf1, hb1⟩
  have q0 := HR.out.next hb1
  have hwl : w.heap.size + 2 < (((w.alloc (.cells #[.slice ca t.cols.length cc, .slice da t.data.length dc] 25)).alloc (.cells #[.slice oa o.cols.length occ, .slice oda o.data.length odc] 25)).alloc (.cells #[.slice none 0 0, .slice none 0 0] 25)).heap.size := by rw [HSZ.out]; omega
  have hws : w.heap.size ≤ (((w.alloc (.cells #[.slice ca t.cols.length cc, .slice da t.data.length dc] 25)).alloc (.cells #[.slice oa o.cols.length occ, .slice oda o.data.length odc] 25)).alloc (.cells #[.slice none 0 0, .slice none 0 0] 25)).heap.size := by rw [HSZ.out]; omega
  have hbw := below_then HAL.out hb1
  obtain ⟨RB, hRB⟩ : ∃ RB, RB = w.heap.size + 2 := ⟨_, rfl⟩
  rw [← hRB] at q0 hwl ⊢
  have hRBw : w.heap.size ≤ RB := by omega
  have q1 := q0.s0 (.slice ra r1.cols.length rc)
  have q2 := q1.s1 (.slice rda r1.data.length rdc)
  have b0 := q0.c0
  have f0 := q0.free 0
  have b1 := q1.c1
  have f1 := q1.free 1
  have y0 := q2.c0
  have y1 := q2.c1
  have HFT := Lib.hid (ftab_set hf1 hwl hws (.slice ra r1.cols.length rc) (.slice rda r1.data.length rdc))
  have HB3 := Lib.hid ((hbw.setCell (p := ⟨RB, 0, none⟩) hRBw (.slice ra r1.cols.length rc)).setCell (p := ⟨RB, 1, none⟩) hRBw (.slice rda r1.data.length rdc))
  clear hRB hf1 hb1 q0 q1 q2 hbw d0 d1
  go_wp2_with fail
  refine bodyPost_ret (v := .tuple #[tag ra r1.cols.length rc rda r1.data.length rdc, .int .i64 r2]) (by simp [results, Try.results29, go_sem, y0, y1]) rfl ?_
  exact ⟨ra, rc, rda, rdc, rfl, HFT.out, HB3.out⟩
end Go.Proofs.Ytnjnalehfhfefaa
/- The walk of table.Drop. -/
namespace Go.Proofs.Ytnjnalehfhfefaa
open Go.RowKit
set_option linter.unusedVariables false

set_option maxHeartbeats 2000000 in
set_option maxRecDepth 100000 in
theorem tDrop_any (ca : Option Addr) (cc : Nat) (da : Option Addr) (dc : Nat) (t : Tb.T) (n : List UInt8) (w : World) (ht : Tbl w w.heap.size ca cc da dc t)  :
    Calls Try.prog 13 #[tag ca t.cols.length cc da t.data.length dc, .string (str n)] w (TabPost (Tb.chg t (Tb.dropE t n) (Tb.drop t n)) w) := by
  have a0 : Below w.heap.size w (w.alloc (.cells #[.slice ca t.cols.length cc, .slice da t.data.length dc] 25)) := (Below.refl _ _).alloc (Nat.le_refl _) _
  have a1 : Below (w.alloc (.cells #[.slice ca t.cols.length cc, .slice da t.data.length dc] 25)).heap.size (w.alloc (.cells #[.slice ca t.cols.length cc, .slice da t.data.length dc] 25)) ((w.alloc (.cells #[.slice ca t.cols.length cc, .slice da t.data.length dc] 25)).alloc (.cells #[.string (str n)] 9)) := (Below.refl _ _).alloc (Nat.le_refl _) _
  have a2 : Below ((w.alloc (.cells #[.slice ca t.cols.length cc, .slice da t.data.length dc] 25)).alloc (.cells #[.string (str n)] 9)).heap.size ((w.alloc (.cells #[.slice ca t.cols.length cc, .slice da t.data.length dc] 25)).alloc (.cells #[.string (str n)] 9)) (((w.alloc (.cells #[.slice ca t.cols.length cc, .slice da t.data.length dc] 25)).alloc (.cells #[.string (str n)] 9)).alloc (.cells #[.slice none 0 0, .slice none 0 0] 25)) := (Below.refl _ _).alloc (Nat.le_refl _) _
  have z1 : (w.alloc (.cells #[.slice ca t.cols.length cc, .slice da t.data.length dc] 25)).heap.size = w.heap.size + 1 := by simp
  have z2 : ((w.alloc (.cells #[.slice ca t.cols.length cc, .slice da t.data.length dc] 25)).alloc (.cells #[.string (str n)] 9)).heap.size = w.heap.size + 2 := by simp
  have hT := two_new w 25 (.slice ca t.cols.length cc) (.slice da t.data.length dc)
  have HT := Lib.hid (Two.next (Two.next (hT) a1) a2)
  have hB0 := boxed_next (boxed_new (w.alloc (.cells #[.slice ca t.cols.length cc, .slice da t.data.length dc] 25)) (.string (str n)) 9) a2
  rw [z1] at hB0
  have hR := two_new ((w.alloc (.cells #[.slice ca t.cols.length cc, .slice da t.data.length dc] 25)).alloc (.cells #[.string (str n)] 9)) 25 (.slice none 0 0) (.slice none 0 0)
  rw [z2] at hR
  have hal := below_then (below_then (a0) a1) a2
  have hsz : (((w.alloc (.cells #[.slice ca t.cols.length cc, .slice da t.data.length dc] 25)).alloc (.cells #[.string (str n)] 9)).alloc (.cells #[.slice none 0 0, .slice none 0 0] 25)).heap.size = w.heap.size + 3 := by simp
  have d0 := HT.out.c0
  have d1 := HT.out.c1
  have HC := Lib.hid (changedDrop_any (w.heap.size + 1) ca cc da dc t (Tb.dropE t n) (Tb.drop t n) (((w.alloc (.cells #[.slice ca t.cols.length cc, .slice da t.data.length dc] 25)).alloc (.cells #[.string (str n)] 9)).alloc (.cells #[.slice none 0 0, .slice none 0 0] 25)) (ht.next hal) (Tb.dropE_lt t n) (Lib.hid fun h0 W' B G cv dv vs hB hb hO => by
    rw [hsz] at hB
    exact drop1_any _ n t W' B G cv dv vs hO h0 (by omega) (boxed_next hB0 hb)))
  generalize Tb.chg t (Tb.dropE t n) (Tb.drop t n) = r at *
  obtain ⟨r1, r2⟩ := r
  have HR := Lib.hid hR
  have HAL := Lib.hid hal
  have HSZ := Lib.hid hsz
  clear ht hT hR hal hsz hB0 a0 a1 a2 z1 z2
  go_enter Try.func13, Try.ntmps13
  go_wp2_with fail
  refine (HC.out).mono ?_
  rintro e w1 ⟨ra, rc, rda, rdc, rfl, hf1, hb1⟩
  have q0 := HR.out.next hb1
  have hwl : w.heap.size + 2 < (((w.alloc (.cells #[.slice ca t.cols.length cc, .slice da t.data.length dc] 25)).alloc (.cells #[.string (str n)] 9)).alloc (.cells #[.slice none 0 0, .slice none 0 0] 25)).heap.size := by rw [HSZ.out]; omega
  have hws : w.heap.size ≤ (((w.alloc (.cells #[.slice ca t.cols.length cc, .slice da t.data.length dc] 25)).alloc (.cells #[.string (str n)] 9)).alloc (.cells #[.slice none 0 0, .slice none 0 0] 25)).heap.size := by rw [HSZ.out]; omega
  have hbw := below_then HAL.out hb1
  obtain ⟨RB, hRB⟩ : ∃ RB, RB = w.heap.size + 2 := ⟨_, rfl⟩
  rw [← hRB] at q0 hwl ⊢
  have hRBw : w.heap.size ≤ RB := by omega
  have q1 := q0.s0 (.slice ra r1.cols.length rc)
  have q2 := q1.s1 (.slice rda r1.data.length rdc)
  have b0 := q0.c0
  have f0 := q0.free 0
  have b1 := q1.c1
  have f1 := q1.free 1
  have y0 := q2.c0
  have y1 := q2.c1
  have HFT := Lib.hid (ftab_set hf1 hwl hws (.slice ra r1.cols.length rc) (.slice rda r1.data.length rdc))
  have HB3 := Lib.hid ((hbw.setCell (p := ⟨RB, 0, none⟩) hRBw (.slice ra r1.cols.length rc)).setCell (p := ⟨RB, 1, none⟩) hRBw (.slice rda r1.data.length rdc))
  clear hRB hf1 hb1 q0 q1 q2 hbw d0 d1
  go_wp2_with fail
  refine bodyPost_ret (v := .tuple #[tag ra r1.cols.length rc rda r1.data.length rdc, .int .i64 r2]) (by simp [results, Try.results13, go_sem, y0, y1]) rfl ?_
  exact ⟨ra, rc, rda, rdc, rfl, HFT.out, HB3.out⟩
end Go.Proofs.Ytnjnalehfhfefaa
