/- The walk of table.Append. -/
import Derived.Test.YtnjnalehfhfefaaTbC8
import Derived.Test.YtnjnalehfhfefaaTbD8
import Derived.Test.YtnjnalehfhfefaaTbF0
namespace Go.Proofs.Ytnjnalehfhfefaa
open Go.RowKit
set_option linter.unusedVariables false

set_option maxHeartbeats 2000000 in
set_option maxRecDepth 100000 in
theorem tAppend_any (ca : Option Addr) (cc : Nat) (da : Option Addr) (dc : Nat) (t : Tb.T) (oa : Option Addr) (occ : Nat) (oda : Option Addr) (odc : Nat) (o : Tb.T) (w : World) (ht : Tbl w w.heap.size ca cc da dc t) (hto : Tbl w w.heap.size oa occ oda odc o) :
    Calls Try.prog 29 #[tag ca t.cols.length cc da t.data.length dc, tag oa o.cols.length occ oda o.data.length odc] w (TabPost (Tb.chg t (Tb.appE t o) (Tb.app t o)) w) := by
  have a0 : Below w.heap.size w (w.alloc (.cells #[.slice ca t.cols.length cc, .slice da t.data.length dc] 25)) := (Below.refl _ _).alloc (Nat.le_refl _) _
  have a1 : Below (w.alloc (.cells #[.slice ca t.cols.length cc, .slice da t.data.length dc] 25)).heap.size (w.alloc (.cells #[.slice ca t.cols.length cc, .slice da t.data.length dc] 25)) ((w.alloc (.cells #[.slice ca t.cols.length cc, .slice da t.data.length dc] 25)).alloc (.cells #[.slice oa o.cols.length occ, .slice oda o.data.length odc] 25)) := (Below.refl _ _).alloc (Nat.le_refl _) _
  have a2 : Below ((w.alloc (.cells #[.slice ca t.cols.length cc, .slice da t.data.length dc] 25)).alloc (.cells #[.slice oa o.cols.length occ, .slice oda o.data.length odc] 25)).heap.size ((w.alloc (.cells #[.slice ca t.cols.length cc, .slice da t.data.length dc] 25)).alloc (.cells #[.slice oa o.cols.length occ, .slice oda o.data.length odc] 25)) (((w.alloc (.cells #[.slice ca t.cols.length cc, .slice da t.data.length dc] 25)).alloc (.cells #[.slice oa o.cols.length occ, .slice oda o.data.length odc] 25)).alloc (.cells #[.slice none 0 0, .slice none 0 0] 25)) := (Below.refl _ _).alloc (Nat.le_refl _) _
  have z1 : (w.alloc (.cells #[.slice ca t.cols.length cc, .slice da t.data.length dc] 25)).heap.size = w.heap.size + 1 := by simp
  have z2 : ((w.alloc (.cells #[.slice ca t.cols.length cc, .slice da t.data.length dc] 25)).alloc (.cells #[.slice oa o.cols.length occ, .slice oda o.data.length odc] 25)).heap.size = w.heap.size + 2 := by simp
  have hT := two_new w 25 (.slice ca t.cols.length cc) (.slice da t.data.length dc)
  have HT := Lib.hid (Two.next (Two.next (hT) a1) a2)
  have hB0 := Two.next (two_new (w.alloc (.cells #[.slice ca t.cols.length cc, .slice da t.data.length dc] 25)) 25 (.slice oa o.cols.length occ) (.slice oda o.data.length odc)) a2
  rw [z1] at hB0
  have hR := two_new ((w.alloc (.cells #[.slice ca t.cols.length cc, .slice da t.data.length dc] 25)).alloc (.cells #[.slice oa o.cols.length occ, .slice oda o.data.length odc] 25)) 25 (.slice none 0 0) (.slice none 0 0)
  rw [z2] at hR
  have hal := below_then (below_then (a0) a1) a2
  have hsz : (((w.alloc (.cells #[.slice ca t.cols.length cc, .slice da t.data.length dc] 25)).alloc (.cells #[.slice oa o.cols.length occ, .slice oda o.data.length odc] 25)).alloc (.cells #[.slice none 0 0, .slice none 0 0] 25)).heap.size = w.heap.size + 3 := by simp
  have d0 := HT.out.c0
  have d1 := HT.out.c1
  have HC := Lib.hid (changedAppend_any (w.heap.size + 1) ca cc da dc t (Tb.appE t o) (Tb.app t o) (((w.alloc (.cells #[.slice ca t.cols.length cc, .slice da t.data.length dc] 25)).alloc (.cells #[.slice oa o.cols.length occ, .slice oda o.data.length odc] 25)).alloc (.cells #[.slice none 0 0, .slice none 0 0] 25)) (ht.next hal) (Tb.appE_lt t o) (Lib.hid fun h0 W' B G cv dv vs hB hb hO => by
    rw [hsz] at hB
    exact append1_any _ oa occ oda odc o t W' B G cv dv vs hO h0 (by omega) (Two.next hB0 hb) (Tbl.mono (Tbl.below hto (below_then hal hb)) (by omega))))
  generalize Tb.chg t (Tb.appE t o) (Tb.app t o) = r at *
  obtain ⟨r1, r2⟩ := r
  have HR := Lib.hid hR
  have HAL := Lib.hid hal
  have HSZ := Lib.hid hsz
  clear ht hT hR hal hsz hB0 a0 a1 a2 z1 z2
  go_enter Try.func29, Try.ntmps29
  go_wp2_with fail
  refine (HC.out).mono ?_
  rintro e w1 ⟨ra, rc, rda, rdc, rfl, hf1, hb1⟩
  have q0 := HR.out.next hb1
  have hwl : w.heap.size + 2 < (((w.alloc (.cells #[.slice ca t.cols.length cc, .slice da t.data.length dc] 25)).alloc (.cells #[.slice oa o.cols.length occ, .slice oda o.data.length odc] 25)).alloc (.cells #[.slice none 0 0, .slice none 0 0] 25)).heap.size := by rw [HSZ.out]; omega
  have hws : w.heap.size ≤ (((w.alloc (.cells #[.slice ca t.cols.length cc, .slice da t.data.length dc] 25)).alloc (.cells #[.slice oa o.cols.length occ, .slice oda o.data.length odc] 25)).alloc (.cells #[.slice none 0 0, .slice none 0 0] 25)).heap.size := by rw [HSZ.out]; omega
  have hbw := below_then HAL.out hb1
  obtain ⟨RB, hRB⟩ : ∃ RB, RB = w.heap.size + 2 := ⟨_, rfl⟩
  rw [← hRB] at q0 hwl ⊢
  have hRBw : w.heap.size ≤ RB := by omega
  have q1 := q0.s0 (.slice ra r1.cols.length rc)
  have q2 := q1.s1 (.slice rda r1.data.length rdc)
  have b0 := q0.c0
  have f0 := q0.free 0
  have b1 := q1.c1
  have f1 := q1.free 1
  have y0 := q2.c0
  have y1 := q2.c1
  have HFT := Lib.hid (ftab_set hf1 hwl hws (.slice ra r1.cols.length rc) (.slice rda r1.data.length rdc))
  have HB3 := Lib.hid ((hbw.setCell (p := ⟨RB, 0, none⟩) hRBw (.slice ra r1.cols.length rc)).setCell (p := ⟨RB, 1, none⟩) hRBw (.slice rda r1.data.length rdc))
  clear hRB hf1 hb1 q0 q1 q2 hbw d0 d1
  go_wp2_with fail
  refine bodyPost_ret (v := .tuple #[tag ra r1.cols.length rc rda r1.data.length rdc, .int .i64 r2]) (by simp [results, Try.results29, go_sem, y0, y1]) rfl ?_
  exact ⟨ra, rc, rda, rdc, rfl, HFT.out, HB3.out⟩
end Go.Proofs.Ytnjnalehfhfefaa
