/- The walks of bloom.Add, May, Of. -/
import Derived.Test.YtbhggbohkddlaaaBlW3
namespace Go.Proofs.Ytbhggbohkddlaaa
open Go.RowKit
set_option linter.unusedVariables false

set_option maxHeartbeats 4000000 in
set_option maxRecDepth 100000 in
theorem add_any (f : Bl.F) (c : C.Cl) (w : World) (hf : Bl.fOk f) (hc : cOk c) : Calls Try.prog 9 #[fag f, cag c] w (FilPost (Bl.add f c) w) := by
  have HM := Lib.hid (fun W => marks_any c W hc)
  have HU := Lib.hid (fun W => union_any f (Bl.marks (Bl.hash c)) W hf (Bl.marks_ok _))
  have HA := Lib.hid (show Bl.orf f (Bl.marks (Bl.hash c)) = Bl.add f c from rfl)
  have hq : fag (Bl.marks (Bl.hash c)) = .agg (qv (Bl.marks (Bl.hash c))) := rfl
  generalize Bl.marks (Bl.hash c) = M at *
  generalize Bl.orf f M = X at *
  unfold fag cag qv at *
  clear hq hf
  go_enter Try.func9, Try.ntmps9
  go_wp2_with fail
  have q0 := quad_new w f
  have t0 := tri_new (w.alloc (.cells (qv f) 23)) (.int .i64 c.kind) (.int .u64 (c.num : Int)) (.string (str c.txt))
  have r0 := quad_none ((w.alloc (.cells (qv f) 23)).alloc (.cells #[.int .i64 c.kind, .int .u64 (c.num : Int), .string (str c.txt)] 26))
  have q1 := (q0.next ((Below.refl _ _).alloc (Nat.le_refl _) (.cells #[.int .i64 c.kind, .int .u64 (c.num : Int), .string (str c.txt)] 26))).next ((Below.refl _ _).alloc (Nat.le_refl _) (.cells #[.int .u64 0, .int .u64 0, .int .u64 0, .int .u64 0] 23))
  have t1 := t0.next ((Below.refl _ _).alloc (Nat.le_refl _) (.cells #[.int .u64 0, .int .u64 0, .int .u64 0, .int .u64 0] 23))
  have hbw : Below w.heap.size w (((w.alloc (.cells (qv f) 23)).alloc (.cells #[.int .i64 c.kind, .int .u64 (c.num : Int), .string (str c.txt)] 26)).alloc (.cells #[.int .u64 0, .int .u64 0, .int .u64 0, .int .u64 0] 23)) := by
    refine Below.alloc (Below.alloc (Below.alloc (Below.refl _ _) (Nat.le_refl _) _) ?_ _) ?_ _ <;> simp <;> omega
  rw [show (w.alloc (.cells (qv f) 23)).heap.size = w.heap.size + 1 by simp] at t1
  rw [show ((w.alloc (.cells (qv f) 23)).alloc (.cells #[.int .i64 c.kind, .int .u64 (c.num : Int), .string (str c.txt)] 26)).heap.size = w.heap.size + 1 + 1 by simp] at r0
  clear q0 t0
  unfold qv at q1 t1 r0 hbw
  generalize ((w.alloc (.cells #[.int .u64 (f 0 : Nat), .int .u64 (f 1 : Nat), .int .u64 (f 2 : Nat), .int .u64 (f 3 : Nat)] 23)).alloc (.cells #[.int .i64 c.kind, .int .u64 (c.num : Int), .string (str c.txt)] 26)).alloc (.cells #[.int .u64 0, .int .u64 0, .int .u64 0, .int .u64 0] 23) = W at *
  obtain ⟨a0, a1, a2, a3⟩ := q1.all
  have b0 := t1.c0
  have b1 := t1.c1
  have b2 := t1.c2
  have HQ := Lib.hid q1
  have HT := Lib.hid t1
  have HR := Lib.hid r0
  have HB := Lib.hid hbw
  clear q1 t1 r0 hbw
  go_region_with (first
    | (go_at_call 24; refine (HM.out _).mono ?_; rintro e w5 ⟨rfl, hb5⟩; have q5 := Quad.next (f := f) HQ.out.drew hb5; have r5 := Quad.next HR.out.drew hb5; have h5 := below_then HB.out.drew hb5; obtain ⟨c0, c1, c2, c3⟩ := q5.all; clear hb5)
    | (go_at_call 15; refine (HU.out _).mono ?_; rintro e w6 ⟨rfl, hb6⟩; have r6 := Quad.next r5 hb6; have h6 := below_then h5 hb6; obtain ⟨d0, d1, d2, d3⟩ := r6.all; have z0 := r6.free 0; have z1 := r6.free 1; have z2 := r6.free 2; have z3 := r6.free 3))
  all_goals
    obtain ⟨s0, s1, s2, s3⟩ := (r6.set4 X).all
    go_wp2_with fail
    refine bodyPost_ret (v := fag X) (by simp [results, Try.results9, go_sem, fag, qv, s0, s1, s2, s3]) rfl ⟨by rw [← HA.out]; rfl, ?_⟩
    exact (((h6.setCell (p := ⟨w.heap.size + 1 + 1, 0, none⟩) (by simp; omega) _).setCell (p := ⟨w.heap.size + 1 + 1, 1, none⟩) (by simp; omega) _).setCell (p := ⟨w.heap.size + 1 + 1, 2, none⟩) (by simp; omega) _).setCell (p := ⟨w.heap.size + 1 + 1, 3, none⟩) (by simp; omega) _
end Go.Proofs.Ytbhggbohkddlaaa
