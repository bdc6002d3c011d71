/- The walk of bloom.May. -/
import Derived.Test.YtbhggbohkddlaaaBlW4
import Derived.Test.YtbhggbohkddlaaaBlEq
import Derived.Test.YtbhggbohkddlaaaWB
namespace Go.Proofs.Ytbhggbohkddlaaa
open Go.RowKit
set_option linter.unusedVariables false

set_option maxHeartbeats 4000000 in
set_option maxRecDepth 100000 in
theorem may_any (f : Bl.F) (c : C.Cl) (w : World) (hf : Bl.fOk f) (hc : cOk c) : Calls Try.prog 13 #[fag f, cag c] w (BoolPost (Bl.may f c) w) := by
  have HAD := Lib.hid (fun W => add_any f c W hf hc)
  have HM := Lib.hid (show decide (Bl.add f c 0 = f 0 ∧ Bl.add f c 1 = f 1 ∧ Bl.add f c 2 = f 2 ∧ Bl.add f c 3 = f 3) = Bl.may f c by
    rw [Bool.eq_iff_iff, decide_eq_true_iff, four_iff]; exact (Bl.may_words f c).symm)
  generalize Bl.add f c = X at *
  have heq := fun w => fil_eql w (X 0) (X 1) (X 2) (X 3) (f 0) (f 1) (f 2) (f 3)
  have hgd := guards_fil .eql
  generalize hd : decide (X 0 = f 0 ∧ X 1 = f 1 ∧ X 2 = f 2 ∧ X 3 = f 3) = d at *
  unfold fag cag qv at *
  clear hf hc hd
  go_enter Try.func13, Try.ntmps13
  go_wp2_with fail
  have q0 := quad_new w f
  have t1 := tri_new (w.alloc (.cells (qv f) 23)) (.int .i64 c.kind) (.int .u64 (c.num : Int)) (.string (str c.txt))
  have q1 := (q0.next ((Below.refl _ _).alloc (Nat.le_refl _) (.cells #[.int .i64 c.kind, .int .u64 (c.num : Int), .string (str c.txt)] 26)))
  have hbw : Below w.heap.size w ((w.alloc (.cells (qv f) 23)).alloc (.cells #[.int .i64 c.kind, .int .u64 (c.num : Int), .string (str c.txt)] 26)) := by
    refine Below.alloc (Below.alloc (Below.refl _ _) (Nat.le_refl _) _) ?_ _ <;> simp
  rw [show (w.alloc (.cells (qv f) 23)).heap.size = w.heap.size + 1 by simp] at t1
  clear q0
  unfold qv at q1 t1 hbw
  generalize (w.alloc (.cells #[.int .u64 (f 0 : Nat), .int .u64 (f 1 : Nat), .int .u64 (f 2 : Nat), .int .u64 (f 3 : Nat)] 23)).alloc (.cells #[.int .i64 c.kind, .int .u64 (c.num : Int), .string (str c.txt)] 26) = W at *
  have hq := q1.lt
  have ht := t1.lt
  obtain ⟨a0, a1, a2, a3⟩ := q1.all
  have f0 : ∀ p : WB W, p.w.cell? ⟨w.heap.size, 0, none⟩ = some (.int .u64 (f 0 : Nat)) := fun p => p.cell hq a0
  have f1 : ∀ p : WB W, p.w.cell? ⟨w.heap.size, 1, none⟩ = some (.int .u64 (f 1 : Nat)) := fun p => p.cell hq a1
  have f2 : ∀ p : WB W, p.w.cell? ⟨w.heap.size, 2, none⟩ = some (.int .u64 (f 2 : Nat)) := fun p => p.cell hq a2
  have f3 : ∀ p : WB W, p.w.cell? ⟨w.heap.size, 3, none⟩ = some (.int .u64 (f 3 : Nat)) := fun p => p.cell hq a3
  have g0 : ∀ p : WB W, p.w.cell? ⟨w.heap.size + 1, 0, none⟩ = some (.int .i64 c.kind) := fun p => p.cell ht t1.c0
  have g1 : ∀ p : WB W, p.w.cell? ⟨w.heap.size + 1, 1, none⟩ = some (.int .u64 (c.num : Int)) := fun p => p.cell ht t1.c1
  have g2 : ∀ p : WB W, p.w.cell? ⟨w.heap.size + 1, 2, none⟩ = some (.string (str c.txt)) := fun p => p.cell ht t1.c2
  clear a0 a1 a2 a3 q1 t1 hq ht
  refine wp_region_wb (by kernel_rfl) (by kernel_rfl) ?_
  repeat (quiet_step ((go_at_call 9; exact calls_wb (HAD.out _))))
  refine wpQuiet_nil ?_
  rintro _ ⟨p, rfl⟩
  have hp := p.below
  go_wp2_with fail
  go_ret
  exact ⟨by rw [← HM.out]; rfl, below_then hbw hp⟩
end Go.Proofs.Ytbhggbohkddlaaa
