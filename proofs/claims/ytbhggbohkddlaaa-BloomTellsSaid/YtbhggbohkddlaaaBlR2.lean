/- The walks of hypostyleref.MarksAt, HasMark, MayOf. -/
import Derived.Test.YtbhggbohkddlaaaBlR1
import Derived.Test.YtbhggbohkddlaaaPow2
namespace Go.Proofs.Ytbhggbohkddlaaa
open Go.RowKit
set_option linter.unusedVariables false

def ThreePost (h : Nat) (w : World) (e : Ending) (w' : World) : Prop :=
  ∃ g, e = .returned (.slice (some ⟨g, 0, none⟩) 3 3) ∧ g < w'.heap.size ∧ w.heap.size ≤ g ∧ w'.cell? ⟨g, 0, none⟩ = some (.int .i64 (Bl.m0 h : Nat)) ∧ w'.cell? ⟨g, 1, none⟩ = some (.int .i64 (Bl.m1 h : Nat)) ∧ w'.cell? ⟨g, 2, none⟩ = some (.int .i64 (Bl.m2 h : Nat)) ∧ Below w.heap.size w w'

set_option maxHeartbeats 2000000 in
set_option maxRecDepth 100000 in
theorem marksAt_any (c : C.Cl) (w : World) (hc : cOk c) (hm : c.txt.length + 16 ≤ maxLen) : Calls Try.prog 25 #[cag c] w (ThreePost (Bl.hash c) w) := by
  have HH := Lib.hid (fun W => hashOf_any c W hc hm)
  have hq := Bl.hash_lt c
  have hal := (Below.refl w.heap.size w).alloc (Nat.le_refl _) (.cells #[.int .i64 c.kind, .int .u64 (c.num : Int), .string (str c.txt)] 26)
  generalize Bl.hash c = h at *
  unfold cag at *
  clear hc hm
  have q0 : (h : Int) % 256 = (Bl.m0 h : Nat) := by unfold Bl.m0; omega
  have q1 : (h : Int) / 1048576 % 256 = (Bl.m1 h : Nat) := by unfold Bl.m1; omega
  have q2 : (h : Int) / 1099511627776 % 256 = (Bl.m2 h : Nat) := by unfold Bl.m2; omega
  have l0 : Bl.m0 h < 256 := Nat.mod_lt _ (by omega)
  have l1 : Bl.m1 h < 256 := Nat.mod_lt _ (by omega)
  have l2 : Bl.m2 h < 256 := Nat.mod_lt _ (by omega)
  unfold ThreePost
  generalize Bl.m0 h = a at *
  generalize Bl.m1 h = b at *
  generalize Bl.m2 h = d at *
  go_enter Try.func25, Try.ntmps25
  go_wp2_with fail
  refine (HH.out _).mono ?_
  rintro e w1 ⟨rfl, hb1⟩
  have h1 := below_then hal hb1
  have hs := h1.size
  clear hal hb1
  go_wp2_with fail
  go_ret
  refine ⟨w1.heap.size, rfl, by simp, hs, ?_, ?_, ?_, h1.alloc hs _⟩ <;> simp [World.cell?_alloc_new]

set_option maxHeartbeats 2000000 in
set_option maxRecDepth 100000 in
theorem hasMark_any (f : Bl.F) (m : Nat) (w : World) (hf : Bl.fOk f) (hm : m < 256) : Calls Try.prog 26 #[fag f, .int .i64 m] w (BoolPost (Bl.has f m) w) := by
  have HP := Lib.hid (fun W => pow2_any (m % 64) W (by omega))
  have HR := Lib.hid (Bl.has_div f m)
  have q0 := quad_new w f
  have hbw := (Below.refl w.heap.size w).alloc (Nat.le_refl _) (.cells (qv f) 23)
  have hlt := q0.lt
  have hc : ∀ p : WB (w.alloc (.cells (qv f) 23)), p.w.cell? ⟨w.heap.size, m / 64, none⟩ = some (.int .u64 (f (m / 64) : Nat)) := fun p => p.cell hlt (q0.c (m / 64) (by omega))
  have hx := hf (m / 64) (by omega)
  have hp : 0 < 2 ^ (m % 64) := Nat.two_pow_pos _
  have hp2 : 2 ^ (m % 64) < 18446744073709551616 := Nat.pow_lt_pow_right (n := 64) (by omega) (Nat.mod_lt _ (by omega))
  generalize hj : m / 64 = j at *
  generalize hr : m % 64 = r at *
  have hj4 : j < 4 := by omega
  have hr64 : r < 64 := by omega
  have e1 : (m : Int) / 64 = (j : Int) := by omega
  have e2 : (m : Int).tmod 64 = (r : Int) := by rw [Int.tmod_eq_emod_of_nonneg (by omega)]; omega
  have hjI : (j : Int) < 4 := by omega
  have hwj : IntKind.i64.wrap (j : Int) = j := IntWalk.i64_in _ (by omega)
  have hwr : IntKind.i64.wrap (r : Int) = r := IntWalk.i64_in _ (by omega)
  generalize f j = x at *
  generalize 2 ^ r = P at *
  have hP : ¬ P = 0 := by omega
  have hdv : (IntKind.u64.wrap ((x : Int) / (P : Int))) = ((x / P : Nat) : Int) := by
    have h1 : x / P ≤ x := Nat.div_le_self _ _
    have h2 : (x : Int) / (P : Int) = ((x / P : Nat) : Int) := by simp
    rw [h2]
    generalize x / P = y at *
    rw [IntKind.wrap_u64]
    omega
  have hyx : x / P ≤ x := Nat.div_le_self _ _
  generalize x / P = y at *
  clear hj hr hf q0 hlt
  unfold fag
  go_enter Try.func26, Try.ntmps26
  go_wp2_with fail
  generalize w.alloc (.cells (qv f) 23) = W at *
  refine wp_region_wb (by kernel_rfl) (by kernel_rfl) ?_
  repeat (quiet_step ((go_at_call 27; exact calls_wb ((HP.out _).mono (fun _ _ h => ⟨h.1, h.2 ▸ Below.refl _ _⟩)))))
  refine wpQuiet_nil ?_
  rintro _ ⟨p, rfl⟩
  have hp := below_then hbw p.below
  go_wp2_with fail
  go_ret
  refine ⟨?_, hp⟩
  rw [HR.out]
  show Ending.returned (Value.bool ((y : Int).tmod 2 == 1)) = _
  rw [Int.tmod_eq_emod_of_nonneg (by omega)]
  by_cases h : y % 2 = 1
  · have h2 : ((y : Int) % 2 == 1) = true := by rw [beq_iff_eq]; omega
    rw [h2, decide_eq_true h]
  · have h2 : ((y : Int) % 2 == 1) = false := by rw [beq_eq_false_iff_ne]; omega
    rw [h2, decide_eq_false h]

set_option maxHeartbeats 4000000 in
set_option maxRecDepth 100000 in
theorem mayOf_any (f : Bl.F) (c : C.Cl) (w : World) (hf : Bl.fOk f) (hc : cOk c) (hm : c.txt.length + 16 ≤ maxLen) : Calls Try.prog 14 #[fag f, cag c] w (BoolPost (Bl.may f c) w) := by
  have HM := Lib.hid (fun W => marksAt_any c W hc hm)
  have H0 := Lib.hid (fun W => hasMark_any f (Bl.m0 (Bl.hash c)) W hf (Nat.mod_lt _ (by omega)))
  have H1 := Lib.hid (fun W => hasMark_any f (Bl.m1 (Bl.hash c)) W hf (Nat.mod_lt _ (by omega)))
  have H2 := Lib.hid (fun W => hasMark_any f (Bl.m2 (Bl.hash c)) W hf (Nat.mod_lt _ (by omega)))
  have HR := Lib.hid (show Bl.may f c = (Bl.has f (Bl.m0 (Bl.hash c)) && Bl.has f (Bl.m1 (Bl.hash c)) && Bl.has f (Bl.m2 (Bl.hash c))) from rfl)
  unfold ThreePost at HM
  generalize Bl.has f (Bl.m0 (Bl.hash c)) = b0 at *
  generalize Bl.has f (Bl.m1 (Bl.hash c)) = b1 at *
  generalize Bl.has f (Bl.m2 (Bl.hash c)) = b2 at *
  generalize Bl.m0 (Bl.hash c) = n0 at *
  generalize Bl.m1 (Bl.hash c) = n1 at *
  generalize Bl.m2 (Bl.hash c) = n2 at *
  unfold fag cag qv at *
  clear hf hc hm
  have q0 := quad_new w f
  have q1 := (q0.next ((Below.refl _ _).alloc (Nat.le_refl _) (.cells #[.int .i64 c.kind, .int .u64 (c.num : Int), .string (str c.txt)] 26)))
  have hbw : Below w.heap.size w ((w.alloc (.cells (qv f) 23)).alloc (.cells #[.int .i64 c.kind, .int .u64 (c.num : Int), .string (str c.txt)] 26)) := by
    refine Below.alloc (Below.alloc (Below.refl _ _) (Nat.le_refl _) _) ?_ _ <;> simp
  clear q0
  unfold qv at q1 hbw
  go_enter Try.func14, Try.ntmps14
  go_wp2_with fail
  refine (HM.out _).mono ?_
  rintro e w1 ⟨g, rfl, hg, hg2, c0, c1, c2, hb1⟩
  have q2 := q1.next hb1
  have h1 := below_then hbw hb1
  clear hb1 q1 hbw hg2
  have hq := q2.lt
  obtain ⟨a0, a1, a2, a3⟩ := q2.all
  go_wp2_with fail
  have f0 : ∀ p : WB w1, p.w.cell? ⟨w.heap.size, 0, none⟩ = some (.int .u64 (f 0 : Nat)) := fun p => p.cell hq a0
  have f1 : ∀ p : WB w1, p.w.cell? ⟨w.heap.size, 1, none⟩ = some (.int .u64 (f 1 : Nat)) := fun p => p.cell hq a1
  have f2 : ∀ p : WB w1, p.w.cell? ⟨w.heap.size, 2, none⟩ = some (.int .u64 (f 2 : Nat)) := fun p => p.cell hq a2
  have f3 : ∀ p : WB w1, p.w.cell? ⟨w.heap.size, 3, none⟩ = some (.int .u64 (f 3 : Nat)) := fun p => p.cell hq a3
  have g0 : ∀ p : WB w1, p.w.cell? ⟨g, 0, none⟩ = some (.int .i64 (n0 : Int)) := fun p => p.cell hg c0
  have g1 : ∀ p : WB w1, p.w.cell? ⟨g, 1, none⟩ = some (.int .i64 (n1 : Int)) := fun p => p.cell hg c1
  have g2 : ∀ p : WB w1, p.w.cell? ⟨g, 2, none⟩ = some (.int .i64 (n2 : Int)) := fun p => p.cell hg c2
  clear a0 a1 a2 a3 c0 c1 c2 q2
  cases b0 <;> cases b1 <;> cases b2
  all_goals
    refine wp_region_wbh (by kernel_rfl) (by kernel_rfl) ?_
    iterate 5 (refine wq_step (fun K hK => ?_); go_simp; first | (refine hK _ ?_; clear hK K) | (apply Exists.intro; refine ⟨fun _ => ?_, hK _ ?_⟩; (go_at_call 26; exact calls_wb (H0.out _)); clear hK K))
    iterate 6 (refine wq_step (fun K hK => ?_); go_simp; first | (refine hK _ ?_; clear hK K) | (apply Exists.intro; refine ⟨fun _ => ?_, hK _ ?_⟩; (go_at_call 26; exact calls_wb (H1.out _)); clear hK K))
    iterate 7 (refine wq_step (fun K hK => ?_); go_simp; first | (refine hK _ ?_; clear hK K) | (apply Exists.intro; refine ⟨fun _ => ?_, hK _ ?_⟩; (go_at_call 26; exact calls_wb (H2.out _)); clear hK K))
    iterate 2 (refine wq_step (fun K hK => ?_); go_simp; refine hK _ ?_; clear hK K)
    refine wq_nil ?_
    rintro _ ⟨p, rfl⟩
    have hp := below_then h1 p.below
    go_wp2_with fail
    go_ret
    exact ⟨by rw [HR.out]; rfl, hp⟩
end Go.Proofs.Ytbhggbohkddlaaa
