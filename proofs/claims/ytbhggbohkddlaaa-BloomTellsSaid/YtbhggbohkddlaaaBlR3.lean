/- The walk of hypostyleref.UnionOf. -/
import Derived.Test.YtbhggbohkddlaaaBlR2
namespace Go.Proofs.Ytbhggbohkddlaaa
open Go.RowKit
set_option linter.unusedVariables false

theorem vstill {P : Program} {f : FuncId} {args : Array Value} {w : World} {v : Value} (h : Calls P f args w fun e w' => e = .returned v ∧ w = w') : Calls P f args w fun e w'' => e = .returned v ∧ w'' = w := h.mono fun _ _ ⟨a, b⟩ => ⟨a, b.symm⟩

set_option maxHeartbeats 4000000 in
set_option maxRecDepth 100000 in
theorem unionOf_any (f g : Bl.F) (w : World) (hf : Bl.fOk f) (hg : Bl.fOk g) : Calls Try.prog 16 #[fag f, fag g] w (FilPost (Bl.orf f g) w) := by
  have H0 := Lib.hid (fun m (h : m < 256) W => hasMark_any f m W hf h)
  have H1 := Lib.hid (fun m (h : m < 256) W => hasMark_any g m W hg h)
  have HFIN := Lib.hid (show fag (Bl.part f g 256) = fag (Bl.orf f g) from fag_congr (Bl.part_all hf hg))
  have HLE := Lib.hid (show ∀ k j, j < 4 → Bl.part f g k j < 18446744073709551616 from fun k j hj => by
    unfold Bl.part
    exact Nat.lt_of_le_of_lt (Nat.mod_le _ _) (Bl.orf_ok hf hg j hj))
  have HOTH := Lib.hid (fun i j hj h => Bl.part_other hf hg i j hj h)
  unfold fag qv at *
  clear hf hg
  go_enter Try.func16, Try.ntmps16
  go_wp2_with fail
  go_loopw [6] (fun i wr => ∃ k : Nat, k ≤ 256 ∧ i = .int .i64 k ∧ Quad wr w.heap.size f ∧ Quad wr (w.heap.size + 1) g ∧ Quad wr (w.heap.size + 1 + 1) Bl.none_ ∧ Quad wr (w.heap.size + 1 + 1 + 1) (Bl.part f g k) ∧ Below w.heap.size w wr) (fun i _ => 256 - (intOf i).toNat)
  case atStart =>
    have q0 : Quad (w.alloc (.cells (qv f) 23)) w.heap.size f := quad_new w f
    have q1 := q0.next ((Below.refl _ _).alloc (Nat.le_refl _) (.cells (qv g) 23))
    have q2 := q1.next ((Below.refl _ _).alloc (Nat.le_refl _) (.cells (qv Bl.none_) 23))
    have q3 := q2.next ((Below.refl _ _).alloc (Nat.le_refl _) (.cells (qv Bl.none_) 23))
    have p1 := quad_new (w.alloc (.cells (qv f) 23)) g
    have p2 := p1.next ((Below.refl _ _).alloc (Nat.le_refl _) (.cells (qv Bl.none_) 23))
    have p3 := p2.next ((Below.refl _ _).alloc (Nat.le_refl _) (.cells (qv Bl.none_) 23))
    have r2 := quad_new ((w.alloc (.cells (qv f) 23)).alloc (.cells (qv g) 23)) Bl.none_
    have r3 := r2.next ((Below.refl _ _).alloc (Nat.le_refl _) (.cells (qv Bl.none_) 23))
    have s3 := quad_new (((w.alloc (.cells (qv f) 23)).alloc (.cells (qv g) 23)).alloc (.cells (qv Bl.none_) 23)) Bl.none_
    rw [show (w.alloc (.cells (qv f) 23)).heap.size = w.heap.size + 1 by simp] at p3
    rw [show ((w.alloc (.cells (qv f) 23)).alloc (.cells (qv g) 23)).heap.size = w.heap.size + 1 + 1 by simp] at r3
    rw [show (((w.alloc (.cells (qv f) 23)).alloc (.cells (qv g) 23)).alloc (.cells (qv Bl.none_) 23)).heap.size = w.heap.size + 1 + 1 + 1 by simp] at s3
    refine ⟨0, by omega, rfl, q3, p3, r3, by rw [Bl.part_zero]; exact s3, ?_⟩
    refine Below.alloc (Below.alloc (Below.alloc (Below.alloc (Below.refl _ _) (Nat.le_refl _) _) ?_ _) ?_ _) ?_ _ <;> simp <;> omega
  case round =>
    obtain ⟨k, hk, rfl, hA, hB, hR, hO, hb⟩ := hrel
    have hsz := hO.lt
    by_cases hlt : k < 256
    · have h0 := Lib.hid (fun W => H0.out k hlt W)
      have h1 := Lib.hid (fun W => H1.out k hlt W)
      have hph := Bl.part_here f g k
      have HN := Lib.hid (fun j hj => HOTH.out k j hj)
      obtain ⟨a0, a1, a2, a3⟩ := hA.all
      have hkI : (k : Int) < 256 := by omega
      have hx := HLE.out k (k / 64) (by omega)
      have hx1 := HLE.out (k + 1) (k / 64) (by omega)
      have HP := Lib.hid (fun W => pow2_any (k % 64) W (by omega))
      generalize Bl.has f k = x at *
      generalize Bl.has g k = y at *
      obtain ⟨X, hX⟩ : ∃ X, X = Bl.part f g k := ⟨_, rfl⟩
      obtain ⟨Y, hY⟩ : ∃ Y, Y = Bl.part f g (k + 1) := ⟨_, rfl⟩
      have HY := Lib.hid hY
      rw [← hX] at hO hph hx HN
      rw [← hY] at hph hx1 HN
      clear hX hY H0 H1
      have HA := Lib.hid hA
      have HB := Lib.hid hB
      have HR := Lib.hid hR
      have HO := Lib.hid hO
      have HBW := Lib.hid hb
      clear hA hB hR hO hb
      cases x
      · go_wp2_with fail
        refine (h0.out _).mono ?_
        rintro e w5 ⟨rfl, hb5⟩
        have A5 := Lib.hid (HA.out.next hb5)
        have B5 := HB.out.next hb5
        have R5 := Lib.hid (HR.out.next hb5)
        have O5 := Lib.hid (HO.out.next hb5)
        have W5 := Lib.hid (below_then HBW.out hb5)
        have B5H := Lib.hid B5
        obtain ⟨b0, b1, b2, b3⟩ := B5.all
        clear hb5 HA HB HR HO HBW B5 a0 a1 a2 a3
        cases y
        · go_wp2_with fail
          refine (h1.out _).mono ?_
          rintro e w6 ⟨rfl, hb6⟩
          go_wp2_with fail
          refine ⟨⟨k + 1, by omega, by go_num, A5.out.next hb6, B5H.out.next hb6, R5.out.next hb6, ?_, below_then W5.out hb6⟩, by simp [intOf]; omega⟩
          rw [← HY.out]
          refine (O5.out.next hb6).congr fun j hj => ?_
          by_cases e : j = k / 64
          · rw [e, hph]; rfl
          · exact (HN.out j hj e).symm
        · go_wp2_with fail
          refine (h1.out _).mono ?_
          rintro e w6 ⟨rfl, hb6⟩
          have A6 := A5.out.next hb6
          have B6 := B5H.out.next hb6
          have R6 := R5.out.next hb6
          have O6 := O5.out.next hb6
          have W6 := below_then W5.out hb6
          clear hb6 A5 B5H R5 O5 W5 b0 b1 b2 b3
          go_wp2_with fail
          have hcc := O6.c (k / 64) (by omega)
          have hzz := O6.free (k / 64)
          have hsum : Y (k / 64) = X (k / 64) + 2 ^ (k % 64) := hph
          have O7 := O6.put (k / 64) (X (k / 64) + 2 ^ (k % 64)) (by omega)
          have O8 : Quad (w6.setCell ⟨w.heap.size + 1 + 1 + 1, k / 64, none⟩ (.int .u64 ((X (k / 64) + 2 ^ (k % 64) : Nat) : Int))) (w.heap.size + 1 + 1 + 1) Y := O7.congr fun j hj => by
            unfold Bl.upd
            by_cases e : j = k / 64
            · rw [if_pos e, e, hsum]
            · rw [if_neg e]; exact (HN.out j hj e).symm
          have A7 := Lib.hid ((A6.far (w.heap.size + 1 + 1 + 1) (k / 64) (.int .u64 ((X (k / 64) + 2 ^ (k % 64) : Nat) : Int)) (by omega)).drew)
          have B7 := Lib.hid ((B6.far (w.heap.size + 1 + 1 + 1) (k / 64) (.int .u64 ((X (k / 64) + 2 ^ (k % 64) : Nat) : Int)) (by omega)).drew)
          have R7 := Lib.hid ((R6.far (w.heap.size + 1 + 1 + 1) (k / 64) (.int .u64 ((X (k / 64) + 2 ^ (k % 64) : Nat) : Int)) (by omega)).drew)
          have O9 := Lib.hid (O8.drew)
          have W7 := Lib.hid ((W6.setCell (p := ⟨w.heap.size + 1 + 1 + 1, k / 64, none⟩) (by simp; omega) (.int .u64 ((X (k / 64) + 2 ^ (k % 64) : Nat) : Int))).drew)
          clear A6 B6 R6 O6 W6 O7 O8 hph HN HLE HOTH HFIN h0 h1
          generalize hj : k / 64 = j at *
          generalize hr : k % 64 = r at *
          have hj4 : j < 4 := by omega
          have hr64 : r < 64 := by omega
          have e1 : (k : Int) / 64 = (j : Int) := by omega
          have e2 : (k : Int).tmod 64 = (r : Int) := by rw [Int.tmod_eq_emod_of_nonneg (by omega)]; omega
          have hjI : (j : Int) < 4 := by omega
          have hwj : IntKind.i64.wrap (j : Int) = j := IntWalk.i64_in _ (by omega)
          have hwr : IntKind.i64.wrap (r : Int) = r := IntWalk.i64_in _ (by omega)
          generalize X j = x at *
          generalize 2 ^ r = P at *
          have hadd : IntKind.u64.wrap ((x : Int) + (P : Int)) = ((x + P : Nat) : Int) := by rw [IntKind.wrap_u64]; omega
          clear hj hr hsum hx hx1
          refine wp_region_still_tail 9 (by kernel_rfl) (by kernel_rfl) ?_
          simp only [List.take_succ_cons, List.take_zero, List.drop_succ_cons, List.drop_zero]
          rw [show ({ w6 with drawn := w6.drawn + 1 } : World) = w6.drew from rfl]
          have hcc : w6.drew.cell? ⟨w.heap.size + 1 + 1 + 1, j, none⟩ = some (.int .u64 (x : Int)) := hcc
          have hzz : w6.drew.frozen? ⟨w.heap.size + 1 + 1 + 1, j, none⟩ = false := hzz
          have A8 := Lib.hid (show Quad (w6.drew.setCell ⟨w.heap.size + 1 + 1 + 1, j, none⟩ (.int .u64 ((x + P : Nat) : Int))) w.heap.size f from A7.out)
          have B8 := Lib.hid (show Quad (w6.drew.setCell ⟨w.heap.size + 1 + 1 + 1, j, none⟩ (.int .u64 ((x + P : Nat) : Int))) (w.heap.size + 1) g from B7.out)
          have R8 := Lib.hid (show Quad (w6.drew.setCell ⟨w.heap.size + 1 + 1 + 1, j, none⟩ (.int .u64 ((x + P : Nat) : Int))) (w.heap.size + 1 + 1) Bl.none_ from R7.out)
          have O10 := Lib.hid (show Quad (w6.drew.setCell ⟨w.heap.size + 1 + 1 + 1, j, none⟩ (.int .u64 ((x + P : Nat) : Int))) (w.heap.size + 1 + 1 + 1) Y from O9.out)
          have W8 := Lib.hid (show Below w.heap.size w (w6.drew.setCell ⟨w.heap.size + 1 + 1 + 1, j, none⟩ (.int .u64 ((x + P : Nat) : Int))) from W7.out)
          clear A7 B7 R7 O9 W7
          generalize w6.drew = W1 at *
          repeat still_step
          still_call (vstill (HP.out _))
          repeat still_step
          refine wpStill_nil ?_
          go_wp2_with fail
          refine ⟨⟨k + 1, by omega, by go_num, A8.out, B8.out, R8.out, ?_, W8.out⟩, by simp [intOf]; omega⟩
          rw [← HY.out]
          exact O10.out
      · go_wp2_with fail
        refine (h0.out _).mono ?_
        rintro e w6 ⟨rfl, hb5⟩
        have A6 := HA.out.next hb5
        have B6 := HB.out.next hb5
        have R6 := HR.out.next hb5
        have O6 := HO.out.next hb5
        have W6 := below_then HBW.out hb5
        clear hb5 HA HB HR HO HBW a0 a1 a2 a3
        go_wp2_with fail
        have hcc := O6.c (k / 64) (by omega)
        have hzz := O6.free (k / 64)
        have hsum : Y (k / 64) = X (k / 64) + 2 ^ (k % 64) := hph
        have O7 := O6.put (k / 64) (X (k / 64) + 2 ^ (k % 64)) (by omega)
        have O8 : Quad (w6.setCell ⟨w.heap.size + 1 + 1 + 1, k / 64, none⟩ (.int .u64 ((X (k / 64) + 2 ^ (k % 64) : Nat) : Int))) (w.heap.size + 1 + 1 + 1) Y := O7.congr fun j hj => by
          unfold Bl.upd
          by_cases e : j = k / 64
          · rw [if_pos e, e, hsum]
          · rw [if_neg e]; exact (HN.out j hj e).symm
        have A7 := Lib.hid ((A6.far (w.heap.size + 1 + 1 + 1) (k / 64) (.int .u64 ((X (k / 64) + 2 ^ (k % 64) : Nat) : Int)) (by omega)).drew)
        have B7 := Lib.hid ((B6.far (w.heap.size + 1 + 1 + 1) (k / 64) (.int .u64 ((X (k / 64) + 2 ^ (k % 64) : Nat) : Int)) (by omega)).drew)
        have R7 := Lib.hid ((R6.far (w.heap.size + 1 + 1 + 1) (k / 64) (.int .u64 ((X (k / 64) + 2 ^ (k % 64) : Nat) : Int)) (by omega)).drew)
        have O9 := Lib.hid (O8.drew)
        have W7 := Lib.hid ((W6.setCell (p := ⟨w.heap.size + 1 + 1 + 1, k / 64, none⟩) (by simp; omega) (.int .u64 ((X (k / 64) + 2 ^ (k % 64) : Nat) : Int))).drew)
        clear A6 B6 R6 O6 W6 O7 O8 hph HN HLE HOTH HFIN h0 h1
        generalize hj : k / 64 = j at *
        generalize hr : k % 64 = r at *
        have hj4 : j < 4 := by omega
        have hr64 : r < 64 := by omega
        have e1 : (k : Int) / 64 = (j : Int) := by omega
        have e2 : (k : Int).tmod 64 = (r : Int) := by rw [Int.tmod_eq_emod_of_nonneg (by omega)]; omega
        have hjI : (j : Int) < 4 := by omega
        have hwj : IntKind.i64.wrap (j : Int) = j := IntWalk.i64_in _ (by omega)
        have hwr : IntKind.i64.wrap (r : Int) = r := IntWalk.i64_in _ (by omega)
        generalize X j = x at *
        generalize 2 ^ r = P at *
        have hadd : IntKind.u64.wrap ((x : Int) + (P : Int)) = ((x + P : Nat) : Int) := by rw [IntKind.wrap_u64]; omega
        clear hj hr hsum hx hx1
        refine wp_region_still_tail 9 (by kernel_rfl) (by kernel_rfl) ?_
        simp only [List.take_succ_cons, List.take_zero, List.drop_succ_cons, List.drop_zero]
        rw [show ({ w6 with drawn := w6.drawn + 1 } : World) = w6.drew from rfl]
        have hcc : w6.drew.cell? ⟨w.heap.size + 1 + 1 + 1, j, none⟩ = some (.int .u64 (x : Int)) := hcc
        have hzz : w6.drew.frozen? ⟨w.heap.size + 1 + 1 + 1, j, none⟩ = false := hzz
        have A8 := Lib.hid (show Quad (w6.drew.setCell ⟨w.heap.size + 1 + 1 + 1, j, none⟩ (.int .u64 ((x + P : Nat) : Int))) w.heap.size f from A7.out)
        have B8 := Lib.hid (show Quad (w6.drew.setCell ⟨w.heap.size + 1 + 1 + 1, j, none⟩ (.int .u64 ((x + P : Nat) : Int))) (w.heap.size + 1) g from B7.out)
        have R8 := Lib.hid (show Quad (w6.drew.setCell ⟨w.heap.size + 1 + 1 + 1, j, none⟩ (.int .u64 ((x + P : Nat) : Int))) (w.heap.size + 1 + 1) Bl.none_ from R7.out)
        have O10 := Lib.hid (show Quad (w6.drew.setCell ⟨w.heap.size + 1 + 1 + 1, j, none⟩ (.int .u64 ((x + P : Nat) : Int))) (w.heap.size + 1 + 1 + 1) Y from O9.out)
        have W8 := Lib.hid (show Below w.heap.size w (w6.drew.setCell ⟨w.heap.size + 1 + 1 + 1, j, none⟩ (.int .u64 ((x + P : Nat) : Int))) from W7.out)
        clear A7 B7 R7 O9 W7
        generalize w6.drew = W1 at *
        repeat still_step
        still_call (vstill (HP.out _))
        repeat still_step
        refine wpStill_nil ?_
        go_wp2_with fail
        refine ⟨⟨k + 1, by omega, by go_num, A8.out, B8.out, R8.out, ?_, W8.out⟩, by simp [intOf]; omega⟩
        rw [← HY.out]
        exact O10.out
    · obtain rfl : k = 256 := by omega
      obtain ⟨X, hX⟩ : ∃ X, X = Bl.part f g 256 := ⟨_, rfl⟩
      rw [← hX] at hO HFIN
      clear hX hA hB
      obtain ⟨a0, a1, a2, a3⟩ := hO.all
      have z0 := hR.free 0
      have z1 := hR.free 1
      have z2 := hR.free 2
      have z3 := hR.free 3
      obtain ⟨r0, r1, r2, r3⟩ := hR.all
      obtain ⟨s0, s1, s2, s3⟩ := (hR.set4 X).all
      go_wp2_with fail
      refine bodyPost_ret (v := fag X) (by simp [results, Try.results16, go_sem, fag, qv, s0, s1, s2, s3]) rfl ⟨by rw [← HFIN.out]; rfl, ?_⟩
      exact below_set4 hb (by omega) _ _ _ _
end Go.Proofs.Ytbhggbohkddlaaa
