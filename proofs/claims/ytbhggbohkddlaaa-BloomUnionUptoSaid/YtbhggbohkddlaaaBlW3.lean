/- The walks of bloom.None, Union, marks. -/
import Derived.Test.YtbhggbohkddlaaaBlBase
namespace Go.Proofs.Ytbhggbohkddlaaa
open Go.RowKit
set_option linter.unusedVariables false

set_option maxHeartbeats 1000000 in
set_option maxRecDepth 100000 in
theorem none_any (w : World) : Calls Try.prog 18 #[] w (FilPost Bl.none_ w) := by
  have q0 := quad_none w
  go_enter Try.func18, Try.ntmps18
  go_wp2_with fail
  refine bodyPost_ret (v := fag Bl.none_) (by simp [results, Try.results18, go_sem, fag, qv, Bl.none_]) rfl ⟨rfl, ?_⟩
  exact (Below.refl _ _).alloc (Nat.le_refl _) _

theorem bor64 (a b : Nat) (ha : a < 18446744073709551616) (hb : b < 18446744073709551616) : bits .or .u64 (a : Int) (b : Int) = ((a ||| b : Nat) : Int) := u64_or_nat a b ha hb

set_option maxHeartbeats 4000000 in
set_option maxRecDepth 100000 in
theorem union_any (f g : Bl.F) (w : World) (hf : Bl.fOk f) (hg : Bl.fOk g) : Calls Try.prog 15 #[fag f, fag g] w (FilPost (Bl.orf f g) w) := by
  unfold fag qv
  have i0 : ∀ w : World, (Instr.index 23 (.agg #[.int .u64 (g 0 : Nat), .int .u64 (g 1 : Nat), .int .u64 (g 2 : Nat), .int .u64 (g 3 : Nat)]) (.int .i64 0)).run Try.prog w = .ok (.int .u64 (g 0 : Nat)) w := fun _ => by kernel_rfl
  have i1 : ∀ w : World, (Instr.index 23 (.agg #[.int .u64 (g 0 : Nat), .int .u64 (g 1 : Nat), .int .u64 (g 2 : Nat), .int .u64 (g 3 : Nat)]) (.int .i64 1)).run Try.prog w = .ok (.int .u64 (g 1 : Nat)) w := fun _ => by kernel_rfl
  have i2 : ∀ w : World, (Instr.index 23 (.agg #[.int .u64 (g 0 : Nat), .int .u64 (g 1 : Nat), .int .u64 (g 2 : Nat), .int .u64 (g 3 : Nat)]) (.int .i64 2)).run Try.prog w = .ok (.int .u64 (g 2 : Nat)) w := fun _ => by kernel_rfl
  have i3 : ∀ w : World, (Instr.index 23 (.agg #[.int .u64 (g 0 : Nat), .int .u64 (g 1 : Nat), .int .u64 (g 2 : Nat), .int .u64 (g 3 : Nat)]) (.int .i64 3)).run Try.prog w = .ok (.int .u64 (g 3 : Nat)) w := fun _ => by kernel_rfl
  go_enter Try.func15, Try.ntmps15
  go_wp2_with fail
  go_loopw [5, 6, 8] (fun _ _ i wr => ∃ k : Nat, k ≤ 4 ∧ i = .int .i64 k ∧ Quad wr w.heap.size (Bl.mixf f g k) ∧ Quad wr (w.heap.size + 1 + 1) Bl.none_ ∧ Below w.heap.size w wr) (fun _ _ i _ => 4 - (intOf i).toNat)
  case atStart =>
    have q0 : Quad (w.alloc (.cells (qv f) 23)) w.heap.size f := quad_new w f
    have q1 : Quad ((w.alloc (.cells (qv f) 23)).alloc (.cells (qv g) 23)) w.heap.size f := q0.next ((Below.refl _ _).alloc (Nat.le_refl _) _)
    have q2 : Quad (((w.alloc (.cells (qv f) 23)).alloc (.cells (qv g) 23)).alloc (.cells (qv Bl.none_) 23)) w.heap.size f := q1.next ((Below.refl _ _).alloc (Nat.le_refl _) _)
    refine ⟨0, by omega, rfl, ?_, ?_, ?_⟩
    · rw [Bl.mixf_zero]; exact q2
    · have := quad_new ((w.alloc (.cells (qv f) 23)).alloc (.cells (qv g) 23)) Bl.none_
      rw [show ((w.alloc (.cells (qv f) 23)).alloc (.cells (qv g) 23)).heap.size = w.heap.size + 1 + 1 by simp] at this
      exact this
    · refine Below.alloc (Below.alloc (Below.alloc (Below.refl _ _) (Nat.le_refl _) _) ?_ _) ?_ _ <;> simp <;> omega
  case round =>
    obtain ⟨k, hk, rfl, hA, hR, hb⟩ := hrel
    have hsz := hR.lt
    by_cases hlt : k < 4
    · have hc := hA.c k hlt
      rw [Bl.mixf_here] at hc
      have hz := hA.free k
      have hA2 := hA.put k (f k ||| g k) hlt
      rw [Bl.mixf_step f g k] at hA2
      have hR2 := hR.far w.heap.size k (.int .u64 ((f k ||| g k : Nat) : Int)) (by omega)
      have hor := bor64 (f k) (g k) (hf k hlt) (hg k hlt)
      have hb2 := hb.setCell (p := ⟨w.heap.size, k, none⟩) (Nat.le_refl _) (.int .u64 ((f k ||| g k : Nat) : Int))
      have HA := Lib.hid hA2
      have HR := Lib.hid hR2
      have HB := Lib.hid hb2
      clear hA2 hR2 hb2 hA hR hb
      have hk4 : k = 0 ∨ k = 1 ∨ k = 2 ∨ k = 3 := by omega
      rcases hk4 with rfl | rfl | rfl | rfl
      all_goals
        go_wp2_with fail
        refine ⟨⟨_, ?_, rfl, HA.out, HR.out, HB.out⟩, by simp [intOf]⟩
        decide
    · obtain rfl : k = 4 := by omega
      obtain ⟨X, hX⟩ : ∃ X, X = Bl.mixf f g 4 := ⟨_, rfl⟩
      rw [← hX] at hA
      have HX := Lib.hid (show fag X = fag (Bl.orf f g) from fag_congr (by rw [hX]; exact Bl.mixf_all f g))
      clear hX
      obtain ⟨a0, a1, a2, a3⟩ := hA.all
      have z0 := hR.free 0
      have z1 := hR.free 1
      have z2 := hR.free 2
      have z3 := hR.free 3
      obtain ⟨r0, r1, r2, r3⟩ := hR.all
      obtain ⟨q0, q1, q2, q3⟩ := (hR.set4 X).all
      go_wp2_with fail
      refine bodyPost_ret (v := fag X) (by simp [results, Try.results15, go_sem, fag, qv, q0, q1, q2, q3]) rfl ⟨by show Ending.returned (fag X) = .returned (fag (Bl.orf f g)); rw [HX.out], ?_⟩
      exact (((hb.setCell (p := ⟨w.heap.size + 1 + 1, 0, none⟩) (by simp; omega) _).setCell (p := ⟨w.heap.size + 1 + 1, 1, none⟩) (by simp; omega) _).setCell (p := ⟨w.heap.size + 1 + 1, 2, none⟩) (by simp; omega) _).setCell (p := ⟨w.heap.size + 1 + 1, 3, none⟩) (by simp; omega) _

theorem index3 (a b c : Nat) : (∀ w : World, (Instr.index 53 (.agg #[.int .u8 (a : Int), .int .u8 (b : Int), .int .u8 (c : Int)]) (.int .i64 0)).run Try.prog w = .ok (.int .u8 (a : Int)) w) ∧
    (∀ w : World, (Instr.index 53 (.agg #[.int .u8 (a : Int), .int .u8 (b : Int), .int .u8 (c : Int)]) (.int .i64 1)).run Try.prog w = .ok (.int .u8 (b : Int)) w) ∧
    (∀ w : World, (Instr.index 53 (.agg #[.int .u8 (a : Int), .int .u8 (b : Int), .int .u8 (c : Int)]) (.int .i64 2)).run Try.prog w = .ok (.int .u8 (c : Int)) w) :=
  ⟨fun _ => by kernel_rfl, fun _ => by kernel_rfl, fun _ => by kernel_rfl⟩

/-- so many marks of three -/
def mpart (h : Nat) (k : Nat) : Bl.F := if k = 0 then Bl.none_ else if k = 1 then Bl.put Bl.none_ (Bl.m0 h) else if k = 2 then Bl.put (Bl.put Bl.none_ (Bl.m0 h)) (Bl.m1 h) else Bl.marks h

set_option maxHeartbeats 4000000 in
set_option maxRecDepth 100000 in
theorem marks_any (c : C.Cl) (w : World) (hc : cOk c) : Calls Try.prog 24 #[cag c] w (FilPost (Bl.marks (Bl.hash c)) w) := by
  have HH := Lib.hid (fun W => hash_any c W hc)
  have hq := Bl.hash_lt c
  have hcu : cag c = .agg #[.int .i64 c.kind, .int .u64 (c.num : Int), .string (str c.txt)] := rfl
  generalize Bl.hash c = h at *
  unfold cag at *
  clear hcu
  obtain ⟨b0, b1, b2⟩ := index3 (Bl.m0 h) (Bl.m1 h) (Bl.m2 h)
  have q0 : (h : Int) % 256 = (Bl.m0 h : Nat) := by unfold Bl.m0; omega
  have q1 : (h : Int) / 1048576 % 256 = (Bl.m1 h : Nat) := by unfold Bl.m1; omega
  have q2 : (h : Int) / 1099511627776 % 256 = (Bl.m2 h : Nat) := by unfold Bl.m2; omega
  go_enter Try.func24, Try.ntmps24
  go_wp2_with fail
  refine (HH.out _).mono ?_
  rintro e w1 ⟨rfl, hb1⟩
  have qR0 := (quad_none (w.alloc (.cells #[.int .i64 c.kind, .int .u64 (c.num : Int), .string (str c.txt)] 26))).next hb1
  have hsz : (w.alloc (.cells #[.int .i64 c.kind, .int .u64 (c.num : Int), .string (str c.txt)] 26)).heap.size = w.heap.size + 1 := by simp
  rw [hsz] at qR0
  have hbb : Below w.heap.size w w1 := below_then (((Below.refl _ _).alloc (Nat.le_refl _) _).alloc (by simp) _) hb1
  clear hb1 hsz
  go_wp2_with fail
  go_loopw [6, 18] (fun _ i wr => ∃ k : Nat, k ≤ 3 ∧ i = .int .i64 k ∧ Quad wr w1.heap.size (mpart h k) ∧ Quad wr (w.heap.size + 1) Bl.none_ ∧ Below w.heap.size w wr) (fun _ i _ => 3 - (intOf i).toNat)
  case atStart =>
    refine ⟨0, by omega, rfl, quad_none w1, qR0.next ((Below.refl _ _).alloc (Nat.le_refl _) _), hbb.alloc (by have := qR0.lt; omega) _⟩
  case round =>
    obtain ⟨k, hk, rfl, hA, hR, hb⟩ := hrel
    have hsz := hR.lt
    have hs1 := qR0.lt
    by_cases hlt : k < 3
    · obtain ⟨m, hm256, hm⟩ : ∃ m, m < 256 ∧ (k = 0 ∧ m = Bl.m0 h ∨ k = 1 ∧ m = Bl.m1 h ∨ k = 2 ∧ m = Bl.m2 h) := by
        have : k = 0 ∨ k = 1 ∨ k = 2 := by omega
        rcases this with rfl | rfl | rfl
        · exact ⟨_, Nat.mod_lt _ (by omega), Or.inl ⟨rfl, rfl⟩⟩
        · exact ⟨_, Nat.mod_lt _ (by omega), Or.inr (Or.inl ⟨rfl, rfl⟩)⟩
        · exact ⟨_, Nat.mod_lt _ (by omega), Or.inr (Or.inr ⟨rfl, rfl⟩)⟩
      have hstep : mpart h (k + 1) = Bl.put (mpart h k) m := by
        rcases hm with ⟨rfl, rfl⟩ | ⟨rfl, rfl⟩ | ⟨rfl, rfl⟩ <;> rfl
      have hok : mpart h k (m / 64) < 18446744073709551616 := by
        have hj : m / 64 < 4 := by omega
        rcases hm with ⟨rfl, _⟩ | ⟨rfl, _⟩ | ⟨rfl, _⟩
        · exact Bl.none_ok _ hj
        · exact Bl.put_ok Bl.none_ok _ _ hj
        · exact Bl.put_ok (Bl.put_ok Bl.none_ok _) _ _ hj
      have hA2 := hA.put (m / 64) (mpart h k (m / 64) ||| 2 ^ (m % 64)) (by omega)
      rw [show Bl.upd (mpart h k) (m / 64) (mpart h k (m / 64) ||| 2 ^ (m % 64)) = mpart h (k + 1) from hstep.symm] at hA2
      have hR2 := hR.far w1.heap.size (m / 64) (.int .u64 ((mpart h k (m / 64) ||| 2 ^ (m % 64) : Nat) : Int)) (by omega)
      have hb2 := hb.setCell (p := ⟨w1.heap.size, m / 64, none⟩) (by simp; omega) (.int .u64 ((mpart h k (m / 64) ||| 2 ^ (m % 64) : Nat) : Int))
      have hc := hA.c (m / 64) (by omega)
      have hz := hA.free (m / 64)
      have hp : 2 ^ (m % 64) < 18446744073709551616 := Nat.pow_lt_pow_right (n := 64) (by omega) (Nat.mod_lt _ (by omega))
      have hor : bits .or .u64 ((mpart h k (m / 64) : Nat) : Int) (IntKind.u64.wrap (2 ^ (m % 64))) = ((mpart h k (m / 64) ||| 2 ^ (m % 64) : Nat) : Int) := by
        rw [← bor64 _ _ hok hp]
        congr 1
        rw [IntKind.wrap_u64]
        have e : ((2 : Int) ^ (m % 64)) = ((2 ^ (m % 64) : Nat) : Int) := by simp
        rw [e]
        exact Int.emod_eq_of_lt (Int.natCast_nonneg _) (Int.ofNat_lt.2 hp)
      clear hstep
      generalize hj : m / 64 = j at *
      generalize hr : m % 64 = r at *
      have hj4 : j < 4 := by omega
      have hr64 : r < 64 := by omega
      have e1 : (m : Int) / 64 = (j : Int) := by omega
      have e2 : (m : Int) % 64 = (r : Int) := by omega
      clear hj hr
      have HA := Lib.hid hA2
      have HR := Lib.hid hR2
      have HB := Lib.hid hb2
      clear hA2 hR2 hb2 hA hR hb
      generalize mpart h k j = x at *
      generalize (x ||| 2 ^ r) = y at *
      clear hok hp
      rcases hm with ⟨rfl, rfl⟩ | ⟨rfl, rfl⟩ | ⟨rfl, rfl⟩
      · generalize Bl.m0 h = m at *
        go_wp2_with fail
        refine ⟨⟨_, ?_, rfl, HA.out, HR.out, HB.out⟩, by simp [intOf]⟩
        decide
      · generalize Bl.m1 h = m at *
        go_wp2_with fail
        refine ⟨⟨_, ?_, rfl, HA.out, HR.out, HB.out⟩, by simp [intOf]⟩
        decide
      · generalize Bl.m2 h = m at *
        go_wp2_with fail
        refine ⟨⟨_, ?_, rfl, HA.out, HR.out, HB.out⟩, by simp [intOf]⟩
        decide
    · obtain rfl : k = 3 := by omega
      have hA' : Quad wr w1.heap.size (Bl.marks h) := hA
      clear hA
      generalize Bl.marks h = X at *
      obtain ⟨a0, a1, a2, a3⟩ := hA'.all
      have z0 := hR.free 0
      have z1 := hR.free 1
      have z2 := hR.free 2
      have z3 := hR.free 3
      obtain ⟨r0, r1, r2, r3⟩ := hR.all
      obtain ⟨s0, s1, s2, s3⟩ := (hR.set4 X).all
      go_wp2_with fail
      refine bodyPost_ret (v := fag X) (by simp [results, Try.results24, go_sem, fag, qv, s0, s1, s2, s3]) rfl ⟨rfl, ?_⟩
      exact (((hb.setCell (p := ⟨w.heap.size + 1, 0, none⟩) (by simp) _).setCell (p := ⟨w.heap.size + 1, 1, none⟩) (by simp) _).setCell (p := ⟨w.heap.size + 1, 2, none⟩) (by simp) _).setCell (p := ⟨w.heap.size + 1, 3, none⟩) (by simp) _
end Go.Proofs.Ytbhggbohkddlaaa
