/- The law StatsMerge. -/
import Derived.Test.YtgkhkfmlldnogaaSB
import Derived.Test.YtgkhkfmlldnogaaSR3
namespace Go.Proofs.Ytgkhkfmlldnogaa
open Go.RowKit
set_option linter.unusedVariables false

theorem oct_at (w : World) (vs : List Value) : ∀ W, W = w.alloc (.cells vs.toArray 27) → Oct W w.heap.size vs ∧ Below w.heap.size w W := by
  rintro W rfl
  exact ⟨oct_new w vs, (Below.refl _ _).alloc (Nat.le_refl _) _⟩
theorem oct2 (w : World) (x y : List Value) : ∀ W, W = (w.alloc (.cells x.toArray 27)).alloc (.cells y.toArray 27) → Oct W w.heap.size x ∧ Oct W (w.heap.size + 1) y ∧ Below w.heap.size w W := by
  rintro W rfl
  have h1 := oct_new w x
  have b1 := (Below.refl w.heap.size w).alloc (Nat.le_refl _) (.cells x.toArray 27)
  have s1 : (w.alloc (.cells x.toArray 27)).heap.size = w.heap.size + 1 := by simp
  have h2 := oct_new (w.alloc (.cells x.toArray 27)) y
  have b2 := (Below.refl (w.alloc (.cells x.toArray 27)).heap.size (w.alloc (.cells x.toArray 27))).alloc (Nat.le_refl _) (.cells y.toArray 27)
  rw [s1] at h2
  exact ⟨h1.next b2, h2, below_then b1 b2⟩
def SEq (v : Value) (e : Nat) (W : World) (x : Ending) (w' : World) : Prop := x = .returned (.tuple #[v, .int .i64 e]) ∧ Below W.heap.size W w'

set_option maxHeartbeats 4000000 in
set_option maxRecDepth 100000 in
theorem statsMerge_walk (w : World) (k : Int) (hk : -9223372036854775808 ≤ k ∧ k ≤ 9223372036854775807) (a : S.St) (ha : sOk a) (b : S.St) (hb : sOk b) :
    Calls Try.prog 4 #[.int .i64 k, sag a, sag b] w (BoolPost true w) := by
  have HM0 := fun W => smerge_any k a b W ha hb
  have HR0 := fun W => mergedOf_any k a b W hk ha hb
  have HE := fun w => stats_eql_stats w (S.mg k a b).1 (S.mg k a b).1
  generalize S.mg k a b = r at *
  clear ha hb hk
  obtain ⟨⟨xr, xn, ⟨xk, xu, xT⟩, ⟨xm, xv, xS⟩⟩, xe⟩ := r
  obtain ⟨ar, an, ⟨ak, au, aT⟩, ⟨am, av, aS⟩⟩ := a
  obtain ⟨br, bn, ⟨bk, bu, bT⟩, ⟨bm, bv, bS⟩⟩ := b
  have HM := Lib.hid (fun W => show Calls Try.prog 14 #[.int .i64 k, .agg #[.int .i64 ar, .int .i64 an, .int .i64 ak, .int .u64 (au : Int), .string (str aT), .int .i64 am, .int .u64 (av : Int), .string (str aS)], .agg #[.int .i64 br, .int .i64 bn, .int .i64 bk, .int .u64 (bu : Int), .string (str bT), .int .i64 bm, .int .u64 (bv : Int), .string (str bS)]] W (fun e w' => e = .returned (.tuple #[.agg #[.int .i64 xr, .int .i64 xn, .int .i64 xk, .int .u64 (xu : Int), .string (str xT), .int .i64 xm, .int .u64 (xv : Int), .string (str xS)], .int .i64 xe]) ∧ Below W.heap.size W w') from HM0 W)
  have HR := Lib.hid (fun W => show Calls Try.prog 15 #[.int .i64 k, .agg #[.int .i64 ar, .int .i64 an, .int .i64 ak, .int .u64 (au : Int), .string (str aT), .int .i64 am, .int .u64 (av : Int), .string (str aS)], .agg #[.int .i64 br, .int .i64 bn, .int .i64 bk, .int .u64 (bu : Int), .string (str bT), .int .i64 bm, .int .u64 (bv : Int), .string (str bS)]] W (fun e w' => e = .returned (.tuple #[.agg #[.int .i64 xr, .int .i64 xn, .int .i64 xk, .int .u64 (xu : Int), .string (str xT), .int .i64 xm, .int .u64 (xv : Int), .string (str xS)], .int .i64 xe]) ∧ Below W.heap.size W w') from HR0 W)
  have hE : ∀ w, (binOp .eql 27 (.agg #[.int .i64 xr, .int .i64 xn, .int .i64 xk, .int .u64 (xu : Int), .string (str xT), .int .i64 xm, .int .u64 (xv : Int), .string (str xS)]) (.agg #[.int .i64 xr, .int .i64 xn, .int .i64 xk, .int .u64 (xu : Int), .string (str xT), .int .i64 xm, .int .u64 (xv : Int), .string (str xS)])).run Try.prog w = .ok (.bool true) w := fun w => by
    have h := HE w
    rw [decide_eq_true rfl] at h
    exact h
  clear HE HM0 HR0
  have hgd_eql := guards_stats .eql
  unfold sag
  simp only
  generalize str aT = az at *
  generalize str aS = aq at *
  generalize str bT = bz at *
  generalize str bS = bq at *
  generalize str xT = xz at *
  generalize str xS = xq at *
  go_enter Try.func4, Try.ntmps4
  have HB := Lib.hid (oct2 w [.int .i64 ar, .int .i64 an, .int .i64 ak, .int .u64 (au : Int), .string az, .int .i64 am, .int .u64 (av : Int), .string aq] [.int .i64 br, .int .i64 bn, .int .i64 bk, .int .u64 (bu : Int), .string bz, .int .i64 bm, .int .u64 (bv : Int), .string bq])
  go_upto_region 1 with fail
  obtain ⟨W, hW⟩ : ∃ W, W = (w.alloc (.cells #[.int .i64 ar, .int .i64 an, .int .i64 ak, .int .u64 (au : Int), .string az, .int .i64 am, .int .u64 (av : Int), .string aq] 27)).alloc (.cells #[.int .i64 br, .int .i64 bn, .int .i64 bk, .int .u64 (bu : Int), .string bz, .int .i64 bm, .int .u64 (bv : Int), .string bq] 27) := ⟨_, rfl⟩
  rw [← hW]
  obtain ⟨hA, hB, hF⟩ := HB.out W hW
  clear HB hW
  generalize w.heap.size + 1 = B at *
  obtain ⟨A, hAe⟩ : ∃ B, B = w.heap.size := ⟨_, rfl⟩
  rw [← hAe] at hA ⊢
  clear hAe
  obtain ⟨A0, A1, A2, A3, A4, A5, A6, A7⟩ := hA.cells
  obtain ⟨B0, B1, B2, B3, B4, B5, B6, B7⟩ := hB.cells
  go_wp2_with fail
  refine (HM.out _).mono ?_
  rintro e w1 ⟨rfl, hb1⟩
  clear A0 A1 A2 A3 A4 A5 A6 A7 B0 B1 B2 B3 B4 B5 B6 B7
  replace hA := hA.next hb1
  replace hB := hB.next hb1
  replace hF := below_then hF hb1
  have HX := Lib.hid (oct_at w1 [.int .i64 xr, .int .i64 xn, .int .i64 xk, .int .u64 (xu : Int), .string xz, .int .i64 xm, .int .u64 (xv : Int), .string xq])
  go_upto_region 2 with fail
  obtain ⟨W, hW⟩ : ∃ W, W = w1.alloc (.cells #[.int .i64 xr, .int .i64 xn, .int .i64 xk, .int .u64 (xu : Int), .string xz, .int .i64 xm, .int .u64 (xv : Int), .string xq] 27) := ⟨_, rfl⟩
  rw [← hW]
  obtain ⟨hX, hb2⟩ := HX.out W hW
  clear HX hW
  replace hA := hA.next hb2
  replace hB := hB.next hb2
  replace hF := below_then hF hb2
  obtain ⟨X, hXe⟩ : ∃ B, B = w1.heap.size := ⟨_, rfl⟩
  rw [← hXe] at hX ⊢
  clear hXe hb1 hb2
  obtain ⟨A0, A1, A2, A3, A4, A5, A6, A7⟩ := hA.cells
  obtain ⟨B0, B1, B2, B3, B4, B5, B6, B7⟩ := hB.cells
  go_wp2_with fail
  refine (HR.out _).mono ?_
  rintro e w1 ⟨rfl, hb1⟩
  clear A0 A1 A2 A3 A4 A5 A6 A7 B0 B1 B2 B3 B4 B5 B6 B7
  replace hA := hA.next hb1
  replace hB := hB.next hb1
  replace hX := hX.next hb1
  replace hF := below_then hF hb1
  have HX := Lib.hid (oct_at w1 [.int .i64 xr, .int .i64 xn, .int .i64 xk, .int .u64 (xu : Int), .string xz, .int .i64 xm, .int .u64 (xv : Int), .string xq])
  go_upto_region 3 with fail
  obtain ⟨W, hW⟩ : ∃ W, W = w1.alloc (.cells #[.int .i64 xr, .int .i64 xn, .int .i64 xk, .int .u64 (xu : Int), .string xz, .int .i64 xm, .int .u64 (xv : Int), .string xq] 27) := ⟨_, rfl⟩
  rw [← hW]
  obtain ⟨hY, hb2⟩ := HX.out W hW
  clear HX hW
  replace hA := hA.next hb2
  replace hB := hB.next hb2
  replace hX := hX.next hb2
  replace hF := below_then hF hb2
  obtain ⟨Y, hYe⟩ : ∃ B, B = w1.heap.size := ⟨_, rfl⟩
  rw [← hYe] at hY ⊢
  clear hYe hb1 hb2
  go_wp2_with fail
  refine (sbegun_any _).mono ?_
  rintro e w1 ⟨rfl, hb1⟩
  replace hA := hA.next hb1
  replace hB := hB.next hb1
  replace hX := hX.next hb1
  replace hY := hY.next hb1
  replace hF := below_then hF hb1
  clear hb1
  obtain ⟨X0, X1, X2, X3, X4, X5, X6, X7⟩ := hX.cells
  obtain ⟨Y0, Y1, Y2, Y3, Y4, Y5, Y6, Y7⟩ := hY.cells
  go_wp2_with fail
  go_ret
  exact ⟨rfl, hF⟩
end Go.Proofs.Ytgkhkfmlldnogaa
