/- The law StatsMonoid. -/
import Derived.Test.YtgkhkfmlldnogaaSL1
namespace Go.Proofs.Ytgkhkfmlldnogaa
open Go.RowKit
set_option linter.unusedVariables false

theorem sok_zero : sOk S.zero := ⟨by decide, by decide, cOk_null, cOk_null⟩
theorem sok_mg {k : Int} {a b : S.St} (ha : sOk a) (hb : sOk b) : sOk (S.mg k a b).1 := by
  by_cases h : (S.mg k a b).2 ≠ 0
  · rw [S.mg_bad h]; exact sok_zero
  obtain ⟨oa, ob, hr, e⟩ := S.mg_ok (Decidable.not_not.1 h)
  rw [e]
  have p1 := oa.r0; have p2 := ob.r0; have p3 := oa.n0; have p4 := ob.n0; have p5 := oa.n1; have p6 := ob.n1; have p7 := oa.r1; have p8 := ob.r1
  refine ⟨⟨by show _ ≤ a.rows + b.rows; omega, by show a.rows + b.rows ≤ _; omega⟩, ⟨by show _ ≤ a.nulls + b.nulls; omega, by show a.nulls + b.nulls ≤ _; omega⟩, ?_, ?_⟩
  · show cOk (S.lo a.least b.least)
    rcases S.lo_is a.least b.least with h | h <;> rw [h]
    · exact ha.2.2.1
    · exact hb.2.2.1
  · show cOk (S.hi a.most b.most)
    rcases S.hi_is a.most b.most with h | h <;> rw [h]
    · exact ha.2.2.2
    · exact hb.2.2.2

set_option maxHeartbeats 4000000 in
set_option maxRecDepth 100000 in
theorem monoid_bad (w : World) (k : Int) (a b c : S.St) (ha : sOk a) (hb : sOk b) (hc : sOk c) (h : (S.mg k a b).2 ≠ 0) :
    Calls Try.prog 6 #[.int .i64 k, sag a, sag b, sag c] w (BoolPost true w) := by
  have HX0 := fun W => smerge_any k a b W ha hb
  have HY0 := fun W => smerge_any k b a W hb ha
  have HE := fun w => stats_eql_stats w S.zero S.zero
  have hz := S.mg_bad h
  obtain ⟨s, xe, hr⟩ : ∃ s xe, S.mg k a b = (s, xe) := ⟨_, _, rfl⟩
  rw [hr] at h hz HX0
  simp only at h hz
  subst hz
  clear hr
  have g1 : ((xe : Int) != 0) = true := by rw [bne_iff_ne]; omega
  generalize S.mg k b a = y at *
  obtain ⟨⟨yr, yn, ⟨yk, yu, yT⟩, ⟨ym, yv, yS⟩⟩, ye⟩ := y
  clear ha hb hc h
  obtain ⟨ar, an, ⟨ak, au, aT⟩, ⟨am, av, aS⟩⟩ := a
  obtain ⟨br, bn, ⟨bk, bu, bT⟩, ⟨bm, bv, bS⟩⟩ := b
  obtain ⟨cr, cn, ⟨ck, cu, cT⟩, ⟨cm, cv, cS⟩⟩ := c
  have HX := Lib.hid (fun W => show Calls Try.prog 14 #[.int .i64 k, .agg #[.int .i64 ar, .int .i64 an, .int .i64 ak, .int .u64 (au : Int), .string (str aT), .int .i64 am, .int .u64 (av : Int), .string (str aS)], .agg #[.int .i64 br, .int .i64 bn, .int .i64 bk, .int .u64 (bu : Int), .string (str bT), .int .i64 bm, .int .u64 (bv : Int), .string (str bS)]] W (fun e w' => e = .returned (.tuple #[.agg #[.int .i64 0, .int .i64 0, .int .i64 0, .int .u64 0, .string ⟨#[]⟩, .int .i64 0, .int .u64 0, .string ⟨#[]⟩], .int .i64 xe]) ∧ Below W.heap.size W w') from HX0 W)
  have HY := Lib.hid (fun W => show Calls Try.prog 14 #[.int .i64 k, .agg #[.int .i64 br, .int .i64 bn, .int .i64 bk, .int .u64 (bu : Int), .string (str bT), .int .i64 bm, .int .u64 (bv : Int), .string (str bS)], .agg #[.int .i64 ar, .int .i64 an, .int .i64 ak, .int .u64 (au : Int), .string (str aT), .int .i64 am, .int .u64 (av : Int), .string (str aS)]] W (fun e w' => e = .returned (.tuple #[.agg #[.int .i64 yr, .int .i64 yn, .int .i64 yk, .int .u64 (yu : Int), .string (str yT), .int .i64 ym, .int .u64 (yv : Int), .string (str yS)], .int .i64 ye]) ∧ Below W.heap.size W w') from HY0 W)
  have hE : ∀ w, (binOp .eql 27 (.agg #[.int .i64 0, .int .i64 0, .int .i64 0, .int .u64 0, .string ⟨#[]⟩, .int .i64 0, .int .u64 0, .string ⟨#[]⟩]) (.agg #[.int .i64 0, .int .i64 0, .int .i64 0, .int .u64 0, .string ⟨#[]⟩, .int .i64 0, .int .u64 0, .string ⟨#[]⟩])).run Try.prog w = .ok (.bool true) w := fun w => by
    have h := HE w
    rw [decide_eq_true rfl] at h
    exact h
  clear HE HX0 HY0
  have hgd_eql := guards_stats .eql
  unfold sag
  simp only
  generalize str aT = az at *
  generalize str aS = aq at *
  generalize str bT = bz at *
  generalize str bS = bq at *
  generalize str cT = cz at *
  generalize str cS = cq at *
  generalize str yT = yz at *
  generalize str yS = yq at *
  go_enter Try.func6, Try.ntmps6
  have HB := Lib.hid (oct3 w [.int .i64 ar, .int .i64 an, .int .i64 ak, .int .u64 (au : Int), .string az, .int .i64 am, .int .u64 (av : Int), .string aq] [.int .i64 br, .int .i64 bn, .int .i64 bk, .int .u64 (bu : Int), .string bz, .int .i64 bm, .int .u64 (bv : Int), .string bq] [.int .i64 cr, .int .i64 cn, .int .i64 ck, .int .u64 (cu : Int), .string cz, .int .i64 cm, .int .u64 (cv : Int), .string cq])
  go_upto_region 1 with fail
  obtain ⟨W, hW⟩ : ∃ W, W = ((w.alloc (.cells #[.int .i64 ar, .int .i64 an, .int .i64 ak, .int .u64 (au : Int), .string az, .int .i64 am, .int .u64 (av : Int), .string aq] 27)).alloc (.cells #[.int .i64 br, .int .i64 bn, .int .i64 bk, .int .u64 (bu : Int), .string bz, .int .i64 bm, .int .u64 (bv : Int), .string bq] 27)).alloc (.cells #[.int .i64 cr, .int .i64 cn, .int .i64 ck, .int .u64 (cu : Int), .string cz, .int .i64 cm, .int .u64 (cv : Int), .string cq] 27) := ⟨_, rfl⟩
  rw [← hW]
  obtain ⟨hA, hB, hC, hF⟩ := HB.out W hW
  clear HB hW
  generalize w.heap.size + 1 + 1 = C at *
  generalize w.heap.size + 1 = B at *
  obtain ⟨A, hAe⟩ : ∃ B, B = w.heap.size := ⟨_, rfl⟩
  rw [← hAe] at hA ⊢
  clear hAe
  obtain ⟨A0, A1, A2, A3, A4, A5, A6, A7⟩ := hA.cells
  obtain ⟨B0, B1, B2, B3, B4, B5, B6, B7⟩ := hB.cells
  go_wp2_with fail
  refine (HX.out _).mono ?_
  rintro e w1 ⟨rfl, hb1⟩
  clear A0 A1 A2 A3 A4 A5 A6 A7 B0 B1 B2 B3 B4 B5 B6 B7
  replace hA := hA.next hb1
  replace hB := hB.next hb1
  replace hC := hC.next hb1
  replace hF := below_then hF hb1
  have HX := Lib.hid (oct_at w1 [.int .i64 0, .int .i64 0, .int .i64 0, .int .u64 0, .string ⟨#[]⟩, .int .i64 0, .int .u64 0, .string ⟨#[]⟩])
  go_upto_region 2 with fail
  obtain ⟨W, hW⟩ : ∃ W, W = w1.alloc (.cells #[.int .i64 0, .int .i64 0, .int .i64 0, .int .u64 0, .string ⟨#[]⟩, .int .i64 0, .int .u64 0, .string ⟨#[]⟩] 27) := ⟨_, rfl⟩
  rw [← hW]
  obtain ⟨hX, hb2⟩ := HX.out W hW
  clear HX hW
  replace hA := hA.next hb2
  replace hB := hB.next hb2
  replace hC := hC.next hb2
  replace hF := below_then hF hb2
  obtain ⟨X, hXe⟩ : ∃ B, B = w1.heap.size := ⟨_, rfl⟩
  rw [← hXe] at hX ⊢
  clear hXe hb1 hb2
  obtain ⟨A0, A1, A2, A3, A4, A5, A6, A7⟩ := hA.cells
  obtain ⟨B0, B1, B2, B3, B4, B5, B6, B7⟩ := hB.cells
  go_wp2_with fail
  refine (HY.out _).mono ?_
  rintro e w1 ⟨rfl, hb1⟩
  clear A0 A1 A2 A3 A4 A5 A6 A7 B0 B1 B2 B3 B4 B5 B6 B7
  replace hA := hA.next hb1
  replace hB := hB.next hb1
  replace hC := hC.next hb1
  replace hX := hX.next hb1
  replace hF := below_then hF hb1
  have HX := Lib.hid (oct_at w1 [.int .i64 yr, .int .i64 yn, .int .i64 yk, .int .u64 (yu : Int), .string yz, .int .i64 ym, .int .u64 (yv : Int), .string yq])
  go_upto_region 3 with fail
  obtain ⟨W, hW⟩ : ∃ W, W = w1.alloc (.cells #[.int .i64 yr, .int .i64 yn, .int .i64 yk, .int .u64 (yu : Int), .string yz, .int .i64 ym, .int .u64 (yv : Int), .string yq] 27) := ⟨_, rfl⟩
  rw [← hW]
  obtain ⟨hY, hb2⟩ := HX.out W hW
  clear HX hW
  replace hA := hA.next hb2
  replace hB := hB.next hb2
  replace hC := hC.next hb2
  replace hX := hX.next hb2
  replace hF := below_then hF hb2
  obtain ⟨Y, hYe⟩ : ∃ B, B = w1.heap.size := ⟨_, rfl⟩
  rw [← hYe] at hY ⊢
  clear hYe hb1 hb2
  go_wp2_with fail
  refine (sbegun_any _).mono ?_
  rintro e w1 ⟨rfl, hb1⟩
  replace hA := hA.next hb1
  replace hB := hB.next hb1
  replace hC := hC.next hb1
  replace hX := hX.next hb1
  replace hY := hY.next hb1
  replace hF := below_then hF hb1
  clear hb1
  obtain ⟨X0, X1, X2, X3, X4, X5, X6, X7⟩ := hX.cells
  go_wp2_with fail
  go_ret
  exact ⟨rfl, hF⟩

set_option maxHeartbeats 4000000 in
set_option maxRecDepth 100000 in
theorem monoid_p (w : World) (k : Int) (a b c : S.St) (ha : sOk a) (hb : sOk b) (hc : sOk c) (h : (S.mg k a b).2 = 0) (h2 : (S.mg k (S.mg k a b).1 c).2 ≠ 0) :
    Calls Try.prog 6 #[.int .i64 k, sag a, sag b, sag c] w (BoolPost true w) := by
  have HX0 := fun W => smerge_any k a b W ha hb
  have HY0 := fun W => smerge_any k b a W hb ha
  have HZ0 := fun W => smerge_any k a S.zero W ha sok_zero
  have HP0 := fun W => smerge_any k (S.mg k a b).1 c W (sok_mg ha hb) hc
  have HQ0 := fun W => smerge_any k b c W hb hc
  rw [S.mg_comm h] at HY0
  rw [S.mg_zero h] at HZ0
  obtain ⟨s, xe, hr⟩ : ∃ s xe, S.mg k a b = (s, xe) := ⟨_, _, rfl⟩
  rw [hr] at h h2 HX0 HY0 HP0
  simp only at h h2 HP0
  subst h
  clear hr
  obtain ⟨p, pe, hp⟩ : ∃ p pe, S.mg k s c = (p, pe) := ⟨_, _, rfl⟩
  rw [hp] at h2 HP0
  simp only at h2
  obtain ⟨q, qe, hq⟩ : ∃ q qe, S.mg k b c = (q, qe) := ⟨_, _, rfl⟩
  rw [hq] at HQ0
  have g1 : ((pe : Int) != 0) = true := by rw [bne_iff_ne]; omega
  clear hp hq h2
  have HNX := fun w => stats_neq_stats w s s
  have HNA := fun w => stats_neq_stats w a a
  clear ha hb hc
  obtain ⟨xr, xn, ⟨xk, xu, xT⟩, ⟨xm, xv, xS⟩⟩ := s
  obtain ⟨pr, pn, ⟨pk, pu, pT⟩, ⟨pm, pv, pS⟩⟩ := p
  obtain ⟨qr, qn, ⟨qk, qu, qT⟩, ⟨qm, qv, qS⟩⟩ := q
  obtain ⟨ar, an, ⟨ak, au, aT⟩, ⟨am, av, aS⟩⟩ := a
  obtain ⟨br, bn, ⟨bk, bu, bT⟩, ⟨bm, bv, bS⟩⟩ := b
  obtain ⟨cr, cn, ⟨ck, cu, cT⟩, ⟨cm, cv, cS⟩⟩ := c
  have HX := Lib.hid (fun W => show Calls Try.prog 14 #[.int .i64 k, .agg #[.int .i64 ar, .int .i64 an, .int .i64 ak, .int .u64 (au : Int), .string (str aT), .int .i64 am, .int .u64 (av : Int), .string (str aS)], .agg #[.int .i64 br, .int .i64 bn, .int .i64 bk, .int .u64 (bu : Int), .string (str bT), .int .i64 bm, .int .u64 (bv : Int), .string (str bS)]] W (fun e w' => e = .returned (.tuple #[.agg #[.int .i64 xr, .int .i64 xn, .int .i64 xk, .int .u64 (xu : Int), .string (str xT), .int .i64 xm, .int .u64 (xv : Int), .string (str xS)], .int .i64 0]) ∧ Below W.heap.size W w') from HX0 W)
  have HY := Lib.hid (fun W => show Calls Try.prog 14 #[.int .i64 k, .agg #[.int .i64 br, .int .i64 bn, .int .i64 bk, .int .u64 (bu : Int), .string (str bT), .int .i64 bm, .int .u64 (bv : Int), .string (str bS)], .agg #[.int .i64 ar, .int .i64 an, .int .i64 ak, .int .u64 (au : Int), .string (str aT), .int .i64 am, .int .u64 (av : Int), .string (str aS)]] W (fun e w' => e = .returned (.tuple #[.agg #[.int .i64 xr, .int .i64 xn, .int .i64 xk, .int .u64 (xu : Int), .string (str xT), .int .i64 xm, .int .u64 (xv : Int), .string (str xS)], .int .i64 0]) ∧ Below W.heap.size W w') from HY0 W)
  have HZ := Lib.hid (fun W => show Calls Try.prog 14 #[.int .i64 k, .agg #[.int .i64 ar, .int .i64 an, .int .i64 ak, .int .u64 (au : Int), .string (str aT), .int .i64 am, .int .u64 (av : Int), .string (str aS)], .agg #[.int .i64 0, .int .i64 0, .int .i64 0, .int .u64 0, .string ⟨#[]⟩, .int .i64 0, .int .u64 0, .string ⟨#[]⟩]] W (fun e w' => e = .returned (.tuple #[.agg #[.int .i64 ar, .int .i64 an, .int .i64 ak, .int .u64 (au : Int), .string (str aT), .int .i64 am, .int .u64 (av : Int), .string (str aS)], .int .i64 0]) ∧ Below W.heap.size W w') from HZ0 W)
  have HP := Lib.hid (fun W => show Calls Try.prog 14 #[.int .i64 k, .agg #[.int .i64 xr, .int .i64 xn, .int .i64 xk, .int .u64 (xu : Int), .string (str xT), .int .i64 xm, .int .u64 (xv : Int), .string (str xS)], .agg #[.int .i64 cr, .int .i64 cn, .int .i64 ck, .int .u64 (cu : Int), .string (str cT), .int .i64 cm, .int .u64 (cv : Int), .string (str cS)]] W (fun e w' => e = .returned (.tuple #[.agg #[.int .i64 pr, .int .i64 pn, .int .i64 pk, .int .u64 (pu : Int), .string (str pT), .int .i64 pm, .int .u64 (pv : Int), .string (str pS)], .int .i64 pe]) ∧ Below W.heap.size W w') from HP0 W)
  have HQ := Lib.hid (fun W => show Calls Try.prog 14 #[.int .i64 k, .agg #[.int .i64 br, .int .i64 bn, .int .i64 bk, .int .u64 (bu : Int), .string (str bT), .int .i64 bm, .int .u64 (bv : Int), .string (str bS)], .agg #[.int .i64 cr, .int .i64 cn, .int .i64 ck, .int .u64 (cu : Int), .string (str cT), .int .i64 cm, .int .u64 (cv : Int), .string (str cS)]] W (fun e w' => e = .returned (.tuple #[.agg #[.int .i64 qr, .int .i64 qn, .int .i64 qk, .int .u64 (qu : Int), .string (str qT), .int .i64 qm, .int .u64 (qv : Int), .string (str qS)], .int .i64 qe]) ∧ Below W.heap.size W w') from HQ0 W)
  have hNX : ∀ w, (binOp .neq 27 (.agg #[.int .i64 xr, .int .i64 xn, .int .i64 xk, .int .u64 (xu : Int), .string (str xT), .int .i64 xm, .int .u64 (xv : Int), .string (str xS)]) (.agg #[.int .i64 xr, .int .i64 xn, .int .i64 xk, .int .u64 (xu : Int), .string (str xT), .int .i64 xm, .int .u64 (xv : Int), .string (str xS)])).run Try.prog w = .ok (.bool false) w := fun w => by
    have h := HNX w
    rw [decide_eq_false (by simp)] at h
    exact h
  have hNA : ∀ w, (binOp .neq 27 (.agg #[.int .i64 ar, .int .i64 an, .int .i64 ak, .int .u64 (au : Int), .string (str aT), .int .i64 am, .int .u64 (av : Int), .string (str aS)]) (.agg #[.int .i64 ar, .int .i64 an, .int .i64 ak, .int .u64 (au : Int), .string (str aT), .int .i64 am, .int .u64 (av : Int), .string (str aS)])).run Try.prog w = .ok (.bool false) w := fun w => by
    have h := HNA w
    rw [decide_eq_false (by simp)] at h
    exact h
  clear HNX HNA HX0 HY0 HZ0 HP0 HQ0
  have hgd_neq := guards_stats .neq
  unfold sag
  simp only
  generalize str aT = az at *
  generalize str aS = aq at *
  generalize str bT = bz at *
  generalize str bS = bq at *
  generalize str cT = cz at *
  generalize str cS = cq at *
  generalize str xT = xz at *
  generalize str xS = xq at *
  generalize str pT = pz at *
  generalize str pS = pq at *
  generalize str qT = qz at *
  generalize str qS = qq at *
  go_enter Try.func6, Try.ntmps6
  have HB := Lib.hid (oct3 w [.int .i64 ar, .int .i64 an, .int .i64 ak, .int .u64 (au : Int), .string az, .int .i64 am, .int .u64 (av : Int), .string aq] [.int .i64 br, .int .i64 bn, .int .i64 bk, .int .u64 (bu : Int), .string bz, .int .i64 bm, .int .u64 (bv : Int), .string bq] [.int .i64 cr, .int .i64 cn, .int .i64 ck, .int .u64 (cu : Int), .string cz, .int .i64 cm, .int .u64 (cv : Int), .string cq])
  go_upto_region 1 with fail
  obtain ⟨W, hW⟩ : ∃ W, W = ((w.alloc (.cells #[.int .i64 ar, .int .i64 an, .int .i64 ak, .int .u64 (au : Int), .string az, .int .i64 am, .int .u64 (av : Int), .string aq] 27)).alloc (.cells #[.int .i64 br, .int .i64 bn, .int .i64 bk, .int .u64 (bu : Int), .string bz, .int .i64 bm, .int .u64 (bv : Int), .string bq] 27)).alloc (.cells #[.int .i64 cr, .int .i64 cn, .int .i64 ck, .int .u64 (cu : Int), .string cz, .int .i64 cm, .int .u64 (cv : Int), .string cq] 27) := ⟨_, rfl⟩
  rw [← hW]
  obtain ⟨hA, hB, hC, hF⟩ := HB.out W hW
  clear HB hW
  generalize w.heap.size + 1 + 1 = C at *
  generalize w.heap.size + 1 = B at *
  obtain ⟨A, hAe⟩ : ∃ B, B = w.heap.size := ⟨_, rfl⟩
  rw [← hAe] at hA ⊢
  clear hAe
  obtain ⟨A0, A1, A2, A3, A4, A5, A6, A7⟩ := hA.cells
  obtain ⟨B0, B1, B2, B3, B4, B5, B6, B7⟩ := hB.cells
  go_wp2_with fail
  refine (HX.out _).mono ?_
  rintro e w1 ⟨rfl, hb1⟩
  clear A0 A1 A2 A3 A4 A5 A6 A7 B0 B1 B2 B3 B4 B5 B6 B7
  replace hA := hA.next hb1
  replace hB := hB.next hb1
  replace hC := hC.next hb1
  replace hF := below_then hF hb1
  have HX := Lib.hid (oct_at w1 [.int .i64 xr, .int .i64 xn, .int .i64 xk, .int .u64 (xu : Int), .string xz, .int .i64 xm, .int .u64 (xv : Int), .string xq])
  go_upto_region 2 with fail
  obtain ⟨W, hW⟩ : ∃ W, W = w1.alloc (.cells #[.int .i64 xr, .int .i64 xn, .int .i64 xk, .int .u64 (xu : Int), .string xz, .int .i64 xm, .int .u64 (xv : Int), .string xq] 27) := ⟨_, rfl⟩
  rw [← hW]
  obtain ⟨hX, hb2⟩ := HX.out W hW
  clear HX hW
  replace hA := hA.next hb2
  replace hB := hB.next hb2
  replace hC := hC.next hb2
  replace hF := below_then hF hb2
  obtain ⟨X, hXe⟩ : ∃ B, B = w1.heap.size := ⟨_, rfl⟩
  rw [← hXe] at hX ⊢
  clear hXe hb1 hb2
  obtain ⟨A0, A1, A2, A3, A4, A5, A6, A7⟩ := hA.cells
  obtain ⟨B0, B1, B2, B3, B4, B5, B6, B7⟩ := hB.cells
  go_wp2_with fail
  refine (HY.out _).mono ?_
  rintro e w1 ⟨rfl, hb1⟩
  clear A0 A1 A2 A3 A4 A5 A6 A7 B0 B1 B2 B3 B4 B5 B6 B7
  replace hA := hA.next hb1
  replace hB := hB.next hb1
  replace hC := hC.next hb1
  replace hX := hX.next hb1
  replace hF := below_then hF hb1
  have HX := Lib.hid (oct_at w1 [.int .i64 xr, .int .i64 xn, .int .i64 xk, .int .u64 (xu : Int), .string xz, .int .i64 xm, .int .u64 (xv : Int), .string xq])
  go_upto_region 3 with fail
  obtain ⟨W, hW⟩ : ∃ W, W = w1.alloc (.cells #[.int .i64 xr, .int .i64 xn, .int .i64 xk, .int .u64 (xu : Int), .string xz, .int .i64 xm, .int .u64 (xv : Int), .string xq] 27) := ⟨_, rfl⟩
  rw [← hW]
  obtain ⟨hY, hb2⟩ := HX.out W hW
  clear HX hW
  replace hA := hA.next hb2
  replace hB := hB.next hb2
  replace hC := hC.next hb2
  replace hX := hX.next hb2
  replace hF := below_then hF hb2
  obtain ⟨Y, hYe⟩ : ∃ B, B = w1.heap.size := ⟨_, rfl⟩
  rw [← hYe] at hY ⊢
  clear hYe hb1 hb2
  go_wp2_with fail
  refine (sbegun_any _).mono ?_
  rintro e w1 ⟨rfl, hb1⟩
  replace hA := hA.next hb1
  replace hB := hB.next hb1
  replace hC := hC.next hb1
  replace hX := hX.next hb1
  replace hY := hY.next hb1
  replace hF := below_then hF hb1
  clear hb1
  obtain ⟨A0, A1, A2, A3, A4, A5, A6, A7⟩ := hA.cells
  go_wp2_with fail
  refine (HZ.out _).mono ?_
  rintro e w1 ⟨rfl, hb1⟩
  clear A0 A1 A2 A3 A4 A5 A6 A7
  replace hA := hA.next hb1
  replace hB := hB.next hb1
  replace hC := hC.next hb1
  replace hX := hX.next hb1
  replace hY := hY.next hb1
  replace hF := below_then hF hb1
  have HX := Lib.hid (oct_at w1 [.int .i64 ar, .int .i64 an, .int .i64 ak, .int .u64 (au : Int), .string az, .int .i64 am, .int .u64 (av : Int), .string aq])
  go_upto_region 8 with fail
  obtain ⟨W, hW⟩ : ∃ W, W = w1.alloc (.cells #[.int .i64 ar, .int .i64 an, .int .i64 ak, .int .u64 (au : Int), .string az, .int .i64 am, .int .u64 (av : Int), .string aq] 27) := ⟨_, rfl⟩
  rw [← hW]
  obtain ⟨hZz, hb2⟩ := HX.out W hW
  clear HX hW
  replace hA := hA.next hb2
  replace hB := hB.next hb2
  replace hC := hC.next hb2
  replace hX := hX.next hb2
  replace hY := hY.next hb2
  replace hF := below_then hF hb2
  obtain ⟨Zz, hZze⟩ : ∃ B, B = w1.heap.size := ⟨_, rfl⟩
  rw [← hZze] at hZz ⊢
  clear hZze hb1 hb2
  obtain ⟨A0, A1, A2, A3, A4, A5, A6, A7⟩ := hA.cells
  obtain ⟨X0, X1, X2, X3, X4, X5, X6, X7⟩ := hX.cells
  obtain ⟨Y0, Y1, Y2, Y3, Y4, Y5, Y6, Y7⟩ := hY.cells
  obtain ⟨Zz0, Zz1, Zz2, Zz3, Zz4, Zz5, Zz6, Zz7⟩ := hZz.cells
  go_upto_region 10 with fail
  clear A0 A1 A2 A3 A4 A5 A6 A7 X0 X1 X2 X3 X4 X5 X6 X7 Y0 Y1 Y2 Y3 Y4 Y5 Y6 Y7 Zz0 Zz1 Zz2 Zz3 Zz4 Zz5 Zz6 Zz7
  obtain ⟨C0, C1, C2, C3, C4, C5, C6, C7⟩ := hC.cells
  obtain ⟨X0, X1, X2, X3, X4, X5, X6, X7⟩ := hX.cells
  go_wp2_with fail
  refine (HP.out _).mono ?_
  rintro e w1 ⟨rfl, hb1⟩
  clear C0 C1 C2 C3 C4 C5 C6 C7 X0 X1 X2 X3 X4 X5 X6 X7
  replace hA := hA.next hb1
  replace hB := hB.next hb1
  replace hC := hC.next hb1
  replace hX := hX.next hb1
  replace hY := hY.next hb1
  replace hZz := hZz.next hb1
  replace hF := below_then hF hb1
  have HX := Lib.hid (oct_at w1 [.int .i64 pr, .int .i64 pn, .int .i64 pk, .int .u64 (pu : Int), .string pz, .int .i64 pm, .int .u64 (pv : Int), .string pq])
  go_upto_region 11 with fail
  obtain ⟨W, hW⟩ : ∃ W, W = w1.alloc (.cells #[.int .i64 pr, .int .i64 pn, .int .i64 pk, .int .u64 (pu : Int), .string pz, .int .i64 pm, .int .u64 (pv : Int), .string pq] 27) := ⟨_, rfl⟩
  rw [← hW]
  obtain ⟨hP, hb2⟩ := HX.out W hW
  clear HX hW
  replace hA := hA.next hb2
  replace hB := hB.next hb2
  replace hC := hC.next hb2
  replace hX := hX.next hb2
  replace hY := hY.next hb2
  replace hZz := hZz.next hb2
  replace hF := below_then hF hb2
  obtain ⟨P, hPe⟩ : ∃ B, B = w1.heap.size := ⟨_, rfl⟩
  rw [← hPe] at hP ⊢
  clear hPe hb1 hb2
  obtain ⟨B0, B1, B2, B3, B4, B5, B6, B7⟩ := hB.cells
  obtain ⟨C0, C1, C2, C3, C4, C5, C6, C7⟩ := hC.cells
  go_wp2_with fail
  refine (HQ.out _).mono ?_
  rintro e w1 ⟨rfl, hb1⟩
  clear B0 B1 B2 B3 B4 B5 B6 B7 C0 C1 C2 C3 C4 C5 C6 C7
  replace hA := hA.next hb1
  replace hB := hB.next hb1
  replace hC := hC.next hb1
  replace hX := hX.next hb1
  replace hY := hY.next hb1
  replace hZz := hZz.next hb1
  replace hP := hP.next hb1
  replace hF := below_then hF hb1
  have HX := Lib.hid (oct_at w1 [.int .i64 qr, .int .i64 qn, .int .i64 qk, .int .u64 (qu : Int), .string qz, .int .i64 qm, .int .u64 (qv : Int), .string qq])
  go_upto_region 12 with fail
  obtain ⟨W, hW⟩ : ∃ W, W = w1.alloc (.cells #[.int .i64 qr, .int .i64 qn, .int .i64 qk, .int .u64 (qu : Int), .string qz, .int .i64 qm, .int .u64 (qv : Int), .string qq] 27) := ⟨_, rfl⟩
  rw [← hW]
  obtain ⟨hQ, hb2⟩ := HX.out W hW
  clear HX hW
  replace hA := hA.next hb2
  replace hB := hB.next hb2
  replace hC := hC.next hb2
  replace hX := hX.next hb2
  replace hY := hY.next hb2
  replace hZz := hZz.next hb2
  replace hP := hP.next hb2
  replace hF := below_then hF hb2
  obtain ⟨Q, hQe⟩ : ∃ B, B = w1.heap.size := ⟨_, rfl⟩
  rw [← hQe] at hQ ⊢
  clear hQe hb1 hb2
  go_wp2_with fail
  go_ret
  exact ⟨rfl, hF⟩

set_option maxHeartbeats 4000000 in
set_option maxRecDepth 100000 in
theorem monoid_q (w : World) (k : Int) (a b c : S.St) (ha : sOk a) (hb : sOk b) (hc : sOk c) (h : (S.mg k a b).2 = 0) (h2 : (S.mg k (S.mg k a b).1 c).2 = 0) (h3 : (S.mg k b c).2 ≠ 0) :
    Calls Try.prog 6 #[.int .i64 k, sag a, sag b, sag c] w (BoolPost true w) := by
  have HX0 := fun W => smerge_any k a b W ha hb
  have HY0 := fun W => smerge_any k b a W hb ha
  have HZ0 := fun W => smerge_any k a S.zero W ha sok_zero
  have HP0 := fun W => smerge_any k (S.mg k a b).1 c W (sok_mg ha hb) hc
  have HQ0 := fun W => smerge_any k b c W hb hc
  rw [S.mg_comm h] at HY0
  rw [S.mg_zero h] at HZ0
  obtain ⟨s, xe, hr⟩ : ∃ s xe, S.mg k a b = (s, xe) := ⟨_, _, rfl⟩
  rw [hr] at h h2 HX0 HY0 HP0
  simp only at h h2 HP0
  subst h
  clear hr
  obtain ⟨p, pe, hp⟩ : ∃ p pe, S.mg k s c = (p, pe) := ⟨_, _, rfl⟩
  rw [hp] at h2 HP0
  simp only at h2
  obtain ⟨q, qe, hq⟩ : ∃ q qe, S.mg k b c = (q, qe) := ⟨_, _, rfl⟩
  rw [hq] at HQ0 h3
  simp only at h3
  subst h2
  have g1 : ((qe : Int) != 0) = true := by rw [bne_iff_ne]; omega
  clear hp hq h3
  have HNX := fun w => stats_neq_stats w s s
  have HNA := fun w => stats_neq_stats w a a
  clear ha hb hc
  obtain ⟨xr, xn, ⟨xk, xu, xT⟩, ⟨xm, xv, xS⟩⟩ := s
  obtain ⟨pr, pn, ⟨pk, pu, pT⟩, ⟨pm, pv, pS⟩⟩ := p
  obtain ⟨qr, qn, ⟨qk, qu, qT⟩, ⟨qm, qv, qS⟩⟩ := q
  obtain ⟨ar, an, ⟨ak, au, aT⟩, ⟨am, av, aS⟩⟩ := a
  obtain ⟨br, bn, ⟨bk, bu, bT⟩, ⟨bm, bv, bS⟩⟩ := b
  obtain ⟨cr, cn, ⟨ck, cu, cT⟩, ⟨cm, cv, cS⟩⟩ := c
  have HX := Lib.hid (fun W => show Calls Try.prog 14 #[.int .i64 k, .agg #[.int .i64 ar, .int .i64 an, .int .i64 ak, .int .u64 (au : Int), .string (str aT), .int .i64 am, .int .u64 (av : Int), .string (str aS)], .agg #[.int .i64 br, .int .i64 bn, .int .i64 bk, .int .u64 (bu : Int), .string (str bT), .int .i64 bm, .int .u64 (bv : Int), .string (str bS)]] W (fun e w' => e = .returned (.tuple #[.agg #[.int .i64 xr, .int .i64 xn, .int .i64 xk, .int .u64 (xu : Int), .string (str xT), .int .i64 xm, .int .u64 (xv : Int), .string (str xS)], .int .i64 0]) ∧ Below W.heap.size W w') from HX0 W)
  have HY := Lib.hid (fun W => show Calls Try.prog 14 #[.int .i64 k, .agg #[.int .i64 br, .int .i64 bn, .int .i64 bk, .int .u64 (bu : Int), .string (str bT), .int .i64 bm, .int .u64 (bv : Int), .string (str bS)], .agg #[.int .i64 ar, .int .i64 an, .int .i64 ak, .int .u64 (au : Int), .string (str aT), .int .i64 am, .int .u64 (av : Int), .string (str aS)]] W (fun e w' => e = .returned (.tuple #[.agg #[.int .i64 xr, .int .i64 xn, .int .i64 xk, .int .u64 (xu : Int), .string (str xT), .int .i64 xm, .int .u64 (xv : Int), .string (str xS)], .int .i64 0]) ∧ Below W.heap.size W w') from HY0 W)
  have HZ := Lib.hid (fun W => show Calls Try.prog 14 #[.int .i64 k, .agg #[.int .i64 ar, .int .i64 an, .int .i64 ak, .int .u64 (au : Int), .string (str aT), .int .i64 am, .int .u64 (av : Int), .string (str aS)], .agg #[.int .i64 0, .int .i64 0, .int .i64 0, .int .u64 0, .string ⟨#[]⟩, .int .i64 0, .int .u64 0, .string ⟨#[]⟩]] W (fun e w' => e = .returned (.tuple #[.agg #[.int .i64 ar, .int .i64 an, .int .i64 ak, .int .u64 (au : Int), .string (str aT), .int .i64 am, .int .u64 (av : Int), .string (str aS)], .int .i64 0]) ∧ Below W.heap.size W w') from HZ0 W)
  have HP := Lib.hid (fun W => show Calls Try.prog 14 #[.int .i64 k, .agg #[.int .i64 xr, .int .i64 xn, .int .i64 xk, .int .u64 (xu : Int), .string (str xT), .int .i64 xm, .int .u64 (xv : Int), .string (str xS)], .agg #[.int .i64 cr, .int .i64 cn, .int .i64 ck, .int .u64 (cu : Int), .string (str cT), .int .i64 cm, .int .u64 (cv : Int), .string (str cS)]] W (fun e w' => e = .returned (.tuple #[.agg #[.int .i64 pr, .int .i64 pn, .int .i64 pk, .int .u64 (pu : Int), .string (str pT), .int .i64 pm, .int .u64 (pv : Int), .string (str pS)], .int .i64 0]) ∧ Below W.heap.size W w') from HP0 W)
  have HQ := Lib.hid (fun W => show Calls Try.prog 14 #[.int .i64 k, .agg #[.int .i64 br, .int .i64 bn, .int .i64 bk, .int .u64 (bu : Int), .string (str bT), .int .i64 bm, .int .u64 (bv : Int), .string (str bS)], .agg #[.int .i64 cr, .int .i64 cn, .int .i64 ck, .int .u64 (cu : Int), .string (str cT), .int .i64 cm, .int .u64 (cv : Int), .string (str cS)]] W (fun e w' => e = .returned (.tuple #[.agg #[.int .i64 qr, .int .i64 qn, .int .i64 qk, .int .u64 (qu : Int), .string (str qT), .int .i64 qm, .int .u64 (qv : Int), .string (str qS)], .int .i64 qe]) ∧ Below W.heap.size W w') from HQ0 W)
  have hNX : ∀ w, (binOp .neq 27 (.agg #[.int .i64 xr, .int .i64 xn, .int .i64 xk, .int .u64 (xu : Int), .string (str xT), .int .i64 xm, .int .u64 (xv : Int), .string (str xS)]) (.agg #[.int .i64 xr, .int .i64 xn, .int .i64 xk, .int .u64 (xu : Int), .string (str xT), .int .i64 xm, .int .u64 (xv : Int), .string (str xS)])).run Try.prog w = .ok (.bool false) w := fun w => by
    have h := HNX w
    rw [decide_eq_false (by simp)] at h
    exact h
  have hNA : ∀ w, (binOp .neq 27 (.agg #[.int .i64 ar, .int .i64 an, .int .i64 ak, .int .u64 (au : Int), .string (str aT), .int .i64 am, .int .u64 (av : Int), .string (str aS)]) (.agg #[.int .i64 ar, .int .i64 an, .int .i64 ak, .int .u64 (au : Int), .string (str aT), .int .i64 am, .int .u64 (av : Int), .string (str aS)])).run Try.prog w = .ok (.bool false) w := fun w => by
    have h := HNA w
    rw [decide_eq_false (by simp)] at h
    exact h
  clear HNX HNA HX0 HY0 HZ0 HP0 HQ0
  have hgd_neq := guards_stats .neq
  unfold sag
  simp only
  generalize str aT = az at *
  generalize str aS = aq at *
  generalize str bT = bz at *
  generalize str bS = bq at *
  generalize str cT = cz at *
  generalize str cS = cq at *
  generalize str xT = xz at *
  generalize str xS = xq at *
  generalize str pT = pz at *
  generalize str pS = pq at *
  generalize str qT = qz at *
  generalize str qS = qq at *
  go_enter Try.func6, Try.ntmps6
  have HB := Lib.hid (oct3 w [.int .i64 ar, .int .i64 an, .int .i64 ak, .int .u64 (au : Int), .string az, .int .i64 am, .int .u64 (av : Int), .string aq] [.int .i64 br, .int .i64 bn, .int .i64 bk, .int .u64 (bu : Int), .string bz, .int .i64 bm, .int .u64 (bv : Int), .string bq] [.int .i64 cr, .int .i64 cn, .int .i64 ck, .int .u64 (cu : Int), .string cz, .int .i64 cm, .int .u64 (cv : Int), .string cq])
  go_upto_region 1 with fail
  obtain ⟨W, hW⟩ : ∃ W, W = ((w.alloc (.cells #[.int .i64 ar, .int .i64 an, .int .i64 ak, .int .u64 (au : Int), .string az, .int .i64 am, .int .u64 (av : Int), .string aq] 27)).alloc (.cells #[.int .i64 br, .int .i64 bn, .int .i64 bk, .int .u64 (bu : Int), .string bz, .int .i64 bm, .int .u64 (bv : Int), .string bq] 27)).alloc (.cells #[.int .i64 cr, .int .i64 cn, .int .i64 ck, .int .u64 (cu : Int), .string cz, .int .i64 cm, .int .u64 (cv : Int), .string cq] 27) := ⟨_, rfl⟩
  rw [← hW]
  obtain ⟨hA, hB, hC, hF⟩ := HB.out W hW
  clear HB hW
  generalize w.heap.size + 1 + 1 = C at *
  generalize w.heap.size + 1 = B at *
  obtain ⟨A, hAe⟩ : ∃ B, B = w.heap.size := ⟨_, rfl⟩
  rw [← hAe] at hA ⊢
  clear hAe
  obtain ⟨A0, A1, A2, A3, A4, A5, A6, A7⟩ := hA.cells
  obtain ⟨B0, B1, B2, B3, B4, B5, B6, B7⟩ := hB.cells
  go_wp2_with fail
  refine (HX.out _).mono ?_
  rintro e w1 ⟨rfl, hb1⟩
  clear A0 A1 A2 A3 A4 A5 A6 A7 B0 B1 B2 B3 B4 B5 B6 B7
  replace hA := hA.next hb1
  replace hB := hB.next hb1
  replace hC := hC.next hb1
  replace hF := below_then hF hb1
  have HX := Lib.hid (oct_at w1 [.int .i64 xr, .int .i64 xn, .int .i64 xk, .int .u64 (xu : Int), .string xz, .int .i64 xm, .int .u64 (xv : Int), .string xq])
  go_upto_region 2 with fail
  obtain ⟨W, hW⟩ : ∃ W, W = w1.alloc (.cells #[.int .i64 xr, .int .i64 xn, .int .i64 xk, .int .u64 (xu : Int), .string xz, .int .i64 xm, .int .u64 (xv : Int), .string xq] 27) := ⟨_, rfl⟩
  rw [← hW]
  obtain ⟨hX, hb2⟩ := HX.out W hW
  clear HX hW
  replace hA := hA.next hb2
  replace hB := hB.next hb2
  replace hC := hC.next hb2
  replace hF := below_then hF hb2
  obtain ⟨X, hXe⟩ : ∃ B, B = w1.heap.size := ⟨_, rfl⟩
  rw [← hXe] at hX ⊢
  clear hXe hb1 hb2
  obtain ⟨A0, A1, A2, A3, A4, A5, A6, A7⟩ := hA.cells
  obtain ⟨B0, B1, B2, B3, B4, B5, B6, B7⟩ := hB.cells
  go_wp2_with fail
  refine (HY.out _).mono ?_
  rintro e w1 ⟨rfl, hb1⟩
  clear A0 A1 A2 A3 A4 A5 A6 A7 B0 B1 B2 B3 B4 B5 B6 B7
  replace hA := hA.next hb1
  replace hB := hB.next hb1
  replace hC := hC.next hb1
  replace hX := hX.next hb1
  replace hF := below_then hF hb1
  have HX := Lib.hid (oct_at w1 [.int .i64 xr, .int .i64 xn, .int .i64 xk, .int .u64 (xu : Int), .string xz, .int .i64 xm, .int .u64 (xv : Int), .string xq])
  go_upto_region 3 with fail
  obtain ⟨W, hW⟩ : ∃ W, W = w1.alloc (.cells #[.int .i64 xr, .int .i64 xn, .int .i64 xk, .int .u64 (xu : Int), .string xz, .int .i64 xm, .int .u64 (xv : Int), .string xq] 27) := ⟨_, rfl⟩
  rw [← hW]
  obtain ⟨hY, hb2⟩ := HX.out W hW
  clear HX hW
  replace hA := hA.next hb2
  replace hB := hB.next hb2
  replace hC := hC.next hb2
  replace hX := hX.next hb2
  replace hF := below_then hF hb2
  obtain ⟨Y, hYe⟩ : ∃ B, B = w1.heap.size := ⟨_, rfl⟩
  rw [← hYe] at hY ⊢
  clear hYe hb1 hb2
  go_wp2_with fail
  refine (sbegun_any _).mono ?_
  rintro e w1 ⟨rfl, hb1⟩
  replace hA := hA.next hb1
  replace hB := hB.next hb1
  replace hC := hC.next hb1
  replace hX := hX.next hb1
  replace hY := hY.next hb1
  replace hF := below_then hF hb1
  clear hb1
  obtain ⟨A0, A1, A2, A3, A4, A5, A6, A7⟩ := hA.cells
  go_wp2_with fail
  refine (HZ.out _).mono ?_
  rintro e w1 ⟨rfl, hb1⟩
  clear A0 A1 A2 A3 A4 A5 A6 A7
  replace hA := hA.next hb1
  replace hB := hB.next hb1
  replace hC := hC.next hb1
  replace hX := hX.next hb1
  replace hY := hY.next hb1
  replace hF := below_then hF hb1
  have HX := Lib.hid (oct_at w1 [.int .i64 ar, .int .i64 an, .int .i64 ak, .int .u64 (au : Int), .string az, .int .i64 am, .int .u64 (av : Int), .string aq])
  go_upto_region 8 with fail
  obtain ⟨W, hW⟩ : ∃ W, W = w1.alloc (.cells #[.int .i64 ar, .int .i64 an, .int .i64 ak, .int .u64 (au : Int), .string az, .int .i64 am, .int .u64 (av : Int), .string aq] 27) := ⟨_, rfl⟩
  rw [← hW]
  obtain ⟨hZz, hb2⟩ := HX.out W hW
  clear HX hW
  replace hA := hA.next hb2
  replace hB := hB.next hb2
  replace hC := hC.next hb2
  replace hX := hX.next hb2
  replace hY := hY.next hb2
  replace hF := below_then hF hb2
  obtain ⟨Zz, hZze⟩ : ∃ B, B = w1.heap.size := ⟨_, rfl⟩
  rw [← hZze] at hZz ⊢
  clear hZze hb1 hb2
  obtain ⟨A0, A1, A2, A3, A4, A5, A6, A7⟩ := hA.cells
  obtain ⟨X0, X1, X2, X3, X4, X5, X6, X7⟩ := hX.cells
  obtain ⟨Y0, Y1, Y2, Y3, Y4, Y5, Y6, Y7⟩ := hY.cells
  obtain ⟨Zz0, Zz1, Zz2, Zz3, Zz4, Zz5, Zz6, Zz7⟩ := hZz.cells
  go_upto_region 10 with fail
  clear A0 A1 A2 A3 A4 A5 A6 A7 X0 X1 X2 X3 X4 X5 X6 X7 Y0 Y1 Y2 Y3 Y4 Y5 Y6 Y7 Zz0 Zz1 Zz2 Zz3 Zz4 Zz5 Zz6 Zz7
  obtain ⟨C0, C1, C2, C3, C4, C5, C6, C7⟩ := hC.cells
  obtain ⟨X0, X1, X2, X3, X4, X5, X6, X7⟩ := hX.cells
  go_wp2_with fail
  refine (HP.out _).mono ?_
  rintro e w1 ⟨rfl, hb1⟩
  clear C0 C1 C2 C3 C4 C5 C6 C7 X0 X1 X2 X3 X4 X5 X6 X7
  replace hA := hA.next hb1
  replace hB := hB.next hb1
  replace hC := hC.next hb1
  replace hX := hX.next hb1
  replace hY := hY.next hb1
  replace hZz := hZz.next hb1
  replace hF := below_then hF hb1
  have HX := Lib.hid (oct_at w1 [.int .i64 pr, .int .i64 pn, .int .i64 pk, .int .u64 (pu : Int), .string pz, .int .i64 pm, .int .u64 (pv : Int), .string pq])
  go_upto_region 11 with fail
  obtain ⟨W, hW⟩ : ∃ W, W = w1.alloc (.cells #[.int .i64 pr, .int .i64 pn, .int .i64 pk, .int .u64 (pu : Int), .string pz, .int .i64 pm, .int .u64 (pv : Int), .string pq] 27) := ⟨_, rfl⟩
  rw [← hW]
  obtain ⟨hP, hb2⟩ := HX.out W hW
  clear HX hW
  replace hA := hA.next hb2
  replace hB := hB.next hb2
  replace hC := hC.next hb2
  replace hX := hX.next hb2
  replace hY := hY.next hb2
  replace hZz := hZz.next hb2
  replace hF := below_then hF hb2
  obtain ⟨P, hPe⟩ : ∃ B, B = w1.heap.size := ⟨_, rfl⟩
  rw [← hPe] at hP ⊢
  clear hPe hb1 hb2
  obtain ⟨B0, B1, B2, B3, B4, B5, B6, B7⟩ := hB.cells
  obtain ⟨C0, C1, C2, C3, C4, C5, C6, C7⟩ := hC.cells
  go_wp2_with fail
  refine (HQ.out _).mono ?_
  rintro e w1 ⟨rfl, hb1⟩
  clear B0 B1 B2 B3 B4 B5 B6 B7 C0 C1 C2 C3 C4 C5 C6 C7
  replace hA := hA.next hb1
  replace hB := hB.next hb1
  replace hC := hC.next hb1
  replace hX := hX.next hb1
  replace hY := hY.next hb1
  replace hZz := hZz.next hb1
  replace hP := hP.next hb1
  replace hF := below_then hF hb1
  have HX := Lib.hid (oct_at w1 [.int .i64 qr, .int .i64 qn, .int .i64 qk, .int .u64 (qu : Int), .string qz, .int .i64 qm, .int .u64 (qv : Int), .string qq])
  go_upto_region 12 with fail
  obtain ⟨W, hW⟩ : ∃ W, W = w1.alloc (.cells #[.int .i64 qr, .int .i64 qn, .int .i64 qk, .int .u64 (qu : Int), .string qz, .int .i64 qm, .int .u64 (qv : Int), .string qq] 27) := ⟨_, rfl⟩
  rw [← hW]
  obtain ⟨hQ, hb2⟩ := HX.out W hW
  clear HX hW
  replace hA := hA.next hb2
  replace hB := hB.next hb2
  replace hC := hC.next hb2
  replace hX := hX.next hb2
  replace hY := hY.next hb2
  replace hZz := hZz.next hb2
  replace hP := hP.next hb2
  replace hF := below_then hF hb2
  obtain ⟨Q, hQe⟩ : ∃ B, B = w1.heap.size := ⟨_, rfl⟩
  rw [← hQe] at hQ ⊢
  clear hQe hb1 hb2
  go_wp2_with fail
  go_ret
  exact ⟨rfl, hF⟩

set_option maxHeartbeats 4000000 in
set_option maxRecDepth 100000 in
theorem monoid_r (w : World) (k : Int) (a b c : S.St) (ha : sOk a) (hb : sOk b) (hc : sOk c) (h : (S.mg k a b).2 = 0) (h2 : (S.mg k (S.mg k a b).1 c).2 = 0) (h3 : (S.mg k b c).2 = 0) :
    Calls Try.prog 6 #[.int .i64 k, sag a, sag b, sag c] w (BoolPost true w) := by
  have HX0 := fun W => smerge_any k a b W ha hb
  have HY0 := fun W => smerge_any k b a W hb ha
  have HZ0 := fun W => smerge_any k a S.zero W ha sok_zero
  have HP0 := fun W => smerge_any k (S.mg k a b).1 c W (sok_mg ha hb) hc
  have HQ0 := fun W => smerge_any k b c W hb hc
  have HR0 := fun W => smerge_any k a (S.mg k b c).1 W ha (sok_mg hb hc)
  rw [S.mg_assoc h h2 h3] at HR0
  rw [S.mg_comm h] at HY0
  rw [S.mg_zero h] at HZ0
  obtain ⟨s, xe, hr⟩ : ∃ s xe, S.mg k a b = (s, xe) := ⟨_, _, rfl⟩
  rw [hr] at h h2 HX0 HY0 HP0 HR0
  simp only at h h2 HP0 HR0
  subst h
  clear hr
  obtain ⟨p, pe, hp⟩ : ∃ p pe, S.mg k s c = (p, pe) := ⟨_, _, rfl⟩
  rw [hp] at h2 HP0 HR0
  simp only at h2
  obtain ⟨q, qe, hq⟩ : ∃ q qe, S.mg k b c = (q, qe) := ⟨_, _, rfl⟩
  rw [hq] at HQ0 h3 HR0
  simp only at h3 HR0
  subst h2
  subst h3
  clear hp hq
  have HNX := fun w => stats_neq_stats w s s
  have HNA := fun w => stats_neq_stats w a a
  have HE := fun w => stats_eql_stats w p p
  clear ha hb hc
  obtain ⟨xr, xn, ⟨xk, xu, xT⟩, ⟨xm, xv, xS⟩⟩ := s
  obtain ⟨pr, pn, ⟨pk, pu, pT⟩, ⟨pm, pv, pS⟩⟩ := p
  obtain ⟨qr, qn, ⟨qk, qu, qT⟩, ⟨qm, qv, qS⟩⟩ := q
  obtain ⟨ar, an, ⟨ak, au, aT⟩, ⟨am, av, aS⟩⟩ := a
  obtain ⟨br, bn, ⟨bk, bu, bT⟩, ⟨bm, bv, bS⟩⟩ := b
  obtain ⟨cr, cn, ⟨ck, cu, cT⟩, ⟨cm, cv, cS⟩⟩ := c
  have HX := Lib.hid (fun W => show Calls Try.prog 14 #[.int .i64 k, .agg #[.int .i64 ar, .int .i64 an, .int .i64 ak, .int .u64 (au : Int), .string (str aT), .int .i64 am, .int .u64 (av : Int), .string (str aS)], .agg #[.int .i64 br, .int .i64 bn, .int .i64 bk, .int .u64 (bu : Int), .string (str bT), .int .i64 bm, .int .u64 (bv : Int), .string (str bS)]] W (fun e w' => e = .returned (.tuple #[.agg #[.int .i64 xr, .int .i64 xn, .int .i64 xk, .int .u64 (xu : Int), .string (str xT), .int .i64 xm, .int .u64 (xv : Int), .string (str xS)], .int .i64 0]) ∧ Below W.heap.size W w') from HX0 W)
  have HY := Lib.hid (fun W => show Calls Try.prog 14 #[.int .i64 k, .agg #[.int .i64 br, .int .i64 bn, .int .i64 bk, .int .u64 (bu : Int), .string (str bT), .int .i64 bm, .int .u64 (bv : Int), .string (str bS)], .agg #[.int .i64 ar, .int .i64 an, .int .i64 ak, .int .u64 (au : Int), .string (str aT), .int .i64 am, .int .u64 (av : Int), .string (str aS)]] W (fun e w' => e = .returned (.tuple #[.agg #[.int .i64 xr, .int .i64 xn, .int .i64 xk, .int .u64 (xu : Int), .string (str xT), .int .i64 xm, .int .u64 (xv : Int), .string (str xS)], .int .i64 0]) ∧ Below W.heap.size W w') from HY0 W)
  have HZ := Lib.hid (fun W => show Calls Try.prog 14 #[.int .i64 k, .agg #[.int .i64 ar, .int .i64 an, .int .i64 ak, .int .u64 (au : Int), .string (str aT), .int .i64 am, .int .u64 (av : Int), .string (str aS)], .agg #[.int .i64 0, .int .i64 0, .int .i64 0, .int .u64 0, .string ⟨#[]⟩, .int .i64 0, .int .u64 0, .string ⟨#[]⟩]] W (fun e w' => e = .returned (.tuple #[.agg #[.int .i64 ar, .int .i64 an, .int .i64 ak, .int .u64 (au : Int), .string (str aT), .int .i64 am, .int .u64 (av : Int), .string (str aS)], .int .i64 0]) ∧ Below W.heap.size W w') from HZ0 W)
  have HP := Lib.hid (fun W => show Calls Try.prog 14 #[.int .i64 k, .agg #[.int .i64 xr, .int .i64 xn, .int .i64 xk, .int .u64 (xu : Int), .string (str xT), .int .i64 xm, .int .u64 (xv : Int), .string (str xS)], .agg #[.int .i64 cr, .int .i64 cn, .int .i64 ck, .int .u64 (cu : Int), .string (str cT), .int .i64 cm, .int .u64 (cv : Int), .string (str cS)]] W (fun e w' => e = .returned (.tuple #[.agg #[.int .i64 pr, .int .i64 pn, .int .i64 pk, .int .u64 (pu : Int), .string (str pT), .int .i64 pm, .int .u64 (pv : Int), .string (str pS)], .int .i64 0]) ∧ Below W.heap.size W w') from HP0 W)
  have HQ := Lib.hid (fun W => show Calls Try.prog 14 #[.int .i64 k, .agg #[.int .i64 br, .int .i64 bn, .int .i64 bk, .int .u64 (bu : Int), .string (str bT), .int .i64 bm, .int .u64 (bv : Int), .string (str bS)], .agg #[.int .i64 cr, .int .i64 cn, .int .i64 ck, .int .u64 (cu : Int), .string (str cT), .int .i64 cm, .int .u64 (cv : Int), .string (str cS)]] W (fun e w' => e = .returned (.tuple #[.agg #[.int .i64 qr, .int .i64 qn, .int .i64 qk, .int .u64 (qu : Int), .string (str qT), .int .i64 qm, .int .u64 (qv : Int), .string (str qS)], .int .i64 0]) ∧ Below W.heap.size W w') from HQ0 W)
  have HR := Lib.hid (fun W => show Calls Try.prog 14 #[.int .i64 k, .agg #[.int .i64 ar, .int .i64 an, .int .i64 ak, .int .u64 (au : Int), .string (str aT), .int .i64 am, .int .u64 (av : Int), .string (str aS)], .agg #[.int .i64 qr, .int .i64 qn, .int .i64 qk, .int .u64 (qu : Int), .string (str qT), .int .i64 qm, .int .u64 (qv : Int), .string (str qS)]] W (fun e w' => e = .returned (.tuple #[.agg #[.int .i64 pr, .int .i64 pn, .int .i64 pk, .int .u64 (pu : Int), .string (str pT), .int .i64 pm, .int .u64 (pv : Int), .string (str pS)], .int .i64 0]) ∧ Below W.heap.size W w') from HR0 W)
  have hNX : ∀ w, (binOp .neq 27 (.agg #[.int .i64 xr, .int .i64 xn, .int .i64 xk, .int .u64 (xu : Int), .string (str xT), .int .i64 xm, .int .u64 (xv : Int), .string (str xS)]) (.agg #[.int .i64 xr, .int .i64 xn, .int .i64 xk, .int .u64 (xu : Int), .string (str xT), .int .i64 xm, .int .u64 (xv : Int), .string (str xS)])).run Try.prog w = .ok (.bool false) w := fun w => by
    have h := HNX w
    rw [decide_eq_false (by simp)] at h
    exact h
  have hNA : ∀ w, (binOp .neq 27 (.agg #[.int .i64 ar, .int .i64 an, .int .i64 ak, .int .u64 (au : Int), .string (str aT), .int .i64 am, .int .u64 (av : Int), .string (str aS)]) (.agg #[.int .i64 ar, .int .i64 an, .int .i64 ak, .int .u64 (au : Int), .string (str aT), .int .i64 am, .int .u64 (av : Int), .string (str aS)])).run Try.prog w = .ok (.bool false) w := fun w => by
    have h := HNA w
    rw [decide_eq_false (by simp)] at h
    exact h
  have hE : ∀ w, (binOp .eql 27 (.agg #[.int .i64 pr, .int .i64 pn, .int .i64 pk, .int .u64 (pu : Int), .string (str pT), .int .i64 pm, .int .u64 (pv : Int), .string (str pS)]) (.agg #[.int .i64 pr, .int .i64 pn, .int .i64 pk, .int .u64 (pu : Int), .string (str pT), .int .i64 pm, .int .u64 (pv : Int), .string (str pS)])).run Try.prog w = .ok (.bool true) w := fun w => by
    have h := HE w
    rw [decide_eq_true rfl] at h
    exact h
  clear HNX HNA HE HX0 HY0 HZ0 HP0 HQ0 HR0
  have hgd_eql := guards_stats .eql
  have hgd_neq := guards_stats .neq
  unfold sag
  simp only
  generalize str aT = az at *
  generalize str aS = aq at *
  generalize str bT = bz at *
  generalize str bS = bq at *
  generalize str cT = cz at *
  generalize str cS = cq at *
  generalize str xT = xz at *
  generalize str xS = xq at *
  generalize str pT = pz at *
  generalize str pS = pq at *
  generalize str qT = qz at *
  generalize str qS = qq at *
  go_enter Try.func6, Try.ntmps6
  have HB := Lib.hid (oct3 w [.int .i64 ar, .int .i64 an, .int .i64 ak, .int .u64 (au : Int), .string az, .int .i64 am, .int .u64 (av : Int), .string aq] [.int .i64 br, .int .i64 bn, .int .i64 bk, .int .u64 (bu : Int), .string bz, .int .i64 bm, .int .u64 (bv : Int), .string bq] [.int .i64 cr, .int .i64 cn, .int .i64 ck, .int .u64 (cu : Int), .string cz, .int .i64 cm, .int .u64 (cv : Int), .string cq])
  go_upto_region 1 with fail
  obtain ⟨W, hW⟩ : ∃ W, W = ((w.alloc (.cells #[.int .i64 ar, .int .i64 an, .int .i64 ak, .int .u64 (au : Int), .string az, .int .i64 am, .int .u64 (av : Int), .string aq] 27)).alloc (.cells #[.int .i64 br, .int .i64 bn, .int .i64 bk, .int .u64 (bu : Int), .string bz, .int .i64 bm, .int .u64 (bv : Int), .string bq] 27)).alloc (.cells #[.int .i64 cr, .int .i64 cn, .int .i64 ck, .int .u64 (cu : Int), .string cz, .int .i64 cm, .int .u64 (cv : Int), .string cq] 27) := ⟨_, rfl⟩
  rw [← hW]
  obtain ⟨hA, hB, hC, hF⟩ := HB.out W hW
  clear HB hW
  generalize w.heap.size + 1 + 1 = C at *
  generalize w.heap.size + 1 = B at *
  obtain ⟨A, hAe⟩ : ∃ B, B = w.heap.size := ⟨_, rfl⟩
  rw [← hAe] at hA ⊢
  clear hAe
  obtain ⟨A0, A1, A2, A3, A4, A5, A6, A7⟩ := hA.cells
  obtain ⟨B0, B1, B2, B3, B4, B5, B6, B7⟩ := hB.cells
  go_wp2_with fail
  refine (HX.out _).mono ?_
  rintro e w1 ⟨rfl, hb1⟩
  clear A0 A1 A2 A3 A4 A5 A6 A7 B0 B1 B2 B3 B4 B5 B6 B7
  replace hA := hA.next hb1
  replace hB := hB.next hb1
  replace hC := hC.next hb1
  replace hF := below_then hF hb1
  have HX := Lib.hid (oct_at w1 [.int .i64 xr, .int .i64 xn, .int .i64 xk, .int .u64 (xu : Int), .string xz, .int .i64 xm, .int .u64 (xv : Int), .string xq])
  go_upto_region 2 with fail
  obtain ⟨W, hW⟩ : ∃ W, W = w1.alloc (.cells #[.int .i64 xr, .int .i64 xn, .int .i64 xk, .int .u64 (xu : Int), .string xz, .int .i64 xm, .int .u64 (xv : Int), .string xq] 27) := ⟨_, rfl⟩
  rw [← hW]
  obtain ⟨hX, hb2⟩ := HX.out W hW
  clear HX hW
  replace hA := hA.next hb2
  replace hB := hB.next hb2
  replace hC := hC.next hb2
  replace hF := below_then hF hb2
  obtain ⟨X, hXe⟩ : ∃ B, B = w1.heap.size := ⟨_, rfl⟩
  rw [← hXe] at hX ⊢
  clear hXe hb1 hb2
  obtain ⟨A0, A1, A2, A3, A4, A5, A6, A7⟩ := hA.cells
  obtain ⟨B0, B1, B2, B3, B4, B5, B6, B7⟩ := hB.cells
  go_wp2_with fail
  refine (HY.out _).mono ?_
  rintro e w1 ⟨rfl, hb1⟩
  clear A0 A1 A2 A3 A4 A5 A6 A7 B0 B1 B2 B3 B4 B5 B6 B7
  replace hA := hA.next hb1
  replace hB := hB.next hb1
  replace hC := hC.next hb1
  replace hX := hX.next hb1
  replace hF := below_then hF hb1
  have HX := Lib.hid (oct_at w1 [.int .i64 xr, .int .i64 xn, .int .i64 xk, .int .u64 (xu : Int), .string xz, .int .i64 xm, .int .u64 (xv : Int), .string xq])
  go_upto_region 3 with fail
  obtain ⟨W, hW⟩ : ∃ W, W = w1.alloc (.cells #[.int .i64 xr, .int .i64 xn, .int .i64 xk, .int .u64 (xu : Int), .string xz, .int .i64 xm, .int .u64 (xv : Int), .string xq] 27) := ⟨_, rfl⟩
  rw [← hW]
  obtain ⟨hY, hb2⟩ := HX.out W hW
  clear HX hW
  replace hA := hA.next hb2
  replace hB := hB.next hb2
  replace hC := hC.next hb2
  replace hX := hX.next hb2
  replace hF := below_then hF hb2
  obtain ⟨Y, hYe⟩ : ∃ B, B = w1.heap.size := ⟨_, rfl⟩
  rw [← hYe] at hY ⊢
  clear hYe hb1 hb2
  go_wp2_with fail
  refine (sbegun_any _).mono ?_
  rintro e w1 ⟨rfl, hb1⟩
  replace hA := hA.next hb1
  replace hB := hB.next hb1
  replace hC := hC.next hb1
  replace hX := hX.next hb1
  replace hY := hY.next hb1
  replace hF := below_then hF hb1
  clear hb1
  obtain ⟨A0, A1, A2, A3, A4, A5, A6, A7⟩ := hA.cells
  go_wp2_with fail
  refine (HZ.out _).mono ?_
  rintro e w1 ⟨rfl, hb1⟩
  clear A0 A1 A2 A3 A4 A5 A6 A7
  replace hA := hA.next hb1
  replace hB := hB.next hb1
  replace hC := hC.next hb1
  replace hX := hX.next hb1
  replace hY := hY.next hb1
  replace hF := below_then hF hb1
  have HX := Lib.hid (oct_at w1 [.int .i64 ar, .int .i64 an, .int .i64 ak, .int .u64 (au : Int), .string az, .int .i64 am, .int .u64 (av : Int), .string aq])
  go_upto_region 8 with fail
  obtain ⟨W, hW⟩ : ∃ W, W = w1.alloc (.cells #[.int .i64 ar, .int .i64 an, .int .i64 ak, .int .u64 (au : Int), .string az, .int .i64 am, .int .u64 (av : Int), .string aq] 27) := ⟨_, rfl⟩
  rw [← hW]
  obtain ⟨hZz, hb2⟩ := HX.out W hW
  clear HX hW
  replace hA := hA.next hb2
  replace hB := hB.next hb2
  replace hC := hC.next hb2
  replace hX := hX.next hb2
  replace hY := hY.next hb2
  replace hF := below_then hF hb2
  obtain ⟨Zz, hZze⟩ : ∃ B, B = w1.heap.size := ⟨_, rfl⟩
  rw [← hZze] at hZz ⊢
  clear hZze hb1 hb2
  obtain ⟨A0, A1, A2, A3, A4, A5, A6, A7⟩ := hA.cells
  obtain ⟨X0, X1, X2, X3, X4, X5, X6, X7⟩ := hX.cells
  obtain ⟨Y0, Y1, Y2, Y3, Y4, Y5, Y6, Y7⟩ := hY.cells
  obtain ⟨Zz0, Zz1, Zz2, Zz3, Zz4, Zz5, Zz6, Zz7⟩ := hZz.cells
  go_upto_region 10 with fail
  clear A0 A1 A2 A3 A4 A5 A6 A7 X0 X1 X2 X3 X4 X5 X6 X7 Y0 Y1 Y2 Y3 Y4 Y5 Y6 Y7 Zz0 Zz1 Zz2 Zz3 Zz4 Zz5 Zz6 Zz7
  obtain ⟨C0, C1, C2, C3, C4, C5, C6, C7⟩ := hC.cells
  obtain ⟨X0, X1, X2, X3, X4, X5, X6, X7⟩ := hX.cells
  go_wp2_with fail
  refine (HP.out _).mono ?_
  rintro e w1 ⟨rfl, hb1⟩
  clear C0 C1 C2 C3 C4 C5 C6 C7 X0 X1 X2 X3 X4 X5 X6 X7
  replace hA := hA.next hb1
  replace hB := hB.next hb1
  replace hC := hC.next hb1
  replace hX := hX.next hb1
  replace hY := hY.next hb1
  replace hZz := hZz.next hb1
  replace hF := below_then hF hb1
  have HX := Lib.hid (oct_at w1 [.int .i64 pr, .int .i64 pn, .int .i64 pk, .int .u64 (pu : Int), .string pz, .int .i64 pm, .int .u64 (pv : Int), .string pq])
  go_upto_region 11 with fail
  obtain ⟨W, hW⟩ : ∃ W, W = w1.alloc (.cells #[.int .i64 pr, .int .i64 pn, .int .i64 pk, .int .u64 (pu : Int), .string pz, .int .i64 pm, .int .u64 (pv : Int), .string pq] 27) := ⟨_, rfl⟩
  rw [← hW]
  obtain ⟨hP, hb2⟩ := HX.out W hW
  clear HX hW
  replace hA := hA.next hb2
  replace hB := hB.next hb2
  replace hC := hC.next hb2
  replace hX := hX.next hb2
  replace hY := hY.next hb2
  replace hZz := hZz.next hb2
  replace hF := below_then hF hb2
  obtain ⟨P, hPe⟩ : ∃ B, B = w1.heap.size := ⟨_, rfl⟩
  rw [← hPe] at hP ⊢
  clear hPe hb1 hb2
  obtain ⟨B0, B1, B2, B3, B4, B5, B6, B7⟩ := hB.cells
  obtain ⟨C0, C1, C2, C3, C4, C5, C6, C7⟩ := hC.cells
  go_wp2_with fail
  refine (HQ.out _).mono ?_
  rintro e w1 ⟨rfl, hb1⟩
  clear B0 B1 B2 B3 B4 B5 B6 B7 C0 C1 C2 C3 C4 C5 C6 C7
  replace hA := hA.next hb1
  replace hB := hB.next hb1
  replace hC := hC.next hb1
  replace hX := hX.next hb1
  replace hY := hY.next hb1
  replace hZz := hZz.next hb1
  replace hP := hP.next hb1
  replace hF := below_then hF hb1
  have HX := Lib.hid (oct_at w1 [.int .i64 qr, .int .i64 qn, .int .i64 qk, .int .u64 (qu : Int), .string qz, .int .i64 qm, .int .u64 (qv : Int), .string qq])
  go_upto_region 12 with fail
  obtain ⟨W, hW⟩ : ∃ W, W = w1.alloc (.cells #[.int .i64 qr, .int .i64 qn, .int .i64 qk, .int .u64 (qu : Int), .string qz, .int .i64 qm, .int .u64 (qv : Int), .string qq] 27) := ⟨_, rfl⟩
  rw [← hW]
  obtain ⟨hQ, hb2⟩ := HX.out W hW
  clear HX hW
  replace hA := hA.next hb2
  replace hB := hB.next hb2
  replace hC := hC.next hb2
  replace hX := hX.next hb2
  replace hY := hY.next hb2
  replace hZz := hZz.next hb2
  replace hP := hP.next hb2
  replace hF := below_then hF hb2
  obtain ⟨Q, hQe⟩ : ∃ B, B = w1.heap.size := ⟨_, rfl⟩
  rw [← hQe] at hQ ⊢
  clear hQe hb1 hb2
  go_upto_region 14 with fail
  obtain ⟨A0, A1, A2, A3, A4, A5, A6, A7⟩ := hA.cells
  obtain ⟨Q0, Q1, Q2, Q3, Q4, Q5, Q6, Q7⟩ := hQ.cells
  go_wp2_with fail
  refine (HR.out _).mono ?_
  rintro e w1 ⟨rfl, hb1⟩
  clear A0 A1 A2 A3 A4 A5 A6 A7 Q0 Q1 Q2 Q3 Q4 Q5 Q6 Q7
  replace hA := hA.next hb1
  replace hB := hB.next hb1
  replace hC := hC.next hb1
  replace hX := hX.next hb1
  replace hY := hY.next hb1
  replace hZz := hZz.next hb1
  replace hP := hP.next hb1
  replace hQ := hQ.next hb1
  replace hF := below_then hF hb1
  have HX := Lib.hid (oct_at w1 [.int .i64 pr, .int .i64 pn, .int .i64 pk, .int .u64 (pu : Int), .string pz, .int .i64 pm, .int .u64 (pv : Int), .string pq])
  go_upto_region 15 with fail
  obtain ⟨W, hW⟩ : ∃ W, W = w1.alloc (.cells #[.int .i64 pr, .int .i64 pn, .int .i64 pk, .int .u64 (pu : Int), .string pz, .int .i64 pm, .int .u64 (pv : Int), .string pq] 27) := ⟨_, rfl⟩
  rw [← hW]
  obtain ⟨hR, hb2⟩ := HX.out W hW
  clear HX hW
  replace hA := hA.next hb2
  replace hB := hB.next hb2
  replace hC := hC.next hb2
  replace hX := hX.next hb2
  replace hY := hY.next hb2
  replace hZz := hZz.next hb2
  replace hP := hP.next hb2
  replace hQ := hQ.next hb2
  replace hF := below_then hF hb2
  obtain ⟨R, hRe⟩ : ∃ B, B = w1.heap.size := ⟨_, rfl⟩
  rw [← hRe] at hR ⊢
  clear hRe hb1 hb2
  obtain ⟨P0, P1, P2, P3, P4, P5, P6, P7⟩ := hP.cells
  obtain ⟨R0, R1, R2, R3, R4, R5, R6, R7⟩ := hR.cells
  go_wp2_with fail
  go_ret
  exact ⟨rfl, hF⟩

theorem statsMonoid_walk (w : World) (k : Int) (hk : -9223372036854775808 ≤ k ∧ k ≤ 9223372036854775807) (a : S.St) (ha : sOk a) (b : S.St) (hb : sOk b) (c : S.St) (hc : sOk c) :
    Calls Try.prog 6 #[.int .i64 k, sag a, sag b, sag c] w (BoolPost true w) := by
  by_cases h : (S.mg k a b).2 ≠ 0
  · exact monoid_bad w k a b c ha hb hc h
  have h := Decidable.not_not.1 h
  by_cases h2 : (S.mg k (S.mg k a b).1 c).2 ≠ 0
  · exact monoid_p w k a b c ha hb hc h h2
  have h2 := Decidable.not_not.1 h2
  by_cases h3 : (S.mg k b c).2 ≠ 0
  · exact monoid_q w k a b c ha hb hc h h2 h3
  exact monoid_r w k a b c ha hb hc h h2 (Decidable.not_not.1 h3)
end Go.Proofs.Ytgkhkfmlldnogaa
