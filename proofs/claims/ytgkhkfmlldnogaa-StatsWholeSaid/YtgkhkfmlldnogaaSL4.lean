/- The law StatsWhole. -/
import Derived.Test.YtgkhkfmlldnogaaSL3
namespace Go.Proofs.Ytgkhkfmlldnogaa
open Go.RowKit
set_option linter.unusedVariables false

theorem Cls.cutK {w : World} {B' b off c k : Nat} {t : Option Nat} {l : List C.Cl} (h : Cls w B' (some ⟨b, off, t⟩) l) (hl : l.length ≤ c) : Cls w B' (if c = k then some ⟨b, off, t⟩ else some (Addr.add ⟨b, off, t⟩ (k * 3))) (l.drop k) := by
  by_cases hn : l = []
  · subst hn; rw [List.drop_nil]; exact Cls.nil _ _ _
  obtain ⟨b', off', e, _⟩ := h hn
  injection e with e
  injection e with e1 e2 e3
  subst e3
  by_cases hk : c = k
  · rw [if_pos hk, List.drop_eq_nil_of_le (by omega)]; exact Cls.nil _ _ _
  · rw [if_neg hk, show Addr.add ⟨b, off, none⟩ (k * 3) = ⟨b, off + k * 3, none⟩ by simp [Addr.add]]; exact h.drop k

set_option maxHeartbeats 4000000 in
set_option maxRecDepth 100000 in
theorem statsWhole_bad (w : World) (k : Int) (hk : -9223372036854775808 ≤ k ∧ k ≤ 9223372036854775807) (a : Option Addr) (c : Nat) (l : List C.Cl) (hm : l.length ≤ maxLen) (hcap : l.length ≤ c ∧ c ≤ maxLen ∧ (a = none → c = 0)) (hx : ∀ x ∈ l, cOk x) (hu : Cls w w.heap.size a l) (p : Int) (hp : -9223372036854775808 ≤ p ∧ p ≤ 9223372036854775807) (h : C.chk k l ≠ 0) :
    Calls Try.prog 5 #[.int .i64 k, .slice a l.length c, .int .i64 p] w (BoolPost true w) := by
  have HX0 := fun W (hq : Cls W W.heap.size a l) => sof_any k a c l W hm hx hq
  have hr : ofR k l = (S.zero, C.chk k l) := if_pos h
  rw [hr] at HX0
  generalize C.chk k l = xe at *
  have g1 : ((xe : Int) != 0) = true := by rw [bne_iff_ne]; omega
  have g2 : ((xe : Int) == 0) = false := by rw [beq_eq_false_iff_ne]; omega
  have HE := fun w => stats_eql_stats w S.zero S.zero
  clear hr h hx hcap
  have HX := Lib.hid (fun W (hq : Cls W W.heap.size a l) => show Calls Try.prog 8 #[.int .i64 k, .slice a l.length c] W (fun e w' => e = .returned (.tuple #[.agg #[.int .i64 0, .int .i64 0, .int .i64 0, .int .u64 0, .string ⟨#[]⟩, .int .i64 0, .int .u64 0, .string ⟨#[]⟩], .int .i64 xe]) ∧ Below W.heap.size W w') from HX0 W hq)
  clear HX0
  have hE : ∀ w, (binOp .eql 27 (.agg #[.int .i64 0, .int .i64 0, .int .i64 0, .int .u64 0, .string ⟨#[]⟩, .int .i64 0, .int .u64 0, .string ⟨#[]⟩]) (.agg #[.int .i64 0, .int .i64 0, .int .i64 0, .int .u64 0, .string ⟨#[]⟩, .int .i64 0, .int .u64 0, .string ⟨#[]⟩])).run Try.prog w = .ok (.bool true) w := fun w => by
    have h := HE w
    rw [decide_eq_true rfl] at h
    exact h
  clear HE
  have hgd_eql := guards_stats .eql
  generalize hlen : l.length = n at *
  have hF := Below.refl w.heap.size w
  go_enter Try.func5, Try.ntmps5
  go_wp2_with fail
  refine (HX.out _ hu).mono ?_
  rintro e w1 ⟨rfl, hb1⟩
  replace hu := hu.next hb1
  replace hF := below_then hF hb1
  have HX := Lib.hid (oct_at w1 [.int .i64 0, .int .i64 0, .int .i64 0, .int .u64 0, .string ⟨#[]⟩, .int .i64 0, .int .u64 0, .string ⟨#[]⟩])
  go_upto_region 2 with fail
  obtain ⟨W, hW⟩ : ∃ W, W = w1.alloc (.cells #[.int .i64 0, .int .i64 0, .int .i64 0, .int .u64 0, .string ⟨#[]⟩, .int .i64 0, .int .u64 0, .string ⟨#[]⟩] 27) := ⟨_, rfl⟩
  rw [← hW]
  obtain ⟨hX, hb2⟩ := HX.out W hW
  clear HX hW
  replace hu := hu.next hb2
  replace hF := below_then hF hb2
  obtain ⟨X, hXe⟩ : ∃ B, B = w1.heap.size := ⟨_, rfl⟩
  rw [← hXe] at hX ⊢
  clear hXe hb1 hb2
  go_wp2_with fail
  refine (sbegun_any _).mono ?_
  rintro e w1 ⟨rfl, hb1⟩
  replace hX := hX.next hb1
  replace hu := hu.next hb1
  replace hF := below_then hF hb1
  clear hb1
  obtain ⟨X0, X1, X2, X3, X4, X5, X6, X7⟩ := hX.cells
  go_wp2_with fail
  go_ret
  exact ⟨rfl, hF⟩

set_option maxHeartbeats 4000000 in
set_option maxRecDepth 100000 in
theorem statsWhole_out (w : World) (k : Int) (hk : -9223372036854775808 ≤ k ∧ k ≤ 9223372036854775807) (a : Option Addr) (c : Nat) (l : List C.Cl) (hm : l.length ≤ maxLen) (hcap : l.length ≤ c ∧ c ≤ maxLen ∧ (a = none → c = 0)) (hx : ∀ x ∈ l, cOk x) (hu : Cls w w.heap.size a l) (p : Int) (hp : -9223372036854775808 ≤ p ∧ p ≤ 9223372036854775807) (h : C.chk k l = 0) (hout : p < 0 ∨ (l.length : Int) < p) :
    Calls Try.prog 5 #[.int .i64 k, .slice a l.length c, .int .i64 p] w (BoolPost true w) := by
  have HX0 := fun W (hq : Cls W W.heap.size a l) => sof_any k a c l W hm hx hq
  have hr : ofR k l = (S.known l, 0) := if_neg (by rw [h]; simp)
  rw [hr] at HX0
  generalize S.known l = y at *
  obtain ⟨xr, xn, ⟨xk, xu, xT⟩, ⟨xm, xv, xS⟩⟩ := y
  clear hr h hx hcap
  have HX := Lib.hid (fun W (hq : Cls W W.heap.size a l) => show Calls Try.prog 8 #[.int .i64 k, .slice a l.length c] W (fun e w' => e = .returned (.tuple #[.agg #[.int .i64 xr, .int .i64 xn, .int .i64 xk, .int .u64 (xu : Int), .string (str xT), .int .i64 xm, .int .u64 (xv : Int), .string (str xS)], .int .i64 0]) ∧ Below W.heap.size W w') from HX0 W hq)
  clear HX0
  generalize str xT = xz at *
  generalize str xS = xq at *
  generalize hlen : l.length = n at *
  have hg : decide (p < 0) = true ∨ (decide (p < 0) = false ∧ decide ((n : Int) < p) = true) := by simp; omega
  clear hout hp
  have hF := Below.refl w.heap.size w
  rcases hg with g1 | ⟨g1, g2⟩
  all_goals
    go_enter Try.func5, Try.ntmps5
    go_wp2_with fail
    refine (HX.out _ hu).mono ?_
    rintro e w1 ⟨rfl, hb1⟩
    replace hu := hu.next hb1
    replace hF := below_then hF hb1
    have HX := Lib.hid (oct_at w1 [.int .i64 xr, .int .i64 xn, .int .i64 xk, .int .u64 (xu : Int), .string xz, .int .i64 xm, .int .u64 (xv : Int), .string xq])
    go_upto_region 2 with fail
    obtain ⟨W, hW⟩ : ∃ W, W = w1.alloc (.cells #[.int .i64 xr, .int .i64 xn, .int .i64 xk, .int .u64 (xu : Int), .string xz, .int .i64 xm, .int .u64 (xv : Int), .string xq] 27) := ⟨_, rfl⟩
    rw [← hW]
    obtain ⟨hX, hb2⟩ := HX.out W hW
    clear HX hW
    replace hu := hu.next hb2
    replace hF := below_then hF hb2
    obtain ⟨X, hXe⟩ : ∃ B, B = w1.heap.size := ⟨_, rfl⟩
    rw [← hXe] at hX ⊢
    clear hXe hb1 hb2
    go_wp2_with fail
    refine (sbegun_any _).mono ?_
    rintro e w1 ⟨rfl, hb1⟩
    replace hX := hX.next hb1
    replace hu := hu.next hb1
    replace hF := below_then hF hb1
    clear hb1
    obtain ⟨X0, X1, X2, X3, X4, X5, X6, X7⟩ := hX.cells
    go_wp2_with fail
    go_ret
    exact ⟨rfl, hF⟩

set_option maxHeartbeats 4000000 in
set_option maxRecDepth 100000 in
theorem statsWhole_in (w : World) (k : Int) (hk : -9223372036854775808 ≤ k ∧ k ≤ 9223372036854775807) (a : Option Addr) (c : Nat) (l : List C.Cl) (hm : l.length ≤ maxLen) (hcap : l.length ≤ c ∧ c ≤ maxLen ∧ (a = none → c = 0)) (hx : ∀ x ∈ l, cOk x) (hu : Cls w w.heap.size a l) (j : Nat) (hj : j ≤ l.length) (h : C.chk k l = 0) :
    Calls Try.prog 5 #[.int .i64 k, .slice a l.length c, .int .i64 (j : Int)] w (BoolPost true w) := by
  have HX0 := fun W (hq : Cls W W.heap.size a l) => sof_any k a c l W hm hx hq
  have hr : ofR k l = (S.known l, 0) := if_neg (by rw [h]; simp)
  rw [hr] at HX0
  obtain ⟨ht, hd⟩ := S.chk_part h j
  have hl64 := (C.chk_ok h).2.1
  have hxt : ∀ x ∈ l.take j, cOk x := fun x e => hx x (List.mem_of_mem_take e)
  have hxd : ∀ x ∈ l.drop j, cOk x := fun x e => hx x (List.mem_of_mem_drop e)
  have htl : (l.take j).length = j := by rw [List.length_take]; omega
  have hdl : (l.drop j).length = l.length - j := List.length_drop
  have HP0 := fun W (hq : Cls W W.heap.size a (l.take j)) => sof_any k a c (l.take j) W (by rw [htl]; unfold maxLen at *; omega) hxt hq
  have HQ0 := fun A c' W (hq : Cls W W.heap.size A (l.drop j)) => sof_any k A c' (l.drop j) W (by rw [hdl]; unfold maxLen at *; omega) hxd hq
  have hr2 : ofR k (l.take j) = (S.known (l.take j), 0) := if_neg (by rw [ht]; simp)
  have hr3 : ofR k (l.drop j) = (S.known (l.drop j), 0) := if_neg (by rw [hd]; simp)
  rw [hr2] at HP0
  rw [hr3] at HQ0
  have HM0 := fun W => smerge_any k (S.known (l.take j)) (S.known (l.drop j)) W (sok_known hxt (by omega)) (sok_known hxd (by omega))
  rw [S.whole h j] at HM0
  have HE := fun w => stats_eql_stats w (S.known l) (S.known l)
  rw [htl] at HP0
  rw [hdl] at HQ0
  have HT := Lib.hid (fun W (hq : Cls W W.heap.size a l) => Cls.take hq j)
  have HD := Lib.hid (show ∀ (W : World) b off t, a = some ⟨b, off, t⟩ → Cls W W.heap.size a l → Cls W W.heap.size (if c = j then some ⟨b, off, t⟩ else some (Addr.add ⟨b, off, t⟩ (j * 3))) (l.drop j) from fun W b off t e hq => by subst e; exact Cls.cutK hq hcap.1)
  have hnil : a = none → l.length = 0 ∧ j = 0 ∧ c = 0 ∧ l.drop j = [] := fun e => by
    have h1 := hcap.2.2 e
    have h2 : l.length = 0 := by omega
    exact ⟨h2, by omega, h1, by rw [List.length_eq_zero_iff.1 h2, List.drop_nil]⟩
  generalize S.known l = x at *
  generalize S.known (l.take j) = y at *
  generalize S.known (l.drop j) = z at *
  obtain ⟨xr, xn, ⟨xk, xu, xT⟩, ⟨xm, xv, xS⟩⟩ := x
  obtain ⟨yr, yn, ⟨yk, yu, yT⟩, ⟨ym, yv, yS⟩⟩ := y
  obtain ⟨zr, zn, ⟨zk, zu, zT⟩, ⟨zm, zv, zS⟩⟩ := z
  clear hr hr2 hr3 h ht hd hx hxt hxd htl hdl
  have HX := Lib.hid (fun W (hq : Cls W W.heap.size a l) => show Calls Try.prog 8 #[.int .i64 k, .slice a l.length c] W (fun e w' => e = .returned (.tuple #[.agg #[.int .i64 xr, .int .i64 xn, .int .i64 xk, .int .u64 (xu : Int), .string (str xT), .int .i64 xm, .int .u64 (xv : Int), .string (str xS)], .int .i64 0]) ∧ Below W.heap.size W w') from HX0 W hq)
  have HP := Lib.hid (fun W (hq : Cls W W.heap.size a (l.take j)) => show Calls Try.prog 8 #[.int .i64 k, .slice a j c] W (fun e w' => e = .returned (.tuple #[.agg #[.int .i64 yr, .int .i64 yn, .int .i64 yk, .int .u64 (yu : Int), .string (str yT), .int .i64 ym, .int .u64 (yv : Int), .string (str yS)], .int .i64 0]) ∧ Below W.heap.size W w') from HP0 W hq)
  have HQ := Lib.hid (fun A c' W (hq : Cls W W.heap.size A (l.drop j)) => show Calls Try.prog 8 #[.int .i64 k, .slice A (l.length - j) c'] W (fun e w' => e = .returned (.tuple #[.agg #[.int .i64 zr, .int .i64 zn, .int .i64 zk, .int .u64 (zu : Int), .string (str zT), .int .i64 zm, .int .u64 (zv : Int), .string (str zS)], .int .i64 0]) ∧ Below W.heap.size W w') from HQ0 A c' W hq)
  clear HX0 HP0 HQ0
  have HM := Lib.hid (fun W => show Calls Try.prog 14 #[.int .i64 k, .agg #[.int .i64 yr, .int .i64 yn, .int .i64 yk, .int .u64 (yu : Int), .string (str yT), .int .i64 ym, .int .u64 (yv : Int), .string (str yS)], .agg #[.int .i64 zr, .int .i64 zn, .int .i64 zk, .int .u64 (zu : Int), .string (str zT), .int .i64 zm, .int .u64 (zv : Int), .string (str zS)]] W (fun e w' => e = .returned (.tuple #[.agg #[.int .i64 xr, .int .i64 xn, .int .i64 xk, .int .u64 (xu : Int), .string (str xT), .int .i64 xm, .int .u64 (xv : Int), .string (str xS)], .int .i64 0]) ∧ Below W.heap.size W w') from HM0 W)
  have hE : ∀ w, (binOp .eql 27 (.agg #[.int .i64 xr, .int .i64 xn, .int .i64 xk, .int .u64 (xu : Int), .string (str xT), .int .i64 xm, .int .u64 (xv : Int), .string (str xS)]) (.agg #[.int .i64 xr, .int .i64 xn, .int .i64 xk, .int .u64 (xu : Int), .string (str xT), .int .i64 xm, .int .u64 (xv : Int), .string (str xS)])).run Try.prog w = .ok (.bool true) w := fun w => by
    have h := HE w
    rw [decide_eq_true rfl] at h
    exact h
  clear HE HM0
  have hgd_eql := guards_stats .eql
  generalize str xT = xz at *
  generalize str xS = xq at *
  generalize str yT = yz at *
  generalize str yS = yq at *
  generalize str zT = zz at *
  generalize str zS = zq at *
  generalize l.take j = lt at *
  generalize l.drop j = ld at *
  generalize hlen : l.length = n at *
  have g1 : decide ((j : Int) < 0) = false := by simp
  have g2 : decide ((n : Int) < (j : Int)) = false := by simp; omega
  have hjc : j ≤ c := by omega
  have hjc2 : (j : Int) ≤ (c : Int) := by omega
  have hjn : (j : Int) ≤ (n : Int) := by omega
  have hF := Below.refl w.heap.size w
  go_enter Try.func5, Try.ntmps5
  go_wp2_with fail
  refine (HX.out _ hu).mono ?_
  rintro e w1 ⟨rfl, hb1⟩
  replace hu := hu.next hb1
  replace hF := below_then hF hb1
  have HX := Lib.hid (oct_at w1 [.int .i64 xr, .int .i64 xn, .int .i64 xk, .int .u64 (xu : Int), .string xz, .int .i64 xm, .int .u64 (xv : Int), .string xq])
  go_upto_region 2 with fail
  obtain ⟨W, hW⟩ : ∃ W, W = w1.alloc (.cells #[.int .i64 xr, .int .i64 xn, .int .i64 xk, .int .u64 (xu : Int), .string xz, .int .i64 xm, .int .u64 (xv : Int), .string xq] 27) := ⟨_, rfl⟩
  rw [← hW]
  obtain ⟨hX, hb2⟩ := HX.out W hW
  clear HX hW
  replace hu := hu.next hb2
  replace hF := below_then hF hb2
  obtain ⟨X, hXe⟩ : ∃ B, B = w1.heap.size := ⟨_, rfl⟩
  rw [← hXe] at hX ⊢
  clear hXe hb1 hb2
  go_wp2_with fail
  refine (sbegun_any _).mono ?_
  rintro e w1 ⟨rfl, hb1⟩
  replace hX := hX.next hb1
  replace hu := hu.next hb1
  replace hF := below_then hF hb1
  clear hb1
  go_wp2_with fail
  refine (HP.out _ (HT.out _ hu)).mono ?_
  rintro e w1 ⟨rfl, hb1⟩
  replace hX := hX.next hb1
  replace hu := hu.next hb1
  replace hF := below_then hF hb1
  have HX := Lib.hid (oct_at w1 [.int .i64 yr, .int .i64 yn, .int .i64 yk, .int .u64 (yu : Int), .string yz, .int .i64 ym, .int .u64 (yv : Int), .string yq])
  go_upto_region 7 with fail
  obtain ⟨W, hW⟩ : ∃ W, W = w1.alloc (.cells #[.int .i64 yr, .int .i64 yn, .int .i64 yk, .int .u64 (yu : Int), .string yz, .int .i64 ym, .int .u64 (yv : Int), .string yq] 27) := ⟨_, rfl⟩
  rw [← hW]
  obtain ⟨hP, hb2⟩ := HX.out W hW
  clear HX hW
  replace hX := hX.next hb2
  replace hu := hu.next hb2
  replace hF := below_then hF hb2
  obtain ⟨P, hPe⟩ : ∃ B, B = w1.heap.size := ⟨_, rfl⟩
  rw [← hPe] at hP ⊢
  clear hPe hb1 hb2
  cases a with
  | none =>
    obtain ⟨e1, e2, e3, e4⟩ := hnil rfl
    subst e2 e3 e4
    have hn0 : n = 0 := by omega
    subst hn0
    go_wp2_with fail
    refine (HQ.out none 0 _ (Cls.nil _ _ _)).mono ?_
    rintro e w1 ⟨rfl, hb1⟩
    replace hX := hX.next hb1
    replace hP := hP.next hb1
    replace hu := hu.next hb1
    replace hF := below_then hF hb1
    have HX := Lib.hid (oct_at w1 [.int .i64 zr, .int .i64 zn, .int .i64 zk, .int .u64 (zu : Int), .string zz, .int .i64 zm, .int .u64 (zv : Int), .string zq])
    go_upto_region 8 with fail
    obtain ⟨W, hW⟩ : ∃ W, W = w1.alloc (.cells #[.int .i64 zr, .int .i64 zn, .int .i64 zk, .int .u64 (zu : Int), .string zz, .int .i64 zm, .int .u64 (zv : Int), .string zq] 27) := ⟨_, rfl⟩
    rw [← hW]
    obtain ⟨hQ, hb2⟩ := HX.out W hW
    clear HX hW
    replace hX := hX.next hb2
    replace hP := hP.next hb2
    replace hu := hu.next hb2
    replace hF := below_then hF hb2
    obtain ⟨Q, hQe⟩ : ∃ B, B = w1.heap.size := ⟨_, rfl⟩
    rw [← hQe] at hQ ⊢
    clear hQe hb1 hb2
    obtain ⟨P0, P1, P2, P3, P4, P5, P6, P7⟩ := hP.cells
    obtain ⟨Q0, Q1, Q2, Q3, Q4, Q5, Q6, Q7⟩ := hQ.cells
    go_wp2_with fail
    refine (HM.out _).mono ?_
    rintro e w1 ⟨rfl, hb1⟩
    clear P0 P1 P2 P3 P4 P5 P6 P7 Q0 Q1 Q2 Q3 Q4 Q5 Q6 Q7
    replace hX := hX.next hb1
    replace hP := hP.next hb1
    replace hQ := hQ.next hb1
    replace hu := hu.next hb1
    replace hF := below_then hF hb1
    have HX := Lib.hid (oct_at w1 [.int .i64 xr, .int .i64 xn, .int .i64 xk, .int .u64 (xu : Int), .string xz, .int .i64 xm, .int .u64 (xv : Int), .string xq])
    go_upto_region 9 with fail
    obtain ⟨W, hW⟩ : ∃ W, W = w1.alloc (.cells #[.int .i64 xr, .int .i64 xn, .int .i64 xk, .int .u64 (xu : Int), .string xz, .int .i64 xm, .int .u64 (xv : Int), .string xq] 27) := ⟨_, rfl⟩
    rw [← hW]
    obtain ⟨hR, hb2⟩ := HX.out W hW
    clear HX hW
    replace hX := hX.next hb2
    replace hP := hP.next hb2
    replace hQ := hQ.next hb2
    replace hu := hu.next hb2
    replace hF := below_then hF hb2
    obtain ⟨R, hRe⟩ : ∃ B, B = w1.heap.size := ⟨_, rfl⟩
    rw [← hRe] at hR ⊢
    clear hRe hb1 hb2
    obtain ⟨X0, X1, X2, X3, X4, X5, X6, X7⟩ := hX.cells
    obtain ⟨R0, R1, R2, R3, R4, R5, R6, R7⟩ := hR.cells
    go_wp2_with fail
    go_ret
    exact ⟨rfl, hF⟩
  | some q =>
    obtain ⟨b, off, t⟩ := q
    clear hnil
    by_cases hcj : c = j
    · have HD2 := fun W (hq : Cls W W.heap.size _ l) => HD.out W b off t rfl hq
      simp only [if_pos hcj] at HD2
      go_wp2_with fail
      refine (HQ.out _ _ _ (HD2 _ hu)).mono ?_
      rintro e w1 ⟨rfl, hb1⟩
      replace hX := hX.next hb1
      replace hP := hP.next hb1
      replace hu := hu.next hb1
      replace hF := below_then hF hb1
      have HX := Lib.hid (oct_at w1 [.int .i64 zr, .int .i64 zn, .int .i64 zk, .int .u64 (zu : Int), .string zz, .int .i64 zm, .int .u64 (zv : Int), .string zq])
      go_upto_region 8 with fail
      obtain ⟨W, hW⟩ : ∃ W, W = w1.alloc (.cells #[.int .i64 zr, .int .i64 zn, .int .i64 zk, .int .u64 (zu : Int), .string zz, .int .i64 zm, .int .u64 (zv : Int), .string zq] 27) := ⟨_, rfl⟩
      rw [← hW]
      obtain ⟨hQ, hb2⟩ := HX.out W hW
      clear HX hW
      replace hX := hX.next hb2
      replace hP := hP.next hb2
      replace hu := hu.next hb2
      replace hF := below_then hF hb2
      obtain ⟨Q, hQe⟩ : ∃ B, B = w1.heap.size := ⟨_, rfl⟩
      rw [← hQe] at hQ ⊢
      clear hQe hb1 hb2
      obtain ⟨P0, P1, P2, P3, P4, P5, P6, P7⟩ := hP.cells
      obtain ⟨Q0, Q1, Q2, Q3, Q4, Q5, Q6, Q7⟩ := hQ.cells
      go_wp2_with fail
      refine (HM.out _).mono ?_
      rintro e w1 ⟨rfl, hb1⟩
      clear P0 P1 P2 P3 P4 P5 P6 P7 Q0 Q1 Q2 Q3 Q4 Q5 Q6 Q7
      replace hX := hX.next hb1
      replace hP := hP.next hb1
      replace hQ := hQ.next hb1
      replace hu := hu.next hb1
      replace hF := below_then hF hb1
      have HX := Lib.hid (oct_at w1 [.int .i64 xr, .int .i64 xn, .int .i64 xk, .int .u64 (xu : Int), .string xz, .int .i64 xm, .int .u64 (xv : Int), .string xq])
      go_upto_region 9 with fail
      obtain ⟨W, hW⟩ : ∃ W, W = w1.alloc (.cells #[.int .i64 xr, .int .i64 xn, .int .i64 xk, .int .u64 (xu : Int), .string xz, .int .i64 xm, .int .u64 (xv : Int), .string xq] 27) := ⟨_, rfl⟩
      rw [← hW]
      obtain ⟨hR, hb2⟩ := HX.out W hW
      clear HX hW
      replace hX := hX.next hb2
      replace hP := hP.next hb2
      replace hQ := hQ.next hb2
      replace hu := hu.next hb2
      replace hF := below_then hF hb2
      obtain ⟨R, hRe⟩ : ∃ B, B = w1.heap.size := ⟨_, rfl⟩
      rw [← hRe] at hR ⊢
      clear hRe hb1 hb2
      obtain ⟨X0, X1, X2, X3, X4, X5, X6, X7⟩ := hX.cells
      obtain ⟨R0, R1, R2, R3, R4, R5, R6, R7⟩ := hR.cells
      go_wp2_with fail
      go_ret
      exact ⟨rfl, hF⟩
    · have HD2 := fun W (hq : Cls W W.heap.size _ l) => HD.out W b off t rfl hq
      simp only [if_neg hcj] at HD2
      go_wp2_with fail
      refine (HQ.out _ _ _ (HD2 _ hu)).mono ?_
      rintro e w1 ⟨rfl, hb1⟩
      replace hX := hX.next hb1
      replace hP := hP.next hb1
      replace hu := hu.next hb1
      replace hF := below_then hF hb1
      have HX := Lib.hid (oct_at w1 [.int .i64 zr, .int .i64 zn, .int .i64 zk, .int .u64 (zu : Int), .string zz, .int .i64 zm, .int .u64 (zv : Int), .string zq])
      go_upto_region 8 with fail
      obtain ⟨W, hW⟩ : ∃ W, W = w1.alloc (.cells #[.int .i64 zr, .int .i64 zn, .int .i64 zk, .int .u64 (zu : Int), .string zz, .int .i64 zm, .int .u64 (zv : Int), .string zq] 27) := ⟨_, rfl⟩
      rw [← hW]
      obtain ⟨hQ, hb2⟩ := HX.out W hW
      clear HX hW
      replace hX := hX.next hb2
      replace hP := hP.next hb2
      replace hu := hu.next hb2
      replace hF := below_then hF hb2
      obtain ⟨Q, hQe⟩ : ∃ B, B = w1.heap.size := ⟨_, rfl⟩
      rw [← hQe] at hQ ⊢
      clear hQe hb1 hb2
      obtain ⟨P0, P1, P2, P3, P4, P5, P6, P7⟩ := hP.cells
      obtain ⟨Q0, Q1, Q2, Q3, Q4, Q5, Q6, Q7⟩ := hQ.cells
      go_wp2_with fail
      refine (HM.out _).mono ?_
      rintro e w1 ⟨rfl, hb1⟩
      clear P0 P1 P2 P3 P4 P5 P6 P7 Q0 Q1 Q2 Q3 Q4 Q5 Q6 Q7
      replace hX := hX.next hb1
      replace hP := hP.next hb1
      replace hQ := hQ.next hb1
      replace hu := hu.next hb1
      replace hF := below_then hF hb1
      have HX := Lib.hid (oct_at w1 [.int .i64 xr, .int .i64 xn, .int .i64 xk, .int .u64 (xu : Int), .string xz, .int .i64 xm, .int .u64 (xv : Int), .string xq])
      go_upto_region 9 with fail
      obtain ⟨W, hW⟩ : ∃ W, W = w1.alloc (.cells #[.int .i64 xr, .int .i64 xn, .int .i64 xk, .int .u64 (xu : Int), .string xz, .int .i64 xm, .int .u64 (xv : Int), .string xq] 27) := ⟨_, rfl⟩
      rw [← hW]
      obtain ⟨hR, hb2⟩ := HX.out W hW
      clear HX hW
      replace hX := hX.next hb2
      replace hP := hP.next hb2
      replace hQ := hQ.next hb2
      replace hu := hu.next hb2
      replace hF := below_then hF hb2
      obtain ⟨R, hRe⟩ : ∃ B, B = w1.heap.size := ⟨_, rfl⟩
      rw [← hRe] at hR ⊢
      clear hRe hb1 hb2
      obtain ⟨X0, X1, X2, X3, X4, X5, X6, X7⟩ := hX.cells
      obtain ⟨R0, R1, R2, R3, R4, R5, R6, R7⟩ := hR.cells
      go_wp2_with fail
      go_ret
      exact ⟨rfl, hF⟩

theorem statsWhole_walk (w : World) (k : Int) (hk : -9223372036854775808 ≤ k ∧ k ≤ 9223372036854775807) (a : Option Addr) (c : Nat) (l : List C.Cl) (hm : l.length ≤ maxLen) (hcap : l.length ≤ c ∧ c ≤ maxLen ∧ (a = none → c = 0)) (hx : ∀ x ∈ l, cOk x) (hu : Cls w w.heap.size a l) (p : Int) (hp : -9223372036854775808 ≤ p ∧ p ≤ 9223372036854775807) :
    Calls Try.prog 5 #[.int .i64 k, .slice a l.length c, .int .i64 p] w (BoolPost true w) := by
  by_cases h : C.chk k l = 0
  · by_cases hout : p < 0 ∨ (l.length : Int) < p
    · exact statsWhole_out w k hk a c l hm hcap hx hu p hp h hout
    · obtain ⟨j, rfl⟩ : ∃ j : Nat, p = j := ⟨p.toNat, by omega⟩
      exact statsWhole_in w k hk a c l hm hcap hx hu j (by omega) h
  · exact statsWhole_bad w k hk a c l hm hcap hx hu p hp h
end Go.Proofs.Ytgkhkfmlldnogaa
