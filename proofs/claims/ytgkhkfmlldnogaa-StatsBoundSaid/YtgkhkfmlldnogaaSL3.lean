/- The law StatsTell. -/
import Derived.Test.YtgkhkfmlldnogaaSL1
import Derived.Test.YtgkhkfmlldnogaaSR1
import Derived.Test.YtgkhkfmlldnogaaSR2
import Derived.Test.YtgkhkfmlldnogaaCW2
namespace Go.Proofs.Ytgkhkfmlldnogaa
open Go.RowKit
set_option linter.unusedVariables false

theorem sok_known {l : List C.Cl} (hx : ∀ x ∈ l, cOk x) (hl : l.length ≤ 64) : sOk (S.known l) := by
  have hd : (C.dense l).length ≤ l.length := List.length_filter_le _ _
  refine ⟨⟨by show _ ≤ (l.length : Int); omega, by show (l.length : Int) ≤ _; omega⟩, ⟨by show _ ≤ (l.length : Int) - ((C.dense l).length : Int); omega, by show (l.length : Int) - ((C.dense l).length : Int) ≤ _; omega⟩, ?_, ?_⟩
  · show cOk (S.least (C.dense l))
    by_cases h : C.dense l = []
    · rw [h]; exact cOk_null
    · exact hx _ (List.mem_filter.1 (S.least_isL h).1).1
  · show cOk (S.most (C.dense l))
    by_cases h : C.dense l = []
    · rw [h]; exact cOk_null
    · exact hx _ (List.mem_filter.1 (S.most_isM h).1).1

set_option maxHeartbeats 4000000 in
set_option maxRecDepth 100000 in
theorem statsTell_bad (w : World) (k : Int) (hk : -9223372036854775808 ≤ k ∧ k ≤ 9223372036854775807) (a : Option Addr) (c : Nat) (l : List C.Cl) (hm : l.length ≤ maxLen) (hcap : l.length ≤ c ∧ c ≤ maxLen ∧ (a = none → c = 0)) (hx : ∀ x ∈ l, cOk x) (hu : Cls w w.heap.size a l) (s : S.St) (hs : sOk s) (h : C.chk k l ≠ 0) :
    Calls Try.prog 3 #[.int .i64 k, .slice a l.length c, sag s] w (BoolPost true w) := by
  have HX0 := fun W (hq : Cls W W.heap.size a l) => sof_any k a c l W hm hx hq
  have HC := Lib.hid (fun W (hq : Cls W W.heap.size a l) => show Calls Try.prog 9 #[.int .i64 k, .slice a l.length c] W (fun e w' => e = .returned (.int .i64 (C.chk k l : Nat)) ∧ Below W.heap.size W w') from crcheck_any k a c l W hk hm hx hq)
  have HS0 := fun W => scheck_any k s W hs
  have HK0 := fun W => kcheck_any k s W hk hs
  generalize S.ck k s = ce at *
  have hr : ofR k l = (S.zero, C.chk k l) := if_pos h
  rw [hr] at HX0
  generalize C.chk k l = xe at *
  have g1 : ((xe : Int) == 0) = false := by rw [beq_eq_false_iff_ne]; omega
  have HE := fun w => stats_eql_stats w S.zero S.zero
  clear hr h hx hcap hs
  obtain ⟨sr, sn, ⟨sk, su, sT⟩, ⟨sm, sv, sS⟩⟩ := s
  have HX := Lib.hid (fun W (hq : Cls W W.heap.size a l) => show Calls Try.prog 8 #[.int .i64 k, .slice a l.length c] W (fun e w' => e = .returned (.tuple #[.agg #[.int .i64 0, .int .i64 0, .int .i64 0, .int .u64 0, .string ⟨#[]⟩, .int .i64 0, .int .u64 0, .string ⟨#[]⟩], .int .i64 xe]) ∧ Below W.heap.size W w') from HX0 W hq)
  have HS := Lib.hid (fun W => show Calls Try.prog 12 #[.int .i64 k, .agg #[.int .i64 sr, .int .i64 sn, .int .i64 sk, .int .u64 (su : Int), .string (str sT), .int .i64 sm, .int .u64 (sv : Int), .string (str sS)]] W (fun e w' => e = .returned (.int .i64 ce) ∧ Below W.heap.size W w') from HS0 W)
  have HK := Lib.hid (fun W => show Calls Try.prog 13 #[.int .i64 k, .agg #[.int .i64 sr, .int .i64 sn, .int .i64 sk, .int .u64 (su : Int), .string (str sT), .int .i64 sm, .int .u64 (sv : Int), .string (str sS)]] W (fun e w' => e = .returned (.int .i64 ce) ∧ Below W.heap.size W w') from HK0 W)
  clear HX0 HS0 HK0
  have hE : ∀ w, (binOp .eql 27 (.agg #[.int .i64 0, .int .i64 0, .int .i64 0, .int .u64 0, .string ⟨#[]⟩, .int .i64 0, .int .u64 0, .string ⟨#[]⟩]) (.agg #[.int .i64 0, .int .i64 0, .int .i64 0, .int .u64 0, .string ⟨#[]⟩, .int .i64 0, .int .u64 0, .string ⟨#[]⟩])).run Try.prog w = .ok (.bool true) w := fun w => by
    have h := HE w
    rw [decide_eq_true rfl] at h
    exact h
  clear HE
  have hgd_eql := guards_stats .eql
  unfold sag
  simp only
  generalize str sT = sz at *
  generalize str sS = sq at *
  generalize hlen : l.length = n at *
  go_enter Try.func3, Try.ntmps3
  have HB := Lib.hid (oct_at w [.int .i64 sr, .int .i64 sn, .int .i64 sk, .int .u64 (su : Int), .string sz, .int .i64 sm, .int .u64 (sv : Int), .string sq])
  go_upto_region 1 with fail
  obtain ⟨W, hW⟩ : ∃ W, W = w.alloc (.cells #[.int .i64 sr, .int .i64 sn, .int .i64 sk, .int .u64 (su : Int), .string sz, .int .i64 sm, .int .u64 (sv : Int), .string sq] 27) := ⟨_, rfl⟩
  rw [← hW]
  obtain ⟨hS, hF⟩ := HB.out W hW
  clear HB hW
  obtain ⟨S0, hAe⟩ : ∃ B, B = w.heap.size := ⟨_, rfl⟩
  rw [← hAe] at hS ⊢
  clear hAe
  replace hu := hu.next hF
  go_wp2_with fail
  refine (HX.out _ hu).mono ?_
  rintro e w1 ⟨rfl, hb1⟩
  replace hS := hS.next hb1
  replace hu := hu.next hb1
  replace hF := below_then hF hb1
  have HX := Lib.hid (oct_at w1 [.int .i64 0, .int .i64 0, .int .i64 0, .int .u64 0, .string ⟨#[]⟩, .int .i64 0, .int .u64 0, .string ⟨#[]⟩])
  go_upto_region 2 with fail
  obtain ⟨W, hW⟩ : ∃ W, W = w1.alloc (.cells #[.int .i64 0, .int .i64 0, .int .i64 0, .int .u64 0, .string ⟨#[]⟩, .int .i64 0, .int .u64 0, .string ⟨#[]⟩] 27) := ⟨_, rfl⟩
  rw [← hW]
  obtain ⟨hX, hb2⟩ := HX.out W hW
  clear HX hW
  replace hS := hS.next hb2
  replace hu := hu.next hb2
  replace hF := below_then hF hb2
  obtain ⟨X, hXe⟩ : ∃ B, B = w1.heap.size := ⟨_, rfl⟩
  rw [← hXe] at hX ⊢
  clear hXe hb1 hb2
  go_wp2_with fail
  refine (HC.out _ hu).mono ?_
  rintro e w1 ⟨rfl, hb1⟩
  replace hS := hS.next hb1
  replace hX := hX.next hb1
  replace hu := hu.next hb1
  replace hF := below_then hF hb1
  clear hb1
  have HX := Lib.hid (oct_at w1 [.int .i64 0, .int .i64 0, .int .i64 0, .int .u64 0, .string ⟨#[]⟩, .int .i64 0, .int .u64 0, .string ⟨#[]⟩])
  go_upto_region 6 with fail
  obtain ⟨W, hW⟩ : ∃ W, W = w1.alloc (.cells #[.int .i64 0, .int .i64 0, .int .i64 0, .int .u64 0, .string ⟨#[]⟩, .int .i64 0, .int .u64 0, .string ⟨#[]⟩] 27) := ⟨_, rfl⟩
  rw [← hW]
  obtain ⟨hV, hb2⟩ := HX.out W hW
  clear HX hW
  replace hS := hS.next hb2
  replace hX := hX.next hb2
  replace hu := hu.next hb2
  replace hF := below_then hF hb2
  obtain ⟨V, hVe⟩ : ∃ B, B = w1.heap.size := ⟨_, rfl⟩
  rw [← hVe] at hV ⊢
  clear hVe hb2
  obtain ⟨sy0, sy1, sy2, sy3, sy4, sy5, sy6, sy7⟩ := hS.cells
  obtain ⟨xy0, xy1, xy2, xy3, xy4, xy5, xy6, xy7⟩ := hX.cells
  obtain ⟨vy0, vy1, vy2, vy3, vy4, vy5, vy6, vy7⟩ := hV.cells
  have hlt : S0 < W.heap.size ∧ X < W.heap.size ∧ V < W.heap.size := ⟨hS.lt, hX.lt, hV.lt⟩
  have f0 : ∀ p : WB W, p.w.cell? ⟨S0, 0, none⟩ = some (.int .i64 sr) := fun p => p.cell hlt.1 sy0
  have f1 : ∀ p : WB W, p.w.cell? ⟨S0, 1, none⟩ = some (.int .i64 sn) := fun p => p.cell hlt.1 sy1
  have f2 : ∀ p : WB W, p.w.cell? ⟨S0, 2, none⟩ = some (.int .i64 sk) := fun p => p.cell hlt.1 sy2
  have f3 : ∀ p : WB W, p.w.cell? ⟨S0, 3, none⟩ = some (.int .u64 (su : Int)) := fun p => p.cell hlt.1 sy3
  have f4 : ∀ p : WB W, p.w.cell? ⟨S0, 4, none⟩ = some (.string sz) := fun p => p.cell hlt.1 sy4
  have f5 : ∀ p : WB W, p.w.cell? ⟨S0, 5, none⟩ = some (.int .i64 sm) := fun p => p.cell hlt.1 sy5
  have f6 : ∀ p : WB W, p.w.cell? ⟨S0, 6, none⟩ = some (.int .u64 (sv : Int)) := fun p => p.cell hlt.1 sy6
  have f7 : ∀ p : WB W, p.w.cell? ⟨S0, 7, none⟩ = some (.string sq) := fun p => p.cell hlt.1 sy7
  have f8 : ∀ p : WB W, p.w.cell? ⟨X, 0, none⟩ = some (.int .i64 0) := fun p => p.cell hlt.2.1 xy0
  have f9 : ∀ p : WB W, p.w.cell? ⟨X, 1, none⟩ = some (.int .i64 0) := fun p => p.cell hlt.2.1 xy1
  have f10 : ∀ p : WB W, p.w.cell? ⟨X, 2, none⟩ = some (.int .i64 0) := fun p => p.cell hlt.2.1 xy2
  have f11 : ∀ p : WB W, p.w.cell? ⟨X, 3, none⟩ = some (.int .u64 0) := fun p => p.cell hlt.2.1 xy3
  have f12 : ∀ p : WB W, p.w.cell? ⟨X, 4, none⟩ = some (.string ⟨#[]⟩) := fun p => p.cell hlt.2.1 xy4
  have f13 : ∀ p : WB W, p.w.cell? ⟨X, 5, none⟩ = some (.int .i64 0) := fun p => p.cell hlt.2.1 xy5
  have f14 : ∀ p : WB W, p.w.cell? ⟨X, 6, none⟩ = some (.int .u64 0) := fun p => p.cell hlt.2.1 xy6
  have f15 : ∀ p : WB W, p.w.cell? ⟨X, 7, none⟩ = some (.string ⟨#[]⟩) := fun p => p.cell hlt.2.1 xy7
  have f16 : ∀ p : WB W, p.w.cell? ⟨V, 0, none⟩ = some (.int .i64 0) := fun p => p.cell hlt.2.2 vy0
  have f17 : ∀ p : WB W, p.w.cell? ⟨V, 1, none⟩ = some (.int .i64 0) := fun p => p.cell hlt.2.2 vy1
  have f18 : ∀ p : WB W, p.w.cell? ⟨V, 2, none⟩ = some (.int .i64 0) := fun p => p.cell hlt.2.2 vy2
  have f19 : ∀ p : WB W, p.w.cell? ⟨V, 3, none⟩ = some (.int .u64 0) := fun p => p.cell hlt.2.2 vy3
  have f20 : ∀ p : WB W, p.w.cell? ⟨V, 4, none⟩ = some (.string ⟨#[]⟩) := fun p => p.cell hlt.2.2 vy4
  have f21 : ∀ p : WB W, p.w.cell? ⟨V, 5, none⟩ = some (.int .i64 0) := fun p => p.cell hlt.2.2 vy5
  have f22 : ∀ p : WB W, p.w.cell? ⟨V, 6, none⟩ = some (.int .u64 0) := fun p => p.cell hlt.2.2 vy6
  have f23 : ∀ p : WB W, p.w.cell? ⟨V, 7, none⟩ = some (.string ⟨#[]⟩) := fun p => p.cell hlt.2.2 vy7
  clear sy0 sy1 sy2 sy3 sy4 sy5 sy6 sy7 xy0 xy1 xy2 xy3 xy4 xy5 xy6 xy7 vy0 vy1 vy2 vy3 vy4 vy5 vy6 vy7 hlt hS hX hV hu
  go_wp2_with fail
  refine wp_region_wbh (by kernel_rfl) (by kernel_rfl) ?_
  iterate 21 (refine wq_step (fun K hK => ?_); go_simp; first | (refine hK _ ?_; clear hK K) | (apply Exists.intro; refine ⟨fun _ => ?_, hK _ ?_⟩; (first | (go_at_call 11; exact calls_wb (sbegun_any _)) | (go_at_call 12; exact calls_wb (HS.out _)) | (go_at_call 13; exact calls_wb (HK.out _))); clear hK K))
  refine wq_nil ?_
  rintro _ ⟨p, rfl⟩
  have hp := p.below
  go_wp2_with fail
  go_ret
  exact ⟨rfl, below_then hF hp⟩

set_option maxHeartbeats 4000000 in
set_option maxRecDepth 100000 in
theorem statsTell_ok (w : World) (k : Int) (hk : -9223372036854775808 ≤ k ∧ k ≤ 9223372036854775807) (a : Option Addr) (c : Nat) (l : List C.Cl) (hm : l.length ≤ maxLen) (hcap : l.length ≤ c ∧ c ≤ maxLen ∧ (a = none → c = 0)) (hx : ∀ x ∈ l, cOk x) (hu : Cls w w.heap.size a l) (s : S.St) (hs : sOk s) (h : C.chk k l = 0) :
    Calls Try.prog 3 #[.int .i64 k, .slice a l.length c, sag s] w (BoolPost true w) := by
  have HX0 := fun W (hq : Cls W W.heap.size a l) => sof_any k a c l W hm hx hq
  have HC := Lib.hid (fun W (hq : Cls W W.heap.size a l) => show Calls Try.prog 9 #[.int .i64 k, .slice a l.length c] W (fun e w' => e = .returned (.int .i64 (C.chk k l : Nat)) ∧ Below W.heap.size W w') from crcheck_any k a c l W hk hm hx hq)
  have HS0 := fun W => scheck_any k s W hs
  have HK0 := fun W => kcheck_any k s W hk hs
  generalize S.ck k s = ce at *
  have hr : ofR k l = (S.known l, 0) := if_neg (by rw [h]; simp)
  rw [hr] at HX0
  rw [h] at HC
  have hl64 := (C.chk_ok h).2.1
  have HN0 := fun W (hq : Cls W W.heap.size a l) => knownOf_any a c l W (by omega) hx hq
  have HE := fun w => stats_eql_stats w (S.known l) (S.known l)
  generalize S.known l = y at *
  obtain ⟨xr, xn, ⟨xk, xu, xT⟩, ⟨xm, xv, xS⟩⟩ := y
  clear hr h hx hcap hs
  obtain ⟨sr, sn, ⟨sk, su, sT⟩, ⟨sm, sv, sS⟩⟩ := s
  have HX := Lib.hid (fun W (hq : Cls W W.heap.size a l) => show Calls Try.prog 8 #[.int .i64 k, .slice a l.length c] W (fun e w' => e = .returned (.tuple #[.agg #[.int .i64 xr, .int .i64 xn, .int .i64 xk, .int .u64 (xu : Int), .string (str xT), .int .i64 xm, .int .u64 (xv : Int), .string (str xS)], .int .i64 0]) ∧ Below W.heap.size W w') from HX0 W hq)
  have HN := Lib.hid (fun W (hq : Cls W W.heap.size a l) => show Calls Try.prog 10 #[.slice a l.length c] W (fun e w' => e = .returned (.agg #[.int .i64 xr, .int .i64 xn, .int .i64 xk, .int .u64 (xu : Int), .string (str xT), .int .i64 xm, .int .u64 (xv : Int), .string (str xS)]) ∧ Below W.heap.size W w') from HN0 W hq)
  have HS := Lib.hid (fun W => show Calls Try.prog 12 #[.int .i64 k, .agg #[.int .i64 sr, .int .i64 sn, .int .i64 sk, .int .u64 (su : Int), .string (str sT), .int .i64 sm, .int .u64 (sv : Int), .string (str sS)]] W (fun e w' => e = .returned (.int .i64 ce) ∧ Below W.heap.size W w') from HS0 W)
  have HK := Lib.hid (fun W => show Calls Try.prog 13 #[.int .i64 k, .agg #[.int .i64 sr, .int .i64 sn, .int .i64 sk, .int .u64 (su : Int), .string (str sT), .int .i64 sm, .int .u64 (sv : Int), .string (str sS)]] W (fun e w' => e = .returned (.int .i64 ce) ∧ Below W.heap.size W w') from HK0 W)
  clear HX0 HS0 HK0 HN0
  have hE : ∀ w, (binOp .eql 27 (.agg #[.int .i64 xr, .int .i64 xn, .int .i64 xk, .int .u64 (xu : Int), .string (str xT), .int .i64 xm, .int .u64 (xv : Int), .string (str xS)]) (.agg #[.int .i64 xr, .int .i64 xn, .int .i64 xk, .int .u64 (xu : Int), .string (str xT), .int .i64 xm, .int .u64 (xv : Int), .string (str xS)])).run Try.prog w = .ok (.bool true) w := fun w => by
    have h := HE w
    rw [decide_eq_true rfl] at h
    exact h
  clear HE
  have hgd_eql := guards_stats .eql
  unfold sag
  simp only
  generalize str sT = sz at *
  generalize str sS = sq at *
  generalize str xT = xz at *
  generalize str xS = xq at *
  generalize hlen : l.length = n at *
  go_enter Try.func3, Try.ntmps3
  have HB := Lib.hid (oct_at w [.int .i64 sr, .int .i64 sn, .int .i64 sk, .int .u64 (su : Int), .string sz, .int .i64 sm, .int .u64 (sv : Int), .string sq])
  go_upto_region 1 with fail
  obtain ⟨W, hW⟩ : ∃ W, W = w.alloc (.cells #[.int .i64 sr, .int .i64 sn, .int .i64 sk, .int .u64 (su : Int), .string sz, .int .i64 sm, .int .u64 (sv : Int), .string sq] 27) := ⟨_, rfl⟩
  rw [← hW]
  obtain ⟨hS, hF⟩ := HB.out W hW
  clear HB hW
  obtain ⟨S0, hAe⟩ : ∃ B, B = w.heap.size := ⟨_, rfl⟩
  rw [← hAe] at hS ⊢
  clear hAe
  replace hu := hu.next hF
  go_wp2_with fail
  refine (HX.out _ hu).mono ?_
  rintro e w1 ⟨rfl, hb1⟩
  replace hS := hS.next hb1
  replace hu := hu.next hb1
  replace hF := below_then hF hb1
  have HX := Lib.hid (oct_at w1 [.int .i64 xr, .int .i64 xn, .int .i64 xk, .int .u64 (xu : Int), .string xz, .int .i64 xm, .int .u64 (xv : Int), .string xq])
  go_upto_region 2 with fail
  obtain ⟨W, hW⟩ : ∃ W, W = w1.alloc (.cells #[.int .i64 xr, .int .i64 xn, .int .i64 xk, .int .u64 (xu : Int), .string xz, .int .i64 xm, .int .u64 (xv : Int), .string xq] 27) := ⟨_, rfl⟩
  rw [← hW]
  obtain ⟨hX, hb2⟩ := HX.out W hW
  clear HX hW
  replace hS := hS.next hb2
  replace hu := hu.next hb2
  replace hF := below_then hF hb2
  obtain ⟨X, hXe⟩ : ∃ B, B = w1.heap.size := ⟨_, rfl⟩
  rw [← hXe] at hX ⊢
  clear hXe hb1 hb2
  go_wp2_with fail
  refine (HC.out _ hu).mono ?_
  rintro e w1 ⟨rfl, hb1⟩
  replace hS := hS.next hb1
  replace hX := hX.next hb1
  replace hu := hu.next hb1
  replace hF := below_then hF hb1
  clear hb1
  have hF1 := hF.size; have hX1 := hX.lt; have hS1 := hS.lt
  have HX := Lib.hid (oct_at w1 [.int .i64 0, .int .i64 0, .int .i64 0, .int .u64 0, .string ⟨#[]⟩, .int .i64 0, .int .u64 0, .string ⟨#[]⟩])
  go_upto_region 5 with fail
  obtain ⟨W, hW⟩ : ∃ W, W = w1.alloc (.cells #[.int .i64 0, .int .i64 0, .int .i64 0, .int .u64 0, .string ⟨#[]⟩, .int .i64 0, .int .u64 0, .string ⟨#[]⟩] 27) := ⟨_, rfl⟩
  rw [← hW]
  obtain ⟨hV, hb2⟩ := HX.out W hW
  clear HX hW
  replace hS := hS.next hb2
  replace hX := hX.next hb2
  replace hu := hu.next hb2
  replace hF := below_then hF hb2
  obtain ⟨V, hVe⟩ : ∃ B, B = w1.heap.size := ⟨_, rfl⟩
  rw [← hVe] at hV ⊢
  have hVw : w.heap.size ≤ V := by rw [hVe]; exact hF1
  have hVX : ¬ V = X := by rw [hVe]; exact Nat.ne_of_gt hX1
  have hVS : ¬ V = S0 := by rw [hVe]; exact Nat.ne_of_gt hS1
  clear hVe hb2
  go_wp2_with fail
  refine (HN.out _ hu).mono ?_
  rintro e w1 ⟨rfl, hb1⟩
  replace hS := hS.next hb1
  replace hX := hX.next hb1
  replace hV := hV.next hb1
  replace hu := hu.next hb1
  replace hF := below_then hF hb1
  obtain ⟨⟨v0, v1, v2, v3, v4, v5, v6, v7⟩, ⟨u0, u1, u2, u3, u4, u5, u6, u7⟩, _, hV2⟩ := hV.store (.int .i64 xr) (.int .i64 xn) (.int .i64 xk) (.int .u64 (xu : Int)) (.string xz) (.int .i64 xm) (.int .u64 (xv : Int)) (.string xq)
  have hX2 := octFar8 hX hVX (.int .i64 xr) (.int .i64 xn) (.int .i64 xk) (.int .u64 (xu : Int)) (.string xz) (.int .i64 xm) (.int .u64 (xv : Int)) (.string xq)
  have hS2 := octFar8 hS hVS (.int .i64 xr) (.int .i64 xn) (.int .i64 xk) (.int .u64 (xu : Int)) (.string xz) (.int .i64 xm) (.int .u64 (xv : Int)) (.string xq)
  have hF2 := Oct.below hF hVw (.int .i64 xr) (.int .i64 xn) (.int .i64 xk) (.int .u64 (xu : Int)) (.string xz) (.int .i64 xm) (.int .u64 (xv : Int)) (.string xq)
  clear hb1 hV hX hS hF hu
  go_upto_region 6 with fail
  obtain ⟨W, hW⟩ : ∃ W, W = ((((((((w1.setCell ⟨V, 0, none⟩ (.int .i64 xr)).setCell ⟨V, 1, none⟩ (.int .i64 xn)).setCell ⟨V, 2, none⟩ (.int .i64 xk)).setCell ⟨V, 3, none⟩ (.int .u64 (xu : Int))).setCell ⟨V, 4, none⟩ (.string xz)).setCell ⟨V, 5, none⟩ (.int .i64 xm)).setCell ⟨V, 6, none⟩ (.int .u64 (xv : Int))).setCell ⟨V, 7, none⟩ (.string xq)) := ⟨_, rfl⟩
  rw [← hW] at hV2 hX2 hS2 hF2 ⊢
  clear hW v0 v1 v2 v3 v4 v5 v6 v7 u0 u1 u2 u3 u4 u5 u6 u7
  have hV := hV2; have hX := hX2; have hS := hS2; have hF := hF2
  clear hV2 hX2 hS2 hF2
  obtain ⟨sy0, sy1, sy2, sy3, sy4, sy5, sy6, sy7⟩ := hS.cells
  obtain ⟨xy0, xy1, xy2, xy3, xy4, xy5, xy6, xy7⟩ := hX.cells
  obtain ⟨vy0, vy1, vy2, vy3, vy4, vy5, vy6, vy7⟩ := hV.cells
  have hlt : S0 < W.heap.size ∧ X < W.heap.size ∧ V < W.heap.size := ⟨hS.lt, hX.lt, hV.lt⟩
  have f0 : ∀ p : WB W, p.w.cell? ⟨S0, 0, none⟩ = some (.int .i64 sr) := fun p => p.cell hlt.1 sy0
  have f1 : ∀ p : WB W, p.w.cell? ⟨S0, 1, none⟩ = some (.int .i64 sn) := fun p => p.cell hlt.1 sy1
  have f2 : ∀ p : WB W, p.w.cell? ⟨S0, 2, none⟩ = some (.int .i64 sk) := fun p => p.cell hlt.1 sy2
  have f3 : ∀ p : WB W, p.w.cell? ⟨S0, 3, none⟩ = some (.int .u64 (su : Int)) := fun p => p.cell hlt.1 sy3
  have f4 : ∀ p : WB W, p.w.cell? ⟨S0, 4, none⟩ = some (.string sz) := fun p => p.cell hlt.1 sy4
  have f5 : ∀ p : WB W, p.w.cell? ⟨S0, 5, none⟩ = some (.int .i64 sm) := fun p => p.cell hlt.1 sy5
  have f6 : ∀ p : WB W, p.w.cell? ⟨S0, 6, none⟩ = some (.int .u64 (sv : Int)) := fun p => p.cell hlt.1 sy6
  have f7 : ∀ p : WB W, p.w.cell? ⟨S0, 7, none⟩ = some (.string sq) := fun p => p.cell hlt.1 sy7
  have f8 : ∀ p : WB W, p.w.cell? ⟨X, 0, none⟩ = some (.int .i64 xr) := fun p => p.cell hlt.2.1 xy0
  have f9 : ∀ p : WB W, p.w.cell? ⟨X, 1, none⟩ = some (.int .i64 xn) := fun p => p.cell hlt.2.1 xy1
  have f10 : ∀ p : WB W, p.w.cell? ⟨X, 2, none⟩ = some (.int .i64 xk) := fun p => p.cell hlt.2.1 xy2
  have f11 : ∀ p : WB W, p.w.cell? ⟨X, 3, none⟩ = some (.int .u64 (xu : Int)) := fun p => p.cell hlt.2.1 xy3
  have f12 : ∀ p : WB W, p.w.cell? ⟨X, 4, none⟩ = some (.string xz) := fun p => p.cell hlt.2.1 xy4
  have f13 : ∀ p : WB W, p.w.cell? ⟨X, 5, none⟩ = some (.int .i64 xm) := fun p => p.cell hlt.2.1 xy5
  have f14 : ∀ p : WB W, p.w.cell? ⟨X, 6, none⟩ = some (.int .u64 (xv : Int)) := fun p => p.cell hlt.2.1 xy6
  have f15 : ∀ p : WB W, p.w.cell? ⟨X, 7, none⟩ = some (.string xq) := fun p => p.cell hlt.2.1 xy7
  have f16 : ∀ p : WB W, p.w.cell? ⟨V, 0, none⟩ = some (.int .i64 xr) := fun p => p.cell hlt.2.2 vy0
  have f17 : ∀ p : WB W, p.w.cell? ⟨V, 1, none⟩ = some (.int .i64 xn) := fun p => p.cell hlt.2.2 vy1
  have f18 : ∀ p : WB W, p.w.cell? ⟨V, 2, none⟩ = some (.int .i64 xk) := fun p => p.cell hlt.2.2 vy2
  have f19 : ∀ p : WB W, p.w.cell? ⟨V, 3, none⟩ = some (.int .u64 (xu : Int)) := fun p => p.cell hlt.2.2 vy3
  have f20 : ∀ p : WB W, p.w.cell? ⟨V, 4, none⟩ = some (.string xz) := fun p => p.cell hlt.2.2 vy4
  have f21 : ∀ p : WB W, p.w.cell? ⟨V, 5, none⟩ = some (.int .i64 xm) := fun p => p.cell hlt.2.2 vy5
  have f22 : ∀ p : WB W, p.w.cell? ⟨V, 6, none⟩ = some (.int .u64 (xv : Int)) := fun p => p.cell hlt.2.2 vy6
  have f23 : ∀ p : WB W, p.w.cell? ⟨V, 7, none⟩ = some (.string xq) := fun p => p.cell hlt.2.2 vy7
  clear sy0 sy1 sy2 sy3 sy4 sy5 sy6 sy7 xy0 xy1 xy2 xy3 xy4 xy5 xy6 xy7 vy0 vy1 vy2 vy3 vy4 vy5 vy6 vy7 hlt hS hX hV
  go_wp2_with fail
  refine wp_region_wbh (by kernel_rfl) (by kernel_rfl) ?_
  iterate 21 (refine wq_step (fun K hK => ?_); go_simp; first | (refine hK _ ?_; clear hK K) | (apply Exists.intro; refine ⟨fun _ => ?_, hK _ ?_⟩; (first | (go_at_call 11; exact calls_wb (sbegun_any _)) | (go_at_call 12; exact calls_wb (HS.out _)) | (go_at_call 13; exact calls_wb (HK.out _))); clear hK K))
  refine wq_nil ?_
  rintro _ ⟨p, rfl⟩
  have hp := p.below
  go_wp2_with fail
  go_ret
  exact ⟨rfl, below_then hF hp⟩

theorem statsTell_walk (w : World) (k : Int) (hk : -9223372036854775808 ≤ k ∧ k ≤ 9223372036854775807) (a : Option Addr) (c : Nat) (l : List C.Cl) (hm : l.length ≤ maxLen) (hcap : l.length ≤ c ∧ c ≤ maxLen ∧ (a = none → c = 0)) (hx : ∀ x ∈ l, cOk x) (hu : Cls w w.heap.size a l) (s : S.St) (hs : sOk s) :
    Calls Try.prog 3 #[.int .i64 k, .slice a l.length c, sag s] w (BoolPost true w) := by
  by_cases h : C.chk k l = 0
  · exact statsTell_ok w k hk a c l hm hcap hx hu s hs h
  · exact statsTell_bad w k hk a c l hm hcap hx hu s hs h
end Go.Proofs.Ytgkhkfmlldnogaa
