/- The law StatsBound. -/
import Derived.Test.YtgkhkfmlldnogaaSL3
import Derived.Test.YtgkhkfmlldnogaaCEq
namespace Go.Proofs.Ytgkhkfmlldnogaa
open Go.RowKit
set_option linter.unusedVariables false

def isC (m : C.Cl) (x : C.Cl) : Bool := C.here x && decide (x = m)
theorem isC_next (m : C.Cl) (l : List C.Cl) (j : Nat) (h : j < l.length) : (l.take (j + 1)).any (isC m) = ((l.take j).any (isC m) || isC m (l.getD j C.null)) := by
  rw [ctake_succ l j h, List.any_append]; simp
theorem dense_next (l : List C.Cl) (j : Nat) (h : j < l.length) : (C.dense (l.take (j + 1))).length = (C.dense (l.take j)).length + if (l.getD j C.null).kind = 0 then 0 else 1 := by
  rw [ctake_succ l j h, S.dense_append, List.length_append]
  congr 1
  generalize l.getD j C.null = x
  unfold C.dense
  by_cases e : x.kind = 0
  · rw [if_pos e, List.filter_cons_of_neg (by unfold C.here; simp [e])]; rfl
  · rw [if_neg e, List.filter_cons_of_pos (by unfold C.here; simp [e])]; rfl
theorem any_end {l : List C.Cl} {m : C.Cl} (h : C.dense l ≠ [] → m ∈ l ∧ m.kind ≠ 0) : l.any (isC m) = decide (0 < (C.dense l).length) := by
  by_cases e : C.dense l = []
  · rw [e]
    rw [show decide (0 < ([] : List C.Cl).length) = false from rfl, List.any_eq_false]
    intro x hx
    have hk : ¬ (C.here x = true) := fun hh => by
      have : x ∈ C.dense l := List.mem_filter.2 ⟨hx, hh⟩
      rw [e] at this; simp at this
    unfold isC; simp [hk]
  · obtain ⟨h1, h2⟩ := h e
    have : 0 < (C.dense l).length := List.length_pos_iff.2 e
    rw [decide_eq_true this, List.any_eq_true]
    exact ⟨m, h1, by unfold isC C.here; simp [h2]⟩

set_option maxHeartbeats 4000000 in
set_option maxRecDepth 100000 in
theorem statsBound_bad (w : World) (k : Int) (hk : -9223372036854775808 ≤ k ∧ k ≤ 9223372036854775807) (a : Option Addr) (c : Nat) (l : List C.Cl) (hm : l.length ≤ maxLen) (hx : ∀ x ∈ l, cOk x) (hu : Cls w w.heap.size a l) (h : C.chk k l ≠ 0) :
    Calls Try.prog 7 #[.int .i64 k, .slice a l.length c] w (BoolPost true w) := by
  have HX0 := fun W (hq : Cls W W.heap.size a l) => sof_any k a c l W hm hx hq
  have hr : ofR k l = (S.zero, C.chk k l) := if_pos h
  rw [hr] at HX0
  generalize C.chk k l = xe at *
  have g1 : ((xe : Int) != 0) = true := by rw [bne_iff_ne]; omega
  have HE := fun w => stats_eql_stats w S.zero S.zero
  clear hr h hx
  have HX := Lib.hid (fun W (hq : Cls W W.heap.size a l) => show Calls Try.prog 8 #[.int .i64 k, .slice a l.length c] W (fun e w' => e = .returned (.tuple #[.agg #[.int .i64 0, .int .i64 0, .int .i64 0, .int .u64 0, .string ⟨#[]⟩, .int .i64 0, .int .u64 0, .string ⟨#[]⟩], .int .i64 xe]) ∧ Below W.heap.size W w') from HX0 W hq)
  have hE : ∀ w, (binOp .eql 27 (.agg #[.int .i64 0, .int .i64 0, .int .i64 0, .int .u64 0, .string ⟨#[]⟩, .int .i64 0, .int .u64 0, .string ⟨#[]⟩]) (.agg #[.int .i64 0, .int .i64 0, .int .i64 0, .int .u64 0, .string ⟨#[]⟩, .int .i64 0, .int .u64 0, .string ⟨#[]⟩])).run Try.prog w = .ok (.bool true) w := fun w => by
    have h := HE w
    rw [decide_eq_true rfl] at h
    exact h
  have hgd := guards_stats .eql
  clear HX0 HE
  generalize hlen : l.length = n at *
  have hF := Below.refl w.heap.size w
  go_enter Try.func7, Try.ntmps7
  go_wp2_with fail
  refine (HX.out _ hu).mono ?_
  rintro e w1 ⟨rfl, hb1⟩
  have HX := Lib.hid (oct_at w1 [.int .i64 0, .int .i64 0, .int .i64 0, .int .u64 0, .string ⟨#[]⟩, .int .i64 0, .int .u64 0, .string ⟨#[]⟩])
  go_upto_region 2 with fail
  obtain ⟨W, hW⟩ : ∃ W, W = w1.alloc (.cells #[.int .i64 0, .int .i64 0, .int .i64 0, .int .u64 0, .string ⟨#[]⟩, .int .i64 0, .int .u64 0, .string ⟨#[]⟩] 27) := ⟨_, rfl⟩
  rw [← hW]
  obtain ⟨hX, hb2⟩ := HX.out W hW
  clear HX hW
  replace hF := below_then (below_then hF hb1) hb2
  obtain ⟨X, hXe⟩ : ∃ B, B = w1.heap.size := ⟨_, rfl⟩
  rw [← hXe] at hX ⊢
  clear hXe hb1 hb2
  go_wp2_with fail
  refine (sbegun_any _).mono ?_
  rintro e w1 ⟨rfl, hb1⟩
  replace hX := hX.next hb1
  replace hF := below_then hF hb1
  obtain ⟨X0, X1, X2, X3, X4, X5, X6, X7⟩ := hX.cells
  go_wp2_with fail
  go_ret
  exact ⟨rfl, hF⟩

set_option maxHeartbeats 8000000 in
set_option maxRecDepth 100000 in
theorem statsBound_ok (w : World) (k : Int) (hk : -9223372036854775808 ≤ k ∧ k ≤ 9223372036854775807) (a : Option Addr) (c : Nat) (l : List C.Cl) (hm : l.length ≤ maxLen) (hx : ∀ x ∈ l, cOk x) (hu : Cls w w.heap.size a l) (h : C.chk k l = 0) :
    Calls Try.prog 7 #[.int .i64 k, .slice a l.length c] w (BoolPost true w) := by
  have hl64 := (C.chk_ok h).2.1
  have HX0 := fun W (hq : Cls W W.heap.size a l) => sof_any k a c l W hm hx hq
  have hr : ofR k l = (S.known l, 0) := if_neg (by rw [h]; simp)
  rw [hr] at HX0
  have HC0 := fun W => scheck_any k (S.known l) W (sok_known hx hl64)
  rw [S.ck_of (S.known_ok h)] at HC0
  have hb1 := any_end (fun e => (S.bound_in (l := l) e).1)
  have hb2 := any_end (fun e => (S.bound_in (l := l) e).2)
  have hbd : ∀ j, j < l.length → (l.getD j C.null).kind ≠ 0 → C.less (l.getD j C.null) (S.known l).least = false ∧ C.less (S.known l).most (l.getD j C.null) = false := fun j hj hk => S.bound (cgetD_mem l j hj) hk
  have hkn : S.known l = ⟨l.length, (l.length : Int) - ((C.dense l).length : Int), (S.known l).least, (S.known l).most⟩ := rfl
  have hdl : (C.dense l).length ≤ l.length := List.length_filter_le _ _
  generalize (S.known l).least = Lo at *
  generalize (S.known l).most = Hi at *
  rw [hkn] at HX0 HC0
  have HD1 := Lib.hid (fun j h => dense_next l j h)
  have HB1 := Lib.hid (fun j h => isC_next Lo l j h)
  have HB2 := Lib.hid (fun j h => isC_next Hi l j h)
  have hd0 : (C.dense (l.take 0)).length = 0 := rfl
  have hb10 : (l.take 0).any (isC Lo) = false := rfl
  have hb20 : (l.take 0).any (isC Hi) = false := rfl
  have hDn : (C.dense (l.take l.length)).length = (C.dense l).length := by rw [List.take_length]
  have hB1n : (l.take l.length).any (isC Lo) = decide (0 < (C.dense l).length) := by rw [List.take_length]; exact hb1
  have hB2n : (l.take l.length).any (isC Hi) = decide (0 < (C.dense l).length) := by rw [List.take_length]; exact hb2
  have HDL := Lib.hid (fun j => show (C.dense (l.take j)).length ≤ j from Nat.le_trans (List.length_filter_le _ _) (by rw [List.length_take]; omega))
  generalize C.dense l = dl at *
  generalize dl.length = dn at *
  obtain ⟨D, hD⟩ : ∃ D : Nat → Nat, D = fun j => (C.dense (l.take j)).length := ⟨_, rfl⟩
  obtain ⟨B1, hB1⟩ : ∃ B : Nat → Bool, B = fun j => (l.take j).any (isC Lo) := ⟨_, rfl⟩
  obtain ⟨B2, hB2⟩ : ∃ B : Nat → Bool, B = fun j => (l.take j).any (isC Hi) := ⟨_, rfl⟩
  have HD1 := Lib.hid (show ∀ j, j < l.length → D (j + 1) = D j + if (l.getD j C.null).kind = 0 then 0 else 1 from fun j h => by rw [hD]; exact HD1.out j h)
  have HB1 := Lib.hid (show ∀ j, j < l.length → B1 (j + 1) = (B1 j || isC Lo (l.getD j C.null)) from fun j h => by rw [hB1]; exact HB1.out j h)
  have HB2 := Lib.hid (show ∀ j, j < l.length → B2 (j + 1) = (B2 j || isC Hi (l.getD j C.null)) from fun j h => by rw [hB2]; exact HB2.out j h)
  have HD0 := Lib.hid (show D 0 = 0 by rw [hD]; exact hd0)
  have HB10 := Lib.hid (show B1 0 = false by rw [hB1]; exact hb10)
  have HB20 := Lib.hid (show B2 0 = false by rw [hB2]; exact hb20)
  have HDN := Lib.hid (show D l.length = dn by rw [hD]; exact hDn)
  have HB1N := Lib.hid (show B1 l.length = decide (0 < dn) by rw [hB1]; exact hB1n)
  have HB2N := Lib.hid (show B2 l.length = decide (0 < dn) by rw [hB2]; exact hB2n)
  have HDL := Lib.hid (show ∀ j, D j ≤ j from fun j => by rw [hD]; exact HDL.out j)
  have HBD := Lib.hid hbd
  have HEL := Lib.hid (fun (x : C.Cl) w => cell_eql_cell w x Lo)
  have HEH := Lib.hid (fun (x : C.Cl) w => cell_eql_cell w x Hi)
  have HLL := Lib.hid (fun (x : C.Cl) W => nless_any x Lo W)
  have HLH := Lib.hid (fun (x : C.Cl) W => nless_any Hi x W)
  clear hbd hr h hx hb1 hb2 hkn hDn hB1n hB2n hD hB1 hB2 hd0 hb10 hb20
  obtain ⟨xk, xu, xT⟩ := Lo
  obtain ⟨xm, xv, xS⟩ := Hi
  have HX := Lib.hid (fun W (hq : Cls W W.heap.size a l) => show Calls Try.prog 8 #[.int .i64 k, .slice a l.length c] W (fun e w' => e = .returned (.tuple #[.agg #[.int .i64 l.length, .int .i64 ((l.length : Int) - (dn : Int)), .int .i64 xk, .int .u64 (xu : Int), .string (str xT), .int .i64 xm, .int .u64 (xv : Int), .string (str xS)], .int .i64 0]) ∧ Below W.heap.size W w') from HX0 W hq)
  have HC := Lib.hid (fun W => show Calls Try.prog 12 #[.int .i64 k, .agg #[.int .i64 l.length, .int .i64 ((l.length : Int) - (dn : Int)), .int .i64 xk, .int .u64 (xu : Int), .string (str xT), .int .i64 xm, .int .u64 (xv : Int), .string (str xS)]] W (fun e w' => e = .returned (.int .i64 0) ∧ Below W.heap.size W w') from HC0 W)
  clear HX0 HC0
  unfold cag at HEL HEH HLL HLH
  simp only at HEL HEH HLL HLH
  have HXTS := Lib.hid (And.intro (Eq.refl (str xT)) (Eq.refl (str xS)))
  generalize str xT = xz at *
  generalize str xS = xq at *
  have hsub : IntKind.i64.wrap ((l.length : Int) - (dn : Int)) = (l.length : Int) - (dn : Int) := by rw [IntKind.wrap_i64]; omega
  have hgd := guards_cell .eql
  have hF := Below.refl w.heap.size w
  go_enter Try.func7, Try.ntmps7
  go_wp2_with fail
  refine (HX.out _ hu).mono ?_
  rintro e w1 ⟨rfl, hb1⟩
  replace hu := hu.next hb1
  have HX := Lib.hid (oct_at w1 [.int .i64 l.length, .int .i64 ((l.length : Int) - (dn : Int)), .int .i64 xk, .int .u64 (xu : Int), .string xz, .int .i64 xm, .int .u64 (xv : Int), .string xq])
  go_upto_region 2 with fail
  obtain ⟨W, hW⟩ : ∃ W, W = w1.alloc (.cells #[.int .i64 l.length, .int .i64 ((l.length : Int) - (dn : Int)), .int .i64 xk, .int .u64 (xu : Int), .string xz, .int .i64 xm, .int .u64 (xv : Int), .string xq] 27) := ⟨_, rfl⟩
  rw [← hW]
  obtain ⟨hX, hb2⟩ := HX.out W hW
  clear HX hW
  replace hu := hu.next hb2
  replace hF := below_then (below_then hF hb1) hb2
  obtain ⟨X, hXe⟩ : ∃ B, B = w1.heap.size := ⟨_, rfl⟩
  rw [← hXe] at hX ⊢
  clear hXe hb1 hb2
  go_wp2_with fail
  refine (sbegun_any _).mono ?_
  rintro e w2 ⟨rfl, hb1⟩
  have HU := Lib.hid (hu.next hb1)
  have HO := Lib.hid (hX.next hb1)
  have HF := Lib.hid (below_then hF hb1)
  clear hu hX hF hb1
  go_wp2_with fail
  go_loopw [7, 8, 9, 10] (fun le mo th i wr => ∃ j : Nat, j ≤ l.length ∧ i = .int .i64 j ∧ th = .int .i64 (D j : Nat) ∧ le = .bool (B1 j) ∧ mo = .bool (B2 j) ∧ Below w2.heap.size w2 wr) (fun _ _ _ i _ => l.length - (intOf i).toNat)
  case atStart => exact ⟨0, by omega, rfl, by rw [HD0.out]; rfl, by rw [HB10.out], by rw [HB20.out], Below.refl _ _⟩
  case round =>
    obtain ⟨j, hj, rfl, rfl, rfl, rfl, hbw⟩ := hrel
    by_cases hlt : j < l.length
    · obtain ⟨b, off, rfl, hb, hcc⟩ := HU.out (fun e => by rw [e] at hlt; simp at hlt)
      obtain ⟨z0, z1, z2⟩ := hcc j hlt
      have hjI : (j : Int) < (l.length : Int) := by omega
      have hj0 : (0 : Int) ≤ (j : Int) := by omega
      have hd1 := HD1.out j hlt
      have h1 := HB1.out j hlt
      have h2 := HB2.out j hlt
      have hbd := HBD.out j hlt
      have hdl1 := HDL.out j
      obtain ⟨x, hx⟩ : ∃ x, x = l.getD j C.null := ⟨_, rfl⟩
      rw [← hx] at z0 z1 z2 hd1 h1 h2 hbd
      have hel := HEL.out x
      have heh := HEH.out x
      have hll := HLL.out x
      have hlh := HLH.out x
      have hbl : b < wr.heap.size := Nat.lt_of_lt_of_le hb hbw.size
      have k0 := (hbw.cell (p := ⟨b, off + j * 3, none⟩) hb).trans z0
      have k1 := (hbw.cell (p := ⟨b, off + j * 3 + 1, none⟩) hb).trans z1
      have k2 := (hbw.cell (p := ⟨b, off + j * 3 + 2, none⟩) hb).trans z2
      have hO := HO.out.next hbw
      obtain ⟨_, _, y2, y3, y4, y5, y6, y7⟩ := hO.cells
      have hXl := hO.lt
      clear hcc z0 z1 z2 hO hx
      by_cases hk0 : x.kind = 0
      · rw [if_pos hk0, Nat.add_zero] at hd1
        have hi1 : ∀ m, isC m x = false := fun m => by unfold isC C.here; simp [hk0]
        rw [hi1, Bool.or_false] at h1 h2
        have H1 := Lib.hid h1
        have H2 := Lib.hid h2
        have HD := Lib.hid hd1
        rw [hk0] at k0
        generalize B1 j = q1 at *
        generalize B2 j = q2 at *
        generalize D j = d at *
        clear h1 h2 hd1 hi1 hk0 hbd hel heh hll hlh y2 y3 y4 y5 y6 y7 k1 k2
        go_wp2_with fail
        exact ⟨⟨j + 1, by omega, by go_num, by rw [HD.out]; rfl, by rw [H1.out], by rw [H2.out], hbw⟩, by simp [intOf]; omega⟩
      · rw [if_neg hk0] at hd1
        obtain ⟨b1, b2⟩ := hbd hk0
        have hi1 : ∀ m, isC m x = decide (x = m) := fun m => by unfold isC C.here; simp [hk0]
        rw [hi1] at h1 h2
        have gk : (x.kind == 0) = false := by rw [beq_eq_false_iff_ne]; exact hk0
        rw [b1] at hll
        rw [b2] at hlh
        have hw9 : IntKind.i64.wrap ((D j : Int) + 1) = ((D j + 1 : Nat) : Int) := by rw [IntKind.wrap_i64]; omega
        have H1 := Lib.hid h1
        have H2 := Lib.hid h2
        have HD := Lib.hid hd1
        have HLX := Lib.hid hll
        have HHX := Lib.hid hlh
        generalize B1 j = q1 at *
        generalize B2 j = q2 at *
        generalize D j = d at *
        generalize decide (x = (⟨xk, xu, xT⟩ : C.Cl)) = p1 at *
        generalize decide (x = (⟨xm, xv, xS⟩ : C.Cl)) = p2 at *
        generalize x.kind = zk at *
        generalize x.num = zn at *
        generalize str x.txt = zx at *
        have f0 : ∀ p : WB wr, p.w.cell? ⟨b, off + j * 3, none⟩ = some (.int .i64 zk) := fun p => p.cell hbl k0
        have f1 : ∀ p : WB wr, p.w.cell? ⟨b, off + j * 3 + 1, none⟩ = some (.int .u64 (zn : Int)) := fun p => p.cell hbl k1
        have f2 : ∀ p : WB wr, p.w.cell? ⟨b, off + j * 3 + 2, none⟩ = some (.string zx) := fun p => p.cell hbl k2
        have f3 : ∀ p : WB wr, p.w.cell? ⟨X, 2, none⟩ = some (.int .i64 xk) := fun p => p.cell hXl y2
        have f4 : ∀ p : WB wr, p.w.cell? ⟨X, 3, none⟩ = some (.int .u64 (xu : Int)) := fun p => p.cell hXl y3
        have f5 : ∀ p : WB wr, p.w.cell? ⟨X, 4, none⟩ = some (.string xz) := fun p => p.cell hXl y4
        have f6 : ∀ p : WB wr, p.w.cell? ⟨X, 5, none⟩ = some (.int .i64 xm) := fun p => p.cell hXl y5
        have f7 : ∀ p : WB wr, p.w.cell? ⟨X, 6, none⟩ = some (.int .u64 (xv : Int)) := fun p => p.cell hXl y6
        have f8 : ∀ p : WB wr, p.w.cell? ⟨X, 7, none⟩ = some (.string xq) := fun p => p.cell hXl y7
        have HBW := Lib.hid hbw
        clear h1 h2 hd1 hi1 hk0 b1 b2 hbd hll hlh hbl hXl y2 y3 y4 y5 y6 y7 k1 k2 hbw
        go_wp2_with fail
        refine wp_region_wbh (by kernel_rfl) (by kernel_rfl) ?_
        iterate 7 (refine wq_step (fun K hK => ?_); go_simp; first | (refine hK _ ?_; clear hK K) | (apply Exists.intro; refine ⟨fun _ => ?_, hK _ ?_⟩; (go_at_call 16; exact calls_wb (HLX.out _)); clear hK K))
        iterate 9 (refine wq_step (fun K hK => ?_); go_simp; first | (refine hK _ ?_; clear hK K) | (apply Exists.intro; refine ⟨fun _ => ?_, hK _ ?_⟩; (go_at_call 16; exact calls_wb (HHX.out _)); clear hK K))
        refine wq_nil ?_
        rintro _ ⟨p, rfl⟩
        have hp := p.below
        have HBW2 := Lib.hid (below_then HBW.out hp)
        have e0 := f0 p
        have e1 := f1 p
        have e2 := f2 p
        have e3 := f3 p
        have e4 := f4 p
        have e5 := f5 p
        have e6 := f6 p
        have e7 := f7 p
        have e8 := f8 p
        clear f0 f1 f2 f3 f4 f5 f6 f7 f8 hp HLX HHX
        generalize p.w = W4 at *
        clear p
        cases q1
        all_goals
          cases q2
          all_goals
            go_wp2_with fail
            go_quiet (fail)
            go_wp2_with fail
            go_quiet (fail)
            go_wp2_with fail
            exact ⟨⟨j + 1, by omega, by go_num, by rw [HD.out]; rfl, by rw [H1.out]; rfl, by rw [H2.out]; rfl, below_drewN HBW2.out _⟩, by simp [intOf]; omega⟩
    · obtain rfl : j = l.length := by omega
      have hO := HO.out.next hbw
      obtain ⟨y0, y1, y2, y3, y4, y5, y6, y7⟩ := hO.cells
      have hFw := below_then HF.out hbw
      have HFW := Lib.hid hFw
      have HO2 := Lib.hid hO
      rw [HDN.out, HB1N.out, HB2N.out]
      have gq : decide (0 < dn) = true ∨ decide (0 < dn) = false := by cases decide (0 < dn) <;> simp
      have hq0 : decide ((0 : Int) < (dn : Int)) = decide (0 < dn) := by simp
      clear hbw hFw hO
      go_wp2_with fail
      refine (HC.out _).mono ?_
      rintro e w3 ⟨rfl, hb3⟩
      obtain ⟨y0, y1, y2, y3, y4, y5, y6, y7⟩ := (HO2.out.next hb3).cells
      have hend := below_then HFW.out hb3
      rcases gq with gq | gq
      all_goals
        rw [gq] at hq0 ⊢
        go_wp2_with fail
        go_ret
        exact ⟨rfl, hend⟩

theorem statsBound_walk (w : World) (k : Int) (hk : -9223372036854775808 ≤ k ∧ k ≤ 9223372036854775807) (a : Option Addr) (c : Nat) (l : List C.Cl) (hm : l.length ≤ maxLen) (hcap : l.length ≤ c ∧ c ≤ maxLen ∧ (a = none → c = 0)) (hx : ∀ x ∈ l, cOk x) (hu : Cls w w.heap.size a l) :
    Calls Try.prog 7 #[.int .i64 k, .slice a l.length c] w (BoolPost true w) := by
  by_cases h : C.chk k l = 0
  · exact statsBound_ok w k hk a c l hm hx hu h
  · exact statsBound_bad w k hk a c l hm hx hu h
end Go.Proofs.Ytgkhkfmlldnogaa
