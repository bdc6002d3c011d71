/- HW8, HW9, HW10, HW11, BitsTB, HR3, HR4, HR5, DPlain, DW1, DW2, DW3, DW4, DW5, Same. -/
import Derived.WalkKit
import Derived.RangeFuncBox
import Derived.Test.YtmiboibadccceaaGreatK2
/- The walk of hybrid.first. -/
namespace Go.Proofs.YtmiboibadccceaaGreat
open Go.RowKit
set_option linter.unusedVariables false

/-- a part as a value -/
def PV (W : World) (v : Value) : H.Part → Prop
  | .run n m => v = .iface 137 (.agg #[.int .u64 n, .int .i64 m])
  | .blk l => ∃ a c, v = .iface 138 (.slice a l.length c) ∧ Nums W W.heap.size a l
def FirstPost (r : Nat × H.Part × Nat) (w : World) (e : Ending) (w' : World) : Prop :=
  Below w.heap.size w w' ∧ (if r.1 = 0 then ∃ v, e = .returned (.tuple #[v, .int .i64 r.2.2, .int .i64 0]) ∧ PV w' v r.2.1 else e = .returned (.tuple #[.nilIface, .int .i64 0, .int .i64 r.1]))
theorem FirstPost.bad {r : Nat × H.Part × Nat} {er : Nat} {w w' : World} (h : Below w.heap.size w w') (hr : r.1 = er) (he : er ≠ 0) : FirstPost r w (.returned (.tuple #[.nilIface, .int .i64 0, .int .i64 er])) w' := by
  refine ⟨h, ?_⟩
  rw [if_neg (by omega), hr]
theorem FirstPost.good {r : Nat × H.Part × Nat} {p : H.Part} {n : Nat} {v : Value} {w w' : World} (h : Below w.heap.size w w') (hr : r = (0, p, n)) (hv : PV w' v p) : FirstPost r w (.returned (.tuple #[v, .int .i64 n, .int .i64 0])) w' := by
  subst hr
  exact ⟨h, v, rfl, hv⟩

theorem vread_any (s : ByteArray) (w : World) (hs : s.size ≤ maxLen) : Calls Tryz.prog 148 #[.string s] w (ReadPost (V.rd s.data.toList) w) := by
  by_cases h : s.size = 0
  · rw [data_empty s h]; exact read_empty s w (empty_true s h)
  · exact read_any s w hs (by omega) (empty_false s h)

theorem first_e1 (s : List UInt8) (left w e : Nat) (h : (V.rd s).2.2 = e) (he : e ≠ 0) : (H.first s left w).1 = e := by
  unfold H.first; rw [if_pos (by omega)]; exact h
theorem first_ok (s : List UInt8) (left w h k : Nat) (hr : V.rd s = (h, k, 0)) : H.first s left w = H.firstL s h k left w := by
  unfold H.first; rw [hr]; simp

set_option maxHeartbeats 1000000 in
set_option maxRecDepth 100000 in
theorem first_rd (s : ByteArray) (left wide e : Nat) (w : World) (hs : s.size ≤ maxLen) (he : e ≠ 0) (hr : V.rd s.data.toList = (0, 0, e)) :
    Calls Tryz.prog 144 #[.string s, .int .i64 left, .int .i64 wide] w (FirstPost (H.first s.data.toList left wide) w) := by
  have HF := Lib.hid (first_e1 s.data.toList left wide e (by rw [hr]) he)
  have hv := fun w => vread_any s w hs
  rw [hr] at hv
  have HV := Lib.hid hv
  have g1 : ((e : Int) != 0) = true := by rw [bne_iff_ne]; omega
  generalize H.first s.data.toList left wide = r at *
  clear hv hr
  go_enter Tryz.func144, Tryz.ntmps144
  go_wp2_with fail
  refine (HV.out _).mono ?_
  rintro e1 w1 ⟨rfl, hb⟩
  go_wp2_with fail
  go_ret3
  exact FirstPost.bad hb HF.out he

set_option maxHeartbeats 1000000 in
set_option maxRecDepth 100000 in
theorem first_fit (s : ByteArray) (left wide h k z : Nat) (w : World) (hs : s.size ≤ maxLen) (hl : left ≤ 64) (hh : h < 18446744073709551616) (hr : V.rd s.data.toList = (h, k, 0)) (hz : H.fit h left = z) (he : z ≠ 0) :
    Calls Tryz.prog 144 #[.string s, .int .i64 left, .int .i64 wide] w (FirstPost (H.first s.data.toList left wide) w) := by
  have HF := Lib.hid (show (H.first s.data.toList left wide).1 = z by rw [first_ok _ _ _ _ _ hr]; unfold H.firstL; rw [if_pos (by omega)]; exact hz)
  have hv := fun w => vread_any s w hs
  rw [hr] at hv
  have HV := Lib.hid hv
  have hft := fun w => hfit_any h left w hh hl
  rw [hz] at hft
  have HFT := Lib.hid hft
  have g1 : ((z : Int) != 0) = true := by rw [bne_iff_ne]; omega
  generalize H.first s.data.toList left wide = r at *
  clear hv hr hft hz
  go_enter Tryz.func144, Tryz.ntmps144
  go_wp2_with fail
  refine (HV.out _).mono ?_
  rintro e1 w1 ⟨rfl, hb⟩
  go_wp2_with fail
  refine (HFT.out _).mono ?_
  rintro e1 w2 ⟨rfl, rfl⟩
  go_wp2_with fail
  go_ret3
  exact FirstPost.bad hb HF.out he
end Go.Proofs.YtmiboibadccceaaGreat
/- The walk of hybrid.first: a run. -/
namespace Go.Proofs.YtmiboibadccceaaGreat
open Go.RowKit
set_option linter.unusedVariables false

theorem ext_data (s : ByteArray) (a b : Nat) : (s.extract a b).data.toList = (s.data.toList.drop a).take (b - a) := by
  rw [Lib.extract_data]

theorem dg_one (w : Nat) (X : Nat) : B.dg w 1 X = [X % 2 ^ w] := by simp [B.dg]

set_option maxHeartbeats 400000 in
set_option maxRecDepth 100000 in
theorem first_even (s : ByteArray) (left wide m k : Nat) (w : World) (hs : s.size ≤ maxLen) (hl : left ≤ 64) (hw : wide ≤ 64) (hm1 : 1 ≤ m) (hm2 : m ≤ left) (hk : k ≤ 9) (hks : k ≤ s.size) (hr : V.rd s.data.toList = (2 * m, k, 0)) :
    Calls Tryz.prog 144 #[.string s, .int .i64 left, .int .i64 wide] w (FirstPost (H.first s.data.toList left wide) w) := by
  have hheld : H.held (2 * m) = 1 := by unfold H.held; rw [if_neg (by omega)]
  have hfit : H.fit (2 * m) left = 0 := by unfold H.fit; rw [if_neg (by omega), if_neg (show ¬ (2 * m) % 2 = 1 by omega), if_neg (by omega)]
  have hfl := first_ok s.data.toList left wide _ _ hr
  unfold H.firstL at hfl
  rw [if_neg (by simp [hfit]), hheld, len_data, Nat.one_mul] at hfl
  obtain ⟨Z, hZ⟩ : ∃ Z, Z = B.sz wide := ⟨_, rfl⟩
  obtain ⟨E, hE⟩ : ∃ E, E = k + Z := ⟨_, rfl⟩
  rw [← hZ, ← hE] at hfl
  have hz8 : Z ≤ 8 := by rw [hZ]; unfold B.sz; omega
  have hsz := hs
  unfold maxLen at hsz
  have hv := fun w => vread_any s w hs
  rw [hr] at hv
  have HV := Lib.hid hv
  have hft := fun w => hfit_any (2 * m) left w (by omega) hl
  rw [hfit] at hft
  have HFT := Lib.hid hft
  have hq1 : (((2 * m : Nat) : Int) / 2) = (m : Int) := by omega
  have hq2 : IntKind.i64.wrap (m : Int) = (m : Int) := by rw [IntKind.wrap_i64]; omega
  have g1 : (((2 * m : Nat) : Int) % 2 == 1) = false := by rw [beq_eq_false_iff_ne]; omega
  have g2 : (((2 * m : Nat) : Int) % 2 == 0) = true := by rw [beq_iff_eq]; omega
  have hq3 : (((wide : Int) + 7) / 8) = (Z : Int) := by rw [hZ]; unfold B.sz; omega
  have hq4 : ((k : Int) + (Z : Int)) = (E : Int) := by omega
  have HKE := Lib.hid hE
  have hEb : k ≤ E ∧ E ≤ 17 := by omega
  have hH : ∃ h : Nat, h = 2 * m := ⟨_, rfl⟩
  obtain ⟨h, hh⟩ := hH
  rw [← hh] at hq1 g1 g2 HV HFT
  have hheld2 : H.held h = 1 := by rw [hh]; exact hheld
  have hhm : h / 2 = m ∧ h % 2 = 0 := by omega
  rw [← hh] at hfl
  clear hv hr hft hfit hheld hE hh
  by_cases hlen : s.size < E
  · have HF := Lib.hid (show (H.first s.data.toList left wide).1 = 5 by rw [hfl, if_pos hlen])
    generalize H.first s.data.toList left wide = r at *
    clear hfl hZ
    go_enter Tryz.func144, Tryz.ntmps144
    go_wp2_with fail
    refine (HV.out _).mono ?_
    rintro e1 w1 ⟨rfl, hb⟩
    go_wp2_with fail
    refine (HFT.out _).mono ?_
    rintro e1 w2 ⟨rfl, rfl⟩
    go_wp2_with fail
    go_ret3
    exact FirstPost.bad (er := 5) hb HF.out (by omega)
  · rw [if_neg hlen] at hfl
    obtain ⟨d, hd⟩ : ∃ d, d = (s.data.toList.drop k).take Z := ⟨_, rfl⟩
    have hdx : (s.extract k E).data.toList = d := by rw [ext_data, hd, show E - k = Z by have := HKE.out; omega]
    have hdl : d.length = B.sz (1 * wide) := by rw [hd, List.length_take, List.length_drop, len_data, Nat.one_mul, ← hZ]; have := HKE.out; omega
    have hun : ∀ w, Calls Tryz.prog 100 #[.string (s.extract k E), .int .i64 1, .int .i64 wide] w (AllPostC (if B.leN d / 2 ^ wide ≠ 0 then ([], 1) else (B.dg wide 1 (B.leN d), 0)) w) := fun w => by
      have := unpackc_any (s.extract k E) ((1 : Nat) : Int) wide w (by simp; omega)
      rw [hdx, unpR_eq d 1 wide (by omega) hw hdl, Nat.one_mul] at this
      exact this
    rw [← hd] at hfl
    unfold H.body at hfl
    rw [hheld2, if_pos hhm.2, hhm.1, Nat.one_mul, dg_one] at hfl
    rw [dg_one] at hun
    simp only [List.headD_cons] at hfl
    have hx0 : B.leN d % 2 ^ wide < 18446744073709551616 := Nat.lt_of_lt_of_le (Nat.mod_lt _ (B.pos2 wide)) (Nat.pow_le_pow_right (n := 2) (by omega) hw)
    clear hhm hheld2 hdl hdx hd
    have hEs : (E : Int) ≤ (s.size : Int) := by omega
    have hkE : (k : Int) ≤ (E : Int) := by omega
    by_cases hbad : B.leN d / 2 ^ wide ≠ 0
    · rw [if_pos hbad] at hun hfl
      have HF := Lib.hid (show (H.first s.data.toList left wide).1 = 1 by rw [hfl])
      have HUN := Lib.hid hun
      generalize H.first s.data.toList left wide = r at *
      clear hfl hun hbad hx0 hZ
      go_enter Tryz.func144, Tryz.ntmps144
      go_wp2_with fail
      refine (HV.out _).mono ?_
      rintro e1 w1 ⟨rfl, hb⟩
      go_wp2_with fail
      refine (HFT.out _).mono ?_
      rintro e1 w2 ⟨rfl, rfl⟩
      go_wp2_with fail
      refine (HUN.out _).mono ?_
      rintro e1 w3 ⟨a, c, rfl, hnum, hlc, hcm, hb3⟩
      go_wp2_with fail
      go_ret3
      exact FirstPost.bad (er := 1) (below_then hb hb3) HF.out (by omega)
    · rw [if_neg hbad] at hun hfl
      generalize B.leN d % 2 ^ wide = x at *
      have HF := Lib.hid hfl
      have HUN := Lib.hid hun
      generalize H.first s.data.toList left wide = r at *
      clear hfl hun hbad hZ
      go_enter Tryz.func144, Tryz.ntmps144
      go_wp2_with fail
      refine (HV.out _).mono ?_
      rintro e1 w1 ⟨rfl, hb⟩
      go_wp2_with fail
      refine (HFT.out _).mono ?_
      rintro e1 w2 ⟨rfl, rfl⟩
      go_wp2_with fail
      refine (HUN.out _).mono ?_
      rintro e1 w3 ⟨a, c, rfl, hnum, hlc, hcm, hb3⟩
      obtain ⟨b, off, rfl, hbl, hcell⟩ := hnum (by simp)
      have c0 := hcell 0 (by simp)
      simp only [List.getD_cons_zero, Nat.add_zero] at c0
      clear hcell hnum
      go_wp2_with fail
      go_ret3
      exact FirstPost.good (below_then hb hb3) HF.out rfl
end Go.Proofs.YtmiboibadccceaaGreat
/- The walk of hybrid.first: blocks; all of it. -/
namespace Go.Proofs.YtmiboibadccceaaGreat
open Go.RowKit
set_option linter.unusedVariables false

theorem PV.blk {W : World} {A : Option Addr} {wn c : Nat} {xs : List Nat} (h : xs.length = wn) (hn : Nums W W.heap.size A xs) : PV W (.iface 138 (.slice A wn c)) (.blk xs) := ⟨A, c, by rw [h], hn⟩

set_option maxHeartbeats 400000 in
set_option maxRecDepth 100000 in
theorem first_odd (s : ByteArray) (left wide m k : Nat) (w : World) (hs : s.size ≤ maxLen) (hl : left ≤ 64) (hw : wide ≤ 64) (hm1 : 1 ≤ m) (hl1 : 1 ≤ left) (hm2 : m ≤ H.nb left) (hk : k ≤ 9) (hks : k ≤ s.size) (hr : V.rd s.data.toList = (2 * m + 1, k, 0)) :
    Calls Tryz.prog 144 #[.string s, .int .i64 left, .int .i64 wide] w (FirstPost (H.first s.data.toList left wide) w) := by
  obtain ⟨T, hT⟩ : ∃ T, T = m * 8 := ⟨_, rfl⟩
  have hnb : H.nb left ≤ 8 := by unfold H.nb; omega
  have hheld : H.held (2 * m + 1) = T := by unfold H.held; rw [if_pos (by omega), hT]; omega
  have hfit : H.fit (2 * m + 1) left = 0 := by unfold H.fit; rw [if_neg (by omega), if_pos (show (2 * m + 1) % 2 = 1 by omega), if_neg (by omega)]
  have hfl := first_ok s.data.toList left wide _ _ hr
  unfold H.firstL at hfl
  obtain ⟨M, hM⟩ : ∃ M, M = T * wide := ⟨_, rfl⟩
  rw [if_neg (by simp [hfit]), hheld, len_data, ← hM] at hfl
  obtain ⟨Z, hZ⟩ : ∃ Z, Z = B.sz M := ⟨_, rfl⟩
  obtain ⟨E, hE⟩ : ∃ E, E = k + Z := ⟨_, rfl⟩
  rw [← hZ, ← hE] at hfl
  have hT64 : 8 ≤ T ∧ T ≤ 64 := by omega
  have hM4 : M ≤ 64 * 64 := by rw [hM]; exact Nat.mul_le_mul hT64.2 hw
  have hz8 : Z ≤ 512 := by rw [hZ]; unfold B.sz; omega
  have hsz := hs
  unfold maxLen at hsz
  have hv := fun w => vread_any s w hs
  rw [hr] at hv
  have HV := Lib.hid hv
  have hft := fun w => hfit_any (2 * m + 1) left w (by omega) hl
  rw [hfit] at hft
  have HFT := Lib.hid hft
  have hq1 : (((2 * m + 1 : Nat) : Int) / 2) = (m : Int) := by omega
  have hq2 : IntKind.i64.wrap (m : Int) = (m : Int) := by rw [IntKind.wrap_i64]; omega
  have g1 : (((2 * m + 1 : Nat) : Int) % 2 == 1) = true := by rw [beq_iff_eq]; omega
  have g2 : (((2 * m + 1 : Nat) : Int) % 2 == 0) = false := by rw [beq_eq_false_iff_ne]; omega
  have hq5 : ((m : Int) * 8) = (T : Int) := by omega
  have hq6 : ((T : Int) * (wide : Int)) = (M : Int) := by rw [hM]; simp
  have hq3 : (((M : Int) + 7) / 8) = (Z : Int) := by rw [hZ]; unfold B.sz; omega
  have hq4 : ((k : Int) + (Z : Int)) = (E : Int) := by omega
  have HKE := Lib.hid hE
  have hEb : k ≤ E ∧ E ≤ 521 := by omega
  obtain ⟨wn, hwn⟩ : ∃ wn, wn = min left T := ⟨_, rfl⟩
  have hwn1 : 1 ≤ wn ∧ wn ≤ T := by omega
  have hmn : min (left : Int) (T : Int) = (wn : Int) := by omega
  have hH : ∃ h : Nat, h = 2 * m + 1 := ⟨_, rfl⟩
  obtain ⟨h, hh⟩ := hH
  rw [← hh] at hq1 g1 g2 HV HFT
  have hheld2 : H.held h = T := by rw [hh]; exact hheld
  have hhm : h / 2 = m ∧ ¬ h % 2 = 0 := by omega
  rw [← hh] at hfl
  have HM := Lib.hid hM
  have HWN := Lib.hid hwn
  clear hv hr hft hfit hheld hE hh hM hT hwn
  by_cases hlen : s.size < E
  · have HF := Lib.hid (show (H.first s.data.toList left wide).1 = 5 by rw [hfl, if_pos hlen])
    generalize H.first s.data.toList left wide = r at *
    clear hfl hZ
    go_enter Tryz.func144, Tryz.ntmps144
    go_wp2_with fail
    refine (HV.out _).mono ?_
    rintro e1 w1 ⟨rfl, hb⟩
    go_wp2_with fail
    refine (HFT.out _).mono ?_
    rintro e1 w2 ⟨rfl, rfl⟩
    go_wp2_with fail
    go_ret3
    exact FirstPost.bad (er := 5) hb HF.out (by omega)
  · rw [if_neg hlen] at hfl
    obtain ⟨d, hd⟩ : ∃ d, d = (s.data.toList.drop k).take Z := ⟨_, rfl⟩
    have hdx : (s.extract k E).data.toList = d := by rw [ext_data, hd, show E - k = Z by have := HKE.out; omega]
    have hdl : d.length = B.sz (T * wide) := by rw [hd, List.length_take, List.length_drop, len_data, ← HM.out, ← hZ]; have := HKE.out; omega
    have hun : ∀ w, Calls Tryz.prog 100 #[.string (s.extract k E), .int .i64 T, .int .i64 wide] w (AllPostC (if B.leN d / 2 ^ M ≠ 0 then ([], 1) else (B.dg wide T (B.leN d), 0)) w) := fun w => by
      have := unpackc_any (s.extract k E) T wide w (by simp; omega)
      rw [hdx, unpR_eq d T wide (by omega) hw hdl, ← HM.out] at this
      exact this
    rw [← hd] at hfl
    unfold H.body at hfl
    rw [hheld2, if_neg hhm.2, ← HM.out, ← HWN.out] at hfl
    have hxl : ∀ x ∈ B.dg wide T (B.leN d), x < 18446744073709551616 := fun x hx => Nat.lt_of_lt_of_le (B.dg_lt wide T _ x hx) (Nat.pow_le_pow_right (n := 2) (by omega) hw)
    have hxn := B.dg_length wide T (B.leN d)
    clear hhm hheld2 hdl hdx hd
    have hEs : (E : Int) ≤ (s.size : Int) := by omega
    have hkE : (k : Int) ≤ (E : Int) := by omega
    by_cases hbad : B.leN d / 2 ^ M ≠ 0
    · rw [if_pos hbad] at hun hfl
      have HF := Lib.hid (show (H.first s.data.toList left wide).1 = 1 by rw [hfl])
      have HUN := Lib.hid hun
      generalize H.first s.data.toList left wide = r at *
      clear hfl hun hbad hxl hxn hZ
      go_enter Tryz.func144, Tryz.ntmps144
      go_wp2_with fail
      refine (HV.out _).mono ?_
      rintro e1 w1 ⟨rfl, hb⟩
      go_wp2_with fail
      refine (HFT.out _).mono ?_
      rintro e1 w2 ⟨rfl, rfl⟩
      go_wp2_with fail
      refine (HUN.out _).mono ?_
      rintro e1 w3 ⟨a, c, rfl, hnum, hlc, hcm, hb3⟩
      go_wp2_with fail
      go_ret3
      exact FirstPost.bad (er := 1) (below_then hb hb3) HF.out (by omega)
    · rw [if_neg hbad] at hun hfl
      generalize B.dg wide T (B.leN d) = xs at *
      have HUN := Lib.hid hun
      have HF := Lib.hid hfl
      have HXL := Lib.hid hxl
      have HXN := Lib.hid hxn
      generalize H.first s.data.toList left wide = r at *
      clear hfl hun hbad hxl hxn hZ
      go_enter Tryz.func144, Tryz.ntmps144
      go_wp2_with fail
      refine (HV.out _).mono ?_
      rintro e1 w1 ⟨rfl, hb⟩
      go_wp2_with fail
      refine (HFT.out _).mono ?_
      rintro e1 w2 ⟨rfl, rfl⟩
      go_wp2_with fail
      refine (HUN.out _).mono ?_
      rintro e1 w3 ⟨a, c, rfl, hnum, hlc, hcm, hb3⟩
      have hxn := HXN.out
      obtain ⟨b, off, rfl, hbl, hcell⟩ := hnum (fun e => by have e : xs = [] := e; rw [e] at hxn; simp at hxn; omega)
      have HNUM := Lib.hid hnum
      have hwd := fun A c' (hA : Nums w3 w3.heap.size A (xs.drop wn)) => width_any A c' (xs.drop wn) w3 w3.heap.size (by rw [List.length_drop]; unfold maxLen; omega) (fun x hx => HXL.out x (List.mem_of_mem_drop hx)) hA
      rw [List.length_drop, hxn] at hwd
      have hwd64 := B.wd_64 (xs.drop wn) (fun x hx => HXL.out x (List.mem_of_mem_drop hx))
      have HCUT := Lib.hid (Nums.cutIf (k := wn) (c := c) hnum hlc)
      have HDR := Lib.hid (Nums.drop hnum wn)
      have HTL := Lib.hid (show (xs.take wn).length = wn by rw [List.length_take]; omega)
      simp only [hxn] at hlc ⊢
      generalize B.wd (xs.drop wn) = dd at *
      have HWD := Lib.hid hwd
      unfold maxLen at hcm
      have hwT : (wn : Int) ≤ (T : Int) := by omega
      have hwc : (wn : Int) ≤ (c : Int) := by omega
      clear hwd hnum hcell hxn
      by_cases hz : dd = 0
      · subst hz
        go_wp2_with fail
        all_goals
          refine (HWD.out _ _ (by first | exact HDR.out | (have hh := HCUT.out; rw [if_pos (by assumption)] at hh; exact hh))).mono ?_
          rintro e1 w4 ⟨rfl, rfl⟩
          go_wp2_with fail
          go_ret3
          refine FirstPost.good (below_then hb hb3) (HF.out.trans (if_neg (by simp))) ?_
          exact PV.blk HTL.out (HNUM.out.take wn)
      · have g3 : ((dd : Int) != 0) = true := by rw [bne_iff_ne]; omega
        go_wp2_with fail
        all_goals
          refine (HWD.out _ _ (by first | exact HDR.out | (have hh := HCUT.out; rw [if_pos (by assumption)] at hh; exact hh))).mono ?_
          rintro e1 w4 ⟨rfl, rfl⟩
          go_wp2_with fail
          go_ret3
          exact FirstPost.bad (er := 1) (below_then hb hb3) (by rw [HF.out, if_pos hz]) (by omega)

theorem hfirst_any (s : ByteArray) (left wide : Nat) (w : World) (hs : s.size ≤ maxLen) (hl1 : 1 ≤ left) (hl : left ≤ 64) (hw : wide ≤ 64) :
    Calls Tryz.prog 144 #[.string s, .int .i64 left, .int .i64 wide] w (FirstPost (H.first s.data.toList left wide) w) := by
  rcases V.rd_bad s.data.toList with h0 | h5 | h1
  · obtain ⟨h, k, hr⟩ : ∃ h k, V.rd s.data.toList = (h, k, 0) := ⟨_, _, by rw [← h0]⟩
    obtain ⟨k1, k2, _, k4, k5, _⟩ := V.rd_ok _ _ _ hr
    rw [len_data] at k2
    by_cases hf : H.fit h left = 0
    · unfold H.fit at hf
      by_cases hm : h / 2 = 0
      · rw [if_pos hm] at hf; omega
      rw [if_neg hm] at hf
      by_cases hp : h % 2 = 1
      · rw [if_pos hp] at hf
        by_cases hq : H.nb left < h / 2
        · rw [if_pos hq] at hf; omega
        · obtain ⟨m, rfl⟩ : ∃ m, h = 2 * m + 1 := ⟨h / 2, by omega⟩
          exact first_odd s left wide m k w hs hl hw (by omega) hl1 (by omega) k5 k2 hr
      · rw [if_neg hp] at hf
        by_cases hq : left < h / 2
        · rw [if_pos hq] at hf; omega
        · obtain ⟨m, rfl⟩ : ∃ m, h = 2 * m := ⟨h / 2, by omega⟩
          exact first_even s left wide m k w hs hl hw (by omega) (by omega) k5 k2 hr
    · exact first_fit s left wide h k _ w hs hl k4 hr rfl hf
  · exact first_rd s left wide 5 w hs (by omega) h5
  · exact first_rd s left wide 1 w hs (by omega) h1
end Go.Proofs.YtmiboibadccceaaGreat
/- The walk of hybrid.Read. -/
namespace Go.Proofs.YtmiboibadccceaaGreat
open Go.RowKit
set_option linter.unusedVariables false

def hreadR (s : List UInt8) (many wide : Int) : List Nat × Nat :=
  if wide < 0 ∨ 64 < wide ∨ many < 0 then ([], 3) else if 64 < many then ([], 2) else H.read s many.toNat wide.toNat

theorem first_end (s : List UInt8) (left w : Nat) (h : (H.first s left w).1 = 0) : (H.first s left w).2.2 ≤ s.length := by
  unfold H.first at h ⊢
  by_cases h1 : (V.rd s).2.2 = 0
  · rw [if_neg (by simp [h1])] at h ⊢
    unfold H.firstL at h ⊢
    by_cases h2 : H.fit (V.rd s).1 left = 0
    · rw [if_neg (by simp [h2])] at h ⊢
      by_cases h3 : s.length < (V.rd s).2.1 + B.sz (H.held (V.rd s).1 * w)
      · rw [if_pos h3] at h; simp at h
      · rw [if_neg h3] at h ⊢
        unfold H.body at h ⊢
        split
        · simp
        · split
          · simp only; omega
          · split
            · simp
            · simp only; omega
    · rw [if_pos h2] at h; exact absurd h h2
  · rw [if_pos h1] at h; exact absurd h h1

set_option maxHeartbeats 400000 in
theorem hread_range (s : ByteArray) (many wide : Int) (w : World) (h : wide < 0 ∨ 64 < wide ∨ many < 0) :
    Calls Tryz.prog 101 #[.string s, .int .i64 many, .int .i64 wide] w (AllPostC ([], 3) w) := by
  by_cases h0 : wide < 0
  · have g1 : decide (wide < 0) = true := by simp; omega
    go_enter Tryz.func101, Tryz.ntmps101
    go_wp2_with fail
    go_ret2
    exact ⟨none, 0, rfl, Nums.nil _ _ _, Nat.le_refl _, by unfold maxLen; omega, Below.refl _ _⟩
  · have g1 : decide (wide < 0) = false := by simp; omega
    by_cases h1 : 64 < wide
    · have g2 : decide (64 < wide) = true := by simp; omega
      go_enter Tryz.func101, Tryz.ntmps101
      go_wp2_with fail
      go_ret2
      exact ⟨none, 0, rfl, Nums.nil _ _ _, Nat.le_refl _, by unfold maxLen; omega, Below.refl _ _⟩
    · have g2 : decide (64 < wide) = false := by simp; omega
      have g3 : decide (many < 0) = true := by simp; omega
      go_enter Tryz.func101, Tryz.ntmps101
      go_wp2_with fail
      go_ret2
      exact ⟨none, 0, rfl, Nums.nil _ _ _, Nat.le_refl _, by unfold maxLen; omega, Below.refl _ _⟩

set_option maxHeartbeats 400000 in
theorem hread_many (s : ByteArray) (many : Int) (wide : Nat) (w : World) (h : wide ≤ 64) (hm : 64 < many) :
    Calls Tryz.prog 101 #[.string s, .int .i64 many, .int .i64 wide] w (AllPostC ([], 2) w) := by
  have g1 : decide ((wide : Int) < 0) = false := by simp
  have g2 : decide ((64 : Int) < (wide : Int)) = false := by simp; omega
  have g3 : decide (many < 0) = false := by simp; omega
  have g4 : decide (64 < many) = true := by simp; omega
  go_enter Tryz.func101, Tryz.ntmps101
  go_wp2_with fail
  go_ret2
  exact ⟨none, 0, rfl, Nums.nil _ _ _, Nat.le_refl _, by unfold maxLen; omega, Below.refl _ _⟩

set_option maxHeartbeats 4000000 in
set_option maxRecDepth 100000 in
theorem hread_in (s : ByteArray) (many wide : Nat) (w : World) (hs : s.size ≤ maxLen) (hw : wide ≤ 64) (hm : many ≤ 64) :
    Calls Tryz.prog 101 #[.string s, .int .i64 many, .int .i64 wide] w (AllPostC (H.read s.data.toList many wide) w) := by
  obtain ⟨i0, hi, hz0, hz1, hz2⟩ := info_parts info_u64
  have hmt1 : ∀ (k : Nat) (n m : Int) (w : World), (method (k + 1) 137 (.agg #[.int .u64 n, .int .i64 m]) "hypostyle/hybrid.numbers").run Tryz.prog w = .ok (202, .agg #[.int .u64 n, .int .i64 m]) w := fun _ _ _ _ => by kernel_rfl
  have hmt2 : ∀ (k : Nat) (a : Option Addr) (n c : Nat) (w : World), (method (k + 1) 138 (.slice a n c) "hypostyle/hybrid.numbers").run Tryz.prog w = .ok (209, .slice a n c) w := fun _ _ _ _ _ => by kernel_rfl
  have g1 : decide ((wide : Int) < 0) = false := by simp
  have g2 : decide ((64 : Int) < (wide : Int)) = false := by simp; omega
  have g3 : decide ((many : Int) < 0) = false := by simp
  obtain ⟨R, hR⟩ : ∃ R, R = H.read s.data.toList many wide := ⟨_, rfl⟩
  have HR := Lib.hid hR
  rw [← hR]
  have hmax := hs
  unfold maxLen at hmax
  clear hR
  go_enter Tryz.func101, Tryz.ntmps101
  go_wp2_with (at_make; refine wpList_make_own _ rfl _ _ 22 rfl w.heap.size 46 i0 (.int .u64 0) 1 Tryz.underlying22 hi hz0 hz1 .i64 .i64 _ many rfl rfl rfl (by rw [hz2]; omega) (by unfold maxLen; omega) (Nat.le_refl _) ?_; intro w0 hown0 hgrow0)
  have hb0 : Below w.heap.size w w0 := (Below.refl _ _).grown hgrow0 (Nat.le_refl _) (fun k hk => by cases hk)
  have hrow0 : NumRow w.heap.size [] (.slice (some ⟨w.heap.size, 0, none⟩) 0 many) w0 := hown0
  clear hown0 hgrow0
  go_loopw [0, 8, 9, 10, 11, 30] (fun s' v _ _ _ _ wr => ∃ (t : ByteArray) (xs : List Nat), s' = .string t ∧ t.size ≤ s.size ∧ xs.length ≤ many ∧ NumRow w.heap.size xs v wr ∧ Hid (R = H.pre xs (H.read t.data.toList (many - xs.length) wide)) ∧ Below w.heap.size w wr) (fun _ v _ _ _ _ _ => many - lenS v)
  case atStart => exact ⟨s, [], rfl, Nat.le_refl _, by simp, hrow0, Lib.hid (by rw [H.pre_nil _ (H.read_err _ _ _)]; exact HR.out), hb0⟩
  case round =>
    obtain ⟨t, xs, rfl, hts, hxm, hrow, HK, hbw⟩ := hrel
    obtain ⟨a, c, rfl, hnum, hlc, hcm⟩ := numRow_numsc hrow
    by_cases hlt : xs.length < many
    · have hsub : ((many : Int) - (xs.length : Int)) = ((many - xs.length : Nat) : Int) := by omega
      have hfst := fun w => hfirst_any t (many - xs.length) wide w (by omega) (by omega) (by omega) hw
      have hgr := H.first_grows t.data.toList (many - xs.length) wide (by omega)
      have hen := first_end t.data.toList (many - xs.length) wide
      have hst := H.read_step t.data.toList (many - xs.length) wide (by omega)
      have hbd := H.read_bad t.data.toList (many - xs.length) wide (by omega)
      rw [len_data] at hen
      generalize H.first t.data.toList (many - xs.length) wide = r at *
      obtain ⟨er, p, en⟩ := r
      simp only at hgr hen hst hbd
      have HFST := Lib.hid hfst
      have HST := Lib.hid hst
      have HBD := Lib.hid hbd
      clear hfst hst hbd
      go_wp2_with fail
      refine (HFST.out _).mono ?_
      rintro e1 w1 ⟨hb1, hpost⟩
      simp only at hpost
      by_cases he : er = 0
      · rw [if_pos he] at hpost
        obtain ⟨v, rfl, hpv⟩ := hpost
        subst he
        obtain ⟨hy1, hy2⟩ := hgr rfl
        have hen' := hen rfl
        have HN := Lib.hid (show R = H.pre (xs ++ p.nums) (H.read (t.data.toList.drop en) (many - (xs ++ p.nums).length) wide) by
          rw [HK.out, HST.out rfl, H.pre_pre, List.length_append, Nat.sub_sub])
        have hrow1 : NumRow w.heap.size xs (.slice a xs.length c) w1 := row_below hrow hb1
        have henI : (en : Int) ≤ (t.size : Int) := by omega
        have hbw1 := below_then hbw hb1
        have hsz1 := hbw1.size
        clear hgr hen hrow hnum
        cases p with
        | run n m =>
          obtain rfl : v = _ := hpv
          simp only [H.Part.nums, List.length_replicate] at hy1 hy2 HN
          have HNM := Lib.hid (fun W => rnums_any n m W hy1 (by omega))
          have HX3 := Lib.hid (fun (v' : Value) (w3 : World) (h : w3.ownsRow w.heap.size 46 1 v' (xs.length + m) (nv xs ++ nv (List.replicate m n))) => show NumRow w.heap.size (xs ++ List.replicate m n) v' w3 by
            unfold NumRow; rw [List.length_append, List.length_replicate]; simpa [nv] using h)
          generalize hys : List.replicate m n = ys at *
          have hyl : ys.length = m := by rw [← hys, List.length_replicate]
          clear hys
          go_wp2_with fail
          refine (HNM.out _).mono ?_
          rintro e2 w2 ⟨A, c2, rfl, hn2, hb2⟩
          rw [hyl]
          have hA : A ≠ none := fun e => by
            obtain ⟨b, off, e', _⟩ := hn2 (fun e => by rw [e] at hyl; simp at hyl; omega)
            rw [e] at e'; cases e'
          have hrow2 := row_below hrow1 hb2
          have hbw2 := below_then hbw1 hb2
          have hsz2 := hbw2.size
          have hrow2' : w2.ownsRow w.heap.size 46 1 (.slice a xs.length c) xs.length (nv xs) := hrow2
          go_wp2_with (at_builtin; refine wpList_append_nums rfl (.tmp 44) (.tmp 46) rfl w.heap.size _ xs.length (nv xs) rfl hrow2' A m c2 ys hyl rfl (fun h => absurd h hA) hn2 (by omega) hsz2 ?_; intro v' w3 hown3 hgrow3)
          have hb3 : Below w.heap.size w w3 := hbw2.grown hgrow3 hsz2 (fun k hk => (hrow2'.lt k hk).1)
          have hrow3 := HX3.out v' w3 hown3
          go_wp2_with fail
          refine ⟨⟨t.extract en t.size, xs ++ ys, rfl, by simp; omega, by rw [List.length_append]; omega, hrow3, Lib.hid ?_, hb3⟩, ?_⟩
          · rw [HN.out, cut_data]
          · obtain ⟨a3, c3, e3, _⟩ := numRow_nums hrow3
            rw [e3]; simp [lenS]; omega
        | blk ys =>
          obtain ⟨A, c2, rfl, hn1⟩ := hpv
          simp only [H.Part.nums] at hy1 hy2 HN
          have hA : A ≠ none := fun e => by
            obtain ⟨b, off, e', _⟩ := hn1 (fun e => by rw [e] at hy1; simp at hy1)
            rw [e] at e'; cases e'
          have HX3 := Lib.hid (fun (v' : Value) (w3 : World) (h : w3.ownsRow w.heap.size 46 1 v' (xs.length + ys.length) (nv xs ++ nv ys)) => show NumRow w.heap.size (xs ++ ys) v' w3 by
            unfold NumRow; rw [List.length_append]; simpa [nv] using h)
          have hrow2' : w1.ownsRow w.heap.size 46 1 (.slice a xs.length c) xs.length (nv xs) := hrow1
          go_wp2_with fail
          refine (bnums_any _ _).mono ?_
          rintro e2 w2 ⟨rfl, rfl⟩
          go_wp2_with (at_builtin; refine wpList_append_nums rfl (.tmp 44) (.tmp 46) rfl w.heap.size _ xs.length (nv xs) rfl hrow2' A ys.length c2 ys rfl rfl (fun h => absurd h hA) hn1 (by omega) hsz1 ?_; intro v' w3 hown3 hgrow3)
          have hb3 : Below w.heap.size w w3 := hbw1.grown hgrow3 hsz1 (fun k hk => (hrow2'.lt k hk).1)
          have hrow3 := HX3.out v' w3 hown3
          go_wp2_with fail
          refine ⟨⟨t.extract en t.size, xs ++ ys, rfl, by simp; omega, by rw [List.length_append]; omega, hrow3, Lib.hid ?_, hb3⟩, ?_⟩
          · rw [HN.out, cut_data]
          · obtain ⟨a3, c3, e3, _⟩ := numRow_nums hrow3
            rw [e3]; simp [lenS]; omega
      · rw [if_neg he] at hpost
        subst hpost
        have g5 : ((er : Int) != 0) = true := by rw [bne_iff_ne]; omega
        have HE := Lib.hid (show R = ([], er) by rw [HK.out, HBD.out he]; unfold H.pre; simp [he])
        go_wp2_with fail
        go_ret2
        rw [HE.out]
        exact ⟨none, 0, rfl, Nums.nil _ _ _, Nat.le_refl _, by unfold maxLen; omega, below_then hbw hb1⟩
    · obtain rfl : many = xs.length := by omega
      have hz : xs.length - xs.length = 0 := Nat.sub_self _
      have HK2 := Lib.hid (show R = H.pre xs ([], if t.data.toList = [] then 0 else 1) by rw [HK.out, hz, H.read_zero])
      by_cases ht : t.size = 0
      · have HE := Lib.hid (show R = (xs, 0) by rw [HK2.out, if_pos (data_empty t ht)]; simp [H.pre])
        have g5 := empty_true t ht
        go_wp2_with fail
        go_ret2
        rw [HE.out]
        exact ⟨_, _, rfl, hnum, hlc, hcm, hbw⟩
      · have HE := Lib.hid (show R = ([], 1) by rw [HK2.out, if_neg (data_ne t ht)]; simp [H.pre])
        have g5 := empty_false t ht
        go_wp2_with fail
        go_ret2
        rw [HE.out]
        exact ⟨none, 0, rfl, Nums.nil _ _ _, Nat.le_refl _, by unfold maxLen; omega, hbw⟩

theorem hread_any (s : ByteArray) (many wide : Int) (w : World) (hs : s.size ≤ maxLen) :
    Calls Tryz.prog 101 #[.string s, .int .i64 many, .int .i64 wide] w (AllPostC (hreadR s.data.toList many wide) w) := by
  unfold hreadR
  by_cases h0 : wide < 0 ∨ 64 < wide ∨ many < 0
  · rw [if_pos h0]; exact hread_range s many wide w h0
  rw [if_neg h0]
  obtain ⟨n, rfl⟩ : ∃ n : Nat, wide = n := ⟨wide.toNat, by omega⟩
  by_cases h1 : 64 < many
  · rw [if_pos h1]; exact hread_many s many n w (by omega) h1
  obtain ⟨m, rfl⟩ : ∃ m : Nat, many = m := ⟨many.toNat, by omega⟩
  rw [if_neg h1, Int.toNat_natCast, Int.toNat_natCast]
  exact hread_in s m n w hs (by omega) (by omega)
end Go.Proofs.YtmiboibadccceaaGreat
/- The walks of the reference: textBit. -/
namespace Go.Proofs.YtmiboibadccceaaGreat
open Go.RowKit
set_option linter.unusedVariables false

set_option maxHeartbeats 400000 in
theorem textBit_any (s : ByteArray) (p : Nat) (w : World) (hp : p / 8 < s.size) (hp2 : p ≤ 1048576) :
    Calls Tryz.prog 108 #[.string s, .int .i64 p] w fun e w' => e = .returned (.int .u64 ((B.leN s.data.toList / 2 ^ p % 2 : Nat) : Int)) ∧ w = w' := by
  have hb := B.leN_bit s.data.toList p (by rw [len_data]; exact hp)
  have hx : s[p / 8].toNat < 256 := s[p / 8].toNat_lt
  have hbe : (s.data.toList[p / 8]'(by rw [len_data]; exact hp)).toNat = s[p / 8].toNat := rfl
  rw [hbe] at hb
  generalize hres : B.leN s.data.toList / 2 ^ p % 2 = res at *
  have HB := Lib.hid hb
  have hr : p % 8 < 8 := by omega
  clear hb hbe hres
  go_enter Tryz.func108, Tryz.ntmps108
  go_wp2_with fail
  go_loop [5, 6] (fun v i => ∃ j : Nat, j ≤ p % 8 ∧ i = .int .i64 j ∧ v = .int .i64 ((s[p / 8].toNat / 2 ^ j : Nat) : Int)) (fun _ i => p % 8 - (intOf i).toNat)
  case atStart => exact ⟨0, by omega, rfl, by simp⟩
  case round =>
    obtain ⟨j, hj, rfl, rfl⟩ := hrel
    have hle : s[p / 8].toNat / 2 ^ j ≤ s[p / 8].toNat := Nat.div_le_self _ _
    by_cases hlt : j < p % 8
    · have HD := Lib.hid (show s[p / 8].toNat / 2 ^ (j + 1) = s[p / 8].toNat / 2 ^ j / 2 by rw [Nat.pow_succ, Nat.div_div_eq_div_mul])
      generalize s[p / 8].toNat / 2 ^ j = y at *
      go_wp2_with fail
      exact ⟨⟨j + 1, by omega, by go_num, by rw [HD.out]; simp⟩, by simp [intOf]; omega⟩
    · obtain rfl : j = p % 8 := by omega
      generalize s[p / 8].toNat / 2 ^ (p % 8) = y at *
      have hw : IntKind.u64.wrap ((y : Int) % 2) = (y : Int) % 2 := by rw [IntKind.wrap_u64]; omega
      go_wp2_with fail
      go_ret
      refine ⟨?_, rfl⟩
      show Ending.returned (Value.int .u64 _) = _
      congr 2
      rw [← HB.out]; simp

theorem bits_step2 (X f n t : Nat) (ht : t < n) : X / 2 ^ (f + n - (t + 1)) % 2 ^ (t + 1) = X / 2 ^ (f + n - t) % 2 ^ t * 2 + X / 2 ^ (f + (n - 1 - t)) % 2 := by
  have e1 : f + n - (t + 1) = f + (n - 1 - t) := by omega
  have e2 : f + n - t = f + (n - 1 - t) + 1 := by omega
  rw [e1, e2, show 2 ^ (f + (n - 1 - t) + 1) = 2 ^ (f + (n - 1 - t)) * 2 from Nat.pow_succ 2 _, ← Nat.div_div_eq_div_mul]
  generalize X / 2 ^ (f + (n - 1 - t)) = Y
  rw [Nat.pow_succ, Nat.mul_comm (2 ^ t), Nat.mod_mul]; omega

theorem bit_one (T M p : Nat) (hp : M ≤ p) (h : T / 2 ^ p % 2 = 1) : T / 2 ^ M ≠ 0 := by
  intro e
  have : T / 2 ^ p = T / 2 ^ M / 2 ^ (p - M) := by rw [Nat.div_div_eq_div_mul, ← Nat.pow_add]; congr 2; omega
  rw [this, e] at h; simp at h
theorem low_step (T M p : Nat) (hp : M ≤ p) (h : T / 2 ^ M % 2 ^ (p - M) = 0) (hb : T / 2 ^ p % 2 = 0) : T / 2 ^ M % 2 ^ (p + 1 - M) = 0 := by
  have e : p + 1 - M = (p - M) + 1 := by omega
  have : T / 2 ^ p = T / 2 ^ M / 2 ^ (p - M) := by rw [Nat.div_div_eq_div_mul, ← Nat.pow_add]; congr 2; omega
  rw [this] at hb
  rw [e, mod_snoc, h, hb]; simp
end Go.Proofs.YtmiboibadccceaaGreat
/- The walk of hypostyleref.bitsAt. -/
namespace Go.Proofs.YtmiboibadccceaaGreat
open Go.RowKit
set_option linter.unusedVariables false

set_option maxHeartbeats 1000000 in
theorem bitsAt_any (s : ByteArray) (f n : Nat) (w : World) (hn : n ≤ 64) (hf : f + n ≤ 8 * s.size) (hb : f + n ≤ 1048576) :
    Calls Tryz.prog 109 #[.string s, .int .i64 f, .int .i64 n] w fun e w' => e = .returned (.int .u64 ((B.leN s.data.toList / 2 ^ f % 2 ^ n : Nat) : Int)) ∧ w = w' := by
  have HTB := Lib.hid (fun p h1 h2 => textBit_any s p w h1 h2)
  generalize B.leN s.data.toList = X at *
  go_enter Tryz.func109, Tryz.ntmps109
  go_wp2_with fail
  go_loop [7, 8] (fun v k => ∃ t : Nat, t ≤ n ∧ k = .int .i64 ((n : Int) - 1 - (t : Int)) ∧ v = .int .u64 ((X / 2 ^ (f + n - t) % 2 ^ t : Nat) : Int)) (fun _ k => (intOf k + 1).toNat)
  case atStart => exact ⟨0, by omega, by simp, by simp [Nat.mod_one]⟩
  case round =>
    obtain ⟨t, ht, rfl, rfl⟩ := hrel
    by_cases hlt : t < n
    · have hst := bits_step2 X f n t hlt
      have hv : X / 2 ^ (f + n - t) % 2 ^ t < 2 ^ 63 := Nat.lt_of_lt_of_le (Nat.mod_lt _ (B.pos2 t)) (Nat.pow_le_pow_right (by omega) (by omega))
      have htb := HTB.out (f + (n - 1 - t)) (by omega) (by omega)
      have hb2 : X / 2 ^ (f + (n - 1 - t)) % 2 < 2 := by omega
      generalize X / 2 ^ (f + n - t) % 2 ^ t = v at *
      generalize X / 2 ^ (f + (n - 1 - t)) % 2 = bt at *
      have hki : ((f : Int) + ((n : Int) - 1 - (t : Int))) = ((f + (n - 1 - t) : Nat) : Int) := by omega
      have hwi : IntKind.i64.wrap ((f : Int) + ((n : Int) - 1 - (t : Int))) = ((f + (n - 1 - t) : Nat) : Int) := by rw [hki, IntKind.wrap_i64]; omega
      generalize f + (n - 1 - t) = p at *
      have g1 : decide ((0 : Int) ≤ (n : Int) - 1 - (t : Int)) = true := by simp; omega
      have hw1 : IntKind.u64.wrap ((v : Int) * 2) = (v : Int) * 2 := by rw [IntKind.wrap_u64]; omega
      have hw2 : IntKind.u64.wrap ((v : Int) * 2 + (bt : Int)) = (v : Int) * 2 + (bt : Int) := by rw [IntKind.wrap_u64]; omega
      have HST := Lib.hid hst
      have HT := Lib.hid htb
      clear hst htb
      go_wp2_with fail
      refine (HT.out).mono ?_
      rintro e w1 ⟨rfl, rfl⟩
      go_wp2_with fail
      refine ⟨⟨t + 1, by omega, by congr 1; omega, ?_⟩, by simp [intOf]; omega⟩
      rw [HST.out]; congr 1
    · obtain rfl : t = n := by omega
      have g1 : decide ((0 : Int) ≤ (t : Int) - 1 - (t : Int)) = false := by simp; omega
      rw [Nat.add_sub_cancel]
      go_wp2_with fail
      go_ret
      exact ⟨rfl, rfl⟩
end Go.Proofs.YtmiboibadccceaaGreat
/- Facts for the walk of hypostyleref.HybridOf. -/
namespace Go.Proofs.YtmiboibadccceaaGreat
open Go.RowKit
set_option linter.unusedVariables false

theorem vof_all (s : ByteArray) (w : World) (hs : s.size ≤ maxLen) : Calls Tryz.prog 106 #[.string s] w (ReadPost (V.rd s.data.toList) w) := by
  by_cases h : s.size = 0
  · rw [data_empty s h]; exact vof_empty s w h
  · exact vof_any s w hs (by omega)

theorem bit_take (l : List UInt8) (Z p : Nat) (hz : Z ≤ l.length) (hp : p < 8 * Z) : B.leN l / 2 ^ p % 2 = B.leN (l.take Z) / 2 ^ p % 2 := by
  have h1 := B.leN_bit l p (by omega)
  have h2 := B.leN_bit (l.take Z) p (by rw [List.length_take]; omega)
  rw [← h1, ← h2]
  simp [List.getElem_take]
theorem leN_append (a b : List UInt8) : B.leN (a ++ b) = B.leN a + 256 ^ a.length * B.leN b := by
  induction a with
  | nil => simp [B.leN]
  | cons x a ih => simp only [List.cons_append, B.leN, ih, List.length_cons, Nat.pow_succ]; rw [Nat.mul_add, Nat.add_assoc]; congr 2; rw [← Nat.mul_assoc, Nat.mul_comm 256]
theorem bits_take (l : List UInt8) (Z f n : Nat) (hz : Z ≤ l.length) (hp : f + n ≤ 8 * Z) : B.leN l / 2 ^ f % 2 ^ n = B.leN (l.take Z) / 2 ^ f % 2 ^ n := by
  have e : B.leN l = B.leN (l.take Z) + 2 ^ (8 * Z) * B.leN (l.drop Z) := by
    have := leN_append (l.take Z) (l.drop Z)
    rw [List.take_append_drop, List.length_take, Nat.min_eq_left hz, B.two8] at this
    exact this
  rw [e, show 8 * Z = f + (n + (8 * Z - f - n)) by omega, Nat.pow_add, Nat.mul_assoc, Nat.add_mul_div_left _ _ (B.pos2 f), Nat.pow_add, Nat.mul_assoc, Nat.add_mul_mod_self_left]
theorem top_take (l : List UInt8) (Z M : Nat) (hl : l.length = Z) (hM : M ≤ 8 * Z) (h : B.leN l / 2 ^ M % 2 ^ (8 * Z - M) = 0) : B.leN l / 2 ^ M = 0 := by
  subst hl
  rw [top_bits l M hM] at h; exact h

theorem wd_ne (l : List Nat) (i : Nat) (hi : i < l.length) (h : l.getD i 0 ≠ 0) : B.wd l ≠ 0 := by
  intro e
  have := (B.wd_le l 0).1 (by omega) _ (getD_mem l i hi)
  omega
theorem wd_eq (l : List Nat) (h : ∀ i, i < l.length → l.getD i 0 = 0) : B.wd l = 0 := by
  have := (B.wd_le l 0).2 (fun x hx => by
    obtain ⟨i, hi, rfl⟩ := List.getElem_of_mem hx
    have := h i hi
    simp only [List.getD, List.getElem?_eq_getElem hi, Option.getD_some] at this
    rw [this]; simp)
  omega

theorem pre_bad (xs : List Nat) (e : Nat) (he : e ≠ 0) : H.pre xs ([], e) = ([], e) := by unfold H.pre; simp [he]

/-- what reading one part more says -/
theorem read_er (R : List Nat × Nat) (xs : List Nat) (D : List UInt8) (left wide e : Nat) (hl : 1 ≤ left) (hR : R = H.pre xs (H.read D left wide)) (h : (H.first D left wide).1 = e) (he : e ≠ 0) : R = ([], e) := by
  rw [hR, H.read_bad D left wide hl (by omega), h, pre_bad xs e he]
theorem read_go (R : List Nat × Nat) (xs : List Nat) (D : List UInt8) (left wide en : Nat) (p : H.Part) (hl : 1 ≤ left) (hR : R = H.pre xs (H.read D left wide)) (h : H.first D left wide = (0, p, en)) :
    R = H.pre (xs ++ p.nums) (H.read (D.drop en) (left - p.nums.length) wide) := by
  rw [hR, H.read_step D left wide hl (by rw [h]), h, H.pre_pre]
end Go.Proofs.YtmiboibadccceaaGreat
/- The walk of hypostyleref.HybridOf. -/
namespace Go.Proofs.YtmiboibadccceaaGreat
open Go.RowKit
set_option linter.unusedVariables false

set_option maxHeartbeats 8000000 in
set_option maxRecDepth 100000 in
theorem hof_in (s : ByteArray) (many wide : Nat) (w : World) (hs : s.size ≤ maxLen) (hw : wide ≤ 64) (hm : many ≤ 64) :
    Calls Tryz.prog 61 #[.string s, .int .i64 many, .int .i64 wide] w (AllPost (H.read s.data.toList many wide) w) := by
  obtain ⟨i0, hi, hz0, hz1, hz2⟩ := info_parts info_u64
  have g1 : decide ((wide : Int) < 0) = false := by simp
  have g2 : decide ((64 : Int) < (wide : Int)) = false := by simp; omega
  have g3 : decide ((many : Int) < 0) = false := by simp
  obtain ⟨R, hR⟩ : ∃ R, R = H.read s.data.toList many wide := ⟨_, rfl⟩
  have HR := Lib.hid hR
  rw [← hR]
  have hmax := hs
  unfold maxLen at hmax
  clear hR
  go_enter Tryz.func61, Tryz.ntmps61
  go_wp2_with fail
  go_loopw [0, 8, 9, 10, 11, 12, 13, 14, 15, 16, 17, 18] (fun s' v _ _ _ _ _ _ _ _ _ _ wr => ∃ (t : ByteArray) (xs : List Nat), s' = .string t ∧ t.size ≤ s.size ∧ xs.length ≤ many ∧ NumRow w.heap.size xs v wr ∧ Hid (R = H.pre xs (H.read t.data.toList (many - xs.length) wide)) ∧ Below w.heap.size w wr) (fun _ v _ _ _ _ _ _ _ _ _ _ _ => many - lenS v)
  case atStart => exact ⟨s, [], rfl, Nat.le_refl _, by simp, ⟨rfl, Or.inl ⟨rfl, rfl⟩⟩, Lib.hid (by rw [H.pre_nil _ (H.read_err _ _ _)]; exact HR.out), Below.refl _ _⟩
  case round =>
    obtain ⟨t, xs, rfl, hts, hxm, hrow, HK, hbw⟩ := hrel
    obtain ⟨a, c, rfl, hnum, hlc, hcm⟩ := numRow_numsc hrow
    by_cases hlt : xs.length < many
    · obtain ⟨left, hleft⟩ : ∃ left, left = many - xs.length := ⟨_, rfl⟩
      have hsub : ((many : Int) - (xs.length : Int)) = (left : Int) := by omega
      have hl1 : 1 ≤ left ∧ left ≤ 64 := by omega
      have hlm : xs.length + left = many := by omega
      rw [← hleft] at HK
      clear hleft
      have hvo := fun w => vof_all t w (by omega)
      have HRE := Lib.hid (fun e h he => read_er R xs t.data.toList left wide e hl1.1 HK.out h he)
      have HRG := Lib.hid (fun en p h => read_go R xs t.data.toList left wide en p hl1.1 HK.out h)
      by_cases hrd : (V.rd t.data.toList).2.2 = 0
      · obtain ⟨h, k, hr⟩ : ∃ h k, V.rd t.data.toList = (h, k, 0) := ⟨_, _, by rw [← hrd]⟩
        obtain ⟨k1, k2, _, k4, k5, _⟩ := V.rd_ok _ _ _ hr
        rw [len_data] at k2
        rw [hr] at hvo
        have hfo := first_ok t.data.toList left wide h k hr
        unfold H.firstL at hfo
        rw [len_data] at hfo
        obtain ⟨t', ht'⟩ : ∃ t', t' = t.extract k t.size := ⟨_, rfl⟩
        have htd : t'.data.toList = t.data.toList.drop k := by rw [ht', cut_data]
        have hts' : t'.size = t.size - k := by rw [ht']; simp
        have hkt : (k : Int) ≤ (t.size : Int) := by omega
        have HVO := Lib.hid hvo
        have HTD := Lib.hid htd
        have HT' := Lib.hid ht'
        obtain ⟨NB, hNB⟩ : ∃ NB, NB = H.nb left := ⟨_, rfl⟩
        have hNB8 : NB ≤ 8 := by rw [hNB]; unfold H.nb; omega
        have hq7 : (((left : Int) + 7) / 8) = (NB : Int) := by rw [hNB]; unfold H.nb; omega
        have hwl : IntKind.u64.wrap (left : Int) = (left : Int) := by rw [IntKind.wrap_u64]; omega
        have hwn : IntKind.u64.wrap (NB : Int) = (NB : Int) := by rw [IntKind.wrap_u64]; omega
        have HNB := Lib.hid hNB
        clear hvo htd ht' hrd hNB
        by_cases hf : H.fit h left = 0
        · rw [if_neg (by simp [hf])] at hfo
          unfold H.fit at hf
          by_cases hm0 : h / 2 = 0
          · rw [if_pos hm0] at hf; omega
          rw [if_neg hm0] at hf
          have g4 : decide ((h : Int) < 2) = false := by simp; omega
          by_cases hp : h % 2 = 1
          · rw [if_pos hp] at hf
            by_cases hq : H.nb left < h / 2
            · rw [if_pos hq] at hf; omega
            · clear hf
              obtain ⟨m, hm2⟩ : ∃ m, m = h / 2 := ⟨_, rfl⟩
              obtain ⟨T, hT⟩ : ∃ T, T = m * 8 := ⟨_, rfl⟩
              have hmb : 1 ≤ m ∧ m ≤ NB := by rw [HNB.out]; omega
              have hTb : 8 ≤ T ∧ T ≤ 64 := by omega
              have hheld : H.held h = T := by unfold H.held; rw [if_pos hp, hT, hm2]
              have g5 : ((h : Int) % 2 == 0) = false := by rw [beq_eq_false_iff_ne]; omega
              have g6 : ((h : Int) % 2 == 1) = true := by rw [beq_iff_eq]; omega
              have g7 : decide ((NB : Int) < (h : Int) / 2) = false := by simp; omega
              have hhm : ((h : Int) / 2) = (m : Int) := by omega
              have hm8 : ((m : Int) * 8) = (T : Int) := by omega
              have hwt : IntKind.u64.wrap (T : Int) = (T : Int) := by rw [IntKind.wrap_u64]; omega
              have hwt2 : IntKind.i64.wrap (T : Int) = (T : Int) := by rw [IntKind.wrap_i64]; omega
              obtain ⟨M, hM⟩ : ∃ M, M = T * wide := ⟨_, rfl⟩
              have hM4 : M ≤ 64 * 64 := by rw [hM]; exact Nat.mul_le_mul hTb.2 hw
              obtain ⟨Z, hZ⟩ : ∃ Z, Z = B.sz M := ⟨_, rfl⟩
              have hZb : Z ≤ 512 ∧ M ≤ 8 * Z ∧ 8 * Z ≤ M + 7 := by rw [hZ]; unfold B.sz; omega
              obtain ⟨Z8, hZ8⟩ : ∃ Z8, Z8 = 8 * Z := ⟨_, rfl⟩
              rw [hheld, ← hM, ← hZ] at hfo
              have hq6 : ((T : Int) * (wide : Int)) = (M : Int) := by rw [hM]; simp
              have hq3 : (((M : Int) + 7) / 8) = (Z : Int) := by rw [hZ]; unfold B.sz; omega
              have hq8 : ((8 : Int) * (Z : Int)) = (Z8 : Int) := by omega
              have hZ8b : M ≤ Z8 ∧ Z8 ≤ M + 7 := by omega
              have HZ8 := Lib.hid hZ8
              have HM := Lib.hid hM
              have HTT := Lib.hid hT
              have HHM := Lib.hid hm2
              clear hZ hZ8 hm2 hM hT
              by_cases hsh : t'.size < Z
              · have HE := Lib.hid (HRE.out 5 (by rw [hfo, if_pos (by omega)]) (by omega))
                clear hfo hnum hrow
                go_wp2_with fail
                refine (HVO.out _).mono ?_
                rintro e w1 ⟨rfl, hb1⟩
                go_wp2_with fail
                go_ret2
                rw [HE.out]
                exact ⟨none, 0, rfl, Nums.nil _ _ _, below_then hbw hb1⟩
              · rw [if_neg (by omega)] at hfo
                obtain ⟨X, hX⟩ : ∃ X, X = B.leN ((t.data.toList.drop k).take Z) := ⟨_, rfl⟩
                unfold H.body at hfo
                rw [← hX, hheld, ← HM.out , if_neg (show ¬ h % 2 = 0 by omega)] at hfo
                have hdl : Z ≤ (t.data.toList.drop k).length := by rw [List.length_drop, len_data]; omega
                have hdt : ((t.data.toList.drop k).take Z).length = Z := by rw [List.length_take]; omega
                have HBT := Lib.hid (fun p (hp : p < Z8) w => show Calls Tryz.prog 108 #[.string t', .int .i64 p] w (fun e w' => e = .returned (.int .u64 ((X / 2 ^ p % 2 : Nat) : Int)) ∧ w = w') by
                  have := HZ8.out
                  have h1 := textBit_any t' p w (by omega) (by omega)
                  rw [HTD.out, bit_take _ Z p hdl (by omega), ← hX] at h1
                  exact h1)
                have HBA := Lib.hid (fun f (hf : f + wide ≤ Z8) w => show Calls Tryz.prog 109 #[.string t', .int .i64 f, .int .i64 wide] w (fun e w' => e = .returned (.int .u64 ((X / 2 ^ f % 2 ^ wide : Nat) : Int)) ∧ w = w') by
                  have := HZ8.out
                  have h1 := bitsAt_any t' f wide w hw (by omega) (by omega)
                  rw [HTD.out, bits_take _ Z f wide hdl (by omega), ← hX] at h1
                  exact h1)
                have HTOP := Lib.hid (show X / 2 ^ M % 2 ^ (Z8 - M) = 0 → X / 2 ^ M = 0 from fun h => by
                  rw [hX] at h ⊢; rw [HZ8.out] at h
                  exact top_take _ Z M hdt (by have := HZ8.out; omega) h)
                have HFO := Lib.hid hfo
                have HBAD := Lib.hid (show X / 2 ^ M ≠ 0 → R = ([], 1) from fun hx => HRE.out 1 (by rw [hfo, if_pos hx]) (by omega))
                have hd1 : decide (NB < m) = false := by simp; omega
                have hd2 : decide (t.size - k < Z) = false := by simp; omega
                clear hfo hX hdl hdt hheld hp hm0
                go_wp2_with fail
                refine (HVO.out _).mono ?_
                rintro e w1 ⟨rfl, hb1⟩
                have hbw1 := below_then hbw hb1
                have hrow1 : NumRow w.heap.size xs (.slice a xs.length c) w1 := row_below hrow hb1
                clear hrow hnum
                go_wp2_with fail
                rw [← HT'.out]
                simp only [hq3, hq7]
                go_loop [15] (fun i => ∃ p : Nat, M ≤ p ∧ p ≤ Z8 ∧ i = .int .i64 p ∧ Hid (X / 2 ^ M % 2 ^ (p - M) = 0)) (fun i => Z8 - (intOf i).toNat)
                case atStart => exact ⟨M, Nat.le_refl _, by omega, rfl, Lib.hid (by simp [Nat.mod_one])⟩
                case round =>
                  obtain ⟨p, hp1, hp2, rfl, HL⟩ := hrel
                  by_cases hpz : p < Z8
                  · have htb := HBT.out p hpz w1
                    have hls := low_step X M p hp1 HL.out
                    have hbo := bit_one X M p hp1
                    have hb2 : X / 2 ^ p % 2 < 2 := by omega
                    generalize X / 2 ^ p % 2 = bt at *
                    have HTBp := Lib.hid htb
                    clear htb
                    by_cases hone : bt = 1
                    · subst hone
                      have HE := Lib.hid (HBAD.out (hbo rfl))
                      clear hbo hls
                      go_wp2_with fail
                      refine (HTBp.out).mono ?_
                      rintro e w2 ⟨rfl, rfl⟩
                      go_wp2_with fail
                      go_ret2
                      rw [HE.out]
                      exact ⟨none, 0, rfl, Nums.nil _ _ _, hbw1⟩
                    · obtain rfl : bt = 0 := by omega
                      have HLS := Lib.hid (hls rfl)
                      clear hls hbo
                      go_wp2_with fail
                      refine (HTBp.out).mono ?_
                      rintro e w2 ⟨rfl, rfl⟩
                      go_wp2_with fail
                      exact ⟨⟨p + 1, by omega, by omega, by go_num, HLS⟩, by simp [intOf]; omega⟩
                  · obtain rfl : p = Z8 := by omega
                    have HX0 := Lib.hid (HTOP.out HL.out)
                    have hgo := fun hz => HRG.out _ _ (HFO.out.trans ((if_neg (by rw [HX0.out]; simp)).trans (if_neg hz)))
                    have hbad := fun hz => HRE.out 1 (by rw [HFO.out, if_neg (by rw [HX0.out]; simp), if_pos hz]) (by omega)
                    have hyl := B.dg_length wide T X
                    have hyg := fun i hi => B.dg_get wide T X i hi
                    have HBJ := Lib.hid (fun j f (hj : j < T) (hf : f = j * wide) w => show Calls Tryz.prog 109 #[.string t', .int .i64 f, .int .i64 wide] w (fun e w' => e = .returned (.int .u64 (((B.dg wide T X).getD j 0 : Nat) : Int)) ∧ w = w') by
                      have h1 := HBA.out f (by
                        have := HM.out
                        have h2 : (j + 1) * wide ≤ T * wide := Nat.mul_le_mul_right _ hj
                        rw [Nat.add_mul, Nat.one_mul] at h2; omega) w
                      rw [hyg j hj, Nat.mul_comm wide j, ← hf]; exact h1)
                    have HFB := Lib.hid (fun j (hj : j < T) => show j * wide ≤ 64 * 64 from Nat.mul_le_mul (by omega) hw)
                    clear hyg
                    generalize B.dg wide T X = ys at *
                    have HGO := Lib.hid hgo
                    have HBAD2 := Lib.hid hbad
                    clear hgo hbad
                    go_wp2_with fail
                    go_loopw [8, 17, 18] (fun v i _ wr => ∃ j : Nat, j ≤ T ∧ i = .int .i64 j ∧ NumRow w.heap.size (xs ++ ys.take (min j left)) v wr ∧ Hid (∀ q, left ≤ q → q < j → ys.getD q 0 = 0) ∧ Below w.heap.size w wr) (fun _ i _ _ => T - (intOf i).toNat)
                    case atStart => exact ⟨0, by omega, rfl, by simpa using hrow1, Lib.hid (fun q h1 h2 => by omega), hbw1⟩
                    case round =>
                      obtain ⟨j, hj, rfl, hrow2, HQ, hbw2⟩ := hrel
                      by_cases hjm : j < T
                      · obtain ⟨f, hf⟩ : ∃ f, f = j * wide := ⟨_, rfl⟩
                        have hfI : ((j : Int) * (wide : Int)) = (f : Int) := by rw [hf]; simp
                        have hfb := HFB.out j hjm
                        rw [← hf] at hfb
                        have HB2 := Lib.hid (HBJ.out j f hjm hf wr)
                        have hyj : ys.take (j + 1) = ys.take j ++ [ys.getD j 0] := by
                          rw [List.take_succ_eq_append_getElem (by omega)]; simp [List.getD, List.getElem?_eq_getElem (show j < ys.length by omega)]
                        have HYJ := Lib.hid hyj
                        obtain ⟨y, hy⟩ : ∃ y, y = ys.getD j 0 := ⟨_, rfl⟩
                        rw [← hy] at HB2 HYJ
                        have HY := Lib.hid hy
                        clear hf hyj hy
                        by_cases hlj : left ≤ j
                        · have g8 : decide ((left : Int) ≤ (j : Int)) = true := by simp; omega
                          have g9 : decide ((j : Int) < (left : Int)) = false := by simp; omega
                          by_cases hy0 : y = 0
                          · have HQ2 := Lib.hid (show ∀ q, left ≤ q → q < j + 1 → ys.getD q 0 = 0 from fun q h1 h2 => by
                              rcases Nat.lt_or_ge q j with h3 | h3
                              · exact HQ.out q h1 h3
                              · obtain rfl : q = j := by omega
                                rw [← HY.out]; exact hy0)
                            subst hy0
                            have hmin : min j left = min (j + 1) left := by omega
                            rw [hmin] at hrow2
                            go_wp2_with fail
                            refine (HB2.out).mono ?_
                            rintro e w2 ⟨rfl, rfl⟩
                            go_wp2_with fail
                            exact ⟨⟨j + 1, by omega, by go_num, hrow2, HQ2, hbw2⟩, by simp [intOf]; omega⟩
                          · have HE := Lib.hid (HBAD2.out (wd_ne _ (j - left) (by rw [List.length_drop]; omega) (by
                              have e : (ys.drop (min left T)).getD (j - left) 0 = ys.getD j 0 := by
                                rw [Nat.min_eq_left (by omega)]
                                simp only [List.getD, List.getElem?_drop]
                                rw [show left + (j - left) = j by omega]
                              rw [e, ← HY.out]; exact hy0)))
                            have g10 : ((y : Int) != 0) = true := by rw [bne_iff_ne]; omega
                            go_wp2_with fail
                            refine (HB2.out).mono ?_
                            rintro e w2 ⟨rfl, rfl⟩
                            go_wp2_with fail
                            go_ret2
                            rw [HE.out]
                            exact ⟨none, 0, rfl, Nums.nil _ _ _, hbw2⟩
                        · have g8 : decide ((left : Int) ≤ (j : Int)) = false := by simp; omega
                          have g9 : decide ((j : Int) < (left : Int)) = true := by simp; omega
                          have hxl2 : (xs ++ ys.take (min j left)).length = xs.length + j := by rw [List.length_append, List.length_take]; omega
                          have HSN := Lib.hid (show xs ++ ys.take (min (j + 1) left) = (xs ++ ys.take (min j left)) ++ [y] by
                            rw [Nat.min_eq_left (by omega), Nat.min_eq_left (by omega), HYJ.out, List.append_assoc])
                          generalize xs ++ ys.take (min j left) = zs at *
                          have hrow2' : wr.ownsRow w.heap.size 46 1 u8 zs.length (nv zs) := hrow2
                          have HROW := Lib.hid hrow2'
                          clear hrow2 hrow2'
                          go_wp2_with fail
                          refine (HB2.out).mono ?_
                          rintro e w2 ⟨rfl, rfl⟩
                          have hb5 : w.heap.size ≤ (wr.alloc (.cells #[.int .u64 (y : Int)] 46)).heap.size := by have := hbw2.size; simp; omega
                          go_wp2_with (at_builtin; refine wpList_append_one rfl (.tmp 143) (.tmp 145) rfl w.heap.size _ zs.length _ rfl (HROW.out.alloc _) wr.heap.size y rfl (World.cell?_alloc_new _ _ _ _) (by omega) hb5 ?_)
                          intro v' w5 hown5 hgrow5
                          go_wp2_with fail
                          have hbw5 : Below w.heap.size w w5 := (hbw2.alloc hbw2.size _).grown hgrow5 (by have := hbw2.size; simp; omega) (fun k hk => (HROW.out.lt k hk).1)
                          refine ⟨⟨j + 1, by omega, by go_num, ?_, Lib.hid (fun q h1 h2 => by omega), hbw5⟩, by simp [intOf]; omega⟩
                          rw [HSN.out]; unfold NumRow; rw [List.length_append, hxl2]; simpa [nv, hxl2] using hown5
                      · obtain rfl : j = T := by omega
                        have hZt : (Z : Int) ≤ (t'.size : Int) := by omega
                        have hwz : B.wd (ys.drop (min left j)) = 0 := wd_eq _ (fun q hq => by
                          rw [List.length_drop] at hq
                          have e : (ys.drop (min left j)).getD q 0 = ys.getD (min left j + q) 0 := by simp [List.getD, List.getElem?_drop]
                          rw [e]; exact HQ.out _ (by omega) (by omega))
                        have hgo := HGO.out (by rw [hwz]; simp)
                        simp only [H.Part.nums] at hgo
                        have hxl2 : (xs ++ ys.take (min j left)).length = xs.length + min j left := by rw [List.length_append, List.length_take]; omega
                        have hyl2 : (ys.take (min left j)).length = min left j := by rw [List.length_take]; omega
                        rw [hyl2] at hgo
                        have HGO2 := Lib.hid hgo
                        clear hgo hwz hyl2
                        go_wp2_with fail
                        refine ⟨⟨t'.extract Z t'.size, xs ++ ys.take (min j left), by rw [hts'], by simp; omega, by omega, hrow2, Lib.hid ?_, hbw2⟩, ?_⟩
                        · rw [HGO2.out, cut_data, HTD.out, List.drop_drop, hxl2, Nat.min_comm left j, show many - (xs.length + min j left) = left - min j left by omega]
                        · obtain ⟨a3, c3, e3, _⟩ := numRow_nums hrow2
                          rw [e3]; simp [lenS]; omega
          · rw [if_neg hp] at hf
            by_cases hq : left < h / 2
            · rw [if_pos hq] at hf; omega
            · clear hf
              obtain ⟨m, hm2⟩ : ∃ m, m = h / 2 := ⟨_, rfl⟩
              obtain ⟨T, hT⟩ : ∃ T, T = 1 := ⟨_, rfl⟩
              have hmb : 1 ≤ m ∧ m ≤ left := by omega
              have hTb : 1 ≤ T ∧ T ≤ 64 := by omega
              have hheld : H.held h = T := by unfold H.held; rw [if_neg hp, hT]
              have g5 : ((h : Int) % 2 == 0) = true := by rw [beq_iff_eq]; omega
              have g6 : ((h : Int) % 2 == 1) = false := by rw [beq_eq_false_iff_ne]; omega
              have g7 : decide ((left : Int) < (h : Int) / 2) = false := by simp; omega
              have hhm : ((h : Int) / 2) = (m : Int) := by omega
              have hwt2 : IntKind.i64.wrap (m : Int) = (m : Int) := by rw [IntKind.wrap_i64]; omega
              obtain ⟨M, hM⟩ : ∃ M, M = T * wide := ⟨_, rfl⟩
              have hM4 : M ≤ 64 * 64 := by rw [hM]; exact Nat.mul_le_mul hTb.2 hw
              obtain ⟨Z, hZ⟩ : ∃ Z, Z = B.sz M := ⟨_, rfl⟩
              have hZb : Z ≤ 512 ∧ M ≤ 8 * Z ∧ 8 * Z ≤ M + 7 := by rw [hZ]; unfold B.sz; omega
              obtain ⟨Z8, hZ8⟩ : ∃ Z8, Z8 = 8 * Z := ⟨_, rfl⟩
              rw [hheld, ← hM, ← hZ] at hfo
              have hq6 : (wide : Int) = (M : Int) := by rw [hM, hT]; simp
              have hq3 : (((M : Int) + 7) / 8) = (Z : Int) := by rw [hZ]; unfold B.sz; omega
              have hq8 : ((8 : Int) * (Z : Int)) = (Z8 : Int) := by omega
              have hZ8b : M ≤ Z8 ∧ Z8 ≤ M + 7 := by omega
              have HZ8 := Lib.hid hZ8
              have HM := Lib.hid hM
              have HTT := Lib.hid hT
              have HHM := Lib.hid hm2
              subst hT
              rw [Nat.one_mul] at hM
              have hM' := hM.symm
              clear hM
              subst hM'
              clear hq6
              clear hZ hZ8 hm2 
              by_cases hsh : t'.size < Z
              · have HE := Lib.hid (HRE.out 5 (by rw [hfo, if_pos (by omega)]) (by omega))
                clear hfo hnum hrow
                go_wp2_with fail
                refine (HVO.out _).mono ?_
                rintro e w1 ⟨rfl, hb1⟩
                go_wp2_with fail
                go_ret2
                rw [HE.out]
                exact ⟨none, 0, rfl, Nums.nil _ _ _, below_then hbw hb1⟩
              · rw [if_neg (by omega)] at hfo
                obtain ⟨X, hX⟩ : ∃ X, X = B.leN ((t.data.toList.drop k).take Z) := ⟨_, rfl⟩
                unfold H.body at hfo
                rw [← hX, hheld, Nat.one_mul , if_pos (show h % 2 = 0 by omega)] at hfo
                have hdl : Z ≤ (t.data.toList.drop k).length := by rw [List.length_drop, len_data]; omega
                have hdt : ((t.data.toList.drop k).take Z).length = Z := by rw [List.length_take]; omega
                have HBT := Lib.hid (fun p (hp : p < Z8) w => show Calls Tryz.prog 108 #[.string t', .int .i64 p] w (fun e w' => e = .returned (.int .u64 ((X / 2 ^ p % 2 : Nat) : Int)) ∧ w = w') by
                  have := HZ8.out
                  have h1 := textBit_any t' p w (by omega) (by omega)
                  rw [HTD.out, bit_take _ Z p hdl (by omega), ← hX] at h1
                  exact h1)
                have HBA := Lib.hid (fun f (hf : f + wide ≤ Z8) w => show Calls Tryz.prog 109 #[.string t', .int .i64 f, .int .i64 wide] w (fun e w' => e = .returned (.int .u64 ((X / 2 ^ f % 2 ^ wide : Nat) : Int)) ∧ w = w') by
                  have := HZ8.out
                  have h1 := bitsAt_any t' f wide w hw (by omega) (by omega)
                  rw [HTD.out, bits_take _ Z f wide hdl (by omega), ← hX] at h1
                  exact h1)
                have HTOP := Lib.hid (show X / 2 ^ wide % 2 ^ (Z8 - wide) = 0 → X / 2 ^ wide = 0 from fun h => by
                  rw [hX] at h ⊢; rw [HZ8.out] at h
                  exact top_take _ Z wide hdt (by have := HZ8.out; omega) h)
                have HFO := Lib.hid hfo
                have HBAD := Lib.hid (show X / 2 ^ wide ≠ 0 → R = ([], 1) from fun hx => HRE.out 1 (by rw [hfo, if_pos hx]) (by omega))
                have hd1 : decide (left < m) = false := by simp; omega
                have hd2 : decide (t.size - k < Z) = false := by simp; omega
                clear hfo hX hdl hdt hheld hp hm0
                go_wp2_with fail
                refine (HVO.out _).mono ?_
                rintro e w1 ⟨rfl, hb1⟩
                have hbw1 := below_then hbw hb1
                have hrow1 : NumRow w.heap.size xs (.slice a xs.length c) w1 := row_below hrow hb1
                clear hrow hnum
                go_wp2_with fail
                rw [← HT'.out]
                simp only [hq3]
                go_loop [15] (fun i => ∃ p : Nat, wide ≤ p ∧ p ≤ Z8 ∧ i = .int .i64 p ∧ Hid (X / 2 ^ wide % 2 ^ (p - wide) = 0)) (fun i => Z8 - (intOf i).toNat)
                case atStart => exact ⟨wide, Nat.le_refl _, by omega, rfl, Lib.hid (by simp [Nat.mod_one])⟩
                case round =>
                  obtain ⟨p, hp1, hp2, rfl, HL⟩ := hrel
                  by_cases hpz : p < Z8
                  · have htb := HBT.out p hpz w1
                    have hls := low_step X wide p hp1 HL.out
                    have hbo := bit_one X wide p hp1
                    have hb2 : X / 2 ^ p % 2 < 2 := by omega
                    generalize X / 2 ^ p % 2 = bt at *
                    have HTBp := Lib.hid htb
                    clear htb
                    by_cases hone : bt = 1
                    · subst hone
                      have HE := Lib.hid (HBAD.out (hbo rfl))
                      clear hbo hls
                      go_wp2_with fail
                      refine (HTBp.out).mono ?_
                      rintro e w2 ⟨rfl, rfl⟩
                      go_wp2_with fail
                      go_ret2
                      rw [HE.out]
                      exact ⟨none, 0, rfl, Nums.nil _ _ _, hbw1⟩
                    · obtain rfl : bt = 0 := by omega
                      have HLS := Lib.hid (hls rfl)
                      clear hls hbo
                      go_wp2_with fail
                      refine (HTBp.out).mono ?_
                      rintro e w2 ⟨rfl, rfl⟩
                      go_wp2_with fail
                      exact ⟨⟨p + 1, by omega, by omega, by go_num, HLS⟩, by simp [intOf]; omega⟩
                  · obtain rfl : p = Z8 := by omega
                    have HX0 := Lib.hid (HTOP.out HL.out)
                    have hgo := HRG.out _ _ (HFO.out.trans (if_neg (by rw [HX0.out]; simp)))
                    rw [dg_one, List.headD_cons, ← HHM.out] at hgo
                    have hba := HBA.out 0 (by omega)
                    rw [Nat.pow_zero, Nat.div_one] at hba
                    generalize X % 2 ^ wide = x at *
                    simp only [H.Part.nums, List.length_replicate] at hgo
                    have HGO := Lib.hid hgo
                    have HB0 := Lib.hid hba
                    clear hgo hba
                    go_wp2_with fail
                    go_loopw [8, 16] (fun v i wr => ∃ j : Nat, j ≤ m ∧ i = .int .i64 j ∧ NumRow w.heap.size (xs ++ List.replicate j x) v wr ∧ Below w.heap.size w wr) (fun _ i _ => m - (intOf i).toNat)
                    case atStart => exact ⟨0, by omega, rfl, by simpa using hrow1, hbw1⟩
                    case round =>
                      obtain ⟨j, hj, rfl, hrow2, hbw2⟩ := hrel
                      by_cases hjm : j < m
                      · have hb2 := HB0.out wr
                        have hxl2 : (xs ++ List.replicate j x).length = xs.length + j := by rw [List.length_append, List.length_replicate]
                        have HSN := Lib.hid (show xs ++ List.replicate (j + 1) x = (xs ++ List.replicate j x) ++ [x] by rw [List.append_assoc, ← List.replicate_succ'])
                        generalize xs ++ List.replicate j x = zs at *
                        have HB2 := Lib.hid hb2
                        have hrow2' : wr.ownsRow w.heap.size 46 1 u8 zs.length (nv zs) := hrow2
                        have HROW := Lib.hid hrow2'
                        clear hb2 hrow2 hrow2'
                        go_wp2_with fail
                        refine (HB2.out).mono ?_
                        rintro e w2 ⟨rfl, rfl⟩
                        have hb5 : w.heap.size ≤ (wr.alloc (.cells #[.int .u64 (x : Int)] 46)).heap.size := by have := hbw2.size; simp; omega
                        go_wp2_with (at_builtin; refine wpList_append_one rfl (.tmp 116) (.tmp 120) rfl w.heap.size _ zs.length _ rfl (HROW.out.alloc _) wr.heap.size x rfl (World.cell?_alloc_new _ _ _ _) (by omega) hb5 ?_)
                        intro v' w5 hown5 hgrow5
                        go_wp2_with fail
                        have hbw5 : Below w.heap.size w w5 := (hbw2.alloc hbw2.size _).grown hgrow5 (by have := hbw2.size; simp; omega) (fun k hk => (HROW.out.lt k hk).1)
                        refine ⟨⟨j + 1, by omega, by go_num, ?_, hbw5⟩, by simp [intOf]; omega⟩
                        rw [HSN.out]; unfold NumRow; rw [List.length_append, hxl2]; simpa [nv, hxl2] using hown5
                      · obtain rfl : j = m := by omega
                        have hZt : (Z : Int) ≤ (t'.size : Int) := by omega
                        have hxl2 : (xs ++ List.replicate j x).length = xs.length + j := by rw [List.length_append, List.length_replicate]
                        go_wp2_with fail
                        refine ⟨⟨t'.extract Z t'.size, xs ++ List.replicate j x, by rw [hts'], by simp; omega, by omega, hrow2, Lib.hid ?_, hbw2⟩, ?_⟩
                        · rw [HGO.out, cut_data, HTD.out, List.drop_drop, hxl2, show many - (xs.length + j) = left - j by omega]
                        · obtain ⟨a3, c3, e3, _⟩ := numRow_nums hrow2
                          rw [e3]; simp [lenS]; omega
        · have hfe : H.fit h left = if h / 2 = 0 then 1 else 2 := by
            unfold H.fit at hf ⊢
            by_cases hm0 : h / 2 = 0
            · rw [if_pos hm0, if_pos hm0]
            · rw [if_neg hm0] at hf; rw [if_neg hm0, if_neg hm0]
              by_cases hc : (if h % 2 = 1 then H.nb left else left) < h / 2
              · rw [if_pos hc]
              · rw [if_neg hc] at hf; exact absurd rfl hf
          rw [if_pos hf, hfe] at hfo
          by_cases hm0 : h / 2 = 0
          · rw [if_pos hm0] at hfo
            have HE := Lib.hid (HRE.out 1 (by rw [hfo]) (by omega))
            have g4 : decide ((h : Int) < 2) = true := by simp; omega
            clear hfo hf hfe hnum hrow
            go_wp2_with fail
            refine (HVO.out _).mono ?_
            rintro e w1 ⟨rfl, hb1⟩
            go_wp2_with fail
            go_ret2
            rw [HE.out]
            exact ⟨none, 0, rfl, Nums.nil _ _ _, below_then hbw hb1⟩
          · rw [if_neg hm0] at hfo
            have HE := Lib.hid (HRE.out 2 (by rw [hfo]) (by omega))
            have g4 : decide ((h : Int) < 2) = false := by simp; omega
            have hlim : (if h % 2 = 1 then H.nb left else left) < h / 2 := by
              unfold H.fit at hf
              rw [if_neg hm0] at hf
              by_cases hc : (if h % 2 = 1 then H.nb left else left) < h / 2
              · exact hc
              · rw [if_neg hc] at hf; exact absurd rfl hf
            clear hfo hf hfe hnum hrow
            by_cases hp : h % 2 = 1
            · rw [if_pos hp, ← HNB.out] at hlim
              have g5 : ((h : Int) % 2 == 0) = false := by rw [beq_eq_false_iff_ne]; omega
              have g6 : ((h : Int) % 2 == 1) = true := by rw [beq_iff_eq]; omega
              have g7 : decide ((NB : Int) < (h : Int) / 2) = true := by simp; omega
              go_wp2_with fail
              refine (HVO.out _).mono ?_
              rintro e w1 ⟨rfl, hb1⟩
              go_wp2_with fail
              go_ret2
              rw [HE.out]
              exact ⟨none, 0, rfl, Nums.nil _ _ _, below_then hbw hb1⟩
            · rw [if_neg hp] at hlim
              have g5 : ((h : Int) % 2 == 0) = true := by rw [beq_iff_eq]; omega
              have g7 : decide ((left : Int) < (h : Int) / 2) = true := by simp; omega
              go_wp2_with fail
              refine (HVO.out _).mono ?_
              rintro e w1 ⟨rfl, hb1⟩
              go_wp2_with fail
              go_ret2
              rw [HE.out]
              exact ⟨none, 0, rfl, Nums.nil _ _ _, below_then hbw hb1⟩
      · obtain ⟨er, her, hre⟩ : ∃ er, er ≠ 0 ∧ V.rd t.data.toList = (0, 0, er) := by
          rcases V.rd_bad t.data.toList with h0 | h5 | h1
          · exact absurd h0 hrd
          · exact ⟨5, by omega, h5⟩
          · exact ⟨1, by omega, h1⟩
        have HE := Lib.hid (HRE.out er (first_e1 t.data.toList left wide er (by rw [hre]) her) her)
        have g4 : ((er : Int) != 0) = true := by rw [bne_iff_ne]; omega
        rw [hre] at hvo
        have HVO := Lib.hid hvo
        clear hvo hrd hre hnum hrow
        go_wp2_with fail
        refine (HVO.out _).mono ?_
        rintro e w1 ⟨rfl, hb1⟩
        go_wp2_with fail
        go_ret2
        rw [HE.out]
        exact ⟨none, 0, rfl, Nums.nil _ _ _, below_then hbw hb1⟩
    · obtain rfl : many = xs.length := by omega
      have hz : xs.length - xs.length = 0 := Nat.sub_self _
      have HK2 := Lib.hid (show R = H.pre xs ([], if t.data.toList = [] then 0 else 1) by rw [HK.out, hz, H.read_zero])
      by_cases ht : t.size = 0
      · have HE := Lib.hid (show R = (xs, 0) by rw [HK2.out, if_pos (data_empty t ht)]; simp [H.pre])
        go_wp2_with fail
        go_ret2
        rw [HE.out]
        exact ⟨_, _, rfl, hnum, hbw⟩
      · have HE := Lib.hid (show R = ([], 1) by rw [HK2.out, if_neg (data_ne t ht)]; simp [H.pre])
        go_wp2_with fail
        go_ret2
        rw [HE.out]
        exact ⟨none, 0, rfl, Nums.nil _ _ _, hbw⟩

set_option maxHeartbeats 400000 in
theorem hof_range (s : ByteArray) (many wide : Int) (w : World) (h : wide < 0 ∨ 64 < wide ∨ many < 0) :
    Calls Tryz.prog 61 #[.string s, .int .i64 many, .int .i64 wide] w (AllPost ([], 3) w) := by
  by_cases h0 : wide < 0
  · have g1 : decide (wide < 0) = true := by simp; omega
    go_enter Tryz.func61, Tryz.ntmps61
    go_wp2_with fail
    go_ret2
    exact ⟨none, 0, rfl, Nums.nil _ _ _, Below.refl _ _⟩
  · have g1 : decide (wide < 0) = false := by simp; omega
    by_cases h1 : 64 < wide
    · have g2 : decide (64 < wide) = true := by simp; omega
      go_enter Tryz.func61, Tryz.ntmps61
      go_wp2_with fail
      go_ret2
      exact ⟨none, 0, rfl, Nums.nil _ _ _, Below.refl _ _⟩
    · have g2 : decide (64 < wide) = false := by simp; omega
      have g3 : decide (many < 0) = true := by simp; omega
      go_enter Tryz.func61, Tryz.ntmps61
      go_wp2_with fail
      go_ret2
      exact ⟨none, 0, rfl, Nums.nil _ _ _, Below.refl _ _⟩

set_option maxHeartbeats 400000 in
theorem hof_many (s : ByteArray) (many : Int) (wide : Nat) (w : World) (h : wide ≤ 64) (hm : 64 < many) :
    Calls Tryz.prog 61 #[.string s, .int .i64 many, .int .i64 wide] w (AllPost ([], 2) w) := by
  have g1 : decide ((wide : Int) < 0) = false := by simp
  have g2 : decide ((64 : Int) < (wide : Int)) = false := by simp; omega
  have g3 : decide (many < 0) = false := by simp; omega
  have g4 : decide (64 < many) = true := by simp; omega
  go_enter Tryz.func61, Tryz.ntmps61
  go_wp2_with fail
  go_ret2
  exact ⟨none, 0, rfl, Nums.nil _ _ _, Below.refl _ _⟩

theorem hof_any (s : ByteArray) (many wide : Int) (w : World) (hs : s.size ≤ maxLen) :
    Calls Tryz.prog 61 #[.string s, .int .i64 many, .int .i64 wide] w (AllPost (hreadR s.data.toList many wide) w) := by
  unfold hreadR
  by_cases h0 : wide < 0 ∨ 64 < wide ∨ many < 0
  · rw [if_pos h0]; exact hof_range s many wide w h0
  rw [if_neg h0]
  obtain ⟨n, rfl⟩ : ∃ n : Nat, wide = n := ⟨wide.toNat, by omega⟩
  by_cases h1 : 64 < many
  · rw [if_pos h1]; exact hof_many s many n w (by omega) h1
  obtain ⟨m, rfl⟩ : ∃ m : Nat, many = m := ⟨many.toNat, by omega⟩
  rw [if_neg h1, Int.toNat_natCast, Int.toNat_natCast]
  exact hof_in s m n w hs (by omega) (by omega)
end Go.Proofs.YtmiboibadccceaaGreat
/- Plain mathematics of differences. -/
namespace Go.Proofs.YtmiboibadccceaaGreat.D
set_option linter.unusedVariables false

def fd (b x : Nat) : Nat × Nat := (x, (x + (18446744073709551616 - b)) % 18446744073709551616)
def fs (b x : Nat) : Nat × Nat := ((b + x) % 18446744073709551616, (b + x) % 18446744073709551616)
def zig (n : Nat) : Nat := if n < 9223372036854775808 then 2 * n else 2 * (18446744073709551616 - n) - 1
def zag (n : Nat) : Nat := if n % 2 = 0 then n / 2 else 18446744073709551616 - 1 - n / 2
def fzig (b x : Nat) : Nat × Nat := (b, zig x)
def fzag (b x : Nat) : Nat × Nat := (b, zag x)

def runF (f : Nat → Nat → Nat × Nat) (b : Nat) : List Nat → List Nat
  | [] => []
  | x :: l => (f b x).2 :: runF f (f b x).1 l
def endF (f : Nat → Nat → Nat × Nat) (b : Nat) : List Nat → Nat
  | [] => b
  | x :: l => endF f (f b x).1 l
theorem runF_length (f : Nat → Nat → Nat × Nat) (b : Nat) (l : List Nat) : (runF f b l).length = l.length := by
  induction l generalizing b with
  | nil => rfl
  | cons x l ih => simp [runF, ih]
theorem runF_snoc (f : Nat → Nat → Nat × Nat) (b : Nat) (l : List Nat) (x : Nat) : runF f b (l ++ [x]) = runF f b l ++ [(f (endF f b l) x).2] ∧ endF f b (l ++ [x]) = (f (endF f b l) x).1 := by
  induction l generalizing b with
  | nil => simp [runF, endF]
  | cons y l ih => simp [runF, endF, ih]
theorem runF_take (f : Nat → Nat → Nat × Nat) (b : Nat) (l : List Nat) (k : Nat) (hk : k < l.length) :
    runF f b (l.take (k + 1)) = runF f b (l.take k) ++ [(f (endF f b (l.take k)) (l.getD k 0)).2] ∧ endF f b (l.take (k + 1)) = (f (endF f b (l.take k)) (l.getD k 0)).1 := by
  have e : l.take (k + 1) = l.take k ++ [l.getD k 0] := by
    rw [List.take_succ_eq_append_getElem hk]; simp [List.getD, List.getElem?_eq_getElem hk]
  rw [e]; exact runF_snoc f b (l.take k) _
theorem endF_lt (f : Nat → Nat → Nat × Nat) (hf : ∀ b x, b < 18446744073709551616 → x < 18446744073709551616 → (f b x).1 < 18446744073709551616) (b : Nat) (hb : b < 18446744073709551616) (l : List Nat) (hl : ∀ x ∈ l, x < 18446744073709551616) : endF f b l < 18446744073709551616 := by
  induction l generalizing b with
  | nil => exact hb
  | cons x l ih => exact ih _ (hf b x hb (hl x (by simp))) (fun y hy => hl y (by simp [hy]))
theorem runF_lt (f : Nat → Nat → Nat × Nat) (hf : ∀ b x, b < 18446744073709551616 → x < 18446744073709551616 → (f b x).1 < 18446744073709551616 ∧ (f b x).2 < 18446744073709551616) (b : Nat) (hb : b < 18446744073709551616) (l : List Nat) (hl : ∀ x ∈ l, x < 18446744073709551616) : ∀ y ∈ runF f b l, y < 18446744073709551616 := by
  induction l generalizing b with
  | nil => intro y hy; simp [runF] at hy
  | cons x l ih =>
    intro y hy
    have h := hf b x hb (hl x (by simp))
    rcases List.mem_cons.1 hy with rfl | hy
    · exact h.2
    · exact ih _ h.1 (fun z hz => hl z (by simp [hz])) y hy

def diffs (l : List Nat) : List Nat := runF fd 0 l
def sums (l : List Nat) : List Nat := runF fs 0 l
theorem fd_lt (b x : Nat) (hb : b < 18446744073709551616) (hx : x < 18446744073709551616) : (fd b x).1 < 18446744073709551616 ∧ (fd b x).2 < 18446744073709551616 := ⟨hx, Nat.mod_lt _ (by decide)⟩
theorem fs_lt (b x : Nat) (hb : b < 18446744073709551616) (hx : x < 18446744073709551616) : (fs b x).1 < 18446744073709551616 ∧ (fs b x).2 < 18446744073709551616 := ⟨Nat.mod_lt _ (by decide), Nat.mod_lt _ (by decide)⟩
theorem diffs_lt (l : List Nat) (hl : ∀ x ∈ l, x < 18446744073709551616) : ∀ y ∈ diffs l, y < 18446744073709551616 := runF_lt fd fd_lt 0 (by decide) l hl
theorem sums_lt (l : List Nat) (hl : ∀ x ∈ l, x < 18446744073709551616) : ∀ y ∈ sums l, y < 18446744073709551616 := runF_lt fs fs_lt 0 (by decide) l hl
theorem diffs_length (l : List Nat) : (diffs l).length = l.length := runF_length _ _ _
theorem sums_length (l : List Nat) : (sums l).length = l.length := runF_length _ _ _

theorem sums_diffsF (b : Nat) (hb : b < 18446744073709551616) (l : List Nat) (hl : ∀ x ∈ l, x < 18446744073709551616) : runF fs b (runF fd b l) = l := by
  induction l generalizing b with
  | nil => rfl
  | cons x l ih =>
    have hx : x < 18446744073709551616 := hl x (by simp)
    have e : (b + (x + (18446744073709551616 - b)) % 18446744073709551616) % 18446744073709551616 = x := by
      rw [Nat.add_mod_mod, show b + (x + (18446744073709551616 - b)) = x + 18446744073709551616 by omega, Nat.add_mod_right, Nat.mod_eq_of_lt hx]
    simp only [runF, fd, fs, e]
    rw [ih x hx (fun y hy => hl y (by simp [hy]))]
theorem diffs_sumsF (b : Nat) (hb : b < 18446744073709551616) (l : List Nat) (hl : ∀ x ∈ l, x < 18446744073709551616) : runF fd b (runF fs b l) = l := by
  induction l generalizing b with
  | nil => rfl
  | cons x l ih =>
    have hx : x < 18446744073709551616 := hl x (by simp)
    have e : ((b + x) % 18446744073709551616 + (18446744073709551616 - b)) % 18446744073709551616 = x := by
      rw [Nat.mod_add_mod, show b + x + (18446744073709551616 - b) = x + 18446744073709551616 by omega, Nat.add_mod_right, Nat.mod_eq_of_lt hx]
    simp only [runF, fd, fs, e]
    rw [ih _ (Nat.mod_lt _ (by decide)) (fun y hy => hl y (by simp [hy]))]
theorem sums_diffs (l : List Nat) (hl : ∀ x ∈ l, x < 18446744073709551616) : sums (diffs l) = l := sums_diffsF 0 (by decide) l hl
theorem diffs_sums (l : List Nat) (hl : ∀ x ∈ l, x < 18446744073709551616) : diffs (sums l) = l := diffs_sumsF 0 (by decide) l hl

theorem zig_lt (n : Nat) (h : n < 18446744073709551616) : zig n < 18446744073709551616 := by unfold zig; split <;> omega
theorem zag_lt (n : Nat) (h : n < 18446744073709551616) : zag n < 18446744073709551616 := by unfold zag; split <;> omega
theorem zag_zig (n : Nat) (h : n < 18446744073709551616) : zag (zig n) = n := by unfold zig zag; split <;> split <;> omega
theorem zig_zag (n : Nat) (h : n < 18446744073709551616) : zig (zag n) = n := by unfold zig zag; split <;> split <;> omega
def zigs (l : List Nat) : List Nat := l.map zig
def zags (l : List Nat) : List Nat := l.map zag
theorem run_zig (b : Nat) (l : List Nat) : runF fzig b l = zigs l := by
  induction l with
  | nil => rfl
  | cons x l ih => simp only [runF, fzig, zigs, List.map_cons] at *; rw [ih]
theorem run_zag (b : Nat) (l : List Nat) : runF fzag b l = zags l := by
  induction l with
  | nil => rfl
  | cons x l ih => simp only [runF, fzag, zags, List.map_cons] at *; rw [ih]
theorem zags_zigs (l : List Nat) (hl : ∀ x ∈ l, x < 18446744073709551616) : zags (zigs l) = l := by
  unfold zags zigs
  rw [List.map_map]
  conv => rhs; rw [← List.map_id l]
  exact List.map_congr_left (fun x hx => zag_zig x (hl x hx))
theorem zigs_lt (l : List Nat) (hl : ∀ x ∈ l, x < 18446744073709551616) : ∀ y ∈ zigs l, y < 18446744073709551616 := by
  intro y hy
  obtain ⟨x, hx, rfl⟩ := List.mem_map.1 hy
  exact zig_lt x (hl x hx)
theorem zags_lt (l : List Nat) (hl : ∀ x ∈ l, x < 18446744073709551616) : ∀ y ∈ zags l, y < 18446744073709551616 := by
  intro y hy
  obtain ⟨x, hx, rfl⟩ := List.mem_map.1 hy
  exact zag_lt x (hl x hx)
end Go.Proofs.YtmiboibadccceaaGreat.D
/- The walks of delta.Zig, delta.Zag and of the closures in Diffs, Sums. -/
namespace Go.Proofs.YtmiboibadccceaaGreat
open Go.RowKit
set_option linter.unusedVariables false

set_option maxHeartbeats 400000 in
theorem zig_any (n : Nat) (w : World) (hn : n < 18446744073709551616) :
    Calls Tryz.prog 75 #[.int .u64 n] w fun e w' => e = .returned (.int .u64 (D.zig n)) ∧ w = w' := by
  by_cases h : n < 9223372036854775808
  · have HZ := Lib.hid (show D.zig n = 2 * n by unfold D.zig; rw [if_pos h])
    have hw : IntKind.u64.wrap (2 * (n : Int)) = 2 * (n : Int) := by rw [IntKind.wrap_u64]; omega
    have g1 : decide ((n : Int) < 9223372036854775808) = true := by simp; omega
    go_enter Tryz.func75, Tryz.ntmps75
    go_wp2_with fail
    go_ret
    exact ⟨by rw [HZ.out]; simp, rfl⟩
  · have HZ := Lib.hid (show D.zig n = 2 * (18446744073709551616 - n) - 1 by unfold D.zig; rw [if_neg h])
    have g1 : decide ((n : Int) < 9223372036854775808) = false := by simp; omega
    obtain ⟨m, hm⟩ : ∃ m, m = 2 * n - 18446744073709551616 := ⟨_, rfl⟩
    have hw : IntKind.u64.wrap (2 * (n : Int)) = (m : Int) := by rw [IntKind.wrap_u64]; omega
    obtain ⟨z, hz⟩ : ∃ z, z = 2 * (18446744073709551616 - n) - 1 := ⟨_, rfl⟩
    have hw2 : IntKind.u64.wrap (IntKind.u64.wrap (-(m : Int)) - 1) = (z : Int) := by rw [IntKind.wrap_u64, IntKind.wrap_u64]; omega
    rw [← hz] at HZ
    clear hm hz
    go_enter Tryz.func75, Tryz.ntmps75
    go_wp2_with fail
    go_ret
    exact ⟨by rw [HZ.out]; rfl, rfl⟩

set_option maxHeartbeats 400000 in
theorem zag_any (n : Nat) (w : World) (hn : n < 18446744073709551616) :
    Calls Tryz.prog 76 #[.int .u64 n] w fun e w' => e = .returned (.int .u64 (D.zag n)) ∧ w = w' := by
  obtain ⟨q, hq⟩ : ∃ q, q = n / 2 := ⟨_, rfl⟩
  have hqI : ((n : Int) / 2) = (q : Int) := by omega
  by_cases h : n % 2 = 0
  · have HZ := Lib.hid (show D.zag n = q by unfold D.zag; rw [if_pos h, hq])
    have g1 : ((n : Int) % 2 == 0) = true := by rw [beq_iff_eq]; omega
    clear hq
    go_enter Tryz.func76, Tryz.ntmps76
    go_wp2_with fail
    go_ret
    exact ⟨by rw [HZ.out]; rfl, rfl⟩
  · obtain ⟨z, hz⟩ : ∃ z, z = 18446744073709551616 - 1 - q := ⟨_, rfl⟩
    have HZ := Lib.hid (show D.zag n = z by unfold D.zag; rw [if_neg h, hz, hq])
    have g1 : ((n : Int) % 2 == 0) = false := by rw [beq_eq_false_iff_ne]; omega
    have hw2 : IntKind.u64.wrap (IntKind.u64.wrap (-(q : Int)) - 1) = (z : Int) := by rw [IntKind.wrap_u64, IntKind.wrap_u64]; omega
    clear hq hz
    go_enter Tryz.func76, Tryz.ntmps76
    go_wp2_with fail
    go_ret
    exact ⟨by rw [HZ.out]; rfl, rfl⟩

set_option maxHeartbeats 400000 in
theorem dclos_any (B b x : Nat) (w : World) (hB : Boxed w B 46 (.int .u64 b)) (hb : b < 18446744073709551616) (hx : x < 18446744073709551616) :
    Calls Tryz.prog 66 #[.int .u64 x, .pointer (some ⟨B, 0, none⟩)] w fun e w' => e = .returned (.int .u64 (D.fd b x).2) ∧ w' = w.setCell ⟨B, 0, none⟩ (.int .u64 (D.fd b x).1) := by
  have c0 := hB.cell
  have f0 := hB.frozen
  have hw : IntKind.u64.wrap ((x : Int) - (b : Int)) = (((x + (18446744073709551616 - b)) % 18446744073709551616 : Nat) : Int) := by rw [IntKind.wrap_u64]; omega
  unfold D.fd
  dsimp only
  generalize (x + (18446744073709551616 - b)) % 18446744073709551616 = z at *
  go_enter Tryz.func66, Tryz.ntmps66
  go_wp2_with fail
  go_ret
  exact ⟨rfl, rfl⟩

set_option maxHeartbeats 400000 in
theorem sclos_any (B b x : Nat) (w : World) (hB : Boxed w B 46 (.int .u64 b)) (hb : b < 18446744073709551616) (hx : x < 18446744073709551616) :
    Calls Tryz.prog 67 #[.int .u64 x, .pointer (some ⟨B, 0, none⟩)] w fun e w' => e = .returned (.int .u64 (D.fs b x).2) ∧ w' = w.setCell ⟨B, 0, none⟩ (.int .u64 (D.fs b x).1) := by
  have c0 := hB.cell
  have f0 := hB.frozen
  have hw : IntKind.u64.wrap ((b : Int) + (x : Int)) = (((b + x) % 18446744073709551616 : Nat) : Int) := by rw [IntKind.wrap_u64]; omega
  unfold D.fs
  dsimp only
  generalize (b + x) % 18446744073709551616 = z at *
  have c1 : (w.setCell ⟨B, 0, none⟩ (.int .u64 (z : Int))).cell? ⟨B, 0, none⟩ = some (.int .u64 (z : Int)) := (hB.set (.int .u64 z)).cell
  go_enter Tryz.func67, Tryz.ntmps67
  go_wp2_with fail
  go_ret
  exact ⟨rfl, rfl⟩
end Go.Proofs.YtmiboibadccceaaGreat
/- The walks of delta.along with each of its functions; of delta.Diffs, delta.Sums. -/
namespace Go.Proofs.YtmiboibadccceaaGreat
open Go.RowKit
set_option linter.unusedVariables false

def NumsC (l : List Nat) (B : Nat) (w : World) (e : Ending) (w' : World) : Prop :=
  ∃ a c, e = .returned (.slice a l.length c) ∧ Nums w' w'.heap.size a l ∧ l.length ≤ c ∧ c ≤ maxLen ∧ Below B w w'

theorem grown_set (W : World) (g k : Nat) (v : Value) : W.grownBy (W.setCell ⟨g, k, none⟩ v) (some g) :=
  ⟨rfl, rfl, rfl, by simp [World.setCell], fun j hj hne => by
    have hne' : ¬ g = j := fun e => hne (by rw [e])
    simp [World.setCell, Array.getElem?_modify, hne']⟩

theorem ublk_step (f : Nat → Nat → Nat × Nat) (b : Nat) (l : List Nat) (k : Nat) (hk : k < l.length) :
    (D.runF f b (l.take k) ++ List.replicate (l.length - k) 0).set k (f (D.endF f b (l.take k)) (l.getD k 0)).2 = D.runF f b (l.take (k + 1)) ++ List.replicate (l.length - (k + 1)) 0 := by
  have hlen : (D.runF f b (l.take k)).length = k := by rw [D.runF_length, List.length_take]; omega
  rw [(D.runF_take f b l k hk).1, List.set_append_right _ _ (by omega), hlen, Nat.sub_self, show l.length - k = (l.length - (k + 1)) + 1 by omega, List.replicate_succ, List.set_cons_zero, List.append_assoc]
  rfl
theorem ublk_len (f : Nat → Nat → Nat × Nat) (b : Nat) (l : List Nat) (k : Nat) (hk : k ≤ l.length) : (D.runF f b (l.take k) ++ List.replicate (l.length - k) 0).length = l.length := by
  rw [List.length_append, D.runF_length, List.length_take, List.length_replicate]; omega

set_option maxHeartbeats 2000000 in
set_option maxRecDepth 100000 in
theorem along_d (w : World) (base B b0 : Nat) (hbB : base ≤ B) (hB : Boxed w B 46 (.int .u64 b0)) (hb0 : b0 < 18446744073709551616) (a : Option Addr) (c : Nat) (l : List Nat) (hl : l.length ≤ 64) (hx : ∀ x ∈ l, x < 18446744073709551616) (hu : Nums w base a l) :
    Calls Tryz.prog 65 #[.slice a l.length c, .func (.func 66) #[] #[.pointer (some ⟨B, 0, none⟩)]] w (NumsC (D.runF D.fd b0 l) base w) := by
  obtain ⟨i0, hi, hz0, hz1, hz2⟩ := info_parts info_u64
  have HU := Lib.hid hu
  have HX := Lib.hid hx
  have HST := Lib.hid (fun k hk => ublk_step D.fd b0 l k hk)
  have HLN := Lib.hid (fun k hk => ublk_len D.fd b0 l k hk)
  have HTK := Lib.hid (fun k hk => D.runF_take D.fd b0 l k hk)
  have HRL := Lib.hid (D.runF_length D.fd b0 l)
  have HEL := Lib.hid (fun k => D.endF_lt D.fd (fun b x hb hx => (D.fd_lt b x hb hx).1) b0 hb0 (l.take k) (fun x h => hx x (List.mem_of_mem_take h)))
  have hBlt := hB.lt
  have hbs : base ≤ w.heap.size := by omega
  clear hu hx
  go_enter Tryz.func65, Tryz.ntmps65
  go_wp2_with (at_make; refine wpList_make_full _ rfl _ _ 22 rfl w.heap.size 46 i0 (.int .u64 0) 1 Tryz.underlying22 hi hz0 hz1 .i64 .i64 _ _ l.length rfl rfl rfl rfl (by rw [hz2]; omega) (by unfold maxLen; omega) (Nat.le_refl _) ?_; intro w0 hown0 hgrow0)
  have hb0w : Below w.heap.size w w0 := (Below.refl _ _).grown hgrow0 (Nat.le_refl _) (fun k hk => by cases hk)
  have hblk := made_ublk hown0
  obtain ⟨g, hg⟩ : ∃ g, g = w.heap.size := ⟨_, rfl⟩
  rw [← hg] at hblk ⊢
  have hgl : w.heap.size ≤ g := by omega
  clear hg hown0 hgrow0
  have hB0 : Boxed w0 B 46 (.int .u64 b0) := (hb0w.block B hB.lt).trans hB
  go_wp2_with fail
  go_loopw [6, 7, 13] (fun _ _ i wr => ∃ k : Nat, k ≤ l.length ∧ i = .int .i64 k ∧ UBlk wr g (D.runF D.fd b0 (l.take k) ++ List.replicate (l.length - k) 0) ∧ Boxed wr B 46 (.int .u64 (D.endF D.fd b0 (l.take k))) ∧ Below base w wr) (fun _ _ i _ => l.length - (intOf i).toNat)
  case atStart => exact ⟨0, by omega, rfl, by simpa [D.runF] using hblk, hB0, hb0w.mono hbs⟩
  case round =>
    obtain ⟨k, hk, rfl, hub, hBx, hbw⟩ := hrel
    by_cases hlt : k < l.length
    · obtain ⟨b, off, rfl, hb, hcc⟩ := HU.out (fun e => by rw [e] at hlt; simp at hlt)
      have ck := (hbw.cell (p := ⟨b, off + k, none⟩) hb).trans (hcc k hlt)
      have hxk := HX.out _ (getD_mem l k hlt)
      have HS := Lib.hid (HST.out k hlt)
      have hln := HLN.out k hk
      have hel := HEL.out k
      have HTE := Lib.hid ((HTK.out k hlt).2)
      have hcall := dclos_any B (D.endF D.fd b0 (l.take k)) (l.getD k 0) wr hBx hel hxk
      generalize l.getD k 0 = x at *
      generalize D.runF D.fd b0 (l.take k) ++ List.replicate (l.length - k) 0 = acc at *
      generalize D.endF D.fd b0 (l.take k) = st at *
      have HC := Lib.hid hcall
      clear hcc hcall
      go_wp2_with fail
      refine (HC.out).mono ?_
      rintro e w1 ⟨rfl, rfl⟩
      have hneg : g ≠ B := by omega
      generalize (D.fd st x).2 = y at *
      obtain ⟨st2, hst2⟩ : ∃ st2, st2 = (D.fd st x).1 := ⟨_, rfl⟩
      rw [← hst2] at HTE ⊢
      have hB1 := hBx.set (.int .u64 st2)
      have hgs := grownBy_setCell' wr B (.int .u64 (st2 : Int))
      have hub1 : UBlk (wr.setCell ⟨B, 0, none⟩ (.int .u64 (st2 : Int))) g acc := (hgs.block g hub.lt (fun e => hneg (by injection e))).trans hub
      have hbw1 : Below base w (wr.setCell ⟨B, 0, none⟩ (.int .u64 (st2 : Int))) := hbw.setCell (p := ⟨B, 0, none⟩) hbB _
      have u1 := hub1.cell k (by omega)
      have u2 := hub1.free k
      have hub2 := hub1.put k y
      generalize acc.getD k 0 = oz at *
      obtain ⟨W1, hW1⟩ : ∃ W1, W1 = wr.setCell ⟨B, 0, none⟩ (.int .u64 (st2 : Int)) := ⟨_, rfl⟩
      rw [← hW1] at hub2 hB1 hbw1 u1 u2 ⊢
      have hgs2 := grown_set W1 g k (.int .u64 (y : Int))
      have hB2 : Boxed (W1.setCell ⟨g, k, none⟩ (.int .u64 (y : Int))) B 46 (.int .u64 st2) := (hgs2.block B hB1.lt (fun e => hneg (by injection e with e; exact e.symm))).trans hB1
      clear hW1 hst2 hgs hgs2 hub1 hub hneg
      have hkI : (k : Int) < (l.length : Int) := by omega
      go_wp2_with fail
      exact ⟨⟨k + 1, by omega, by go_num, by rw [← HS.out]; exact hub2, by rw [HTE.out]; exact hB2, hbw1.setCell (p := ⟨g, k, none⟩) (show base ≤ g by omega) _⟩, by simp [intOf]; omega⟩
    · obtain rfl : k = l.length := by omega
      have hn := hub.nums
      rw [Nat.sub_self, List.replicate_zero, List.append_nil, List.take_length] at hn
      have HN := Lib.hid hn
      clear hn hub
      go_wp2_with fail
      go_ret
      exact ⟨some ⟨g, 0, none⟩, l.length, by rw [HRL.out]; rfl, HN.out, by rw [HRL.out]; exact Nat.le_refl _, by unfold maxLen; omega, hbw⟩

set_option maxHeartbeats 2000000 in
set_option maxRecDepth 100000 in
theorem along_s (w : World) (base B b0 : Nat) (hbB : base ≤ B) (hB : Boxed w B 46 (.int .u64 b0)) (hb0 : b0 < 18446744073709551616) (a : Option Addr) (c : Nat) (l : List Nat) (hl : l.length ≤ 64) (hx : ∀ x ∈ l, x < 18446744073709551616) (hu : Nums w base a l) :
    Calls Tryz.prog 65 #[.slice a l.length c, .func (.func 67) #[] #[.pointer (some ⟨B, 0, none⟩)]] w (NumsC (D.runF D.fs b0 l) base w) := by
  obtain ⟨i0, hi, hz0, hz1, hz2⟩ := info_parts info_u64
  have HU := Lib.hid hu
  have HX := Lib.hid hx
  have HST := Lib.hid (fun k hk => ublk_step D.fs b0 l k hk)
  have HLN := Lib.hid (fun k hk => ublk_len D.fs b0 l k hk)
  have HTK := Lib.hid (fun k hk => D.runF_take D.fs b0 l k hk)
  have HRL := Lib.hid (D.runF_length D.fs b0 l)
  have HEL := Lib.hid (fun k => D.endF_lt D.fs (fun b x hb hx => (D.fs_lt b x hb hx).1) b0 hb0 (l.take k) (fun x h => hx x (List.mem_of_mem_take h)))
  have hBlt := hB.lt
  have hbs : base ≤ w.heap.size := by omega
  clear hu hx
  go_enter Tryz.func65, Tryz.ntmps65
  go_wp2_with (at_make; refine wpList_make_full _ rfl _ _ 22 rfl w.heap.size 46 i0 (.int .u64 0) 1 Tryz.underlying22 hi hz0 hz1 .i64 .i64 _ _ l.length rfl rfl rfl rfl (by rw [hz2]; omega) (by unfold maxLen; omega) (Nat.le_refl _) ?_; intro w0 hown0 hgrow0)
  have hb0w : Below w.heap.size w w0 := (Below.refl _ _).grown hgrow0 (Nat.le_refl _) (fun k hk => by cases hk)
  have hblk := made_ublk hown0
  obtain ⟨g, hg⟩ : ∃ g, g = w.heap.size := ⟨_, rfl⟩
  rw [← hg] at hblk ⊢
  have hgl : w.heap.size ≤ g := by omega
  clear hg hown0 hgrow0
  have hB0 : Boxed w0 B 46 (.int .u64 b0) := (hb0w.block B hB.lt).trans hB
  go_wp2_with fail
  go_loopw [6, 7, 13] (fun _ _ i wr => ∃ k : Nat, k ≤ l.length ∧ i = .int .i64 k ∧ UBlk wr g (D.runF D.fs b0 (l.take k) ++ List.replicate (l.length - k) 0) ∧ Boxed wr B 46 (.int .u64 (D.endF D.fs b0 (l.take k))) ∧ Below base w wr) (fun _ _ i _ => l.length - (intOf i).toNat)
  case atStart => exact ⟨0, by omega, rfl, by simpa [D.runF] using hblk, hB0, hb0w.mono hbs⟩
  case round =>
    obtain ⟨k, hk, rfl, hub, hBx, hbw⟩ := hrel
    by_cases hlt : k < l.length
    · obtain ⟨b, off, rfl, hb, hcc⟩ := HU.out (fun e => by rw [e] at hlt; simp at hlt)
      have ck := (hbw.cell (p := ⟨b, off + k, none⟩) hb).trans (hcc k hlt)
      have hxk := HX.out _ (getD_mem l k hlt)
      have HS := Lib.hid (HST.out k hlt)
      have hln := HLN.out k hk
      have hel := HEL.out k
      have HTE := Lib.hid ((HTK.out k hlt).2)
      have hcall := sclos_any B (D.endF D.fs b0 (l.take k)) (l.getD k 0) wr hBx hel hxk
      generalize l.getD k 0 = x at *
      generalize D.runF D.fs b0 (l.take k) ++ List.replicate (l.length - k) 0 = acc at *
      generalize D.endF D.fs b0 (l.take k) = st at *
      have HC := Lib.hid hcall
      clear hcc hcall
      go_wp2_with fail
      refine (HC.out).mono ?_
      rintro e w1 ⟨rfl, rfl⟩
      have hneg : g ≠ B := by omega
      generalize (D.fs st x).2 = y at *
      obtain ⟨st2, hst2⟩ : ∃ st2, st2 = (D.fs st x).1 := ⟨_, rfl⟩
      rw [← hst2] at HTE ⊢
      have hB1 := hBx.set (.int .u64 st2)
      have hgs := grownBy_setCell' wr B (.int .u64 (st2 : Int))
      have hub1 : UBlk (wr.setCell ⟨B, 0, none⟩ (.int .u64 (st2 : Int))) g acc := (hgs.block g hub.lt (fun e => hneg (by injection e))).trans hub
      have hbw1 : Below base w (wr.setCell ⟨B, 0, none⟩ (.int .u64 (st2 : Int))) := hbw.setCell (p := ⟨B, 0, none⟩) hbB _
      have u1 := hub1.cell k (by omega)
      have u2 := hub1.free k
      have hub2 := hub1.put k y
      generalize acc.getD k 0 = oz at *
      obtain ⟨W1, hW1⟩ : ∃ W1, W1 = wr.setCell ⟨B, 0, none⟩ (.int .u64 (st2 : Int)) := ⟨_, rfl⟩
      rw [← hW1] at hub2 hB1 hbw1 u1 u2 ⊢
      have hgs2 := grown_set W1 g k (.int .u64 (y : Int))
      have hB2 : Boxed (W1.setCell ⟨g, k, none⟩ (.int .u64 (y : Int))) B 46 (.int .u64 st2) := (hgs2.block B hB1.lt (fun e => hneg (by injection e with e; exact e.symm))).trans hB1
      clear hW1 hst2 hgs hgs2 hub1 hub hneg
      have hkI : (k : Int) < (l.length : Int) := by omega
      go_wp2_with fail
      exact ⟨⟨k + 1, by omega, by go_num, by rw [← HS.out]; exact hub2, by rw [HTE.out]; exact hB2, hbw1.setCell (p := ⟨g, k, none⟩) (show base ≤ g by omega) _⟩, by simp [intOf]; omega⟩
    · obtain rfl : k = l.length := by omega
      have hn := hub.nums
      rw [Nat.sub_self, List.replicate_zero, List.append_nil, List.take_length] at hn
      have HN := Lib.hid hn
      clear hn hub
      go_wp2_with fail
      go_ret
      exact ⟨some ⟨g, 0, none⟩, l.length, by rw [HRL.out]; rfl, HN.out, by rw [HRL.out]; exact Nat.le_refl _, by unfold maxLen; omega, hbw⟩

set_option maxHeartbeats 2000000 in
set_option maxRecDepth 100000 in
theorem along_zig (w : World) (a : Option Addr) (c : Nat) (l : List Nat) (hl : l.length ≤ 64) (hx : ∀ x ∈ l, x < 18446744073709551616) (hu : Nums w w.heap.size a l) :
    Calls Tryz.prog 65 #[.slice a l.length c, .func (.func 75) #[] #[]] w (NumsC (D.runF D.fzig 0 l) w.heap.size w) := by
  obtain ⟨i0, hi, hz0, hz1, hz2⟩ := info_parts info_u64
  have HU := Lib.hid hu
  have HX := Lib.hid hx
  have HST := Lib.hid (fun k hk => ublk_step D.fzig 0 l k hk)
  have HLN := Lib.hid (fun k hk => ublk_len D.fzig 0 l k hk)
  have HTK := Lib.hid (fun k hk => D.runF_take D.fzig 0 l k hk)
  have HRL := Lib.hid (D.runF_length D.fzig 0 l)
  clear hu hx
  go_enter Tryz.func65, Tryz.ntmps65
  go_wp2_with (at_make; refine wpList_make_full _ rfl _ _ 22 rfl w.heap.size 46 i0 (.int .u64 0) 1 Tryz.underlying22 hi hz0 hz1 .i64 .i64 _ _ l.length rfl rfl rfl rfl (by rw [hz2]; omega) (by unfold maxLen; omega) (Nat.le_refl _) ?_; intro w0 hown0 hgrow0)
  have hb0 : Below w.heap.size w w0 := (Below.refl _ _).grown hgrow0 (Nat.le_refl _) (fun k hk => by cases hk)
  have hblk := made_ublk hown0
  obtain ⟨g, hg⟩ : ∃ g, g = w.heap.size := ⟨_, rfl⟩
  rw [← hg] at hblk ⊢
  have hgl : w.heap.size ≤ g := by omega
  clear hg hown0 hgrow0
  go_wp2_with fail
  go_loopw [6, 7, 13] (fun _ _ i wr => ∃ k : Nat, k ≤ l.length ∧ i = .int .i64 k ∧ UBlk wr g (D.runF D.fzig 0 (l.take k) ++ List.replicate (l.length - k) 0) ∧ Below w.heap.size w wr) (fun _ _ i _ => l.length - (intOf i).toNat)
  case atStart => exact ⟨0, by omega, rfl, by simpa [D.runF] using hblk, hb0⟩
  case round =>
    obtain ⟨k, hk, rfl, hub, hbw⟩ := hrel
    by_cases hlt : k < l.length
    · obtain ⟨b, off, rfl, hb, hcc⟩ := HU.out (fun e => by rw [e] at hlt; simp at hlt)
      have ck := (hbw.cell (p := ⟨b, off + k, none⟩) hb).trans (hcc k hlt)
      have hxk := HX.out _ (getD_mem l k hlt)
      have HS := Lib.hid (show (D.runF D.fzig 0 (l.take k) ++ List.replicate (l.length - k) 0).set k (D.zig (l.getD k 0)) = _ from HST.out k hlt)
      have hln := HLN.out k hk
      have hcall := zig_any (l.getD k 0) wr hxk
      generalize l.getD k 0 = x at *
      generalize D.runF D.fzig 0 (l.take k) ++ List.replicate (l.length - k) 0 = acc at *
      generalize D.zig x = y at *
      have HC := Lib.hid hcall
      clear hcc hcall
      go_wp2_with fail
      refine (HC.out).mono ?_
      rintro e w1 ⟨rfl, rfl⟩
      have hub1 := hub
      have u1 := hub1.cell k (by omega)
      have u2 := hub1.free k
      have hub2 := hub1.put k y
      generalize acc.getD k 0 = oz at *
      clear hub1 hub
      have hkI : (k : Int) < (l.length : Int) := by omega
      go_wp2_with fail
      exact ⟨⟨k + 1, by omega, by go_num, by rw [← HS.out]; exact hub2, hbw.setCell (p := ⟨g, k, none⟩) hgl _⟩, by simp [intOf]; omega⟩
    · obtain rfl : k = l.length := by omega
      have hn := hub.nums
      rw [Nat.sub_self, List.replicate_zero, List.append_nil, List.take_length] at hn
      have HN := Lib.hid hn
      clear hn hub
      go_wp2_with fail
      go_ret
      exact ⟨some ⟨g, 0, none⟩, l.length, by rw [HRL.out]; rfl, HN.out, by rw [HRL.out]; exact Nat.le_refl _, by unfold maxLen; omega, hbw⟩

set_option maxHeartbeats 2000000 in
set_option maxRecDepth 100000 in
theorem along_zag (w : World) (a : Option Addr) (c : Nat) (l : List Nat) (hl : l.length ≤ 64) (hx : ∀ x ∈ l, x < 18446744073709551616) (hu : Nums w w.heap.size a l) :
    Calls Tryz.prog 65 #[.slice a l.length c, .func (.func 76) #[] #[]] w (NumsC (D.runF D.fzag 0 l) w.heap.size w) := by
  obtain ⟨i0, hi, hz0, hz1, hz2⟩ := info_parts info_u64
  have HU := Lib.hid hu
  have HX := Lib.hid hx
  have HST := Lib.hid (fun k hk => ublk_step D.fzag 0 l k hk)
  have HLN := Lib.hid (fun k hk => ublk_len D.fzag 0 l k hk)
  have HTK := Lib.hid (fun k hk => D.runF_take D.fzag 0 l k hk)
  have HRL := Lib.hid (D.runF_length D.fzag 0 l)
  clear hu hx
  go_enter Tryz.func65, Tryz.ntmps65
  go_wp2_with (at_make; refine wpList_make_full _ rfl _ _ 22 rfl w.heap.size 46 i0 (.int .u64 0) 1 Tryz.underlying22 hi hz0 hz1 .i64 .i64 _ _ l.length rfl rfl rfl rfl (by rw [hz2]; omega) (by unfold maxLen; omega) (Nat.le_refl _) ?_; intro w0 hown0 hgrow0)
  have hb0 : Below w.heap.size w w0 := (Below.refl _ _).grown hgrow0 (Nat.le_refl _) (fun k hk => by cases hk)
  have hblk := made_ublk hown0
  obtain ⟨g, hg⟩ : ∃ g, g = w.heap.size := ⟨_, rfl⟩
  rw [← hg] at hblk ⊢
  have hgl : w.heap.size ≤ g := by omega
  clear hg hown0 hgrow0
  go_wp2_with fail
  go_loopw [6, 7, 13] (fun _ _ i wr => ∃ k : Nat, k ≤ l.length ∧ i = .int .i64 k ∧ UBlk wr g (D.runF D.fzag 0 (l.take k) ++ List.replicate (l.length - k) 0) ∧ Below w.heap.size w wr) (fun _ _ i _ => l.length - (intOf i).toNat)
  case atStart => exact ⟨0, by omega, rfl, by simpa [D.runF] using hblk, hb0⟩
  case round =>
    obtain ⟨k, hk, rfl, hub, hbw⟩ := hrel
    by_cases hlt : k < l.length
    · obtain ⟨b, off, rfl, hb, hcc⟩ := HU.out (fun e => by rw [e] at hlt; simp at hlt)
      have ck := (hbw.cell (p := ⟨b, off + k, none⟩) hb).trans (hcc k hlt)
      have hxk := HX.out _ (getD_mem l k hlt)
      have HS := Lib.hid (show (D.runF D.fzag 0 (l.take k) ++ List.replicate (l.length - k) 0).set k (D.zag (l.getD k 0)) = _ from HST.out k hlt)
      have hln := HLN.out k hk
      have hcall := zag_any (l.getD k 0) wr hxk
      generalize l.getD k 0 = x at *
      generalize D.runF D.fzag 0 (l.take k) ++ List.replicate (l.length - k) 0 = acc at *
      generalize D.zag x = y at *
      have HC := Lib.hid hcall
      clear hcc hcall
      go_wp2_with fail
      refine (HC.out).mono ?_
      rintro e w1 ⟨rfl, rfl⟩
      have hub1 := hub
      have u1 := hub1.cell k (by omega)
      have u2 := hub1.free k
      have hub2 := hub1.put k y
      generalize acc.getD k 0 = oz at *
      clear hub1 hub
      have hkI : (k : Int) < (l.length : Int) := by omega
      go_wp2_with fail
      exact ⟨⟨k + 1, by omega, by go_num, by rw [← HS.out]; exact hub2, hbw.setCell (p := ⟨g, k, none⟩) hgl _⟩, by simp [intOf]; omega⟩
    · obtain rfl : k = l.length := by omega
      have hn := hub.nums
      rw [Nat.sub_self, List.replicate_zero, List.append_nil, List.take_length] at hn
      have HN := Lib.hid hn
      clear hn hub
      go_wp2_with fail
      go_ret
      exact ⟨some ⟨g, 0, none⟩, l.length, by rw [HRL.out]; rfl, HN.out, by rw [HRL.out]; exact Nat.le_refl _, by unfold maxLen; omega, hbw⟩

set_option maxHeartbeats 400000 in
theorem diffs_many (a : Option Addr) (c n : Nat) (w : World) (h : 64 < n) :
    Calls Tryz.prog 28 #[.slice a n c] w (AllPostC ([], 2) w) := by
  go_enter Tryz.func28, Tryz.ntmps28
  go_wp2_with fail
  go_ret2
  exact ⟨none, 0, rfl, Nums.nil _ _ _, Nat.le_refl _, by unfold maxLen; omega, Below.refl _ _⟩

set_option maxHeartbeats 1000000 in
theorem diffs_any (a : Option Addr) (c : Nat) (l : List Nat) (w : World) (hx : ∀ x ∈ l, x < 18446744073709551616) (hu : Nums w w.heap.size a l) :
    Calls Tryz.prog 28 #[.slice a l.length c] w (AllPostC (if 64 < l.length then ([], 2) else (D.diffs l, 0)) w) := by
  by_cases h : 64 < l.length
  · rw [if_pos h]; exact diffs_many a c _ w h
  · rw [if_neg h]
    have hmf : ∀ (fn : Fn) (first cap : Array Value) (w : World), (Instr.makeFunc fn first cap).run Tryz.prog w = .ok (.func fn first cap) w := fun _ _ _ _ => rfl
    have hb1 : Below w.heap.size w (w.alloc (.cells #[.int .u64 0] 46)) := (Below.refl _ _).alloc (Nat.le_refl _) _
    have HA := Lib.hid (along_d (w.alloc (.cells #[.int .u64 0] 46)) w.heap.size w.heap.size 0 (Nat.le_refl _) (Boxed.new w 46 (.int .u64 0)) (by decide) a c l (by omega) hx (hu.below hb1))
    have HRL := Lib.hid (show (D.diffs l).length = l.length from D.runF_length _ _ _)
    have hres : D.runF D.fd 0 l = D.diffs l := rfl
    rw [hres] at HA
    generalize D.diffs l = out at *
    go_enter Tryz.func28, Tryz.ntmps28
    go_wp2_with fail
    refine (HA.out).mono ?_
    rintro e w1 ⟨A, c', rfl, hn, hlc, hcm, hb2⟩
    go_wp2_with fail
    go_ret2
    exact ⟨A, c', rfl, hn, hlc, hcm, hb1.trans hb2⟩

set_option maxHeartbeats 400000 in
theorem sums_many (a : Option Addr) (c n : Nat) (w : World) (h : 64 < n) :
    Calls Tryz.prog 29 #[.slice a n c] w (AllPostC ([], 2) w) := by
  go_enter Tryz.func29, Tryz.ntmps29
  go_wp2_with fail
  go_ret2
  exact ⟨none, 0, rfl, Nums.nil _ _ _, Nat.le_refl _, by unfold maxLen; omega, Below.refl _ _⟩

set_option maxHeartbeats 1000000 in
theorem sums_any (a : Option Addr) (c : Nat) (l : List Nat) (w : World) (hx : ∀ x ∈ l, x < 18446744073709551616) (hu : Nums w w.heap.size a l) :
    Calls Tryz.prog 29 #[.slice a l.length c] w (AllPostC (if 64 < l.length then ([], 2) else (D.sums l, 0)) w) := by
  by_cases h : 64 < l.length
  · rw [if_pos h]; exact sums_many a c _ w h
  · rw [if_neg h]
    have hmf : ∀ (fn : Fn) (first cap : Array Value) (w : World), (Instr.makeFunc fn first cap).run Tryz.prog w = .ok (.func fn first cap) w := fun _ _ _ _ => rfl
    have hb1 : Below w.heap.size w (w.alloc (.cells #[.int .u64 0] 46)) := (Below.refl _ _).alloc (Nat.le_refl _) _
    have HA := Lib.hid (along_s (w.alloc (.cells #[.int .u64 0] 46)) w.heap.size w.heap.size 0 (Nat.le_refl _) (Boxed.new w 46 (.int .u64 0)) (by decide) a c l (by omega) hx (hu.below hb1))
    have HRL := Lib.hid (show (D.sums l).length = l.length from D.runF_length _ _ _)
    have hres : D.runF D.fs 0 l = D.sums l := rfl
    rw [hres] at HA
    generalize D.sums l = out at *
    go_enter Tryz.func29, Tryz.ntmps29
    go_wp2_with fail
    refine (HA.out).mono ?_
    rintro e w1 ⟨A, c', rfl, hn, hlc, hcm, hb2⟩
    go_wp2_with fail
    go_ret2
    exact ⟨A, c', rfl, hn, hlc, hcm, hb1.trans hb2⟩
end Go.Proofs.YtmiboibadccceaaGreat
/- The walk of delta.Write. -/
namespace Go.Proofs.YtmiboibadccceaaGreat
open Go.RowKit
set_option linter.unusedVariables false
attribute [local go_sem ↓] Go.wp_at_zero Go.wp_at_succ

/-- the Zigs of the differences behind the first one -/
def dz (l : List Nat) : List Nat := D.zigs ((D.diffs l).drop 1)
def dbytes (l : List Nat) : List UInt8 := if l = [] then [] else (V.enc (l.headD 0) ++ [UInt8.ofNat (B.wd (dz l))]) ++ H.bytes (B.wd (dz l)) (dz l)
def dwriteR (l : List Nat) : List UInt8 × Nat := if 64 < l.length then ([], 2) else (dbytes l, 0)
theorem dz_length (l : List Nat) : (dz l).length = l.length - 1 := by unfold dz D.zigs; rw [List.length_map, List.length_drop, D.diffs_length]
theorem dz_lt (l : List Nat) (hx : ∀ x ∈ l, x < 18446744073709551616) : ∀ y ∈ dz l, y < 18446744073709551616 :=
  D.zigs_lt _ (fun x h => D.diffs_lt l hx x (List.mem_of_mem_drop h))

theorem run_text_one (W : World) (g v : Nat) (hv : v < 256) (h : W.cell? ⟨g, 0, none⟩ = some (.int .u8 (v : Int))) :
    (convert 78 9 (.slice (some ⟨g, 0, none⟩) 1 1)).run Tryz.prog W = .ok (.string (str [UInt8.ofNat v])) W := by
  rw [← str_of [UInt8.ofNat v]]
  refine run_convert_bytes_arg _ 78 5 Tryz.underlying78 Tryz.underlying5 _ 0 1 1 _ (by simp) ?_ 9 Tryz.underlying9
  intro i hi
  obtain rfl : i = 0 := by omega
  rw [Nat.zero_add, h]
  simp
  omega

abbrev KD (bb o : Nat) (v : Value) (w W : World) : Prop := W.cell? ⟨bb, o, none⟩ = some v ∧ Below w.heap.size w W
theorem kd_drew {bb o : Nat} {v : Value} {w W : World} (h : KD bb o v w W) : KD bb o v w W.drew := ⟨h.1, h.2.drew⟩
theorem kd_below {bb o : Nat} {v : Value} {w W W' : World} (hk : Below W.heap.size W W') (h : KD bb o v w W) : KD bb o v w W' :=
  ⟨(hk.cell (p := ⟨bb, o, none⟩) (World.block_lt_of_cell? W _ h.1)).trans h.1, below_then h.2 hk⟩
theorem kd_alloc {bb o' : Nat} {v : Value} {w W : World} (o : Obj) (h : KD bb o' v w W) : KD bb o' v w (W.alloc o) := kd_below ((Below.refl _ _).alloc (Nat.le_refl _) o) h

set_option maxHeartbeats 400000 in
theorem dwrite_many (a : Option Addr) (c : Nat) (l : List Nat) (w : World) (hx : ∀ x ∈ l, x < 18446744073709551616) (hu : Nums w w.heap.size a l) (h : 64 < l.length) :
    Calls Tryz.prog 73 #[.slice a l.length c] w (PackPost ([], 2) w) := by
  have hd := diffs_any a c l w hx hu
  rw [if_pos h] at hd
  have HD := Lib.hid hd
  clear hd
  go_enter Tryz.func73, Tryz.ntmps73
  go_wp2_with fail
  refine (HD.out).mono ?_
  rintro e w1 ⟨A, c1, rfl, hn, hlc, hcm, hb1⟩
  go_wp2_with fail
  go_ret2
  exact ⟨rfl, hb1⟩

set_option maxHeartbeats 400000 in
theorem dwrite_nil (a : Option Addr) (c : Nat) (w : World) :
    Calls Tryz.prog 73 #[.slice a 0 c] w (PackPost ([], 0) w) := by
  have hd := diffs_any a c [] w (by simp) (Nums.nil _ _ _)
  have HD := Lib.hid (show Calls Tryz.prog 28 #[.slice a 0 c] w (AllPostC ([], 0) w) from hd)
  clear hd
  go_enter Tryz.func73, Tryz.ntmps73
  go_wp2_with fail
  refine (HD.out).mono ?_
  rintro e w1 ⟨A, c1, rfl, hn, hlc, hcm, hb1⟩
  go_wp2_with fail
  go_ret2
  exact ⟨rfl, hb1⟩

set_option maxHeartbeats 2000000 in
set_option maxRecDepth 100000 in
theorem dwrite_ok (a : Option Addr) (c : Nat) (l : List Nat) (w : World) (hx : ∀ x ∈ l, x < 18446744073709551616) (hu : Nums w w.heap.size a l) (h0 : l ≠ []) (hl : l.length ≤ 64) :
    Calls Tryz.prog 73 #[.slice a l.length c] w (PackPost (dbytes l, 0) w) := by
  have hp : 0 < l.length := List.length_pos_iff.2 h0
  obtain ⟨b, off, rfl, hb, hcc⟩ := hu h0
  have hhd : l.headD 0 = l.getD 0 0 := by cases l <;> rfl
  have hc0 := hcc 0 hp
  rw [← hhd, Nat.add_zero] at hc0
  have hx0 : l.headD 0 < 18446744073709551616 := by rw [hhd]; exact hx _ (getD_mem l 0 hp)
  have hd := diffs_any (some ⟨b, off, none⟩) c l w hx hu
  rw [if_neg (by omega)] at hd
  have hdl := D.diffs_length l
  have hdx := D.diffs_lt l hx
  have hzl := dz_length l
  have hzx := dz_lt l hx
  have hw64 := B.wd_64 (dz l) hzx
  have hal := fun W A c' h => along_zig W A c' ((D.diffs l).drop 1) (by rw [List.length_drop, hdl]; omega) (fun x h => hdx x (List.mem_of_mem_drop h)) h
  have hdz : D.runF D.fzig 0 ((D.diffs l).drop 1) = dz l := D.run_zig 0 _
  rw [hdz] at hal
  simp only [List.length_drop, hdl] at hal
  have hwd := fun W A c' h => width_any A c' (dz l) W W.heap.size (by rw [hzl]; unfold maxLen; omega) hzx h
  have hhw := fun W A c' hlc hcm h => hwrite_any A c' (dz l) (B.wd (dz l)) W hlc hcm hzx h
  have hpk : packR (dz l) (B.wd (dz l)) = (H.pkd (B.wd (dz l)) (dz l), 0) := by
    unfold packR
    rw [if_neg (by omega), if_neg (by rw [hzl]; omega), Int.toNat_natCast, if_neg (by omega)]; rfl
  have hok : hwriteR (dz l) (B.wd (dz l)) = (H.bytes (B.wd (dz l)) (dz l), 0) := by
    unfold hwriteR
    rw [hpk, Int.toNat_natCast]; simp
  have hbb := H.bytes_bound (B.wd (dz l)) (dz l) (by rw [hzl]; omega)
  have hmul : (dz l).length * B.wd (dz l) ≤ 64 * 64 := Nat.mul_le_mul (by rw [hzl]; omega) hw64
  obtain ⟨t1, ht1⟩ : ∃ t1, t1 = str (V.enc (l.headD 0)) := ⟨_, rfl⟩
  obtain ⟨t2, ht2⟩ : ∃ t2, t2 = str [UInt8.ofNat (B.wd (dz l))] := ⟨_, rfl⟩
  obtain ⟨t3, ht3⟩ : ∃ t3, t3 = str (H.bytes (B.wd (dz l)) (dz l)) := ⟨_, rfl⟩
  have HSUM := Lib.hid (show (t1 ++ t2) ++ t3 = str (dbytes l) by rw [ht1, ht2, ht3, str_append, str_append]; unfold dbytes; rw [if_neg h0])
  have hs1 : t1.size ≤ 9 := by rw [ht1, str_size, V.enc_length]; exact V.sz_le _
  have hs2 : t2.size = 1 := by rw [ht2]; rfl
  have hs3 : t3.size ≤ 1048576 := by rw [ht3, str_size]; omega
  have hcat1 : ¬ 9223372036854775807 < t1.size + 1 := by omega
  have hcat2 : ¬ 9223372036854775807 < t1.size + 1 + t3.size := by omega
  rw [hok] at hhw
  simp only [hzl] at hhw hwd
  have HD := Lib.hid hd
  have HAL := Lib.hid hal
  have HWD := Lib.hid hwd
  have HHW := Lib.hid (fun W A c' hlc hcm h => show Calls Tryz.prog 85 #[.slice A (l.length - 1) c', .int .i64 (B.wd (dz l))] W (fun e w' => e = .returned (.tuple #[.string t3, .int .i64 0]) ∧ Below W.heap.size W w') by rw [ht3]; exact hhw W A c' hlc hcm h)
  have HVW := Lib.hid (fun W => show Calls Tryz.prog 71 #[.int .u64 (l.headD 0 : Nat)] W (fun e w' => e = .returned (.string t1) ∧ Below W.heap.size W w') by rw [ht1]; exact write_any (l.headD 0) W hx0)
  have hconv := fun W g (h : W.cell? ⟨g, 0, none⟩ = some (.int .u8 ((B.wd (dz l) : Nat) : Int))) => run_text_one W g (B.wd (dz l)) (by omega) h
  rw [← ht2] at hconv
  have hcv : ∀ (W : World) (g : Nat), g = W.heap.size → (convert 78 9 (.slice (some ⟨g, 0, none⟩) 1 1)).run Tryz.prog (W.alloc (.cells #[.int .u8 ((B.wd (dz l) : Nat) : Int)] 5)) = .ok (.string t2) (W.alloc (.cells #[.int .u8 ((B.wd (dz l) : Nat) : Int)] 5)) :=
    fun W g hg => hconv _ g (by rw [hg, World.cell?_alloc_new]; rfl)
  have hcv2 : ∀ (W : World) (g : Nat), g = W.heap.size → (convert 78 9 (.slice (some ⟨g, 0, none⟩) 1 1)).run Tryz.prog (W.alloc (.cells #[.int .u8 ((B.wd (dz l) : Nat) : Int)] 5)).drew = .ok (.string t2) (W.alloc (.cells #[.int .u8 ((B.wd (dz l) : Nat) : Int)] 5)).drew :=
    fun W g hg => hconv _ g (show (W.alloc (.cells #[.int .u8 ((B.wd (dz l) : Nat) : Int)] 5)).cell? ⟨g, 0, none⟩ = _ by rw [hg, World.cell?_alloc_new]; rfl)
  have HCONV := Lib.hid hconv
  clear hconv ht2
  have hwr8 : IntKind.u8.wrap ((B.wd (dz l) : Nat) : Int) = ((B.wd (dz l) : Nat) : Int) := by
    rw [IntKind.wrap_u8]; omega
  clear hd hal hwd hhw hx hdx ht1 ht3 hhd hcc hdz
  generalize B.wd (dz l) = wd at *
  generalize dz l = z at *
  generalize D.diffs l = d at *
  have hdp : 0 < d.length := by omega
  have hone : 1 ≤ l.length := hp
  have hlz : ((l.length : Int) == 0) = false := by simp; exact h0
  go_enter Tryz.func73, Tryz.ntmps73
  go_wp2_with fail
  refine (HD.out).mono ?_
  rintro e w1 ⟨A, c1, rfl, hn, hlc, hcm, hb1⟩
  obtain ⟨bA, oA, rfl, hbA, hcA⟩ := hn (List.length_pos_iff.1 hdp)
  have hnd : Nums w1 w1.heap.size (some ⟨bA, oA + 1, none⟩) (d.drop 1) := hn.drop 1
  have hlc' : d.length ≤ c1 := hlc
  have hnd0 : c1 = 1 → Nums w1 w1.heap.size (some ⟨bA, oA, none⟩) (d.drop 1) := fun e h => absurd (List.drop_eq_nil_of_le (by omega)) h
  rw [hdl] at hlc ⊢
  clear hdl hu hpk hok hbb hmul
  go_wp2_with fail
  case inl =>
    refine (HAL.out _ _ _ (hnd0 (by omega))).mono ?_
    rintro e w2 ⟨Z, c2, rfl, hz2, hlc2, hcm2, hb2⟩
    go_wp2_with fail
    refine (HWD.out _ _ _ hz2).mono ?_
    rintro e w3 ⟨rfl, rfl⟩
    go_wp2_with fail
    refine (HHW.out _ _ _ (by omega) hcm2 hz2).mono ?_
    rintro e w4 ⟨rfl, hb4⟩
    have h4 : Below w.heap.size w w4 := below_then (below_then hb1 hb2) hb4
    have hsz := h4.size
    have hc4 : w4.cell? ⟨b, off, none⟩ = some (.int .u64 ((l.headD 0 : Nat) : Int)) := by rw [(bcell h4).1 b off hb]; exact hc0
    clear hc0 HD HAL HWD HHW hz2 hn hcA hnd hb1 hb2 hb4
    go_wp2_with fail
    have hS0 : KD b off (.int .u64 ((l.headD 0 : Nat) : Int)) w w4 := ⟨hc4, h4⟩
    generalize l.headD 0 = x at *
    have hbl : b < w4.heap.size := by omega
    go_region_with (go_at_call 71; refine (HVW.out _).mono ?_; rintro e w5 ⟨rfl, hb5⟩; have hfin : Below w.heap.size w w5 := (by first | exact below_then h4 hb5 | exact below_then h4.drew hb5 | exact below_then (h4.alloc hsz _) hb5 | exact below_then (h4.alloc hsz _).drew hb5 | exact below_then (h4.drew.alloc hsz _) hb5 | exact below_then (h4.drew.alloc hsz _).drew hb5); try have hcg := HCONV.out w5 w4.heap.size ((hb5.cell (p := ⟨w4.heap.size, 0, none⟩) (by simp)).trans (World.cell?_alloc_new w4 _ _ 0)))
    all_goals
      go_wp2_with fail
      go_ret2
      exact ⟨by rw [← HSUM.out]; rfl, by first | exact hfin | exact hfin.alloc hfin.size _ | exact hfin.drew | exact (hfin.alloc hfin.size _).drew | exact hfin.drew.alloc hfin.size _⟩
  case inr =>
    refine (HAL.out _ _ _ hnd).mono ?_
    rintro e w2 ⟨Z, c2, rfl, hz2, hlc2, hcm2, hb2⟩
    go_wp2_with fail
    refine (HWD.out _ _ _ hz2).mono ?_
    rintro e w3 ⟨rfl, rfl⟩
    go_wp2_with fail
    refine (HHW.out _ _ _ (by omega) hcm2 hz2).mono ?_
    rintro e w4 ⟨rfl, hb4⟩
    have h4 : Below w.heap.size w w4 := below_then (below_then hb1 hb2) hb4
    have hsz := h4.size
    have hc4 : w4.cell? ⟨b, off, none⟩ = some (.int .u64 ((l.headD 0 : Nat) : Int)) := by rw [(bcell h4).1 b off hb]; exact hc0
    clear hc0 HD HAL HWD HHW hz2 hn hcA hnd hb1 hb2 hb4
    go_wp2_with fail
    have hS0 : KD b off (.int .u64 ((l.headD 0 : Nat) : Int)) w w4 := ⟨hc4, h4⟩
    generalize l.headD 0 = x at *
    have hbl : b < w4.heap.size := by omega
    go_region_with (go_at_call 71; refine (HVW.out _).mono ?_; rintro e w5 ⟨rfl, hb5⟩; have hfin : Below w.heap.size w w5 := (by first | exact below_then h4 hb5 | exact below_then h4.drew hb5 | exact below_then (h4.alloc hsz _) hb5 | exact below_then (h4.alloc hsz _).drew hb5 | exact below_then (h4.drew.alloc hsz _) hb5 | exact below_then (h4.drew.alloc hsz _).drew hb5); try have hcg := HCONV.out w5 w4.heap.size ((hb5.cell (p := ⟨w4.heap.size, 0, none⟩) (by simp)).trans (World.cell?_alloc_new w4 _ _ 0)))
    all_goals
      go_wp2_with fail
      go_ret2
      exact ⟨by rw [← HSUM.out]; rfl, by first | exact hfin | exact hfin.alloc hfin.size _ | exact hfin.drew | exact (hfin.alloc hfin.size _).drew | exact hfin.drew.alloc hfin.size _⟩

theorem dwrite_any (a : Option Addr) (c : Nat) (l : List Nat) (w : World) (hx : ∀ x ∈ l, x < 18446744073709551616) (hu : Nums w w.heap.size a l) :
    Calls Tryz.prog 73 #[.slice a l.length c] w (PackPost (dwriteR l) w) := by
  unfold dwriteR
  by_cases h : 64 < l.length
  · rw [if_pos h]; exact dwrite_many a c l w hx hu h
  · rw [if_neg h]
    by_cases h0 : l = []
    · subst h0; exact dwrite_nil a c w
    · exact dwrite_ok a c l w hx hu h0 (by omega)
end Go.Proofs.YtmiboibadccceaaGreat
/- The walk of delta.parse. -/
namespace Go.Proofs.YtmiboibadccceaaGreat
open Go.RowKit
set_option linter.unusedVariables false

theorem hfirst_lt (s : List UInt8) (left w : Nat) : ∀ x ∈ (H.first s left w).2.1.nums, x < 2 ^ w := by
  unfold H.first
  split
  · intro x hx; simp [H.Part.nums] at hx
  · unfold H.firstL
    split
    · intro x hx; simp [H.Part.nums] at hx
    · split
      · intro x hx; simp [H.Part.nums] at hx
      · unfold H.body
        split
        · intro x hx; simp [H.Part.nums] at hx
        · split
          · intro x hx
            have h1 := B.dg_length w 1 (B.leN (((s.drop (V.rd s).2.1).take (B.sz (H.held (V.rd s).1 * w)))))
            have h2 := B.dg_lt w 1 (B.leN (((s.drop (V.rd s).2.1).take (B.sz (H.held (V.rd s).1 * w)))))
            simp only [H.Part.nums] at hx
            obtain ⟨_, rfl⟩ := List.mem_replicate.1 hx
            generalize B.dg w 1 (B.leN (((s.drop (V.rd s).2.1).take (B.sz (H.held (V.rd s).1 * w))))) = d at *
            cases d with
            | nil => simp at h1
            | cons y t => exact h2 y (by simp)
          · split
            · intro x hx; simp [H.Part.nums] at hx
            · intro x hx
              exact B.dg_lt _ _ _ x (List.mem_of_mem_take hx)
theorem hreadF_lt (f : Nat) (s : List UInt8) (left w : Nat) : ∀ x ∈ (H.readF f s left w).1, x < 2 ^ w := by
  induction f generalizing s left with
  | zero => intro x hx; simp [H.readF] at hx
  | succ f ih =>
    unfold H.readF
    split
    · intro x hx; simp at hx
    · split
      · intro x hx; simp at hx
      · unfold H.pre
        split
        · intro x hx; simp at hx
        · intro x hx
          rcases List.mem_append.1 hx with h | h
          · exact hfirst_lt _ _ _ x h
          · exact ih _ _ x h
theorem hreadR_lt (s : List UInt8) (many wide : Int) : ∀ x ∈ (hreadR s many wide).1, x < 18446744073709551616 := by
  unfold hreadR
  split
  · intro x hx; simp at hx
  · split
    · intro x hx; simp at hx
    · intro x hx
      exact Nat.lt_of_lt_of_le (hreadF_lt _ _ _ _ x hx) (Nat.pow_le_pow_right (n := 2) (by omega) (show wide.toNat ≤ 64 by omega))
theorem hreadR_len (s : List UInt8) (many wide : Int) : (hreadR s many wide).1.length ≤ many.toNat := by
  unfold hreadR
  split
  · simp
  · split
    · simp
    · by_cases h : (H.read s many.toNat wide.toNat).2 = 0
      · exact Nat.le_of_eq (H.read_length s many.toNat wide.toNat h)
      · rw [H.read_err s many.toNat wide.toNat h]; simp

def parse2 (n wd : Nat) (h : List Nat × Nat) : Nat × List Nat × Nat := if h.2 ≠ 0 then (0, [], h.2) else if B.wd h.1 ≠ wd then (0, [], 1) else (n, h.1, 0)
def parseR (s : List UInt8) (many : Nat) : Nat × List Nat × Nat :=
  if (V.rd s).2.2 ≠ 0 then (0, [], (V.rd s).2.2) else if s.length = (V.rd s).2.1 then (0, [], 5)
  else parse2 (V.rd s).1 (s.getD (V.rd s).2.1 0).toNat (hreadR (s.drop ((V.rd s).2.1 + 1)) (many - 1 : Nat) ((s.getD (V.rd s).2.1 0).toNat : Nat))
def ParsePost (r : Nat × List Nat × Nat) (w : World) (e : Ending) (w' : World) : Prop :=
  ∃ a c, e = .returned (.tuple #[.int .u64 r.1, .slice a r.2.1.length c, .int .i64 r.2.2]) ∧ Nums w' w'.heap.size a r.2.1 ∧ r.2.1.length ≤ c ∧ c ≤ maxLen ∧ Below w.heap.size w w'
theorem ParsePost.none {w w' : World} (n er : Nat) (h : Below w.heap.size w w') : ParsePost (n, [], er) w (.returned (.tuple #[.int .u64 n, .slice none 0 0, .int .i64 er])) w' :=
  ⟨Option.none, 0, rfl, Nums.nil _ _ _, Nat.le_refl _, by unfold maxLen; omega, h⟩

set_option maxHeartbeats 1000000 in
set_option maxRecDepth 100000 in
theorem parse_any (s : ByteArray) (many : Nat) (w : World) (hs : s.size ≤ maxLen) (hm1 : 1 ≤ many) (hm : many ≤ 64) :
    Calls Tryz.prog 120 #[.string s, .int .i64 many] w (ParsePost (parseR s.data.toList many) w) := by
  have hv := fun w => vread_any s w hs
  have hmax := hs
  unfold maxLen at hmax
  unfold parseR
  by_cases he : (V.rd s.data.toList).2.2 = 0
  · rw [if_neg (by simp [he])]
    obtain ⟨n, k, hr⟩ : ∃ n k, V.rd s.data.toList = (n, k, 0) := ⟨_, _, by rw [← he]⟩
    obtain ⟨k1, k2, _, k4, k5, _⟩ := V.rd_ok _ _ _ hr
    rw [hr] at hv ⊢
    rw [len_data] at k2 ⊢
    have HV := Lib.hid hv
    clear hv hr he
    by_cases hl : s.size = k
    · rw [if_pos hl]
      have g1 : ((s.size : Int) == (k : Int)) = true := by rw [beq_iff_eq]; omega
      go_enter Tryz.func120, Tryz.ntmps120
      go_wp2_with fail
      refine (HV.out _).mono ?_
      rintro e1 w1 ⟨rfl, hb⟩
      go_wp2_with fail
      go_ret3
      exact ParsePost.none 0 5 hb
    · rw [if_neg hl]
      have g1 : ((s.size : Int) == (k : Int)) = false := by rw [beq_eq_false_iff_ne]; omega
      have hks : k < s.size := by omega
      have hksI : (k : Int) < (s.size : Int) := by omega
      have hks2 : ((k + 1 : Nat) : Int) ≤ (s.size : Int) := by omega
      have hsub : ((many : Int) - 1) = ((many - 1 : Nat) : Int) := by omega
      have hbyte : s.data.toList.getD k 0 = s[k] := by simp [List.getD, ByteArray.getElem_eq_getElem_data, hks]
      simp only [hbyte]
      have hu8 := s[k].toNat_lt
      have hw64 : wrap64 (s[k].toNat : Int) = (s[k].toNat : Int) := by
        unfold wrap64; omega
      have hrd := fun W => hread_any (s.extract (k + 1) s.size) ((many - 1 : Nat) : Int) (s[k].toNat : Int) W (by simp; unfold maxLen; omega)
      rw [cut_data] at hrd
      have hrl := hreadR_lt (s.data.toList.drop (k + 1)) ((many - 1 : Nat) : Int) (s[k].toNat : Int)
      have hrn := hreadR_len (s.data.toList.drop (k + 1)) ((many - 1 : Nat) : Int) (s[k].toNat : Int)
      rw [Int.toNat_natCast] at hrn
      generalize hreadR (s.data.toList.drop (k + 1)) ((many - 1 : Nat) : Int) (s[k].toNat : Int) = r at *
      obtain ⟨zs, er⟩ := r
      simp only at hrl hrn
      have HRD := Lib.hid hrd
      have HWD := Lib.hid (fun W A c' h => width_any A c' zs W W.heap.size (by unfold maxLen; omega) hrl h)
      clear hrd hrl hbyte
      unfold parse2
      simp only
      by_cases hz : er = 0
      · subst hz
        rw [if_neg (by simp)]
        by_cases hwe : B.wd zs = s[k].toNat
        · rw [if_neg (by simp [hwe])]
          rw [hwe] at HWD
          go_enter Tryz.func120, Tryz.ntmps120
          go_wp2_with fail
          refine (HV.out _).mono ?_
          rintro e1 w1 ⟨rfl, hb⟩
          go_wp2_with fail
          refine (HRD.out _).mono ?_
          rintro e2 w2 ⟨A, c2, rfl, hn2, hlc2, hcm2, hb2⟩
          go_wp2_with fail
          refine (HWD.out _ _ _ hn2).mono ?_
          rintro e3 w3 ⟨rfl, rfl⟩
          go_wp2_with fail
          go_ret3
          exact ⟨_, _, rfl, hn2, hlc2, hcm2, below_then hb hb2⟩
        · rw [if_pos hwe]
          have g2 : ((B.wd zs : Int) != (s[k].toNat : Int)) = true := by rw [bne_iff_ne]; omega
          go_enter Tryz.func120, Tryz.ntmps120
          go_wp2_with fail
          refine (HV.out _).mono ?_
          rintro e1 w1 ⟨rfl, hb⟩
          go_wp2_with fail
          refine (HRD.out _).mono ?_
          rintro e2 w2 ⟨A, c2, rfl, hn2, hlc2, hcm2, hb2⟩
          go_wp2_with fail
          refine (HWD.out _ _ _ hn2).mono ?_
          rintro e3 w3 ⟨rfl, rfl⟩
          go_wp2_with fail
          go_ret3
          exact ParsePost.none 0 1 (below_then hb hb2)
      · rw [if_pos hz]
        have g2 : ((er : Int) != 0) = true := by rw [bne_iff_ne]; omega
        go_enter Tryz.func120, Tryz.ntmps120
        go_wp2_with fail
        refine (HV.out _).mono ?_
        rintro e1 w1 ⟨rfl, hb⟩
        go_wp2_with fail
        refine (HRD.out _).mono ?_
        rintro e2 w2 ⟨A, c2, rfl, hn2, hlc2, hcm2, hb2⟩
        go_wp2_with fail
        go_ret3
        exact ParsePost.none 0 er (below_then hb hb2)
  · rw [if_pos he]
    generalize V.rd s.data.toList = r at *
    have g1 : ((r.2.2 : Int) != 0) = true := by rw [bne_iff_ne]; omega
    have HV := Lib.hid hv
    clear hv
    go_enter Tryz.func120, Tryz.ntmps120
    go_wp2_with fail
    refine (HV.out _).mono ?_
    rintro e1 w1 ⟨rfl, hb⟩
    go_wp2_with fail
    go_ret3
    exact ParsePost.none 0 _ hb
end Go.Proofs.YtmiboibadccceaaGreat
/- The walk of delta.Read. -/
namespace Go.Proofs.YtmiboibadccceaaGreat
open Go.RowKit
set_option linter.unusedVariables false

def dread2 (p : Nat × List Nat × Nat) : List Nat × Nat := if p.2.2 ≠ 0 then ([], p.2.2) else (D.sums (p.1 :: D.zags p.2.1), 0)
def dreadR (s : List UInt8) (many : Int) : List Nat × Nat :=
  if many < 0 then ([], 3) else if 64 < many then ([], 2) else if many = 0 then ([], if s = [] then 0 else 1) else dread2 (parseR s many.toNat)

theorem parseR_facts (s : List UInt8) (many : Nat) : (parseR s many).1 < 18446744073709551616 ∧ (parseR s many).2.1.length ≤ many - 1 ∧ (∀ x ∈ (parseR s many).2.1, x < 18446744073709551616) ∧ ((parseR s many).2.2 = 0 ∨ (parseR s many).2.1 = []) := by
  unfold parseR
  by_cases h : (V.rd s).2.2 = 0
  · rw [if_neg (by simp [h])]
    obtain ⟨n, k, hr⟩ : ∃ n k, V.rd s = (n, k, 0) := ⟨_, _, by rw [← h]⟩
    obtain ⟨_, _, _, k4, _, _⟩ := V.rd_ok _ _ _ hr
    rw [hr]
    by_cases hl : s.length = k
    · rw [if_pos hl]; simp
    · rw [if_neg hl]
      have h1 := hreadR_lt (s.drop (k + 1)) ((many - 1 : Nat) : Int) ((s.getD k 0).toNat : Int)
      have h2 := hreadR_len (s.drop (k + 1)) ((many - 1 : Nat) : Int) ((s.getD k 0).toNat : Int)
      rw [Int.toNat_natCast] at h2
      simp only
      generalize hreadR (s.drop (k + 1)) ((many - 1 : Nat) : Int) ((s.getD k 0).toNat : Int) = r at *
      unfold parse2
      split
      · simp
      · split
        · simp
        · exact ⟨k4, h2, h1, Or.inl rfl⟩
  · rw [if_pos h]; simp

set_option maxHeartbeats 2000000 in
set_option maxRecDepth 100000 in
theorem along_zag2 (w : World) (a : Option Addr) (c : Nat) (l : List Nat) (hl : l.length ≤ 64) (hx : ∀ x ∈ l, x < 18446744073709551616) (hu : Nums w w.heap.size a l) :
    Calls Tryz.prog 65 #[.slice a l.length c, .func (.func 76) #[] #[]] w (fun e w2 => ∃ A c2, e = .returned (.slice (some A) (D.runF D.fzag 0 l).length c2) ∧ Nums w2 w2.heap.size (some A) (D.runF D.fzag 0 l) ∧ Below w.heap.size w w2) := by
  obtain ⟨i0, hi, hz0, hz1, hz2⟩ := info_parts info_u64
  have HU := Lib.hid hu
  have HX := Lib.hid hx
  have HST := Lib.hid (fun k hk => ublk_step D.fzag 0 l k hk)
  have HLN := Lib.hid (fun k hk => ublk_len D.fzag 0 l k hk)
  have HTK := Lib.hid (fun k hk => D.runF_take D.fzag 0 l k hk)
  have HRL := Lib.hid (D.runF_length D.fzag 0 l)
  clear hu hx
  go_enter Tryz.func65, Tryz.ntmps65
  go_wp2_with (at_make; refine wpList_make_full _ rfl _ _ 22 rfl w.heap.size 46 i0 (.int .u64 0) 1 Tryz.underlying22 hi hz0 hz1 .i64 .i64 _ _ l.length rfl rfl rfl rfl (by rw [hz2]; omega) (by unfold maxLen; omega) (Nat.le_refl _) ?_; intro w0 hown0 hgrow0)
  have hb0 : Below w.heap.size w w0 := (Below.refl _ _).grown hgrow0 (Nat.le_refl _) (fun k hk => by cases hk)
  have hblk := made_ublk hown0
  obtain ⟨g, hg⟩ : ∃ g, g = w.heap.size := ⟨_, rfl⟩
  rw [← hg] at hblk ⊢
  have hgl : w.heap.size ≤ g := by omega
  clear hg hown0 hgrow0
  go_wp2_with fail
  go_loopw [6, 7, 13] (fun _ _ i wr => ∃ k : Nat, k ≤ l.length ∧ i = .int .i64 k ∧ UBlk wr g (D.runF D.fzag 0 (l.take k) ++ List.replicate (l.length - k) 0) ∧ Below w.heap.size w wr) (fun _ _ i _ => l.length - (intOf i).toNat)
  case atStart => exact ⟨0, by omega, rfl, by simpa [D.runF] using hblk, hb0⟩
  case round =>
    obtain ⟨k, hk, rfl, hub, hbw⟩ := hrel
    by_cases hlt : k < l.length
    · obtain ⟨b, off, rfl, hb, hcc⟩ := HU.out (fun e => by rw [e] at hlt; simp at hlt)
      have ck := (hbw.cell (p := ⟨b, off + k, none⟩) hb).trans (hcc k hlt)
      have hxk := HX.out _ (getD_mem l k hlt)
      have HS := Lib.hid (show (D.runF D.fzag 0 (l.take k) ++ List.replicate (l.length - k) 0).set k (D.zag (l.getD k 0)) = _ from HST.out k hlt)
      have hln := HLN.out k hk
      have hcall := zag_any (l.getD k 0) wr hxk
      generalize l.getD k 0 = x at *
      generalize D.runF D.fzag 0 (l.take k) ++ List.replicate (l.length - k) 0 = acc at *
      generalize D.zag x = y at *
      have HC := Lib.hid hcall
      clear hcc hcall
      go_wp2_with fail
      refine (HC.out).mono ?_
      rintro e w1 ⟨rfl, rfl⟩
      have hub1 := hub
      have u1 := hub1.cell k (by omega)
      have u2 := hub1.free k
      have hub2 := hub1.put k y
      generalize acc.getD k 0 = oz at *
      clear hub1 hub
      have hkI : (k : Int) < (l.length : Int) := by omega
      go_wp2_with fail
      exact ⟨⟨k + 1, by omega, by go_num, by rw [← HS.out]; exact hub2, hbw.setCell (p := ⟨g, k, none⟩) hgl _⟩, by simp [intOf]; omega⟩
    · obtain rfl : k = l.length := by omega
      have hn := hub.nums
      rw [Nat.sub_self, List.replicate_zero, List.append_nil, List.take_length] at hn
      have HN := Lib.hid hn
      clear hn hub
      go_wp2_with fail
      go_ret
      exact ⟨⟨g, 0, none⟩, l.length, by rw [HRL.out]; rfl, HN.out, hbw⟩

set_option maxHeartbeats 1000000 in
set_option maxRecDepth 100000 in
theorem dread_in (s : ByteArray) (many : Nat) (w : World) (hs : s.size ≤ maxLen) (h1 : 1 ≤ many) (hm : many ≤ 64) :
    Calls Tryz.prog 74 #[.string s, .int .i64 many] w (AllPostC (dread2 (parseR s.data.toList many)) w) := by
  have hp := fun w => parse_any s many w hs h1 hm
  obtain ⟨f1, f2, f3, _⟩ := parseR_facts s.data.toList many
  generalize parseR s.data.toList many = p at *
  obtain ⟨n, zs, er⟩ := p
  simp only at f1 f2 f3
  have HP := Lib.hid hp
  clear hp
  have g1 : decide ((many : Int) < 0) = false := by simp
  have g2 : decide ((64 : Int) < (many : Int)) = false := by simp; omega
  have g3 : ((many : Int) == 0) = false := by rw [beq_eq_false_iff_ne]; omega
  unfold dread2
  simp only
  by_cases he : er = 0
  · subst he
    rw [if_neg (by simp)]
    have hzl : (D.runF D.fzag 0 zs).length = zs.length := D.runF_length _ _ _
    have hzz : D.runF D.fzag 0 zs = D.zags zs := D.run_zag 0 zs
    have HX3 := Lib.hid (fun (v' : Value) (w3 : World) (h : w3.ownsRow w.heap.size 46 1 v' (1 + zs.length) ((#[Value.int .u64 (n : Int)] : Array Value).toList ++ nv (D.runF D.fzag 0 zs))) => show NumRow w.heap.size (n :: D.zags zs) v' w3 by
      unfold NumRow; rw [hzz] at h; rw [List.length_cons, ← hzz, hzl, Nat.add_comm, hzz]; simpa [nv] using h)
    have HXX := Lib.hid (show ∀ x ∈ n :: D.zags zs, x < 18446744073709551616 by
      intro x hx
      rcases List.mem_cons.1 hx with h | h
      · omega
      · exact D.zags_lt zs f3 x h)
    have hsn : ¬ 64 < (n :: D.zags zs).length := by rw [List.length_cons, ← hzz, hzl]; omega
    have hsums := fun a c W h => sums_any a c (n :: D.zags zs) W HXX.out h
    rw [if_neg hsn] at hsums
    have HSUMS := Lib.hid hsums
    clear hsums
    go_enter Tryz.func74, Tryz.ntmps74
    go_wp2_with fail
    refine (HP.out _).mono ?_
    rintro e1 w1 ⟨A, c1, rfl, hn1, hlc1, hcm1, hb1⟩
    have hlit := World.ownsRow_lit (base := w.heap.size) (e := 46) (size := 1) w1 #[.int .u64 (n : Int)] 1 hb1.size (by decide) rfl
    have hb2 : Below w.heap.size w (w1.alloc (.cells #[.int .u64 (n : Int)] 46)) := hb1.alloc hb1.size _
    have hn2 := hn1.below ((Below.refl w1.heap.size w1).alloc (Nat.le_refl _) (.cells #[.int .u64 (n : Int)] 46))
    have HZ := Lib.hid (along_zag2 (w1.alloc (.cells #[.int .u64 (n : Int)] 46)) A c1 zs (by omega) f3 (hn2.mono (by simp)))
    go_wp2_with fail
    refine (HZ.out).mono ?_
    rintro e2 w2 ⟨Z, c2, rfl, hnz, hb3⟩
    have hrow2 := row_below hlit hb3
    have hb4 := below_then hb2 hb3
    have hsz4 := hb4.size
    rw [hzl]
    go_wp2_with (at_builtin; refine wpList_append_nums rfl (.tmp 36) (.tmp 38) rfl w.heap.size _ 1 _ rfl hrow2 (some Z) zs.length c2 (D.runF D.fzag 0 zs) hzl rfl (fun h => absurd h (by simp)) hnz (by omega) hsz4 ?_; intro v' w3 hown3 hgrow3)
    have hb5 : Below w.heap.size w w3 := hb4.grown hgrow3 hsz4 (fun k hk => (hrow2.lt k hk).1)
    have hrow3 : NumRow w.heap.size (n :: D.zags zs) v' w3 := HX3.out v' w3 hown3
    obtain ⟨a3, c3, rfl, hn3⟩ := numRow_nums hrow3
    go_wp2_with fail
    refine (HSUMS.out _ _ _ hn3).mono ?_
    rintro e4 w4 ⟨a4, c4, rfl, hn4, hlc4, hcm4, hb6⟩
    go_wp2_with fail
    go_ret2
    exact ⟨_, _, rfl, hn4, hlc4, hcm4, below_then hb5 hb6⟩
  · rw [if_pos he]
    have g4 : ((er : Int) != 0) = true := by rw [bne_iff_ne]; omega
    go_enter Tryz.func74, Tryz.ntmps74
    go_wp2_with fail
    refine (HP.out _).mono ?_
    rintro e1 w1 ⟨A, c1, rfl, hn1, hlc1, hcm1, hb1⟩
    go_wp2_with fail
    go_ret2
    exact ⟨none, 0, rfl, Nums.nil _ _ _, Nat.le_refl _, by unfold maxLen; omega, hb1⟩

theorem dread_any (s : ByteArray) (many : Int) (w : World) (hs : s.size ≤ maxLen) :
    Calls Tryz.prog 74 #[.string s, .int .i64 many] w (AllPostC (dreadR s.data.toList many) w) := by
  unfold dreadR
  by_cases h0 : many < 0
  · rw [if_pos h0]
    have g1 : decide (many < 0) = true := by simp; omega
    go_enter Tryz.func74, Tryz.ntmps74
    go_wp2_with fail
    go_ret2
    exact ⟨none, 0, rfl, Nums.nil _ _ _, Nat.le_refl _, by unfold maxLen; omega, Below.refl _ _⟩
  rw [if_neg h0]
  obtain ⟨m, rfl⟩ : ∃ m : Nat, many = m := ⟨many.toNat, by omega⟩
  have g1 : decide ((m : Int) < 0) = false := by simp
  by_cases h1 : 64 < (m : Int)
  · rw [if_pos h1]
    have g2 : decide ((64 : Int) < (m : Int)) = true := by simp; omega
    go_enter Tryz.func74, Tryz.ntmps74
    go_wp2_with fail
    go_ret2
    exact ⟨none, 0, rfl, Nums.nil _ _ _, Nat.le_refl _, by unfold maxLen; omega, Below.refl _ _⟩
  rw [if_neg h1]
  by_cases h2 : (m : Int) = 0
  · rw [if_pos h2]
    obtain rfl : m = 0 := by omega
    by_cases ht : s.size = 0
    · rw [if_pos (data_empty s ht)]
      have g5 := empty_true s ht
      go_enter Tryz.func74, Tryz.ntmps74
      go_wp2_with fail
      go_ret2
      exact ⟨none, 0, rfl, Nums.nil _ _ _, Nat.le_refl _, by unfold maxLen; omega, Below.refl _ _⟩
    · rw [if_neg (data_ne s ht)]
      have g5 := empty_false s ht
      go_enter Tryz.func74, Tryz.ntmps74
      go_wp2_with fail
      go_ret2
      exact ⟨none, 0, rfl, Nums.nil _ _ _, Nat.le_refl _, by unfold maxLen; omega, Below.refl _ _⟩
  rw [if_neg h2, Int.toNat_natCast]
  exact dread_in s m w hs (by omega) (by omega)
end Go.Proofs.YtmiboibadccceaaGreat
/- The walk of hypostyleref.SameNums. -/
namespace Go.Proofs.YtmiboibadccceaaGreat
open Go.RowKit
set_option linter.unusedVariables false

set_option maxHeartbeats 400000 in
theorem same_len (a a' : Option Addr) (n m c c' : Nat) (w : World) (h : ((n : Int) != (m : Int)) = true) :
    Calls Tryz.prog 26 #[.slice a n c, .slice a' m c'] w (BoolPost false w) := by
  go_enter Tryz.func26, Tryz.ntmps26
  go_wp2_with fail
  go_ret
  exact ⟨rfl, Below.refl _ _⟩

set_option maxHeartbeats 400000 in
theorem same_nil (a a' : Option Addr) (c c' : Nat) (w : World) :
    Calls Tryz.prog 26 #[.slice a 0 c, .slice a' 0 c'] w (BoolPost true w) := by
  go_enter Tryz.func26, Tryz.ntmps26
  go_wp2_with fail
  refine wp_loop_rounds 1 ?_
  rw [rounds_succ]
  go_wp2_with fail
  go_ret
  exact ⟨rfl, Below.refl _ _⟩

set_option maxHeartbeats 400000 in
theorem same_some (b off b' off' c c' : Nat) (l m : List Nat) (w : World) (hlm : l.length = m.length) (hl : l.length < 9223372036854775807)
    (h1 : ∀ i, i < l.length → w.cell? ⟨b, off + i, none⟩ = some (.int .u64 ((l.getD i 0 : Nat) : Int)))
    (h2 : ∀ i, i < m.length → w.cell? ⟨b', off' + i, none⟩ = some (.int .u64 ((m.getD i 0 : Nat) : Int))) :
    Calls Tryz.prog 26 #[.slice (some ⟨b, off, none⟩) l.length c, .slice (some ⟨b', off', none⟩) m.length c'] w (BoolPost (decide (l = m)) w) := by
  rw [← hlm]
  have H1 := Lib.hid h1
  have H2 := Lib.hid h2
  have HL := Lib.hid hlm
  clear h1 h2 hlm
  go_enter Tryz.func26, Tryz.ntmps26
  go_wp2_with fail
  go_loopw [5] (fun i wr => ∃ k d : Nat, k ≤ l.length ∧ i = .int .i64 k ∧ wr = w.drewN d ∧ Hid (l.take k = m.take k)) (fun i _ => l.length - (intOf i).toNat)
  case atStart => exact ⟨0, 0, by omega, rfl, rfl, Lib.hid (by simp)⟩
  case round =>
    obtain ⟨k, d, hk, rfl, rfl, HK⟩ := hrel
    by_cases hlt : k < l.length
    · have c1 := H1.out k hlt
      have c2 := H2.out k (by rw [← HL.out]; exact hlt)
      obtain ⟨x, hx⟩ : ∃ x, x = l.getD k 0 := ⟨_, rfl⟩
      obtain ⟨y, hy⟩ : ∃ y, y = m.getD k 0 := ⟨_, rfl⟩
      rw [← hx] at c1
      rw [← hy] at c2
      have HX := Lib.hid hx
      have HY := Lib.hid hy
      clear hx hy
      by_cases hq : x = y
      · have HT := Lib.hid (take_eq_succ l m k HL.out hlt HK.out (by rw [← HX.out, ← HY.out]; exact hq))
        have hb : ((x : Int) != (y : Int)) = false := by rw [hq]; simp
        clear hq
        go_wp2_with fail
        go_quiet (fail)
        go_wp2_with fail
        exact ⟨⟨k + 1, d + nq, by omega, by go_num, rfl, HT⟩, by simp [intOf]; omega⟩
      · have HN := Lib.hid (ne_at l m k (by rw [← HX.out, ← HY.out]; exact hq))
        have hb : ((x : Int) != (y : Int)) = true := by rw [bne_iff_ne]; omega
        clear hq
        go_wp2_with fail
        go_quiet (fail)
        go_wp2_with fail
        go_ret
        exact ⟨by rw [decide_eq_false HN.out]; rfl, below_drewN (below_drewN (Below.refl _ _) _) _⟩
    · have HE := Lib.hid (take_eq_all l m k HL.out (by omega) HK.out)
      go_wp2_with fail
      go_ret
      exact ⟨by rw [decide_eq_true HE.out]; rfl, below_drewN (Below.refl _ _) _⟩

theorem same_any (a a' : Option Addr) (c c' : Nat) (l m : List Nat) (w : World) (B : Nat) (h1 : Nums w B a l) (h2 : Nums w B a' m) (hl : l.length < 9223372036854775807) :
    Calls Tryz.prog 26 #[.slice a l.length c, .slice a' m.length c'] w (BoolPost (decide (l = m)) w) := by
  by_cases hlm : l.length = m.length
  · by_cases hn : l = []
    · subst hn
      obtain rfl : m = [] := List.eq_nil_of_length_eq_zero hlm.symm
      exact same_nil a a' c c' w
    · obtain ⟨b, off, rfl, _, hc⟩ := h1 hn
      obtain ⟨b', off', rfl, _, hc'⟩ := h2 (by intro e; rw [e] at hlm; exact hn (List.eq_nil_of_length_eq_zero hlm))
      exact same_some b off b' off' c c' l m w hlm hl hc hc'
  · rw [decide_eq_false (fun e => hlm (by rw [e]))]
    exact same_len a a' _ _ c c' w (by simpa using (by omega : ¬ (l.length : Int) = (m.length : Int)))
end Go.Proofs.YtmiboibadccceaaGreat
