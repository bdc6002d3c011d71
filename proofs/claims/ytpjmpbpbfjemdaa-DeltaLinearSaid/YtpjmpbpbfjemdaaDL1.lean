/- The laws DeltaReads, DeltaBack. -/
import Derived.Test.YtpjmpbpbfjemdaaDW6
namespace Go.Proofs.Ytpjmpbpbfjemdaa
open Go.RowKit
set_option linter.unusedVariables false

theorem diffs_cons (x : Nat) (t : List Nat) (hx : x < 18446744073709551616) : D.diffs (x :: t) = x :: (D.diffs (x :: t)).drop 1 := by
  have h : (D.fd 0 x).2 = x := by unfold D.fd; simp only; omega
  show D.runF D.fd 0 (x :: t) = _
  unfold D.diffs
  simp only [D.runF, List.drop_succ_cons, List.drop_zero, h]

theorem hread_natd (s : List UInt8) (m n : Nat) (hm : m ≤ 64) (hn : n ≤ 64) : hreadR s m n = H.read s m n := by
  unfold hreadR
  rw [if_neg (by omega), if_neg (by omega), Int.toNat_natCast, Int.toNat_natCast]

theorem dread_back (l : List Nat) (hx : ∀ x ∈ l, x < 18446744073709551616) (hl : l.length ≤ 64) : dreadR (dbytes l) l.length = (l, 0) := by
  cases l with
  | nil => rfl
  | cons x t =>
    have hx0 : x < 18446744073709551616 := hx x (by simp)
    have hlz := dz_length (x :: t)
    have hzx := dz_lt (x :: t) hx
    have hw := B.wd_64 _ hzx
    have hdd := diffs_cons x t hx0
    have hrb := H.read_back (B.wd (dz (x :: t))) (dz (x :: t)) (by rw [hlz]; omega) ((B.wd_le _ _).1 (Nat.le_refl _))
    have hzd : x :: D.zags (dz (x :: t)) = D.diffs (x :: t) := by
      unfold dz
      rw [D.zags_zigs _ (fun y h => D.diffs_lt (x :: t) hx y (List.mem_of_mem_drop h))]
      exact hdd.symm
    have hsd := D.sums_diffs (x :: t) hx
    unfold dreadR dbytes
    rw [if_neg (by omega), if_neg (by omega), if_neg (by simp; omega), if_neg (by simp), Int.toNat_natCast]
    have hm1 : (x :: t).length - 1 = (dz (x :: t)).length := hlz.symm
    unfold parseR
    rw [hm1]
    generalize dz (x :: t) = z at *
    generalize hwd : B.wd z = wd at *
    have hrd := V.rd_enc x hx0 (UInt8.ofNat wd :: H.bytes wd z)
    have e : (V.enc ((x :: t).headD 0) ++ [UInt8.ofNat wd]) ++ H.bytes wd z = V.enc x ++ (UInt8.ofNat wd :: H.bytes wd z) := by simp
    rw [e, hrd]
    have hel := V.enc_length x
    rw [if_neg (by simp), if_neg (by simp only [List.length_append, List.length_cons]; omega)]
    have hg : (V.enc x ++ (UInt8.ofNat wd :: H.bytes wd z)).getD (V.sz x) 0 = UInt8.ofNat wd := by
      rw [← hel]; simp [List.getD]
    have hd : (V.enc x ++ (UInt8.ofNat wd :: H.bytes wd z)).drop (V.sz x + 1) = H.bytes wd z := by
      rw [← hel, ← List.drop_drop]; simp
    have hu : (UInt8.ofNat wd).toNat = wd := by simp; omega
    simp only
    rw [hg, hd, hu, hread_natd _ _ _ (by omega) hw, hrb]
    unfold parse2 dread2
    simp only [hwd]
    simp [hzd, hsd]

theorem dbytes_length (l : List Nat) (hx : ∀ x ∈ l, x < 18446744073709551616) (hl : l.length ≤ 64) : (dbytes l).length ≤ 1048576 := by
  unfold dbytes
  split
  · simp
  · have hlz := dz_length l
    have hw := B.wd_64 _ (dz_lt l hx)
    have hbb := H.bytes_bound (B.wd (dz l)) (dz l) (by omega)
    have hmul : (dz l).length * B.wd (dz l) ≤ 64 * 64 := Nat.mul_le_mul (by omega) hw
    have hs := V.sz_le (l.headD 0)
    have hel := V.enc_length (l.headD 0)
    simp only [List.length_append, List.length_cons, List.length_nil]
    omega

set_option maxHeartbeats 1000000 in
set_option maxRecDepth 100000 in
theorem deltaReads_walk (w : World) (a : Option Addr) (c : Nat) (l : List Nat) (hm : l.length ≤ maxLen) (hcap : l.length ≤ c ∧ c ≤ maxLen ∧ (a = none → c = 0)) (hx : ∀ x ∈ l, x < 18446744073709551616) (hu : Nums w w.heap.size a l) :
    Calls Try.prog 8 #[.slice a l.length c] w (BoolPost true w) := by
  have hwr := dwrite_any a c l w hx hu
  unfold maxLen at hm
  unfold dwriteR at hwr
  by_cases h : 64 < l.length
  · rw [if_pos h] at hwr
    have HWR := Lib.hid hwr
    have heq : (str []).toList.isEmpty = true := empty_true _ rfl
    have g2 : decide ((64 : Int) < (l.length : Int)) = true := by simp; omega
    clear hwr hx
    go_enter Try.func8, Try.ntmps8
    go_wp2_with fail
    refine (HWR.out).mono ?_
    rintro e w1 ⟨rfl, hb1⟩
    go_wp2_with fail
    refine (dbegun_any _).mono ?_
    rintro e w2 ⟨rfl, hb2⟩
    go_wp2_with fail
    go_ret
    exact ⟨rfl, below_then hb1 hb2⟩
  · rw [if_neg h] at hwr
    have hlen := dbytes_length l hx (by omega)
    have hrd := fun w => dread_any (str (dbytes l)) l.length w (by rw [str_size]; unfold maxLen; omega)
    rw [str_data, dread_back l hx (by omega)] at hrd
    have HRD := Lib.hid hrd
    have HWR := Lib.hid hwr
    have hsm := fun w a' c' h1 h2 => same_any a' a c' c l l w w.heap.size h1 h2 (by omega)
    rw [decide_eq_true rfl] at hsm
    have HSM := Lib.hid hsm
    generalize dbytes l = t at *
    clear hwr hrd hx hsm
    go_enter Try.func8, Try.ntmps8
    go_wp2_with fail
    refine (HWR.out).mono ?_
    rintro e w1 ⟨rfl, hb1⟩
    go_wp2_with fail
    refine (dbegun_any _).mono ?_
    rintro e w2 ⟨rfl, hb2⟩
    have h2 := below_then hb1 hb2
    go_wp2_with fail
    refine (HRD.out _).mono ?_
    rintro e w3 ⟨a3, c3, rfl, hn3, _, _, hb3⟩
    have h3 := below_then h2 hb3
    go_wp2_with fail
    refine (HSM.out _ a3 c3 hn3 (hu.next h3)).mono ?_
    rintro e w4 ⟨rfl, hb4⟩
    go_wp2_with fail
    go_ret
    exact ⟨rfl, below_then h3 hb4⟩

set_option maxHeartbeats 1000000 in
set_option maxRecDepth 100000 in
theorem deltaBack_walk (w : World) (a : Option Addr) (c : Nat) (l : List Nat) (hm : l.length ≤ maxLen) (hcap : l.length ≤ c ∧ c ≤ maxLen ∧ (a = none → c = 0)) (hx : ∀ x ∈ l, x < 18446744073709551616) (hu : Nums w w.heap.size a l)
    (n : Nat) (hn : n < 18446744073709551616) :
    Calls Try.prog 4 #[.slice a l.length c, .int .u64 (n : Int)] w (BoolPost true w) := by
  unfold maxLen at hm
  have hdf := diffs_any a c l w hx hu
  have hsf := fun W h => sums_any a c l W hx h
  have HZ1 := Lib.hid (fun W => zig_any n W hn)
  have hz2 := fun W => zag_any (D.zig n) W (D.zig_lt n hn)
  rw [D.zag_zig n hn] at hz2
  have HZ2 := Lib.hid hz2
  have HZ3 := Lib.hid (fun W => zag_any n W hn)
  have hz4 := fun W => zig_any (D.zag n) W (D.zag_lt n hn)
  rw [D.zig_zag n hn] at hz4
  have HZ4 := Lib.hid hz4
  clear hz2 hz4
  generalize D.zig n = zi at *
  generalize D.zag n = za at *
  by_cases h : 64 < l.length
  · simp only [if_pos h] at hdf hsf
    have HDF := Lib.hid hdf
    have HSF := Lib.hid hsf
    have g2 : decide ((64 : Int) < (l.length : Int)) = true := by simp; omega
    clear hdf hsf hx
    go_enter Try.func4, Try.ntmps4
    go_wp2_with fail
    refine (HDF.out).mono ?_
    rintro e w1 ⟨a1, c1, rfl, _, _, _, hb1⟩
    go_wp2_with fail
    refine (HSF.out _ (hu.next hb1)).mono ?_
    rintro e w2 ⟨a2, c2, rfl, _, _, _, hb2⟩
    have h2 := below_then hb1 hb2
    go_wp2_with fail
    refine (dbegun_any _).mono ?_
    rintro e w3 ⟨rfl, hb3⟩
    go_wp2_with fail
    refine (HZ1.out _).mono ?_
    rintro e w4 ⟨rfl, rfl⟩
    go_wp2_with fail
    refine (HZ2.out _).mono ?_
    rintro e w5 ⟨rfl, rfl⟩
    go_wp2_with fail
    refine (HZ3.out _).mono ?_
    rintro e w6 ⟨rfl, rfl⟩
    go_wp2_with fail
    refine (HZ4.out _).mono ?_
    rintro e w7 ⟨rfl, rfl⟩
    go_wp2_with fail
    go_ret
    exact ⟨rfl, below_then h2 hb3⟩
  · simp only [if_neg h] at hdf hsf
    have hdl := D.diffs_length l
    have hsl := D.sums_length l
    have hs2 := fun W A c' h => sums_any A c' (D.diffs l) W (D.diffs_lt l hx) h
    have hd2 := fun W A c' h => diffs_any A c' (D.sums l) W (D.sums_lt l hx) h
    rw [D.sums_diffs l hx, if_neg (by omega)] at hs2
    rw [D.diffs_sums l hx, if_neg (by omega)] at hd2
    have hsm := fun w a' c' h1 h2 => same_any a' a c' c l l w w.heap.size h1 h2 (by omega)
    rw [decide_eq_true rfl] at hsm
    have HSM := Lib.hid hsm
    generalize D.diffs l = d at *
    generalize D.sums l = s at *
    have HDF := Lib.hid hdf
    have HSF := Lib.hid hsf
    simp only [hdl] at hs2
    simp only [hsl] at hd2
    have HS2 := Lib.hid hs2
    have HD2 := Lib.hid hd2
    clear hdf hsf hx hs2 hd2 hsm
    go_enter Try.func4, Try.ntmps4
    go_wp2_with fail
    refine (HDF.out).mono ?_
    rintro e w1 ⟨a1, c1, rfl, hn1, _, _, hb1⟩
    go_wp2_with fail
    refine (HSF.out _ (hu.next hb1)).mono ?_
    rintro e w2 ⟨a2, c2, rfl, hn2, _, _, hb2⟩
    have h2 := below_then hb1 hb2
    go_wp2_with fail
    refine (dbegun_any _).mono ?_
    rintro e w3 ⟨rfl, hb3⟩
    have h3 := below_then h2 hb3
    go_wp2_with fail
    refine (HZ1.out _).mono ?_
    rintro e w4 ⟨rfl, rfl⟩
    go_wp2_with fail
    refine (HZ2.out _).mono ?_
    rintro e w5 ⟨rfl, rfl⟩
    go_wp2_with fail
    refine (HZ3.out _).mono ?_
    rintro e w6 ⟨rfl, rfl⟩
    go_wp2_with fail
    refine (HZ4.out _).mono ?_
    rintro e w7 ⟨rfl, rfl⟩
    go_wp2_with fail
    refine (HS2.out _ _ _ (hn1.next (below_then hb2 hb3))).mono ?_
    rintro e w8 ⟨a8, c8, rfl, hn8, _, _, hb8⟩
    have h8 := below_then h3 hb8
    go_wp2_with fail
    refine (HD2.out _ _ _ (hn2.next (below_then hb3 hb8))).mono ?_
    rintro e w9 ⟨a9, c9, rfl, hn9, _, _, hb9⟩
    have h9 := below_then h8 hb9
    go_wp2_with fail
    refine (HSM.out _ a8 c8 (hn8.next hb9) (hu.next h9)).mono ?_
    rintro e w10 ⟨rfl, hb10⟩
    have h10 := below_then h9 hb10
    go_wp2_with fail
    refine (HSM.out _ a9 c9 (hn9.next hb10) (hu.next h10)).mono ?_
    rintro e w11 ⟨rfl, hb11⟩
    go_wp2_with fail
    go_ret
    exact ⟨rfl, below_then h10 hb11⟩
end Go.Proofs.Ytpjmpbpbfjemdaa
