/- The laws AdlerRolls, AdlerByte, AdlerSwap. -/
import Derived.Test.YtnkhfnomhkimiaaAdL1
namespace Go.Proofs.Ytnkhfnomhkimiaa
open Go.RowKit
set_option linter.unusedVariables false

set_option maxHeartbeats 600000 in
set_option maxRecDepth 100000 in
theorem adlerRolls_walk (w : World) (s : ByteArray) (hs : s.size ≤ maxLen) (n : Nat) (hn : n < 256) (hbd : s.size ≤ 1048576) :
    Calls Try.prog 5 #[.string s, .int .u8 n] w (BoolPost true w) := by
  by_cases h0 : s.size = 0
  · go_enter Try.func5, Try.ntmps5
    go_wp2_with fail
    refine (adlerBegun_any _).mono ?_
    rintro e w1 ⟨rfl, hb1⟩
    go_wp2_with fail
    go_ret
    exact ⟨rfl, hb1⟩
  obtain ⟨x, hx, hlx⟩ := str_ex s
  obtain ⟨y, rfl⟩ : ∃ y : UInt8, n = y.toNat := ⟨UInt8.ofNat n, by simp; omega⟩
  cases x with
  | nil => simp at hlx; omega
  | cons b t =>
  have hl : s.size = t.length + 1 := by rw [← hlx]; rfl
  have h00 : (0 : Nat) < s.size := by omega
  have e0 : s[0] = b := by subst hx; rfl
  have hbt := UInt8.toNat_lt b
  have hyt := UInt8.toNat_lt y
  have HO := Lib.hid (fun W => show Calls Try.prog 13 #[.string s] W (fun e w' => e = .returned (.int .u32 (Ad.of (b :: t) : Nat)) ∧ Below W.heap.size W w') by rw [hx]; exact of_any (b :: t) W (by omega))
  have HR := Lib.hid (fun W => show Calls Try.prog 9 #[.int .u32 (Ad.of (b :: t)), .int .i64 s.size, .int .u8 b.toNat, .int .u8 y.toNat] W (fun e w' => e = .returned (.tuple #[.int .u32 (Ad.of (t ++ [y]) : Nat), .int .i64 0]) ∧ Below W.heap.size W w') by
    have h := roll_ok (Ad.of (b :: t)) (t.length + 1) b.toNat y.toNat W (Ad.of_lt _) (by omega) (by omega) hbt hyt
    rw [Ad.rolled_of] at h
    rw [hl]; exact h)
  obtain ⟨z, hz⟩ : ∃ z, z = str [y] := ⟨_, rfl⟩
  have hzs : z.size = 1 := by rw [hz]; rfl
  have HB := Lib.hid (fun W => show Calls Try.prog 16 #[.int .u8 (y.toNat : Int)] W (fun e w' => e = .returned (.string z) ∧ Below W.heap.size W w') by rw [hz]; exact byteText_any y W)
  have hex : s.extract 1 s.size = str t := by
    apply ByteArray.ext; apply Array.toList_inj.1
    rw [cut_data, hx]; rfl
  have HT := Lib.hid (fun W => show Calls Try.prog 13 #[.string (s.extract 1 s.size ++ z)] W (fun e w' => e = .returned (.int .u32 (Ad.of (t ++ [y]) : Nat)) ∧ Below W.heap.size W w') by
    rw [hex, hz, str_app]; exact of_any (t ++ [y]) W (by unfold maxLen; simp; omega))
  have hzsum : ¬ 9223372036854775807 < s.size - 1 + z.size := by omega
  have h1L : (1 : Int) ≤ (s.size : Int) := by omega
  have h1N : 1 ≤ s.size := by omega
  clear hzs
  generalize Ad.of (t ++ [y]) = r at *
  generalize Ad.of (b :: t) = p at *
  have h0I : ((s.size : Nat) : Int) ≠ 0 := by omega
  clear hex hz hx hlx hl
  go_enter Try.func5, Try.ntmps5
  go_wp2_with fail
  refine (adlerBegun_any _).mono ?_
  rintro e w1 ⟨rfl, hb1⟩
  go_wp2_with fail
  refine wp_region_wb (by kernel_rfl) (by kernel_rfl) ?_
  repeat (quiet_step (first
    | (go_at_call 13; refine calls_wb (v := .int .u32 (p : Int)) ?_; with_reducible exact HO.out _)
    | (go_at_call 9; refine calls_wb (v := .tuple #[.int .u32 (r : Int), .int .i64 0]) ?_; with_reducible exact HR.out _)))
  refine wpQuiet_nil ?_
  rintro _ ⟨p2, rfl⟩
  have hp2 := p2.below
  go_wp2_with fail
  refine wp_region_wb (by kernel_rfl) (by kernel_rfl) ?_
  repeat (quiet_step (first
    | (go_at_call 16; refine calls_wb (v := .string z) ?_; with_reducible exact HB.out _)
    | (go_at_call 13; refine calls_wb (v := .int .u32 (r : Int)) ?_; with_reducible exact HT.out _)))
  refine wpQuiet_nil ?_
  rintro _ ⟨p3, rfl⟩
  have hp3 := p3.below
  go_wp2_with fail
  go_ret
  exact ⟨rfl, below_then (below_then hb1 hp2) hp3⟩

theorem cut_at (x : List UInt8) (k : Nat) (h : k < x.length) : x = x.take k ++ [x[k]] ++ x.drop (k + 1) := by
  rw [List.append_assoc, List.singleton_append, ← List.drop_eq_getElem_cons h, List.take_append_drop]
theorem ex_take (s : ByteArray) (x : List UInt8) (hx : s = str x) (k : Nat) : s.extract 0 k = str (x.take k) := by
  apply ByteArray.ext; apply Array.toList_inj.1
  rw [take_data, hx]; rfl
theorem ex_drop (s : ByteArray) (x : List UInt8) (hx : s = str x) (k : Nat) : s.extract k s.size = str (x.drop k) := by
  apply ByteArray.ext; apply Array.toList_inj.1
  rw [cut_data, hx]; rfl
theorem ex_mid (s : ByteArray) (x : List UInt8) (hx : s = str x) (k : Nat) (h : k < x.length) : s.extract k (k + 1) = str [x[k]] := by
  apply ByteArray.ext; apply Array.toList_inj.1
  rw [Lib.extract_data, hx, str_data, List.drop_eq_getElem_cons h, Nat.add_sub_cancel_left]
  rfl
def U32Is (p : Nat) (W : World) (e : Ending) (w' : World) : Prop := e = .returned (.int .u32 (p : Int)) ∧ Below W.heap.size W w'

set_option maxHeartbeats 600000 in
set_option maxRecDepth 100000 in
theorem adlerByte_walk (w : World) (s : ByteArray) (hs : s.size ≤ maxLen) (k : Int) (hk : -9223372036854775808 ≤ k ∧ k ≤ 9223372036854775807) (n : Nat) (hn : n < 256) :
    Calls Try.prog 6 #[.string s, .int .i64 k, .int .u8 n] w (BoolPost true w) := by
  by_cases h0 : k < 0
  · go_enter Try.func6, Try.ntmps6
    go_wp2_with fail
    refine (adlerBegun_any _).mono ?_
    rintro e w1 ⟨rfl, hb1⟩
    go_wp2_with fail
    go_ret
    exact ⟨rfl, hb1⟩
  obtain ⟨j, rfl⟩ : ∃ j : Nat, k = j := ⟨k.toNat, by omega⟩
  by_cases h1 : s.size ≤ j
  · go_enter Try.func6, Try.ntmps6
    go_wp2_with fail
    refine (adlerBegun_any _).mono ?_
    rintro e w1 ⟨rfl, hb1⟩
    go_wp2_with fail
    go_ret
    exact ⟨rfl, hb1⟩
  obtain ⟨x, hx, hlx⟩ := str_ex s
  obtain ⟨y, rfl⟩ : ∃ y : UInt8, n = y.toNat := ⟨UInt8.ofNat n, by simp; omega⟩
  have hj : j < x.length := by omega
  have hjs : j < s.size := by omega
  have ej : s[j] = x[j] := by subst hx; rfl
  have hbyte := Ad.byte_of (x.take j) (x.drop (j + 1)) y x[j]
  rw [← cut_at x j hj] at hbyte
  have HO := Lib.hid (fun W => show Calls Try.prog 13 #[.string s] W (fun e w' => e = .returned (.int .u32 (Ad.of x : Nat)) ∧ Below W.heap.size W w') by rw [hx]; exact of_any x W (by omega))
  obtain ⟨z, hz⟩ : ∃ z, z = str [y] := ⟨_, rfl⟩
  have hzs : z.size = 1 := by rw [hz]; rfl
  have HB := Lib.hid (fun W => show Calls Try.prog 16 #[.int .u8 (y.toNat : Int)] W (fun e w' => e = .returned (.string z) ∧ Below W.heap.size W w') by rw [hz]; exact byteText_any y W)
  have e1 := ex_take s x hx j
  obtain ⟨J, hJ⟩ : ∃ J, J = j + 1 := ⟨_, rfl⟩
  have hJI : IntKind.i64.wrap ((j : Int) + 1) = (J : Int) := by rw [IntKind.wrap_i64]; unfold maxLen at hs; omega
  have hJL : (J : Int) ≤ (s.size : Int) := by omega
  have hJN : J ≤ s.size := by omega
  have e2 := ex_drop s x hx J
  have HT := Lib.hid (fun W => show Calls Try.prog 13 #[.string (s.extract 0 j ++ z ++ s.extract J s.size)] W (fun e w' => e = .returned (.int .u32 (Ad.of (x.take j ++ [y] ++ x.drop J) : Nat)) ∧ Below W.heap.size W w') by
    rw [e1, e2, hz, str_app, str_app]; exact of_any _ W (by unfold maxLen at *; simp; omega))
  have q1 : (s.extract 0 j).size = j := by rw [e1, str_size, List.length_take]; omega
  have q2 : (s.extract J s.size).size = s.size - J := by rw [e2, str_size, List.length_drop]; omega
  have hyt := UInt8.toNat_lt y
  have hxt := UInt8.toNat_lt x[j]
  rw [← hJ] at hbyte
  have HF := Lib.hid (show (((Ad.of (x.take j ++ [y] ++ x.drop J) : Nat) : Int) == ((Ad.of x : Nat) : Int)) = (((x[j]).toNat : Int) == (y.toNat : Int)) by
    have h2 : ((x[j]).toNat == y.toNat) = (x[j] == y) := by
      rw [Bool.eq_iff_iff, beq_iff_eq, beq_iff_eq, UInt8.toNat_inj]
    have h3 : ∀ a b : Nat, ((a : Int) == (b : Int)) = (a == b) := by intro a b; rw [Bool.eq_iff_iff, beq_iff_eq, beq_iff_eq]; omega
    rw [h3, h3, h2, ← hbyte])
  clear hbyte e1 e2 hx hlx hz
  generalize Ad.of (x.take j ++ [y] ++ x.drop J) = r at *
  generalize Ad.of x = p at *
  generalize x[j] = b at *
  unfold maxLen at hs
  have g1 : decide ((j : Int) < 0) = false := by simp
  have hjL : (j : Int) ≤ (s.size : Int) := by omega
  have hjM : j ≤ s.size := by omega
  have hjI : (j : Int) < (s.size : Int) := by omega
  have hsum2 : ¬ 9223372036854775807 < j + z.size := by omega
  have hsum3 : ¬ 9223372036854775807 < j + z.size + (s.size - J) := by omega
  have hsum4 : ¬ 9223372036854775807 < min j s.size + z.size := by omega
  have hsum5 : ¬ 9223372036854775807 < min j s.size + z.size + (s.size - J) := by omega
  clear hzs q1 q2 hJ
  go_enter Try.func6, Try.ntmps6
  go_wp2_with fail
  refine (adlerBegun_any _).mono ?_
  rintro e w1 ⟨rfl, hb1⟩
  go_wp2_with fail
  refine wp_region_wb (by kernel_rfl) (by kernel_rfl) ?_
  repeat (quiet_step (first
    | (go_at_call 16; refine calls_wb (v := .string z) ?_; with_reducible exact HB.out _)
    | (go_at_call 13; refine calls_wb (v := .int .u32 (r : Int)) ?_; with_reducible exact HT.out _)
    | (go_at_call 13; refine calls_wb (v := .int .u32 (p : Int)) ?_; with_reducible exact HO.out _)))
  refine wpQuiet_nil ?_
  rintro _ ⟨p3, rfl⟩
  have hp3 := p3.below
  go_wp2_with fail
  go_ret
  refine ⟨ret_bool ?_, below_then hb1 hp3⟩
  simp
  exact HF.out

theorem cut_two (x : List UInt8) (k : Nat) (h : k + 1 < x.length) : x = x.take k ++ [x[k]] ++ [x[k + 1]] ++ x.drop (k + 2) := by
  have h1 := cut_at x k (by omega)
  rw [List.append_assoc (x.take k ++ [x[k]]), List.singleton_append, ← List.drop_eq_getElem_cons h]
  exact h1

set_option maxHeartbeats 1600000 in
set_option maxRecDepth 100000 in
theorem adlerSwap_walk (w : World) (s : ByteArray) (hs : s.size ≤ maxLen) (k : Int) (hk : -9223372036854775808 ≤ k ∧ k ≤ 9223372036854775807) :
    Calls Try.prog 7 #[.string s, .int .i64 k] w (BoolPost true w) := by
  have hs' := hs
  unfold maxLen at hs'
  have hw1 : IntKind.i64.wrap ((s.size : Int) - 1) = (s.size : Int) - 1 := by rw [IntKind.wrap_i64]; omega
  by_cases h0 : k < 0
  · go_enter Try.func7, Try.ntmps7
    go_wp2_with fail
    refine (adlerBegun_any _).mono ?_
    rintro e w1 ⟨rfl, hb1⟩
    go_wp2_with fail
    go_ret
    exact ⟨rfl, hb1⟩
  obtain ⟨j, rfl⟩ : ∃ j : Nat, k = j := ⟨k.toNat, by omega⟩
  by_cases h1 : (s.size : Int) - 1 ≤ j
  · go_enter Try.func7, Try.ntmps7
    go_wp2_with fail
    refine (adlerBegun_any _).mono ?_
    rintro e w1 ⟨rfl, hb1⟩
    go_wp2_with fail
    go_ret
    exact ⟨rfl, hb1⟩
  obtain ⟨x, hx, hlx⟩ := str_ex s
  have hj : j + 1 < x.length := by omega
  have hj0 : j < x.length := by omega
  have hjs : j < s.size := by omega
  obtain ⟨J, hJ⟩ : ∃ J, J = j + 1 := ⟨_, rfl⟩
  obtain ⟨K, hK⟩ : ∃ K, K = j + 2 := ⟨_, rfl⟩
  have hJs : J < s.size := by omega
  have ej : s[j] = x[j] := by subst hx; rfl
  have eJ : s[J] = x[j + 1] := by subst hJ; subst hx; rfl
  have hJI : IntKind.i64.wrap ((j : Int) + 1) = (J : Int) := by rw [IntKind.wrap_i64]; omega
  have hKI : IntKind.i64.wrap ((j : Int) + 2) = (K : Int) := by rw [IntKind.wrap_i64]; omega
  have hJL : (J : Int) ≤ (s.size : Int) := by omega
  have hKL : (K : Int) ≤ (s.size : Int) := by omega
  have hKN : K ≤ s.size := by omega
  have hJN : J ≤ s.size := by omega
  have hjJ : (j : Int) ≤ (J : Int) := by omega
  have hJK : (J : Int) ≤ (K : Int) := by omega
  have hjJN : j ≤ J := by omega
  have hJKN : J ≤ K := by omega
  have hswap := Ad.swap_of (x.take j) (x.drop (j + 2)) x[j] x[j + 1]
  rw [← cut_two x j hj, ← hK] at hswap
  have HO := Lib.hid (fun W => show Calls Try.prog 13 #[.string s] W (fun e w' => e = .returned (.int .u32 (Ad.of x : Nat)) ∧ Below W.heap.size W w') by rw [hx]; exact of_any x W (by omega))
  have e1 := ex_take s x hx j
  have e2 := ex_drop s x hx K
  have e3 : s.extract j J = str [x[j]] := by rw [hJ]; exact ex_mid s x hx j hj0
  have e4 : s.extract J K = str [x[j + 1]] := by rw [hJ, hK]; exact ex_mid s x hx (j + 1) hj
  have HT := Lib.hid (fun W => show Calls Try.prog 13 #[.string (s.extract 0 j ++ s.extract J K ++ s.extract j J ++ s.extract K s.size)] W (fun e w' => e = .returned (.int .u32 (Ad.of (x.take j ++ [x[j + 1]] ++ [x[j]] ++ x.drop K) : Nat)) ∧ Below W.heap.size W w') by
    rw [e1, e2, e3, e4, str_app, str_app, str_app]; exact of_any _ W (by unfold maxLen at *; simp; omega))
  have HF := Lib.hid (show (((Ad.of (x.take j ++ [x[j + 1]] ++ [x[j]] ++ x.drop K) : Nat) : Int) == ((Ad.of x : Nat) : Int)) = (((x[j]).toNat : Int) == ((x[j + 1]).toNat : Int)) by
    have h2 : ((x[j]).toNat == (x[j + 1]).toNat) = (x[j] == x[j + 1]) := by
      rw [Bool.eq_iff_iff, beq_iff_eq, beq_iff_eq, UInt8.toNat_inj]
    have h3 : ∀ a b : Nat, ((a : Int) == (b : Int)) = (a == b) := by intro a b; rw [Bool.eq_iff_iff, beq_iff_eq, beq_iff_eq]; omega
    rw [h3, h3, h2, ← hswap])
  clear hswap e1 e2 e3 e4 hx hlx
  generalize Ad.of (x.take j ++ [x[j + 1]] ++ [x[j]] ++ x.drop K) = r at *
  generalize Ad.of x = p at *
  generalize x[j] = b at *
  generalize x[j + 1] = c at *
  have g1 : decide ((j : Int) < 0) = false := by simp
  have hjL : (j : Int) ≤ (s.size : Int) := by omega
  have hjM : j ≤ s.size := by omega
  have hjI : (j : Int) < (s.size : Int) := by omega
  have hJI2 : (J : Int) < (s.size : Int) := by omega
  have d1 : ¬ 9223372036854775807 < j + (K - J) := by omega
  have d2 : ¬ 9223372036854775807 < j + (K - J) + (J - j) := by omega
  have d3 : ¬ 9223372036854775807 < j + (K - J) + (J - j) + (s.size - K) := by omega
  clear hJ hK hj hj0
  go_enter Try.func7, Try.ntmps7
  go_wp2_with fail
  refine (adlerBegun_any _).mono ?_
  rintro e w1 ⟨rfl, hb1⟩
  go_wp2_with fail
  refine wp_region_wb (by kernel_rfl) (by kernel_rfl) ?_
  repeat (quiet_step (first
    | (go_at_call 13; refine calls_wb (v := .int .u32 (r : Int)) ?_; with_reducible exact HT.out _)
    | (go_at_call 13; refine calls_wb (v := .int .u32 (p : Int)) ?_; with_reducible exact HO.out _)))
  refine wpQuiet_nil ?_
  rintro _ ⟨p3, rfl⟩
  have hp3 := p3.below
  go_wp2_with fail
  go_ret
  refine ⟨ret_bool ?_, below_then hb1 hp3⟩
  simp
  exact HF.out
end Go.Proofs.Ytnkhfnomhkimiaa
