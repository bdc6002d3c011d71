/- The laws AdlerTells, AdlerJoins. -/
import Derived.Test.YtnkhfnomhkimiaaAdB
namespace Go.Proofs.Ytnkhfnomhkimiaa
open Go.RowKit
set_option linter.unusedVariables false

theorem str_ex (s : ByteArray) : ∃ l, s = str l ∧ l.length = s.size := ⟨s.data.toList, by apply ByteArray.ext; simp [str], len_data s⟩

set_option maxHeartbeats 4000000 in
set_option maxRecDepth 100000 in
theorem adlerTells_core (w : World) (c : Nat) (hc : c < 4294967296) (d : Nat) (hd : d < 4294967296) (x : List UInt8) (X : ByteArray) (hX : X = str x) (hr : x.length ≤ 140737488351232) (n : Int) (hn : -9223372036854775808 ≤ n ∧ n ≤ 9223372036854775807)
    (o : Nat) (ho : o < 256) (i : Nat) (hi : i < 256)
    (jj jr : Nat × Int) (hj : ∀ W, Calls Try.prog 8 #[.int .u32 c, .int .u32 d, .int .i64 n] W (JPost jj.1 jj.2 W)) (hj2 : ∀ W, Calls Try.prog 10 #[.int .u32 c, .int .u32 d, .int .i64 n] W (JPost jj.1 jj.2 W))
    (hr1 : ∀ W, Calls Try.prog 9 #[.int .u32 c, .int .i64 n, .int .u8 o, .int .u8 i] W (JPost jr.1 jr.2 W)) (hr2 : ∀ W, Calls Try.prog 11 #[.int .u32 c, .int .i64 n, .int .u8 o, .int .u8 i] W (JPost jr.1 jr.2 W)) :
    Calls Try.prog 3 #[.int .u32 c, .int .u32 d, .string X, .int .i64 n, .int .u8 o, .int .u8 i] w (BoolPost true w) := by
  have hm : x.length ≤ maxLen := by unfold maxLen; omega
  have HO := Lib.hid (fun W => show Calls Try.prog 13 #[.string X] W (U32Post (Ad.of x) W) by rw [hX]; exact of_any x W hm)
  have HM := Lib.hid (fun W => show Calls Try.prog 15 #[.int .u32 c, .string X] W (U32Post (Ad.more c x) W) by rw [hX]; exact more_any c x W hc hm)
  have HA := Lib.hid (fun W => show Calls Try.prog 14 #[.int .u32 1, .string X] W (fun e w' => e = .returned (.int .u32 (Ad.of x : Nat)) ∧ W = w') by rw [hX]; exact adlerOf_any 1 x W (by omega) hr)
  have HB := Lib.hid (fun W => show Calls Try.prog 14 #[.int .u32 c, .string X] W (fun e w' => e = .returned (.int .u32 (Ad.more c x : Nat)) ∧ W = w') by rw [hX]; exact adlerOf_any c x W hc hr)
  generalize Ad.of x = p at *
  generalize Ad.more c x = q at *
  obtain ⟨j1, j2⟩ := jj
  obtain ⟨k1, k2⟩ := jr
  have HJ := Lib.hid hj
  have HJ2 := Lib.hid hj2
  have HR := Lib.hid hr1
  have HR2 := Lib.hid hr2
  clear hj hj2 hr1 hr2 hX hm hr
  go_enter Try.func3, Try.ntmps3
  go_wp2_with fail
  refine (HJ.out _).mono ?_
  rintro e w1 ⟨rfl, hb1⟩
  go_wp2_with fail
  refine (HR.out _).mono ?_
  rintro e w2 ⟨rfl, hb2⟩
  go_wp2_with fail
  refine (HJ2.out _).mono ?_
  rintro e w3 ⟨rfl, hb3⟩
  go_wp2_with fail
  refine (HR2.out _).mono ?_
  rintro e w4 ⟨rfl, hb4⟩
  go_wp2_with fail
  refine (adlerBegun_any _).mono ?_
  rintro e w5 ⟨rfl, hb5⟩
  go_wp2_with fail
  refine (HO.out _).mono ?_
  rintro e w6 ⟨rfl, hb6⟩
  go_wp2_with fail
  refine (HA.out _).mono ?_
  rintro e w7 ⟨rfl, rfl⟩
  go_wp2_with fail
  refine (HM.out _).mono ?_
  rintro e w8 ⟨rfl, hb8⟩
  go_wp2_with fail
  refine (HB.out _).mono ?_
  rintro e w9 ⟨rfl, rfl⟩
  go_wp2_with fail
  go_ret
  exact ⟨rfl, below_then (below_then (below_then (below_then (below_then (below_then hb1 hb2) hb3) hb4) hb5) hb6) hb8⟩

theorem adlerTells_walk (w : World) (c : Nat) (hc : c < 4294967296) (d : Nat) (hd : d < 4294967296) (s : ByteArray) (hs : s.size ≤ maxLen) (n : Int) (hn : -9223372036854775808 ≤ n ∧ n ≤ 9223372036854775807)
    (o : Nat) (ho : o < 256) (i : Nat) (hi : i < 256) (hr : s.size ≤ 140737488351232) :
    Calls Try.prog 3 #[.int .u32 c, .int .u32 d, .string s, .int .i64 n, .int .u8 o, .int .u8 i] w (BoolPost true w) := by
  obtain ⟨x, hx, hl⟩ := str_ex s
  by_cases hbad : n < 0 ∨ 2147483647 < n
  · exact adlerTells_core w c hc d hd x s hx (by omega) n hn o ho i hi (0, 3) (0, 3) (fun W => joined_bad c d n W hn hbad) (fun W => rjoined_bad c d n W hn hbad)
      (fun W => roll_bad c n o i W hn (by omega)) (fun W => rrolled_bad c n o i W hn (by omega))
  · obtain ⟨m, rfl⟩ : ∃ m : Nat, n = m := ⟨n.toNat, by omega⟩
    by_cases h1 : m < 1
    · exact adlerTells_core w c hc d hd x s hx (by omega) m hn o ho i hi (Ad.joined c d m, 0) (0, 3) (fun W => joined_ok c d m W hc hd (by omega)) (fun W => rjoined_ok c d m W hc hd (by omega))
        (fun W => roll_bad c m o i W hn (by omega)) (fun W => rrolled_bad c m o i W hn (by omega))
    · exact adlerTells_core w c hc d hd x s hx (by omega) m hn o ho i hi (Ad.joined c d m, 0) (Ad.rolled c m o i, 0) (fun W => joined_ok c d m W hc hd (by omega)) (fun W => rjoined_ok c d m W hc hd (by omega))
        (fun W => roll_ok c m o i W hc (by omega) (by omega) ho hi) (fun W => rrolled_ok c m o i W hc (by omega) (by omega) ho hi)

set_option maxHeartbeats 4000000 in
set_option maxRecDepth 100000 in
theorem adlerJoins_walk (w : World) (s : ByteArray) (hs : s.size ≤ maxLen) (t : ByteArray) (ht : t.size ≤ maxLen) (hbd : s.size + t.size ≤ 1048576) :
    Calls Try.prog 4 #[.string s, .string t] w (BoolPost true w) := by
  obtain ⟨x, hx, hlx⟩ := str_ex s
  obtain ⟨y, hy, hly⟩ := str_ex t
  have HS := Lib.hid (fun W => show Calls Try.prog 13 #[.string s] W (U32Post (Ad.of x) W) by rw [hx]; exact of_any x W (by omega))
  have HT := Lib.hid (fun W => show Calls Try.prog 13 #[.string t] W (U32Post (Ad.of y) W) by rw [hy]; exact of_any y W (by omega))
  have HST := Lib.hid (fun W => show Calls Try.prog 13 #[.string (s ++ t)] W (U32Post (Ad.of (x ++ y)) W) by rw [hx, hy, str_app]; exact of_any (x ++ y) W (by unfold maxLen; simp; omega))
  have HM := Lib.hid (fun W => show Calls Try.prog 15 #[.int .u32 (Ad.of x), .string t] W (U32Post (Ad.of (x ++ y)) W) by
    have h := more_any (Ad.of x) y W (Ad.of_lt x) (by omega)
    rw [Ad.more_of] at h
    rw [hy]; exact h)
  have HJ := Lib.hid (fun W => show Calls Try.prog 8 #[.int .u32 (Ad.of x), .int .u32 (Ad.of y), .int .i64 t.size] W (JPost (Ad.of (x ++ y)) 0 W) by
    have h := joined_ok (Ad.of x) (Ad.of y) y.length W (Ad.of_lt x) (Ad.of_lt y) (by omega)
    rw [Ad.joined_of, hly] at h
    exact h)
  generalize Ad.of (x ++ y) = r at *
  generalize Ad.of x = p at *
  generalize Ad.of y = q at *
  have hsum : ¬ 9223372036854775807 < s.size + t.size := by omega
  clear hx hy hlx hly hs ht
  go_enter Try.func4, Try.ntmps4
  go_wp2_with fail
  refine (HS.out _).mono ?_
  rintro e w1 ⟨rfl, hb1⟩
  go_wp2_with fail
  refine (HT.out _).mono ?_
  rintro e w2 ⟨rfl, hb2⟩
  go_wp2_with fail
  refine (HJ.out _).mono ?_
  rintro e w3 ⟨rfl, hb3⟩
  go_wp2_with fail
  refine (adlerBegun_any _).mono ?_
  rintro e w4 ⟨rfl, hb4⟩
  go_wp2_with fail
  refine (HST.out _).mono ?_
  rintro e w5 ⟨rfl, hb5⟩
  go_wp2_with fail
  refine (HS.out _).mono ?_
  rintro e w6 ⟨rfl, hb6⟩
  go_wp2_with fail
  refine (HM.out _).mono ?_
  rintro e w7 ⟨rfl, hb7⟩
  go_wp2_with fail
  go_ret
  exact ⟨rfl, below_then (below_then (below_then (below_then (below_then (below_then hb1 hb2) hb3) hb4) hb5) hb6) hb7⟩
end Go.Proofs.Ytnkhfnomhkimiaa
