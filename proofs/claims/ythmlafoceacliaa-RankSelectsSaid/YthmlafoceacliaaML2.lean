/- The law RankSelects. -/
import Derived.Test.YthmlafoceacliaaML1
namespace Go.Proofs.Ythmlafoceacliaa
open Go.RowKit
set_option linter.unusedVariables false

set_option maxHeartbeats 1000000 in
set_option maxRecDepth 100000 in
theorem rs_A1 (w : World) (a : Option Addr) (c : Nat) (l : List Bool) (hm : l.length ≤ maxLen) (hcap : l.length ≤ c ∧ c ≤ maxLen ∧ (a = none → c = 0)) (hu : Bools w w.heap.size a l) (k : Int) (hk : -9223372036854775808 ≤ k ∧ k < 0) (p : Int) (hp : -9223372036854775808 ≤ p ∧ p < 0) :
    Calls Try.prog 5 #[.slice a l.length c, .int .i64 p, .int .i64 k] w (BoolPost true w) := by
  have H2 := Lib.hid (show Calls Try.prog 10 #[.slice a l.length c, .int .i64 k] w (TwoPost (0, 3) w) from by have := sel_any a c l k w _ hm (by omega) hu; rw [M.selR, if_pos hk.2] at this; exact this)
  have g1 : decide (0 ≤ k) = false := by simp; omega
  have g1' : decide (k < 0) = true := by simp; omega
  have gp : decide (p < 0) = true := by simp; omega
  go_enter Try.func5, Try.ntmps5
  go_wp2_with fail
  refine (H2.out).mono ?_
  rintro e wx ⟨rfl, rfl⟩
  go_wp2_with fail
  refine (rbegun_any _).mono ?_
  rintro e w1 ⟨rfl, hb1⟩
  have hu1 := hu.next hb1
  go_wp2_with fail
  go_ret
  exact ⟨rfl, hb1⟩

set_option maxHeartbeats 1000000 in
set_option maxRecDepth 100000 in
theorem rs_A2 (w : World) (a : Option Addr) (c : Nat) (l : List Bool) (hm : l.length ≤ maxLen) (hcap : l.length ≤ c ∧ c ≤ maxLen ∧ (a = none → c = 0)) (hu : Bools w w.heap.size a l) (k : Int) (hk : -9223372036854775808 ≤ k ∧ k < 0) (p : Nat) (hp : p ≤ 9223372036854775807 ∧ l.length ≤ p) :
    Calls Try.prog 5 #[.slice a l.length c, .int .i64 p, .int .i64 k] w (BoolPost true w) := by
  have H2 := Lib.hid (show Calls Try.prog 10 #[.slice a l.length c, .int .i64 k] w (TwoPost (0, 3) w) from by have := sel_any a c l k w _ hm (by omega) hu; rw [M.selR, if_pos hk.2] at this; exact this)
  have g1 : decide (0 ≤ k) = false := by simp; omega
  have g1' : decide (k < 0) = true := by simp; omega
  have gp : decide (l.length ≤ p) = true := by simp; omega
  go_enter Try.func5, Try.ntmps5
  go_wp2_with fail
  refine (H2.out).mono ?_
  rintro e wx ⟨rfl, rfl⟩
  go_wp2_with fail
  refine (rbegun_any _).mono ?_
  rintro e w1 ⟨rfl, hb1⟩
  have hu1 := hu.next hb1
  go_wp2_with fail
  go_ret
  exact ⟨rfl, hb1⟩

set_option maxHeartbeats 1000000 in
set_option maxRecDepth 100000 in
theorem rs_A3 (w : World) (a : Option Addr) (c : Nat) (l : List Bool) (hm : l.length ≤ maxLen) (hcap : l.length ≤ c ∧ c ≤ maxLen ∧ (a = none → c = 0)) (hu : Bools w w.heap.size a l) (k : Int) (hk : -9223372036854775808 ≤ k ∧ k < 0) (p : Nat) (hp : p < l.length) (hx : l.getD p false = false) :
    Calls Try.prog 5 #[.slice a l.length c, .int .i64 p, .int .i64 k] w (BoolPost true w) := by
  have H2 := Lib.hid (show Calls Try.prog 10 #[.slice a l.length c, .int .i64 k] w (TwoPost (0, 3) w) from by have := sel_any a c l k w _ hm (by omega) hu; rw [M.selR, if_pos hk.2] at this; exact this)
  have g1 : decide (0 ≤ k) = false := by simp; omega
  have g1' : decide (k < 0) = true := by simp; omega
  obtain ⟨b0, off0, rfl, hbl0, hcell0⟩ := hu (by intro e; rw [e] at hp; simp at hp)
  have hu : Bools w w.heap.size (some ⟨b0, off0, none⟩) l := fun _ => ⟨b0, off0, rfl, hbl0, hcell0⟩
  have cp0 := hcell0 p hp
  rw [hx] at cp0
  have CP := Lib.hid cp0
  have gp : decide (l.length ≤ p) = false := by simp; omega
  clear hcell0 cp0
  clear hx
  go_enter Try.func5, Try.ntmps5
  go_wp2_with fail
  refine (H2.out).mono ?_
  rintro e wx ⟨rfl, rfl⟩
  go_wp2_with fail
  refine (rbegun_any _).mono ?_
  rintro e w1 ⟨rfl, hb1⟩
  have hu1 := hu.next hb1
  have cp1 : w1.cell? ⟨b0, off0 + p, none⟩ = some (.bool false) := by rw [hb1.cell (p := ⟨b0, off0 + p, none⟩) hbl0]; exact CP.out
  go_wp2_with fail
  go_ret
  exact ⟨rfl, hb1⟩

set_option maxHeartbeats 1000000 in
set_option maxRecDepth 100000 in
theorem rs_A4 (w : World) (a : Option Addr) (c : Nat) (l : List Bool) (hm : l.length ≤ maxLen) (hcap : l.length ≤ c ∧ c ≤ maxLen ∧ (a = none → c = 0)) (hu : Bools w w.heap.size a l) (k : Int) (hk : -9223372036854775808 ≤ k ∧ k < 0) (p : Nat) (hp : p < l.length) (hx : l.getD p false = true) :
    Calls Try.prog 5 #[.slice a l.length c, .int .i64 p, .int .i64 k] w (BoolPost true w) := by
  have H2 := Lib.hid (show Calls Try.prog 10 #[.slice a l.length c, .int .i64 k] w (TwoPost (0, 3) w) from by have := sel_any a c l k w _ hm (by omega) hu; rw [M.selR, if_pos hk.2] at this; exact this)
  have g1 : decide (0 ≤ k) = false := by simp; omega
  have g1' : decide (k < 0) = true := by simp; omega
  have H7 := Lib.hid (show ∀ w B', Bools w B' a l → Calls Try.prog 9 #[.slice a l.length c, .int .i64 p] w (TwoPost (M.cnt (l.take p), 0) w) from fun w B' hu => by have := rank_any a c l p w B' hcap hu; rw [M.rankR, if_neg (by omega), Int.toNat_natCast] at this; exact this)
  have hcb : M.cnt (l.take p) ≤ 9223372036854775807 := by have := M.cnt_le (l.take p); simp only [List.length_take] at this; unfold maxLen at hm; omega
  have H8 := Lib.hid (show ∀ w B', Bools w B' a l → Calls Try.prog 10 #[.slice a l.length c, .int .i64 (M.cnt (l.take p) : Nat)] w (TwoPost (p, 0) w) from fun w B' hu => by have := sel_any a c l (M.cnt (l.take p) : Nat) w B' hm (by omega) hu; rw [M.selR, if_neg (by omega), Int.toNat_natCast, (M.selN_some l _ p).2 ⟨hp, hx, rfl⟩] at this; exact this)
  generalize M.cnt (l.take p) = q at *
  obtain ⟨b0, off0, rfl, hbl0, hcell0⟩ := hu (by intro e; rw [e] at hp; simp at hp)
  have hu : Bools w w.heap.size (some ⟨b0, off0, none⟩) l := fun _ => ⟨b0, off0, rfl, hbl0, hcell0⟩
  have cp0 := hcell0 p hp
  rw [hx] at cp0
  have CP := Lib.hid cp0
  have gp : decide (l.length ≤ p) = false := by simp; omega
  clear hcell0 cp0
  clear hx
  go_enter Try.func5, Try.ntmps5
  go_wp2_with fail
  refine (H2.out).mono ?_
  rintro e wx ⟨rfl, rfl⟩
  go_wp2_with fail
  refine (rbegun_any _).mono ?_
  rintro e w1 ⟨rfl, hb1⟩
  have hu1 := hu.next hb1
  have cp1 : w1.cell? ⟨b0, off0 + p, none⟩ = some (.bool true) := by rw [hb1.cell (p := ⟨b0, off0 + p, none⟩) hbl0]; exact CP.out
  go_wp2_with fail
  refine (H7.out w1 _ hu1).mono ?_
  rintro e wx ⟨rfl, rfl⟩
  go_wp2_with fail
  refine (H8.out w1 _ hu1).mono ?_
  rintro e wx ⟨rfl, rfl⟩
  go_wp2_with fail
  go_ret
  exact ⟨rfl, hb1⟩

set_option maxHeartbeats 1000000 in
set_option maxRecDepth 100000 in
theorem rs_B1 (w : World) (a : Option Addr) (c : Nat) (l : List Bool) (hm : l.length ≤ maxLen) (hcap : l.length ≤ c ∧ c ≤ maxLen ∧ (a = none → c = 0)) (hu : Bools w w.heap.size a l) (k : Nat) (hk : k ≤ 9223372036854775807) (hs : M.selN l k = none) (p : Int) (hp : -9223372036854775808 ≤ p ∧ p < 0) :
    Calls Try.prog 5 #[.slice a l.length c, .int .i64 p, .int .i64 k] w (BoolPost true w) := by
  have H2 := Lib.hid (show Calls Try.prog 10 #[.slice a l.length c, .int .i64 k] w (TwoPost (0, 5) w) from by have := sel_any a c l k w _ hm (by omega) hu; rw [M.selR, if_neg (by omega), Int.toNat_natCast, hs] at this; exact this)
  have H5 := Lib.hid (fun w B' hu => count_any a c l w B' hm hu)
  have hcn := (M.selN_none l k).1 hs
  have hcl := M.cnt_le l
  have g2 : decide (k < M.cnt l) = false := by simp; omega
  generalize M.cnt l = n at *
  clear hs
  have gp : decide (p < 0) = true := by simp; omega
  go_enter Try.func5, Try.ntmps5
  go_wp2_with fail
  refine (H2.out).mono ?_
  rintro e wx ⟨rfl, rfl⟩
  go_wp2_with fail
  refine (rbegun_any _).mono ?_
  rintro e w1 ⟨rfl, hb1⟩
  have hu1 := hu.next hb1
  go_wp2_with fail
  refine (H5.out w1 _ hu1).mono ?_
  rintro e wx ⟨rfl, rfl⟩
  go_wp2_with fail
  go_ret
  exact ⟨rfl, hb1⟩

set_option maxHeartbeats 1000000 in
set_option maxRecDepth 100000 in
theorem rs_B2 (w : World) (a : Option Addr) (c : Nat) (l : List Bool) (hm : l.length ≤ maxLen) (hcap : l.length ≤ c ∧ c ≤ maxLen ∧ (a = none → c = 0)) (hu : Bools w w.heap.size a l) (k : Nat) (hk : k ≤ 9223372036854775807) (hs : M.selN l k = none) (p : Nat) (hp : p ≤ 9223372036854775807 ∧ l.length ≤ p) :
    Calls Try.prog 5 #[.slice a l.length c, .int .i64 p, .int .i64 k] w (BoolPost true w) := by
  have H2 := Lib.hid (show Calls Try.prog 10 #[.slice a l.length c, .int .i64 k] w (TwoPost (0, 5) w) from by have := sel_any a c l k w _ hm (by omega) hu; rw [M.selR, if_neg (by omega), Int.toNat_natCast, hs] at this; exact this)
  have H5 := Lib.hid (fun w B' hu => count_any a c l w B' hm hu)
  have hcn := (M.selN_none l k).1 hs
  have hcl := M.cnt_le l
  have g2 : decide (k < M.cnt l) = false := by simp; omega
  generalize M.cnt l = n at *
  clear hs
  have gp : decide (l.length ≤ p) = true := by simp; omega
  go_enter Try.func5, Try.ntmps5
  go_wp2_with fail
  refine (H2.out).mono ?_
  rintro e wx ⟨rfl, rfl⟩
  go_wp2_with fail
  refine (rbegun_any _).mono ?_
  rintro e w1 ⟨rfl, hb1⟩
  have hu1 := hu.next hb1
  go_wp2_with fail
  refine (H5.out w1 _ hu1).mono ?_
  rintro e wx ⟨rfl, rfl⟩
  go_wp2_with fail
  go_ret
  exact ⟨rfl, hb1⟩

set_option maxHeartbeats 1000000 in
set_option maxRecDepth 100000 in
theorem rs_B3 (w : World) (a : Option Addr) (c : Nat) (l : List Bool) (hm : l.length ≤ maxLen) (hcap : l.length ≤ c ∧ c ≤ maxLen ∧ (a = none → c = 0)) (hu : Bools w w.heap.size a l) (k : Nat) (hk : k ≤ 9223372036854775807) (hs : M.selN l k = none) (p : Nat) (hp : p < l.length) (hx : l.getD p false = false) :
    Calls Try.prog 5 #[.slice a l.length c, .int .i64 p, .int .i64 k] w (BoolPost true w) := by
  have H2 := Lib.hid (show Calls Try.prog 10 #[.slice a l.length c, .int .i64 k] w (TwoPost (0, 5) w) from by have := sel_any a c l k w _ hm (by omega) hu; rw [M.selR, if_neg (by omega), Int.toNat_natCast, hs] at this; exact this)
  have H5 := Lib.hid (fun w B' hu => count_any a c l w B' hm hu)
  have hcn := (M.selN_none l k).1 hs
  have hcl := M.cnt_le l
  have g2 : decide (k < M.cnt l) = false := by simp; omega
  generalize M.cnt l = n at *
  clear hs
  obtain ⟨b0, off0, rfl, hbl0, hcell0⟩ := hu (by intro e; rw [e] at hp; simp at hp)
  have hu : Bools w w.heap.size (some ⟨b0, off0, none⟩) l := fun _ => ⟨b0, off0, rfl, hbl0, hcell0⟩
  have cp0 := hcell0 p hp
  rw [hx] at cp0
  have CP := Lib.hid cp0
  have gp : decide (l.length ≤ p) = false := by simp; omega
  clear hcell0 cp0
  clear hx
  go_enter Try.func5, Try.ntmps5
  go_wp2_with fail
  refine (H2.out).mono ?_
  rintro e wx ⟨rfl, rfl⟩
  go_wp2_with fail
  refine (rbegun_any _).mono ?_
  rintro e w1 ⟨rfl, hb1⟩
  have hu1 := hu.next hb1
  go_wp2_with fail
  refine (H5.out w1 _ hu1).mono ?_
  rintro e wx ⟨rfl, rfl⟩
  have cp1 : w1.cell? ⟨b0, off0 + p, none⟩ = some (.bool false) := by rw [hb1.cell (p := ⟨b0, off0 + p, none⟩) hbl0]; exact CP.out
  go_wp2_with fail
  go_ret
  exact ⟨rfl, hb1⟩

set_option maxHeartbeats 1000000 in
set_option maxRecDepth 100000 in
theorem rs_B4 (w : World) (a : Option Addr) (c : Nat) (l : List Bool) (hm : l.length ≤ maxLen) (hcap : l.length ≤ c ∧ c ≤ maxLen ∧ (a = none → c = 0)) (hu : Bools w w.heap.size a l) (k : Nat) (hk : k ≤ 9223372036854775807) (hs : M.selN l k = none) (p : Nat) (hp : p < l.length) (hx : l.getD p false = true) :
    Calls Try.prog 5 #[.slice a l.length c, .int .i64 p, .int .i64 k] w (BoolPost true w) := by
  have H2 := Lib.hid (show Calls Try.prog 10 #[.slice a l.length c, .int .i64 k] w (TwoPost (0, 5) w) from by have := sel_any a c l k w _ hm (by omega) hu; rw [M.selR, if_neg (by omega), Int.toNat_natCast, hs] at this; exact this)
  have H5 := Lib.hid (fun w B' hu => count_any a c l w B' hm hu)
  have hcn := (M.selN_none l k).1 hs
  have hcl := M.cnt_le l
  have g2 : decide (k < M.cnt l) = false := by simp; omega
  generalize M.cnt l = n at *
  clear hs
  have H7 := Lib.hid (show ∀ w B', Bools w B' a l → Calls Try.prog 9 #[.slice a l.length c, .int .i64 p] w (TwoPost (M.cnt (l.take p), 0) w) from fun w B' hu => by have := rank_any a c l p w B' hcap hu; rw [M.rankR, if_neg (by omega), Int.toNat_natCast] at this; exact this)
  have hcb : M.cnt (l.take p) ≤ 9223372036854775807 := by have := M.cnt_le (l.take p); simp only [List.length_take] at this; unfold maxLen at hm; omega
  have H8 := Lib.hid (show ∀ w B', Bools w B' a l → Calls Try.prog 10 #[.slice a l.length c, .int .i64 (M.cnt (l.take p) : Nat)] w (TwoPost (p, 0) w) from fun w B' hu => by have := sel_any a c l (M.cnt (l.take p) : Nat) w B' hm (by omega) hu; rw [M.selR, if_neg (by omega), Int.toNat_natCast, (M.selN_some l _ p).2 ⟨hp, hx, rfl⟩] at this; exact this)
  generalize M.cnt (l.take p) = q at *
  obtain ⟨b0, off0, rfl, hbl0, hcell0⟩ := hu (by intro e; rw [e] at hp; simp at hp)
  have hu : Bools w w.heap.size (some ⟨b0, off0, none⟩) l := fun _ => ⟨b0, off0, rfl, hbl0, hcell0⟩
  have cp0 := hcell0 p hp
  rw [hx] at cp0
  have CP := Lib.hid cp0
  have gp : decide (l.length ≤ p) = false := by simp; omega
  clear hcell0 cp0
  clear hx
  go_enter Try.func5, Try.ntmps5
  go_wp2_with fail
  refine (H2.out).mono ?_
  rintro e wx ⟨rfl, rfl⟩
  go_wp2_with fail
  refine (rbegun_any _).mono ?_
  rintro e w1 ⟨rfl, hb1⟩
  have hu1 := hu.next hb1
  go_wp2_with fail
  refine (H5.out w1 _ hu1).mono ?_
  rintro e wx ⟨rfl, rfl⟩
  have cp1 : w1.cell? ⟨b0, off0 + p, none⟩ = some (.bool true) := by rw [hb1.cell (p := ⟨b0, off0 + p, none⟩) hbl0]; exact CP.out
  go_wp2_with fail
  refine (H7.out w1 _ hu1).mono ?_
  rintro e wx ⟨rfl, rfl⟩
  go_wp2_with fail
  refine (H8.out w1 _ hu1).mono ?_
  rintro e wx ⟨rfl, rfl⟩
  go_wp2_with fail
  go_ret
  exact ⟨rfl, hb1⟩

set_option maxHeartbeats 1000000 in
set_option maxRecDepth 100000 in
theorem rs_C1 (w : World) (a : Option Addr) (c : Nat) (l : List Bool) (hm : l.length ≤ maxLen) (hcap : l.length ≤ c ∧ c ≤ maxLen ∧ (a = none → c = 0)) (hu : Bools w w.heap.size a l) (k : Nat) (hk : k ≤ 9223372036854775807) (i : Nat) (hs : M.selN l k = some i) (p : Int) (hp : -9223372036854775808 ≤ p ∧ p < 0) :
    Calls Try.prog 5 #[.slice a l.length c, .int .i64 p, .int .i64 k] w (BoolPost true w) := by
  have H2 := Lib.hid (show Calls Try.prog 10 #[.slice a l.length c, .int .i64 k] w (TwoPost (i, 0) w) from by have := sel_any a c l k w _ hm (by omega) hu; rw [M.selR, if_neg (by omega), Int.toNat_natCast, hs] at this; exact this)
  have H5 := Lib.hid (fun w B' hu => count_any a c l w B' hm hu)
  obtain ⟨hil, hix, hic⟩ := (M.selN_some l k i).1 hs
  have HR := Lib.hid (show ∀ w B', Bools w B' a l → Calls Try.prog 9 #[.slice a l.length c, .int .i64 i] w (TwoPost (k, 0) w) from fun w B' hu => by have := rank_any a c l i w B' hcap hu; rw [M.rankR, if_neg (by omega), Int.toNat_natCast, hic] at this; exact this)
  have hcn : k < M.cnt l := by
    have h1 := M.cnt_snoc l i hil
    rw [hix, hic] at h1
    have h2 := M.cnt_take_le l (i + 1)
    simp at h1; omega
  have hcl := M.cnt_le l
  have g2 : decide (k < M.cnt l) = true := by simp; omega
  have g3 : decide (l.length ≤ i) = false := by simp; omega
  have HIX := Lib.hid hix
  obtain ⟨b, off, rfl, hbl, hcell⟩ := hu (by intro e; rw [e] at hil; simp at hil)
  have hu : Bools w w.heap.size (some ⟨b, off, none⟩) l := fun _ => ⟨b, off, rfl, hbl, hcell⟩
  have HCELL := Lib.hid hcell
  generalize M.cnt l = n at *
  clear hs hix hic hcell
  have gp : decide (p < 0) = true := by simp; omega
  go_enter Try.func5, Try.ntmps5
  go_wp2_with fail
  refine (H2.out).mono ?_
  rintro e wx ⟨rfl, rfl⟩
  go_wp2_with fail
  refine (rbegun_any _).mono ?_
  rintro e w1 ⟨rfl, hb1⟩
  have hu1 := hu.next hb1
  go_wp2_with fail
  refine (H5.out w1 _ hu1).mono ?_
  rintro e wx ⟨rfl, rfl⟩
  go_wp2_with fail
  refine (HR.out w1 _ hu1).mono ?_
  rintro e wx ⟨rfl, rfl⟩
  have ci : w1.cell? ⟨b, off + i, none⟩ = some (.bool true) := by rw [hb1.cell (p := ⟨b, off + i, none⟩) hbl, HCELL.out i hil, HIX.out]
  go_wp2_with fail
  go_ret
  exact ⟨rfl, hb1⟩

set_option maxHeartbeats 1000000 in
set_option maxRecDepth 100000 in
theorem rs_C2 (w : World) (a : Option Addr) (c : Nat) (l : List Bool) (hm : l.length ≤ maxLen) (hcap : l.length ≤ c ∧ c ≤ maxLen ∧ (a = none → c = 0)) (hu : Bools w w.heap.size a l) (k : Nat) (hk : k ≤ 9223372036854775807) (i : Nat) (hs : M.selN l k = some i) (p : Nat) (hp : p ≤ 9223372036854775807 ∧ l.length ≤ p) :
    Calls Try.prog 5 #[.slice a l.length c, .int .i64 p, .int .i64 k] w (BoolPost true w) := by
  have H2 := Lib.hid (show Calls Try.prog 10 #[.slice a l.length c, .int .i64 k] w (TwoPost (i, 0) w) from by have := sel_any a c l k w _ hm (by omega) hu; rw [M.selR, if_neg (by omega), Int.toNat_natCast, hs] at this; exact this)
  have H5 := Lib.hid (fun w B' hu => count_any a c l w B' hm hu)
  obtain ⟨hil, hix, hic⟩ := (M.selN_some l k i).1 hs
  have HR := Lib.hid (show ∀ w B', Bools w B' a l → Calls Try.prog 9 #[.slice a l.length c, .int .i64 i] w (TwoPost (k, 0) w) from fun w B' hu => by have := rank_any a c l i w B' hcap hu; rw [M.rankR, if_neg (by omega), Int.toNat_natCast, hic] at this; exact this)
  have hcn : k < M.cnt l := by
    have h1 := M.cnt_snoc l i hil
    rw [hix, hic] at h1
    have h2 := M.cnt_take_le l (i + 1)
    simp at h1; omega
  have hcl := M.cnt_le l
  have g2 : decide (k < M.cnt l) = true := by simp; omega
  have g3 : decide (l.length ≤ i) = false := by simp; omega
  have HIX := Lib.hid hix
  obtain ⟨b, off, rfl, hbl, hcell⟩ := hu (by intro e; rw [e] at hil; simp at hil)
  have hu : Bools w w.heap.size (some ⟨b, off, none⟩) l := fun _ => ⟨b, off, rfl, hbl, hcell⟩
  have HCELL := Lib.hid hcell
  generalize M.cnt l = n at *
  clear hs hix hic hcell
  have gp : decide (l.length ≤ p) = true := by simp; omega
  go_enter Try.func5, Try.ntmps5
  go_wp2_with fail
  refine (H2.out).mono ?_
  rintro e wx ⟨rfl, rfl⟩
  go_wp2_with fail
  refine (rbegun_any _).mono ?_
  rintro e w1 ⟨rfl, hb1⟩
  have hu1 := hu.next hb1
  go_wp2_with fail
  refine (H5.out w1 _ hu1).mono ?_
  rintro e wx ⟨rfl, rfl⟩
  go_wp2_with fail
  refine (HR.out w1 _ hu1).mono ?_
  rintro e wx ⟨rfl, rfl⟩
  have ci : w1.cell? ⟨b, off + i, none⟩ = some (.bool true) := by rw [hb1.cell (p := ⟨b, off + i, none⟩) hbl, HCELL.out i hil, HIX.out]
  go_wp2_with fail
  go_ret
  exact ⟨rfl, hb1⟩

set_option maxHeartbeats 1000000 in
set_option maxRecDepth 100000 in
theorem rs_C3 (w : World) (a : Option Addr) (c : Nat) (l : List Bool) (hm : l.length ≤ maxLen) (hcap : l.length ≤ c ∧ c ≤ maxLen ∧ (a = none → c = 0)) (hu : Bools w w.heap.size a l) (k : Nat) (hk : k ≤ 9223372036854775807) (i : Nat) (hs : M.selN l k = some i) (p : Nat) (hp : p < l.length) (hx : l.getD p false = false) :
    Calls Try.prog 5 #[.slice a l.length c, .int .i64 p, .int .i64 k] w (BoolPost true w) := by
  have H2 := Lib.hid (show Calls Try.prog 10 #[.slice a l.length c, .int .i64 k] w (TwoPost (i, 0) w) from by have := sel_any a c l k w _ hm (by omega) hu; rw [M.selR, if_neg (by omega), Int.toNat_natCast, hs] at this; exact this)
  have H5 := Lib.hid (fun w B' hu => count_any a c l w B' hm hu)
  obtain ⟨hil, hix, hic⟩ := (M.selN_some l k i).1 hs
  have HR := Lib.hid (show ∀ w B', Bools w B' a l → Calls Try.prog 9 #[.slice a l.length c, .int .i64 i] w (TwoPost (k, 0) w) from fun w B' hu => by have := rank_any a c l i w B' hcap hu; rw [M.rankR, if_neg (by omega), Int.toNat_natCast, hic] at this; exact this)
  have hcn : k < M.cnt l := by
    have h1 := M.cnt_snoc l i hil
    rw [hix, hic] at h1
    have h2 := M.cnt_take_le l (i + 1)
    simp at h1; omega
  have hcl := M.cnt_le l
  have g2 : decide (k < M.cnt l) = true := by simp; omega
  have g3 : decide (l.length ≤ i) = false := by simp; omega
  have HIX := Lib.hid hix
  obtain ⟨b, off, rfl, hbl, hcell⟩ := hu (by intro e; rw [e] at hil; simp at hil)
  have hu : Bools w w.heap.size (some ⟨b, off, none⟩) l := fun _ => ⟨b, off, rfl, hbl, hcell⟩
  have HCELL := Lib.hid hcell
  generalize M.cnt l = n at *
  clear hs hix hic hcell
  obtain ⟨b0, off0, he0, hbl0, hcell0⟩ := hu (by intro e; rw [e] at hp; simp at hp)
  injection he0 with he0
  injection he0 with he1 he2
  subst he1
  subst he2
  have hu : Bools w w.heap.size (some ⟨b, off, none⟩) l := fun _ => ⟨b, off, rfl, hbl0, hcell0⟩
  have cp0 := hcell0 p hp
  rw [hx] at cp0
  have CP := Lib.hid cp0
  have gp : decide (l.length ≤ p) = false := by simp; omega
  clear hcell0 cp0
  clear hx
  go_enter Try.func5, Try.ntmps5
  go_wp2_with fail
  refine (H2.out).mono ?_
  rintro e wx ⟨rfl, rfl⟩
  go_wp2_with fail
  refine (rbegun_any _).mono ?_
  rintro e w1 ⟨rfl, hb1⟩
  have hu1 := hu.next hb1
  go_wp2_with fail
  refine (H5.out w1 _ hu1).mono ?_
  rintro e wx ⟨rfl, rfl⟩
  go_wp2_with fail
  refine (HR.out w1 _ hu1).mono ?_
  rintro e wx ⟨rfl, rfl⟩
  have ci : w1.cell? ⟨b, off + i, none⟩ = some (.bool true) := by rw [hb1.cell (p := ⟨b, off + i, none⟩) hbl, HCELL.out i hil, HIX.out]
  have cp1 : w1.cell? ⟨b, off + p, none⟩ = some (.bool false) := by rw [hb1.cell (p := ⟨b, off + p, none⟩) hbl0]; exact CP.out
  go_wp2_with fail
  go_ret
  exact ⟨rfl, hb1⟩

set_option maxHeartbeats 1000000 in
set_option maxRecDepth 100000 in
theorem rs_C4 (w : World) (a : Option Addr) (c : Nat) (l : List Bool) (hm : l.length ≤ maxLen) (hcap : l.length ≤ c ∧ c ≤ maxLen ∧ (a = none → c = 0)) (hu : Bools w w.heap.size a l) (k : Nat) (hk : k ≤ 9223372036854775807) (i : Nat) (hs : M.selN l k = some i) (p : Nat) (hp : p < l.length) (hx : l.getD p false = true) :
    Calls Try.prog 5 #[.slice a l.length c, .int .i64 p, .int .i64 k] w (BoolPost true w) := by
  have H2 := Lib.hid (show Calls Try.prog 10 #[.slice a l.length c, .int .i64 k] w (TwoPost (i, 0) w) from by have := sel_any a c l k w _ hm (by omega) hu; rw [M.selR, if_neg (by omega), Int.toNat_natCast, hs] at this; exact this)
  have H5 := Lib.hid (fun w B' hu => count_any a c l w B' hm hu)
  obtain ⟨hil, hix, hic⟩ := (M.selN_some l k i).1 hs
  have HR := Lib.hid (show ∀ w B', Bools w B' a l → Calls Try.prog 9 #[.slice a l.length c, .int .i64 i] w (TwoPost (k, 0) w) from fun w B' hu => by have := rank_any a c l i w B' hcap hu; rw [M.rankR, if_neg (by omega), Int.toNat_natCast, hic] at this; exact this)
  have hcn : k < M.cnt l := by
    have h1 := M.cnt_snoc l i hil
    rw [hix, hic] at h1
    have h2 := M.cnt_take_le l (i + 1)
    simp at h1; omega
  have hcl := M.cnt_le l
  have g2 : decide (k < M.cnt l) = true := by simp; omega
  have g3 : decide (l.length ≤ i) = false := by simp; omega
  have HIX := Lib.hid hix
  obtain ⟨b, off, rfl, hbl, hcell⟩ := hu (by intro e; rw [e] at hil; simp at hil)
  have hu : Bools w w.heap.size (some ⟨b, off, none⟩) l := fun _ => ⟨b, off, rfl, hbl, hcell⟩
  have HCELL := Lib.hid hcell
  generalize M.cnt l = n at *
  clear hs hix hic hcell
  have H7 := Lib.hid (show ∀ w B', Bools w B' (some ⟨b, off, none⟩) l → Calls Try.prog 9 #[.slice (some ⟨b, off, none⟩) l.length c, .int .i64 p] w (TwoPost (M.cnt (l.take p), 0) w) from fun w B' hu => by have := rank_any _ c l p w B' hcap hu; rw [M.rankR, if_neg (by omega), Int.toNat_natCast] at this; exact this)
  have hcb : M.cnt (l.take p) ≤ 9223372036854775807 := by have := M.cnt_le (l.take p); simp only [List.length_take] at this; unfold maxLen at hm; omega
  have H8 := Lib.hid (show ∀ w B', Bools w B' (some ⟨b, off, none⟩) l → Calls Try.prog 10 #[.slice (some ⟨b, off, none⟩) l.length c, .int .i64 (M.cnt (l.take p) : Nat)] w (TwoPost (p, 0) w) from fun w B' hu => by have := sel_any _ c l (M.cnt (l.take p) : Nat) w B' hm (by omega) hu; rw [M.selR, if_neg (by omega), Int.toNat_natCast, (M.selN_some l _ p).2 ⟨hp, hx, rfl⟩] at this; exact this)
  generalize M.cnt (l.take p) = q at *
  obtain ⟨b0, off0, he0, hbl0, hcell0⟩ := hu (by intro e; rw [e] at hp; simp at hp)
  injection he0 with he0
  injection he0 with he1 he2
  subst he1
  subst he2
  have hu : Bools w w.heap.size (some ⟨b, off, none⟩) l := fun _ => ⟨b, off, rfl, hbl0, hcell0⟩
  have cp0 := hcell0 p hp
  rw [hx] at cp0
  have CP := Lib.hid cp0
  have gp : decide (l.length ≤ p) = false := by simp; omega
  clear hcell0 cp0
  clear hx
  go_enter Try.func5, Try.ntmps5
  go_wp2_with fail
  refine (H2.out).mono ?_
  rintro e wx ⟨rfl, rfl⟩
  go_wp2_with fail
  refine (rbegun_any _).mono ?_
  rintro e w1 ⟨rfl, hb1⟩
  have hu1 := hu.next hb1
  go_wp2_with fail
  refine (H5.out w1 _ hu1).mono ?_
  rintro e wx ⟨rfl, rfl⟩
  go_wp2_with fail
  refine (HR.out w1 _ hu1).mono ?_
  rintro e wx ⟨rfl, rfl⟩
  have ci : w1.cell? ⟨b, off + i, none⟩ = some (.bool true) := by rw [hb1.cell (p := ⟨b, off + i, none⟩) hbl, HCELL.out i hil, HIX.out]
  have cp1 : w1.cell? ⟨b, off + p, none⟩ = some (.bool true) := by rw [hb1.cell (p := ⟨b, off + p, none⟩) hbl0]; exact CP.out
  go_wp2_with fail
  refine (H7.out w1 _ hu1).mono ?_
  rintro e wx ⟨rfl, rfl⟩
  go_wp2_with fail
  refine (H8.out w1 _ hu1).mono ?_
  rintro e wx ⟨rfl, rfl⟩
  go_wp2_with fail
  go_ret
  exact ⟨rfl, hb1⟩

theorem rankSelects_walk (w : World) (a : Option Addr) (c : Nat) (l : List Bool) (hm : l.length ≤ maxLen) (hcap : l.length ≤ c ∧ c ≤ maxLen ∧ (a = none → c = 0)) (hu : Bools w w.heap.size a l)
    (p : Int) (hp : -9223372036854775808 ≤ p ∧ p ≤ 9223372036854775807) (k : Int) (hk : -9223372036854775808 ≤ k ∧ k ≤ 9223372036854775807) :
    Calls Try.prog 5 #[.slice a l.length c, .int .i64 p, .int .i64 k] w (BoolPost true w) := by
  by_cases k0 : k < 0
  · by_cases p0 : p < 0
    · exact rs_A1 w a c l hm hcap hu k ⟨hk.1, k0⟩ p ⟨hp.1, p0⟩
    obtain ⟨p, rfl⟩ : ∃ m : Nat, p = m := ⟨p.toNat, by omega⟩
    by_cases p1 : l.length ≤ p
    · exact rs_A2 w a c l hm hcap hu k ⟨hk.1, k0⟩ p ⟨by omega, p1⟩
    cases hx : l.getD p false with
    | false => exact rs_A3 w a c l hm hcap hu k ⟨hk.1, k0⟩ p (by omega) hx
    | true => exact rs_A4 w a c l hm hcap hu k ⟨hk.1, k0⟩ p (by omega) hx
  obtain ⟨k, rfl⟩ : ∃ m : Nat, k = m := ⟨k.toNat, by omega⟩
  cases hs : M.selN l k with
  | none =>
    by_cases p0 : p < 0
    · exact rs_B1 w a c l hm hcap hu k (by omega) hs p ⟨hp.1, p0⟩
    obtain ⟨p, rfl⟩ : ∃ m : Nat, p = m := ⟨p.toNat, by omega⟩
    by_cases p1 : l.length ≤ p
    · exact rs_B2 w a c l hm hcap hu k (by omega) hs p ⟨by omega, p1⟩
    cases hx : l.getD p false with
    | false => exact rs_B3 w a c l hm hcap hu k (by omega) hs p (by omega) hx
    | true => exact rs_B4 w a c l hm hcap hu k (by omega) hs p (by omega) hx
  | some i =>
    by_cases p0 : p < 0
    · exact rs_C1 w a c l hm hcap hu k (by omega) i hs p ⟨hp.1, p0⟩
    obtain ⟨p, rfl⟩ : ∃ m : Nat, p = m := ⟨p.toNat, by omega⟩
    by_cases p1 : l.length ≤ p
    · exact rs_C2 w a c l hm hcap hu k (by omega) i hs p ⟨by omega, p1⟩
    cases hx : l.getD p false with
    | false => exact rs_C3 w a c l hm hcap hu k (by omega) i hs p (by omega) hx
    | true => exact rs_C4 w a c l hm hcap hu k (by omega) i hs p (by omega) hx
end Go.Proofs.Ythmlafoceacliaa
