/- The laws FrontTells, FrontReads, FrontBack, FrontOnly. -/
import Derived.Test.YtplhlnlonjlcaaaFL1
import Derived.Test.YtplhlnlonjlcaaaFR3
namespace Go.Proofs.Ytplhlnlonjlcaaa
open Go.RowKit
set_option linter.unusedVariables false

theorem ffit_of {l : List (List UInt8)} (h1 : l.length ≤ 64) (h2 : ∀ x ∈ l, x.length ≤ 16) : fitR l = 0 := by
  unfold fitR
  rw [if_neg]
  rintro (h | h)
  · omega
  · obtain ⟨h3, h4⟩ := (⟨h, List.findIdx_getElem (w := h)⟩ : ∃ h : l.findIdx long < l.length, long (l[l.findIdx long]) = true)
    have := h2 _ (List.getElem_mem h3)
    simp [long] at h4
    omega
theorem fwR_bad {l : List (List UInt8)} (h : fitR l ≠ 0) : fwR l = ([], 2) := by unfold fwR; rw [if_pos h]
theorem fwR_ok {l : List (List UInt8)} (h : fitR l = 0) : fwR l = (F.fb [] l, 0) := by unfold fwR; rw [if_neg (by simp [h])]
theorem fread_err (s : List UInt8) (n : Int) (h : (freadR s n).2 ≠ 0) : (freadR s n).1 = [] := by
  unfold freadR at *
  by_cases h0 : n < 0
  · rw [if_pos h0]
  rw [if_neg h0] at h ⊢
  by_cases h1 : 64 < n
  · rw [if_pos h1]
  rw [if_neg h1] at h ⊢
  exact F.fr_err _ _ _ h
theorem fread_good (s : List UInt8) (n : Int) (h : (freadR s n).2 = 0) : (freadR s n).1.length = n.toNat ∧ 0 ≤ n ∧ n ≤ 64 ∧ fwR (freadR s n).1 = (s, 0) := by
  unfold freadR at *
  by_cases h0 : n < 0
  · rw [if_pos h0] at h; exact absurd h (by decide)
  rw [if_neg h0] at h ⊢
  by_cases h1 : 64 < n
  · rw [if_pos h1] at h; exact absurd h (by decide)
  rw [if_neg h1] at h ⊢
  obtain ⟨f1, f2, f3⟩ := F.fr_ok n.toNat [] s (F.fr n.toNat [] s).1 (by rw [← h])
  refine ⟨f2, by omega, by omega, ?_⟩
  rw [fwR_ok (ffit_of (by omega) f3), f1]
theorem fread_many (s : List UInt8) (n : Int) : (freadR s n).1.length ≤ 64 := by
  by_cases h : (freadR s n).2 = 0
  · obtain ⟨a, b, c, _⟩ := fread_good s n h; omega
  · rw [fread_err s n h]; simp

set_option maxHeartbeats 1000000 in
set_option maxRecDepth 100000 in
theorem frontTells_walk (w : World) (s0 : ByteArray) (hs0 : s0.size ≤ maxLen) (s1 : ByteArray) (hs1 : s1.size ≤ maxLen) (a : Option Addr) (c : Nat) (l : List (List UInt8)) (hm : l.length ≤ maxLen) (hcap : l.length ≤ c ∧ c ≤ maxLen ∧ (a = none → c = 0)) (hx : ∀ x ∈ l, x.length ≤ maxLen) (hu : Txts w w.heap.size a l) :
    Calls Try.prog 3 #[.string s0, .string s1, .slice a l.length c] w (BoolPost true w) := by
  obtain ⟨x, ha, la⟩ := str_ex s0
  obtain ⟨y, hb, lb⟩ := str_ex s1
  have hsh := fun W => shared_any x y W (by omega) (by omega)
  have hso := fun W => sharedOf_any x y W (by omega) (by omega)
  rw [← ha, ← hb] at hsh hso
  generalize F.sh x y = z at *
  have HSH := Lib.hid hsh
  have HSO := Lib.hid hso
  have hfw := fwrite_any a c l w hu
  unfold FwPost at hfw
  have hma := fun W (hb : Below w.heap.size w W) => many_any a c l W hm (hu.next hb)
  by_cases hf : fitR l = 0
  · rw [fwR_ok hf] at hfw
    have hfb := fun W (hb : Below w.heap.size w W) => fbytes_any a c l W hf (hu.next hb)
    unfold TextPost at hfb
    rw [decide_eq_false (by simp [hf])] at hma
    simp only at hfw
    generalize str (F.fb [] l) = T at *
    have HFW := Lib.hid hfw
    have HMA := Lib.hid hma
    have HFB := Lib.hid hfb
    clear ha hb la lb hsh hso hfw hma hfb hf hx hu
    go_enter Try.func3, Try.ntmps3
    go_wp2_with fail
    refine (HFW.out).mono ?_
    rintro e w1 ⟨rfl, hb1⟩
    go_wp2_with fail
    refine (HMA.out _ hb1).mono ?_
    rintro e w2 ⟨rfl, rfl⟩
    go_wp2_with fail
    refine (HFB.out _ hb1).mono ?_
    rintro e w3 ⟨rfl, hb3⟩
    go_wp2_with fail
    refine (fbegun_any _).mono ?_
    rintro e w4 ⟨rfl, hb4⟩
    go_wp2_with fail
    refine (HSH.out _).mono ?_
    rintro e w5 ⟨rfl, d5, rfl⟩
    go_wp2_with fail
    refine (HSO.out _).mono ?_
    rintro e w6 ⟨rfl, d6, rfl⟩
    go_wp2_with fail
    go_ret
    exact ⟨by first | rfl | simp, below_drewN (below_then (below_then hb1 hb3) hb4) _⟩
  · rw [fwR_bad hf] at hfw
    rw [decide_eq_true hf] at hma
    simp only at hfw
    have HFW := Lib.hid hfw
    have HMA := Lib.hid hma
    have hre : (str []).toList.isEmpty = true := by rw [str_toList]; rfl
    have hre2 : (str []).toList = [] := str_toList _
    clear ha hb la lb hsh hso hfw hma hf hx hu
    go_enter Try.func3, Try.ntmps3
    go_wp2_with fail
    refine (HFW.out).mono ?_
    rintro e w1 ⟨rfl, hb1⟩
    go_wp2_with fail
    refine (HMA.out _ hb1).mono ?_
    rintro e w2 ⟨rfl, rfl⟩
    go_wp2_with fail
    refine (fbegun_any _).mono ?_
    rintro e w4 ⟨rfl, hb4⟩
    go_wp2_with fail
    refine (HSH.out _).mono ?_
    rintro e w5 ⟨rfl, d5, rfl⟩
    go_wp2_with fail
    refine (HSO.out _).mono ?_
    rintro e w6 ⟨rfl, d6, rfl⟩
    go_wp2_with fail
    go_ret
    exact ⟨by first | rfl | simp, below_drewN (below_then hb1 hb4) _⟩

set_option maxHeartbeats 1000000 in
set_option maxRecDepth 100000 in
theorem frontReads_walk (w : World) (s0 : ByteArray) (hs0 : s0.size ≤ maxLen) (n : Int) (hn : -9223372036854775808 ≤ n ∧ n ≤ 9223372036854775807) :
    Calls Try.prog 4 #[.string s0, .int .i64 n] w (BoolPost true w) := by
  obtain ⟨x, ha, la⟩ := str_ex s0
  have hfr := fun W => fread_any x n W (by omega)
  have hfo := fun W => fof_any x n W (by omega)
  rw [← ha] at hfr hfo
  have hlen := fread_many x n
  obtain ⟨l, er, hr⟩ : ∃ l er, freadR x n = (l, er) := ⟨_, _, rfl⟩
  rw [hr] at hfr hfo hlen
  unfold TextsPost at hfr hfo
  simp only at hfr hfo hlen
  have HFR := Lib.hid hfr
  have HFO := Lib.hid hfo
  have hsm := fun W a c a' c' h1 h2 => tsame_any a a' c c' l l W W.heap.size h1 h2 (by omega)
  rw [decide_eq_true rfl] at hsm
  have HSM := Lib.hid hsm
  clear hsm hfr hfo hr ha la
  go_enter Try.func4, Try.ntmps4
  go_wp2_with fail
  refine (HFR.out _).mono ?_
  rintro e w1 ⟨a1, c1, rfl, t1, hb1⟩
  go_wp2_with fail
  refine (HFO.out _).mono ?_
  rintro e w2 ⟨a2, c2, rfl, t2, hb2⟩
  go_wp2_with fail
  refine (fbegun_any _).mono ?_
  rintro e w4 ⟨rfl, hb4⟩
  go_wp2_with fail
  refine (HSM.out _ _ _ _ _ ((t1.next hb2).next hb4) (t2.next hb4)).mono ?_
  rintro e w5 ⟨rfl, hb5⟩
  go_wp2_with fail
  go_ret
  exact ⟨by first | rfl | simp, below_then (below_then (below_then hb1 hb2) hb4) hb5⟩

set_option maxHeartbeats 1000000 in
set_option maxRecDepth 100000 in
theorem frontBack_walk (w : World) (a : Option Addr) (c : Nat) (l : List (List UInt8)) (hm : l.length ≤ maxLen) (hcap : l.length ≤ c ∧ c ≤ maxLen ∧ (a = none → c = 0)) (hx : ∀ x ∈ l, x.length ≤ maxLen) (hu : Txts w w.heap.size a l) :
    Calls Try.prog 5 #[.slice a l.length c] w (BoolPost true w) := by
  have hfw := fwrite_any a c l w hu
  unfold FwPost at hfw
  by_cases hf : fitR l = 0
  · rw [fwR_ok hf] at hfw
    obtain ⟨hl, hx16, _⟩ := ffit_zero hf
    have hbd := fb_bound l [] hx16
    have hfr := fun W => fread_any (F.fb [] l) (l.length : Nat) W (by unfold maxLen; omega)
    have hrr : freadR (F.fb [] l) (l.length : Nat) = (l, 0) := by
      unfold freadR
      rw [if_neg (by omega), if_neg (by omega)]
      exact F.fr_fb l [] hx16
    rw [hrr] at hfr
    unfold TextsPost at hfr
    simp only at hfr hfw
    have hsm := fun W a' c' h1 h2 => tsame_any a' a c' c l l W W.heap.size h1 h2 (by omega)
    rw [decide_eq_true rfl] at hsm
    generalize str (F.fb [] l) = T at *
    have HFW := Lib.hid hfw
    have HFR := Lib.hid hfr
    have HSM := Lib.hid hsm
    have HU := Lib.hid hu
    clear hfw hfr hsm hx hx16 hbd hrr hf hu
    go_enter Try.func5, Try.ntmps5
    go_wp2_with fail
    refine (HFW.out).mono ?_
    rintro e w1 ⟨rfl, hb1⟩
    go_wp2_with fail
    refine (fbegun_any _).mono ?_
    rintro e w4 ⟨rfl, hb4⟩
    have h4 := below_then hb1 hb4
    go_wp2_with fail
    refine (HFR.out _).mono ?_
    rintro e w2 ⟨a2, c2, rfl, t2, hb2⟩
    have h2 := below_then h4 hb2
    go_wp2_with fail
    refine (HSM.out _ _ _ t2 (HU.out.next h2)).mono ?_
    rintro e w5 ⟨rfl, hb5⟩
    go_wp2_with fail
    go_ret
    exact ⟨by first | rfl | simp, below_then h2 hb5⟩
  · rw [fwR_bad hf] at hfw
    simp only at hfw
    have HFW := Lib.hid hfw
    have hre : (str []).toList.isEmpty = true := by rw [str_toList]; rfl
    have hre2 : (str []).toList = [] := str_toList _
    clear hfw hf hx hu
    go_enter Try.func5, Try.ntmps5
    go_wp2_with fail
    refine (HFW.out).mono ?_
    rintro e w1 ⟨rfl, hb1⟩
    go_wp2_with fail
    refine (fbegun_any _).mono ?_
    rintro e w4 ⟨rfl, hb4⟩
    go_wp2_with fail
    go_ret
    exact ⟨by first | rfl | simp, below_then hb1 hb4⟩

set_option maxHeartbeats 1000000 in
set_option maxRecDepth 100000 in
theorem frontOnly_walk (w : World) (s0 : ByteArray) (hs0 : s0.size ≤ maxLen) (n : Int) (hn : -9223372036854775808 ≤ n ∧ n ≤ 9223372036854775807) :
    Calls Try.prog 6 #[.string s0, .int .i64 n] w (BoolPost true w) := by
  obtain ⟨x, ha, la⟩ := str_ex s0
  have hfr := fun W => fread_any x n W (by omega)
  rw [← ha] at hfr
  have hgood := fread_good x n
  have herr := fread_err x n
  obtain ⟨l, er, hr⟩ : ∃ l er, freadR x n = (l, er) := ⟨_, _, rfl⟩
  rw [hr] at hfr hgood herr
  unfold TextsPost at hfr
  simp only at hfr hgood herr
  by_cases h0 : er = 0
  · subst h0
    obtain ⟨q1, q2, q3, q4⟩ := hgood rfl
    have hfw := fun W a c h => fwrite_any a c l W h
    rw [q4] at hfw
    unfold FwPost at hfw
    simp only at hfw
    rw [← ha] at hfw
    have g1 : ((l.length : Int) == n) = true := by rw [beq_iff_eq]; omega
    have hln : (l.length : Int) = n := by omega
    have HFR := Lib.hid hfr
    have HFW := Lib.hid hfw
    clear hgood herr hfr hfw hr ha la q1 q4
    go_enter Try.func6, Try.ntmps6
    go_wp2_with fail
    refine (HFR.out _).mono ?_
    rintro e w1 ⟨a1, c1, rfl, t1, hb1⟩
    go_wp2_with fail
    refine (fbegun_any _).mono ?_
    rintro e w4 ⟨rfl, hb4⟩
    go_wp2_with fail
    refine (HFW.out _ _ _ (t1.next hb4)).mono ?_
    rintro e w5 ⟨rfl, hb5⟩
    go_wp2_with fail
    go_ret
    exact ⟨by first | rfl | simp, below_then (below_then hb1 hb4) hb5⟩
  · obtain rfl := herr h0
    have g1 : ((er : Int) != 0) = true := by rw [bne_iff_ne]; omega
    have HFR := Lib.hid hfr
    clear hgood herr hfr hr ha la
    go_enter Try.func6, Try.ntmps6
    go_wp2_with fail
    refine (HFR.out _).mono ?_
    rintro e w1 ⟨a1, c1, rfl, t1, hb1⟩
    go_wp2_with fail
    refine (fbegun_any _).mono ?_
    rintro e w4 ⟨rfl, hb4⟩
    go_wp2_with fail
    go_ret
    exact ⟨by first | rfl | simp, below_then hb1 hb4⟩
end Go.Proofs.Ytplhlnlonjlcaaa
