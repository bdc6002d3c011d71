/- The walks of codec.best at texts, BestTexts. -/
import Derived.Test.YtmiboibadccceaaGreatKW2
import Derived.Test.YtmiboibadccceaaGreatKW4
namespace Go.Proofs.YtmiboibadccceaaGreat
open Go.RowKit
set_option linter.unusedVariables false

def bestTR (l : List (List UInt8)) : List UInt8 × Nat := if fitR l ≠ 0 then ([], 2) else (bestTW l, 0)
theorem bestTW_left (l : List (List UInt8)) : bestTW l = lstep (lstep (txB 5 l) (txB 6 l)) (txB 7 l) := by
  simp only [lstep_b, bstep_assoc]; rfl
def bstT (l : List (List UInt8)) : Nat → List UInt8
  | 0 => []
  | 1 => txB 5 l
  | m + 2 => lstep (bstT l (m + 1)) (txB (m + 6) l)
set_option maxHeartbeats 2000000 in
set_option maxRecDepth 100000 in
theorem kbestt_any (a : Option Addr) (c : Nat) (l : List (List UInt8)) (w : World) (hu : Txts w w.heap.size a l) :
    Calls Tryz.prog 50 #[.slice a l.length c, .int .i64 5, .int .i64 7, .func (.func 17) #[] #[]] w (PackPost (bestTR l) w) := by
  have HK := fun (m : Nat) W (hb : Below w.heap.size w W) => ktexts_any m a c l W (hu.next hb)
  by_cases h1 : fitR l ≠ 0
  · have HR := Lib.hid (show bestTR l = ([], 2) from if_pos h1)
    have HN := Lib.hid (fun W (hb : Below w.heap.size w W) => by have h := HK 5 W hb; rw [show txtR ((5 : Nat) : Int) l = ([], 2) by unfold txtR; rw [if_neg (by omega), if_pos h1]] at h; exact h)
    clear HK hu
    go_enter Tryz.func50, Tryz.ntmps50
    go_wp2_with fail
    refine wp_loop_rounds 1 ?_
    rw [rounds_succ]
    go_wp2_with fail
    refine (HN.out _ (Below.refl _ _)).mono ?_
    rintro e w1 ⟨rfl, hb1⟩
    go_wp2_with fail
    go_ret2
    rw [HR.out]; exact ⟨rfl, hb1⟩
  have HR := Lib.hid (show bestTR l = (bstT l 3, 0) by unfold bestTR; rw [if_neg h1, bestTW_left]; rfl)
  have HK2 := Lib.hid (fun (m : Nat) (hm : 5 ≤ m ∧ m ≤ 7) W (hb : Below w.heap.size w W) => show Calls Tryz.prog 17 #[.slice a l.length c, .int .i64 m] W (fun e w' => e = .returned (.tuple #[.string (str (txB m l)), .int .i64 0]) ∧ Below W.heap.size W w') by
    have h := HK m W hb
    rw [show txtR (m : Int) l = (txB m l, 0) by unfold txtR; rw [if_neg (by omega), if_neg h1, Int.toNat_natCast]] at h
    exact h)
  have HST := Lib.hid (fun (m : Nat) => show str (bstT l (m + 2)) = if (str (txB (m + 6) l)).size < (str (bstT l (m + 1))).size then str (txB (m + 6) l) else str (bstT l (m + 1)) from lstep_str _ _)
  have HS1 := Lib.hid (show str (bstT l 1) = str (txB 5 l) from rfl)
  have HS0 := Lib.hid (show str (bstT l 0) = str [] from rfl)
  clear HK hu
  generalize hB : bstT l = B at *
  clear hB
  go_enter Tryz.func50, Tryz.ntmps50
  go_wp2_with fail
  go_loopw [10, 11, 12, 13] (fun q i _ _ wr => ∃ m : Nat, m ≤ 3 ∧ i = .int .i64 ((m + 5 : Nat) : Int) ∧ q = .string (str (B m)) ∧ Below w.heap.size w wr) (fun _ i _ _ _ => 8 - (intOf i).toNat)
  case atStart => exact ⟨0, by omega, rfl, by rw [HS0.out]; rfl, Below.refl _ _⟩
  case round =>
    obtain ⟨m, hm, rfl, rfl, hb⟩ := hrel
    by_cases hlt : m < 3
    · have hc0 := HK2.out (m + 5) (by omega) _ hb
      obtain ⟨N, hN⟩ : ∃ N : Int, N = ((m + 5 : Nat) : Int) := ⟨_, rfl⟩
      obtain ⟨N2, hN2⟩ : ∃ N2 : Int, N2 = ((m + 5 + 1 : Nat) : Int) := ⟨_, rfl⟩
      have g0 : decide (N ≤ 7) = true := decide_eq_true (by omega)
      have hw1 : IntKind.i64.wrap (N + 1) = N2 := by rw [IntKind.wrap_i64]; omega
      have HN := Lib.hid hN
      have HN2 := Lib.hid hN2
      rw [← hN] at hc0 ⊢
      have hms : 8 - N2.toNat < 8 - N.toNat := by omega
      have HMS := Lib.hid hms
      clear hN2 hms
      by_cases h0 : m = 0
      · subst h0
        have g1 : (N == 5) = true := by rw [beq_iff_eq]; omega
        have HS := Lib.hid (show str (B 1) = _ from HS1.out)
        have HC := Lib.hid hc0
        clear hN hc0 hm hlt
        generalize str (txB (0 + 5) l) = t at *
        generalize str (B 0) = u at *
        go_wp2_with fail
        refine (HC.out).mono ?_
        rintro e w1 ⟨rfl, hb1⟩
        go_wp2_with fail
        exact ⟨⟨1, by omega, by rw [HN2.out], by rw [HS.out], below_then hb hb1⟩, HMS.out⟩
      · obtain ⟨q, rfl⟩ : ∃ q, m = q + 1 := ⟨m - 1, by omega⟩
        have HS := Lib.hid (HST.out q)
        have g1 : (N == 5) = false := by rw [beq_eq_false_iff_ne]; omega
        have HLT := Lib.hid hlt
        clear hN hm h0 hlt
        rw [show q + 1 + 5 = q + 6 from rfl] at hc0
        generalize str (txB (q + 6) l) = t at *
        generalize str (B (q + 1)) = u at *
        have HC := Lib.hid hc0
        clear hc0
        by_cases hc : t.size < u.size
        · have g2 : decide (t.size < u.size) = true := decide_eq_true hc
          rw [if_pos hc] at HS
          clear hc
          go_wp2_with fail
          refine (HC.out).mono ?_
          rintro e w1 ⟨rfl, hb1⟩
          go_wp2_with fail
          exact ⟨⟨q + 2, HLT.out, by rw [HN2.out], by rw [HS.out], below_then hb hb1⟩, HMS.out⟩
        · have g2 : decide (t.size < u.size) = false := decide_eq_false hc
          rw [if_neg hc] at HS
          clear hc
          go_wp2_with fail
          refine (HC.out).mono ?_
          rintro e w1 ⟨rfl, hb1⟩
          go_wp2_with fail
          exact ⟨⟨q + 2, HLT.out, by rw [HN2.out], by rw [HS.out], below_then hb hb1⟩, HMS.out⟩
    · obtain rfl : m = 3 := by omega
      have g0 : decide (((3 + 5 : Nat) : Int) ≤ 7) = false := decide_eq_false (by omega)
      go_wp2_with fail
      go_ret2
      rw [HR.out]; exact ⟨rfl, hb⟩

set_option maxHeartbeats 400000 in
theorem kbestTexts_any (a : Option Addr) (c : Nat) (l : List (List UInt8)) (w : World) (hu : Txts w w.heap.size a l) :
    Calls Tryz.prog 18 #[.slice a l.length c] w (PackPost (bestTR l) w) := by
  have HB := Lib.hid (kbestt_any a c l w hu)
  clear hu
  go_enter Tryz.func18, Tryz.ntmps18
  go_wp2_with fail
  refine (HB.out).mono ?_
  rintro e w1 ⟨rfl, hb1⟩
  go_wp2_with fail
  go_ret2
  exact ⟨rfl, hb1⟩
end Go.Proofs.YtmiboibadccceaaGreat
