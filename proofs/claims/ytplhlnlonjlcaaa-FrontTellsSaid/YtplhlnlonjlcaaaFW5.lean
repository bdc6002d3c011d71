/- The walk of front.next. -/
import Derived.Test.YtplhlnlonjlcaaaFW4
namespace Go.Proofs.Ytplhlnlonjlcaaa
open Go.RowKit
set_option linter.unusedVariables false

def nextR (s last : List UInt8) : List UInt8 × List UInt8 × Nat :=
  if (toldR s).2.2 ≠ 0 then ([], [], (toldR s).2.2)
  else if last.length < (toldR s).1.1 then ([], [], 3)
  else if 16 - (toldR s).1.1 < (toldR s).1.2 then ([], [], 2)
  else if (toldR s).2.1.length < (toldR s).1.2 then ([], [], 5)
  else if (toldR s).1.1 < F.sh last (last.take (toldR s).1.1 ++ (toldR s).2.1.take (toldR s).1.2) then ([], [], 1)
  else (last.take (toldR s).1.1 ++ (toldR s).2.1.take (toldR s).1.2, (toldR s).2.1.drop (toldR s).1.2, 0)
def NextPost (r : List UInt8 × List UInt8 × Nat) (w : World) (e : Ending) (w' : World) : Prop :=
  e = .returned (.tuple #[.string (str r.1), .string (str r.2.1), .int .i64 (r.2.2 : Nat)]) ∧ Below w.heap.size w w'

theorem told_bd (s : List UInt8) : (toldR s).1.1 < 18446744073709551616 ∧ (toldR s).1.2 < 18446744073709551616 ∧ (toldR s).2.1.length ≤ s.length ∧ (toldR s).2.2 ≤ 5 := by
  have b1 := V.rd_bad s
  obtain ⟨n, k, e, h⟩ : ∃ n k e, V.rd s = (n, k, e) := ⟨_, _, _, rfl⟩
  unfold toldR
  rw [h] at b1
  simp only [h]
  by_cases he : e = 0
  · subst he
    have o1 := V.rd_ok _ _ _ h
    have b2 := V.rd_bad (s.drop k)
    obtain ⟨m, j, f, h2⟩ : ∃ m j f, V.rd (s.drop k) = (m, j, f) := ⟨_, _, _, rfl⟩
    rw [h2] at b2
    simp only [h2]
    by_cases hf : f = 0
    · subst hf
      have o2 := V.rd_ok _ _ _ h2
      refine ⟨?_, ?_, ?_, ?_⟩
      · simpa using o1.2.2.2.1
      · simpa using o2.2.2.2.1
      · simp
        try omega
      · simp
    · simp [hf]
      rcases b2 with c | c | c <;> simp at c <;> omega
  · simp [he]
    rcases b1 with c | c | c <;> simp at c <;> omega

set_option maxHeartbeats 1000000 in
set_option maxRecDepth 100000 in
theorem next_any (s last : List UInt8) (w : World) (hs : s.length ≤ maxLen) (hl : last.length ≤ 16) :
    Calls Try.prog 24 #[.string (str s), .string (str last)] w (NextPost (nextR s last) w) := by
  have hto := told_any s w hs
  unfold maxLen at hs
  have htb := told_bd s
  obtain ⟨R, HR2⟩ : ∃ R, R = nextR s last := ⟨_, rfl⟩
  rw [← HR2]
  unfold nextR at HR2
  obtain ⟨n, m, r, e, he⟩ : ∃ n m r e, toldR s = ((n, m), r, e) := ⟨_, _, _, _, rfl⟩
  rw [he] at hto htb HR2
  obtain ⟨hn, hm, hrl, he5⟩ := htb
  simp only at hn hm hrl he5
  simp only at HR2
  unfold ToldPost at hto
  simp only at hto
  have HT := Lib.hid hto
  clear hto he
  have hsl := str_size last
  have hsr := str_size r
  by_cases h0 : e = 0
  · subst h0
    rw [if_neg (by simp)] at HR2
    by_cases h1 : last.length < n
    · rw [if_pos h1] at HR2
      have HRE := Lib.hid HR2
      generalize str s = S at *
      generalize str last = L at *
      have g1 : decide (L.size < n) = true := decide_eq_true (by omega)
      have hwl : IntKind.u64.wrap (L.size : Int) = (L.size : Int) := by rw [IntKind.wrap_u64]; omega
      clear HR2 hsl hsr
      go_enter Try.func24, Try.ntmps24
      go_wp2_with fail
      refine (HT.out).mono ?_
      rintro e2 w1 ⟨rfl, hb1⟩
      go_wp2_with fail
      go_quiet (fail)
      go_wp2_with fail
      go_ret3
      exact ⟨by rw [HRE.out]; rfl, below_drewN ((Below.refl _ _).trans (hb1.alloc hb1.size _)) _⟩
    · rw [if_neg h1] at HR2
      by_cases h2 : 16 - n < m
      · rw [if_pos h2] at HR2
        have HRE := Lib.hid HR2
        generalize str s = S at *
        generalize str last = L at *
        have g1 : decide (L.size < n) = false := decide_eq_false (by omega)
        have hwl : IntKind.u64.wrap (L.size : Int) = (L.size : Int) := by rw [IntKind.wrap_u64]; omega
        have hws : IntKind.u64.wrap ((16 : Int) - (n : Int)) = ((16 - n : Nat) : Int) := by rw [IntKind.wrap_u64]; omega
        have g2 : decide (16 - n < m) = true := decide_eq_true h2
        have hnL : n ≤ L.size := by omega
        clear HR2 hsl hsr h1 h2
        go_enter Try.func24, Try.ntmps24
        go_wp2_with fail
        refine (HT.out).mono ?_
        rintro e2 w1 ⟨rfl, hb1⟩
        go_wp2_with fail
        go_quiet (fail)
        go_wp2_with fail
        go_ret3
        exact ⟨by rw [HRE.out]; rfl, below_drewN ((Below.refl _ _).trans (hb1.alloc hb1.size _)) _⟩
      · rw [if_neg h2] at HR2
        by_cases h3 : r.length < m
        · rw [if_pos h3] at HR2
          have HRE := Lib.hid HR2
          generalize str s = S at *
          generalize str last = L at *
          generalize str r = RR at *
          have g1 : decide (L.size < n) = false := decide_eq_false (by omega)
          have hwl : IntKind.u64.wrap (L.size : Int) = (L.size : Int) := by rw [IntKind.wrap_u64]; omega
          have hwr : IntKind.u64.wrap (RR.size : Int) = (RR.size : Int) := by rw [IntKind.wrap_u64]; omega
          have hws : IntKind.u64.wrap ((16 : Int) - (n : Int)) = ((16 - n : Nat) : Int) := by rw [IntKind.wrap_u64]; omega
          have g2 : decide (16 - n < m) = false := decide_eq_false h2
          have g3 : decide (RR.size < m) = true := decide_eq_true (by omega)
          have hnL : n ≤ L.size := by omega
          have HRRZ := Lib.hid hsr
          clear HR2 hsl hsr h1 h2 h3
          go_enter Try.func24, Try.ntmps24
          go_wp2_with fail
          refine (HT.out).mono ?_
          rintro e2 w1 ⟨rfl, hb1⟩
          go_wp2_with fail
          go_quiet (fail)
          go_wp2_with fail
          go_ret3
          exact ⟨by rw [HRE.out]; rfl, below_drewN ((Below.refl _ _).trans (hb1.alloc hb1.size _)) _⟩
        · rw [if_neg h3] at HR2
          have HSH := Lib.hid (fun W => shared_any last (last.take n ++ r.take m) W (by unfold maxLen; omega) (by rw [List.length_append, List.length_take, List.length_take]; unfold maxLen; omega))
          have hq16 := F.sh_le_left last (last.take n ++ r.take m)
          have HCT := Lib.hid (show str (last.take n ++ r.take m) = (str last).extract 0 n ++ (str r).extract 0 m by
            apply ByteArray.ext; apply Array.toList_inj.mp
            simp [str])
          rw [HCT.out] at HSH
          have HXT := Lib.hid (show (str r).extract m (str r).size = str (r.drop m) by
            apply ByteArray.ext; apply Array.toList_inj.mp
            rw [show ((str r).extract m (str r).size).data.toList = (str r).data.toList.drop m from cut_data _ m]; rfl)
          generalize last.take n ++ r.take m = t at *
          generalize F.sh last t = q at *
          generalize str s = S at *
          generalize str last = L at *
          generalize str r = RR at *
          have g1 : decide (L.size < n) = false := decide_eq_false (by omega)
          have hwl : IntKind.u64.wrap (L.size : Int) = (L.size : Int) := by rw [IntKind.wrap_u64]; omega
          have hwr : IntKind.u64.wrap (RR.size : Int) = (RR.size : Int) := by rw [IntKind.wrap_u64]; omega
          have hwq : IntKind.u64.wrap (q : Int) = (q : Int) := by rw [IntKind.wrap_u64]; omega
          have hws : IntKind.u64.wrap ((16 : Int) - (n : Int)) = ((16 - n : Nat) : Int) := by rw [IntKind.wrap_u64]; omega
          have g2 : decide (16 - n < m) = false := decide_eq_false h2
          have g3 : decide (RR.size < m) = false := decide_eq_false (by omega)
          have hnL : n ≤ L.size := by omega
          have hmR : m ≤ RR.size := by omega
          have hnLI : (n : Int) ≤ (L.size : Int) := by omega
          have hmRI : (m : Int) ≤ (RR.size : Int) := by omega
          have hc1 : ¬ 9223372036854775807 < min n L.size + min m RR.size := by omega
          have hc2 : ¬ 9223372036854775807 < n + m := by omega
          by_cases h4 : n < q
          · rw [if_pos h4] at HR2
            have HRE := Lib.hid HR2
            have g4 : decide (n < q) = true := decide_eq_true h4
            clear HR2 hsl hsr h1 h2 h3
            go_enter Try.func24, Try.ntmps24
            go_wp2_with fail
            refine (HT.out).mono ?_
            rintro e2 w1 ⟨rfl, hb1⟩
            go_wp2_with fail
            go_quiet (fail)
            go_wp2_with fail
            go_quiet (fail)
            go_wp2_with fail
            refine (HSH.out _).mono ?_
            rintro e2 w2 ⟨rfl, d, rfl⟩
            go_wp2_with fail
            go_ret3
            exact ⟨by rw [HRE.out]; rfl, below_drewN ((Below.refl _ _).trans (hb1.alloc hb1.size _)) _⟩
          · rw [if_neg h4] at HR2
            have HRE := Lib.hid HR2
            have g4 : decide (n < q) = false := decide_eq_false h4
            clear HR2 hsl hsr h1 h2 h3
            go_enter Try.func24, Try.ntmps24
            go_wp2_with fail
            refine (HT.out).mono ?_
            rintro e2 w1 ⟨rfl, hb1⟩
            go_wp2_with fail
            go_quiet (fail)
            go_wp2_with fail
            go_quiet (fail)
            go_wp2_with fail
            refine (HSH.out _).mono ?_
            rintro e2 w2 ⟨rfl, d, rfl⟩
            go_wp2_with fail
            go_quiet (fail)
            go_wp2_with fail
            go_ret3
            exact ⟨by rw [HRE.out]; simp only; rw [HCT.out, HXT.out]; rfl, below_drewN (below_drewN ((Below.refl _ _).trans (hb1.alloc hb1.size _)) _) _⟩
  · rw [if_pos h0] at HR2
    have HRE := Lib.hid HR2
    have g1 : ((e : Int) != 0) = true := by rw [bne_iff_ne]; omega
    clear HR2 hsl hsr
    go_enter Try.func24, Try.ntmps24
    go_wp2_with fail
    refine (HT.out).mono ?_
    rintro e2 w1 ⟨rfl, hb1⟩
    go_wp2_with fail
    go_ret3
    exact ⟨by rw [HRE.out]; rfl, (Below.refl _ _).trans (hb1.alloc hb1.size _)⟩
end Go.Proofs.Ytplhlnlonjlcaaa
