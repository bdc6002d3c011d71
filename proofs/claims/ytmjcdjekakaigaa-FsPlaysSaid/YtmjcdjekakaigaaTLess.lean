/- The walk of hypostyleref.TextLess. -/
import Derived.Test.YtmjcdjekakaigaaTStr
import Derived.BigQuiet
namespace Go.Proofs.Ytmjcdjekakaigaa
open Go.RowKit
set_option linter.unusedVariables false

theorem tcons_ne {x y : UInt8} {s t : List UInt8} (h : x ≠ y) : decide (x :: s < y :: t) = decide (x < y) := by
  rw [decide_eq_decide, List.cons_lt_cons_iff]
  exact ⟨fun hh => hh.resolve_right fun e => h e.1, Or.inl⟩
theorem tcons_eq {x y : UInt8} {s t : List UInt8} (h : x = y) : decide (x :: s < y :: t) = decide (s < t) := by
  subst h
  rw [decide_eq_decide, List.cons_lt_cons_iff]
  exact ⟨fun hh => by
    rcases hh with hh | ⟨_, hh⟩
    · exact absurd hh (UInt8.lt_irrefl x)
    · exact hh, fun hh => Or.inr ⟨rfl, hh⟩⟩
theorem tnil_left (t : List UInt8) : decide ([] < t) = decide (0 < t.length) := by
  rw [decide_eq_decide]
  cases t with
  | nil => simp
  | cons x t => simp
theorem tnil_right (s : List UInt8) : decide (s < []) = false := by
  rw [decide_eq_false_iff_not]; exact List.not_lt_nil s

set_option maxHeartbeats 1000000 in
set_option maxRecDepth 100000 in
theorem tless_core (x y : List UInt8) (X Y : ByteArray) (w : World) (hx : x.length ≤ 9223372036854775807) (hy : y.length ≤ 9223372036854775807) (hsx : X.size = x.length) (hsy : Y.size = y.length)
    (hxa : ∀ i (h : i < X.size) (h2 : i < x.length), X[i] = x[i]) (hya : ∀ i (h : i < Y.size) (h2 : i < y.length), Y[i] = y[i]) :
    Calls Try.prog 44 #[.string X, .string Y] w fun e w' => e = .returned (.bool (decide (x < y))) ∧ ∃ d, w' = w.drewN d := by
  have HXA := Lib.hid hxa
  have HYA := Lib.hid hya
  clear hxa hya
  obtain ⟨R, hR⟩ : ∃ R, R = decide (x < y) := ⟨_, rfl⟩
  have HD0 := Lib.hid (show R = decide (x.drop 0 < y.drop 0) by rw [hR]; rfl)
  rw [← hR]
  have HNE := Lib.hid (fun i (h : R = decide (x.drop i < y.drop i)) (h1 : i < x.length) (h2 : i < y.length) (hn : x[i] ≠ y[i]) => show R = decide (x[i].toNat < y[i].toNat) by
    rw [h, List.drop_eq_getElem_cons h1, List.drop_eq_getElem_cons h2, tcons_ne hn, decide_eq_decide]; exact UInt8.lt_iff_toNat_lt)
  have HEQ := Lib.hid (fun i (h : R = decide (x.drop i < y.drop i)) (h1 : i < x.length) (h2 : i < y.length) (hn : x[i] = y[i]) => show R = decide (x.drop (i + 1) < y.drop (i + 1)) by
    rw [h, List.drop_eq_getElem_cons h1, List.drop_eq_getElem_cons h2, tcons_eq hn])
  have HEX := Lib.hid (fun i (h : R = decide (x.drop i < y.drop i)) (h1 : i ≤ x.length) (h2 : i ≤ y.length) (hh : i = x.length ∨ i = y.length) => show R = decide (x.length < y.length) by
    rw [h]
    rcases hh with hh | hh
    · rw [hh, List.drop_length, tnil_left, List.length_drop, decide_eq_decide]; omega
    · rw [hh, List.drop_length, tnil_right]; exact (decide_eq_false (by omega)).symm)
  clear hR
  obtain ⟨n, hn⟩ : ∃ n, n = X.size := ⟨_, rfl⟩
  obtain ⟨m, hm⟩ : ∃ m, m = Y.size := ⟨_, rfl⟩
  have HN := Lib.hid hn
  have HM := Lib.hid hm
  have HSX := Lib.hid hsx
  have HSY := Lib.hid hsy
  have hX : X.size ≤ 9223372036854775807 := by omega
  have hY : Y.size ≤ 9223372036854775807 := by omega
  clear hn hm hsx hsy hx hy
  go_enter Try.func44, Try.ntmps44
  go_wp2_with fail
  go_loopw [5] (fun i wr => ∃ k d : Nat, k ≤ X.size ∧ k ≤ Y.size ∧ i = .int .i64 k ∧ wr = w.drewN d ∧ Hid (R = decide (x.drop k < y.drop k))) (fun i _ => X.size - (intOf i).toNat)
  case atStart => exact ⟨0, 0, by omega, by omega, rfl, rfl, HD0⟩
  case round =>
    obtain ⟨k, d, hk1, hk2, rfl, rfl, HJ⟩ := hrel
    by_cases hlt1 : k < X.size
    · by_cases hlt2 : k < Y.size
      · have h1 : k < x.length := by have := HSX.out; omega
        have h2 : k < y.length := by have := HSY.out; omega
        have ex := HXA.out k hlt1 h1
        have ey := HYA.out k hlt2 h2
        have hne := HNE.out k HJ.out h1 h2
        have heq := HEQ.out k HJ.out h1 h2
        generalize x[k] = p at *
        generalize y[k] = q at *
        have hk1I : (k : Int) < (X.size : Int) := by omega
        have hk2I : (k : Int) < (Y.size : Int) := by omega
        by_cases hpq : p = q
        · have HN1 := Lib.hid (heq hpq)
          have g1 : ((p.toNat : Int) != (q.toNat : Int)) = false := by subst hpq; simp
          have g2 : ((p.toNat) != (q.toNat)) = false := by subst hpq; simp
          clear hne heq hpq
          go_wp2_with fail
          go_quiet (fail)
          go_wp2_with fail
          exact ⟨⟨k + 1, d + nq, by omega, by omega, by go_num, by first | rfl | exact World.drewN_drewN _ _ _, HN1⟩, by simp [intOf]; omega⟩
        · have HN1 := Lib.hid (hne hpq)
          have hne2 : ¬ p.toNat = q.toNat := fun e => hpq (UInt8.toNat_inj.1 e)
          have g1 : ((p.toNat : Int) != (q.toNat : Int)) = true := by rw [bne_iff_ne]; omega
          clear hne heq hpq
          go_wp2_with fail
          go_quiet (fail)
          go_wp2_with fail
          go_quiet (fail)
          go_wp2_with fail
          go_ret
          exact ⟨by rw [HN1.out]; simp, _, by first | rfl | simp only [World.drewN_drewN] ; rfl⟩
      · have HE := Lib.hid (HEX.out k HJ.out (by have := HSX.out; omega) (by have := HSY.out; omega) (Or.inr (by have := HSY.out; omega)))
        have HE2 := Lib.hid (show R = decide (X.size < Y.size) by rw [HE.out, decide_eq_decide]; have := HSX.out; have := HSY.out; omega)
        have g1 : decide ((k : Int) < (X.size : Int)) = true := decide_eq_true (by omega)
        have g2 : decide ((k : Int) < (Y.size : Int)) = false := decide_eq_false (by omega)
        go_wp2_with fail
        go_ret
        exact ⟨by rw [HE2.out]; rfl, d, rfl⟩
    · have HE := Lib.hid (HEX.out k HJ.out (by have := HSX.out; omega) (by have := HSY.out; omega) (Or.inl (by have := HSX.out; omega)))
      have HE2 := Lib.hid (show R = decide (X.size < Y.size) by rw [HE.out, decide_eq_decide]; have := HSX.out; have := HSY.out; omega)
      have g1 : decide ((k : Int) < (X.size : Int)) = false := decide_eq_false (by omega)
      go_wp2_with fail
      go_ret
      exact ⟨by rw [HE2.out]; rfl, d, rfl⟩

theorem tless_any (x y : List UInt8) (w : World) (hx : x.length ≤ maxLen) (hy : y.length ≤ maxLen) :
    Calls Try.prog 44 #[.string (str x), .string (str y)] w fun e w' => e = .returned (.bool (decide (x < y))) ∧ ∃ d, w' = w.drewN d :=
  tless_core x y (str x) (str y) w (by unfold maxLen at hx; omega) (by unfold maxLen at hy; omega) (str_size x) (str_size y) (fun i h h2 => str_at x i h h2) (fun i h h2 => str_at y i h h2)
end Go.Proofs.Ytmjcdjekakaigaa
