/- The walks of UnsealedOf, bodyCells, PageOf. -/
import Derived.Test.YtcachhnhncodoaaGreatPgR1
import Derived.Test.YtcachhnhncodoaaGreatP10
import Derived.Deep.CutRange
import Derived.Deep.DeepCutAuto
namespace Go.Proofs.YtcachhnhncodoaaGreat
open Go.RowKit
set_option linter.unusedVariables false

set_option maxHeartbeats 2000000 in
set_option maxRecDepth 100000 in
theorem unsealed_any (s : List UInt8) (w : World) (hs : s.length ≤ 140737488351232) :
    Calls Tryz.prog 30 #[.string (str s)] w (SOpenPost (Pg.openB s) w) := by
  have hv1 := frvof_any (str s) w (by rw [str_size]; unfold maxLen; omega)
  rw [str_data] at hv1
  unfold ReadPost at hv1
  have hsz := str_size s
  obtain ⟨n, k, e, he⟩ : ∃ n k e, V.rd s = (n, k, e) := ⟨_, _, _, rfl⟩
  rw [he] at hv1
  simp only at hv1
  have HV1 := Lib.hid hv1
  clear hv1
  unfold SOpenPost
  by_cases h0 : e = 0
  · subst h0
    obtain ⟨hk1, hkl, _, hx, hk9, _⟩ := V.rd_ok _ _ _ he
    have hwl : IntKind.u64.wrap ((str s).size : Int) = ((str s).size : Int) := by rw [IntKind.wrap_u64]; omega
    by_cases h1 : s.length < n
    · have HRE := Lib.hid (Pg.open_e2 he (by omega))
      have g1 : decide ((str s).size < n) = true := decide_eq_true (by omega)
      generalize str s = S at *
      clear he h1 hs hsz
      go_enter Tryz.func30, Tryz.ntmps30
      go_wp2_with fail
      refine (HV1.out).mono ?_
      rintro e2 w1 ⟨rfl, hbl⟩
      go_wp2_with fail
      go_ret3
      rw [HRE.out]
      exact ⟨rfl, hbl⟩
    have g1 : decide ((str s).size < n) = false := decide_eq_false (by omega)
    have hwn : IntKind.i64.wrap (n : Int) = (n : Int) := by rw [IntKind.wrap_i64]; omega
    have hwk : IntKind.i64.wrap ((k : Int) + (n : Int)) = (k : Int) + (n : Int) := by rw [IntKind.wrap_i64]; omega
    have hwk4 : IntKind.i64.wrap ((k : Int) + (n : Int) + 4) = (k : Int) + (n : Int) + 4 := by rw [IntKind.wrap_i64]; omega
    by_cases h2 : s.length < k + n + 4
    · have HRE := Lib.hid (Pg.open_e2 he h2)
      have g2 : decide (((str s).size : Int) < (k : Int) + (n : Int) + 4) = true := decide_eq_true (by omega)
      generalize str s = S at *
      clear he h1 h2 hs hsz
      go_enter Tryz.func30, Tryz.ntmps30
      go_wp2_with fail
      refine (HV1.out).mono ?_
      rintro e2 w1 ⟨rfl, hbl⟩
      go_wp2_with fail
      go_ret3
      rw [HRE.out]
      exact ⟨rfl, hbl⟩
    have g2 : decide (((str s).size : Int) < (k : Int) + (n : Int) + 4) = false := decide_eq_false (by omega)
    have hC1 : (str s).extract k (k + n) = str ((s.drop k).take n) := str_cut s k n
    have hC2 : (str s).extract (k + n) (k + n + 4) = str ((s.drop (k + n)).take 4) := str_cut s (k + n) 4
    have hbl4 : ((s.drop (k + n)).take 4).length = 4 := by rw [List.length_take, List.length_drop]; omega
    have HA := Lib.hid (fun W => show Calls Tryz.prog 54 #[.int .u32 1, .string (str ((s.drop k).take n))] W fun e w' => e = .returned (.int .u32 (Ad.of ((s.drop k).take n) : Nat)) ∧ W = w' from adlerOf_any 1 _ W (by omega) (by rw [List.length_take, List.length_drop]; omega))
    have hof := Ad.of_lt ((s.drop k).take n)
    have HF := Lib.hid (fun W => show Calls Tryz.prog 32 #[.int .u64 (Ad.of ((s.drop k).take n) : Nat), .int .i64 4] W (TextPost (V.be 4 (Ad.of ((s.drop k).take n))) W) from big_any _ 4 W (by omega) (by omega))
    unfold TextPost at HF
    rw [← hC1] at HA
    obtain ⟨E, hE⟩ : ∃ E, E = k + n := ⟨_, rfl⟩
    obtain ⟨E4, hE4⟩ : ∃ E4, E4 = k + n + 4 := ⟨_, rfl⟩
    have hwE : IntKind.i64.wrap ((k : Int) + (n : Int)) = (E : Int) := by rw [IntKind.wrap_i64]; omega
    have hwE4 : IntKind.i64.wrap ((E : Int) + 4) = (E4 : Int) := by rw [IntKind.wrap_i64]; omega
    have q1 : (k : Int) ≤ (E : Int) := by omega
    have q2 : k ≤ E := by omega
    have q3 : (E : Int) ≤ (E4 : Int) := by omega
    have q4 : E ≤ E4 := by omega
    have q5 : (E4 : Int) ≤ ((str s).size : Int) := by omega
    have q6 : E4 ≤ (str s).size := by omega
    have q7 : (E : Int) ≤ ((str s).size : Int) := by omega
    have q8 : E ≤ (str s).size := by omega
    rw [← hE] at hC1 HA
    rw [← hE4, ← hE] at hC2
    have hwo : IntKind.u64.wrap (Ad.of ((s.drop k).take n) : Int) = (Ad.of ((s.drop k).take n) : Int) := by rw [IntKind.wrap_u64]; omega
    have hse : str (V.be 4 (Ad.of ((s.drop k).take n))) = str ((s.drop (k + n)).take 4) ↔ V.val ((s.drop (k + n)).take 4) = Ad.of ((s.drop k).take n) := by
      constructor
      · intro h
        have h5 : V.be 4 (Ad.of ((s.drop k).take n)) = (s.drop (k + n)).take 4 := by have := congrArg (fun b : ByteArray => b.data.toList) h; simpa [str] using this
        rw [← h5, Pg.sum_val]
      · intro h
        rw [← h]
        have := V.be_val ((s.drop (k + n)).take 4)
        rw [hbl4] at this
        rw [this]
    by_cases h3 : V.val ((s.drop (k + n)).take 4) = Ad.of ((s.drop k).take n)
    · have HRE := Lib.hid (Pg.open_ok he h2 h3)
      have g3 : (str (V.be 4 (Ad.of ((s.drop k).take n)))).toList = ((str s).extract E E4).toList := by rw [hC2, hE]; exact congrArg ByteArray.toList (hse.2 h3)
      rw [HRE.out]
      simp only
      rw [← hC1]
      generalize str (V.be 4 (Ad.of ((s.drop k).take n))) = Z at *
      generalize Ad.of ((s.drop k).take n) = m at *
      generalize str s = S at *
      have HEE := Lib.hid (show ((k + n + 4 : Nat) : Int) = (E4 : Int) by omega)
      rw [show ((k + n + 4 : Nat)) = E4 from hE4.symm]
      clear he h1 h2 hs hsz hC1 hC2 hse h3 hbl4 hE hE4 HRE HEE hwk hwk4
      go_enter Tryz.func30, Tryz.ntmps30
      go_wp2_with fail
      refine (HV1.out).mono ?_
      rintro e2 w1 ⟨rfl, hbl⟩
      go_wp2_with fail
      refine wp_region_wb (by kernel_rfl) (by kernel_rfl) ?_
      repeat (quiet_step (first
        | (go_at_call 54; refine calls_wb (v := .int .u32 (m : Int)) ?_; with_reducible exact (HA.out _).mono fun _ _ h => ⟨h.1, h.2 ▸ Below.refl _ _⟩)
        | (go_at_call 32; refine calls_wb (v := .string Z) ?_; with_reducible exact HF.out _)))
      refine wpQuiet_nil ?_
      rintro _ ⟨p3, rfl⟩
      have hp3 := p3.below
      go_wp2_with fail
      go_ret3
      exact ⟨rfl, below_then hbl hp3⟩
    · have HRE := Lib.hid (Pg.open_e3 he h2 h3)
      have g3 : ¬ (str (V.be 4 (Ad.of ((s.drop k).take n)))).toList = ((str s).extract E E4).toList := by
        rw [hC2, hE]; intro h; rw [str_toList, str_toList] at h; exact h3 (hse.1 (by rw [h]))
      have g4 : ((str (V.be 4 (Ad.of ((s.drop k).take n)))).toList == ((str s).extract E E4).toList) = false := by rw [beq_eq_false_iff_ne]; exact g3
      have g5 : ((str (V.be 4 (Ad.of ((s.drop k).take n)))).toList != ((str s).extract E E4).toList) = true := by rw [bne_iff_ne]; exact g3
      have g6 : decide ((str (V.be 4 (Ad.of ((s.drop k).take n)))).toList = ((str s).extract E E4).toList) = false := decide_eq_false g3
      rw [HRE.out]
      generalize str (V.be 4 (Ad.of ((s.drop k).take n))) = Z at *
      generalize Ad.of ((s.drop k).take n) = m at *
      generalize str s = S at *
      clear he h1 h2 hs hsz hC1 hC2 hse h3 hbl4 hE hE4 HRE hwk hwk4
      go_enter Tryz.func30, Tryz.ntmps30
      go_wp2_with fail
      refine (HV1.out).mono ?_
      rintro e2 w1 ⟨rfl, hbl⟩
      go_wp2_with fail
      refine wp_region_wb (by kernel_rfl) (by kernel_rfl) ?_
      repeat (quiet_step (first
        | (go_at_call 54; refine calls_wb (v := .int .u32 (m : Int)) ?_; with_reducible exact (HA.out _).mono fun _ _ h => ⟨h.1, h.2 ▸ Below.refl _ _⟩)
        | (go_at_call 32; refine calls_wb (v := .string Z) ?_; with_reducible exact HF.out _)))
      refine wpQuiet_nil ?_
      rintro _ ⟨p3, rfl⟩
      have hp3 := p3.below
      go_wp2_with fail
      go_ret3
      exact ⟨rfl, below_then hbl hp3⟩
  · have HRE := Lib.hid (Pg.open_e1 he h0)
    have g1 : ((e : Int) != 0) = true := by rw [bne_iff_ne]; omega
    generalize str s = S at *
    clear he h0 hs hsz
    go_enter Tryz.func30, Tryz.ntmps30
    go_wp2_with fail
    refine (HV1.out).mono ?_
    rintro e2 w1 ⟨rfl, hbl⟩
    go_wp2_with fail
    go_ret3
    rw [HRE.out]
    exact ⟨rfl, hbl⟩
end Go.Proofs.YtcachhnhncodoaaGreat
