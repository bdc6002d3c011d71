/- The walks of seal.Put, seal.Open. -/
import Derived.Test.YtcachhnhncodoaaGreatPgW1
import Derived.Test.YtcachhnhncodoaaGreatPgPlain
import Derived.Test.YtcachhnhncodoaaGreatP10
namespace Go.Proofs.YtcachhnhncodoaaGreat
open Go.RowKit
set_option linter.unusedVariables false

set_option maxHeartbeats 1000000 in
set_option maxRecDepth 100000 in
theorem sput_any (b : List UInt8) (w : World) (hb : b.length ≤ 1048576) :
    Calls Tryz.prog 22 #[.string (str b)] w (TextPost (Pg.sealB b) w) := by
  have HW := Lib.hid (fun W => write_any b.length W (by omega))
  have HA := Lib.hid (fun W => of_any b W (by unfold maxLen; omega))
  have hof := Ad.of_lt b
  have HF := Lib.hid (fun W => fwrite8_any (Ad.of b) 4 W (by omega) (by omega))
  have HR := Lib.hid (show str (V.enc b.length) ++ str b ++ str (V.be 4 (Ad.of b)) = str (Pg.sealB b) by
    rw [str_append, str_append]; unfold Pg.sealB; rw [List.append_assoc])
  have hsz := str_size b
  have hz1 : (str (V.enc b.length)).size ≤ 9 := by rw [str_size, V.enc_length]; exact V.sz_le _
  have hz2 : (str (V.be 4 (Ad.of b))).size = 4 := by rw [str_size, V.be_length]
  have hwl : IntKind.u64.wrap (b.length : Int) = (b.length : Int) := by rw [IntKind.wrap_u64]; omega
  have hwa : IntKind.u64.wrap (Ad.of b : Int) = (Ad.of b : Int) := by rw [IntKind.wrap_u64]; omega
  unfold WritePost at HW
  unfold U32Post at HA
  unfold TextPost at HF ⊢
  generalize str (V.enc b.length) = X at *
  generalize str (V.be 4 (Ad.of b)) = Z at *
  generalize Ad.of b = m at *
  rw [← HR.out]
  generalize str b = S at *
  generalize b.length = n at *
  clear HR
  go_enter Tryz.func22, Tryz.ntmps22
  go_wp2_with fail
  refine (HW.out _).mono ?_
  rintro e w1 ⟨rfl, hb1⟩
  go_wp2_with fail
  refine (HA.out _).mono ?_
  rintro e w2 ⟨rfl, hb2⟩
  go_wp2_with fail
  refine (HF.out _).mono ?_
  rintro e w3 ⟨rfl, hb3⟩
  go_wp2_with fail
  go_ret
  exact ⟨rfl, below_then (below_then hb1 hb2) hb3⟩

def SOpenPost (r : List UInt8 × Nat × Nat) (w : World) (e : Ending) (w' : World) : Prop := e = .returned (.tuple #[.string (str r.1), .int .i64 r.2.1, .int .i64 r.2.2]) ∧ Below w.heap.size w w'

set_option maxHeartbeats 2000000 in
set_option maxRecDepth 100000 in
theorem sopen_any (s : List UInt8) (w : World) (hs : s.length ≤ maxLen) :
    Calls Tryz.prog 27 #[.string (str s)] w (SOpenPost (Pg.openB s) w) := by
  have hv1 := vread_any (str s) w (by rw [str_size]; exact hs)
  rw [str_data] at hv1
  unfold ReadPost at hv1
  have hb1 := V.rd_bad s
  have hsz := str_size s
  have hmx := hs
  unfold maxLen at hmx
  obtain ⟨n, k, e, he⟩ : ∃ n k e, V.rd s = (n, k, e) := ⟨_, _, _, rfl⟩
  rw [he] at hv1 hb1
  simp only at hv1
  have HV1 := Lib.hid hv1
  clear hv1
  unfold SOpenPost
  by_cases h0 : e = 0
  · subst h0
    obtain ⟨hk1, hkl, _, hx, hk9, _⟩ := V.rd_ok _ _ _ he
    by_cases h1 : s.length < k + 4
    · have HRE := Lib.hid (Pg.open_e2 he (by omega))
      have g1 : decide (((str s).size : Int) - (k : Int) - 4 < 0) = true := decide_eq_true (by omega)
      have hwa : IntKind.i64.wrap (((str s).size : Int) - (k : Int)) = ((str s).size : Int) - (k : Int) := by rw [IntKind.wrap_i64]; omega
      have hwb : IntKind.i64.wrap (((str s).size : Int) - (k : Int) - 4) = ((str s).size : Int) - (k : Int) - 4 := by rw [IntKind.wrap_i64]; omega
      generalize str s = S at *
      clear hb1 he h1 hs hsz
      go_enter Tryz.func27, Tryz.ntmps27
      go_wp2_with fail
      refine (HV1.out).mono ?_
      rintro e2 w1 ⟨rfl, hbl⟩
      go_wp2_with fail
      go_ret3
      rw [HRE.out]
      exact ⟨rfl, hbl⟩
    obtain ⟨q, hq⟩ : ∃ q, s.length = k + 4 + q := ⟨s.length - (k + 4), by omega⟩
    have hqe : ((str s).size : Int) - (k : Int) - 4 = (q : Int) := by omega
    have hwa : IntKind.i64.wrap (((str s).size : Int) - (k : Int)) = ((str s).size : Int) - (k : Int) := by rw [IntKind.wrap_i64]; omega
    have hwb : IntKind.i64.wrap (q : Int) = (q : Int) := by rw [IntKind.wrap_i64]; omega
    have hwc : IntKind.u64.wrap (q : Int) = (q : Int) := by rw [IntKind.wrap_u64]; omega
    by_cases h2 : s.length < k + n + 4
    · have HRE := Lib.hid (Pg.open_e2 he h2)
      have g2 : decide (q < n) = true := decide_eq_true (by omega)
      generalize str s = S at *
      clear hb1 he h1 h2 hs hsz hq
      go_enter Tryz.func27, Tryz.ntmps27
      go_wp2_with fail
      refine (HV1.out).mono ?_
      rintro e2 w1 ⟨rfl, hbl⟩
      go_wp2_with fail
      go_ret3
      rw [HRE.out]
      exact ⟨rfl, hbl⟩
    have g2 : decide (q < n) = false := decide_eq_false (by omega)
    have hC1 : (str s).extract k (k + n) = str ((s.drop k).take n) := str_cut s k n
    have hC2 : (str s).extract (k + n) (k + n + 4) = str ((s.drop (k + n)).take 4) := str_cut s (k + n) 4
    have HF := Lib.hid (fun W => fread8_any ((s.drop (k + n)).take 4) W (by rw [List.length_take]; omega))
    have HA := Lib.hid (fun W => of_any ((s.drop k).take n) W (by rw [List.length_take, List.length_drop]; unfold maxLen; omega))
    have hof := Ad.of_lt ((s.drop k).take n)
    rw [← hC1] at HA
    rw [← hC2] at HF
    have hwn : IntKind.i64.wrap (n : Int) = (n : Int) := by rw [IntKind.wrap_i64]; omega
    have hkn : (k : Int) + (n : Int) = ((k + n : Nat) : Int) := by omega
    have hkn4 : (k : Int) + (n : Int) + 4 = ((k + n + 4 : Nat) : Int) := by omega
    have hwk : IntKind.i64.wrap ((k : Int) + (n : Int)) = (k : Int) + (n : Int) := by rw [IntKind.wrap_i64]; omega
    have hwk4 : IntKind.i64.wrap ((k : Int) + (n : Int) + 4) = (k : Int) + (n : Int) + 4 := by rw [IntKind.wrap_i64]; omega
    unfold U32Post at HA
    have hwo : IntKind.u64.wrap (Ad.of ((s.drop k).take n) : Int) = (Ad.of ((s.drop k).take n) : Int) := by rw [IntKind.wrap_u64]; omega
    by_cases h3 : V.val ((s.drop (k + n)).take 4) = Ad.of ((s.drop k).take n)
    · have HRE := Lib.hid (Pg.open_ok he h2 h3)
      rw [← h3] at HA hwo
      have g3 : ((V.val ((s.drop (k + n)).take 4) : Int) != (V.val ((s.drop (k + n)).take 4) : Int)) = false := by simp
      rw [HRE.out]
      simp only
      rw [← hC1]
      generalize V.val ((s.drop (k + n)).take 4) = m at *
      generalize str s = S at *
      obtain ⟨E, hE⟩ : ∃ E, E = k + n := ⟨_, rfl⟩
      obtain ⟨E4, hE4⟩ : ∃ E4, E4 = k + n + 4 := ⟨_, rfl⟩
      rw [← hE] at HA
      rw [← hE4, ← hE] at HF
      rw [← hE4, ← hE]
      have hwE : IntKind.i64.wrap ((k : Int) + (n : Int)) = (E : Int) := by rw [IntKind.wrap_i64]; omega
      have hwE4 : IntKind.i64.wrap ((E : Int) + 4) = (E4 : Int) := by rw [IntKind.wrap_i64]; omega
      have q1 : (k : Int) ≤ (E : Int) := by omega
      have q2 : k ≤ E := by omega
      have q3 : (E : Int) ≤ (E4 : Int) := by omega
      have q4 : E ≤ E4 := by omega
      have q5 : (E4 : Int) ≤ (S.size : Int) := by omega
      have q6 : E4 ≤ S.size := by omega
      have q7 : (E : Int) ≤ (S.size : Int) := by omega
      have q8 : E ≤ S.size := by omega
      clear hb1 he h1 h2 hs hsz hq hC1 hC2 h3 hkn hkn4 hwk hwk4 hE hE4 HRE hof
      go_enter Tryz.func27, Tryz.ntmps27
      go_wp2_with fail
      refine (HV1.out).mono ?_
      rintro e2 w1 ⟨rfl, hbl⟩
      go_wp2_with fail
      go_quiet (fail)
      have hbd := below_drewN hbl
      go_wp2_with fail
      refine (HF.out _).mono ?_
      rintro e3 w2 ⟨rfl, rfl⟩
      go_wp2_with fail
      refine (HA.out _).mono ?_
      rintro e4 w3 ⟨rfl, hb3⟩
      go_wp2_with fail
      go_ret3
      exact ⟨rfl, below_then (hbd _) hb3⟩
    · have HRE := Lib.hid (Pg.open_e3 he h2 h3)
      have g3 : ((V.val ((s.drop (k + n)).take 4) : Int) != (Ad.of ((s.drop k).take n) : Int)) = true := by rw [bne_iff_ne]; omega
      rw [HRE.out]
      generalize V.val ((s.drop (k + n)).take 4) = m at *
      generalize Ad.of ((s.drop k).take n) = m2 at *
      generalize str s = S at *
      obtain ⟨E, hE⟩ : ∃ E, E = k + n := ⟨_, rfl⟩
      obtain ⟨E4, hE4⟩ : ∃ E4, E4 = k + n + 4 := ⟨_, rfl⟩
      rw [← hE] at HA
      rw [← hE4, ← hE] at HF
      have hwE : IntKind.i64.wrap ((k : Int) + (n : Int)) = (E : Int) := by rw [IntKind.wrap_i64]; omega
      have hwE4 : IntKind.i64.wrap ((E : Int) + 4) = (E4 : Int) := by rw [IntKind.wrap_i64]; omega
      have q1 : (k : Int) ≤ (E : Int) := by omega
      have q2 : k ≤ E := by omega
      have q3 : (E : Int) ≤ (E4 : Int) := by omega
      have q4 : E ≤ E4 := by omega
      have q5 : (E4 : Int) ≤ (S.size : Int) := by omega
      have q6 : E4 ≤ S.size := by omega
      have q7 : (E : Int) ≤ (S.size : Int) := by omega
      have q8 : E ≤ S.size := by omega
      clear hb1 he h1 h2 hs hsz hq hC1 hC2 h3 hkn hkn4 hwk hwk4 hE hE4 HRE hof
      go_enter Tryz.func27, Tryz.ntmps27
      go_wp2_with fail
      refine (HV1.out).mono ?_
      rintro e2 w1 ⟨rfl, hbl⟩
      go_wp2_with fail
      go_quiet (fail)
      have hbd := below_drewN hbl
      go_wp2_with fail
      refine (HF.out _).mono ?_
      rintro e3 w2 ⟨rfl, rfl⟩
      go_wp2_with fail
      refine (HA.out _).mono ?_
      rintro e4 w3 ⟨rfl, hb3⟩
      go_wp2_with fail
      go_ret3
      exact ⟨rfl, below_then (hbd _) hb3⟩
  · have HRE := Lib.hid (Pg.open_e1 he h0)
    have g1 : ((e : Int) != 0) = true := by rw [bne_iff_ne]; omega
    generalize str s = S at *
    clear hb1 he h0 hs hsz
    go_enter Tryz.func27, Tryz.ntmps27
    go_wp2_with fail
    refine (HV1.out).mono ?_
    rintro e2 w1 ⟨rfl, hbl⟩
    go_wp2_with fail
    go_ret3
    rw [HRE.out]
    exact ⟨rfl, hbl⟩
end Go.Proofs.YtcachhnhncodoaaGreat
