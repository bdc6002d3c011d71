/- The laws HybridBack, HybridCut. -/
import Derived.Test.YtjbnbgiphnnadaaHW12
namespace Go.Proofs.Ytjbnbgiphnnadaa
open Go.RowKit
set_option linter.unusedVariables false

theorem nat_u8 {a : Int} (h : (Go.Lit.int .u8 a).wf = true) : ∃ n : Nat, a = n ∧ n < 256 := by
  have hb : 0 ≤ a ∧ a ≤ 255 := by simpa [Go.Lit.wf, IntKind.min, IntKind.max, IntKind.signed, IntKind.bits] using h
  exact ⟨a.toNat, by omega, by omega⟩

/-- what Write answers: an error and nothing, or the bytes of what fits -/
theorem hwrite_cases (l : List Nat) (wide : Int) : (∃ er, er ≠ 0 ∧ hwriteR l wide = ([], er)) ∨ (∃ n : Nat, wide = n ∧ n ≤ 64 ∧ l.length ≤ 64 ∧ (∀ x ∈ l, x < 2 ^ n) ∧ hwriteR l wide = (H.bytes n l, 0) ∧ (H.bytes n l).length ≤ 1048576) := by
  by_cases h : (packR l wide).2 = 0
  · obtain ⟨n, rfl, h1, h2, h3, _⟩ := pack_ok l wide h
    refine Or.inr ⟨n, rfl, h1, h2, h3, ?_, ?_⟩
    · unfold hwriteR; rw [if_neg (by simp [h]), Int.toNat_natCast]
    · have := H.bytes_bound n l h2
      have := Nat.mul_le_mul h2 h1
      omega
  · refine Or.inl ⟨(packR l wide).2, h, ?_⟩
    unfold hwriteR; rw [if_pos h]

theorem hread_nat (s : List UInt8) (m n : Nat) (hm : m ≤ 64) (hn : n ≤ 64) : hreadR s m n = H.read s m n := by
  unfold hreadR
  rw [if_neg (by omega), if_neg (by omega), Int.toNat_natCast, Int.toNat_natCast]

theorem hread_er (s : ByteArray) (m n : Int) (er : Nat) (w : World) (hs : s.size ≤ maxLen) (h : hreadR s.data.toList m n = ([], er)) :
    Calls Try.prog 13 #[.string s, .int .i64 m, .int .i64 n] w (fun e w' => ∃ a' c', e = .returned (.tuple #[.slice a' 0 c', .int .i64 (er : Int)]) ∧ Below w.heap.size w w') := by
  have h1 := hread_any s m n w hs
  rw [h] at h1
  exact h1.mono fun e w' ⟨a', c', he, _, _, _, hb⟩ => ⟨a', c', he, hb⟩

set_option maxHeartbeats 1000000 in
set_option maxRecDepth 100000 in
theorem hybridBack_walk (w : World) (a : Option Addr) (c : Nat) (l : List Nat) (hm : l.length ≤ maxLen) (hcap : l.length ≤ c ∧ c ≤ maxLen ∧ (a = none → c = 0)) (hx : ∀ x ∈ l, x < 18446744073709551616) (hu : Nums w w.heap.size a l)
    (wide : Int) (hw : -9223372036854775808 ≤ wide ∧ wide ≤ 9223372036854775807) :
    Calls Try.prog 5 #[.slice a l.length c, .int .i64 wide] w (BoolPost true w) := by
  have hwr := hwrite_any a c l wide w hcap.1 hcap.2.1 hx hu
  unfold maxLen at hm
  rcases hwrite_cases l wide with ⟨er, he, hr⟩ | ⟨n, rfl, hn, hl, hf, hr, hlen⟩
  · rw [hr] at hwr
    have HWR := Lib.hid hwr
    have g1 : ((er : Int) != 0) = true := by rw [bne_iff_ne]; omega
    have heq : (str []).toList.isEmpty = true := empty_true _ rfl
    clear hwr hr hx
    go_enter Try.func5, Try.ntmps5
    go_wp2_with fail
    refine (HWR.out).mono ?_
    rintro e w1 ⟨rfl, hb1⟩
    go_wp2_with fail
    refine (hbegun_any _).mono ?_
    rintro e w2 ⟨rfl, hb2⟩
    go_wp2_with fail
    go_ret
    exact ⟨rfl, below_then hb1 hb2⟩
  · rw [hr] at hwr
    have hrd := fun w => hread_any (str (H.bytes n l)) l.length n w (by rw [str_size]; unfold maxLen; omega)
    rw [str_data, hread_nat _ _ _ hl hn, H.read_back n l hl hf] at hrd
    have HRD := Lib.hid hrd
    have HWR := Lib.hid hwr
    have hsm := fun w a' c' h1 h2 => same_any a' a c' c l l w w.heap.size h1 h2 (by omega)
    rw [decide_eq_true rfl] at hsm
    have HSM := Lib.hid hsm
    generalize H.bytes n l = t at *
    clear hwr hrd hr hx hf hsm
    go_enter Try.func5, Try.ntmps5
    go_wp2_with fail
    refine (HWR.out).mono ?_
    rintro e w1 ⟨rfl, hb1⟩
    go_wp2_with fail
    refine (hbegun_any _).mono ?_
    rintro e w2 ⟨rfl, hb2⟩
    have h2 := below_then hb1 hb2
    go_wp2_with fail
    refine (HRD.out _).mono ?_
    rintro e w3 ⟨a3, c3, rfl, hn3, _, _, hb3⟩
    have h3 := below_then h2 hb3
    go_wp2_with fail
    refine (HSM.out _ a3 c3 hn3 (hu.next h3)).mono ?_
    rintro e w4 ⟨rfl, hb4⟩
    go_wp2_with fail
    go_ret
    exact ⟨rfl, below_then h3 hb4⟩

theorem run_text_u8 (w : World) (x : UInt8) :
    (convert 39 9 (.slice (some ⟨w.heap.size, 0, none⟩) 1 1)).run Try.prog (w.alloc (.cells #[.int .u8 (x.toNat : Int)] 5)) = .ok (.string (str [x])) (w.alloc (.cells #[.int .u8 (x.toNat : Int)] 5)) := by
  rw [← str_of [x]]
  refine run_convert_bytes_arg _ 39 5 Try.underlying39 Try.underlying5 _ 0 1 1 _ (by simp) ?_ 9 Try.underlying9
  intro i hi
  obtain rfl : i = 0 := by omega
  rw [Nat.zero_add, World.cell?_alloc_new]; rfl

set_option maxHeartbeats 400000 in
theorem byteText_any (x : UInt8) (w : World) :
    Calls Try.prog 18 #[.int .u8 (x.toNat : Int)] w (TextPost [x] w) := by
  have htx := run_text_u8 w x
  generalize (x.toNat : Int) = n at *
  go_enter Try.func18, Try.ntmps18
  go_wp2_with fail
  go_ret
  exact ⟨rfl, (Below.refl _ _).alloc (Nat.le_refl _) _⟩

set_option maxHeartbeats 1000000 in
set_option maxRecDepth 100000 in
theorem hybridCut_walk (w : World) (a : Option Addr) (c : Nat) (l : List Nat) (hm : l.length ≤ maxLen) (hcap : l.length ≤ c ∧ c ≤ maxLen ∧ (a = none → c = 0)) (hx : ∀ x ∈ l, x < 18446744073709551616) (hu : Nums w w.heap.size a l)
    (wide : Int) (hw : -9223372036854775808 ≤ wide ∧ wide ≤ 9223372036854775807) (k : Int) (hk : -9223372036854775808 ≤ k ∧ k ≤ 9223372036854775807) (b : Nat) (hb : b < 256) :
    Calls Try.prog 8 #[.slice a l.length c, .int .i64 wide, .int .i64 k, .int .u8 (b : Int)] w (BoolPost true w) := by
  have hwr := hwrite_any a c l wide w hcap.1 hcap.2.1 hx hu
  unfold maxLen at hm
  obtain ⟨x, rfl⟩ : ∃ x : UInt8, b = x.toNat := ⟨UInt8.ofNat b, by simp; omega⟩
  rcases hwrite_cases l wide with ⟨er, he, hr⟩ | ⟨n, rfl, hn, hl, hf, hr, hlen⟩
  · rw [hr] at hwr
    have HWR := Lib.hid hwr
    have g1 : ((er : Int) != 0) = true := by rw [bne_iff_ne]; omega
    clear hwr hr hx
    go_enter Try.func8, Try.ntmps8
    go_wp2_with fail
    refine (HWR.out).mono ?_
    rintro e w1 ⟨rfl, hb1⟩
    go_wp2_with fail
    refine (hbegun_any _).mono ?_
    rintro e w2 ⟨rfl, hb2⟩
    go_wp2_with fail
    go_ret
    exact ⟨rfl, below_then hb1 hb2⟩
  · rw [hr] at hwr
    obtain ⟨t1, ht1⟩ : ∃ t1, t1 = str (H.bytes n l) := ⟨_, rfl⟩
    obtain ⟨t2, ht2⟩ : ∃ t2, t2 = str [x] := ⟨_, rfl⟩
    have hs1 : t1.size ≤ 1048576 := by rw [ht1, str_size]; exact hlen
    have hs2 : t2.size = 1 := by rw [ht2]; rfl
    have HBT := Lib.hid (fun w => show Calls Try.prog 18 #[.int .u8 (x.toNat : Int)] w (fun e w' => e = .returned (.string t2) ∧ Below w.heap.size w w') by rw [ht2]; exact byteText_any x w)
    have HWR := Lib.hid (show Calls Try.prog 9 #[.slice a l.length c, .int .i64 (n : Int)] w (fun e w' => e = .returned (.tuple #[.string t1, .int .i64 0]) ∧ Below w.heap.size w w') by rw [ht1]; exact hwr)
    have HMORE := Lib.hid (fun w => hread_er (t1 ++ t2) l.length n 1 w (by unfold maxLen; simp; omega) (by
      have e : (t1 ++ t2).data.toList = H.bytes n l ++ [x] := by rw [ht1, ht2, str_append, str_data]
      rw [e, hread_nat _ _ _ hl hn]
      have h1 := H.read_more n l x hl hf
      exact Prod.ext (H.read_err (H.bytes n l ++ [x]) l.length n (by omega)) h1))
    have HCUT := Lib.hid (fun (j : Nat) (hj : j < t1.size) w => hread_er (t1.extract 0 j) l.length n 5 w (by unfold maxLen; simp; omega) (by
      have hj' : j < (H.bytes n l).length := by rw [ht1, str_size] at hj; exact hj
      rw [take_data, ht1, str_data, hread_nat _ _ _ hl hn]
      have h1 := H.read_short n l j hl hf hj'
      exact Prod.ext (H.read_err ((H.bytes n l).take j) l.length n (by omega)) h1))
    have hcat : ¬ 9223372036854775807 < t1.size + 1 := by omega
    clear hwr hr hx hf ht1 ht2 hlen
    by_cases hk0 : k < 0
    · have g1 : decide (k < 0) = true := by simp; omega
      go_enter Try.func8, Try.ntmps8
      go_wp2_with fail
      refine (HWR.out).mono ?_
      rintro e w1 ⟨rfl, hb1⟩
      go_wp2_with fail
      refine (hbegun_any _).mono ?_
      rintro e w2 ⟨rfl, hb2⟩
      have h2 := below_then hb1 hb2
      go_wp2_with fail
      refine (HBT.out _).mono ?_
      rintro e w3 ⟨rfl, hb3⟩
      have h3 := below_then h2 hb3
      go_wp2_with fail
      refine (HMORE.out _).mono ?_
      rintro e w4 ⟨a4, c4, rfl, hb4⟩
      have h4 := below_then h3 hb4
      go_wp2_with fail
      go_ret
      exact ⟨rfl, h4⟩
    · obtain ⟨j, rfl⟩ : ∃ j : Nat, k = j := ⟨k.toNat, by omega⟩
      have g1 : decide ((j : Int) < 0) = false := by simp
      by_cases hj : t1.size ≤ j
      · go_enter Try.func8, Try.ntmps8
        go_wp2_with fail
        refine (HWR.out).mono ?_
        rintro e w1 ⟨rfl, hb1⟩
        go_wp2_with fail
        refine (hbegun_any _).mono ?_
        rintro e w2 ⟨rfl, hb2⟩
        have h2 := below_then hb1 hb2
        go_wp2_with fail
        refine (HBT.out _).mono ?_
        rintro e w3 ⟨rfl, hb3⟩
        have h3 := below_then h2 hb3
        go_wp2_with fail
        refine (HMORE.out _).mono ?_
        rintro e w4 ⟨a4, c4, rfl, hb4⟩
        have h4 := below_then h3 hb4
        go_wp2_with fail
        go_ret
        exact ⟨rfl, h4⟩
      · have HC := Lib.hid (HCUT.out j (by omega))
        have hjI : (j : Int) ≤ (t1.size : Int) := by omega
        go_enter Try.func8, Try.ntmps8
        go_wp2_with fail
        refine (HWR.out).mono ?_
        rintro e w1 ⟨rfl, hb1⟩
        go_wp2_with fail
        refine (hbegun_any _).mono ?_
        rintro e w2 ⟨rfl, hb2⟩
        have h2 := below_then hb1 hb2
        go_wp2_with fail
        refine (HBT.out _).mono ?_
        rintro e w3 ⟨rfl, hb3⟩
        have h3 := below_then h2 hb3
        go_wp2_with fail
        refine (HMORE.out _).mono ?_
        rintro e w4 ⟨a4, c4, rfl, hb4⟩
        have h4 := below_then h3 hb4
        go_wp2_with fail
        refine (HC.out _).mono ?_
        rintro e w5 ⟨a5, c5, rfl, hb5⟩
        go_wp2_with fail
        go_ret
        exact ⟨rfl, below_then h4 hb5⟩
end Go.Proofs.Ytjbnbgiphnnadaa
