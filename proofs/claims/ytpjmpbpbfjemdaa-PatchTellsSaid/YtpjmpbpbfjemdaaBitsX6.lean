/- The walk of hypostyleref.PackedOf for long lists. -/
import Derived.Test.YtpjmpbpbfjemdaaBitsW6
namespace Go.Proofs.Ytpjmpbpbfjemdaa
open Go.RowKit
set_option linter.unusedVariables false

set_option maxHeartbeats 400000 in
theorem bitOfL_any (b off c : Nat) (l : List Nat) (n p : Nat) (w : World) (hl : l.length ≤ 1048640) (hn : 1 ≤ n) (hn2 : n ≤ 64) (hp : p < l.length * n) (hx : ∀ x ∈ l, x < 18446744073709551616)
    (h1 : ∀ i, i < l.length → w.cell? ⟨b, off + i, none⟩ = some (.int .u64 ((l.getD i 0 : Nat) : Int))) :
    Calls Try.prog 79 #[.slice (some ⟨b, off, none⟩) l.length c, .int .i64 n, .int .i64 p] w fun e w' => e = .returned (.int .i64 ((l.getD (p / n) 0 / 2 ^ (p % n) % 2 : Nat) : Int)) ∧ w = w' := by
  have hi : p / n < l.length := by rw [Nat.div_lt_iff_lt_mul (by omega)]; exact hp
  have hcell := h1 _ hi
  have hxk := hx _ (getD_mem l _ hi)
  have hpb : p < 67112960 := Nat.lt_of_lt_of_le hp (Nat.mul_le_mul hl hn2)
  have hpI : ((p : Int) / (n : Int)) = ((p / n : Nat) : Int) := by simp
  have hpM : ((p : Int) % (n : Int)) = ((p % n : Nat) : Int) := by simp
  have hq : p % n < n := Nat.mod_lt _ (by omega)
  clear h1 hx hp
  generalize p / n = q at *
  generalize l.getD q 0 = x at *
  generalize p % n = r at *
  generalize hres : x / 2 ^ r % 2 = res
  have HRES := Lib.hid hres
  clear hres
  go_enter Try.func79, Try.ntmps79
  go_wp2_with fail
  go_loop [7, 8] (fun v i => ∃ j : Nat, j ≤ r ∧ i = .int .i64 j ∧ v = .int .u64 ((x / 2 ^ j : Nat) : Int)) (fun _ i => r - (intOf i).toNat)
  case atStart => exact ⟨0, by omega, rfl, by simp⟩
  case round =>
    obtain ⟨j, hj, rfl, rfl⟩ := hrel
    have hle : x / 2 ^ j ≤ x := Nat.div_le_self _ _
    by_cases hlt : j < r
    · have HD := Lib.hid (show x / 2 ^ (j + 1) = x / 2 ^ j / 2 by rw [Nat.pow_succ, Nat.div_div_eq_div_mul])
      generalize x / 2 ^ j = y at *
      go_wp2_with fail
      exact ⟨⟨j + 1, by omega, by go_num, by rw [HD.out]; simp⟩, by simp [intOf]; omega⟩
    · obtain rfl : j = r := by omega
      generalize x / 2 ^ j = y at *
      go_wp2_with fail
      go_ret
      refine ⟨?_, rfl⟩
      show Ending.returned (Value.int .i64 _) = _
      congr 2
      rw [← HRES.out]; simp


set_option maxHeartbeats 4000000 in
set_option maxRecDepth 100000 in
theorem packedL_some (b off c : Nat) (l : List Nat) (n : Nat) (w : World) (hl : l.length ≤ 1048640) (hn : 1 ≤ n) (hn2 : n ≤ 64) (hf : ∀ x ∈ l, x < 2 ^ n) (hx : ∀ x ∈ l, x < 18446744073709551616) (hb : b < w.heap.size)
    (h1 : ∀ i, i < l.length → w.cell? ⟨b, off + i, none⟩ = some (.int .u64 ((l.getD i 0 : Nat) : Int))) :
    Calls Try.prog 56 #[.slice (some ⟨b, off, none⟩) l.length c, .int .i64 n] w (TextPost (B.le (B.sz (l.length * n)) (B.pk n l)) w) := by
  have hlt := B.pk_lt n l hf
  rw [Nat.mul_comm] at hlt
  have hbit := fun p hp => B.pk_bit n l hf p (by omega) hp
  generalize B.pk n l = X at *
  have hmul := Nat.mul_le_mul hl hn2
  have hmulI : ((l.length : Int) * (n : Int)) = ((l.length * n : Nat) : Int) := by simp
  have hbo := fun p w hp h1 => bitOfL_any b off c l n p w hl hn hn2 hp hx h1
  generalize hM : l.length * n = M at *
  have HLT := Lib.hid hlt
  have HBIT := Lib.hid hbit
  have HBO := Lib.hid hbo
  have H1 := Lib.hid h1
  clear hlt hbit hbo h1 hx hf hM
  go_enter Try.func56, Try.ntmps56
  go_wp2_with fail
  go_loopw [5, 7, 8, 9] (fun s i _ _ wr => ∃ q : Nat, q ≤ B.sz M ∧ i = .int .i64 ((8 * q : Nat) : Int) ∧ s = .string (str (B.le q X)) ∧ Below w.heap.size w wr) (fun _ i _ _ _ => M + 8 - (intOf i).toNat)
  case atStart => exact ⟨0, by omega, rfl, rfl, Below.refl _ _⟩
  case round =>
    obtain ⟨q, hq, rfl, rfl, hbw⟩ := hrel
    have hsz : B.sz M ≤ 8389121 ∧ 8 * B.sz M < M + 8 ∧ M ≤ 8 * B.sz M := by unfold B.sz; omega
    by_cases hlt : 8 * q < M
    · have hts : (str (B.le q X)).size ≤ 8389121 := by rw [str_size, B.le_length]; omega
      obtain ⟨t, ht⟩ : ∃ t, t = str (B.le q X) := ⟨_, rfl⟩
      rw [← ht] at hts ⊢
      have HT := Lib.hid ht
      clear ht
      obtain ⟨f, hf⟩ : ∃ f, f = 8 * q := ⟨_, rfl⟩
      rw [← hf] at hlt ⊢
      have HF := Lib.hid hf
      have hfb : f ≤ 67112968 := by omega
      clear hf
      go_wp2_with fail
      go_loop [8, 9] (fun v k => ∃ s : Nat, s ≤ 8 ∧ k = .int .i64 (7 - (s : Int)) ∧ v = .int .i64 ((X / 2 ^ (8 * q + 8 - s) % 2 ^ s : Nat) : Int)) (fun _ k => (intOf k + 1).toNat)
      case atStart => exact ⟨0, by omega, rfl, by rw [bits_zero]; rfl⟩
      case round =>
        obtain ⟨s, hs, rfl, rfl⟩ := hrel
        by_cases hs8 : s < 8
        · have hst := bits_step X q s hs8
          have hvb : X / 2 ^ (8 * q + 8 - s) % 2 ^ s < 256 := Nat.lt_of_lt_of_le (Nat.mod_lt _ (B.pos2 s)) (by have : 2 ^ s ≤ 2 ^ 8 := Nat.pow_le_pow_right (by omega) hs; omega)
          have hkI : ((f : Int) + (7 - (s : Int))) = ((f + (7 - s) : Nat) : Int) := by omega
          rw [show 8 * q + (7 - s) = f + (7 - s) by rw [HF.out]] at hst
          generalize X / 2 ^ (8 * q + 8 - s) % 2 ^ s = v at *
          have HST := Lib.hid hst
          clear hst
          generalize hp : f + (7 - s) = p at *
          have hpb : p ≤ 67113000 := by omega
          clear hp
          by_cases hpM : p < M
          · have hbo := fun w h => HBO.out p w hpM h
            rw [← HBIT.out p hpM] at hbo
            have hb2 : X / 2 ^ p % 2 < 2 := by omega
            generalize X / 2 ^ p % 2 = bt at *
            have hcl := fun i hi => (hbw.cell (p := ⟨b, off + i, none⟩) hb).trans (H1.out i hi)
            have HB2 := Lib.hid (hbo wr hcl)
            clear hbo hcl
            go_wp2_with fail
            refine (HB2.out).mono ?_
            rintro e w1 ⟨rfl, rfl⟩
            go_wp2_with fail
            refine ⟨⟨s + 1, by omega, by congr 1; omega, ?_⟩, by simp [intOf]; omega⟩
            rw [HST.out]; congr 1; omega
          · have HZ := Lib.hid (show X / 2 ^ p % 2 = 0 by
              rw [Nat.div_eq_of_lt (Nat.lt_of_lt_of_le HLT.out (Nat.pow_le_pow_right (by omega) (by omega)))])
            go_wp2_with fail
            refine ⟨⟨s + 1, by omega, by congr 1; omega, ?_⟩, by simp [intOf]; omega⟩
            rw [HST.out, HZ.out]; congr 1; omega
        · obtain rfl : s = 8 := by omega
          have hbyte := byte_of X q
          generalize X / 2 ^ (8 * q + 8 - 8) % 2 ^ 8 = y at *
          have hy : y < 256 := by omega
          have HSN := Lib.hid (show B.le (q + 1) X = B.le q X ++ [UInt8.ofNat y] by
            rw [le_snoc]; congr 2; apply UInt8.toNat_inj.mp; simp only [UInt8.toNat_ofNat']; rw [hbyte]; omega)
          clear hbyte
          have hs1 : (str [UInt8.ofNat y]).size = 1 := rfl
          go_wp2_with fail
          refine (one_any y _ (by omega)).mono ?_
          rintro e w1 ⟨rfl, hb1⟩
          go_wp2_with fail
          refine ⟨⟨q + 1, by have := HF.out; omega, ?_, ?_, below_then hbw hb1⟩, by simp [intOf]; omega⟩
          · rw [HF.out]; congr 1 <;> omega
          · rw [HT.out, str_append, HSN.out]
    · obtain rfl : q = B.sz M := by unfold B.sz at hq ⊢; omega
      go_wp2_with fail
      go_ret
      exact ⟨rfl, hbw⟩

set_option maxHeartbeats 400000 in
theorem packedL_zero (a : Option Addr) (c k n : Nat) (w : World) (hk : k ≤ 1048640) (hn : n ≤ 64) (h : k * n = 0) :
    Calls Try.prog 56 #[.slice a k c, .int .i64 n] w (TextPost [] w) := by
  have hmulI : ((k : Int) * (n : Int)) = ((k * n : Nat) : Int) := by simp
  rw [h] at hmulI
  clear h
  go_enter Try.func56, Try.ntmps56
  go_wp2_with fail
  refine wp_loop_rounds 1 ?_
  rw [rounds_succ]
  go_wp2_with fail
  go_ret
  exact ⟨rfl, Below.refl _ _⟩


theorem packedL_any (a : Option Addr) (c : Nat) (l : List Nat) (n : Nat) (w : World) (hl : l.length ≤ 1048640) (hn2 : n ≤ 64) (hf : ∀ x ∈ l, x < 2 ^ n) (hx : ∀ x ∈ l, x < 18446744073709551616) (hu : Nums w w.heap.size a l) :
    Calls Try.prog 56 #[.slice a l.length c, .int .i64 n] w (TextPost (B.le (B.sz (l.length * n)) (B.pk n l)) w) := by
  by_cases h : l.length * n = 0
  · rw [h]; exact packedL_zero a c _ n w hl hn2 h
  · have hn : 1 ≤ n := by
      rcases Nat.eq_zero_or_pos n with h0 | h0
      · rw [h0] at h; simp at h
      · exact h0
    have hne : l ≠ [] := by intro e; rw [e] at h; simp at h
    obtain ⟨b, off, rfl, hb, hc⟩ := hu hne
    exact packedL_some b off c l n w hl hn hn2 hf hx hb hc

end Go.Proofs.Ytpjmpbpbfjemdaa
