/- The walks of the reference: pow2, fits, WidthOf, bitOf, PackedOf, PackOf. -/
import Derived.Test.YtpjmpbpbfjemdaaBitsF
import Derived.Test.YtpjmpbpbfjemdaaOne
namespace Go.Proofs.Ytpjmpbpbfjemdaa
open Go.RowKit
set_option linter.unusedVariables false

set_option maxHeartbeats 400000 in
theorem pow2_any (k : Nat) (w : World) (hk : k < 64) :
    Calls Try.prog 78 #[.int .i64 k] w fun e w' => e = .returned (.int .u64 ((2 ^ k : Nat) : Int)) ∧ w = w' := by
  go_enter Try.func78, Try.ntmps78
  go_wp2_with fail
  go_loop [3, 4] (fun n i => ∃ j : Nat, j ≤ k ∧ i = .int .i64 j ∧ n = .int .u64 ((2 ^ j : Nat) : Int)) (fun _ i => k - (intOf i).toNat)
  case atStart => exact ⟨0, by omega, rfl, rfl⟩
  case round =>
    obtain ⟨j, hj, rfl, rfl⟩ := hrel
    by_cases hlt : j < k
    · have hp : 2 ^ j * 2 < 18446744073709551616 := by
        have : 2 ^ (j + 1) ≤ 2 ^ 63 := Nat.pow_le_pow_right (by omega) (by omega)
        rw [Nat.pow_succ] at this; omega
      have HP := Lib.hid (Nat.pow_succ 2 j)
      generalize 2 ^ j = P at *
      go_wp2_with fail
      exact ⟨⟨j + 1, by omega, by go_num, by rw [HP.out]; simp⟩, by simp [intOf]; omega⟩
    · obtain rfl : j = k := by omega
      go_wp2_with fail
      go_ret
      exact ⟨rfl, rfl⟩

set_option maxHeartbeats 400000 in
theorem fits_any (n k : Nat) (w : World) (hn : n < 18446744073709551616) (hk : k ≤ 64) :
    Calls Try.prog 55 #[.int .u64 n, .int .i64 k] w fun e w' => e = .returned (.bool (decide (B.bl n ≤ k))) ∧ w = w' := by
  by_cases h : k = 64
  · subst h
    have HT := Lib.hid (show decide (B.bl n ≤ 64) = true by rw [decide_eq_true_iff, B.bl_le]; exact hn)
    go_enter Try.func55, Try.ntmps55
    go_wp2_with fail
    go_ret
    exact ⟨by rw [HT.out]; rfl, rfl⟩
  · have g1 : decide ((64 : Int) ≤ (k : Int)) = false := by simp; omega
    have HT := Lib.hid (show decide (B.bl n ≤ k) = decide (n < 2 ^ k) from decide_eq_decide.2 (B.bl_le n k))
    have HP := Lib.hid (fun w => pow2_any k w (by omega))
    generalize 2 ^ k = P at *
    go_enter Try.func55, Try.ntmps55
    go_wp2_with fail
    refine (HP.out _).mono ?_
    rintro e w1 ⟨rfl, rfl⟩
    go_wp2_with fail
    go_ret
    exact ⟨by rw [HT.out]; rfl, rfl⟩

set_option maxHeartbeats 1000000 in
theorem rwidth_some (b off c : Nat) (l : List Nat) (w : World) (hl : l.length ≤ maxLen) (hx : ∀ x ∈ l, x < 18446744073709551616)
    (h1 : ∀ i, i < l.length → w.cell? ⟨b, off + i, none⟩ = some (.int .u64 ((l.getD i 0 : Nat) : Int))) :
    Calls Try.prog 45 #[.slice (some ⟨b, off, none⟩) l.length c] w fun e w' => e = .returned (.int .i64 (B.wd l)) ∧ w = w' := by
  unfold maxLen at hl
  have H1 := Lib.hid h1
  have HX := Lib.hid hx
  clear h1 hx
  go_enter Try.func45, Try.ntmps45
  go_wp2_with fail
  go_loop [3, 4] (fun v i => ∃ k : Nat, k ≤ l.length ∧ i = .int .i64 k ∧ v = .int .i64 (B.wd (l.take k))) (fun _ i => l.length - (intOf i).toNat)
  case atStart => exact ⟨0, by omega, rfl, rfl⟩
  case round =>
    obtain ⟨k, hk, rfl, rfl⟩ := hrel
    by_cases hlt : k < l.length
    · have hcell := H1.out k hlt
      have hxk := HX.out _ (getD_mem l k hlt)
      have HW := Lib.hid (show B.wd (l.take (k + 1)) = max (B.wd (l.take k)) (B.bl (l.getD k 0)) by
        rw [List.take_succ_eq_append_getElem hlt, B.wd_snoc]; simp [List.getD, List.getElem?_eq_getElem hlt])
      have hm : B.wd (l.take k) ≤ 64 := B.wd_64 _ (fun x h => HX.out x (List.mem_of_mem_take h))
      have hbl : B.bl (l.getD k 0) ≤ 64 := (B.bl_le _ 64).2 hxk
      have hft := fun j w h => fits_any (l.getD k 0) j w hxk h
      generalize l.getD k 0 = x at *
      generalize B.wd (l.take k) = m at *
      have HFT := Lib.hid hft
      clear hft
      go_wp2_with fail
      go_loop [3] (fun v => ∃ j : Nat, m ≤ j ∧ j ≤ 64 ∧ (j ≤ m ∨ j ≤ B.bl x) ∧ v = .int .i64 j) (fun v => 65 - (intOf v).toNat)
      case atStart => exact ⟨m, by omega, hm, Or.inl (by omega), rfl⟩
      case round =>
        obtain ⟨j, hj1, hj2, hj3, rfl⟩ := hrel
        by_cases hf : B.bl x ≤ j
        · have hd : decide (B.bl x ≤ j) = true := by simp; omega
          have hft := fun w => HFT.out j w hj2
          rw [hd] at hft
          have HF2 := Lib.hid hft
          clear hft hd
          go_wp2_with fail
          refine (HF2.out _).mono ?_
          rintro e w1 ⟨rfl, rfl⟩
          go_wp2_with fail
          refine ⟨⟨k + 1, by omega, by go_num, ?_⟩, by simp [intOf]; omega⟩
          rw [HW.out]; congr 2; omega
        · have hd : decide (B.bl x ≤ j) = false := by simp; omega
          have hft := fun w => HFT.out j w hj2
          rw [hd] at hft
          have HF2 := Lib.hid hft
          clear hft hd
          go_wp2_with fail
          refine (HF2.out _).mono ?_
          rintro e w1 ⟨rfl, rfl⟩
          go_wp2_with fail
          exact ⟨⟨j + 1, by omega, by omega, Or.inr (by omega), by go_num⟩, by simp [intOf]; omega⟩
    · obtain rfl : k = l.length := by omega
      rw [List.take_length]
      go_wp2_with fail
      go_ret
      exact ⟨rfl, rfl⟩

set_option maxHeartbeats 400000 in
theorem rwidth_nil (a : Option Addr) (c : Nat) (w : World) :
    Calls Try.prog 45 #[.slice a 0 c] w fun e w' => e = .returned (.int .i64 0) ∧ w = w' := by
  go_enter Try.func45, Try.ntmps45
  go_wp2_with fail
  refine wp_loop_rounds 1 ?_
  rw [rounds_succ]
  go_wp2_with fail
  go_ret
  exact ⟨rfl, rfl⟩

theorem rwidth_any (a : Option Addr) (c : Nat) (l : List Nat) (w : World) (B' : Nat) (hl : l.length ≤ maxLen) (hx : ∀ x ∈ l, x < 18446744073709551616) (hu : Nums w B' a l) :
    Calls Try.prog 45 #[.slice a l.length c] w fun e w' => e = .returned (.int .i64 (B.wd l)) ∧ w = w' := by
  by_cases hn : l = []
  · subst hn; exact rwidth_nil a c w
  · obtain ⟨b, off, rfl, hb, hc⟩ := hu hn
    exact rwidth_some b off c l w hl hx hc

set_option maxHeartbeats 400000 in
theorem bitOf_any (b off c : Nat) (l : List Nat) (n p : Nat) (w : World) (hl : l.length ≤ 64) (hn : 1 ≤ n) (hn2 : n ≤ 64) (hp : p < l.length * n) (hx : ∀ x ∈ l, x < 18446744073709551616)
    (h1 : ∀ i, i < l.length → w.cell? ⟨b, off + i, none⟩ = some (.int .u64 ((l.getD i 0 : Nat) : Int))) :
    Calls Try.prog 79 #[.slice (some ⟨b, off, none⟩) l.length c, .int .i64 n, .int .i64 p] w fun e w' => e = .returned (.int .i64 ((l.getD (p / n) 0 / 2 ^ (p % n) % 2 : Nat) : Int)) ∧ w = w' := by
  have hi : p / n < l.length := by rw [Nat.div_lt_iff_lt_mul (by omega)]; exact hp
  have hcell := h1 _ hi
  have hxk := hx _ (getD_mem l _ hi)
  have hpb : p < 4096 := Nat.lt_of_lt_of_le hp (Nat.mul_le_mul hl hn2)
  have hpI : ((p : Int) / (n : Int)) = ((p / n : Nat) : Int) := by simp
  have hpM : ((p : Int) % (n : Int)) = ((p % n : Nat) : Int) := by simp
  have hq : p % n < n := Nat.mod_lt _ (by omega)
  clear h1 hx hp
  generalize p / n = q at *
  generalize l.getD q 0 = x at *
  generalize p % n = r at *
  generalize hres : x / 2 ^ r % 2 = res
  have HRES := Lib.hid hres
  clear hres
  go_enter Try.func79, Try.ntmps79
  go_wp2_with fail
  go_loop [7, 8] (fun v i => ∃ j : Nat, j ≤ r ∧ i = .int .i64 j ∧ v = .int .u64 ((x / 2 ^ j : Nat) : Int)) (fun _ i => r - (intOf i).toNat)
  case atStart => exact ⟨0, by omega, rfl, by simp⟩
  case round =>
    obtain ⟨j, hj, rfl, rfl⟩ := hrel
    have hle : x / 2 ^ j ≤ x := Nat.div_le_self _ _
    by_cases hlt : j < r
    · have HD := Lib.hid (show x / 2 ^ (j + 1) = x / 2 ^ j / 2 by rw [Nat.pow_succ, Nat.div_div_eq_div_mul])
      generalize x / 2 ^ j = y at *
      go_wp2_with fail
      exact ⟨⟨j + 1, by omega, by go_num, by rw [HD.out]; simp⟩, by simp [intOf]; omega⟩
    · obtain rfl : j = r := by omega
      generalize x / 2 ^ j = y at *
      go_wp2_with fail
      go_ret
      refine ⟨?_, rfl⟩
      show Ending.returned (Value.int .i64 _) = _
      congr 2
      rw [← HRES.out]; simp

theorem le_snoc (k v : Nat) : B.le (k + 1) v = B.le k v ++ [UInt8.ofNat (v / 256 ^ k)] := by
  induction k generalizing v with
  | zero => simp [B.le]
  | succ k ih =>
    rw [B.le, ih]
    conv => rhs; rw [B.le]
    rw [List.cons_append, Nat.div_div_eq_div_mul, Nat.pow_succ, Nat.mul_comm 256]

theorem bits_zero (X : Nat) : X % 2 ^ 0 = 0 := by simp [Nat.mod_one]
theorem byte_of (X q : Nat) : X / 2 ^ (8 * q + 8 - 8) % 2 ^ 8 = X / 256 ^ q % 256 := by rw [Nat.add_sub_cancel, ← B.two8]

theorem bits_step (X q t : Nat) (ht : t < 8) : X / 2 ^ (8 * q + 8 - (t + 1)) % 2 ^ (t + 1) = 2 * (X / 2 ^ (8 * q + 8 - t) % 2 ^ t) + X / 2 ^ (8 * q + (7 - t)) % 2 := by
  have e1 : 8 * q + 8 - (t + 1) = 8 * q + (7 - t) := by omega
  have e2 : 8 * q + 8 - t = 8 * q + (7 - t) + 1 := by omega
  rw [e1, e2, show 2 ^ (8 * q + (7 - t) + 1) = 2 ^ (8 * q + (7 - t)) * 2 from Nat.pow_succ 2 _, ← Nat.div_div_eq_div_mul]
  generalize X / 2 ^ (8 * q + (7 - t)) = Y
  rw [Nat.pow_succ, Nat.mul_comm (2 ^ t), Nat.mod_mul]; omega

set_option maxHeartbeats 4000000 in
set_option maxRecDepth 100000 in
theorem packed_some (b off c : Nat) (l : List Nat) (n : Nat) (w : World) (hl : l.length ≤ 64) (hn : 1 ≤ n) (hn2 : n ≤ 64) (hf : ∀ x ∈ l, x < 2 ^ n) (hx : ∀ x ∈ l, x < 18446744073709551616) (hb : b < w.heap.size)
    (h1 : ∀ i, i < l.length → w.cell? ⟨b, off + i, none⟩ = some (.int .u64 ((l.getD i 0 : Nat) : Int))) :
    Calls Try.prog 56 #[.slice (some ⟨b, off, none⟩) l.length c, .int .i64 n] w (TextPost (B.le (B.sz (l.length * n)) (B.pk n l)) w) := by
  have hlt := B.pk_lt n l hf
  rw [Nat.mul_comm] at hlt
  have hbit := fun p hp => B.pk_bit n l hf p (by omega) hp
  generalize B.pk n l = X at *
  have hmul := Nat.mul_le_mul hl hn2
  have hmulI : ((l.length : Int) * (n : Int)) = ((l.length * n : Nat) : Int) := by simp
  have hbo := fun p w hp h1 => bitOf_any b off c l n p w hl hn hn2 hp hx h1
  generalize hM : l.length * n = M at *
  have HLT := Lib.hid hlt
  have HBIT := Lib.hid hbit
  have HBO := Lib.hid hbo
  have H1 := Lib.hid h1
  clear hlt hbit hbo h1 hx hf hM
  go_enter Try.func56, Try.ntmps56
  go_wp2_with fail
  go_loopw [5, 7, 8, 9] (fun s i _ _ wr => ∃ q : Nat, q ≤ B.sz M ∧ i = .int .i64 ((8 * q : Nat) : Int) ∧ s = .string (str (B.le q X)) ∧ Below w.heap.size w wr) (fun _ i _ _ _ => M + 8 - (intOf i).toNat)
  case atStart => exact ⟨0, by omega, rfl, rfl, Below.refl _ _⟩
  case round =>
    obtain ⟨q, hq, rfl, rfl, hbw⟩ := hrel
    have hsz : B.sz M ≤ 512 ∧ 8 * B.sz M < M + 8 ∧ M ≤ 8 * B.sz M := by unfold B.sz; omega
    by_cases hlt : 8 * q < M
    · have hts : (str (B.le q X)).size ≤ 512 := by rw [str_size, B.le_length]; omega
      obtain ⟨t, ht⟩ : ∃ t, t = str (B.le q X) := ⟨_, rfl⟩
      rw [← ht] at hts ⊢
      have HT := Lib.hid ht
      clear ht
      obtain ⟨f, hf⟩ : ∃ f, f = 8 * q := ⟨_, rfl⟩
      rw [← hf] at hlt ⊢
      have HF := Lib.hid hf
      have hfb : f ≤ 4096 := by omega
      clear hf
      go_wp2_with fail
      go_loop [8, 9] (fun v k => ∃ s : Nat, s ≤ 8 ∧ k = .int .i64 (7 - (s : Int)) ∧ v = .int .i64 ((X / 2 ^ (8 * q + 8 - s) % 2 ^ s : Nat) : Int)) (fun _ k => (intOf k + 1).toNat)
      case atStart => exact ⟨0, by omega, rfl, by rw [bits_zero]; rfl⟩
      case round =>
        obtain ⟨s, hs, rfl, rfl⟩ := hrel
        by_cases hs8 : s < 8
        · have hst := bits_step X q s hs8
          have hvb : X / 2 ^ (8 * q + 8 - s) % 2 ^ s < 256 := Nat.lt_of_lt_of_le (Nat.mod_lt _ (B.pos2 s)) (by have : 2 ^ s ≤ 2 ^ 8 := Nat.pow_le_pow_right (by omega) hs; omega)
          have hkI : ((f : Int) + (7 - (s : Int))) = ((f + (7 - s) : Nat) : Int) := by omega
          rw [show 8 * q + (7 - s) = f + (7 - s) by rw [HF.out]] at hst
          generalize X / 2 ^ (8 * q + 8 - s) % 2 ^ s = v at *
          have HST := Lib.hid hst
          clear hst
          generalize hp : f + (7 - s) = p at *
          have hpb : p ≤ 8192 := by omega
          clear hp
          by_cases hpM : p < M
          · have hbo := fun w h => HBO.out p w hpM h
            rw [← HBIT.out p hpM] at hbo
            have hb2 : X / 2 ^ p % 2 < 2 := by omega
            generalize X / 2 ^ p % 2 = bt at *
            have hcl := fun i hi => (hbw.cell (p := ⟨b, off + i, none⟩) hb).trans (H1.out i hi)
            have HB2 := Lib.hid (hbo wr hcl)
            clear hbo hcl
            go_wp2_with fail
            refine (HB2.out).mono ?_
            rintro e w1 ⟨rfl, rfl⟩
            go_wp2_with fail
            refine ⟨⟨s + 1, by omega, by congr 1; omega, ?_⟩, by simp [intOf]; omega⟩
            rw [HST.out]; congr 1; omega
          · have HZ := Lib.hid (show X / 2 ^ p % 2 = 0 by
              rw [Nat.div_eq_of_lt (Nat.lt_of_lt_of_le HLT.out (Nat.pow_le_pow_right (by omega) (by omega)))])
            go_wp2_with fail
            refine ⟨⟨s + 1, by omega, by congr 1; omega, ?_⟩, by simp [intOf]; omega⟩
            rw [HST.out, HZ.out]; congr 1; omega
        · obtain rfl : s = 8 := by omega
          have hbyte := byte_of X q
          generalize X / 2 ^ (8 * q + 8 - 8) % 2 ^ 8 = y at *
          have hy : y < 256 := by omega
          have HSN := Lib.hid (show B.le (q + 1) X = B.le q X ++ [UInt8.ofNat y] by
            rw [le_snoc]; congr 2; apply UInt8.toNat_inj.mp; simp only [UInt8.toNat_ofNat']; rw [hbyte]; omega)
          clear hbyte
          have hs1 : (str [UInt8.ofNat y]).size = 1 := rfl
          go_wp2_with fail
          refine (one_any y _ (by omega)).mono ?_
          rintro e w1 ⟨rfl, hb1⟩
          go_wp2_with fail
          refine ⟨⟨q + 1, by have := HF.out; omega, ?_, ?_, below_then hbw hb1⟩, by simp [intOf]; omega⟩
          · rw [HF.out]; congr 1 <;> omega
          · rw [HT.out, str_append, HSN.out]
    · obtain rfl : q = B.sz M := by unfold B.sz at hq ⊢; omega
      go_wp2_with fail
      go_ret
      exact ⟨rfl, hbw⟩
end Go.Proofs.Ytpjmpbpbfjemdaa
