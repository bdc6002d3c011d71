/- The walks of bits.size, bits.take, bits.Width. -/
import Derived.Test.YtpjmpbpbfjemdaaBaseB
import Derived.Test.YtpjmpbpbfjemdaaBitsPlain
import Derived.Test.YtpjmpbpbfjemdaaShelf64
namespace Go.Proofs.Ytpjmpbpbfjemdaa
open Go.RowKit
set_option linter.unusedVariables false

set_option maxHeartbeats 400000 in
theorem bsize_any (m : Nat) (w : World) (hm : m ≤ 1048576) :
    Calls Try.prog 76 #[.int .i64 m] w fun e w' => e = .returned (.int .i64 (B.sz m)) ∧ w = w' := by
  go_enter Try.func76, Try.ntmps76
  go_wp2_with fail
  go_ret
  refine ⟨?_, rfl⟩
  show Ending.returned (Value.int .i64 _) = _
  congr 2

theorem bit_or (n i t : Nat) (hn : n < 2 ^ i) (hi : i < 64) (ht : t < 2) : bits .or .u64 (n : Int) ((t * 2 ^ i : Nat) : Int) = ((n + t * 2 ^ i : Nat) : Int) := by
  have hp : 2 ^ (i + 1) ≤ 2 ^ 64 := Nat.pow_le_pow_right (by omega) (by omega)
  rw [Nat.pow_succ] at hp
  have h2 : t * 2 ^ i ≤ 2 ^ i := by
    have : t * 2 ^ i ≤ 1 * 2 ^ i := Nat.mul_le_mul_right _ (by omega)
    omega
  rw [bits_or_u64_nat _ _ (by omega) (by omega), Nat.or_comm, Nat.mul_comm, ← Nat.two_pow_add_eq_or_of_lt hn, Nat.add_comm]

theorem mod_snoc (X i : Nat) : X % 2 ^ (i + 1) = X % 2 ^ i + X / 2 ^ i % 2 * 2 ^ i := by
  rw [Nat.pow_succ, Nat.mod_mul, Nat.mul_comm (2 ^ i)]

theorem and1 (x : Nat) (hx : x < 256) : bits .and .u8 (x : Int) 1 = ((x % 2 : Nat) : Int) := by
  have h := u8_and_nat x 1 hx (by omega)
  rw [Nat.and_one_is_mod] at h
  exact h

theorem shift_in (t j : Nat) (ht : t < 2) (hj : j < 64) : IntKind.u64.wrap (IntKind.u64.wrap (t : Int) * 2 ^ j) = ((t * 2 ^ j : Nat) : Int) := by
  have hp : 2 ^ (j + 1) ≤ 2 ^ 64 := Nat.pow_le_pow_right (by omega) (by omega)
  rw [Nat.pow_succ] at hp
  have h2 : t * 2 ^ j ≤ 2 ^ j := by
    have : t * 2 ^ j ≤ 1 * 2 ^ j := Nat.mul_le_mul_right _ (by omega)
    omega
  have e : IntKind.u64.wrap (t : Int) = (t : Int) := by rw [IntKind.wrap_u64]; omega
  have e2 : ((t : Int) * 2 ^ j) = ((t * 2 ^ j : Nat) : Int) := by simp
  rw [e, e2, IntKind.wrap_u64]
  omega

theorem take_step (n j c r t : Nat) (hn : n < 2 ^ j) (hj : j < 64) (hc : c < 256) (ht : c / 2 ^ r % 2 = t) :
    bits .or .u64 (n : Int) (IntKind.u64.wrap (IntKind.u64.wrap (bits .and .u8 ((c : Int) / 2 ^ r) 1) * 2 ^ j)) = ((n + t * 2 ^ j : Nat) : Int) := by
  have e : ((c : Int) / 2 ^ r) = ((c / 2 ^ r : Nat) : Int) := by simp
  have hcr : c / 2 ^ r < 256 := Nat.lt_of_le_of_lt (Nat.div_le_self _ _) hc
  rw [e, and1 _ hcr, ht, shift_in t j (by omega) hj, bit_or n j t hn hj (by omega)]

theorem text_bit (s : ByteArray) (f j : Nat) (h : (f + j) / 8 < s.size) : s[(f + j) / 8].toNat / 2 ^ ((f + j) % 8) % 2 = B.leN s.data.toList / 2 ^ f / 2 ^ j % 2 := by
  have := B.leN_bit s.data.toList (f + j) (by rw [len_data]; exact h)
  rw [Nat.div_div_eq_div_mul, ← Nat.pow_add, ← this]
  rfl

set_option maxHeartbeats 400000 in
theorem take_any (s : ByteArray) (f wd : Nat) (w : World) (hw : wd ≤ 64) (hs : f + wd ≤ 8 * s.size) (hf : f ≤ 1048576) (hz : s.size ≤ maxLen) :
    Calls Try.prog 93 #[.string s, .int .i64 f, .int .i64 wd] w fun e w' => e = .returned (.int .u64 ((B.leN s.data.toList / 2 ^ f % 2 ^ wd : Nat) : Int)) ∧ w = w' := by
  unfold maxLen at hz
  generalize hX : B.leN s.data.toList / 2 ^ f = X
  have HX := Lib.hid hX
  clear hX
  go_enter Try.func93, Try.ntmps93
  go_wp2_with fail
  go_loop [7, 8, 9, 11] (fun n _ _ i => ∃ j : Nat, j ≤ wd ∧ i = .int .i64 j ∧ n = .int .u64 ((X % 2 ^ j : Nat) : Int)) (fun _ _ _ i => wd - (intOf i).toNat)
  case atStart => exact ⟨0, by omega, rfl, by simp [Nat.mod_one]⟩
  case round =>
    obtain ⟨j, hj, rfl, rfl⟩ := hrel
    by_cases hlt : j < wd
    · have hM := Lib.hid (mod_snoc X j)
      have hn : X % 2 ^ j < 2 ^ j := Nat.mod_lt _ (B.pos2 j)
      have hq : (f + j) / 8 < s.size := by omega
      have HB := Lib.hid (text_bit s f j hq)
      generalize X % 2 ^ j = n at *
      go_wp2_with fail
      refine ⟨⟨j + 1, by omega, by go_num, ?_⟩, by simp [intOf]; omega⟩
      rw [take_step n j _ _ _ hn (by omega) s[(f + j) / 8].toNat_lt HB.out, HX.out, hM.out]
    · obtain rfl : j = wd := by omega
      go_wp2_with fail
      go_ret
      exact ⟨rfl, rfl⟩

theorem len64_any (n : Nat) (w : World) (hn : n < 18446744073709551616) :
    Calls Try.prog 62 #[.int .u64 n] w fun e w' => e = .returned (.int .i64 (B.bl n)) ∧ w = w' := by
  refine (Try.bits_Len64 _ w (by omega) (by omega)).mono ?_
  rintro e w' ⟨rfl, rfl⟩
  rw [Int.toNat_natCast, B.bitLen_bl n hn]
  exact ⟨rfl, rfl⟩

theorem ors_step (l : List Nat) (k : Nat) (hk : k < l.length) (hx : ∀ x ∈ l, x < 18446744073709551616) :
    bits .or .u64 ((B.ors (l.take k) : Nat) : Int) ((l.getD k 0 : Nat) : Int) = ((B.ors (l.take (k + 1)) : Nat) : Int) := by
  rw [bits_or_u64_nat _ _ (B.ors_lt _ (fun x h => hx x (List.mem_of_mem_take h))) (hx _ (getD_mem l k hk))]
  rw [List.take_succ_eq_append_getElem hk, B.ors_snoc]
  simp [List.getD, List.getElem?_eq_getElem hk]

set_option maxHeartbeats 400000 in
theorem width_some (b off c : Nat) (l : List Nat) (w : World) (hl : l.length ≤ maxLen) (hx : ∀ x ∈ l, x < 18446744073709551616)
    (h1 : ∀ i, i < l.length → w.cell? ⟨b, off + i, none⟩ = some (.int .u64 ((l.getD i 0 : Nat) : Int))) :
    Calls Try.prog 40 #[.slice (some ⟨b, off, none⟩) l.length c] w fun e w' => e = .returned (.int .i64 (B.wd l)) ∧ w = w' := by
  unfold maxLen at hl
  have H1 := Lib.hid h1
  have HX := Lib.hid hx
  clear h1 hx
  go_enter Try.func40, Try.ntmps40
  go_wp2_with fail
  go_loop [3, 5, 8] (fun v _ i => ∃ k : Nat, k ≤ l.length ∧ i = .int .i64 k ∧ v = .int .u64 ((B.ors (l.take k) : Nat) : Int)) (fun _ _ i => l.length - (intOf i).toNat)
  case atStart => exact ⟨0, by omega, rfl, rfl⟩
  case round =>
    obtain ⟨k, hk, rfl, rfl⟩ := hrel
    by_cases hlt : k < l.length
    · have hcell := H1.out k hlt
      have HO := Lib.hid (ors_step l k hlt HX.out)
      generalize l.getD k 0 = x at *
      generalize B.ors (l.take k) = o at *
      go_wp2_with fail
      exact ⟨⟨k + 1, by omega, by go_num, by rw [HO.out]⟩, by simp [intOf]; omega⟩
    · obtain rfl : k = l.length := by omega
      have ho := B.ors_lt l HX.out
      have HW := Lib.hid (B.bl_ors l)
      rw [List.take_length]
      generalize B.ors l = o at *
      go_wp2_with fail
      refine (len64_any o _ ho).mono ?_
      rintro e w' ⟨rfl, rfl⟩
      go_wp2_with fail
      go_ret
      exact ⟨by rw [← HW.out]; rfl, rfl⟩

set_option maxHeartbeats 400000 in
theorem width_nil (a : Option Addr) (c : Nat) (w : World) :
    Calls Try.prog 40 #[.slice a 0 c] w fun e w' => e = .returned (.int .i64 0) ∧ w = w' := by
  go_enter Try.func40, Try.ntmps40
  go_wp2_with fail
  refine wp_loop_rounds 1 ?_
  rw [rounds_succ]
  go_wp2_with fail
  refine (len64_any 0 _ (by omega)).mono ?_
  rintro e w' ⟨rfl, rfl⟩
  go_wp2_with fail
  go_ret
  exact ⟨rfl, rfl⟩

theorem width_any (a : Option Addr) (c : Nat) (l : List Nat) (w : World) (B' : Nat) (hl : l.length ≤ maxLen) (hx : ∀ x ∈ l, x < 18446744073709551616) (hu : Nums w B' a l) :
    Calls Try.prog 40 #[.slice a l.length c] w fun e w' => e = .returned (.int .i64 (B.wd l)) ∧ w = w' := by
  by_cases hn : l = []
  · subst hn; exact width_nil a c w
  · obtain ⟨b, off, rfl, hb, hc⟩ := hu hn
    exact width_some b off c l w hl hx hc
end Go.Proofs.Ytpjmpbpbfjemdaa
