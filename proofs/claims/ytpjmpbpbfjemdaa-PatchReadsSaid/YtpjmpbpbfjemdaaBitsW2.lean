/- The walks of bits.put, bits.Pack. -/
import Derived.Test.YtpjmpbpbfjemdaaBitsW1
namespace Go.Proofs.Ytpjmpbpbfjemdaa
open Go.RowKit
set_option linter.unusedVariables false

def PutPost (g : Nat) (l : List UInt8) (w : World) (e : Ending) (w' : World) : Prop := e = .returned (.tuple #[]) ∧ Blk w' g l ∧ Below g w w'

theorem small_lt (V b : Nat) (hV : V < 2 ^ b) : V / 256 ^ (b / 8) % 256 < 2 ^ (b % 8) := by
  have e : 2 ^ b = 256 ^ (b / 8) * 2 ^ (b % 8) := by
    rw [B.two8, ← Nat.pow_add]; congr 1; omega
  rw [e] at hV
  have := (Nat.div_lt_iff_lt_mul (B.pos256 (b / 8))).2 (by rw [Nat.mul_comm]; exact hV)
  exact Nat.lt_of_le_of_lt (Nat.mod_le _ _) this

theorem put_step (x n j r : Nat) (hx : x < 2 ^ r) (hr : r < 8) (hn : n < 18446744073709551616) :
    bits .or .u8 (x : Int) (bits .and .u64 ((n : Int) / 2 ^ j) 1 % 256 * 2 ^ r % 256) = ((x + n / 2 ^ j % 2 * 2 ^ r : Nat) : Int) := by
  have e : ((n : Int) / 2 ^ j) = ((n / 2 ^ j : Nat) : Int) := by simp
  have hnj : n / 2 ^ j < 18446744073709551616 := Nat.lt_of_le_of_lt (Nat.div_le_self _ _) hn
  have h1 : bits .and .u64 ((n / 2 ^ j : Nat) : Int) 1 = ((n / 2 ^ j % 2 : Nat) : Int) := by
    have h := bits_and_u64_nat (n / 2 ^ j) 1 hnj (by omega)
    rw [Nat.and_one_is_mod] at h; exact h
  rw [e, h1]
  generalize ht : n / 2 ^ j % 2 = t
  have ht2 : t < 2 := by omega
  have hp : 2 ^ r ≤ 128 := by
    have : 2 ^ r ≤ 2 ^ 7 := Nat.pow_le_pow_right (by omega) (by omega)
    omega
  have h2 : t * 2 ^ r ≤ 2 ^ r := by
    have : t * 2 ^ r ≤ 1 * 2 ^ r := Nat.mul_le_mul_right _ (by omega)
    omega
  have e2 : ((t : Int) % 256 * 2 ^ r % 256) = ((t * 2 ^ r : Nat) : Int) := by
    have e3 : ((t : Int) % 256) = (t : Int) := by omega
    have e4 : ((t : Int) * 2 ^ r) = ((t * 2 ^ r : Nat) : Int) := by simp
    rw [e3, e4]; omega
  rw [e2, u8_or_nat _ _ (by omega) (by omega), Nat.or_comm, Nat.mul_comm, ← Nat.two_pow_add_eq_or_of_lt hx, Nat.add_comm]

theorem put_byte (K V b t : Nat) (hV : V < 2 ^ b) (ht : t < 2) (hb : b / 8 < K) (x : Nat) (hx : ((B.le K V)[b / 8]'(by rw [B.le_length]; exact hb)).toNat = x) :
    x < 2 ^ (b % 8) ∧ (UInt8.ofNat (x + t * 2 ^ (b % 8))).toNat = x + t * 2 ^ (b % 8) ∧ (B.le K V).set (b / 8) (UInt8.ofNat (x + t * 2 ^ (b % 8))) = B.le K (V + t * 2 ^ b) := by
  have h1 := B.le_get K V (b / 8) hb
  rw [List.getElem?_eq_getElem (by rw [B.le_length]; exact hb)] at h1
  rw [Option.some.inj h1, UInt8.toNat_ofNat'] at hx
  have h2 := small_lt V b hV
  have hx' : V / 256 ^ (b / 8) % 256 = x := hx
  rw [hx'] at h2
  have hp : 2 ^ (b % 8) ≤ 128 := by
    have : 2 ^ (b % 8) ≤ 2 ^ 7 := Nat.pow_le_pow_right (by omega) (by omega)
    omega
  have h3 : t * 2 ^ (b % 8) ≤ 2 ^ (b % 8) := by
    have : t * 2 ^ (b % 8) ≤ 1 * 2 ^ (b % 8) := Nat.mul_le_mul_right _ (by omega)
    omega
  refine ⟨h2, ?_, ?_⟩
  · rw [UInt8.toNat_ofNat']; omega
  · have := B.le_put K V b t hV ht hb
    rw [hx'] at this; exact this

theorem put_val (V n f j : Nat) : V + n % 2 ^ j * 2 ^ f + n / 2 ^ j % 2 * 2 ^ (f + j) = V + n % 2 ^ (j + 1) * 2 ^ f := by
  rw [mod_snoc, Nat.add_mul, Nat.pow_add, Nat.mul_assoc, Nat.mul_comm (2 ^ f)]; omega

theorem put_bd (V n f j : Nat) (hV : V < 2 ^ f) : V + n % 2 ^ j * 2 ^ f < 2 ^ (f + j) := by
  have h : n % 2 ^ j + 1 ≤ 2 ^ j := Nat.mod_lt _ (B.pos2 j)
  have h2 : (n % 2 ^ j + 1) * 2 ^ f ≤ 2 ^ j * 2 ^ f := Nat.mul_le_mul_right _ h
  rw [Nat.add_mul, Nat.one_mul] at h2
  rw [Nat.pow_add, Nat.mul_comm (2 ^ f)]
  omega

set_option maxHeartbeats 1000000 in
theorem put_any (g K cap f wd n V : Nat) (w : World) (hw : wd ≤ 64) (hK : f + wd ≤ 8 * K) (hK2 : K ≤ 4096) (hV : V < 2 ^ f) (hn : n < 2 ^ wd) (hb : Blk w g (B.le K V)) :
    Calls Try.prog 77 #[.slice (some ⟨g, 0, none⟩) K cap, .int .i64 f, .int .i64 wd, .int .u64 n] w (PutPost g (B.le K (V + n * 2 ^ f)) w) := by
  go_enter Try.func77, Try.ntmps77
  go_wp2_with fail
  go_loopw [8, 9, 11] (fun _ _ i wr => ∃ j : Nat, j ≤ wd ∧ i = .int .i64 j ∧ Blk wr g (B.le K (V + n % 2 ^ j * 2 ^ f)) ∧ Below g w wr) (fun _ _ i _ => wd - (intOf i).toNat)
  case atStart => exact ⟨0, by omega, rfl, by simpa [Nat.mod_one] using hb, Below.refl _ _⟩
  case round =>
    obtain ⟨j, hj, rfl, hblk, hbw⟩ := hrel
    by_cases hlt : j < wd
    · have hq : (f + j) / 8 < K := by omega
      have hcell := hblk.cell ((f + j) / 8) (by rw [B.le_length]; exact hq)
      have hfree := hblk.free ((f + j) / 8)
      have HBLK := Lib.hid hblk
      generalize hx : ((B.le K (V + n % 2 ^ j * 2 ^ f))[(f + j) / 8]'(by rw [B.le_length]; exact hq)).toNat = x at hcell
      obtain ⟨hx1, hx2, hx3⟩ := put_byte K (V + n % 2 ^ j * 2 ^ f) (f + j) (n / 2 ^ j % 2) (put_bd V n f j hV) (by omega) hq x hx
      have HS := Lib.hid (put_step x n j ((f + j) % 8) hx1 (by omega) (Nat.lt_of_lt_of_le hn (Nat.le_trans (Nat.pow_le_pow_right (by omega) hw) (by omega : 2 ^ 64 ≤ 18446744073709551616))))
      have H2 := Lib.hid hx2
      have H3 := Lib.hid hx3
      clear hx hblk hx1 hx2 hx3
      go_wp2_with fail
      go_region
      go_wp2_with fail
      refine ⟨⟨j + 1, by omega, by go_num, ?_, (hbw.setCell (Nat.le_refl g) _).drew⟩, by simp [intOf]; omega⟩
      rw [HS.out, ← H2.out]
      have h4 := HBLK.out.put ((f + j) / 8) (UInt8.ofNat (x + n / 2 ^ j % 2 * 2 ^ ((f + j) % 8)))
      rw [H3.out, put_val] at h4
      exact h4.drew
    · obtain rfl : j = wd := by omega
      have HN := Lib.hid (Nat.mod_eq_of_lt hn)
      go_wp2_with fail
      go_end0
      exact ⟨rfl, by rw [HN.out] at hblk; exact hblk, hbw⟩
end Go.Proofs.Ytpjmpbpbfjemdaa
