/- The walk of vary.Read. -/
import Derived.Test.YtplhlnlonjlcaaaVaryW1
import Derived.Test.YtplhlnlonjlcaaaShelf
namespace Go.Proofs.Ytplhlnlonjlcaaa
open Go.RowKit
set_option linter.unusedVariables false


theorem alen : Try.prog.arrayLen 51 = 9 := by kernel_rfl
theorem aunder : Try.prog.underlying 51 = some (.array (Try.prog.arrayLen 51) (Try.prog.elem 51)) := by kernel_rfl
theorem asize (w : World) : (sizeOf (Try.prog.elem 51)).run Try.prog w = .ok 1 w := by kernel_rfl

theorem run_cut9 (b : Nat) (w : World) (k : Nat) (hk : k ≤ 9) :
    (Instr.sliceAt 51 (.pointer (some ⟨b, 0, none⟩)) none (some (.int .i64 (k : Int))) none).run Try.prog w = .ok (.slice (some ⟨b, 0, none⟩) k 9) w := by
  rw [run_sliceAt_array_h w 51 ⟨b, 0, none⟩ aunder .i64 _ (by omega) (by rw [alen]; omega), asize, alen]
  simp [Result.andThen, slicedAt, Addr.add]

theorem run_text9 (w : World) (c0 c1 c2 c3 c4 c5 c6 c7 c8 k : Nat) (l : List UInt8) (hl : [c0, c1, c2, c3, c4, c5, c6, c7, c8].take k = l.map (·.toNat)) (hk : k ≤ 9) :
    (convert 38 9 (.slice (some ⟨w.heap.size, 0, none⟩) k 9)).run Try.prog (w.alloc (.cells #[.int .u8 c0, .int .u8 c1, .int .u8 c2, .int .u8 c3, .int .u8 c4, .int .u8 c5, .int .u8 c6, .int .u8 c7, .int .u8 c8] 51)) =
      .ok (.string (str l)) (w.alloc (.cells #[.int .u8 c0, .int .u8 c1, .int .u8 c2, .int .u8 c3, .int .u8 c4, .int .u8 c5, .int .u8 c6, .int .u8 c7, .int .u8 c8] 51)) := by
  have hlen : l.length = k := by
    have := congrArg List.length hl
    simp only [List.length_take, List.length_cons, List.length_nil, List.length_map] at this; omega
  rw [← str_of l]
  refine run_convert_bytes_arg _ 38 5 Try.underlying38 Try.underlying5 _ 0 k 9 _ (by simpa using hlen) ?_ 9 Try.underlying9
  intro i hi
  rw [Nat.zero_add, World.cell?_alloc_new]
  have e : (l.map fun b => (b.toNat : Int)).getD i 0 = (([c0, c1, c2, c3, c4, c5, c6, c7, c8].getD i 0 : Nat) : Int) := by
    have h1 : ([c0, c1, c2, c3, c4, c5, c6, c7, c8].take k)[i]? = (l.map (·.toNat))[i]? := by rw [hl]
    rw [List.getElem?_take_of_lt hi] at h1
    simp only [List.getD, h1]
    simp [List.getElem?_eq_getElem (show i < l.length by omega)]
  rw [e]
  have : i = 0 ∨ i = 1 ∨ i = 2 ∨ i = 3 ∨ i = 4 ∨ i = 5 ∨ i = 6 ∨ i = 7 ∨ i = 8 := by omega
  rcases this with rfl | rfl | rfl | rfl | rfl | rfl | rfl | rfl | rfl <;> rfl

def ReadPost (r : Nat × Nat × Nat) (w : World) (e : Ending) (w' : World) : Prop := e = .returned (.tuple #[.int .u64 r.1, .int .i64 r.2.1, .int .i64 r.2.2]) ∧ Below w.heap.size w w'

set_option maxHeartbeats 400000 in
theorem read_empty (s : ByteArray) (w : World) (h : s.toList.isEmpty = true) :
    Calls Try.prog 34 #[.string s] w (ReadPost (0, 0, 5) w) := by
  go_enter Try.func34, Try.ntmps34
  go_wp2_with fail
  go_ret3
  exact ⟨rfl, Below.refl _ _⟩

theorem xor_max (c : Nat) (hc : c < 256) : bits .xor .u8 IntKind.u8.max (c : Int) = ((255 - c : Nat) : Int) := by
  have e : (IntKind.u8.max : Int) = ((255 : Nat) : Int) := rfl
  rw [e, u8_xor_nat 255 c (by omega) hc]
  have : ∀ d : Fin 256, 255 ^^^ d.val = 255 - d.val := by decide +kernel
  rw [this ⟨c, hc⟩]

theorem lz_kl (c : Nat) (hc : c < 256) : (8 - (Lib.bitLen (255 - c) : Int)) + 1 = (V.kl c : Int) := by
  have : ∀ d : Fin 256, (8 - (Lib.bitLen (255 - d.val) : Int)) + 1 = (V.kl d.val : Int) := by decide +kernel
  exact this ⟨c, hc⟩

theorem lz_any (c : Nat) (hc : c < 256) (w : World) :
    Calls Try.prog 35 #[.int .u8 (bits .xor .u8 IntKind.u8.max (c : Int))] w fun e w' => e = .returned (.int .i64 ((V.kl c : Int) - 1)) ∧ w = w' := by
  rw [xor_max c hc]
  refine (Try.bits_LeadingZeros8 _ w (by omega) (by omega)).mono ?_
  rintro e w' ⟨rfl, rfl⟩
  have := lz_kl c hc
  simp only [Int.toNat_natCast, and_true]
  congr 2
  omega

theorem andNot_ld (k c : Nat) (h1 : 1 ≤ k) (h9 : k ≤ 9) (hc : c < 256) (hl : V.ld k ≤ c) : bits .andNot .u8 (c : Int) (V.ld k : Int) = ((c - V.ld k : Nat) : Int) := by
  have hl2 : V.ld k < 256 := by
    rcases nine h1 h9 with rfl | rfl | rfl | rfl | rfl | rfl | rfl | rfl | rfl <;> decide
  rw [u8_andNot_nat _ _ hc hl2]
  have : ∀ (j : Fin 10) (d : Fin 256), V.ld j.val ≤ d.val → 1 ≤ j.val → d.val &&& (255 - V.ld j.val) = d.val - V.ld j.val := by decide +kernel
  rw [this ⟨k, by omega⟩ ⟨c, hc⟩ hl h1]

def acc (c k : Nat) (t : List UInt8) (j : Nat) : Nat := (c - V.ld k) * 256 ^ j + V.val (t.take j)

theorem acc_step (c k : Nat) (t : List UInt8) (j : Nat) (x : UInt8) (hx : t[j]? = some x) : acc c k t (j + 1) = acc c k t j * 256 + x.toNat := by
  have hj : j < t.length := by
    rcases Nat.lt_or_ge j t.length with h | h
    · exact h
    · rw [List.getElem?_eq_none h] at hx; simp at hx
  have e : t.take (j + 1) = t.take j ++ [x] := by
    rw [List.take_succ_eq_append_getElem hj]; rw [List.getElem?_eq_getElem hj] at hx; simp only [Option.some.injEq] at hx; rw [hx]
  unfold acc
  rw [e, V.val_snoc, Nat.pow_succ, Nat.add_mul, Nat.mul_assoc, Nat.add_assoc]

theorem acc_lt (c k : Nat) (t : List UInt8) (j : Nat) (hj : j + 1 < k) (hb : (c - V.ld k + 1) * 256 ^ (k - 1) ≤ 18446744073709551616) : acc c k t j * 256 < 18446744073709551616 := by
  have hv := V.val_lt (t.take j)
  have hv2 : V.val (t.take j) < 256 ^ j := Nat.lt_of_lt_of_le hv (Nat.pow_le_pow_right (by omega) (by rw [List.length_take]; omega))
  have h1 : acc c k t j < (c - V.ld k + 1) * 256 ^ j := by unfold acc; rw [Nat.add_mul, Nat.one_mul]; omega
  have h2 : 256 ^ (j + 1) ≤ 256 ^ (k - 1) := Nat.pow_le_pow_right (by omega) (by omega)
  have h3 : (c - V.ld k + 1) * 256 ^ (j + 1) ≤ (c - V.ld k + 1) * 256 ^ (k - 1) := Nat.mul_le_mul_left _ h2
  rw [Nat.pow_succ, ← Nat.mul_assoc] at h3
  omega

theorem or_256 (a b : Nat) (ha : a * 256 < 18446744073709551616) (hb : b < 256) : bits .or .u64 ((a : Int) * 256) (b : Int) = ((a * 256 + b : Nat) : Int) := by
  have e : ((a : Int) * 256) = ((a * 256 : Nat) : Int) := by simp
  rw [e, bits_or_u64_nat _ _ ha (by omega)]
  have := Nat.two_pow_add_eq_or_of_lt (i := 8) (b := b) (by omega) a
  rw [Nat.mul_comm, show (256 : Nat) = 2 ^ 8 from rfl, ← this]

theorem rd_short (s : ByteArray) (h0 : 0 < s.size) (h : s.size < V.kl s[0].toNat) : V.rd s.data.toList = (0, 0, 5) := by
  obtain ⟨l, hl⟩ := head_cons s h0
  have hsz : (s[0] :: l).length = s.size := by rw [← hl]; exact len_data s
  rw [hl]
  simp only [V.rd]
  rw [if_pos (by omega)]

theorem rd_long (s : ByteArray) (h0 : 0 < s.size) (h : V.kl s[0].toNat ≤ s.size) :
    acc s[0].toNat (V.kl s[0].toNat) (s.data.toList.drop 1) (V.kl s[0].toNat - 1) < 18446744073709551616 ∧
    V.rd s.data.toList = if V.sz (acc s[0].toNat (V.kl s[0].toNat) (s.data.toList.drop 1) (V.kl s[0].toNat - 1)) < V.kl s[0].toNat then (0, 0, 1)
      else (acc s[0].toNat (V.kl s[0].toNat) (s.data.toList.drop 1) (V.kl s[0].toNat - 1), V.kl s[0].toNat, 0) := by
  obtain ⟨l, hl⟩ := head_cons s h0
  have hsz : (s[0] :: l).length = s.size := by rw [← hl]; exact len_data s
  rw [hl]
  obtain ⟨f1, f2, f3, f4⟩ := V.rd_facts s[0] l (by omega)
  simp only [V.rd, List.drop_succ_cons, List.drop_zero, acc]
  rw [if_neg (by omega), ← f2]
  exact ⟨f3, rfl⟩

set_option maxHeartbeats 400000 in
theorem read_any (s : ByteArray) (w : World) (hs : s.size ≤ maxLen) (h0 : 0 < s.size) (h : s.toList.isEmpty = false) :
    Calls Try.prog 34 #[.string s] w (ReadPost (V.rd s.data.toList) w) := by
  unfold maxLen at hs
  have hc := s[0].toNat_lt
  obtain ⟨k1, k9, kld, kb, _⟩ := V.kl_bounds s[0].toNat hc
  have hand := andNot_ld _ _ k1 k9 hc kld
  have hlz := fun w => lz_any s[0].toNat hc w
  have hrd := fun x => rd_short s h0 x
  have hrl := fun x => rd_long s h0 x
  generalize hk : V.kl s[0].toNat = k at *
  have HRD := Lib.hid hrd
  have HRL := Lib.hid hrl
  have HLZ := Lib.hid hlz
  have KB := Lib.hid kb
  clear hrd hrl hlz hk kb
  go_enter Try.func34, Try.ntmps34
  go_wp2_with fail
  refine (HLZ.out _).mono ?_
  rintro e w' ⟨rfl, rfl⟩
  by_cases hlen : s.size < k
  · go_wp2_with fail
    go_ret3
    exact ⟨by rw [HRD.out hlen]; rfl, Below.refl _ _⟩
  · go_wp2_with fail
    go_quiet ((go_at_call 33; exact Calls.quiet_same (lead_any _ _ k1 k9)))
    go_wp2_with fail
    go_loop [6, 7, 27] (fun r _ i => ∃ j : Nat, j ≤ k - 1 ∧ i = .int .i64 j ∧ r = .int .u64 (acc s[0].toNat k (s.data.toList.drop 1) j)) (fun _ _ i => k - (intOf i).toNat)
    case atStart => exact ⟨0, by omega, rfl, by simp [acc, V.val]⟩
    case round =>
      obtain ⟨j, hj, rfl, rfl⟩ := hrel
      by_cases hlt : j < k - 1
      · have hsz : j + 1 < s.size := by omega
        have HA := Lib.hid (acc_step s[0].toNat k (s.data.toList.drop 1) j _ (byte_at s j hsz))
        have hal := acc_lt s[0].toNat k (s.data.toList.drop 1) j (by omega) KB.out
        have hor := or_256 _ _ hal s[j + 1].toNat_lt
        generalize acc s[0].toNat k (s.data.toList.drop 1) j = A at *
        have hw8 : IntKind.u64.wrap (s[j + 1].toNat : Int) = (s[j + 1].toNat : Int) := by
          have := s[j + 1].toNat_lt
          rw [IntKind.wrap_u64]; omega
        go_wp2_with fail
        refine ⟨⟨j + 1, by omega, by go_num, by rw [HA.out]; simp⟩, by simp [intOf]; omega⟩
      · obtain rfl : j = k - 1 := by omega
        obtain ⟨hal, hrd⟩ := HRL.out (by omega)
        have HR := Lib.hid hrd
        clear hrd
        generalize acc s[0].toNat k (s.data.toList.drop 1) (k - 1) = A at *
        go_wp2_with fail
        refine (size_any A _ hal).mono ?_
        rintro e w' ⟨rfl, rfl⟩
        by_cases hz : V.sz A < k
        · go_wp2_with fail
          go_ret3
          exact ⟨by rw [HR.out, if_pos hz]; rfl, below_drewN (Below.refl _ _) _⟩
        · go_wp2_with fail
          go_ret3
          exact ⟨by rw [HR.out, if_neg hz]; rfl, below_drewN (Below.refl _ _) _⟩
end Go.Proofs.Ytplhlnlonjlcaaa
