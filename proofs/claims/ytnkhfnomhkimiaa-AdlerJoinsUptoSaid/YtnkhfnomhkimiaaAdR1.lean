/- The walks of hypostyleref.AdlerOf, AdlerJoined, AdlerRolled. -/
import Derived.Test.YtnkhfnomhkimiaaAdW2
namespace Go.Proofs.Ytnkhfnomhkimiaa
open Go.RowKit
set_option linter.unusedVariables false

set_option maxHeartbeats 4000000 in
set_option maxRecDepth 100000 in
theorem adlerOf_core (c : Nat) (x : List UInt8) (X : ByteArray) (w : World) (hc : c < 4294967296) (hx : x.length ≤ 140737488351232) (hsx : X.size = x.length)
    (hxa : ∀ i (h : i < X.size) (h2 : i < x.length), X[i] = x[i]) :
    Calls Try.prog 14 #[.int .u32 c, .string X] w fun e w' => e = .returned (.int .u32 (Ad.more c x : Nat)) ∧ w = w' := by
  have HXA := Lib.hid hxa
  clear hxa
  have HM0 := Lib.hid (Ad.rmore_is c x)
  have hlo : (c : Int) % 65536 % 65521 = (Ad.lo c : Int) := by unfold Ad.lo; omega
  have hhi : (c : Int) / 65536 % 65521 = (Ad.hi c : Int) := by unfold Ad.hi; omega
  have hl := Ad.lo_lt c
  have hh := Ad.hi_lt c
  obtain ⟨p, hp⟩ : ∃ p, p = Ad.lo c := ⟨_, rfl⟩
  obtain ⟨q, hq⟩ : ∃ q, q = Ad.hi c := ⟨_, rfl⟩
  obtain ⟨t, ht⟩ : ∃ t, t = q + x.length % 65521 * p := ⟨_, rfl⟩
  have HM := Lib.hid (show Ad.more c x = (Ad.rrun (p, t) x).2 % 65521 * 65536 + (Ad.rrun (p, t) x).1 % 65521 by rw [← HM0.out, ht, hp, hq]; rfl)
  rw [← hp] at hlo hl
  rw [← hq] at hhi hh
  clear HM0 hp hq
  obtain ⟨R, hR⟩ : ∃ R, R = Ad.rrun (p, t) x := ⟨_, rfl⟩
  rw [← hR] at HM
  have HR0 := Lib.hid (show Ad.rrun (p, t) (x.drop 0) = R by rw [hR]; rfl)
  clear hR
  have HSTEP := Lib.hid (fun k u v (h : k < x.length) => show Ad.rrun (u, v) (x.drop k) = Ad.rrun (u + x[k].toNat, (v + (x.length - k) % 65521 * x[k].toNat) % 65521) (x.drop (k + 1)) by
    rw [List.drop_eq_getElem_cons h]
    show Ad.rrun (u + x[k].toNat, (v + ((x.drop (k + 1)).length + 1) % 65521 * x[k].toNat) % 65521) (x.drop (k + 1)) = _
    rw [List.length_drop, show x.length - (k + 1) + 1 = x.length - k by omega])
  have HLAST := Lib.hid (fun u v => show Ad.rrun (u, v) (x.drop x.length) = (u, v) by rw [List.drop_length]; rfl)
  obtain ⟨m, hm⟩ : ∃ m, m = x.length % 65521 := ⟨_, rfl⟩
  rw [← hm] at ht
  have hmp : m * p ≤ 65521 * 65521 := Nat.mul_le_mul (by omega) (by omega)
  have emp : (m : Int) * (p : Int) = ((m * p : Nat) : Int) := by simp
  have et : (q : Int) + (m : Int) * (p : Int) = (t : Int) := by rw [emp]; omega
  have hw1 : IntKind.u64.wrap ((X.size : Nat) : Int) = ((X.size : Nat) : Int) := by rw [IntKind.wrap_u64]; omega
  have em : (X.size : Int) % 65521 = (m : Int) := by omega
  have hmp2 : (m : Int) * (p : Int) < 18446744073709551616 := by rw [emp]; omega
  have hmp3 : (0 : Int) ≤ (m : Int) * (p : Int) := by rw [emp]; omega
  have ht2 : t ≤ 4293066962 := by omega
  have HSX := Lib.hid hsx
  have hX : X.size ≤ 140737488351232 := by omega
  have hm65 : m < 65521 := by omega
  clear hsx hx hm ht emp
  go_enter Try.func14, Try.ntmps14
  go_wp2_with fail
  go_loopw [5, 6, 8] (fun u v i wr => ∃ k a b : Nat, k ≤ X.size ∧ i = .int .i64 k ∧ u = .int .u64 a ∧ v = .int .u64 b ∧ wr = w ∧ a ≤ 65521 + 256 * k ∧ b ≤ 4293066962 ∧ Hid (Ad.rrun (a, b) (x.drop k) = R)) (fun _ _ i _ => X.size - (intOf i).toNat)
  case atStart => exact ⟨0, p, t, by omega, rfl, by rw [hlo], by first | rfl | (rw [hhi, em, hlo, et]), by first | rfl | trivial, by omega, by omega, HR0⟩
  case round =>
    obtain ⟨k, a, b, hk, rfl, rfl, rfl, rfl, ha, hb, HJ⟩ := hrel
    by_cases hlt : k < X.size
    · have h1 : k < x.length := by have := HSX.out; omega
      have ex := HXA.out k hlt h1
      have HS := Lib.hid (HSTEP.out k a b h1)
      have hxk := UInt8.toNat_lt x[k]
      have hkI : (k : Int) < (X.size : Int) := by omega
      generalize x[k] = y at *
      obtain ⟨r, hr⟩ : ∃ r, r = (X.size - k) % 65521 := ⟨_, rfl⟩
      have er : ((X.size : Int) - (k : Int)) % 65521 = (r : Int) := by omega
      have hr65 : r < 65521 := by omega
      have hry : r * y.toNat ≤ 65521 * 256 := Nat.mul_le_mul (by omega) (by omega)
      have ery : (r : Int) * (y.toNat : Int) = ((r * y.toNat : Nat) : Int) := by simp
      have hw2 : IntKind.u64.wrap (k : Int) = (k : Int) := by rw [IntKind.wrap_u64]; omega
      obtain ⟨b', hb'⟩ : ∃ b', b' = (b + r * y.toNat) % 65521 := ⟨_, rfl⟩
      have eb : ((b : Int) + (r : Int) * (y.toNat : Int)) % 65521 = (b' : Int) := by rw [ery]; omega
      have hs1 : (b : Int) + (r : Int) * (y.toNat : Int) < 18446744073709551616 := by rw [ery]; omega
      have hs2 : (0 : Int) ≤ (r : Int) * (y.toNat : Int) := by rw [ery]; omega
      have hs3 : (r : Int) * (y.toNat : Int) < 18446744073709551616 := by rw [ery]; omega
      have HN1 := Lib.hid (show Ad.rrun (a + y.toNat, b') (x.drop (k + 1)) = R by rw [← HJ.out, HS.out, hb', hr, HSX.out])
      have hb65 : b' < 65521 := by omega
      clear hr hb' ery
      go_wp2_with fail
      exact ⟨⟨k + 1, a + y.toNat, b', by omega, by go_num, by simp, by rw [eb], by first | rfl | trivial, by omega, by omega, HN1⟩, by simp [intOf]; omega⟩
    · obtain rfl : k = X.size := by omega
      have HE := Lib.hid (show Ad.more c x = b % 65521 * 65536 + a % 65521 by
        have h := HLAST.out a b
        rw [← HSX.out] at h
        rw [HM.out, ← HJ.out, h])
      go_wp2_with fail
      go_ret
      exact ⟨by rw [HE.out]; simp [go_sem], rfl⟩

theorem adlerOf_any (c : Nat) (x : List UInt8) (w : World) (hc : c < 4294967296) (hx : x.length ≤ 140737488351232) :
    Calls Try.prog 14 #[.int .u32 c, .string (str x)] w fun e w' => e = .returned (.int .u32 (Ad.more c x : Nat)) ∧ w = w' :=
  adlerOf_core c x (str x) w hc hx (str_size x) (fun i h h2 => str_at' x i h h2)

set_option maxHeartbeats 1000000 in
theorem rjoined_bad (a b : Nat) (n : Int) (w : World) (hn : -9223372036854775808 ≤ n ∧ n ≤ 9223372036854775807) (h : n < 0 ∨ 2147483647 < n) :
    Calls Try.prog 10 #[.int .u32 a, .int .u32 b, .int .i64 n] w (JPost 0 3 w) := by
  by_cases h1 : n < 0
  · go_enter Try.func10, Try.ntmps10
    go_wp2_with fail
    go_ret2
    exact ⟨rfl, Below.refl _ _⟩
  · have h2 : 2147483647 < n := by omega
    go_enter Try.func10, Try.ntmps10
    go_wp2_with fail
    go_ret2
    exact ⟨rfl, Below.refl _ _⟩

set_option maxHeartbeats 2000000 in
set_option maxRecDepth 100000 in
theorem rjoined_ok (a b n : Nat) (w : World) (ha : a < 4294967296) (hb : b < 4294967296) (h : n ≤ 2147483647) :
    Calls Try.prog 10 #[.int .u32 a, .int .u32 b, .int .i64 n] w (JPost (Ad.joined a b n) 0 w) := by
  have HJ0 := Lib.hid (Ad.rjoined_is a b n)
  have HJ := Lib.hid (show Ad.joined a b n = (Ad.hi a + Ad.hi b + n % 65521 * ((Ad.lo a + 65520) % 65521)) % 65521 * 65536 + (Ad.lo a + Ad.lo b + 65520) % 65521 by rw [← HJ0.out]; rfl)
  clear HJ0
  have e1 : (a : Int) % 65536 % 65521 = (Ad.lo a : Int) := by unfold Ad.lo; omega
  have e2 : (a : Int) / 65536 % 65521 = (Ad.hi a : Int) := by unfold Ad.hi; omega
  have e3 : (b : Int) % 65536 % 65521 = (Ad.lo b : Int) := by unfold Ad.lo; omega
  have e4 : (b : Int) / 65536 % 65521 = (Ad.hi b : Int) := by unfold Ad.hi; omega
  have l1 := Ad.lo_lt a
  have l2 := Ad.hi_lt a
  have l3 := Ad.lo_lt b
  have l4 := Ad.hi_lt b
  generalize Ad.lo a = p at *
  generalize Ad.hi a = q at *
  generalize Ad.lo b = r at *
  generalize Ad.hi b = s at *
  obtain ⟨m, hm⟩ : ∃ m, m = n % 65521 := ⟨_, rfl⟩
  obtain ⟨z, hz⟩ : ∃ z, z = (p + 65520) % 65521 := ⟨_, rfl⟩
  have em : (n : Int) % 65521 = (m : Int) := by omega
  have ez : ((p : Int) + 65520) % 65521 = (z : Int) := by omega
  rw [← hz, ← hm] at HJ
  have hmz : m * z ≤ 65521 * 65521 := Nat.mul_le_mul (by omega) (by omega)
  obtain ⟨y, hy⟩ : ∃ y, y = m * z := ⟨_, rfl⟩
  have ey : ((m : Int) * (z : Int)) = (y : Int) := by rw [hy]; simp
  rw [← hy] at HJ hmz
  have hw : IntKind.u64.wrap (n : Int) = n := by rw [IntKind.wrap_u64]; omega
  have h3 : ¬ 2147483647 < (n : Int) := by omega
  have hm65 : m < 65521 := by omega
  have hz65 : z < 65521 := by omega
  have hy2 : y ≤ 4293001441 := hmz
  clear hm hz hy hmz
  go_enter Try.func10, Try.ntmps10
  go_wp2_with fail
  go_ret2
  refine ⟨?_, Below.refl _ _⟩
  rw [HJ.out]
  show Ending.returned (.tuple #[.int .u32 (((q : Int) + (s : Int) + (y : Int)) % 65521 * 65536 + ((p : Int) + (r : Int) + 65520) % 65521), .int .i64 0]) = _
  rw [show ((q : Int) + (s : Int) + (y : Int)) % 65521 * 65536 + ((p : Int) + (r : Int) + 65520) % 65521 = (((q + s + y) % 65521 * 65536 + (p + r + 65520) % 65521 : Nat) : Int) by omega]

set_option maxHeartbeats 1000000 in
theorem rrolled_bad (c : Nat) (n : Int) (o i : Nat) (w : World) (hn : -9223372036854775808 ≤ n ∧ n ≤ 9223372036854775807) (h : n < 1 ∨ 2147483647 < n) :
    Calls Try.prog 11 #[.int .u32 c, .int .i64 n, .int .u8 o, .int .u8 i] w (JPost 0 3 w) := by
  by_cases h1 : n < 1
  · go_enter Try.func11, Try.ntmps11
    go_wp2_with fail
    go_ret2
    exact ⟨rfl, Below.refl _ _⟩
  · have h2 : 2147483647 < n := by omega
    go_enter Try.func11, Try.ntmps11
    go_wp2_with fail
    go_ret2
    exact ⟨rfl, Below.refl _ _⟩

set_option maxHeartbeats 2000000 in
set_option maxRecDepth 100000 in
theorem rrolled_ok (c n o i : Nat) (w : World) (hc : c < 4294967296) (h1 : 1 ≤ n) (h : n ≤ 2147483647) (ho : o < 256) (hi : i < 256) :
    Calls Try.prog 11 #[.int .u32 c, .int .i64 n, .int .u8 o, .int .u8 i] w (JPost (Ad.rolled c n o i) 0 w) := by
  have HJ0 := Lib.hid (Ad.rrolled_is c n o i)
  have HJ := Lib.hid (show Ad.rolled c n o i = (Ad.hi c + 65521 * 256 - n % 65521 * o % 65521 + (Ad.lo c + 65521 - o + i) % 65521 + 65520) % 65521 * 65536 + (Ad.lo c + 65521 - o + i) % 65521 by rw [← HJ0.out]; rfl)
  clear HJ0
  have e1 : (c : Int) % 65536 % 65521 = (Ad.lo c : Int) := by unfold Ad.lo; omega
  have e2 : (c : Int) / 65536 % 65521 = (Ad.hi c : Int) := by unfold Ad.hi; omega
  have l1 := Ad.lo_lt c
  have l2 := Ad.hi_lt c
  generalize Ad.lo c = p at *
  generalize Ad.hi c = q at *
  obtain ⟨m, hm⟩ : ∃ m, m = n % 65521 := ⟨_, rfl⟩
  have em : (n : Int) % 65521 = (m : Int) := by omega
  rw [← hm] at HJ
  have hmz : m * o ≤ 65521 * 256 := Nat.mul_le_mul (by omega) (by omega)
  obtain ⟨y, hy⟩ : ∃ y, y = m * o := ⟨_, rfl⟩
  have ey : ((m : Int) * (o : Int)) = (y : Int) := by rw [hy]; simp
  rw [← hy] at HJ hmz
  obtain ⟨z, hz⟩ : ∃ z, z = (p + 65521 - o + i) % 65521 := ⟨_, rfl⟩
  rw [← hz] at HJ
  have ez : ((p : Int) + 65521 - (o : Int) + (i : Int)) % 65521 = (z : Int) := by omega
  obtain ⟨t, ht⟩ : ∃ t, t = y % 65521 := ⟨_, rfl⟩
  have et : (y : Int) % 65521 = (t : Int) := by omega
  rw [← ht] at HJ
  have hw : IntKind.u64.wrap (n : Int) = n := by rw [IntKind.wrap_u64]; omega
  have h3 : ¬ 2147483647 < (n : Int) := by omega
  have hm65 : m < 65521 := by omega
  have hz65 : z < 65521 := by omega
  have ht65 : t < 65521 := by omega
  have hy2 : y ≤ 16773376 := hmz
  obtain ⟨v, hv⟩ : ∃ v, v = (q + 65521 * 256 - t + z + 65520) % 65521 := ⟨_, rfl⟩
  rw [← hv] at HJ
  have ev : ((q : Int) + 16773376 - (t : Int) + (z : Int) + 65520) % 65521 = (v : Int) := by omega
  have hv65 : v < 65521 := by omega
  have h1n : ¬ (n : Int) < 1 := by omega
  clear hm hz hy hmz ht hv
  go_enter Try.func11, Try.ntmps11
  go_wp2_with fail
  go_ret2
  refine ⟨?_, Below.refl _ _⟩
  rw [HJ.out]
  show Ending.returned (.tuple #[.int .u32 ((v : Int) * 65536 + (z : Int)), .int .i64 0]) = _
  rw [show (v : Int) * 65536 + (z : Int) = ((v * 65536 + z : Nat) : Int) by omega]
end Go.Proofs.Ytnkhfnomhkimiaa
