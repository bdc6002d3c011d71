/- The walks of adler.More, Of, Joined, Roll. -/
import Derived.Test.YtnkhfnomhkimiaaAdW1
namespace Go.Proofs.Ytnkhfnomhkimiaa
open Go.RowKit
set_option linter.unusedVariables false

set_option maxHeartbeats 4000000 in
set_option maxRecDepth 100000 in
theorem more_core (c : Nat) (x : List UInt8) (X : ByteArray) (w : World) (hc : c < 4294967296) (hx : x.length ≤ 9223372036854775807) (hsx : X.size = x.length)
    (hxa : ∀ i (h : i < X.size) (h2 : i < x.length), X[i] = x[i]) :
    Calls Try.prog 15 #[.int .u32 c, .string X] w (U32Post (Ad.more c x) w) := by
  have HXA := Lib.hid hxa
  clear hxa
  have HSTEP0 := Lib.hid (fun k (h : k < x.length) => show Ad.run (Ad.lo c, Ad.hi c) (x.take (k + 1)) = Ad.stp (Ad.run (Ad.lo c, Ad.hi c) (x.take k)) x[k] by
    rw [List.take_succ_eq_append_getElem h, Ad.run_snoc])
  have HOK0 := Lib.hid (fun k => Ad.run_ok (x.take k) _ (Ad.ok_c c))
  have HEND0 := Lib.hid (show Ad.more c x = Ad.sum (Ad.run (Ad.lo c, Ad.hi c) (x.take x.length)) by rw [List.take_length]; rfl)
  have HSP := Lib.hid (fun W => split_any c W hc)
  obtain ⟨P, hP⟩ : ∃ P : Nat → Nat × Nat, P = fun k => Ad.run (Ad.lo c, Ad.hi c) (x.take k) := ⟨_, rfl⟩
  have hp0 : P 0 = (Ad.lo c, Ad.hi c) := by rw [hP]; rfl
  have HSTEP := Lib.hid (fun k (h : k < x.length) => show P (k + 1) = Ad.stp (P k) x[k] by rw [hP]; exact HSTEP0.out k h)
  have HOK := Lib.hid (fun k => show Ad.Ok (P k) by rw [hP]; exact HOK0.out k)
  have HEND := Lib.hid (show Ad.more c x = Ad.sum (P x.length) by rw [hP]; exact HEND0.out)
  clear hP HSTEP0 HOK0 HEND0
  have HP0 := Lib.hid hp0
  clear hp0
  generalize Ad.lo c = p0 at *
  generalize Ad.hi c = q0 at *
  have HSX := Lib.hid hsx
  have hX : X.size ≤ 9223372036854775807 := by omega
  clear hsx hx
  go_enter Try.func15, Try.ntmps15
  go_wp2_with fail
  refine (HSP.out _).mono ?_
  rintro e w1 ⟨rfl, hb1⟩
  have hn := duo_new w1 p0 q0
  have hbn : Below w.heap.size w (w1.alloc (.cells (hd p0 q0) 40)) := hb1.alloc hb1.size _
  have hs1 := hb1.size
  unfold hd at hn hbn
  go_wp2_with fail
  have HN := Lib.hid (show ∃ k : Nat, k ≤ X.size ∧ (0 : Nat) = k ∧ True from ⟨0, by omega, rfl, trivial⟩)
  clear HN
  go_loopw [6, 11] (fun _ i wr => ∃ k : Nat, k ≤ X.size ∧ i = .int .i64 k ∧ Duo wr w1.heap.size (P k).1 (P k).2 ∧ Below w.heap.size w wr) (fun _ i _ => X.size - (intOf i).toNat)
  case atStart => exact ⟨0, by omega, rfl, by rw [HP0.out]; exact hn, hbn⟩
  case round =>
    obtain ⟨k, hk, rfl, hD, hB⟩ := hrel
    by_cases hlt : k < X.size
    · have h1 : k < x.length := by have := HSX.out; omega
      have ex := HXA.out k hlt h1
      have HS := Lib.hid (HSTEP.out k h1)
      have hok := HOK.out k
      unfold Ad.Ok at hok
      have hxk := UInt8.toNat_lt x[k]
      have hkI : (k : Int) < (X.size : Int) := by omega
      generalize x[k] = b at *
      obtain ⟨q, hq⟩ : ∃ q, q = P k := ⟨_, rfl⟩
      rw [← hq] at hD hok HS
      obtain ⟨u, v⟩ := q
      simp only at hD hok
      obtain ⟨u', hu'⟩ : ∃ u', u' = (u + b.toNat) % 65521 := ⟨_, rfl⟩
      obtain ⟨v', hv'⟩ : ∃ v', v' = (v + u') % 65521 := ⟨_, rfl⟩
      have HN1 := Lib.hid (show P (k + 1) = (u', v') by rw [HS.out, hv', hu']; rfl)
      have eu : ((u : Int) + (b.toNat : Int)) % 65521 = (u' : Int) := by omega
      have ev : ((v : Int) + (u' : Int)) % 65521 = (v' : Int) := by omega
      have c0 := hD.c0
      have c1 := hD.c1
      have f0 := hD.free 0
      have hD1 := hD.put0 u'
      have d0 := hD1.c0
      have d1 := hD1.c1
      have f1 := hD1.free 1
      have hD2 := hD1.put1 v'
      have hu : u' < 65521 := by omega
      have hB2 := (hB.setCell (p := ⟨w1.heap.size, 0, none⟩) hs1 (.int .u64 (u' : Int))).setCell (p := ⟨w1.heap.size, 1, none⟩) hs1 (.int .u64 (v' : Int))
      have HD2 := Lib.hid hD2
      have HB2 := Lib.hid hB2
      have hbt : b.toNat < 256 := hxk
      clear hD2 hB2 hq hu' hv'
      go_wp2_with fail
      go_region
      all_goals
        go_wp2_with fail
        exact ⟨⟨k + 1, by omega, by go_num, by rw [HN1.out]; exact HD2.out, HB2.out.drew⟩, by simp [intOf]; omega⟩
    · obtain rfl : k = X.size := by omega
      have c0 := hD.c0
      have c1 := hD.c1
      have hok := HOK.out X.size
      have HE := Lib.hid (show Ad.more c x = Ad.sum (P X.size) by rw [HEND.out, HSX.out])
      obtain ⟨q, hq⟩ : ∃ q, q = P X.size := ⟨_, rfl⟩
      rw [← hq] at hD hok HE c0 c1
      unfold Ad.Ok at hok
      obtain ⟨u, v⟩ := q
      simp only at c0 c1 hok
      clear hq hD
      have HE := Lib.hid (show Ad.more c x = Ad.sum (u % 65521, v % 65521) by rw [HE.out, Nat.mod_eq_of_lt hok.1, Nat.mod_eq_of_lt hok.2])
      go_wp2_with fail
      refine (sum_any u v _ (by omega) (by omega)).mono ?_
      rintro e w3 ⟨rfl, hb3⟩
      go_wp2_with fail
      go_ret
      exact ⟨by rw [HE.out]; rfl, below_then hB hb3⟩

theorem str_at' (l : List UInt8) (i : Nat) (h : i < (str l).size) (h2 : i < l.length) : (str l)[i] = l[i] := rfl
theorem more_any (c : Nat) (x : List UInt8) (w : World) (hc : c < 4294967296) (hx : x.length ≤ maxLen) :
    Calls Try.prog 15 #[.int .u32 c, .string (str x)] w (U32Post (Ad.more c x) w) :=
  more_core c x (str x) w hc (by unfold maxLen at hx; omega) (str_size x) (fun i h h2 => str_at' x i h h2)

set_option maxHeartbeats 1000000 in
theorem of_any (x : List UInt8) (w : World) (hx : x.length ≤ maxLen) :
    Calls Try.prog 13 #[.string (str x)] w (U32Post (Ad.of x) w) := by
  have HM := Lib.hid (fun W => more_any 1 x W (by omega) hx)
  generalize str x = X at *
  go_enter Try.func13, Try.ntmps13
  go_wp2_with fail
  refine (HM.out _).mono ?_
  rintro e w1 ⟨rfl, hb1⟩
  go_wp2_with fail
  go_ret
  exact ⟨rfl, hb1⟩

def JPost (n : Nat) (er : Int) (w : World) (e : Ending) (w' : World) : Prop := e = .returned (.tuple #[.int .u32 (n : Int), .int .i64 er]) ∧ Below w.heap.size w w'

set_option maxHeartbeats 1000000 in
theorem joined_bad (a b : Nat) (n : Int) (w : World) (hn : -9223372036854775808 ≤ n ∧ n ≤ 9223372036854775807) (h : n < 0 ∨ 2147483647 < n) :
    Calls Try.prog 8 #[.int .u32 a, .int .u32 b, .int .i64 n] w (JPost 0 3 w) := by
  have HT := Lib.hid (fun W => times_bad n 0 W hn h)
  go_enter Try.func8, Try.ntmps8
  go_wp2_with fail
  refine (HT.out _).mono ?_
  rintro e w1 ⟨rfl, hb1⟩
  go_wp2_with fail
  go_ret2
  exact ⟨rfl, hb1⟩

set_option maxHeartbeats 2000000 in
theorem joined_ok (a b n : Nat) (w : World) (ha : a < 4294967296) (hb : b < 4294967296) (h : n ≤ 2147483647) :
    Calls Try.prog 8 #[.int .u32 a, .int .u32 b, .int .i64 n] w (JPost (Ad.joined a b n) 0 w) := by
  have HT := Lib.hid (fun W => times_ok n 0 W (by omega) h)
  have HA := Lib.hid (fun W => split_any a W ha)
  have HB := Lib.hid (fun W => split_any b W hb)
  have HJ := Lib.hid (show Ad.joined a b n = Ad.sum ((Ad.lo b + (Ad.lo a + 65520)) % 65521, (Ad.hi a + Ad.hi b + n % 65521 * (Ad.lo a + 65520)) % 65521) from rfl)
  have hm : n % 65521 < 65521 := Nat.mod_lt _ (by omega)
  have l1 := Ad.lo_lt a
  have l2 := Ad.hi_lt a
  have l3 := Ad.lo_lt b
  have l4 := Ad.hi_lt b
  generalize Ad.lo a = p at *
  generalize Ad.hi a = q at *
  generalize Ad.lo b = r at *
  generalize Ad.hi b = s at *
  generalize n % 65521 = m at *
  obtain ⟨z, hz⟩ : ∃ z, z = p + 65520 := ⟨_, rfl⟩
  have ez : ((p : Int) + 65521 - 1) = (z : Int) := by omega
  rw [← hz] at HJ
  have hmz : m * z ≤ 65521 * 131042 := Nat.mul_le_mul (by omega) (by omega)
  obtain ⟨y, hy⟩ : ∃ y, y = m * z := ⟨_, rfl⟩
  have ey : ((m : Int) * (z : Int)) = (y : Int) := by rw [hy]; simp
  rw [← hy] at HJ hmz
  have ex : (q : Int) + (s : Int) + (y : Int) = ((q + s + y : Nat) : Int) := by omega
  have er : (r : Int) + (z : Int) = ((r + z : Nat) : Int) := by omega
  have HS := Lib.hid (fun W => sum_any (r + z) (q + s + y) W (by omega) (by omega))
  generalize hX : q + s + y = X at *
  generalize hR : r + z = R at *
  have hX2 : X < 18446744073709551616 := by omega
  have hR2 : R < 18446744073709551616 := by omega
  have hy2 : y < 18446744073709551616 := by omega
  have hz2 : z < 18446744073709551616 := by omega
  have hqs : (q : Int) + (s : Int) < 18446744073709551616 := by omega
  clear hX hR hy hz
  go_enter Try.func8, Try.ntmps8
  go_wp2_with fail
  refine (HT.out _).mono ?_
  rintro e w1 ⟨rfl, hb1⟩
  go_wp2_with fail
  refine (HA.out _).mono ?_
  rintro e w2 ⟨rfl, hb2⟩
  go_wp2_with fail
  refine (HB.out _).mono ?_
  rintro e w3 ⟨rfl, hb3⟩
  have hb := below_then (below_then hb1 hb2) hb3
  clear hb1 hb2 hb3
  go_wp2_with fail
  refine (HS.out _).mono ?_
  rintro e w4 ⟨rfl, hb4⟩
  go_wp2_with fail
  go_ret2
  exact ⟨by rw [HJ.out]; rfl, below_then ((hb.alloc hb.size _).alloc (by simp; have := hb.size; omega) _) hb4⟩

set_option maxHeartbeats 1000000 in
theorem roll_bad (c : Nat) (n : Int) (o i : Nat) (w : World) (hn : -9223372036854775808 ≤ n ∧ n ≤ 9223372036854775807) (h : n < 1 ∨ 2147483647 < n) :
    Calls Try.prog 9 #[.int .u32 c, .int .i64 n, .int .u8 o, .int .u8 i] w (JPost 0 3 w) := by
  have HT := Lib.hid (fun W => times_bad n 1 W hn h)
  go_enter Try.func9, Try.ntmps9
  go_wp2_with fail
  refine (HT.out _).mono ?_
  rintro e w1 ⟨rfl, hb1⟩
  go_wp2_with fail
  go_ret2
  exact ⟨rfl, hb1⟩

set_option maxHeartbeats 2000000 in
theorem roll_ok (c n o i : Nat) (w : World) (hc : c < 4294967296) (h1 : 1 ≤ n) (h : n ≤ 2147483647) (ho : o < 256) (hi : i < 256) :
    Calls Try.prog 9 #[.int .u32 c, .int .i64 n, .int .u8 o, .int .u8 i] w (JPost (Ad.rolled c n o i) 0 w) := by
  have HT := Lib.hid (fun W => times_ok n 1 W (by omega) h)
  have HA := Lib.hid (fun W => split_any c W hc)
  have HJ := Lib.hid (show Ad.rolled c n o i = Ad.sum ((Ad.lo c + 65521 - o + i) % 65521, (Ad.hi c + (Ad.lo c + 65521 - o + i) + 65521 - (1 + n % 65521 * o) % 65521) % 65521) from rfl)
  have hm : n % 65521 < 65521 := Nat.mod_lt _ (by omega)
  have l1 := Ad.lo_lt c
  have l2 := Ad.hi_lt c
  generalize Ad.lo c = p at *
  generalize Ad.hi c = q at *
  generalize n % 65521 = m at *
  have hmz : m * o ≤ 65521 * 256 := Nat.mul_le_mul (by omega) (by omega)
  obtain ⟨y, hy⟩ : ∃ y, y = m * o := ⟨_, rfl⟩
  have ey : ((m : Int) * (o : Int)) = (y : Int) := by rw [hy]; simp
  rw [← hy] at HJ hmz
  obtain ⟨z, hz⟩ : ∃ z, z = p + 65521 - o + i := ⟨_, rfl⟩
  rw [← hz] at HJ
  have ez : (p : Int) + 65521 - (o : Int) + (i : Int) = (z : Int) := by omega
  obtain ⟨t, ht⟩ : ∃ t, t = (1 + y) % 65521 := ⟨_, rfl⟩
  rw [← ht] at HJ
  have et : (1 + (y : Int)) % 65521 = (t : Int) := by omega
  obtain ⟨s, hs⟩ : ∃ s, s = q + z + 65521 - t := ⟨_, rfl⟩
  rw [← hs] at HJ
  have es : (q : Int) + (z : Int) + 65521 - (t : Int) = (s : Int) := by omega
  have HS := Lib.hid (fun W => sum_any z s W (by omega) (by omega))
  have ep : (p : Int) + 65521 - (o : Int) ≥ 0 := by omega
  have hz2 : z < 18446744073709551616 := by omega
  have hs2 : s < 18446744073709551616 := by omega
  have hy2 : (1 : Int) + y < 18446744073709551616 := by omega
  clear hs ht hz hy
  go_enter Try.func9, Try.ntmps9
  go_wp2_with fail
  refine (HT.out _).mono ?_
  rintro e w1 ⟨rfl, hb1⟩
  go_wp2_with fail
  refine (HA.out _).mono ?_
  rintro e w2 ⟨rfl, hb2⟩
  have hb := below_then hb1 hb2
  clear hb1 hb2
  go_wp2_with fail
  refine (HS.out _).mono ?_
  rintro e w4 ⟨rfl, hb4⟩
  go_wp2_with fail
  go_ret2
  exact ⟨by rw [HJ.out]; rfl, below_then (hb.alloc hb.size _) hb4⟩
end Go.Proofs.Ytnkhfnomhkimiaa
