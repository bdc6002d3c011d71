/- The law MarksTell. -/
import Derived.Test.YthmlafoceacliaaMW8
import Derived.Test.YthmlafoceacliaaML1
import Derived.Test.YthmlafoceacliaaBitsU
import Derived.Test.YthmlafoceacliaaSame
namespace Go.Proofs.Ythmlafoceacliaa
open Go.RowKit
set_option linter.unusedVariables false

theorem pair_len (f : Bool → Bool → Bool) (l m : List Bool) : (M.pairR f l m).1.length ≤ 64 := by
  unfold M.pairR
  by_cases h2 : 64 < l.length ∨ 64 < m.length
  · rw [if_pos h2]; simp
  rw [if_neg h2]
  by_cases h3 : l.length = m.length
  · rw [if_neg (by omega), zipB_length]; omega
  · rw [if_pos h3]; simp
theorem not_len (l : List Bool) : (M.notR l).1.length ≤ 64 := by
  unfold M.notR
  by_cases h2 : 64 < l.length
  · rw [if_pos h2]; simp
  · rw [if_neg h2, notL_length]; omega
theorem unp_two (s : List UInt8) (many : Int) : ∀ x ∈ (unpR s many 1).1, x < 2 := by
  unfold unpR
  by_cases hc : chkR s many 1 = 0
  · rw [if_pos hc]; exact B.dg_lt (1 : Int).toNat many.toNat (B.leN s)
  · rw [if_neg hc]; simp

set_option maxHeartbeats 4000000 in
set_option maxRecDepth 100000 in
theorem marksTell_walk (w : World) (a : Option Addr) (c : Nat) (l : List Bool) (hm : l.length ≤ maxLen) (hcap : l.length ≤ c ∧ c ≤ maxLen ∧ (a = none → c = 0)) (hu : Bools w w.heap.size a l)
    (b : Option Addr) (d : Nat) (m : List Bool) (hm2 : m.length ≤ maxLen) (hcap2 : m.length ≤ d ∧ d ≤ maxLen ∧ (b = none → d = 0)) (hv : Bools w w.heap.size b m)
    (s : ByteArray) (hs : s.size ≤ maxLen) (many : Int) (hp : -9223372036854775808 ≤ many ∧ many ≤ 9223372036854775807) (hbd : l.length + m.length + s.size ≤ 1048576) :
    Calls Try.prog 4 #[.slice a l.length c, .slice b m.length d, .string s, .int .i64 many] w (BoolPost true w) := by
  have HX := Lib.hid (and_any a b c d l m w hu hv)
  have HY := Lib.hid (fun w hu hv => or_any a b c d l m w hu hv)
  have HZ := Lib.hid (fun w hu => not_any a c l w hu)
  have HT := Lib.hid (fun w hu => bytes_any a c l w hu)
  have hof := fun w => of_any s many w hs
  have HP := Lib.hid (fun w hu hv => marksOf_anyfalse a b c d l m w hu hv)
  have HQ := Lib.hid (fun w hu hv => marksOf_anytrue a b c d l m w hu hv)
  have HR := Lib.hid (fun w hu => notOf_any a c l w hu)
  have HO := Lib.hid (fun w hu => onesOf_any a c l w (by omega) hu)
  have hpk := fun a c w hu => packOf_any a c (ones l) 1 w (fun x hx => by have := ones_lt l x hx; omega) hu
  have HPK := Lib.hid (show ∀ a c w, Nums w w.heap.size a (ones l) → Calls Try.prog 23 #[.slice a (ones l).length c, .int .i64 1] w (PackPost (bytesR l) w) from hpk)
  have HU := Lib.hid (fun w => unpackOf_any s many 1 w hs)
  have hl1 := pair_len and l m
  have hl2 := pair_len or l m
  have hl3 := not_len l
  have hl4 := unp_len s.data.toList many 1
  have hu2 := unp_two s.data.toList many
  unfold ofR at hof
  clear hpk hm hm2 hcap hcap2
  generalize M.pairR and l m = r1 at *
  generalize M.pairR or l m = r2 at *
  generalize M.notR l = r3 at *
  generalize bytesR l = r4 at *
  generalize unpR s.data.toList many 1 = r5 at *
  obtain ⟨x1, e1⟩ := r1
  obtain ⟨x2, e2⟩ := r2
  obtain ⟨x3, e3⟩ := r3
  obtain ⟨x4, e4⟩ := r4
  obtain ⟨x5, e5⟩ := r5
  simp only at hl1 hl2 hl3 hl4 hu2 hof
  have HON := Lib.hid (ones_ofOnes x5 hu2)
  have hol : (ofOnes x5).length ≤ 64 := by simpa [ofOnes] using hl4
  have HO5 := Lib.hid (show ∀ a c w, Bools w w.heap.size a (ofOnes x5) → Calls Try.prog 24 #[.slice a (ofOnes x5).length c] w (NumsPost x5 w) from
    fun a c w h => by have := onesOf_any a c (ofOnes x5) w (by omega) h; rw [HON.out] at this; exact this)
  have HOF := Lib.hid hof
  have s1 := fun a b c d w B' h1 h2 => msame_any a b c d x1 x1 w B' h1 h2 (by omega)
  have s2 := fun a b c d w B' h1 h2 => msame_any a b c d x2 x2 w B' h1 h2 (by omega)
  have s3 := fun a b c d w B' h1 h2 => msame_any a b c d x3 x3 w B' h1 h2 (by omega)
  have s5 := fun a b c d w B' h1 h2 => same_any a b c d x5 x5 w B' h1 h2 (by omega)
  simp only [decide_true] at s1 s2 s3 s5
  have S1 := Lib.hid s1
  have S2 := Lib.hid s2
  have S3 := Lib.hid s3
  have S5 := Lib.hid s5
  have heq : ((str x4).toList == (str x4).toList) = true := by simp
  clear hof hu2 s1 s2 s3 s5 hbd
  generalize ofOnes x5 = y5 at *
  generalize ones l = ol at *
  go_enter Try.func4, Try.ntmps4
  go_wp2_with fail
  refine (HX.out).mono ?_
  rintro e w1 ⟨ax, cx, rfl, hn1, hb1⟩
  go_wp2_with fail
  refine (HY.out w1 (hu.next hb1) (hv.next hb1)).mono ?_
  rintro e w2 ⟨ay, cy, rfl, hn2, hb2⟩
  have h02 := below_then hb1 hb2
  go_wp2_with fail
  refine (HZ.out w2 (hu.next h02)).mono ?_
  rintro e w3 ⟨az, cz, rfl, hn3, hb3⟩
  have h03 := below_then h02 hb3
  go_wp2_with fail
  refine (HT.out w3 (hu.next h03)).mono ?_
  rintro e w4 ⟨rfl, hb4⟩
  have h04 := below_then h03 hb4
  go_wp2_with fail
  refine (HOF.out w4).mono ?_
  rintro e w5 ⟨am, cm, rfl, hn5, hb5⟩
  have h05 := below_then h04 hb5
  go_wp2_with fail
  refine (HP.out w5 (hu.next h05) (hv.next h05)).mono ?_
  rintro e w6 ⟨ap, cp, rfl, hn6, hb6⟩
  have h06 := below_then h05 hb6
  go_wp2_with fail
  refine (HQ.out w6 (hu.next h06) (hv.next h06)).mono ?_
  rintro e w7 ⟨aq, cq, rfl, hn7, hb7⟩
  have h07 := below_then h06 hb7
  go_wp2_with fail
  refine (HR.out w7 (hu.next h07)).mono ?_
  rintro e w8 ⟨ar, cr, rfl, hn8, hb8⟩
  have h08 := below_then h07 hb8
  go_wp2_with fail
  refine (HO.out w8 (hu.next h08)).mono ?_
  rintro e w9 ⟨ao, co, rfl, hn9, hb9⟩
  have h89 := hb9
  go_wp2_with fail
  refine (HPK.out ao co w9 hn9).mono ?_
  rintro e w10 ⟨rfl, hb10⟩
  go_wp2_with fail
  refine (HU.out w10).mono ?_
  rintro e w11 ⟨aw, cw, rfl, hn11, hb11⟩
  go_wp2_with fail
  refine (rbegun_any _).mono ?_
  rintro e w12 ⟨rfl, hb12⟩
  have k11 := hb12
  have k8 := below_then h89 (below_then hb10 (below_then hb11 hb12))
  have k7 := below_then hb8 k8
  have k6 := below_then hb7 k7
  have k5 := below_then hb6 k6
  have k3 := below_then hb4 (below_then hb5 k5)
  have k2 := below_then hb3 k3
  have k1 := below_then hb2 k2
  have k0 := below_then hb1 k1
  clear h02 h03 h04 h05 h06 h07 h08 h89
  go_wp2_with fail
  refine (S1.out ax ap cx cp w12 _ (hn1.next k1) (hn6.next k6)).mono ?_
  rintro e w13 ⟨rfl, hb13⟩
  go_wp2_with fail
  refine (S2.out ay aq cy cq w13 _ (hn2.next (below_then k2 hb13)) (hn7.next (below_then k7 hb13))).mono ?_
  rintro e w14 ⟨rfl, hb14⟩
  have j14 := below_then hb13 hb14
  go_wp2_with fail
  refine (S3.out az ar cz cr w14 _ (hn3.next (below_then k3 j14)) (hn8.next (below_then k8 j14))).mono ?_
  rintro e w15 ⟨rfl, hb15⟩
  have j15 := below_then j14 hb15
  go_wp2_with fail
  refine (HO5.out am cm w15 (hn5.next (below_then k5 j15))).mono ?_
  rintro e w16 ⟨a16, c16, rfl, hn16, hb16⟩
  go_wp2_with fail
  refine (S5.out a16 aw c16 cw w16 _ hn16 (hn11.next (below_then k11 (below_then j15 hb16)))).mono ?_
  rintro e w17 ⟨rfl, hb17⟩
  go_wp2_with fail
  go_ret
  exact ⟨rfl, below_then k0 (below_then j15 (below_then hb16 hb17))⟩
end Go.Proofs.Ythmlafoceacliaa
