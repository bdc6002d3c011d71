/- The walks of codec.sayWide, sayNumbers, Numbers, best at numbers, BestNumbers. -/
import Derived.Test.YtmiboibadccceaaGreatKW1
import Derived.Test.YtmiboibadccceaaGreatPW3
namespace Go.Proofs.YtmiboibadccceaaGreat
open Go.RowKit
set_option linter.unusedVariables false

set_option maxHeartbeats 1000000 in
set_option maxRecDepth 100000 in
theorem sayWide_pack (t : List UInt8) (a : Option Addr) (c : Nat) (l : List Nat) (w : World) (hl : l.length ≤ 64) (hx : ∀ x ∈ l, x < 18446744073709551616) (hu : Nums w w.heap.size a l) (ht : t.length ≤ 1048576)
    (HF : ∀ W, Below w.heap.size w W → Calls Tryz.prog 72 #[.slice a l.length c, .int .i64 (B.wd l)] W (PackPost (t, 0) W)) :
    Calls Tryz.prog 84 #[.slice a l.length c, .func (.func 72) #[] #[]] w (PackPost (UInt8.ofNat (B.wd l) :: t, 0) w) := by
  have hwd : B.wd l ≤ 64 := B.wd_64 l hx
  have HW := Lib.hid (width_any a c l w _ (by unfold maxLen; omega) hx hu)
  have HH := Lib.hid (fun W => headed_any (B.wd l) t 0 W (by omega) ht)
  have HP := Lib.hid (fun W (hb : Below w.heap.size w W) => HF W hb)
  have HR := Lib.hid (show headR (B.wd l) (t, 0) = (UInt8.ofNat (B.wd l) :: t, 0) from if_neg (by simp))
  clear HF hx hu hl ht
  generalize B.wd l = wd at *
  go_enter Tryz.func84, Tryz.ntmps84
  go_wp2_with fail
  refine (HW.out).mono ?_
  rintro e w1 ⟨rfl, rfl⟩
  go_wp2_with fail
  refine (HP.out _ (Below.refl _ _)).mono ?_
  rintro e w1 ⟨rfl, hb1⟩
  go_wp2_with fail
  refine (HH.out _).mono ?_
  rintro e w2 ⟨rfl, hb2⟩
  go_wp2_with fail
  go_ret2
  rw [HR.out]
  exact ⟨rfl, below_then hb1 hb2⟩

set_option maxHeartbeats 1000000 in
set_option maxRecDepth 100000 in
theorem sayWide_hy (t : List UInt8) (a : Option Addr) (c : Nat) (l : List Nat) (w : World) (hl : l.length ≤ 64) (hx : ∀ x ∈ l, x < 18446744073709551616) (hu : Nums w w.heap.size a l) (ht : t.length ≤ 1048576)
    (HF : ∀ W, Below w.heap.size w W → Calls Tryz.prog 85 #[.slice a l.length c, .int .i64 (B.wd l)] W (PackPost (t, 0) W)) :
    Calls Tryz.prog 84 #[.slice a l.length c, .func (.func 85) #[] #[]] w (PackPost (UInt8.ofNat (B.wd l) :: t, 0) w) := by
  have hwd : B.wd l ≤ 64 := B.wd_64 l hx
  have HW := Lib.hid (width_any a c l w _ (by unfold maxLen; omega) hx hu)
  have HH := Lib.hid (fun W => headed_any (B.wd l) t 0 W (by omega) ht)
  have HP := Lib.hid (fun W (hb : Below w.heap.size w W) => HF W hb)
  have HR := Lib.hid (show headR (B.wd l) (t, 0) = (UInt8.ofNat (B.wd l) :: t, 0) from if_neg (by simp))
  clear HF hx hu hl ht
  generalize B.wd l = wd at *
  go_enter Tryz.func84, Tryz.ntmps84
  go_wp2_with fail
  refine (HW.out).mono ?_
  rintro e w1 ⟨rfl, rfl⟩
  go_wp2_with fail
  refine (HP.out _ (Below.refl _ _)).mono ?_
  rintro e w1 ⟨rfl, hb1⟩
  go_wp2_with fail
  refine (HH.out _).mono ?_
  rintro e w2 ⟨rfl, hb2⟩
  go_wp2_with fail
  go_ret2
  rw [HR.out]
  exact ⟨rfl, below_then hb1 hb2⟩

/-- what a way says, behind its byte -/
def sayR (way : Nat) (l : List Nat) : List UInt8 :=
  if way = 1 then UInt8.ofNat (B.wd l) :: B.le (B.sz (l.length * B.wd l)) (B.pk (B.wd l) l)
  else if way = 2 then UInt8.ofNat (B.wd l) :: H.bytes (B.wd l) l
  else if way = 3 then dbytes l else P.bytes l
theorem nbW_say (way : Nat) (l : List Nat) (h : 1 ≤ way ∧ way ≤ 4) : nbW way l = UInt8.ofNat way :: sayR way l := by
  have h4 : way = 1 ∨ way = 2 ∨ way = 3 ∨ way = 4 := by omega
  rcases h4 with rfl | rfl | rfl | rfl <;> simp [nbW, sayR]
theorem packR_own (l : List Nat) (hl : l.length ≤ 64) (hx : ∀ x ∈ l, x < 18446744073709551616) : packR l (B.wd l : Nat) = (B.le (B.sz (l.length * B.wd l)) (B.pk (B.wd l) l), 0) := by
  have hwd : B.wd l ≤ 64 := B.wd_64 l hx
  unfold packR
  rw [if_neg (by omega), if_neg (by omega), Int.toNat_natCast, if_neg (by omega)]
theorem hwriteR_own (l : List Nat) (hl : l.length ≤ 64) (hx : ∀ x ∈ l, x < 18446744073709551616) : hwriteR l (B.wd l : Nat) = (H.bytes (B.wd l) l, 0) := by
  unfold hwriteR
  rw [packR_own l hl hx, if_neg (by simp), Int.toNat_natCast]
theorem say_len (way : Nat) (l : List Nat) (h : 1 ≤ way ∧ way ≤ 4) (hl : l.length ≤ 64) (hx : ∀ x ∈ l, x < 18446744073709551616) : (sayR way l).length ≤ 1048576 ∧ (B.le (B.sz (l.length * B.wd l)) (B.pk (B.wd l) l)).length ≤ 1048576 ∧ (H.bytes (B.wd l) l).length ≤ 1048576 := by
  have hwd : B.wd l ≤ 64 := B.wd_64 l hx
  have b1 : (B.le (B.sz (l.length * B.wd l)) (B.pk (B.wd l) l)).length ≤ 512 := by
    rw [B.le_length]; unfold B.sz
    have := Nat.mul_le_mul hl hwd
    omega
  have b2 : (H.bytes (B.wd l) l).length ≤ 100000 := by
    have := H.bytes_len (B.wd l) l
    have h5 : (18 + B.wd l) * l.length ≤ 82 * 64 := Nat.mul_le_mul (by omega) hl
    omega
  have b3 := dbytes_len l hl hx
  have b4 := pbytes_length l hl
  refine ⟨?_, by omega, by omega⟩
  have h4 : way = 1 ∨ way = 2 ∨ way = 3 ∨ way = 4 := by omega
  rcases h4 with rfl | rfl | rfl | rfl
  · show (UInt8.ofNat (B.wd l) :: _).length ≤ _; rw [List.length_cons]; omega
  · show (UInt8.ofNat (B.wd l) :: _).length ≤ _; rw [List.length_cons]; omega
  · show (dbytes l).length ≤ _; omega
  · show (P.bytes l).length ≤ _; omega

set_option maxHeartbeats 1000000 in
set_option maxRecDepth 100000 in
theorem sayNumbers_any (way : Nat) (a : Option Addr) (c : Nat) (l : List Nat) (w : World) (hway : 1 ≤ way ∧ way ≤ 4) (hl : l.length ≤ 64) (hcap : l.length ≤ c) (hcm : c ≤ maxLen) (hx : ∀ x ∈ l, x < 18446744073709551616) (hu : Nums w w.heap.size a l) :
    Calls Tryz.prog 36 #[.slice a l.length c, .int .i64 way] w (PackPost (sayR way l, 0) w) := by
  obtain ⟨_, b1, b2⟩ := say_len way l hway hl hx
  have HPK := Lib.hid (sayWide_pack _ a c l w hl hx hu b1 (fun W hb => by have h := pack_any a c l (B.wd l : Nat) W hx (hu.next hb); rw [packR_own l hl hx] at h; exact h))
  have HHY := Lib.hid (sayWide_hy _ a c l w hl hx hu b2 (fun W hb => by have h := hwrite_any a c l (B.wd l : Nat) W hcap hcm hx (hu.next hb); rw [hwriteR_own l hl hx] at h; exact h))
  have hdl := dwrite_any a c l w hx hu
  rw [show dwriteR l = (dbytes l, 0) from if_neg (by omega)] at hdl
  have HDL := Lib.hid hdl
  have HPA := Lib.hid (pwrite_ok a c l w hl hx hu)
  clear hdl hu hx b1 b2
  have h4 : way = 1 ∨ way = 2 ∨ way = 3 ∨ way = 4 := by omega
  rcases h4 with rfl | rfl | rfl | rfl
  · have HR := Lib.hid (show sayR 1 l = UInt8.ofNat (B.wd l) :: B.le (B.sz (l.length * B.wd l)) (B.pk (B.wd l) l) from rfl)
    generalize sayR 1 l = R at *
    clear HHY HDL HPA
    go_enter Tryz.func36, Tryz.ntmps36
    go_wp2_with fail
    refine (HPK.out).mono ?_
    rintro e w1 ⟨rfl, hb1⟩
    go_wp2_with fail
    go_ret2
    rw [HR.out]; exact ⟨rfl, hb1⟩
  · have HR := Lib.hid (show sayR 2 l = UInt8.ofNat (B.wd l) :: H.bytes (B.wd l) l from rfl)
    generalize sayR 2 l = R at *
    clear HPK HDL HPA
    go_enter Tryz.func36, Tryz.ntmps36
    go_wp2_with fail
    refine (HHY.out).mono ?_
    rintro e w1 ⟨rfl, hb1⟩
    go_wp2_with fail
    go_ret2
    rw [HR.out]; exact ⟨rfl, hb1⟩
  · have HR := Lib.hid (show sayR 3 l = dbytes l from rfl)
    generalize sayR 3 l = R at *
    clear HPK HHY HPA
    go_enter Tryz.func36, Tryz.ntmps36
    go_wp2_with fail
    refine (HDL.out).mono ?_
    rintro e w1 ⟨rfl, hb1⟩
    go_wp2_with fail
    go_ret2
    rw [HR.out]; exact ⟨rfl, hb1⟩
  · have HR := Lib.hid (show sayR 4 l = P.bytes l from rfl)
    generalize sayR 4 l = R at *
    clear HPK HHY HDL
    go_enter Tryz.func36, Tryz.ntmps36
    go_wp2_with fail
    refine (HPA.out).mono ?_
    rintro e w1 ⟨rfl, hb1⟩
    go_wp2_with fail
    go_ret2
    rw [HR.out]; exact ⟨rfl, hb1⟩

def numR (way : Int) (l : List Nat) : List UInt8 × Nat := if way < 1 ∨ 4 < way then ([], 7) else if 64 < l.length then ([], 2) else (nbW way.toNat l, 0)
set_option maxHeartbeats 1000000 in
set_option maxRecDepth 100000 in
theorem knumbers_any (way : Int) (a : Option Addr) (c : Nat) (l : List Nat) (w : World) (hcap : l.length ≤ c) (hcm : c ≤ maxLen) (hx : ∀ x ∈ l, x < 18446744073709551616) (hu : Nums w w.heap.size a l) :
    Calls Tryz.prog 12 #[.slice a l.length c, .int .i64 way] w (PackPost (numR way l) w) := by
  by_cases h0 : way < 1 ∨ 4 < way
  · have HR := Lib.hid (show numR way l = ([], 7) from if_pos h0)
    have hg : decide (way < 1) = true ∨ (decide (way < 1) = false ∧ decide (4 < way) = true) := by simp; omega
    clear h0
    rcases hg with g1 | ⟨g1, g2⟩
    all_goals
      go_enter Tryz.func12, Tryz.ntmps12
      go_wp2_with fail
      go_ret2
      rw [HR.out]; exact ⟨rfl, Below.refl _ _⟩
  have g1 : decide (way < 1) = false := by simp; omega
  have g2 : decide (4 < way) = false := by simp; omega
  have hfit := nfit_any w a c l _ hu
  by_cases h1 : 64 < l.length
  · have HR := Lib.hid (show numR way l = ([], 2) by unfold numR; rw [if_neg h0, if_pos h1])
    rw [show nfitR l = 2 from if_pos h1] at hfit
    have HF := Lib.hid hfit
    clear hfit h0 hu hx
    go_enter Tryz.func12, Tryz.ntmps12
    go_wp2_with fail
    refine (HF.out).mono ?_
    rintro e w1 ⟨rfl, rfl⟩
    go_wp2_with fail
    go_ret2
    rw [HR.out]; exact ⟨rfl, Below.refl _ _⟩
  obtain ⟨m, rfl⟩ : ∃ m : Nat, way = m := ⟨way.toNat, by omega⟩
  have hm : 1 ≤ m ∧ m ≤ 4 := by omega
  rw [show nfitR l = 0 from if_neg h1] at hfit
  have HF := Lib.hid hfit
  have hlen := (say_len m l hm (by omega) hx).1
  have HS := Lib.hid (sayNumbers_any m a c l w hm (by omega) hcap hcm hx hu)
  have HH := Lib.hid (fun W => headed_any m (sayR m l) 0 W (by omega) hlen)
  have HR := Lib.hid (show numR m l = (UInt8.ofNat m :: sayR m l, 0) by unfold numR; rw [if_neg h0, if_neg h1, Int.toNat_natCast, nbW_say m l hm])
  have HE := Lib.hid (show headR m (sayR m l, 0) = (UInt8.ofNat m :: sayR m l, 0) from if_neg (by simp))
  clear hfit h0 hu hx hlen
  generalize sayR m l = t at *
  go_enter Tryz.func12, Tryz.ntmps12
  go_wp2_with fail
  refine (HF.out).mono ?_
  rintro e w1 ⟨rfl, rfl⟩
  go_wp2_with fail
  refine (HS.out).mono ?_
  rintro e w1 ⟨rfl, hb1⟩
  go_wp2_with fail
  refine (HH.out _).mono ?_
  rintro e w2 ⟨rfl, hb2⟩
  go_wp2_with fail
  go_ret2
  rw [HR.out, HE.out]
  exact ⟨rfl, below_then hb1 hb2⟩

/-- the first of the shortest, one behind the other -/
def lstep (s t : List UInt8) : List UInt8 := if t.length < s.length then t else s
theorem lstep_b (s t : List UInt8) : lstep s t = bstep s t := by
  unfold lstep bstep
  by_cases h : t.length < s.length
  · rw [if_pos h, if_neg (by omega)]
  · rw [if_neg h, if_pos (by omega)]
theorem bstep_assoc (a b c : List UInt8) : bstep (bstep a b) c = bstep a (bstep b c) := by
  unfold bstep
  by_cases h1 : a.length ≤ b.length <;> by_cases h2 : b.length ≤ c.length <;> by_cases h3 : a.length ≤ c.length <;> simp [h1, h2, h3] <;> omega
def bestNR (l : List Nat) : List UInt8 × Nat := if 64 < l.length then ([], 2) else (bestNW l, 0)
theorem bestNW_left (l : List Nat) : bestNW l = lstep (lstep (lstep (nbW 1 l) (nbW 2 l)) (nbW 3 l)) (nbW 4 l) := by
  simp only [lstep_b, bstep_assoc]; rfl
theorem lstep_str (s t : List UInt8) : str (lstep s t) = if (str t).size < (str s).size then str t else str s := by
  rw [str_size, str_size]; unfold lstep; split <;> rfl
def bstN (l : List Nat) : Nat → List UInt8
  | 0 => []
  | 1 => nbW 1 l
  | m + 2 => lstep (bstN l (m + 1)) (nbW (m + 2) l)
set_option maxHeartbeats 2000000 in
set_option maxRecDepth 100000 in
theorem kbestn_any (a : Option Addr) (c : Nat) (l : List Nat) (w : World) (hcap : l.length ≤ c) (hcm : c ≤ maxLen) (hx : ∀ x ∈ l, x < 18446744073709551616) (hu : Nums w w.heap.size a l) :
    Calls Tryz.prog 38 #[.slice a l.length c, .int .i64 1, .int .i64 4, .func (.func 12) #[] #[]] w (PackPost (bestNR l) w) := by
  have HK := fun (m : Nat) W (hb : Below w.heap.size w W) => knumbers_any m a c l W hcap hcm hx (hu.next hb)
  by_cases h1 : 64 < l.length
  · have HR := Lib.hid (show bestNR l = ([], 2) from if_pos h1)
    have HN := Lib.hid (fun W (hb : Below w.heap.size w W) => by have h := HK 1 W hb; rw [show numR ((1 : Nat) : Int) l = ([], 2) by unfold numR; rw [if_neg (by omega), if_pos h1]] at h; exact h)
    clear HK hu hx
    go_enter Tryz.func38, Tryz.ntmps38
    go_wp2_with fail
    refine wp_loop_rounds 1 ?_
    rw [rounds_succ]
    go_wp2_with fail
    refine (HN.out _ (Below.refl _ _)).mono ?_
    rintro e w1 ⟨rfl, hb1⟩
    go_wp2_with fail
    go_ret2
    rw [HR.out]; exact ⟨rfl, hb1⟩
  have HR := Lib.hid (show bestNR l = (bstN l 4, 0) by unfold bestNR; rw [if_neg h1, bestNW_left]; rfl)
  have HK2 := Lib.hid (fun (m : Nat) (hm : 1 ≤ m ∧ m ≤ 4) W (hb : Below w.heap.size w W) => show Calls Tryz.prog 12 #[.slice a l.length c, .int .i64 m] W (fun e w' => e = .returned (.tuple #[.string (str (nbW m l)), .int .i64 0]) ∧ Below W.heap.size W w') by
    have h := HK m W hb
    rw [show numR (m : Int) l = (nbW m l, 0) by unfold numR; rw [if_neg (by omega), if_neg h1, Int.toNat_natCast]] at h
    exact h)
  have HST := Lib.hid (fun (m : Nat) => show str (bstN l (m + 2)) = if (str (nbW (m + 2) l)).size < (str (bstN l (m + 1))).size then str (nbW (m + 2) l) else str (bstN l (m + 1)) from lstep_str _ _)
  have HS1 := Lib.hid (show str (bstN l 1) = str (nbW 1 l) from rfl)
  have HS0 := Lib.hid (show str (bstN l 0) = str [] from rfl)
  clear HK hu hx
  generalize hB : bstN l = B at *
  clear hB
  generalize hW : (fun m => nbW m l) = W at *
  go_enter Tryz.func38, Tryz.ntmps38
  go_wp2_with fail
  go_loopw [10, 11, 12, 13] (fun q i _ _ wr => ∃ m : Nat, m ≤ 4 ∧ i = .int .i64 ((m + 1 : Nat) : Int) ∧ q = .string (str (B m)) ∧ Below w.heap.size w wr) (fun _ i _ _ _ => 5 - (intOf i).toNat)
  case atStart => exact ⟨0, by omega, rfl, by rw [HS0.out]; rfl, Below.refl _ _⟩
  case round =>
    obtain ⟨m, hm, rfl, rfl, hb⟩ := hrel
    by_cases hlt : m < 4
    · have hc0 := HK2.out (m + 1) (by omega) _ hb
      obtain ⟨N, hN⟩ : ∃ N : Int, N = ((m + 1 : Nat) : Int) := ⟨_, rfl⟩
      obtain ⟨N2, hN2⟩ : ∃ N2 : Int, N2 = ((m + 1 + 1 : Nat) : Int) := ⟨_, rfl⟩
      have g0 : decide (N ≤ 4) = true := decide_eq_true (by omega)
      have hw1 : IntKind.i64.wrap (N + 1) = N2 := by rw [IntKind.wrap_i64]; omega
      have HN := Lib.hid hN
      have HN2 := Lib.hid hN2
      rw [← hN] at hc0 ⊢
      have hms : 5 - N2.toNat < 5 - N.toNat := by omega
      have HMS := Lib.hid hms
      clear hN2 hms
      by_cases h0 : m = 0
      · subst h0
        have g1 : (N == 1) = true := by rw [beq_iff_eq]; omega
        have HS := Lib.hid (show str (B 1) = _ from HS1.out)
        have HC := Lib.hid hc0
        clear hN hc0 hm hlt
        generalize str (nbW (0 + 1) l) = t at *
        generalize str (B 0) = u at *
        go_wp2_with fail
        refine (HC.out).mono ?_
        rintro e w1 ⟨rfl, hb1⟩
        go_wp2_with fail
        exact ⟨⟨1, by omega, by rw [HN2.out], by rw [HS.out], below_then hb hb1⟩, HMS.out⟩
      · obtain ⟨q, rfl⟩ : ∃ q, m = q + 1 := ⟨m - 1, by omega⟩
        have HS := Lib.hid (HST.out q)
        have g1 : (N == 1) = false := by rw [beq_eq_false_iff_ne]; omega
        have HLT := Lib.hid hlt
        clear hN hm h0 hlt
        rw [show q + 1 + 1 = q + 2 from rfl] at hc0
        generalize str (nbW (q + 2) l) = t at *
        generalize str (B (q + 1)) = u at *
        have HC := Lib.hid hc0
        clear hc0
        by_cases hc : t.size < u.size
        · have g2 : decide (t.size < u.size) = true := decide_eq_true hc
          rw [if_pos hc] at HS
          clear hc
          go_wp2_with fail
          refine (HC.out).mono ?_
          rintro e w1 ⟨rfl, hb1⟩
          go_wp2_with fail
          exact ⟨⟨q + 2, HLT.out, by rw [HN2.out], by rw [HS.out], below_then hb hb1⟩, HMS.out⟩
        · have g2 : decide (t.size < u.size) = false := decide_eq_false hc
          rw [if_neg hc] at HS
          clear hc
          go_wp2_with fail
          refine (HC.out).mono ?_
          rintro e w1 ⟨rfl, hb1⟩
          go_wp2_with fail
          exact ⟨⟨q + 2, HLT.out, by rw [HN2.out], by rw [HS.out], below_then hb hb1⟩, HMS.out⟩
    · obtain rfl : m = 4 := by omega
      have g0 : decide (((4 + 1 : Nat) : Int) ≤ 4) = false := decide_eq_false (by omega)
      go_wp2_with fail
      go_ret2
      rw [HR.out]; exact ⟨rfl, hb⟩

set_option maxHeartbeats 400000 in
theorem kbestNumbers_any (a : Option Addr) (c : Nat) (l : List Nat) (w : World) (hcap : l.length ≤ c) (hcm : c ≤ maxLen) (hx : ∀ x ∈ l, x < 18446744073709551616) (hu : Nums w w.heap.size a l) :
    Calls Tryz.prog 13 #[.slice a l.length c] w (PackPost (bestNR l) w) := by
  have HB := Lib.hid (kbestn_any a c l w hcap hcm hx hu)
  clear hu hx
  go_enter Tryz.func13, Tryz.ntmps13
  go_wp2_with fail
  refine (HB.out).mono ?_
  rintro e w1 ⟨rfl, hb1⟩
  go_wp2_with fail
  go_ret2
  exact ⟨rfl, hb1⟩
end Go.Proofs.YtmiboibadccceaaGreat
