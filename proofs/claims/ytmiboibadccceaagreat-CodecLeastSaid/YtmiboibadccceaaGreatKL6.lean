/- The law CodecLeast. -/
import Derived.Test.YtmiboibadccceaaGreatKB
namespace Go.Proofs.YtmiboibadccceaaGreat
open Go.RowKit
set_option linter.unusedVariables false

theorem least_nums (a : Option Addr) (c : Nat) (l : List Nat) (hcap : l.length ≤ c) (hcm : c ≤ maxLen) (hx : ∀ x ∈ l, x < 18446744073709551616) :
    ∃ (E : Int) (X : Nat → ByteArray) (T : ByteArray), (E = 0 ∨ E = 2) ∧ (E = 0 → ∀ m, 1 ≤ m → m ≤ 4 → ¬ (X m).size < T.size) ∧ (E = 0 → ∃ m, 1 ≤ m ∧ m ≤ 4 ∧ X m = T)
      ∧ (∀ W, Nums W W.heap.size a l → Calls Tryz.prog 13 #[.slice a l.length c] W (fun e w' => e = .returned (.tuple #[.string T, .int .i64 E]) ∧ Below W.heap.size W w'))
      ∧ (∀ m : Nat, 1 ≤ m → m ≤ 4 → ∀ W, Nums W W.heap.size a l → Calls Tryz.prog 12 #[.slice a l.length c, .int .i64 (m : Int)] W (fun e w' => e = .returned (.tuple #[.string (X m), .int .i64 E]) ∧ Below W.heap.size W w')) := by
  by_cases hbig : 64 < l.length
  · refine ⟨2, fun _ => ⟨#[]⟩, ⟨#[]⟩, Or.inr rfl, fun h => absurd h (by decide), fun h => absurd h (by decide), fun W hq => ?_, fun m h1 h4 W hq => ?_⟩
    · have h := kbestNumbers_any a c l W hcap hcm hx hq
      rw [show bestNR l = ([], 2) from if_pos hbig] at h
      exact h
    · have h := knumbers_any m a c l W hcap hcm hx hq
      rw [show numR (m : Int) l = ([], 2) by unfold numR; rw [if_neg (by omega), if_pos hbig]] at h
      exact h
  · refine ⟨0, fun m => str (nbW m l), str (bestNW l), Or.inl rfl, fun _ m h1 h4 => ?_, fun _ => ?_, fun W hq => ?_, fun m h1 h4 W hq => ?_⟩
    · have := bestNW_le l m ⟨h1, h4⟩
      simp only [str_size]; omega
    · obtain ⟨m, h1, h4, e⟩ := bestNW_is l
      exact ⟨m, h1, h4, by rw [e]⟩
    · have h := kbestNumbers_any a c l W hcap hcm hx hq
      rw [show bestNR l = (bestNW l, 0) from if_neg hbig] at h
      exact h
    · have h := knumbers_any m a c l W hcap hcm hx hq
      rw [show numR (m : Int) l = (nbW m l, 0) by unfold numR; rw [if_neg (by omega), if_neg hbig, Int.toNat_natCast]] at h
      exact h

theorem least_texts (a : Option Addr) (c : Nat) (l : List (List UInt8)) :
    ∃ (E : Int) (X : Nat → ByteArray) (T : ByteArray), (E = 0 ∨ E = 2) ∧ (E = 0 → ∀ m, 5 ≤ m → m ≤ 7 → ¬ (X m).size < T.size) ∧ (E = 0 → ∃ m, 5 ≤ m ∧ m ≤ 7 ∧ X m = T)
      ∧ (∀ W, Txts W W.heap.size a l → Calls Tryz.prog 18 #[.slice a l.length c] W (fun e w' => e = .returned (.tuple #[.string T, .int .i64 E]) ∧ Below W.heap.size W w'))
      ∧ (∀ m : Nat, 5 ≤ m → m ≤ 7 → ∀ W, Txts W W.heap.size a l → Calls Tryz.prog 17 #[.slice a l.length c, .int .i64 (m : Int)] W (fun e w' => e = .returned (.tuple #[.string (X m), .int .i64 E]) ∧ Below W.heap.size W w')) := by
  by_cases hbig : fitR l ≠ 0
  · refine ⟨2, fun _ => ⟨#[]⟩, ⟨#[]⟩, Or.inr rfl, fun h => absurd h (by decide), fun h => absurd h (by decide), fun W hq => ?_, fun m h1 h4 W hq => ?_⟩
    · have h := kbestTexts_any a c l W hq
      rw [show bestTR l = ([], 2) from if_pos hbig] at h
      exact h
    · have h := ktexts_any m a c l W hq
      rw [show txtR (m : Int) l = ([], 2) by unfold txtR; rw [if_neg (by omega), if_pos hbig]] at h
      exact h
  · refine ⟨0, fun m => str (txB m l), str (bestTW l), Or.inl rfl, fun _ m h1 h4 => ?_, fun _ => ?_, fun W hq => ?_, fun m h1 h4 W hq => ?_⟩
    · have := bestTW_le l m ⟨h1, h4⟩
      simp only [str_size]; omega
    · obtain ⟨m, h1, h4, e⟩ := bestTW_is l
      exact ⟨m, h1, h4, by rw [e]⟩
    · have h := kbestTexts_any a c l W hq
      rw [show bestTR l = (bestTW l, 0) from if_neg hbig] at h
      exact h
    · have h := ktexts_any m a c l W hq
      rw [show txtR (m : Int) l = (txB m l, 0) by unfold txtR; rw [if_neg (by omega), if_neg hbig, Int.toNat_natCast]] at h
      exact h

theorem tl_same (X : ByteArray) : (X.toList == X.toList) = true := by rw [beq_iff_eq]
/-- of ways up to k: the flag is up if one of them is it -/
def Fnd (lo k : Nat) (E : Int) (X : Nat → ByteArray) (T : ByteArray) (b : Bool) : Prop := (E ≠ 0 → b = true) ∧ ∀ j, lo ≤ j → j < k → X j = T → b = true
theorem Fnd.up {lo k : Nat} {E : Int} {X : Nat → ByteArray} {T : ByteArray} : Fnd lo k E X T true := ⟨fun _ => rfl, fun _ _ _ _ => rfl⟩
theorem Fnd.no {lo k : Nat} {E : Int} {X : Nat → ByteArray} {T : ByteArray} (h : Fnd lo k E X T false) (hn : X k ≠ T) : Fnd lo (k + 1) E X T false :=
  ⟨h.1, fun j h1 h2 e => by
    by_cases hj : j = k
    · subst hj; exact absurd e hn
    · exact h.2 j h1 (by omega) e⟩
theorem str_self (X : ByteArray) : X = str X.data.toList := by cases X; simp [str]
theorem tl_diff {X Y : ByteArray} (h : X ≠ Y) : (X.toList == Y.toList) = false := by
  have e := tl_eq X.data.toList Y.data.toList
  rw [← str_self, ← str_self] at e
  rw [e]
  exact decide_eq_false fun hd => h (by rw [str_self X, str_self Y, hd])

set_option maxHeartbeats 2000000 in
set_option maxRecDepth 100000 in
theorem codecLeast_walk (w : World) (a : Option Addr) (c : Nat) (l : List Nat) (hm : l.length ≤ maxLen) (hcap : l.length ≤ c ∧ c ≤ maxLen ∧ (a = none → c = 0)) (hx : ∀ x ∈ l, x < 18446744073709551616) (hu : Nums w w.heap.size a l)
    (a2 : Option Addr) (c2 : Nat) (l2 : List (List UInt8)) (hm2 : l2.length ≤ maxLen) (hcap2 : l2.length ≤ c2 ∧ c2 ≤ maxLen ∧ (a2 = none → c2 = 0)) (hx2 : ∀ x ∈ l2, x.length ≤ maxLen) (hu2 : Txts w w.heap.size a2 l2) :
    Calls Tryz.prog 8 #[.slice a l.length c, .slice a2 l2.length c2] w (BoolPost true w) := by
  obtain ⟨E, X, T, hE, hmin, hone, hbest, heach⟩ := least_nums a c l hcap.1 hcap.2.1 hx
  obtain ⟨F, Y, U, hF, tmin, tone, tbest, teach⟩ := least_texts a2 c2 l2
  have HE := Lib.hid hE
  have HMIN := Lib.hid hmin
  have HONE := Lib.hid hone
  have HBEST := Lib.hid hbest
  have HEACH := Lib.hid heach
  have HF := Lib.hid hF
  have TMIN := Lib.hid tmin
  have TONE := Lib.hid tone
  have TBEST := Lib.hid tbest
  have TEACH := Lib.hid teach
  have hB := Below.refl w.heap.size w
  clear hE hmin hone hbest heach hF tmin tone tbest teach hm hcap hx hm2 hcap2 hx2
  go_enter Tryz.func8, Tryz.ntmps8
  go_wp2_with fail
  refine (kbegun_any _).mono ?_
  rintro e w1 ⟨rfl, hb1⟩
  replace hu := hu.next hb1
  replace hu2 := hu2.next hb1
  replace hB := below_then hB hb1
  clear hb1
  go_wp2_with fail
  refine (HBEST.out _ hu).mono ?_
  rintro e w2 ⟨rfl, hb1⟩
  replace hu := hu.next hb1
  replace hu2 := hu2.next hb1
  replace hB := below_then hB hb1
  clear hb1
  go_wp2_with fail
  refine (TBEST.out _ hu2).mono ?_
  rintro e w3 ⟨rfl, hb1⟩
  replace hu := hu.next hb1
  replace hu2 := hu2.next hb1
  replace hB := below_then hB hb1
  clear hb1
  go_wp2_with fail
  obtain ⟨b0, hb0⟩ : ∃ b0, b0 = (E != 0) := ⟨_, rfl⟩
  rw [← hb0]
  have HB0 := Lib.hid hb0
  clear hb0
  go_loopw [9, 10, 11, 12] (fun f i _ _ wr => ∃ (k : Nat) (b : Bool), 1 ≤ k ∧ k ≤ 5 ∧ i = .int .i64 ((k : Nat) : Int) ∧ f = .bool b ∧ Hid (Fnd 1 k E X T b) ∧ Nums wr wr.heap.size a l ∧ Txts wr wr.heap.size a2 l2 ∧ Below w.heap.size w wr) (fun _ i _ _ _ => 5 - (intOf i).toNat)
  case atStart =>
    refine ⟨1, b0, by omega, by omega, rfl, rfl, Lib.hid ⟨fun h => by rw [HB0.out, bne_iff_ne]; exact h, fun j h1 h2 _ => absurd h1 (by omega)⟩, hu, hu2, hB⟩
  case round =>
    obtain ⟨k, b, h1, h5, rfl, rfl, HFN, hu, hu2, hB⟩ := hrel
    by_cases hlt : k < 5
    · have hc := HEACH.out k (by omega) (by omega) _ hu
      have HM := Lib.hid (fun h => HMIN.out h k (by omega) (by omega))
      have HNO := Lib.hid (fun (hb : b = false) hn => Fnd.no (k := k) (hb ▸ HFN.out) hn)
      have HB1 := Lib.hid (HFN.out.1)
      obtain ⟨N, hN⟩ : ∃ N : Int, N = ((k : Nat) : Int) := ⟨_, rfl⟩
      obtain ⟨N2, hN2⟩ : ∃ N2 : Int, N2 = ((k + 1 : Nat) : Int) := ⟨_, rfl⟩
      have g0 : decide (N ≤ 4) = true := decide_eq_true (by omega)
      have hw1 : IntKind.i64.wrap (N + 1) = N2 := by rw [IntKind.wrap_i64]; omega
      have hms : 5 - N2.toNat < 5 - N.toNat := by omega
      have HMS := Lib.hid hms
      have HN2 := Lib.hid (show 1 ≤ k + 1 ∧ k + 1 ≤ 5 ∧ N2 = ((k + 1 : Nat) : Int) from ⟨by omega, by omega, hN2⟩)
      rw [← hN] at hc ⊢
      have HC := Lib.hid hc
      have HU := Lib.hid hu
      have HU2 := Lib.hid hu2
      have HBB := Lib.hid hB
      clear hN hN2 hms hc h1 h5 hlt hu hu2 hB HFN
      have HXK := Lib.hid (rfl : X k = X k)
      obtain ⟨S, hS⟩ : ∃ S, S = X k := ⟨_, rfl⟩
      rw [← hS] at HC HM HNO
      clear hS HXK
      rcases HE.out with e0 | e0
      · subst e0
        have g2 : decide (S.size < T.size) = false := decide_eq_false (HM.out rfl)
        have g2' : decide ((S.size : Int) < (T.size : Int)) = false := decide_eq_false (by have := HM.out rfl; omega)
        cases b
        · by_cases hq : S = T
          · subst hq
            have g3 := tl_same S
            go_wp2_with fail
            refine (HC.out).mono ?_
            rintro e w4 ⟨rfl, hb1⟩
            go_wp2_with fail
            exact ⟨⟨k + 1, true, HN2.out.1, HN2.out.2.1, by rw [HN2.out.2.2], rfl, Lib.hid Fnd.up, HU.out.next hb1, HU2.out.next hb1, below_then HBB.out hb1⟩, HMS.out⟩
          · have g3 := tl_diff hq
            have HQ := Lib.hid (HNO.out rfl hq)
            clear hq
            go_wp2_with fail
            refine (HC.out).mono ?_
            rintro e w4 ⟨rfl, hb1⟩
            go_wp2_with fail
            exact ⟨⟨k + 1, false, HN2.out.1, HN2.out.2.1, by rw [HN2.out.2.2], rfl, HQ, HU.out.next hb1, HU2.out.next hb1, below_then HBB.out hb1⟩, HMS.out⟩
        · go_wp2_with fail
          refine (HC.out).mono ?_
          rintro e w4 ⟨rfl, hb1⟩
          go_wp2_with fail
          exact ⟨⟨k + 1, true, HN2.out.1, HN2.out.2.1, by rw [HN2.out.2.2], rfl, Lib.hid Fnd.up, HU.out.next hb1, HU2.out.next hb1, below_then HBB.out hb1⟩, HMS.out⟩
      · subst e0
        obtain rfl : b = true := HB1.out (by decide)
        go_wp2_with fail
        refine (HC.out).mono ?_
        rintro e w4 ⟨rfl, hb1⟩
        go_wp2_with fail
        exact ⟨⟨k + 1, true, HN2.out.1, HN2.out.2.1, by rw [HN2.out.2.2], rfl, Lib.hid Fnd.up, HU.out.next hb1, HU2.out.next hb1, below_then HBB.out hb1⟩, HMS.out⟩
    · obtain rfl : k = 5 := by omega
      obtain rfl : b = true := by
        rcases HE.out with e0 | e0
        · obtain ⟨m, m1, m4, em⟩ := HONE.out e0
          exact HFN.out.2 m m1 (by omega) em
        · exact HFN.out.1 (by rw [e0]; decide)
      obtain ⟨N5, hN5⟩ : ∃ N5 : Int, N5 = ((5 : Nat) : Int) := ⟨_, rfl⟩
      have g0 : decide (N5 ≤ 4) = false := by rw [hN5]; decide
      rw [← hN5]
      clear hN5
      clear HFN HE HMIN HONE HBEST HEACH hlt h1 h5 hu
      go_wp2_with fail
      obtain ⟨b1, hb1⟩ : ∃ b1, b1 = (F != 0) := ⟨_, rfl⟩
      rw [← hb1]
      have HB1 := Lib.hid hb1
      clear hb1
      go_loopw [13, 14, 15, 16] (fun f i _ _ wr => ∃ (k : Nat) (b : Bool), 5 ≤ k ∧ k ≤ 8 ∧ i = .int .i64 ((k : Nat) : Int) ∧ f = .bool b ∧ Hid (Fnd 5 k F Y U b) ∧ Txts wr wr.heap.size a2 l2 ∧ Below w.heap.size w wr) (fun _ i _ _ _ => 8 - (intOf i).toNat)
      case atStart =>
        refine ⟨5, b1, by omega, by omega, rfl, rfl, Lib.hid ⟨fun h => by rw [HB1.out, bne_iff_ne]; exact h, fun j h1 h2 _ => absurd h1 (by omega)⟩, hu2, hB⟩
      case round =>
        obtain ⟨k, b, h1, h5, rfl, rfl, HFN, hu2, hB⟩ := hrel
        by_cases hlt : k < 8
        · have hc := TEACH.out k (by omega) (by omega) _ hu2
          have HM := Lib.hid (fun h => TMIN.out h k (by omega) (by omega))
          have HNO := Lib.hid (fun (hb : b = false) hn => Fnd.no (k := k) (hb ▸ HFN.out) hn)
          have HB1 := Lib.hid (HFN.out.1)
          obtain ⟨N, hN⟩ : ∃ N : Int, N = ((k : Nat) : Int) := ⟨_, rfl⟩
          obtain ⟨N2, hN2⟩ : ∃ N2 : Int, N2 = ((k + 1 : Nat) : Int) := ⟨_, rfl⟩
          have g0 : decide (N ≤ 7) = true := decide_eq_true (by omega)
          have hw1 : IntKind.i64.wrap (N + 1) = N2 := by rw [IntKind.wrap_i64]; omega
          have hms : 8 - N2.toNat < 8 - N.toNat := by omega
          have HMS := Lib.hid hms
          have HN2 := Lib.hid (show 5 ≤ k + 1 ∧ k + 1 ≤ 8 ∧ N2 = ((k + 1 : Nat) : Int) from ⟨by omega, by omega, hN2⟩)
          rw [← hN] at hc ⊢
          have HC := Lib.hid hc
          have HU2 := Lib.hid hu2
          have HBB := Lib.hid hB
          clear hN hN2 hms hc h1 h5 hlt hu2 hB HFN
          obtain ⟨S, hS⟩ : ∃ S, S = Y k := ⟨_, rfl⟩
          rw [← hS] at HC HM HNO
          clear hS
          rcases HF.out with e0 | e0
          · subst e0
            have g2 : decide (S.size < U.size) = false := decide_eq_false (HM.out rfl)
            have g2' : decide ((S.size : Int) < (U.size : Int)) = false := decide_eq_false (by have := HM.out rfl; omega)
            cases b
            · by_cases hq : S = U
              · subst hq
                have g3 := tl_same S
                go_wp2_with fail
                refine (HC.out).mono ?_
                rintro e w4 ⟨rfl, hb1⟩
                go_wp2_with fail
                exact ⟨⟨k + 1, true, HN2.out.1, HN2.out.2.1, by rw [HN2.out.2.2], rfl, Lib.hid Fnd.up, HU2.out.next hb1, below_then HBB.out hb1⟩, HMS.out⟩
              · have g3 := tl_diff hq
                have HQ := Lib.hid (HNO.out rfl hq)
                clear hq
                go_wp2_with fail
                refine (HC.out).mono ?_
                rintro e w4 ⟨rfl, hb1⟩
                go_wp2_with fail
                exact ⟨⟨k + 1, false, HN2.out.1, HN2.out.2.1, by rw [HN2.out.2.2], rfl, HQ, HU2.out.next hb1, below_then HBB.out hb1⟩, HMS.out⟩
            · go_wp2_with fail
              refine (HC.out).mono ?_
              rintro e w4 ⟨rfl, hb1⟩
              go_wp2_with fail
              exact ⟨⟨k + 1, true, HN2.out.1, HN2.out.2.1, by rw [HN2.out.2.2], rfl, Lib.hid Fnd.up, HU2.out.next hb1, below_then HBB.out hb1⟩, HMS.out⟩
          · subst e0
            obtain rfl : b = true := HB1.out (by decide)
            go_wp2_with fail
            refine (HC.out).mono ?_
            rintro e w4 ⟨rfl, hb1⟩
            go_wp2_with fail
            exact ⟨⟨k + 1, true, HN2.out.1, HN2.out.2.1, by rw [HN2.out.2.2], rfl, Lib.hid Fnd.up, HU2.out.next hb1, below_then HBB.out hb1⟩, HMS.out⟩
        · obtain rfl : k = 8 := by omega
          obtain rfl : b = true := by
            rcases HF.out with e0 | e0
            · obtain ⟨m, m1, m4, em⟩ := TONE.out e0
              exact HFN.out.2 m m1 (by omega) em
            · exact HFN.out.1 (by rw [e0]; decide)
          have g0 : decide (((8 : Nat) : Int) ≤ 7) = false := by decide
          go_wp2_with fail
          go_ret
          exact ⟨rfl, hB⟩
end Go.Proofs.YtmiboibadccceaaGreat
