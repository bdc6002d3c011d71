/- The law MarksBack. -/
import Derived.Test.YthmlafoceacliaaML1
namespace Go.Proofs.Ythmlafoceacliaa
open Go.RowKit
set_option linter.unusedVariables false

theorem bytes_back (l : List Bool) (h : l.length ≤ 64) : ∃ t, bytesR l = (t, 0) ∧ t.length ≤ maxLen ∧ ofR t l.length = (l, 0) := by
  have hf : ∀ x ∈ ones l, x < 2 ^ 1 := ones_lt l
  have hl : (ones l).length ≤ 64 := by rw [ones_length]; exact h
  obtain ⟨hun, _⟩ := unp_pack 1 (ones l) (by omega) hl hf
  rw [ones_length] at hun
  refine ⟨B.le (B.sz (l.length * 1)) (B.pk 1 (ones l)), ?_, ?_, ?_⟩
  · have hwd : B.wd (ones l) ≤ 1 := (B.wd_le _ _).2 hf
    rw [bytesR, packR, if_neg (by omega), if_neg (by omega), if_neg (by show ¬ (1 < B.wd (ones l)); omega), ones_length]; rfl
  · rw [B.le_length]; unfold B.sz maxLen; omega
  · unfold ofR
    have e : ((1 : Nat) : Int) = 1 := rfl
    rw [e] at hun
    rw [hun, ofOnes_ones]
theorem of_back (s : List UInt8) (many : Int) (h : (ofR s many).2 = 0) : bytesR (ofR s many).1 = (s, 0) ∧ ((ofR s many).1.length : Int) = many := by
  unfold ofR at h ⊢
  simp only at h ⊢
  unfold unpR at h ⊢
  by_cases hc : chkR s many 1 = 0
  · rw [if_pos hc]
    obtain ⟨h1, h2⟩ := pack_unp s many 1 hc
    have hlt := B.dg_lt (1 : Int).toNat many.toNat (B.leN s)
    have hob : ones (ofOnes (B.dg (1 : Int).toNat many.toNat (B.leN s))) = B.dg (1 : Int).toNat many.toNat (B.leN s) := ones_ofOnes _ hlt
    refine ⟨by rw [bytesR, hob]; exact h1, by simp only [ofOnes, List.length_map]; exact h2⟩
  · rw [if_neg hc] at h; exact absurd h hc
theorem of_bad (s : List UInt8) (many : Int) (h : (ofR s many).2 ≠ 0) : (ofR s many).1 = [] := by
  unfold ofR at h ⊢
  simp only at h ⊢
  rw [unp_bad s many 1 h]; rfl

set_option maxHeartbeats 1000000 in
set_option maxRecDepth 100000 in
theorem marksBack_walk (w : World) (a : Option Addr) (c : Nat) (l : List Bool) (hm : l.length ≤ maxLen) (hcap : l.length ≤ c ∧ c ≤ maxLen ∧ (a = none → c = 0)) (hu : Bools w w.heap.size a l)
    (s : ByteArray) (hs : s.size ≤ maxLen) (many : Int) (hp : -9223372036854775808 ≤ many ∧ many ≤ 9223372036854775807) :
    Calls Try.prog 8 #[.slice a l.length c, .string s, .int .i64 many] w (BoolPost true w) := by
  have hby := bytes_any a c l w hu
  have HOF := Lib.hid (fun w => of_any s many w hs)
  have hbad := of_bad s.data.toList many
  have hback := of_back s.data.toList many
  have heq : ((str s.data.toList).toList == s.toList) = true := by rw [str_toList, ByteArray.toList_eq]; simp
  generalize ofR s.data.toList many = u at *
  obtain ⟨ys, er⟩ := u
  simp only at hbad hback
  by_cases hl : l.length ≤ 64
  · obtain ⟨t, ht, htl, hto⟩ := bytes_back l hl
    rw [ht] at hby
    have HBY := Lib.hid hby
    have hof := fun w => of_any (str t) l.length w (by rw [str_size]; exact htl)
    rw [str_data, hto] at hof
    have HO1 := Lib.hid hof
    have hsm := fun w a' c' B' h1 h2 => msame_any a' a c' c l l w B' h1 h2 (by omega)
    rw [decide_eq_true rfl] at hsm
    have HSM := Lib.hid hsm
    have g1 : decide ((l.length : Int) ≤ 64) = true := by simp; omega
    clear hby hof hsm ht hto
    by_cases he : er = 0
    · subst he
      obtain ⟨hb, hlen⟩ := hback rfl
      have hby2 := fun a c w h => bytes_any a c ys w h
      rw [hb] at hby2
      have HB2 := Lib.hid hby2
      have hq : ((ys.length : Int) == many) = true := by rw [hlen]; simp
      clear hby2 hb hlen hbad hback
      go_enter Try.func8, Try.ntmps8
      go_wp2_with fail
      refine (HBY.out).mono ?_
      rintro e w1 ⟨rfl, hb1⟩
      go_wp2_with fail
      refine (rbegun_any _).mono ?_
      rintro e w2 ⟨rfl, hb2⟩
      have h2 := below_then hb1 hb2
      go_wp2_with fail
      refine (HO1.out _).mono ?_
      rintro e w3 ⟨a3, c3, rfl, hn3, hb3⟩
      have h3 := below_then h2 hb3
      go_wp2_with fail
      refine (HSM.out _ a3 c3 _ hn3 (hu.next h3)).mono ?_
      rintro e w4 ⟨rfl, hb4⟩
      have h4 := below_then h3 hb4
      go_wp2_with fail
      refine (HOF.out _).mono ?_
      rintro e w5 ⟨a5, c5, rfl, hn5, hb5⟩
      have h5 := below_then h4 hb5
      go_wp2_with fail
      refine (HB2.out a5 c5 _ hn5).mono ?_
      rintro e w6 ⟨rfl, hb6⟩
      go_wp2_with fail
      go_ret
      exact ⟨rfl, below_then h5 hb6⟩
    · obtain rfl := hbad he
      have g2 : ((er : Int) != 0) = true := by rw [bne_iff_ne]; omega
      clear he hbad hback heq
      go_enter Try.func8, Try.ntmps8
      go_wp2_with fail
      refine (HBY.out).mono ?_
      rintro e w1 ⟨rfl, hb1⟩
      go_wp2_with fail
      refine (rbegun_any _).mono ?_
      rintro e w2 ⟨rfl, hb2⟩
      have h2 := below_then hb1 hb2
      go_wp2_with fail
      refine (HO1.out _).mono ?_
      rintro e w3 ⟨a3, c3, rfl, hn3, hb3⟩
      have h3 := below_then h2 hb3
      go_wp2_with fail
      refine (HSM.out _ a3 c3 _ hn3 (hu.next h3)).mono ?_
      rintro e w4 ⟨rfl, hb4⟩
      have h4 := below_then h3 hb4
      go_wp2_with fail
      refine (HOF.out _).mono ?_
      rintro e w5 ⟨a5, c5, rfl, hn5, hb5⟩
      have h5 := below_then h4 hb5
      go_wp2_with fail
      go_ret
      exact ⟨rfl, h5⟩
  · rw [bytes_many l (by omega)] at hby
    have HBY := Lib.hid hby
    have g1 : decide ((l.length : Int) ≤ 64) = false := by simp; omega
    clear hby
    by_cases he : er = 0
    · subst he
      obtain ⟨hb, hlen⟩ := hback rfl
      have hby2 := fun a c w h => bytes_any a c ys w h
      rw [hb] at hby2
      have HB2 := Lib.hid hby2
      have hq : ((ys.length : Int) == many) = true := by rw [hlen]; simp
      clear hby2 hb hlen hbad hback
      go_enter Try.func8, Try.ntmps8
      go_wp2_with fail
      refine (HBY.out).mono ?_
      rintro e w1 ⟨rfl, hb1⟩
      go_wp2_with fail
      refine (rbegun_any _).mono ?_
      rintro e w2 ⟨rfl, hb2⟩
      have h2 := below_then hb1 hb2
      go_wp2_with fail
      refine (HOF.out _).mono ?_
      rintro e w5 ⟨a5, c5, rfl, hn5, hb5⟩
      have h5 := below_then h2 hb5
      go_wp2_with fail
      refine (HB2.out a5 c5 _ hn5).mono ?_
      rintro e w6 ⟨rfl, hb6⟩
      go_wp2_with fail
      go_ret
      exact ⟨rfl, below_then h5 hb6⟩
    · obtain rfl := hbad he
      have g2 : ((er : Int) != 0) = true := by rw [bne_iff_ne]; omega
      clear he hbad hback heq
      go_enter Try.func8, Try.ntmps8
      go_wp2_with fail
      refine (HBY.out).mono ?_
      rintro e w1 ⟨rfl, hb1⟩
      go_wp2_with fail
      refine (rbegun_any _).mono ?_
      rintro e w2 ⟨rfl, hb2⟩
      have h2 := below_then hb1 hb2
      go_wp2_with fail
      refine (HOF.out _).mono ?_
      rintro e w5 ⟨a5, c5, rfl, hn5, hb5⟩
      have h5 := below_then h2 hb5
      go_wp2_with fail
      go_ret
      exact ⟨rfl, h5⟩
end Go.Proofs.Ythmlafoceacliaa
