/- The walks of codec.toldBook, toldTexts, ReadTexts. -/
import Derived.Test.YtmiboibadccceaaGreatKW3
import Derived.Test.YtmiboibadccceaaGreatKW6
namespace Go.Proofs.YtmiboibadccceaaGreat
open Go.RowKit
set_option linter.unusedVariables false

set_option maxHeartbeats 4000000 in
set_option maxRecDepth 100000 in
theorem toldBook_any (s : List UInt8) (m : Nat) (w : World) (hs : s.length ≤ maxLen) (hm : m ≤ 64) :
    Calls Tryz.prog 104 #[.string (str s), .int .i64 (m : Int)] w (TextsPost (btR m s) w) := by
  have hv1 := vread_any (str s) w (by rw [str_size]; exact hs)
  rw [str_data] at hv1
  unfold ReadPost at hv1
  have hb1 := V.rd_bad s
  have hsz := str_size s
  have hmx := hs
  unfold maxLen at hmx
  obtain ⟨x, k, e, he⟩ : ∃ x k e, V.rd s = (x, k, e) := ⟨_, _, _, rfl⟩
  rw [he] at hv1 hb1
  simp only at hv1
  have HV1 := Lib.hid hv1
  clear hv1
  by_cases h0 : e = 0
  · subst h0
    obtain ⟨hk1, hkl, _, hx, hk9, _⟩ := V.rd_ok _ _ _ he
    by_cases h2 : 64 < x
    · have HRE := Lib.hid (bt_e2 (m := m) he h2)
      have g3 : decide (64 < x) = true := decide_eq_true h2
      have g3' : decide ((64 : Int) < (x : Int)) = true := decide_eq_true (by omega)
      generalize str s = S at *
      clear hb1 he h2 hs hsz
      go_enter Tryz.func104, Tryz.ntmps104
      go_wp2_with fail
      refine (HV1.out).mono ?_
      rintro e2 w1 ⟨rfl, hbl⟩
      go_wp2_with fail
      go_ret2
      rw [HRE.out]
      exact TextsPost.none _ hbl
    have g3 : decide (64 < x) = false := decide_eq_false h2
    have g3' : decide ((64 : Int) < (x : Int)) = false := decide_eq_false (by omega)
    have hwx : IntKind.i64.wrap (x : Int) = (x : Int) := by rw [IntKind.wrap_i64]; omega
    have HBW := Lib.hid (fun W => wideOf_any x W (by omega))
    have hwl := bw_le x (by omega)
    obtain ⟨q, hq⟩ : ∃ q, B.sz (m * bw x) = q := ⟨_, rfl⟩
    have HE3 := Lib.hid (bt_e3 (m := m) he h2 hq)
    have HE4 := Lib.hid (fun e u => bt_e4 (m := m) (e := e) (u := u) he h2 hq)
    have HE5 := Lib.hid (fun e u b => bt_e5 (m := m) (e := e) (u := u) (b := b) he h2 hq)
    have HOK := Lib.hid (fun u b => bt_ok (m := m) (u := u) (b := b) he h2 hq)
    obtain ⟨u, eu, hu⟩ : ∃ u eu, unpR ((s.drop k).take q) m (bw x : Nat) = (u, eu) := ⟨_, _, rfl⟩
    obtain ⟨b, eb, hb⟩ : ∃ b eb, freadR (s.drop (k + q)) x = (b, eb) := ⟨_, _, rfl⟩
    have hue := unpR_facts hu hwl
    have hup := fun W => unpack_any (str ((s.drop k).take q)) m (bw x : Nat) W (by rw [str_size, List.length_take, List.length_drop]; unfold maxLen; omega)
    rw [str_data, hu] at hup
    have hfr := fun W => fread_any (s.drop (k + q)) x W (by rw [List.length_drop]; unfold maxLen; omega)
    rw [hb] at hfr
    have hXT : (str s).extract (k + q) (str s).size = str (s.drop (k + q)) := str_drop s _
    have hXC : (str s).extract k (k + q) = str ((s.drop k).take q) := str_cut s k q
    rw [← hXC] at hup
    rw [← hXT] at hfr
    unfold AllPost at hup
    unfold TextsPost at hfr
    simp only at hup hfr
    have HUP := Lib.hid hup
    have HFR := Lib.hid hfr
    have hP : m * bw x ≤ 64 * 64 := Nat.mul_le_mul hm hwl
    have hPI : ((m : Int) * ((bw x : Nat) : Int)) = ((m * bw x : Nat) : Int) := by simp
    unfold B.sz at hq
    rw [hu] at HE4 HE5 HOK
    rw [hb] at HE5 HOK
    clear hu hb hXT hXC hup hfr
    generalize bw x = wd at *
    generalize m * wd = P at *
    have hwP : IntKind.i64.wrap (P : Int) = (P : Int) := by rw [IntKind.wrap_i64]; omega
    have hw7 : IntKind.i64.wrap ((P : Int) + 7) = (P : Int) + 7 := by rw [IntKind.wrap_i64]; omega
    have hq8 : ((P : Int) + 7) / 8 = (q : Int) := by omega
    have hq9 : ((P : Int) + 7).tdiv 8 = (q : Int) := by rw [Int.tdiv_eq_ediv_of_nonneg (by omega)]; exact hq8
    have hwq : IntKind.i64.wrap (q : Int) = (q : Int) := by rw [IntKind.wrap_i64]; omega
    have hwkq : IntKind.i64.wrap ((k : Int) + (q : Int)) = (k : Int) + (q : Int) := by rw [IntKind.wrap_i64]; omega
    have hkqn : ((k : Int) + (q : Int)).toNat = k + q := by omega
    have hkq0 : (0 : Int) ≤ (k : Int) + (q : Int) := by omega
    have hkq1 : (k : Int) ≤ (k : Int) + (q : Int) := by omega
    by_cases h5 : s.length < k + q
    · have HRE := Lib.hid (HE3.out h5)
      have g6 : decide (((str s).size : Int) < (k : Int) + (q : Int)) = true := decide_eq_true (by omega)
      have g6' : decide ((str s).size < k + q) = true := decide_eq_true (by omega)
      generalize str s = S at *
      clear HE3 HE4 HE5 HOK HUP HFR hue hsz hs he hb1 hq
      go_enter Tryz.func104, Tryz.ntmps104
      go_wp2_with fail
      refine (HV1.out).mono ?_
      rintro e2 w1 ⟨rfl, hbl⟩
      go_wp2_with fail
      refine (HBW.out _).mono ?_
      rintro e3 w2 ⟨rfl, hb2⟩
      go_wp2_with fail
      go_ret2
      rw [HRE.out]
      exact TextsPost.none _ (below_then hbl hb2)
    have g6 : decide (((str s).size : Int) < (k : Int) + (q : Int)) = false := decide_eq_false (by omega)
    have g6' : decide ((str s).size < k + q) = false := decide_eq_false (by omega)
    have hkx : k + q ≤ (str s).size := by omega
    have hkxI : (k : Int) + (q : Int) ≤ ((str s).size : Int) := by omega
    by_cases hu0 : eu = 0
    · subst hu0
      have HTX := Lib.hid (fun a c a2 c2 W h1 h2 => dtexts_any a c b a2 c2 u W (hue.2 rfl).2 h1 h2)
      unfold TextsPost at HTX
      by_cases hb0 : eb = 0
      · subst hb0
        have HRE := Lib.hid (HOK.out u b h5 rfl rfl)
        generalize str s = S at *
        clear HE3 HE4 HE5 HOK hue hsz hs he hb1 h5 hq
        go_enter Tryz.func104, Tryz.ntmps104
        go_wp2_with fail
        refine (HV1.out).mono ?_
        rintro e2 w1 ⟨rfl, hbl⟩
        go_wp2_with fail
        refine (HBW.out _).mono ?_
        rintro e3 w2 ⟨rfl, hb2⟩
        go_wp2_with fail
        refine (HUP.out _).mono ?_
        rintro e4 w4 ⟨au, cu, rfl, hnu, hb4⟩
        have r4 := below_then (below_then hbl hb2) hb4
        go_wp2_with fail
        refine (HFR.out _).mono ?_
        rintro e5 w5 ⟨ab, cb, rfl, htx, hb5⟩
        have r5 := below_then r4 hb5
        go_wp2_with fail
        refine (HTX.out _ _ _ _ _ htx (hnu.next hb5)).mono ?_
        rintro e6 w6 ⟨at', ct, rfl, htt, hb6⟩
        go_wp2_with fail
        go_ret2
        rw [HRE.out]
        exact ⟨at', ct, rfl, htt, below_then r5 hb6⟩
      · have HRE := Lib.hid (HE5.out eb u b h5 rfl rfl hb0)
        have gb : ((eb : Int) != 0) = true := by rw [bne_iff_ne]; omega
        generalize str s = S at *
        clear HE3 HE4 HE5 HOK hue hsz hs he hb1 h5 hq
        go_enter Tryz.func104, Tryz.ntmps104
        go_wp2_with fail
        refine (HV1.out).mono ?_
        rintro e2 w1 ⟨rfl, hbl⟩
        go_wp2_with fail
        refine (HBW.out _).mono ?_
        rintro e3 w2 ⟨rfl, hb2⟩
        go_wp2_with fail
        refine (HUP.out _).mono ?_
        rintro e4 w4 ⟨au, cu, rfl, hnu, hb4⟩
        have r4 := below_then (below_then hbl hb2) hb4
        go_wp2_with fail
        refine (HFR.out _).mono ?_
        rintro e5 w5 ⟨ab, cb, rfl, htx, hb5⟩
        go_wp2_with fail
        go_ret2
        rw [HRE.out]
        exact TextsPost.none _ (below_then r4 hb5)
    · have HRE := Lib.hid (HE4.out eu u h5 rfl hu0)
      have gu : ((eu : Int) != 0) = true := by rw [bne_iff_ne]; omega
      generalize str s = S at *
      clear HE3 HE4 HE5 HOK hue hsz hs he hb1 h5 hq
      go_enter Tryz.func104, Tryz.ntmps104
      go_wp2_with fail
      refine (HV1.out).mono ?_
      rintro e2 w1 ⟨rfl, hbl⟩
      go_wp2_with fail
      refine (HBW.out _).mono ?_
      rintro e3 w2 ⟨rfl, hb2⟩
      go_wp2_with fail
      refine (HUP.out _).mono ?_
      rintro e4 w4 ⟨au, cu, rfl, hnu, hb4⟩
      go_wp2_with fail
      go_ret2
      rw [HRE.out]
      exact TextsPost.none _ (below_then (below_then hbl hb2) hb4)
  · have HRE := Lib.hid (bt_e1 (m := m) he h0)
    have g1 : ((e : Int) != 0) = true := by rw [bne_iff_ne]; omega
    generalize str s = S at *
    clear hb1 he h0 hs hsz
    go_enter Tryz.func104, Tryz.ntmps104
    go_wp2_with fail
    refine (HV1.out).mono ?_
    rintro e2 w1 ⟨rfl, hbl⟩
    go_wp2_with fail
    go_ret2
    rw [HRE.out]
    exact TextsPost.none _ hbl

def ttR (way : Nat) (many : Nat) (t : List UInt8) : List (List UInt8) × Nat := if way = 5 then plR many t else if way = 6 then btR many t else if way = 7 then freadR t many else ([], 7)
theorem tlR_open (s : List UInt8) (many : Int) : tlR s many = if (openR s many).2.2 ≠ 0 then ([], (openR s many).2.2) else ttR (openR s many).1 many.toNat (openR s many).2.1 := by
  unfold tlR openR
  by_cases h0 : many < 0
  · rw [if_pos h0, if_pos h0]; rfl
  rw [if_neg h0, if_neg h0]
  by_cases h1 : 64 < many
  · rw [if_pos h1, if_pos h1]; rfl
  rw [if_neg h1, if_neg h1]
  have hm : ((many.toNat : Nat) : Int) = many := by omega
  cases s with
  | nil => rfl
  | cons c t => show _ = ttR c.toNat many.toNat t; unfold ttR; rw [hm]

set_option maxHeartbeats 2000000 in
set_option maxRecDepth 100000 in
theorem toldTexts_any (way : Nat) (t : List UInt8) (m : Nat) (w : World) (hs : t.length ≤ maxLen) (hm : m ≤ 64) :
    Calls Tryz.prog 57 #[.string (str t), .int .i64 (m : Int), .int .i64 (way : Int)] w (TextsPost (ttR way m t) w) := by
  have hP := (toldPlain_any t m w hs hm).mono fun _ _ h => h.weak
  have hB := toldBook_any t m w hs hm
  have hF := fread_any t m w hs
  by_cases h1 : way = 5
  · subst h1
    have HR := Lib.hid (show ttR 5 m t = plR m t from rfl)
    unfold TextsPost at hP ⊢
    have HF := Lib.hid hP
    generalize str t = S at *
    clear hP hB hF hs
    go_enter Tryz.func57, Tryz.ntmps57
    go_wp2_with fail
    refine (HF.out).mono ?_
    rintro e1 w1 ⟨a, c, rfl, hn, hb1⟩
    go_wp2_with fail
    go_ret2
    rw [HR.out]; exact ⟨a, c, rfl, hn, hb1⟩
  by_cases h2 : way = 6
  · subst h2
    have HR := Lib.hid (show ttR 6 m t = btR m t from rfl)
    unfold TextsPost at hB ⊢
    have HF := Lib.hid hB
    generalize str t = S at *
    clear hP hB hF hs
    go_enter Tryz.func57, Tryz.ntmps57
    go_wp2_with fail
    refine (HF.out).mono ?_
    rintro e1 w1 ⟨a, c, rfl, hn, hb1⟩
    go_wp2_with fail
    go_ret2
    rw [HR.out]; exact ⟨a, c, rfl, hn, hb1⟩
  by_cases h3 : way = 7
  · subst h3
    have HR := Lib.hid (show ttR 7 m t = freadR t m from rfl)
    unfold TextsPost at hF ⊢
    have HF := Lib.hid hF
    generalize str t = S at *
    clear hP hB hF hs
    go_enter Tryz.func57, Tryz.ntmps57
    go_wp2_with fail
    refine (HF.out).mono ?_
    rintro e1 w1 ⟨a, c, rfl, hn, hb1⟩
    go_wp2_with fail
    go_ret2
    rw [HR.out]; exact ⟨a, c, rfl, hn, hb1⟩
  have HR := Lib.hid (show ttR way m t = ([], 7) by unfold ttR; rw [if_neg h1, if_neg h2, if_neg h3])
  have g1 : ((way : Int) == 5) = false := by rw [beq_eq_false_iff_ne]; omega
  have g2 : ((way : Int) == 6) = false := by rw [beq_eq_false_iff_ne]; omega
  have g3 : ((way : Int) == 7) = false := by rw [beq_eq_false_iff_ne]; omega
  generalize str t = S at *
  generalize (way : Int) = W at *
  clear h1 h2 h3 hs hP hB hF
  go_enter Tryz.func57, Tryz.ntmps57
  go_wp2_with fail
  go_ret2
  rw [HR.out]; exact TextsPost.none 7 (Below.refl _ _)

set_option maxHeartbeats 2000000 in
set_option maxRecDepth 100000 in
theorem readTexts_any (s : List UInt8) (many : Int) (w : World) (hs : s.length ≤ maxLen) :
    Calls Tryz.prog 23 #[.string (str s), .int .i64 many] w (TextsPost (tlR s many) w) := by
  have hO := opened_any s many w hs
  have hR := tlR_open s many
  have hm : (openR s many).2.2 = 0 → ∃ m : Nat, many = m ∧ m ≤ 64 := fun e => by
    by_cases h0 : many < 0
    · rw [show openR s many = (0, [], 3) from if_pos h0] at e; exact absurd e (by simp)
    by_cases h1 : 64 < many
    · rw [show openR s many = (0, [], 2) by unfold openR; rw [if_neg h0, if_pos h1]] at e; exact absurd e (by simp)
    exact ⟨many.toNat, by omega, by omega⟩
  have hl : (openR s many).2.1.length ≤ maxLen := by
    unfold openR
    split
    · simp [maxLen]
    split
    · simp [maxLen]
    cases s with
    | nil => simp [maxLen]
    | cons c t => rw [List.length_cons] at hs; show t.length ≤ _; omega
  obtain ⟨way, t, e, he⟩ : ∃ way t e, openR s many = (way, t, e) := ⟨_, _, _, rfl⟩
  rw [he] at hO hR hm hl
  simp only at hR hm hl
  unfold OpenPost at hO
  simp only at hO
  have HO := Lib.hid hO
  clear hO he hs
  by_cases h0 : e = 0
  · subst h0
    obtain ⟨m, rfl, hm64⟩ := hm rfl
    rw [if_neg (by simp), Int.toNat_natCast] at hR
    have HT := Lib.hid (fun W => toldTexts_any way t m W hl hm64)
    rw [← hR] at HT
    unfold TextsPost at HT
    generalize str t = T at *
    generalize str s = S at *
    clear hR hm hl hm64
    go_enter Tryz.func23, Tryz.ntmps23
    go_wp2_with fail
    refine (HO.out).mono ?_
    rintro e1 w1 ⟨rfl, hb1⟩
    go_wp2_with fail
    refine (HT.out _).mono ?_
    rintro e1 w2 ⟨a, c, rfl, hn, hb2⟩
    go_wp2_with fail
    go_ret2
    exact ⟨a, c, rfl, hn, below_then hb1 hb2⟩
  · rw [if_pos h0] at hR
    have HR := Lib.hid hR
    have g1 : ((e : Int) != 0) = true := by rw [bne_iff_ne]; omega
    generalize str t = T at *
    generalize str s = S at *
    clear hR hm hl h0
    go_enter Tryz.func23, Tryz.ntmps23
    go_wp2_with fail
    refine (HO.out).mono ?_
    rintro e1 w1 ⟨rfl, hb1⟩
    go_wp2_with fail
    go_ret2
    rw [HR.out]; exact TextsPost.none e hb1
end Go.Proofs.YtmiboibadccceaaGreat
