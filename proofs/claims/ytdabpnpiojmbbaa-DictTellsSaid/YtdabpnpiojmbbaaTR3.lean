/- The law DictReads. -/
import Derived.Test.YtdabpnpiojmbbaaTR2
import Derived.Test.YtdabpnpiojmbbaaTB
namespace Go.Proofs.Ytdabpnpiojmbbaa
open Go.RowKit
set_option linter.unusedVariables false

theorem count_idx (p : List UInt8 → Bool) (b : List (List UInt8)) (hb : T.Up b) (hp : ∀ x y, x < y → p y = true → p x = true) : b.countP p = b.findIdx fun y => !p y := by
  induction b with
  | nil => rfl
  | cons x t ih =>
    obtain ⟨h1, h2⟩ := List.pairwise_cons.1 hb
    rw [List.findIdx_cons, List.countP_cons]
    by_cases h : p x = true
    · rw [h, ih h2]; simp
    · have hx : p x = false := by simpa using h
      rw [hx]
      have : t.countP p = 0 := by
        rw [List.countP_eq_zero]
        intro y hy hpy
        exact h (hp x y (h1 y hy) hpy)
      rw [this]; simp
theorem count_lt (s : List UInt8) {b : List (List UInt8)} (hb : T.Up b) : b.countP (pB s false) = T.plc b s := by
  rw [count_idx _ b hb (fun x y hxy h => by
    simp [pB] at h ⊢
    exact T.lt_tr hxy h)]
  unfold T.plc
  congr 1
  funext y
  simp [pB]
theorem count_le (s : List UInt8) {b : List (List UInt8)} (hb : T.Up b) : b.countP (pB s true) = T.plA b s := by
  rw [count_idx _ b hb (fun x y hxy h => by
    simp [pB] at h ⊢
    rcases h with h | h
    · exact Or.inl (T.lt_tr hxy h)
    · rw [← h]; exact Or.inl hxy)]
  unfold T.plA
  congr 1
  funext y
  rw [Bool.eq_iff_iff]
  simp only [pB, Bool.true_and, Bool.not_eq_true', Bool.or_eq_false_iff, decide_eq_false_iff_not, decide_eq_true_iff]
  constructor
  · rintro ⟨h1, h2⟩
    rcases T.tri y s with h | h | h
    · exact absurd h h1
    · exact absurd h h2
    · exact h
  · intro h
    exact ⟨fun h2 => T.lt_irr _ (T.lt_tr h h2), fun h2 => by rw [h2] at h; exact T.lt_irr _ h⟩
theorem find_has (s : List UInt8) {b : List (List UInt8)} (hb : T.Up b) : (decide (T.plc b s < b.length) && decide (b.getD (T.plc b s) [] = s)) = decide (T.plc b s < T.plA b s) := by
  by_cases hp : T.plc b s < b.length
  · have e : b.getD (T.plc b s) [] = b[T.plc b s] := by simp [List.getD, List.getElem?_eq_getElem hp]
    have h1 := (T.plc_ge hb s hp).1 (Nat.le_refl _)
    have h2 := T.plA_gt hb s hp
    rw [e, decide_eq_true hp, Bool.true_and, decide_eq_decide]
    generalize b[T.plc b s] = y at *
    constructor
    · intro h
      rcases Nat.lt_or_ge (T.plc b s) (T.plA b s) with h3 | h3
      · exact h3
      · exact absurd (h2.1 h3) (by rw [h]; exact T.lt_irr _)
    · intro h
      rcases T.tri y s with h3 | h3 | h3
      · exact absurd h3 h1
      · exact h3
      · exact absurd (h2.2 h3) (by omega)
  · have := T.plA_le b s
    rw [decide_eq_false hp, Bool.false_and]
    exact (decide_eq_false (by omega)).symm
theorem textsR_len (b : List (List UInt8)) (cs : List Nat) : (textsR b cs).1.length ≤ 64 := by
  unfold textsR
  split
  · simp
  · split
    · simp
    · split
      · simp
      · simp; omega

set_option maxHeartbeats 2000000 in
set_option maxRecDepth 100000 in
theorem dictReads_str (w : World) (a : Option Addr) (c : Nat) (b : List (List UInt8)) (hm : b.length ≤ maxLen) (hx : ∀ x ∈ b, x.length ≤ maxLen) (hu : Txts w w.heap.size a b)
    (a' : Option Addr) (c' : Nat) (cs : List Nat) (hm' : cs.length ≤ maxLen) (hx' : ∀ x ∈ cs, x < 18446744073709551616) (hu' : Nums w w.heap.size a' cs)
    (s lo hi : List UInt8) (hs : s.length ≤ maxLen) (hlo : lo.length ≤ maxLen) (hhi : hi.length ≤ maxLen) :
    Calls Try.prog 4 #[.slice a b.length c, .slice a' cs.length c', .string (str s), .string (str lo), .string (str hi)] w (BoolPost true w) := by
  have htx := dtexts_any a c b a' c' cs w hx' hu hu'
  have hfd := fun W h => dfind_any a c b s W h
  have hsp := fun W h => dspan_any a c b lo hi W h
  have hrt := fun W h h' => rtexts_any a c b a' c' cs W hm hm' hx' h h'
  have hck := fun W h => rcheck_any a c b W hm h
  have hsl := textsR_len b cs
  unfold maxLen at hm'
  have HTX := Lib.hid htx
  have HRT := Lib.hid hrt
  have HCK := Lib.hid hck
  have HSM := Lib.hid (fun W a1 c1 a2 c2 h1 h2 => show Calls Try.prog 13 #[.slice a1 (textsR b cs).1.length c1, .slice a2 (textsR b cs).1.length c2] W (BoolPost true W) by
    have := tsame_any a1 a2 c1 c2 (textsR b cs).1 (textsR b cs).1 W W.heap.size h1 h2 (by omega)
    rw [decide_eq_true rfl] at this
    exact this)
  by_cases hr : bookR b ≠ 0
  · have e1 : findR b s = (0, false, bookR b) := by unfold findR; rw [if_pos hr]
    have e2 : spanR b lo hi = (0, 0, bookR b) := by unfold spanR; rw [if_pos hr]
    have e3 : textsR b cs = ([], bookR b) := by unfold textsR; rw [if_pos hr]
    rw [e1] at hfd
    rw [e2] at hsp
    rw [e3] at HTX HRT HSM
    have HFD := Lib.hid hfd
    have HSP := Lib.hid hsp
    generalize bookR b = er at *
    have g1 : ((er : Int) != 0) = true := by rw [bne_iff_ne]; omega
    generalize str s = S at *
    generalize str lo = LO at *
    generalize str hi = HI at *
    clear htx hfd hsp hrt hck hx hx' hs hlo hhi hr hsl e1 e2 e3
    go_enter Try.func4, Try.ntmps4
    go_wp2_with fail
    refine (HTX.out).mono ?_
    rintro e w1 ⟨a1, c1, rfl, t1, hb1⟩
    go_wp2_with fail
    refine (HFD.out _ (hu.next hb1)).mono ?_
    rintro e w2 ⟨rfl, hb2⟩
    have h2 := below_then hb1 hb2
    go_wp2_with fail
    refine (HSP.out _ (hu.next h2)).mono ?_
    rintro e w3 ⟨rfl, hb3⟩
    have h3 := below_then h2 hb3
    go_wp2_with fail
    refine (HRT.out _ (hu.next h3) (hu'.next h3)).mono ?_
    rintro e w4 ⟨a4, c4, rfl, t4, hb4⟩
    have h4 := below_then h3 hb4
    go_wp2_with fail
    refine (HCK.out _ (hu.next h4)).mono ?_
    rintro e w5 ⟨rfl, d, rfl⟩
    have hb5 : Below w4.heap.size w4 (w4.drewN d) := below_drewN (Below.refl _ _) _
    have h5 := below_then h4 hb5
    go_wp2_with fail
    refine (tbegun_any _).mono ?_
    rintro e w6 ⟨rfl, hb6⟩
    have h6 := below_then h5 hb6
    go_wp2_with fail
    refine (HSM.out _ _ _ _ _ (t1.next (below_then (below_then (below_then (below_then hb2 hb3) hb4) hb5) hb6)) (t4.next (below_then hb5 hb6))).mono ?_
    rintro e w7 ⟨rfl, hb7⟩
    have h7 := below_then h6 hb7
    go_wp2_with fail
    go_ret
    exact ⟨rfl, h7⟩
  have hr0 : bookR b = 0 := by omega
  obtain ⟨hbl, hup⟩ := bookR_len hr0
  have e1 : findR b s = (T.plc b s, decide (T.plc b s < T.plA b s), 0) := by unfold findR; rw [if_neg hr, find_has s hup]
  have e2 : spanR b lo hi = (T.plc b lo, max (T.plc b lo) (T.plA b hi), 0) := by unfold spanR; rw [if_neg hr]
  rw [e1] at hfd
  rw [e2] at hsp
  rw [hr0] at HCK
  have hx1 : ∀ x ∈ b, x.length ≤ maxLen := hx
  have HB1 := Lib.hid (fun W h => show Calls Try.prog 21 #[.slice a b.length c, .string (str lo), .bool false] W (fun e w' => e = .returned (.int .i64 (T.plc b lo : Nat)) ∧ Below W.heap.size W w') by
    have := rbelow_any a c b lo false W hbl hlo hx h; rw [count_lt lo hup] at this; exact this)
  have HB2 := Lib.hid (fun W h => show Calls Try.prog 21 #[.slice a b.length c, .string (str hi), .bool true] W (fun e w' => e = .returned (.int .i64 (T.plA b hi : Nat)) ∧ Below W.heap.size W w') by
    have := rbelow_any a c b hi true W hbl hhi hx h; rw [count_le hi hup] at this; exact this)
  have HB3 := Lib.hid (fun W h => show Calls Try.prog 21 #[.slice a b.length c, .string (str s), .bool false] W (fun e w' => e = .returned (.int .i64 (T.plc b s : Nat)) ∧ Below W.heap.size W w') by
    have := rbelow_any a c b s false W hbl hs hx h; rw [count_lt s hup] at this; exact this)
  have HB4 := Lib.hid (fun W h => show Calls Try.prog 21 #[.slice a b.length c, .string (str s), .bool true] W (fun e w' => e = .returned (.int .i64 (T.plA b s : Nat)) ∧ Below W.heap.size W w') by
    have := rbelow_any a c b s true W hbl hs hx h; rw [count_le s hup] at this; exact this)
  generalize T.plc b s = p at *
  generalize T.plA b s = q at *
  generalize T.plc b lo = A at *
  generalize T.plA b hi = E at *
  generalize textsR b cs = R at *
  obtain ⟨R1, R2⟩ := R
  obtain ⟨M, hM⟩ : ∃ M, M = max A E := ⟨_, rfl⟩
  rw [← hM] at hsp
  obtain ⟨d, gd⟩ : ∃ d, decide (p < q) = d := ⟨_, rfl⟩
  rw [gd] at hfd
  have HFD := Lib.hid hfd
  have HSP := Lib.hid hsp
  generalize str s = S at *
  generalize str lo = LO at *
  generalize str hi = HI at *
  clear htx hfd hsp hrt hck hx hx1 hx' hs hlo hhi hr hr0 hup e1 e2 hsl
  by_cases hEA : E < A
  · obtain rfl : M = A := by omega
    have gE : decide (E < M) = true := decide_eq_true hEA
    clear hM hEA
    cases d
    all_goals
      go_enter Try.func4, Try.ntmps4
      go_wp2_with fail
      refine (HTX.out).mono ?_
      rintro e w1 ⟨a1, c1, rfl, t1, hb1⟩
      go_wp2_with fail
      refine (HFD.out _ (hu.next hb1)).mono ?_
      rintro e w2 ⟨rfl, hb2⟩
      have h2 := below_then hb1 hb2
      go_wp2_with fail
      refine (HSP.out _ (hu.next h2)).mono ?_
      rintro e w3 ⟨rfl, hb3⟩
      have h3 := below_then h2 hb3
      go_wp2_with fail
      refine (HRT.out _ (hu.next h3) (hu'.next h3)).mono ?_
      rintro e w4 ⟨a4, c4, rfl, t4, hb4⟩
      have h4 := below_then h3 hb4
      go_wp2_with fail
      refine (HCK.out _ (hu.next h4)).mono ?_
      rintro e w5 ⟨rfl, d, rfl⟩
      have hb5 : Below w4.heap.size w4 (w4.drewN d) := below_drewN (Below.refl _ _) _
      have h5 := below_then h4 hb5
      go_wp2_with fail
      refine (tbegun_any _).mono ?_
      rintro e w6 ⟨rfl, hb6⟩
      have h6 := below_then h5 hb6
      go_wp2_with fail
      refine (HSM.out _ _ _ _ _ (t1.next (below_then (below_then (below_then (below_then hb2 hb3) hb4) hb5) hb6)) (t4.next (below_then hb5 hb6))).mono ?_
      rintro e w7 ⟨rfl, hb7⟩
      have h7 := below_then h6 hb7
      go_wp2_with fail
      refine (HB1.out _ (hu.next h7)).mono ?_
      rintro e w8 ⟨rfl, hb8⟩
      have h8 := below_then h7 hb8
      go_wp2_with fail
      refine (HB2.out _ (hu.next h8)).mono ?_
      rintro e w9 ⟨rfl, hb9⟩
      have h9 := below_then h8 hb9
      go_wp2_with fail
      refine (HB3.out _ (hu.next h9)).mono ?_
      rintro e w10 ⟨rfl, hb10⟩
      have h10 := below_then h9 hb10
      go_wp2_with fail
      refine (HB4.out _ (hu.next h10)).mono ?_
      rintro e w11 ⟨rfl, hb11⟩
      have h11 := below_then h10 hb11
      go_wp2_with fail
      go_ret
      exact ⟨rfl, h11⟩
  · obtain rfl : M = E := by omega
    have gE : decide (M < A) = false := decide_eq_false hEA
    clear hM hEA
    cases d
    all_goals
      go_enter Try.func4, Try.ntmps4
      go_wp2_with fail
      refine (HTX.out).mono ?_
      rintro e w1 ⟨a1, c1, rfl, t1, hb1⟩
      go_wp2_with fail
      refine (HFD.out _ (hu.next hb1)).mono ?_
      rintro e w2 ⟨rfl, hb2⟩
      have h2 := below_then hb1 hb2
      go_wp2_with fail
      refine (HSP.out _ (hu.next h2)).mono ?_
      rintro e w3 ⟨rfl, hb3⟩
      have h3 := below_then h2 hb3
      go_wp2_with fail
      refine (HRT.out _ (hu.next h3) (hu'.next h3)).mono ?_
      rintro e w4 ⟨a4, c4, rfl, t4, hb4⟩
      have h4 := below_then h3 hb4
      go_wp2_with fail
      refine (HCK.out _ (hu.next h4)).mono ?_
      rintro e w5 ⟨rfl, d, rfl⟩
      have hb5 : Below w4.heap.size w4 (w4.drewN d) := below_drewN (Below.refl _ _) _
      have h5 := below_then h4 hb5
      go_wp2_with fail
      refine (tbegun_any _).mono ?_
      rintro e w6 ⟨rfl, hb6⟩
      have h6 := below_then h5 hb6
      go_wp2_with fail
      refine (HSM.out _ _ _ _ _ (t1.next (below_then (below_then (below_then (below_then hb2 hb3) hb4) hb5) hb6)) (t4.next (below_then hb5 hb6))).mono ?_
      rintro e w7 ⟨rfl, hb7⟩
      have h7 := below_then h6 hb7
      go_wp2_with fail
      refine (HB1.out _ (hu.next h7)).mono ?_
      rintro e w8 ⟨rfl, hb8⟩
      have h8 := below_then h7 hb8
      go_wp2_with fail
      refine (HB2.out _ (hu.next h8)).mono ?_
      rintro e w9 ⟨rfl, hb9⟩
      have h9 := below_then h8 hb9
      go_wp2_with fail
      refine (HB3.out _ (hu.next h9)).mono ?_
      rintro e w10 ⟨rfl, hb10⟩
      have h10 := below_then h9 hb10
      go_wp2_with fail
      refine (HB4.out _ (hu.next h10)).mono ?_
      rintro e w11 ⟨rfl, hb11⟩
      have h11 := below_then h10 hb11
      go_wp2_with fail
      go_ret
      exact ⟨rfl, h11⟩

theorem dictReads_walk (w : World) (a : Option Addr) (c : Nat) (b : List (List UInt8)) (hm : b.length ≤ maxLen) (hcap : b.length ≤ c ∧ c ≤ maxLen ∧ (a = none → c = 0)) (hx : ∀ x ∈ b, x.length ≤ maxLen) (hu : Txts w w.heap.size a b)
    (a' : Option Addr) (c' : Nat) (cs : List Nat) (hm' : cs.length ≤ maxLen) (hcap' : cs.length ≤ c' ∧ c' ≤ maxLen ∧ (a' = none → c' = 0)) (hx' : ∀ x ∈ cs, x < 18446744073709551616) (hu' : Nums w w.heap.size a' cs)
    (s : ByteArray) (hs : s.size ≤ maxLen) (lo : ByteArray) (hlo : lo.size ≤ maxLen) (hi : ByteArray) (hhi : hi.size ≤ maxLen) :
    Calls Try.prog 4 #[.slice a b.length c, .slice a' cs.length c', .string s, .string lo, .string hi] w (BoolPost true w) := by
  have h := dictReads_str w a c b hm hx hu a' c' cs hm' hx' hu' s.data.toList lo.data.toList hi.data.toList (by rw [← str_size, str_eta]; exact hs) (by rw [← str_size, str_eta]; exact hlo) (by rw [← str_size, str_eta]; exact hhi)
  rw [str_eta, str_eta, str_eta] at h
  exact h
end Go.Proofs.Ytdabpnpiojmbbaa
