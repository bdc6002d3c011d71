/- The walk of front.Read. -/
import Derived.Test.YtplhlnlonjlcaaaFW5
import Derived.Test.YtplhlnlonjlcaaaTPut
namespace Go.Proofs.Ytplhlnlonjlcaaa
open Go.RowKit
set_option linter.unusedVariables false

theorem next_bd (s last : List UInt8) (hl : last.length ≤ 16) : (nextR s last).1.length ≤ 16 ∧ (nextR s last).2.1.length ≤ s.length ∧ (nextR s last).2.2 ≤ 5 := by
  obtain ⟨h1, h2, h3, h4⟩ := told_bd s
  unfold nextR
  generalize toldR s = T at *
  by_cases g0 : T.2.2 ≠ 0
  · rw [if_pos g0]; simp; omega
  rw [if_neg g0]
  by_cases g1 : last.length < T.1.1
  · rw [if_pos g1]; simp
  rw [if_neg g1]
  by_cases g2 : 16 - T.1.1 < T.1.2
  · rw [if_pos g2]; simp
  rw [if_neg g2]
  by_cases g3 : T.2.1.length < T.1.2
  · rw [if_pos g3]; simp
  rw [if_neg g3]
  by_cases g4 : T.1.1 < F.sh last (last.take T.1.1 ++ T.2.1.take T.1.2)
  · rw [if_pos g4]; simp
  rw [if_neg g4]
  refine ⟨?_, ?_, by simp⟩
  · simp only [List.length_append, List.length_take]; omega
  · simp only [List.length_drop]; omega

theorem fr_next (k : Nat) (last s : List UInt8) (hl : last.length ≤ 16) :
    F.fr (k + 1) last s = if (nextR s last).2.2 ≠ 0 then ([], (nextR s last).2.2)
      else if (F.fr k (nextR s last).1 (nextR s last).2.1).2 ≠ 0 then ([], (F.fr k (nextR s last).1 (nextR s last).2.1).2)
      else ((nextR s last).1 :: (F.fr k (nextR s last).1 (nextR s last).2.1).1, 0) := by
  rw [F.fr]
  unfold nextR toldR
  obtain ⟨n, a, e, h⟩ : ∃ n a e, V.rd s = (n, a, e) := ⟨_, _, _, rfl⟩
  simp only [h]
  by_cases he : e ≠ 0
  · simp [he]
  simp only [he, if_false]
  obtain ⟨m, b, f, h2⟩ : ∃ m b f, V.rd (s.drop a) = (m, b, f) := ⟨_, _, _, rfl⟩
  simp only [h2]
  by_cases hf : f ≠ 0
  · simp [hf]
  simp only [hf, if_false]
  have e0 : ((0 : Nat) ≠ 0) = False := by simp
  simp only [e0, if_false, List.drop_drop]
  by_cases h3 : last.length < n
  · simp [h3]
  simp only [h3, if_false]
  by_cases h4 : 16 < n + m
  · have h4' : 16 - n < m := by omega
    simp [h4, h4']
  have h4' : ¬ 16 - n < m := by omega
  simp only [h4, h4', if_false]
  by_cases h5 : (s.drop (a + b)).length < m
  · simp only [h5, if_true]; simp
  simp only [h5, if_false]
  have hge : n ≤ F.sh last (last.take n ++ (s.drop (a + b)).take m) := by
    refine F.sh_ge n _ _ (by omega) (by rw [List.length_append, List.length_take]; omega) ?_
    rw [List.take_append_of_le_length (by rw [List.length_take]; omega), List.take_take, Nat.min_self]
  by_cases h6 : F.sh last (last.take n ++ (s.drop (a + b)).take m) ≠ n
  · have h6' : n < F.sh last (last.take n ++ (s.drop (a + b)).take m) := by omega
    simp only [h6, h6', ne_eq, not_false_eq_true, if_true]; simp
  have h6' : ¬ n < F.sh last (last.take n ++ (s.drop (a + b)).take m) := by omega
  simp only [h6, h6', if_false]
  simp

def glue (acc : List (List UInt8)) (y : List (List UInt8) × Nat) : List (List UInt8) × Nat := if y.2 ≠ 0 then ([], y.2) else (acc ++ y.1, 0)
theorem glue_nil (k : Nat) (last s : List UInt8) : glue [] (F.fr k last s) = F.fr k last s := by
  unfold glue
  by_cases h : (F.fr k last s).2 ≠ 0
  · rw [if_pos h, ← F.fr_err k last s h]
  · rw [if_neg h, List.nil_append]
    have : (F.fr k last s).2 = 0 := by omega
    rw [← this]
theorem glue_bad (acc : List (List UInt8)) (k : Nat) (last s : List UInt8) (hl : last.length ≤ 16) (h : (nextR s last).2.2 ≠ 0) : glue acc (F.fr (k + 1) last s) = ([], (nextR s last).2.2) := by
  rw [fr_next k last s hl, if_pos h]; unfold glue; rw [if_pos h]
theorem glue_on (acc : List (List UInt8)) (k : Nat) (last s : List UInt8) (hl : last.length ≤ 16) (h : (nextR s last).2.2 = 0) :
    glue acc (F.fr (k + 1) last s) = glue (acc ++ [(nextR s last).1]) (F.fr k (nextR s last).1 (nextR s last).2.1) := by
  rw [fr_next k last s hl, if_neg (by omega)]
  unfold glue
  by_cases h2 : (F.fr k (nextR s last).1 (nextR s last).2.1).2 ≠ 0
  · rw [if_pos h2, if_pos h2, if_pos h2]
  · rw [if_neg h2, if_neg h2, if_neg (by simp)]; simp
theorem glue_end (acc : List (List UInt8)) (last s : List UInt8) : glue acc (F.fr 0 last s) = if s = [] then (acc, 0) else ([], 1) := by
  rw [F.fr]; unfold glue
  by_cases h : s = []
  · simp [h]
  · simp [h]

/-- what Read answers -/
def freadR (s : List UInt8) (many : Int) : List (List UInt8) × Nat := if many < 0 then ([], 3) else if 64 < many then ([], 2) else F.fr many.toNat [] s

theorem fill_step (acc : List (List UInt8)) (t : List UInt8) (n : Nat) (h : acc.length < n) : (acc ++ List.replicate (n - acc.length) []).set acc.length t = (acc ++ [t]) ++ List.replicate (n - (acc ++ [t]).length) [] := by
  rw [List.set_append_right _ _ (by omega), Nat.sub_self, show n - acc.length = (n - (acc.length + 1)) + 1 by omega, List.replicate_succ, List.set_cons_zero, List.append_assoc]
  simp

set_option maxHeartbeats 1000000 in
set_option maxRecDepth 100000 in
theorem fread_ok (s : List UInt8) (n : Nat) (w : World) (hs : s.length ≤ maxLen) (hn : n ≤ 64) :
    Calls Try.prog 16 #[.string (str s), .int .i64 (n : Int)] w (TextsPost (F.fr n [] s) w) := by
  obtain ⟨i0, hi, hz0, hz1, hz2⟩ := info_parts info_str
  unfold maxLen at hs
  have H0 := Lib.hid (show F.fr n [] s = glue [] (F.fr (n - ([] : List (List UInt8)).length) [] s) by rw [glue_nil]; rfl)
  obtain ⟨R, hR⟩ : ∃ R, R = F.fr n [] s := ⟨_, rfl⟩
  rw [← hR] at H0 ⊢
  clear hR
  have g1 : decide ((64 : Int) < (n : Int)) = false := decide_eq_false (by omega)
  have g2 : decide ((n : Int) < 0) = false := decide_eq_false (by omega)
  go_enter Try.func16, Try.ntmps16
  go_wp2_with (at_make; refine wpList_make_full _ rfl _ _ 22 rfl w.heap.size 9 i0 (.string ByteArray.empty) 1 Try.underlying22 hi hz0 hz1 .i64 .i64 _ _ n rfl rfl rfl rfl (by rw [hz2]; omega) (by unfold maxLen; omega) (Nat.le_refl _) ?_; intro w0 hown0 hgrow0)
  have hb0 : Below w.heap.size w w0 := (Below.refl _ _).grown hgrow0 (Nat.le_refl _) (fun k hk => by cases hk)
  have hrow := made_trow hown0
  obtain ⟨g, hg⟩ : ∃ g, g = w.heap.size := ⟨_, rfl⟩
  have hgl : w.heap.size ≤ g := by omega
  rw [← hg] at hrow ⊢
  have hrow' : TRow w.heap.size (List.replicate n []) (.slice (some ⟨g, 0, none⟩) n n) w0 := by rw [← hg]; exact hrow
  clear hown0 hgrow0 hrow hg
  go_loopw [0, 7, 8, 9, 10, 11, 20] (fun t b _ _ _ _ i wr => ∃ (acc : List (List UInt8)) (last r : List UInt8), acc.length ≤ n ∧ i = .int .i64 (acc.length : Nat) ∧ t = .string (str r) ∧ b = .string (str last) ∧ last.length ≤ 16 ∧ r.length ≤ 9223372036854775807 ∧ TRow w.heap.size (acc ++ List.replicate (n - acc.length) []) (.slice (some ⟨g, 0, none⟩) n n) wr ∧ Below w.heap.size w wr ∧ Hid (R = glue acc (F.fr (n - acc.length) last r))) (fun _ _ _ _ _ _ i _ => n - (intOf i).toNat)
  case atStart => exact ⟨[], [], s, by simp, rfl, rfl, rfl, by simp, by omega, hrow', hb0, H0⟩
  case round =>
    obtain ⟨acc, last, r, hj, rfl, rfl, rfl, hl, hr, hrw, hbw, HJ⟩ := hrel
    clear hrow' hb0
    obtain ⟨j, hj2⟩ : ∃ j, j = acc.length := ⟨_, rfl⟩
    rw [← hj2] at hj HJ hrw ⊢
    have HJ2 := Lib.hid hj2
    clear hj2
    by_cases hlt : j < n
    · have hnx := next_any r last wr (by unfold maxLen; omega) hl
      obtain ⟨b1, b2, b3⟩ := next_bd r last hl
      have HGB := Lib.hid (glue_bad acc (n - (j + 1)) last r hl)
      have HGO := Lib.hid (glue_on acc (n - (j + 1)) last r hl)
      rw [show n - (j + 1) + 1 = n - j by omega] at HGB HGO
      unfold NextPost at hnx
      obtain ⟨t, q, e, he⟩ : ∃ t q e, nextR r last = (t, q, e) := ⟨_, _, _, rfl⟩
      rw [he] at hnx b1 b2 b3 HGB HGO
      simp only at hnx b1 b2 b3 HGB HGO
      have HN := Lib.hid hnx
      have HFS := Lib.hid (show (acc ++ List.replicate (n - j) []).set j t = (acc ++ [t]) ++ List.replicate (n - (acc ++ [t]).length) [] by have h2 := HJ2.out; rw [h2]; exact fill_step acc t n (by omega))
      have HL2 := Lib.hid (show (acc ++ [t]).length = j + 1 by have h2 := HJ2.out; rw [h2]; simp)
      have hjI : (j : Int) < (n : Int) := by omega
      clear hnx he
      by_cases h0 : e = 0
      · subst h0
        have HRN := Lib.hid (show R = glue (acc ++ [t]) (F.fr (n - (j + 1)) t q) by rw [HJ.out]; exact HGO.out rfl)
        clear HGB HGO HJ
        go_wp2_with fail
        refine (HN.out).mono ?_
        rintro e2 w1 ⟨rfl, hb1⟩
        have hrw1 := hrw.below hb1
        have c1 := hrw1.cell j (by rw [List.length_append, List.length_replicate]; have := HJ2.out; omega)
        have f1 := hrw1.free j
        have hrw2 := hrw1.put j t
        rw [HFS.out] at hrw2
        have hbw2 : Below w.heap.size w (w1.setCell ⟨g, j, none⟩ (.string (str t))) := (below_then hbw hb1).setCell (p := ⟨g, j, none⟩) hgl _
        generalize (acc ++ List.replicate (n - j) []).getD j [] = old at *
        have HRW := Lib.hid hrw2
        clear hrw hrw1 hrw2
        go_wp2_with fail
        exact ⟨⟨acc ++ [t], t, q, by rw [HL2.out]; omega, by rw [HL2.out]; go_num, rfl, rfl, b1, by omega, HRW.out, hbw2, Lib.hid (by rw [HL2.out]; exact HRN.out)⟩, by simp [intOf]; omega⟩
      · have HRN := Lib.hid (show R = ([], e) by rw [HJ.out]; exact HGB.out h0)
        have g3 : ((e : Int) != 0) = true := by rw [bne_iff_ne]; omega
        clear HGB HGO HJ
        go_wp2_with fail
        refine (HN.out).mono ?_
        rintro e2 w1 ⟨rfl, hb1⟩
        go_wp2_with fail
        go_ret2
        rw [HRN.out]
        exact TextsPost.none _ (below_then hbw hb1)
    · obtain rfl : j = n := by omega
      rw [Nat.sub_self, glue_end] at HJ
      rw [Nat.sub_self, List.replicate_zero, List.append_nil] at hrw
      have hsr := str_size r
      by_cases hr0 : r = []
      · subst hr0
        have HRN := Lib.hid (show R = (acc, 0) by rw [HJ.out, if_pos rfl])
        obtain ⟨htx, hnl⟩ := hrw.txts
        have hne : (str []).toList.isEmpty = true := by rw [str_toList]; rfl
        clear HJ hrw
        go_wp2_with fail
        go_ret2
        rw [HRN.out]
        exact ⟨_, _, by simp only; rw [← HJ2.out]; rfl, htx, hbw⟩
      · have HRN := Lib.hid (show R = ([], 1) by rw [HJ.out, if_neg hr0])
        have hne : (str r).toList.isEmpty = false := by
          rw [str_toList]
          cases r with
          | nil => exact absurd rfl hr0
          | cons x t => rfl
        generalize str r = S at *
        clear HJ hrw
        go_wp2_with fail
        go_ret2
        rw [HRN.out]
        exact TextsPost.none 1 hbw

set_option maxHeartbeats 400000 in
theorem fread_low (s : ByteArray) (n : Int) (w : World) (hn : n < 0) :
    Calls Try.prog 16 #[.string s, .int .i64 n] w (TextsPost ([], 3) w) := by
  go_enter Try.func16, Try.ntmps16
  go_wp2_with fail
  go_ret2
  exact TextsPost.none 3 (Below.refl _ _)
set_option maxHeartbeats 400000 in
theorem fread_high (s : ByteArray) (n : Int) (w : World) (h0 : ¬ n < 0) (hn : 64 < n) :
    Calls Try.prog 16 #[.string s, .int .i64 n] w (TextsPost ([], 2) w) := by
  go_enter Try.func16, Try.ntmps16
  go_wp2_with fail
  go_ret2
  exact TextsPost.none 2 (Below.refl _ _)

theorem fread_any (s : List UInt8) (n : Int) (w : World) (hs : s.length ≤ maxLen) :
    Calls Try.prog 16 #[.string (str s), .int .i64 n] w (TextsPost (freadR s n) w) := by
  unfold freadR
  by_cases h0 : n < 0
  · rw [if_pos h0]; exact fread_low _ n w h0
  rw [if_neg h0]
  by_cases h1 : 64 < n
  · rw [if_pos h1]; exact fread_high _ n w h0 h1
  rw [if_neg h1]
  have := fread_ok s n.toNat w hs (by omega)
  rwa [show ((n.toNat : Nat) : Int) = n by omega] at this
end Go.Proofs.Ytplhlnlonjlcaaa
