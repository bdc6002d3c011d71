/- The law RunsReads. -/
import Derived.Test.YthmlafoceacliabRL0
import Derived.Test.YthmlafoceacliabRX
namespace Go.Proofs.Ythmlafoceacliab
open Go.RowKit
set_option linter.unusedVariables false

theorem joined_ex (l m : List R.Run) (h1 : R.chk l = 0) (h2 : R.chk m = 0) : joinedR l m = if 64 < (R.ex l ++ R.ex m).length then ([], 2) else (R.rle (R.ex l ++ R.ex m), 0) := by
  have e1 := (R.chk_ex_length l h1).1
  have e2 := (R.chk_ex_length m h2).1
  have p1 := (R.chk_facts l h1).2.2
  have p2 := (R.chk_facts m h2).2.2
  rw [joinedR, if_neg (by omega), if_neg (by omega)]
  by_cases h : 64 < (R.ex l ++ R.ex m).length
  · rw [if_pos h, if_pos (by rw [List.length_append] at h; omega)]
  · rw [if_neg h, if_neg (by rw [List.length_append] at h; omega), R.join_ex _ (by intro p hp; rcases List.mem_append.1 hp with h | h; exact (p1 p h).1; exact (p2 p h).1), R.ex_append]

set_option maxHeartbeats 1000000 in
set_option maxRecDepth 100000 in
theorem reads_bad (w : World) (a : Option Addr) (c : Nat) (l : List R.Run) (hl : l.length ≤ maxLen) (hu : Runs w w.heap.size a l)
    (b : Option Addr) (d : Nat) (m : List R.Run) (hm : m.length ≤ maxLen) (hv : Runs w w.heap.size b m) (p : Int) (hp : -9223372036854775808 ≤ p ∧ p ≤ 9223372036854775807) (hc : R.chk l ≠ 0) :
    Calls Try.prog 4 #[.slice a l.length c, .slice b m.length d, .int .i64 p] w (BoolPost true w) := by
  have h1 := expand_bad a c l w hl hu hc
  have h2 := fun w' (hb : Below w.heap.size w w') => at_any a c l p w' hl (hu.next hb) hp.2
  have h3 := fun w' (hb : Below w.heap.size w w') => joined_any a b c d l m w' hl hm (hu.next hb) (hv.next hb)
  have h4 := fun w' (hb : Below w.heap.size w w') => rcheck_any a c l w' _ hl (hu.next hb)
  rw [atR, if_pos hc] at h2
  rw [joinedR, if_pos hc] at h3
  generalize R.chk l = k at *
  have H1 := Lib.hid h1
  have H2 := Lib.hid h2
  have H3 := Lib.hid h3
  have H4 := Lib.hid h4
  have g1 : ((k : Int) != 0) = true := by rw [bne_iff_ne]; omega
  clear h1 h2 h3 h4 hc
  go_enter Try.func4, Try.ntmps4
  go_wp2_with fail
  refine (H1.out).mono ?_
  rintro e w1 ⟨a1, c1, rfl, hr1, hb1⟩
  go_wp2_with fail
  refine (H2.out w1 hb1).mono ?_
  rintro e w2 ⟨rfl, hb2⟩
  replace hb2 := below_then hb1 hb2
  go_wp2_with fail
  refine (H3.out w2 hb2).mono ?_
  rintro e w3 ⟨a3, c3, rfl, hr3, hb3⟩
  replace hb3 := below_then hb2 hb3
  go_wp2_with fail
  refine (H4.out w3 hb3).mono ?_
  rintro e w4 ⟨rfl, hb4⟩
  replace hb4 := below_then hb3 hb4
  go_wp2_with fail
  refine (rubegun_any _).mono ?_
  rintro e w5 ⟨rfl, hb5⟩
  replace hb5 := below_then hb4 hb5
  go_wp2_with fail
  go_ret
  exact ⟨by simp, hb5⟩

set_option maxHeartbeats 2000000 in
set_option maxRecDepth 100000 in
theorem reads_A1 (w : World) (a : Option Addr) (c : Nat) (l : List R.Run) (hl : l.length ≤ maxLen) (hu : Runs w w.heap.size a l) (hx : ∀ x ∈ l, x.1 < 18446744073709551616)
    (b : Option Addr) (d : Nat) (m : List R.Run) (hm : m.length ≤ maxLen) (hv : Runs w w.heap.size b m) (hx2 : ∀ x ∈ m, x.1 < 18446744073709551616) (h1c : R.chk l = 0) (p : Int) (hp : -9223372036854775808 ≤ p ∧ p < 0) (h2c : R.chk m ≠ 0) :
    Calls Try.prog 4 #[.slice a l.length c, .slice b m.length d, .int .i64 p] w (BoolPost true w) := by
  have h64 := (R.chk_ex_length l h1c).2
  have h1 := expand_any a c l w hl hu
  have h2 := fun w' (hb : Below w.heap.size w w') => at_any a c l p w' hl (hu.next hb) (by omega)
  have h3 := fun w' (hb : Below w.heap.size w w') => joined_any a b c d l m w' hl hm (hu.next hb) (hv.next hb)
  have h4 := fun w' (hb : Below w.heap.size w w') => rcheck_any a c l w' _ hl (hu.next hb)
  have h5 := fun w' (hb : Below w.heap.size w w') => expanded2_any a c l w' hl h64 hx (fun p hp => by have := (R.chk_facts l h1c).2.2 p hp; omega) (hu.next hb)
  have h6 := fun w' (hb : Below w.heap.size w w') => rcheck_any b d m w' _ hm (hv.next hb)
  have hsn : ∀ a b c d w, Nums w w.heap.size a (R.ex l) → Nums w w.heap.size b (R.ex l) → Calls Try.prog 18 #[.slice a (R.ex l).length c, .slice b (R.ex l).length d] w (BoolPost true w) := fun a b c d w h h2 => by
    have h := same_any a b c d _ _ w _ h h2 (by omega)
    rw [decide_eq_true rfl] at h; exact h
  rw [expR, if_pos h1c] at h1
  rw [h1c] at h4
  rw [atR, if_neg (by simp [h1c]), if_pos (Or.inl hp.2)] at h2
  have g1 : decide (p < 0) = true := by simp; omega
  rw [joinedR, if_neg (by simp [h1c]), if_pos h2c] at h3
  generalize R.chk m = k at *
  have g2 : ((k : Int) != 0) = true := by rw [bne_iff_ne]; omega
  generalize R.ex l = y at *
  have H1 := Lib.hid h1
  have H2 := Lib.hid h2
  have H3 := Lib.hid h3
  have H4 := Lib.hid h4
  have H5 := Lib.hid h5
  have H6 := Lib.hid h6
  have HSN := Lib.hid hsn
  clear h1 h2 h3 h4 h5 h6 hsn h1c h2c hx hx2 hu hv
  unfold maxLen at hl hm
  go_enter Try.func4, Try.ntmps4
  go_wp2_with fail
  refine (H1.out).mono ?_
  rintro e w1 ⟨a1, c1, rfl, hr1, hb1⟩
  go_wp2_with fail
  refine (H2.out w1 hb1).mono ?_
  rintro e w2 ⟨rfl, hb2⟩
  replace hr1 := hr1.next hb2
  replace hb2 := below_then hb1 hb2
  go_wp2_with fail
  refine (H3.out w2 hb2).mono ?_
  rintro e w3 ⟨a3, c3, rfl, hr3, hb3⟩
  replace hr1 := hr1.next hb3
  replace hb3 := below_then hb2 hb3
  go_wp2_with fail
  refine (H4.out w3 hb3).mono ?_
  rintro e w4 ⟨rfl, hb4⟩
  replace hr1 := hr1.next hb4
  replace hr3 := hr3.next hb4
  replace hb4 := below_then hb3 hb4
  go_wp2_with fail
  refine (rubegun_any _).mono ?_
  rintro e w5 ⟨rfl, hb5⟩
  replace hr1 := hr1.next hb5
  replace hr3 := hr3.next hb5
  replace hb5 := below_then hb4 hb5
  go_wp2_with fail
  refine (H5.out w5 hb5).mono ?_
  rintro e w6 ⟨a6, c6, rfl, hr6, hnl6, hb6⟩
  replace hr1 := hr1.next hb6
  replace hr3 := hr3.next hb6
  replace hb6 := below_then hb5 hb6
  clear hb1 hb2 hb3 hb4 hb5
  have HNL6 := Lib.hid hnl6
  clear hnl6
  go_wp2_with fail
  refine (H6.out w6 hb6).mono ?_
  rintro e w7 ⟨rfl, hb7⟩
  replace hr1 := hr1.next hb7
  replace hr3 := hr3.next hb7
  replace hr6 := hr6.next hb7
  replace hb7 := below_then hb6 hb7
  clear hb6
  go_wp2_with fail
  refine (HSN.out _ _ _ _ w7 hr1 hr6).mono ?_
  rintro e w8 ⟨rfl, hb8⟩
  go_wp2_with fail
  go_ret
  exact ⟨by simp, below_then hb7 hb8⟩

set_option maxHeartbeats 2000000 in
set_option maxRecDepth 100000 in
theorem reads_A2 (w : World) (a : Option Addr) (c : Nat) (l : List R.Run) (hl : l.length ≤ maxLen) (hu : Runs w w.heap.size a l) (hx : ∀ x ∈ l, x.1 < 18446744073709551616)
    (b : Option Addr) (d : Nat) (m : List R.Run) (hm : m.length ≤ maxLen) (hv : Runs w w.heap.size b m) (hx2 : ∀ x ∈ m, x.1 < 18446744073709551616) (h1c : R.chk l = 0) (p : Int) (hp : -9223372036854775808 ≤ p ∧ p < 0) (h2c : R.chk m = 0) (h2s : 64 < (R.ex l ++ R.ex m).length) :
    Calls Try.prog 4 #[.slice a l.length c, .slice b m.length d, .int .i64 p] w (BoolPost true w) := by
  have h64 := (R.chk_ex_length l h1c).2
  have h1 := expand_any a c l w hl hu
  have h2 := fun w' (hb : Below w.heap.size w w') => at_any a c l p w' hl (hu.next hb) (by omega)
  have h3 := fun w' (hb : Below w.heap.size w w') => joined_any a b c d l m w' hl hm (hu.next hb) (hv.next hb)
  have h4 := fun w' (hb : Below w.heap.size w w') => rcheck_any a c l w' _ hl (hu.next hb)
  have h5 := fun w' (hb : Below w.heap.size w w') => expanded2_any a c l w' hl h64 hx (fun p hp => by have := (R.chk_facts l h1c).2.2 p hp; omega) (hu.next hb)
  have h6 := fun w' (hb : Below w.heap.size w w') => rcheck_any b d m w' _ hm (hv.next hb)
  have hsn : ∀ a b c d w, Nums w w.heap.size a (R.ex l) → Nums w w.heap.size b (R.ex l) → Calls Try.prog 18 #[.slice a (R.ex l).length c, .slice b (R.ex l).length d] w (BoolPost true w) := fun a b c d w h h2 => by
    have h := same_any a b c d _ _ w _ h h2 (by omega)
    rw [decide_eq_true rfl] at h; exact h
  rw [expR, if_pos h1c] at h1
  rw [h1c] at h4
  rw [atR, if_neg (by simp [h1c]), if_pos (Or.inl hp.2)] at h2
  have g1 : decide (p < 0) = true := by simp; omega
  have h64m := (R.chk_ex_length m h2c).2
  have h7 := fun w' (hb : Below w.heap.size w w') => expanded2_any b d m w' hm h64m hx2 (fun p hp => by have := (R.chk_facts m h2c).2.2 p hp; omega) (hv.next hb)
  rw [joined_ex l m h1c h2c, if_pos h2s] at h3
  rw [h2c] at h6
  generalize R.ex l = y at *
  generalize R.ex m = z at *
  rw [List.length_append] at h2s
  have H7 := Lib.hid h7
  have g3 : decide ((64 : Int) < (y.length : Int) + (z.length : Int)) = true := by simp; omega
  have g3' : decide (64 < y.length + z.length) = true := by simp; omega
  have H1 := Lib.hid h1
  have H2 := Lib.hid h2
  have H3 := Lib.hid h3
  have H4 := Lib.hid h4
  have H5 := Lib.hid h5
  have H6 := Lib.hid h6
  have HSN := Lib.hid hsn
  clear h1 h2 h3 h4 h5 h6 hsn h1c h2c hx hx2 hu hv h7
  unfold maxLen at hl hm
  go_enter Try.func4, Try.ntmps4
  go_wp2_with fail
  refine (H1.out).mono ?_
  rintro e w1 ⟨a1, c1, rfl, hr1, hb1⟩
  go_wp2_with fail
  refine (H2.out w1 hb1).mono ?_
  rintro e w2 ⟨rfl, hb2⟩
  replace hr1 := hr1.next hb2
  replace hb2 := below_then hb1 hb2
  go_wp2_with fail
  refine (H3.out w2 hb2).mono ?_
  rintro e w3 ⟨a3, c3, rfl, hr3, hb3⟩
  replace hr1 := hr1.next hb3
  replace hb3 := below_then hb2 hb3
  go_wp2_with fail
  refine (H4.out w3 hb3).mono ?_
  rintro e w4 ⟨rfl, hb4⟩
  replace hr1 := hr1.next hb4
  replace hr3 := hr3.next hb4
  replace hb4 := below_then hb3 hb4
  go_wp2_with fail
  refine (rubegun_any _).mono ?_
  rintro e w5 ⟨rfl, hb5⟩
  replace hr1 := hr1.next hb5
  replace hr3 := hr3.next hb5
  replace hb5 := below_then hb4 hb5
  go_wp2_with fail
  refine (H5.out w5 hb5).mono ?_
  rintro e w6 ⟨a6, c6, rfl, hr6, hnl6, hb6⟩
  replace hr1 := hr1.next hb6
  replace hr3 := hr3.next hb6
  replace hb6 := below_then hb5 hb6
  clear hb1 hb2 hb3 hb4 hb5
  have HNL6 := Lib.hid hnl6
  clear hnl6
  go_wp2_with fail
  refine (H6.out w6 hb6).mono ?_
  rintro e w7 ⟨rfl, hb7⟩
  replace hr1 := hr1.next hb7
  replace hr3 := hr3.next hb7
  replace hr6 := hr6.next hb7
  replace hb7 := below_then hb6 hb7
  clear hb6
  have hown0 : (w7.alloc (.cells #[] 34)).ownsRow w7.heap.size 34 1 (.slice (some ⟨w7.heap.size, 0, none⟩) 0 0) 0 [] :=
    ⟨by simp, Or.inr ⟨w7.heap.size, 0, #[], rfl, Nat.le_refl _, heap_alloc_new w7 _, Nat.le_refl _, by unfold maxLen; omega, rfl, rfl⟩⟩
  have hb8 : Below w7.heap.size w7 (w7.alloc (.cells #[] 34)) := (Below.refl _ _).alloc (Nat.le_refl _) _
  go_wp2_with (at_builtin; refine wpList_append_nums rfl (.tmp 110) (.tmp 111) rfl w7.heap.size _ 0 _ rfl hown0 _ y.length c6 y rfl rfl HNL6.out (hr6.next hb8) (by omega) (by simp) ?_)
  intro v9 w9 hown9 hg9
  have hb9 : Below w7.heap.size w7 w9 := hb8.grown hg9 (by simp) (fun k hk => (hown0.lt k hk).1)
  have hs9 : w7.heap.size ≤ w9.heap.size := hb9.size
  clear hown0 hb8 hg9
  go_wp2_with fail
  refine (H7.out w9 (below_then hb7 hb9)).mono ?_
  rintro e w10 ⟨a10, c10, rfl, hr10, hnl10, hb10⟩
  have hown10 := row_below hown9 hb10
  replace hb10 := below_then hb9 hb10
  have hs10 : w7.heap.size ≤ w10.heap.size := hb10.size
  have hbb : (y.length + z.length) * 8 ≤ 140737488355328 := by omega
  clear hown9 hb9 hs9
  have HNL10 := Lib.hid hnl10
  clear hnl10
  go_wp2_with (at_builtin; refine wpList_append_nums rfl (.tmp 112) (.tmp 114) rfl w7.heap.size _ _ _ rfl hown10 a10 z.length c10 z rfl rfl HNL10.out hr10 hbb hs10 ?_)
  intro v11 w11 hown11 hg11
  have hb11 : Below w7.heap.size w7 w11 := hb10.grown hg11 hs10 (fun k hk => (hown10.lt k hk).1)
  have hnr : NumRow w7.heap.size (y ++ z) v11 w11 := by
    unfold NumRow
    simpa [nv] using hown11
  obtain ⟨a12, c12, hv12, hn12⟩ := numRow_nums hnr
  rw [List.length_append] at hv12
  rw [hv12]
  clear hv12 hown10 hown11 hg11 hnr hb10
  replace hr1 := hr1.next hb11
  replace hr3 := hr3.next hb11
  replace hr6 := hr6.next hb11
  replace hb11 := below_then hb7 hb11
  go_wp2_with fail
  refine (HSN.out _ _ _ _ w11 hr1 hr6).mono ?_
  rintro e w13 ⟨rfl, hb13⟩
  go_wp2_with fail
  go_ret
  exact ⟨by simp, below_then hb11 hb13⟩

set_option maxHeartbeats 2000000 in
set_option maxRecDepth 100000 in
theorem reads_A3 (w : World) (a : Option Addr) (c : Nat) (l : List R.Run) (hl : l.length ≤ maxLen) (hu : Runs w w.heap.size a l) (hx : ∀ x ∈ l, x.1 < 18446744073709551616)
    (b : Option Addr) (d : Nat) (m : List R.Run) (hm : m.length ≤ maxLen) (hv : Runs w w.heap.size b m) (hx2 : ∀ x ∈ m, x.1 < 18446744073709551616) (h1c : R.chk l = 0) (p : Int) (hp : -9223372036854775808 ≤ p ∧ p < 0) (h2c : R.chk m = 0) (h2s : (R.ex l ++ R.ex m).length ≤ 64) :
    Calls Try.prog 4 #[.slice a l.length c, .slice b m.length d, .int .i64 p] w (BoolPost true w) := by
  have h64 := (R.chk_ex_length l h1c).2
  have h1 := expand_any a c l w hl hu
  have h2 := fun w' (hb : Below w.heap.size w w') => at_any a c l p w' hl (hu.next hb) (by omega)
  have h3 := fun w' (hb : Below w.heap.size w w') => joined_any a b c d l m w' hl hm (hu.next hb) (hv.next hb)
  have h4 := fun w' (hb : Below w.heap.size w w') => rcheck_any a c l w' _ hl (hu.next hb)
  have h5 := fun w' (hb : Below w.heap.size w w') => expanded2_any a c l w' hl h64 hx (fun p hp => by have := (R.chk_facts l h1c).2.2 p hp; omega) (hu.next hb)
  have h6 := fun w' (hb : Below w.heap.size w w') => rcheck_any b d m w' _ hm (hv.next hb)
  have hsn : ∀ a b c d w, Nums w w.heap.size a (R.ex l) → Nums w w.heap.size b (R.ex l) → Calls Try.prog 18 #[.slice a (R.ex l).length c, .slice b (R.ex l).length d] w (BoolPost true w) := fun a b c d w h h2 => by
    have h := same_any a b c d _ _ w _ h h2 (by omega)
    rw [decide_eq_true rfl] at h; exact h
  rw [expR, if_pos h1c] at h1
  rw [h1c] at h4
  rw [atR, if_neg (by simp [h1c]), if_pos (Or.inl hp.2)] at h2
  have g1 : decide (p < 0) = true := by simp; omega
  have h64m := (R.chk_ex_length m h2c).2
  have h7 := fun w' (hb : Below w.heap.size w w') => expanded2_any b d m w' hm h64m hx2 (fun p hp => by have := (R.chk_facts m h2c).2.2 p hp; omega) (hv.next hb)
  rw [joined_ex l m h1c h2c, if_neg (by omega)] at h3
  rw [h2c] at h6
  have h8 := fun a c w' hu => runsOf_any a c (R.ex l ++ R.ex m) w' (by omega) hu
  rw [List.length_append] at h8
  have hrl := rle_length_le (R.ex l ++ R.ex m)
  have hsr : ∀ a b c d w, Runs w w.heap.size a (R.rle (R.ex l ++ R.ex m)) → Runs w w.heap.size b (R.rle (R.ex l ++ R.ex m)) → Calls Try.prog 11 #[.slice a (R.rle (R.ex l ++ R.ex m)).length c, .slice b (R.rle (R.ex l ++ R.ex m)).length d] w (BoolPost true w) := fun a b c d w h h2 => by
    have h := rsame_any a b c d _ _ w _ h h2 (by omega)
    rw [decide_eq_true rfl] at h; exact h
  generalize R.rle (R.ex l ++ R.ex m) = zz at *
  have H8 := Lib.hid h8
  have HSR := Lib.hid hsr
  clear h8 hsr hrl
  generalize R.ex l = y at *
  generalize R.ex m = z at *
  rw [List.length_append] at h2s
  have H7 := Lib.hid h7
  have g3 : decide ((64 : Int) < (y.length : Int) + (z.length : Int)) = false := by simp; omega
  have g3' : decide (64 < y.length + z.length) = false := by simp; omega
  have H1 := Lib.hid h1
  have H2 := Lib.hid h2
  have H3 := Lib.hid h3
  have H4 := Lib.hid h4
  have H5 := Lib.hid h5
  have H6 := Lib.hid h6
  have HSN := Lib.hid hsn
  clear h1 h2 h3 h4 h5 h6 hsn h1c h2c hx hx2 hu hv h7
  unfold maxLen at hl hm
  go_enter Try.func4, Try.ntmps4
  go_wp2_with fail
  refine (H1.out).mono ?_
  rintro e w1 ⟨a1, c1, rfl, hr1, hb1⟩
  go_wp2_with fail
  refine (H2.out w1 hb1).mono ?_
  rintro e w2 ⟨rfl, hb2⟩
  replace hr1 := hr1.next hb2
  replace hb2 := below_then hb1 hb2
  go_wp2_with fail
  refine (H3.out w2 hb2).mono ?_
  rintro e w3 ⟨a3, c3, rfl, hr3, hb3⟩
  replace hr1 := hr1.next hb3
  replace hb3 := below_then hb2 hb3
  go_wp2_with fail
  refine (H4.out w3 hb3).mono ?_
  rintro e w4 ⟨rfl, hb4⟩
  replace hr1 := hr1.next hb4
  replace hr3 := hr3.next hb4
  replace hb4 := below_then hb3 hb4
  go_wp2_with fail
  refine (rubegun_any _).mono ?_
  rintro e w5 ⟨rfl, hb5⟩
  replace hr1 := hr1.next hb5
  replace hr3 := hr3.next hb5
  replace hb5 := below_then hb4 hb5
  go_wp2_with fail
  refine (H5.out w5 hb5).mono ?_
  rintro e w6 ⟨a6, c6, rfl, hr6, hnl6, hb6⟩
  replace hr1 := hr1.next hb6
  replace hr3 := hr3.next hb6
  replace hb6 := below_then hb5 hb6
  clear hb1 hb2 hb3 hb4 hb5
  have HNL6 := Lib.hid hnl6
  clear hnl6
  go_wp2_with fail
  refine (H6.out w6 hb6).mono ?_
  rintro e w7 ⟨rfl, hb7⟩
  replace hr1 := hr1.next hb7
  replace hr3 := hr3.next hb7
  replace hr6 := hr6.next hb7
  replace hb7 := below_then hb6 hb7
  clear hb6
  have hown0 : (w7.alloc (.cells #[] 34)).ownsRow w7.heap.size 34 1 (.slice (some ⟨w7.heap.size, 0, none⟩) 0 0) 0 [] :=
    ⟨by simp, Or.inr ⟨w7.heap.size, 0, #[], rfl, Nat.le_refl _, heap_alloc_new w7 _, Nat.le_refl _, by unfold maxLen; omega, rfl, rfl⟩⟩
  have hb8 : Below w7.heap.size w7 (w7.alloc (.cells #[] 34)) := (Below.refl _ _).alloc (Nat.le_refl _) _
  go_wp2_with (at_builtin; refine wpList_append_nums rfl (.tmp 110) (.tmp 111) rfl w7.heap.size _ 0 _ rfl hown0 _ y.length c6 y rfl rfl HNL6.out (hr6.next hb8) (by omega) (by simp) ?_)
  intro v9 w9 hown9 hg9
  have hb9 : Below w7.heap.size w7 w9 := hb8.grown hg9 (by simp) (fun k hk => (hown0.lt k hk).1)
  have hs9 : w7.heap.size ≤ w9.heap.size := hb9.size
  clear hown0 hb8 hg9
  go_wp2_with fail
  refine (H7.out w9 (below_then hb7 hb9)).mono ?_
  rintro e w10 ⟨a10, c10, rfl, hr10, hnl10, hb10⟩
  have hown10 := row_below hown9 hb10
  replace hb10 := below_then hb9 hb10
  have hs10 : w7.heap.size ≤ w10.heap.size := hb10.size
  have hbb : (y.length + z.length) * 8 ≤ 140737488355328 := by omega
  clear hown9 hb9 hs9
  have HNL10 := Lib.hid hnl10
  clear hnl10
  go_wp2_with (at_builtin; refine wpList_append_nums rfl (.tmp 112) (.tmp 114) rfl w7.heap.size _ _ _ rfl hown10 a10 z.length c10 z rfl rfl HNL10.out hr10 hbb hs10 ?_)
  intro v11 w11 hown11 hg11
  have hb11 : Below w7.heap.size w7 w11 := hb10.grown hg11 hs10 (fun k hk => (hown10.lt k hk).1)
  have hnr : NumRow w7.heap.size (y ++ z) v11 w11 := by
    unfold NumRow
    simpa [nv] using hown11
  obtain ⟨a12, c12, hv12, hn12⟩ := numRow_nums hnr
  rw [List.length_append] at hv12
  rw [hv12]
  clear hv12 hown10 hown11 hg11 hnr hb10
  replace hr1 := hr1.next hb11
  replace hr3 := hr3.next hb11
  replace hr6 := hr6.next hb11
  replace hb11 := below_then hb7 hb11
  go_wp2_with fail
  refine (HSN.out _ _ _ _ w11 hr1 hr6).mono ?_
  rintro e w13 ⟨rfl, hb13⟩
  replace hr3 := hr3.next hb13
  replace hn12 := hn12.next hb13
  replace hb13 := below_then hb11 hb13
  go_wp2_with fail
  refine (H8.out a12 c12 w13 hn12).mono ?_
  rintro e w14 ⟨a14, c14, rfl, hr14, hb14⟩
  replace hr3 := hr3.next hb14
  replace hb14 := below_then hb13 hb14
  go_wp2_with fail
  refine (HSR.out a3 a14 c3 c14 w14 hr3 hr14).mono ?_
  rintro e w15 ⟨rfl, hb15⟩
  go_wp2_with fail
  go_ret
  exact ⟨by simp, below_then hb14 hb15⟩

set_option maxHeartbeats 2000000 in
set_option maxRecDepth 100000 in
theorem reads_B1 (w : World) (a : Option Addr) (c : Nat) (l : List R.Run) (hl : l.length ≤ maxLen) (hu : Runs w w.heap.size a l) (hx : ∀ x ∈ l, x.1 < 18446744073709551616)
    (b : Option Addr) (d : Nat) (m : List R.Run) (hm : m.length ≤ maxLen) (hv : Runs w w.heap.size b m) (hx2 : ∀ x ∈ m, x.1 < 18446744073709551616) (h1c : R.chk l = 0) (p : Nat) (hp : p ≤ 9223372036854775807 ∧ (R.ex l).length ≤ p) (h2c : R.chk m ≠ 0) :
    Calls Try.prog 4 #[.slice a l.length c, .slice b m.length d, .int .i64 p] w (BoolPost true w) := by
  have h64 := (R.chk_ex_length l h1c).2
  have h1 := expand_any a c l w hl hu
  have h2 := fun w' (hb : Below w.heap.size w w') => at_any a c l p w' hl (hu.next hb) (by omega)
  have h3 := fun w' (hb : Below w.heap.size w w') => joined_any a b c d l m w' hl hm (hu.next hb) (hv.next hb)
  have h4 := fun w' (hb : Below w.heap.size w w') => rcheck_any a c l w' _ hl (hu.next hb)
  have h5 := fun w' (hb : Below w.heap.size w w') => expanded2_any a c l w' hl h64 hx (fun p hp => by have := (R.chk_facts l h1c).2.2 p hp; omega) (hu.next hb)
  have h6 := fun w' (hb : Below w.heap.size w w') => rcheck_any b d m w' _ hm (hv.next hb)
  have hsn : ∀ a b c d w, Nums w w.heap.size a (R.ex l) → Nums w w.heap.size b (R.ex l) → Calls Try.prog 18 #[.slice a (R.ex l).length c, .slice b (R.ex l).length d] w (BoolPost true w) := fun a b c d w h h2 => by
    have h := same_any a b c d _ _ w _ h h2 (by omega)
    rw [decide_eq_true rfl] at h; exact h
  rw [expR, if_pos h1c] at h1
  rw [h1c] at h4
  rw [atR, if_neg (by simp [h1c]), if_pos (Or.inr (by omega))] at h2
  have g1 : decide ((R.ex l).length ≤ p) = true := by simp; omega
  have g1' : decide (((R.ex l).length : Int) ≤ (p : Int)) = true := by simp; omega
  rw [joinedR, if_neg (by simp [h1c]), if_pos h2c] at h3
  generalize R.chk m = k at *
  have g2 : ((k : Int) != 0) = true := by rw [bne_iff_ne]; omega
  generalize R.ex l = y at *
  have H1 := Lib.hid h1
  have H2 := Lib.hid h2
  have H3 := Lib.hid h3
  have H4 := Lib.hid h4
  have H5 := Lib.hid h5
  have H6 := Lib.hid h6
  have HSN := Lib.hid hsn
  clear h1 h2 h3 h4 h5 h6 hsn h1c h2c hx hx2 hu hv
  unfold maxLen at hl hm
  go_enter Try.func4, Try.ntmps4
  go_wp2_with fail
  refine (H1.out).mono ?_
  rintro e w1 ⟨a1, c1, rfl, hr1, hb1⟩
  go_wp2_with fail
  refine (H2.out w1 hb1).mono ?_
  rintro e w2 ⟨rfl, hb2⟩
  replace hr1 := hr1.next hb2
  replace hb2 := below_then hb1 hb2
  go_wp2_with fail
  refine (H3.out w2 hb2).mono ?_
  rintro e w3 ⟨a3, c3, rfl, hr3, hb3⟩
  replace hr1 := hr1.next hb3
  replace hb3 := below_then hb2 hb3
  go_wp2_with fail
  refine (H4.out w3 hb3).mono ?_
  rintro e w4 ⟨rfl, hb4⟩
  replace hr1 := hr1.next hb4
  replace hr3 := hr3.next hb4
  replace hb4 := below_then hb3 hb4
  go_wp2_with fail
  refine (rubegun_any _).mono ?_
  rintro e w5 ⟨rfl, hb5⟩
  replace hr1 := hr1.next hb5
  replace hr3 := hr3.next hb5
  replace hb5 := below_then hb4 hb5
  go_wp2_with fail
  refine (H5.out w5 hb5).mono ?_
  rintro e w6 ⟨a6, c6, rfl, hr6, hnl6, hb6⟩
  replace hr1 := hr1.next hb6
  replace hr3 := hr3.next hb6
  replace hb6 := below_then hb5 hb6
  clear hb1 hb2 hb3 hb4 hb5
  have HNL6 := Lib.hid hnl6
  clear hnl6
  go_wp2_with fail
  refine (H6.out w6 hb6).mono ?_
  rintro e w7 ⟨rfl, hb7⟩
  replace hr1 := hr1.next hb7
  replace hr3 := hr3.next hb7
  replace hr6 := hr6.next hb7
  replace hb7 := below_then hb6 hb7
  clear hb6
  go_wp2_with fail
  refine (HSN.out _ _ _ _ w7 hr1 hr6).mono ?_
  rintro e w8 ⟨rfl, hb8⟩
  go_wp2_with fail
  go_ret
  exact ⟨by simp, below_then hb7 hb8⟩

set_option maxHeartbeats 2000000 in
set_option maxRecDepth 100000 in
theorem reads_B2 (w : World) (a : Option Addr) (c : Nat) (l : List R.Run) (hl : l.length ≤ maxLen) (hu : Runs w w.heap.size a l) (hx : ∀ x ∈ l, x.1 < 18446744073709551616)
    (b : Option Addr) (d : Nat) (m : List R.Run) (hm : m.length ≤ maxLen) (hv : Runs w w.heap.size b m) (hx2 : ∀ x ∈ m, x.1 < 18446744073709551616) (h1c : R.chk l = 0) (p : Nat) (hp : p ≤ 9223372036854775807 ∧ (R.ex l).length ≤ p) (h2c : R.chk m = 0) (h2s : 64 < (R.ex l ++ R.ex m).length) :
    Calls Try.prog 4 #[.slice a l.length c, .slice b m.length d, .int .i64 p] w (BoolPost true w) := by
  have h64 := (R.chk_ex_length l h1c).2
  have h1 := expand_any a c l w hl hu
  have h2 := fun w' (hb : Below w.heap.size w w') => at_any a c l p w' hl (hu.next hb) (by omega)
  have h3 := fun w' (hb : Below w.heap.size w w') => joined_any a b c d l m w' hl hm (hu.next hb) (hv.next hb)
  have h4 := fun w' (hb : Below w.heap.size w w') => rcheck_any a c l w' _ hl (hu.next hb)
  have h5 := fun w' (hb : Below w.heap.size w w') => expanded2_any a c l w' hl h64 hx (fun p hp => by have := (R.chk_facts l h1c).2.2 p hp; omega) (hu.next hb)
  have h6 := fun w' (hb : Below w.heap.size w w') => rcheck_any b d m w' _ hm (hv.next hb)
  have hsn : ∀ a b c d w, Nums w w.heap.size a (R.ex l) → Nums w w.heap.size b (R.ex l) → Calls Try.prog 18 #[.slice a (R.ex l).length c, .slice b (R.ex l).length d] w (BoolPost true w) := fun a b c d w h h2 => by
    have h := same_any a b c d _ _ w _ h h2 (by omega)
    rw [decide_eq_true rfl] at h; exact h
  rw [expR, if_pos h1c] at h1
  rw [h1c] at h4
  rw [atR, if_neg (by simp [h1c]), if_pos (Or.inr (by omega))] at h2
  have g1 : decide ((R.ex l).length ≤ p) = true := by simp; omega
  have g1' : decide (((R.ex l).length : Int) ≤ (p : Int)) = true := by simp; omega
  have h64m := (R.chk_ex_length m h2c).2
  have h7 := fun w' (hb : Below w.heap.size w w') => expanded2_any b d m w' hm h64m hx2 (fun p hp => by have := (R.chk_facts m h2c).2.2 p hp; omega) (hv.next hb)
  rw [joined_ex l m h1c h2c, if_pos h2s] at h3
  rw [h2c] at h6
  generalize R.ex l = y at *
  generalize R.ex m = z at *
  rw [List.length_append] at h2s
  have H7 := Lib.hid h7
  have g3 : decide ((64 : Int) < (y.length : Int) + (z.length : Int)) = true := by simp; omega
  have g3' : decide (64 < y.length + z.length) = true := by simp; omega
  have H1 := Lib.hid h1
  have H2 := Lib.hid h2
  have H3 := Lib.hid h3
  have H4 := Lib.hid h4
  have H5 := Lib.hid h5
  have H6 := Lib.hid h6
  have HSN := Lib.hid hsn
  clear h1 h2 h3 h4 h5 h6 hsn h1c h2c hx hx2 hu hv h7
  unfold maxLen at hl hm
  go_enter Try.func4, Try.ntmps4
  go_wp2_with fail
  refine (H1.out).mono ?_
  rintro e w1 ⟨a1, c1, rfl, hr1, hb1⟩
  go_wp2_with fail
  refine (H2.out w1 hb1).mono ?_
  rintro e w2 ⟨rfl, hb2⟩
  replace hr1 := hr1.next hb2
  replace hb2 := below_then hb1 hb2
  go_wp2_with fail
  refine (H3.out w2 hb2).mono ?_
  rintro e w3 ⟨a3, c3, rfl, hr3, hb3⟩
  replace hr1 := hr1.next hb3
  replace hb3 := below_then hb2 hb3
  go_wp2_with fail
  refine (H4.out w3 hb3).mono ?_
  rintro e w4 ⟨rfl, hb4⟩
  replace hr1 := hr1.next hb4
  replace hr3 := hr3.next hb4
  replace hb4 := below_then hb3 hb4
  go_wp2_with fail
  refine (rubegun_any _).mono ?_
  rintro e w5 ⟨rfl, hb5⟩
  replace hr1 := hr1.next hb5
  replace hr3 := hr3.next hb5
  replace hb5 := below_then hb4 hb5
  go_wp2_with fail
  refine (H5.out w5 hb5).mono ?_
  rintro e w6 ⟨a6, c6, rfl, hr6, hnl6, hb6⟩
  replace hr1 := hr1.next hb6
  replace hr3 := hr3.next hb6
  replace hb6 := below_then hb5 hb6
  clear hb1 hb2 hb3 hb4 hb5
  have HNL6 := Lib.hid hnl6
  clear hnl6
  go_wp2_with fail
  refine (H6.out w6 hb6).mono ?_
  rintro e w7 ⟨rfl, hb7⟩
  replace hr1 := hr1.next hb7
  replace hr3 := hr3.next hb7
  replace hr6 := hr6.next hb7
  replace hb7 := below_then hb6 hb7
  clear hb6
  have hown0 : (w7.alloc (.cells #[] 34)).ownsRow w7.heap.size 34 1 (.slice (some ⟨w7.heap.size, 0, none⟩) 0 0) 0 [] :=
    ⟨by simp, Or.inr ⟨w7.heap.size, 0, #[], rfl, Nat.le_refl _, heap_alloc_new w7 _, Nat.le_refl _, by unfold maxLen; omega, rfl, rfl⟩⟩
  have hb8 : Below w7.heap.size w7 (w7.alloc (.cells #[] 34)) := (Below.refl _ _).alloc (Nat.le_refl _) _
  go_wp2_with (at_builtin; refine wpList_append_nums rfl (.tmp 110) (.tmp 111) rfl w7.heap.size _ 0 _ rfl hown0 _ y.length c6 y rfl rfl HNL6.out (hr6.next hb8) (by omega) (by simp) ?_)
  intro v9 w9 hown9 hg9
  have hb9 : Below w7.heap.size w7 w9 := hb8.grown hg9 (by simp) (fun k hk => (hown0.lt k hk).1)
  have hs9 : w7.heap.size ≤ w9.heap.size := hb9.size
  clear hown0 hb8 hg9
  go_wp2_with fail
  refine (H7.out w9 (below_then hb7 hb9)).mono ?_
  rintro e w10 ⟨a10, c10, rfl, hr10, hnl10, hb10⟩
  have hown10 := row_below hown9 hb10
  replace hb10 := below_then hb9 hb10
  have hs10 : w7.heap.size ≤ w10.heap.size := hb10.size
  have hbb : (y.length + z.length) * 8 ≤ 140737488355328 := by omega
  clear hown9 hb9 hs9
  have HNL10 := Lib.hid hnl10
  clear hnl10
  go_wp2_with (at_builtin; refine wpList_append_nums rfl (.tmp 112) (.tmp 114) rfl w7.heap.size _ _ _ rfl hown10 a10 z.length c10 z rfl rfl HNL10.out hr10 hbb hs10 ?_)
  intro v11 w11 hown11 hg11
  have hb11 : Below w7.heap.size w7 w11 := hb10.grown hg11 hs10 (fun k hk => (hown10.lt k hk).1)
  have hnr : NumRow w7.heap.size (y ++ z) v11 w11 := by
    unfold NumRow
    simpa [nv] using hown11
  obtain ⟨a12, c12, hv12, hn12⟩ := numRow_nums hnr
  rw [List.length_append] at hv12
  rw [hv12]
  clear hv12 hown10 hown11 hg11 hnr hb10
  replace hr1 := hr1.next hb11
  replace hr3 := hr3.next hb11
  replace hr6 := hr6.next hb11
  replace hb11 := below_then hb7 hb11
  go_wp2_with fail
  refine (HSN.out _ _ _ _ w11 hr1 hr6).mono ?_
  rintro e w13 ⟨rfl, hb13⟩
  go_wp2_with fail
  go_ret
  exact ⟨by simp, below_then hb11 hb13⟩

set_option maxHeartbeats 2000000 in
set_option maxRecDepth 100000 in
theorem reads_B3 (w : World) (a : Option Addr) (c : Nat) (l : List R.Run) (hl : l.length ≤ maxLen) (hu : Runs w w.heap.size a l) (hx : ∀ x ∈ l, x.1 < 18446744073709551616)
    (b : Option Addr) (d : Nat) (m : List R.Run) (hm : m.length ≤ maxLen) (hv : Runs w w.heap.size b m) (hx2 : ∀ x ∈ m, x.1 < 18446744073709551616) (h1c : R.chk l = 0) (p : Nat) (hp : p ≤ 9223372036854775807 ∧ (R.ex l).length ≤ p) (h2c : R.chk m = 0) (h2s : (R.ex l ++ R.ex m).length ≤ 64) :
    Calls Try.prog 4 #[.slice a l.length c, .slice b m.length d, .int .i64 p] w (BoolPost true w) := by
  have h64 := (R.chk_ex_length l h1c).2
  have h1 := expand_any a c l w hl hu
  have h2 := fun w' (hb : Below w.heap.size w w') => at_any a c l p w' hl (hu.next hb) (by omega)
  have h3 := fun w' (hb : Below w.heap.size w w') => joined_any a b c d l m w' hl hm (hu.next hb) (hv.next hb)
  have h4 := fun w' (hb : Below w.heap.size w w') => rcheck_any a c l w' _ hl (hu.next hb)
  have h5 := fun w' (hb : Below w.heap.size w w') => expanded2_any a c l w' hl h64 hx (fun p hp => by have := (R.chk_facts l h1c).2.2 p hp; omega) (hu.next hb)
  have h6 := fun w' (hb : Below w.heap.size w w') => rcheck_any b d m w' _ hm (hv.next hb)
  have hsn : ∀ a b c d w, Nums w w.heap.size a (R.ex l) → Nums w w.heap.size b (R.ex l) → Calls Try.prog 18 #[.slice a (R.ex l).length c, .slice b (R.ex l).length d] w (BoolPost true w) := fun a b c d w h h2 => by
    have h := same_any a b c d _ _ w _ h h2 (by omega)
    rw [decide_eq_true rfl] at h; exact h
  rw [expR, if_pos h1c] at h1
  rw [h1c] at h4
  rw [atR, if_neg (by simp [h1c]), if_pos (Or.inr (by omega))] at h2
  have g1 : decide ((R.ex l).length ≤ p) = true := by simp; omega
  have g1' : decide (((R.ex l).length : Int) ≤ (p : Int)) = true := by simp; omega
  have h64m := (R.chk_ex_length m h2c).2
  have h7 := fun w' (hb : Below w.heap.size w w') => expanded2_any b d m w' hm h64m hx2 (fun p hp => by have := (R.chk_facts m h2c).2.2 p hp; omega) (hv.next hb)
  rw [joined_ex l m h1c h2c, if_neg (by omega)] at h3
  rw [h2c] at h6
  have h8 := fun a c w' hu => runsOf_any a c (R.ex l ++ R.ex m) w' (by omega) hu
  rw [List.length_append] at h8
  have hrl := rle_length_le (R.ex l ++ R.ex m)
  have hsr : ∀ a b c d w, Runs w w.heap.size a (R.rle (R.ex l ++ R.ex m)) → Runs w w.heap.size b (R.rle (R.ex l ++ R.ex m)) → Calls Try.prog 11 #[.slice a (R.rle (R.ex l ++ R.ex m)).length c, .slice b (R.rle (R.ex l ++ R.ex m)).length d] w (BoolPost true w) := fun a b c d w h h2 => by
    have h := rsame_any a b c d _ _ w _ h h2 (by omega)
    rw [decide_eq_true rfl] at h; exact h
  generalize R.rle (R.ex l ++ R.ex m) = zz at *
  have H8 := Lib.hid h8
  have HSR := Lib.hid hsr
  clear h8 hsr hrl
  generalize R.ex l = y at *
  generalize R.ex m = z at *
  rw [List.length_append] at h2s
  have H7 := Lib.hid h7
  have g3 : decide ((64 : Int) < (y.length : Int) + (z.length : Int)) = false := by simp; omega
  have g3' : decide (64 < y.length + z.length) = false := by simp; omega
  have H1 := Lib.hid h1
  have H2 := Lib.hid h2
  have H3 := Lib.hid h3
  have H4 := Lib.hid h4
  have H5 := Lib.hid h5
  have H6 := Lib.hid h6
  have HSN := Lib.hid hsn
  clear h1 h2 h3 h4 h5 h6 hsn h1c h2c hx hx2 hu hv h7
  unfold maxLen at hl hm
  go_enter Try.func4, Try.ntmps4
  go_wp2_with fail
  refine (H1.out).mono ?_
  rintro e w1 ⟨a1, c1, rfl, hr1, hb1⟩
  go_wp2_with fail
  refine (H2.out w1 hb1).mono ?_
  rintro e w2 ⟨rfl, hb2⟩
  replace hr1 := hr1.next hb2
  replace hb2 := below_then hb1 hb2
  go_wp2_with fail
  refine (H3.out w2 hb2).mono ?_
  rintro e w3 ⟨a3, c3, rfl, hr3, hb3⟩
  replace hr1 := hr1.next hb3
  replace hb3 := below_then hb2 hb3
  go_wp2_with fail
  refine (H4.out w3 hb3).mono ?_
  rintro e w4 ⟨rfl, hb4⟩
  replace hr1 := hr1.next hb4
  replace hr3 := hr3.next hb4
  replace hb4 := below_then hb3 hb4
  go_wp2_with fail
  refine (rubegun_any _).mono ?_
  rintro e w5 ⟨rfl, hb5⟩
  replace hr1 := hr1.next hb5
  replace hr3 := hr3.next hb5
  replace hb5 := below_then hb4 hb5
  go_wp2_with fail
  refine (H5.out w5 hb5).mono ?_
  rintro e w6 ⟨a6, c6, rfl, hr6, hnl6, hb6⟩
  replace hr1 := hr1.next hb6
  replace hr3 := hr3.next hb6
  replace hb6 := below_then hb5 hb6
  clear hb1 hb2 hb3 hb4 hb5
  have HNL6 := Lib.hid hnl6
  clear hnl6
  go_wp2_with fail
  refine (H6.out w6 hb6).mono ?_
  rintro e w7 ⟨rfl, hb7⟩
  replace hr1 := hr1.next hb7
  replace hr3 := hr3.next hb7
  replace hr6 := hr6.next hb7
  replace hb7 := below_then hb6 hb7
  clear hb6
  have hown0 : (w7.alloc (.cells #[] 34)).ownsRow w7.heap.size 34 1 (.slice (some ⟨w7.heap.size, 0, none⟩) 0 0) 0 [] :=
    ⟨by simp, Or.inr ⟨w7.heap.size, 0, #[], rfl, Nat.le_refl _, heap_alloc_new w7 _, Nat.le_refl _, by unfold maxLen; omega, rfl, rfl⟩⟩
  have hb8 : Below w7.heap.size w7 (w7.alloc (.cells #[] 34)) := (Below.refl _ _).alloc (Nat.le_refl _) _
  go_wp2_with (at_builtin; refine wpList_append_nums rfl (.tmp 110) (.tmp 111) rfl w7.heap.size _ 0 _ rfl hown0 _ y.length c6 y rfl rfl HNL6.out (hr6.next hb8) (by omega) (by simp) ?_)
  intro v9 w9 hown9 hg9
  have hb9 : Below w7.heap.size w7 w9 := hb8.grown hg9 (by simp) (fun k hk => (hown0.lt k hk).1)
  have hs9 : w7.heap.size ≤ w9.heap.size := hb9.size
  clear hown0 hb8 hg9
  go_wp2_with fail
  refine (H7.out w9 (below_then hb7 hb9)).mono ?_
  rintro e w10 ⟨a10, c10, rfl, hr10, hnl10, hb10⟩
  have hown10 := row_below hown9 hb10
  replace hb10 := below_then hb9 hb10
  have hs10 : w7.heap.size ≤ w10.heap.size := hb10.size
  have hbb : (y.length + z.length) * 8 ≤ 140737488355328 := by omega
  clear hown9 hb9 hs9
  have HNL10 := Lib.hid hnl10
  clear hnl10
  go_wp2_with (at_builtin; refine wpList_append_nums rfl (.tmp 112) (.tmp 114) rfl w7.heap.size _ _ _ rfl hown10 a10 z.length c10 z rfl rfl HNL10.out hr10 hbb hs10 ?_)
  intro v11 w11 hown11 hg11
  have hb11 : Below w7.heap.size w7 w11 := hb10.grown hg11 hs10 (fun k hk => (hown10.lt k hk).1)
  have hnr : NumRow w7.heap.size (y ++ z) v11 w11 := by
    unfold NumRow
    simpa [nv] using hown11
  obtain ⟨a12, c12, hv12, hn12⟩ := numRow_nums hnr
  rw [List.length_append] at hv12
  rw [hv12]
  clear hv12 hown10 hown11 hg11 hnr hb10
  replace hr1 := hr1.next hb11
  replace hr3 := hr3.next hb11
  replace hr6 := hr6.next hb11
  replace hb11 := below_then hb7 hb11
  go_wp2_with fail
  refine (HSN.out _ _ _ _ w11 hr1 hr6).mono ?_
  rintro e w13 ⟨rfl, hb13⟩
  replace hr3 := hr3.next hb13
  replace hn12 := hn12.next hb13
  replace hb13 := below_then hb11 hb13
  go_wp2_with fail
  refine (H8.out a12 c12 w13 hn12).mono ?_
  rintro e w14 ⟨a14, c14, rfl, hr14, hb14⟩
  replace hr3 := hr3.next hb14
  replace hb14 := below_then hb13 hb14
  go_wp2_with fail
  refine (HSR.out a3 a14 c3 c14 w14 hr3 hr14).mono ?_
  rintro e w15 ⟨rfl, hb15⟩
  go_wp2_with fail
  go_ret
  exact ⟨by simp, below_then hb14 hb15⟩

set_option maxHeartbeats 2000000 in
set_option maxRecDepth 100000 in
theorem reads_C1 (w : World) (a : Option Addr) (c : Nat) (l : List R.Run) (hl : l.length ≤ maxLen) (hu : Runs w w.heap.size a l) (hx : ∀ x ∈ l, x.1 < 18446744073709551616)
    (b : Option Addr) (d : Nat) (m : List R.Run) (hm : m.length ≤ maxLen) (hv : Runs w w.heap.size b m) (hx2 : ∀ x ∈ m, x.1 < 18446744073709551616) (h1c : R.chk l = 0) (p : Nat) (hp : p < (R.ex l).length) (h2c : R.chk m ≠ 0) :
    Calls Try.prog 4 #[.slice a l.length c, .slice b m.length d, .int .i64 p] w (BoolPost true w) := by
  have h64 := (R.chk_ex_length l h1c).2
  have h1 := expand_any a c l w hl hu
  have h2 := fun w' (hb : Below w.heap.size w w') => at_any a c l p w' hl (hu.next hb) (by omega)
  have h3 := fun w' (hb : Below w.heap.size w w') => joined_any a b c d l m w' hl hm (hu.next hb) (hv.next hb)
  have h4 := fun w' (hb : Below w.heap.size w w') => rcheck_any a c l w' _ hl (hu.next hb)
  have h5 := fun w' (hb : Below w.heap.size w w') => expanded2_any a c l w' hl h64 hx (fun p hp => by have := (R.chk_facts l h1c).2.2 p hp; omega) (hu.next hb)
  have h6 := fun w' (hb : Below w.heap.size w w') => rcheck_any b d m w' _ hm (hv.next hb)
  have hsn : ∀ a b c d w, Nums w w.heap.size a (R.ex l) → Nums w w.heap.size b (R.ex l) → Calls Try.prog 18 #[.slice a (R.ex l).length c, .slice b (R.ex l).length d] w (BoolPost true w) := fun a b c d w h h2 => by
    have h := same_any a b c d _ _ w _ h h2 (by omega)
    rw [decide_eq_true rfl] at h; exact h
  rw [expR, if_pos h1c] at h1
  rw [h1c] at h4
  rw [atR, if_neg (by simp [h1c]), if_neg (by omega), Int.toNat_natCast] at h2
  have g1 : decide ((R.ex l).length ≤ p) = false := by simp; omega
  have g1' : decide (((R.ex l).length : Int) ≤ (p : Int)) = false := by simp; omega
  rw [joinedR, if_neg (by simp [h1c]), if_pos h2c] at h3
  generalize R.chk m = k at *
  have g2 : ((k : Int) != 0) = true := by rw [bne_iff_ne]; omega
  generalize R.ex l = y at *
  obtain ⟨q, hq⟩ : ∃ q, q = y.getD p 0 := ⟨_, rfl⟩
  rw [← hq] at h2
  have HQ := Lib.hid hq
  clear hq
  have H1 := Lib.hid h1
  have H2 := Lib.hid h2
  have H3 := Lib.hid h3
  have H4 := Lib.hid h4
  have H5 := Lib.hid h5
  have H6 := Lib.hid h6
  have HSN := Lib.hid hsn
  clear h1 h2 h3 h4 h5 h6 hsn h1c h2c hx hx2 hu hv
  unfold maxLen at hl hm
  go_enter Try.func4, Try.ntmps4
  go_wp2_with fail
  refine (H1.out).mono ?_
  rintro e w1 ⟨a1, c1, rfl, hr1, hb1⟩
  go_wp2_with fail
  refine (H2.out w1 hb1).mono ?_
  rintro e w2 ⟨rfl, hb2⟩
  replace hr1 := hr1.next hb2
  replace hb2 := below_then hb1 hb2
  go_wp2_with fail
  refine (H3.out w2 hb2).mono ?_
  rintro e w3 ⟨a3, c3, rfl, hr3, hb3⟩
  replace hr1 := hr1.next hb3
  replace hb3 := below_then hb2 hb3
  go_wp2_with fail
  refine (H4.out w3 hb3).mono ?_
  rintro e w4 ⟨rfl, hb4⟩
  replace hr1 := hr1.next hb4
  replace hr3 := hr3.next hb4
  replace hb4 := below_then hb3 hb4
  go_wp2_with fail
  refine (rubegun_any _).mono ?_
  rintro e w5 ⟨rfl, hb5⟩
  replace hr1 := hr1.next hb5
  replace hr3 := hr3.next hb5
  replace hb5 := below_then hb4 hb5
  go_wp2_with fail
  refine (H5.out w5 hb5).mono ?_
  rintro e w6 ⟨a6, c6, rfl, hr6, hnl6, hb6⟩
  replace hr1 := hr1.next hb6
  replace hr3 := hr3.next hb6
  replace hb6 := below_then hb5 hb6
  clear hb1 hb2 hb3 hb4 hb5
  have HNL6 := Lib.hid hnl6
  clear hnl6
  obtain ⟨b6, o6, rfl, hlt6, hc6⟩ := hr6 (by intro e; rw [e] at hp; simp at hp)
  have c6p := hc6 p hp
  have hr6 : Nums w6 w6.heap.size (some ⟨b6, o6, none⟩) y := fun _ => ⟨b6, o6, rfl, hlt6, hc6⟩
  rw [← HQ.out] at c6p
  clear hc6 HQ
  go_wp2_with fail
  refine (H6.out w6 hb6).mono ?_
  rintro e w7 ⟨rfl, hb7⟩
  replace hr1 := hr1.next hb7
  replace hr3 := hr3.next hb7
  replace hr6 := hr6.next hb7
  replace hb7 := below_then hb6 hb7
  clear hb6
  go_wp2_with fail
  refine (HSN.out _ _ _ _ w7 hr1 hr6).mono ?_
  rintro e w8 ⟨rfl, hb8⟩
  go_wp2_with fail
  go_ret
  exact ⟨by simp, below_then hb7 hb8⟩

set_option maxHeartbeats 2000000 in
set_option maxRecDepth 100000 in
theorem reads_C2 (w : World) (a : Option Addr) (c : Nat) (l : List R.Run) (hl : l.length ≤ maxLen) (hu : Runs w w.heap.size a l) (hx : ∀ x ∈ l, x.1 < 18446744073709551616)
    (b : Option Addr) (d : Nat) (m : List R.Run) (hm : m.length ≤ maxLen) (hv : Runs w w.heap.size b m) (hx2 : ∀ x ∈ m, x.1 < 18446744073709551616) (h1c : R.chk l = 0) (p : Nat) (hp : p < (R.ex l).length) (h2c : R.chk m = 0) (h2s : 64 < (R.ex l ++ R.ex m).length) :
    Calls Try.prog 4 #[.slice a l.length c, .slice b m.length d, .int .i64 p] w (BoolPost true w) := by
  have h64 := (R.chk_ex_length l h1c).2
  have h1 := expand_any a c l w hl hu
  have h2 := fun w' (hb : Below w.heap.size w w') => at_any a c l p w' hl (hu.next hb) (by omega)
  have h3 := fun w' (hb : Below w.heap.size w w') => joined_any a b c d l m w' hl hm (hu.next hb) (hv.next hb)
  have h4 := fun w' (hb : Below w.heap.size w w') => rcheck_any a c l w' _ hl (hu.next hb)
  have h5 := fun w' (hb : Below w.heap.size w w') => expanded2_any a c l w' hl h64 hx (fun p hp => by have := (R.chk_facts l h1c).2.2 p hp; omega) (hu.next hb)
  have h6 := fun w' (hb : Below w.heap.size w w') => rcheck_any b d m w' _ hm (hv.next hb)
  have hsn : ∀ a b c d w, Nums w w.heap.size a (R.ex l) → Nums w w.heap.size b (R.ex l) → Calls Try.prog 18 #[.slice a (R.ex l).length c, .slice b (R.ex l).length d] w (BoolPost true w) := fun a b c d w h h2 => by
    have h := same_any a b c d _ _ w _ h h2 (by omega)
    rw [decide_eq_true rfl] at h; exact h
  rw [expR, if_pos h1c] at h1
  rw [h1c] at h4
  rw [atR, if_neg (by simp [h1c]), if_neg (by omega), Int.toNat_natCast] at h2
  have g1 : decide ((R.ex l).length ≤ p) = false := by simp; omega
  have g1' : decide (((R.ex l).length : Int) ≤ (p : Int)) = false := by simp; omega
  have h64m := (R.chk_ex_length m h2c).2
  have h7 := fun w' (hb : Below w.heap.size w w') => expanded2_any b d m w' hm h64m hx2 (fun p hp => by have := (R.chk_facts m h2c).2.2 p hp; omega) (hv.next hb)
  rw [joined_ex l m h1c h2c, if_pos h2s] at h3
  rw [h2c] at h6
  generalize R.ex l = y at *
  obtain ⟨q, hq⟩ : ∃ q, q = y.getD p 0 := ⟨_, rfl⟩
  rw [← hq] at h2
  have HQ := Lib.hid hq
  clear hq
  generalize R.ex m = z at *
  rw [List.length_append] at h2s
  have H7 := Lib.hid h7
  have g3 : decide ((64 : Int) < (y.length : Int) + (z.length : Int)) = true := by simp; omega
  have g3' : decide (64 < y.length + z.length) = true := by simp; omega
  have H1 := Lib.hid h1
  have H2 := Lib.hid h2
  have H3 := Lib.hid h3
  have H4 := Lib.hid h4
  have H5 := Lib.hid h5
  have H6 := Lib.hid h6
  have HSN := Lib.hid hsn
  clear h1 h2 h3 h4 h5 h6 hsn h1c h2c hx hx2 hu hv h7
  unfold maxLen at hl hm
  go_enter Try.func4, Try.ntmps4
  go_wp2_with fail
  refine (H1.out).mono ?_
  rintro e w1 ⟨a1, c1, rfl, hr1, hb1⟩
  go_wp2_with fail
  refine (H2.out w1 hb1).mono ?_
  rintro e w2 ⟨rfl, hb2⟩
  replace hr1 := hr1.next hb2
  replace hb2 := below_then hb1 hb2
  go_wp2_with fail
  refine (H3.out w2 hb2).mono ?_
  rintro e w3 ⟨a3, c3, rfl, hr3, hb3⟩
  replace hr1 := hr1.next hb3
  replace hb3 := below_then hb2 hb3
  go_wp2_with fail
  refine (H4.out w3 hb3).mono ?_
  rintro e w4 ⟨rfl, hb4⟩
  replace hr1 := hr1.next hb4
  replace hr3 := hr3.next hb4
  replace hb4 := below_then hb3 hb4
  go_wp2_with fail
  refine (rubegun_any _).mono ?_
  rintro e w5 ⟨rfl, hb5⟩
  replace hr1 := hr1.next hb5
  replace hr3 := hr3.next hb5
  replace hb5 := below_then hb4 hb5
  go_wp2_with fail
  refine (H5.out w5 hb5).mono ?_
  rintro e w6 ⟨a6, c6, rfl, hr6, hnl6, hb6⟩
  replace hr1 := hr1.next hb6
  replace hr3 := hr3.next hb6
  replace hb6 := below_then hb5 hb6
  clear hb1 hb2 hb3 hb4 hb5
  have HNL6 := Lib.hid hnl6
  clear hnl6
  obtain ⟨b6, o6, rfl, hlt6, hc6⟩ := hr6 (by intro e; rw [e] at hp; simp at hp)
  have c6p := hc6 p hp
  have hr6 : Nums w6 w6.heap.size (some ⟨b6, o6, none⟩) y := fun _ => ⟨b6, o6, rfl, hlt6, hc6⟩
  rw [← HQ.out] at c6p
  clear hc6 HQ
  go_wp2_with fail
  refine (H6.out w6 hb6).mono ?_
  rintro e w7 ⟨rfl, hb7⟩
  replace hr1 := hr1.next hb7
  replace hr3 := hr3.next hb7
  replace hr6 := hr6.next hb7
  replace hb7 := below_then hb6 hb7
  clear hb6
  have hown0 : (w7.alloc (.cells #[] 34)).ownsRow w7.heap.size 34 1 (.slice (some ⟨w7.heap.size, 0, none⟩) 0 0) 0 [] :=
    ⟨by simp, Or.inr ⟨w7.heap.size, 0, #[], rfl, Nat.le_refl _, heap_alloc_new w7 _, Nat.le_refl _, by unfold maxLen; omega, rfl, rfl⟩⟩
  have hb8 : Below w7.heap.size w7 (w7.alloc (.cells #[] 34)) := (Below.refl _ _).alloc (Nat.le_refl _) _
  go_wp2_with (at_builtin; refine wpList_append_nums rfl (.tmp 110) (.tmp 111) rfl w7.heap.size _ 0 _ rfl hown0 _ y.length c6 y rfl rfl HNL6.out (hr6.next hb8) (by omega) (by simp) ?_)
  intro v9 w9 hown9 hg9
  have hb9 : Below w7.heap.size w7 w9 := hb8.grown hg9 (by simp) (fun k hk => (hown0.lt k hk).1)
  have hs9 : w7.heap.size ≤ w9.heap.size := hb9.size
  clear hown0 hb8 hg9
  go_wp2_with fail
  refine (H7.out w9 (below_then hb7 hb9)).mono ?_
  rintro e w10 ⟨a10, c10, rfl, hr10, hnl10, hb10⟩
  have hown10 := row_below hown9 hb10
  replace hb10 := below_then hb9 hb10
  have hs10 : w7.heap.size ≤ w10.heap.size := hb10.size
  have hbb : (y.length + z.length) * 8 ≤ 140737488355328 := by omega
  clear hown9 hb9 hs9
  have HNL10 := Lib.hid hnl10
  clear hnl10
  go_wp2_with (at_builtin; refine wpList_append_nums rfl (.tmp 112) (.tmp 114) rfl w7.heap.size _ _ _ rfl hown10 a10 z.length c10 z rfl rfl HNL10.out hr10 hbb hs10 ?_)
  intro v11 w11 hown11 hg11
  have hb11 : Below w7.heap.size w7 w11 := hb10.grown hg11 hs10 (fun k hk => (hown10.lt k hk).1)
  have hnr : NumRow w7.heap.size (y ++ z) v11 w11 := by
    unfold NumRow
    simpa [nv] using hown11
  obtain ⟨a12, c12, hv12, hn12⟩ := numRow_nums hnr
  rw [List.length_append] at hv12
  rw [hv12]
  clear hv12 hown10 hown11 hg11 hnr hb10
  replace hr1 := hr1.next hb11
  replace hr3 := hr3.next hb11
  replace hr6 := hr6.next hb11
  replace hb11 := below_then hb7 hb11
  go_wp2_with fail
  refine (HSN.out _ _ _ _ w11 hr1 hr6).mono ?_
  rintro e w13 ⟨rfl, hb13⟩
  go_wp2_with fail
  go_ret
  exact ⟨by simp, below_then hb11 hb13⟩

set_option maxHeartbeats 2000000 in
set_option maxRecDepth 100000 in
theorem reads_C3 (w : World) (a : Option Addr) (c : Nat) (l : List R.Run) (hl : l.length ≤ maxLen) (hu : Runs w w.heap.size a l) (hx : ∀ x ∈ l, x.1 < 18446744073709551616)
    (b : Option Addr) (d : Nat) (m : List R.Run) (hm : m.length ≤ maxLen) (hv : Runs w w.heap.size b m) (hx2 : ∀ x ∈ m, x.1 < 18446744073709551616) (h1c : R.chk l = 0) (p : Nat) (hp : p < (R.ex l).length) (h2c : R.chk m = 0) (h2s : (R.ex l ++ R.ex m).length ≤ 64) :
    Calls Try.prog 4 #[.slice a l.length c, .slice b m.length d, .int .i64 p] w (BoolPost true w) := by
  have h64 := (R.chk_ex_length l h1c).2
  have h1 := expand_any a c l w hl hu
  have h2 := fun w' (hb : Below w.heap.size w w') => at_any a c l p w' hl (hu.next hb) (by omega)
  have h3 := fun w' (hb : Below w.heap.size w w') => joined_any a b c d l m w' hl hm (hu.next hb) (hv.next hb)
  have h4 := fun w' (hb : Below w.heap.size w w') => rcheck_any a c l w' _ hl (hu.next hb)
  have h5 := fun w' (hb : Below w.heap.size w w') => expanded2_any a c l w' hl h64 hx (fun p hp => by have := (R.chk_facts l h1c).2.2 p hp; omega) (hu.next hb)
  have h6 := fun w' (hb : Below w.heap.size w w') => rcheck_any b d m w' _ hm (hv.next hb)
  have hsn : ∀ a b c d w, Nums w w.heap.size a (R.ex l) → Nums w w.heap.size b (R.ex l) → Calls Try.prog 18 #[.slice a (R.ex l).length c, .slice b (R.ex l).length d] w (BoolPost true w) := fun a b c d w h h2 => by
    have h := same_any a b c d _ _ w _ h h2 (by omega)
    rw [decide_eq_true rfl] at h; exact h
  rw [expR, if_pos h1c] at h1
  rw [h1c] at h4
  rw [atR, if_neg (by simp [h1c]), if_neg (by omega), Int.toNat_natCast] at h2
  have g1 : decide ((R.ex l).length ≤ p) = false := by simp; omega
  have g1' : decide (((R.ex l).length : Int) ≤ (p : Int)) = false := by simp; omega
  have h64m := (R.chk_ex_length m h2c).2
  have h7 := fun w' (hb : Below w.heap.size w w') => expanded2_any b d m w' hm h64m hx2 (fun p hp => by have := (R.chk_facts m h2c).2.2 p hp; omega) (hv.next hb)
  rw [joined_ex l m h1c h2c, if_neg (by omega)] at h3
  rw [h2c] at h6
  have h8 := fun a c w' hu => runsOf_any a c (R.ex l ++ R.ex m) w' (by omega) hu
  rw [List.length_append] at h8
  have hrl := rle_length_le (R.ex l ++ R.ex m)
  have hsr : ∀ a b c d w, Runs w w.heap.size a (R.rle (R.ex l ++ R.ex m)) → Runs w w.heap.size b (R.rle (R.ex l ++ R.ex m)) → Calls Try.prog 11 #[.slice a (R.rle (R.ex l ++ R.ex m)).length c, .slice b (R.rle (R.ex l ++ R.ex m)).length d] w (BoolPost true w) := fun a b c d w h h2 => by
    have h := rsame_any a b c d _ _ w _ h h2 (by omega)
    rw [decide_eq_true rfl] at h; exact h
  generalize R.rle (R.ex l ++ R.ex m) = zz at *
  have H8 := Lib.hid h8
  have HSR := Lib.hid hsr
  clear h8 hsr hrl
  generalize R.ex l = y at *
  obtain ⟨q, hq⟩ : ∃ q, q = y.getD p 0 := ⟨_, rfl⟩
  rw [← hq] at h2
  have HQ := Lib.hid hq
  clear hq
  generalize R.ex m = z at *
  rw [List.length_append] at h2s
  have H7 := Lib.hid h7
  have g3 : decide ((64 : Int) < (y.length : Int) + (z.length : Int)) = false := by simp; omega
  have g3' : decide (64 < y.length + z.length) = false := by simp; omega
  have H1 := Lib.hid h1
  have H2 := Lib.hid h2
  have H3 := Lib.hid h3
  have H4 := Lib.hid h4
  have H5 := Lib.hid h5
  have H6 := Lib.hid h6
  have HSN := Lib.hid hsn
  clear h1 h2 h3 h4 h5 h6 hsn h1c h2c hx hx2 hu hv h7
  unfold maxLen at hl hm
  go_enter Try.func4, Try.ntmps4
  go_wp2_with fail
  refine (H1.out).mono ?_
  rintro e w1 ⟨a1, c1, rfl, hr1, hb1⟩
  go_wp2_with fail
  refine (H2.out w1 hb1).mono ?_
  rintro e w2 ⟨rfl, hb2⟩
  replace hr1 := hr1.next hb2
  replace hb2 := below_then hb1 hb2
  go_wp2_with fail
  refine (H3.out w2 hb2).mono ?_
  rintro e w3 ⟨a3, c3, rfl, hr3, hb3⟩
  replace hr1 := hr1.next hb3
  replace hb3 := below_then hb2 hb3
  go_wp2_with fail
  refine (H4.out w3 hb3).mono ?_
  rintro e w4 ⟨rfl, hb4⟩
  replace hr1 := hr1.next hb4
  replace hr3 := hr3.next hb4
  replace hb4 := below_then hb3 hb4
  go_wp2_with fail
  refine (rubegun_any _).mono ?_
  rintro e w5 ⟨rfl, hb5⟩
  replace hr1 := hr1.next hb5
  replace hr3 := hr3.next hb5
  replace hb5 := below_then hb4 hb5
  go_wp2_with fail
  refine (H5.out w5 hb5).mono ?_
  rintro e w6 ⟨a6, c6, rfl, hr6, hnl6, hb6⟩
  replace hr1 := hr1.next hb6
  replace hr3 := hr3.next hb6
  replace hb6 := below_then hb5 hb6
  clear hb1 hb2 hb3 hb4 hb5
  have HNL6 := Lib.hid hnl6
  clear hnl6
  obtain ⟨b6, o6, rfl, hlt6, hc6⟩ := hr6 (by intro e; rw [e] at hp; simp at hp)
  have c6p := hc6 p hp
  have hr6 : Nums w6 w6.heap.size (some ⟨b6, o6, none⟩) y := fun _ => ⟨b6, o6, rfl, hlt6, hc6⟩
  rw [← HQ.out] at c6p
  clear hc6 HQ
  go_wp2_with fail
  refine (H6.out w6 hb6).mono ?_
  rintro e w7 ⟨rfl, hb7⟩
  replace hr1 := hr1.next hb7
  replace hr3 := hr3.next hb7
  replace hr6 := hr6.next hb7
  replace hb7 := below_then hb6 hb7
  clear hb6
  have hown0 : (w7.alloc (.cells #[] 34)).ownsRow w7.heap.size 34 1 (.slice (some ⟨w7.heap.size, 0, none⟩) 0 0) 0 [] :=
    ⟨by simp, Or.inr ⟨w7.heap.size, 0, #[], rfl, Nat.le_refl _, heap_alloc_new w7 _, Nat.le_refl _, by unfold maxLen; omega, rfl, rfl⟩⟩
  have hb8 : Below w7.heap.size w7 (w7.alloc (.cells #[] 34)) := (Below.refl _ _).alloc (Nat.le_refl _) _
  go_wp2_with (at_builtin; refine wpList_append_nums rfl (.tmp 110) (.tmp 111) rfl w7.heap.size _ 0 _ rfl hown0 _ y.length c6 y rfl rfl HNL6.out (hr6.next hb8) (by omega) (by simp) ?_)
  intro v9 w9 hown9 hg9
  have hb9 : Below w7.heap.size w7 w9 := hb8.grown hg9 (by simp) (fun k hk => (hown0.lt k hk).1)
  have hs9 : w7.heap.size ≤ w9.heap.size := hb9.size
  clear hown0 hb8 hg9
  go_wp2_with fail
  refine (H7.out w9 (below_then hb7 hb9)).mono ?_
  rintro e w10 ⟨a10, c10, rfl, hr10, hnl10, hb10⟩
  have hown10 := row_below hown9 hb10
  replace hb10 := below_then hb9 hb10
  have hs10 : w7.heap.size ≤ w10.heap.size := hb10.size
  have hbb : (y.length + z.length) * 8 ≤ 140737488355328 := by omega
  clear hown9 hb9 hs9
  have HNL10 := Lib.hid hnl10
  clear hnl10
  go_wp2_with (at_builtin; refine wpList_append_nums rfl (.tmp 112) (.tmp 114) rfl w7.heap.size _ _ _ rfl hown10 a10 z.length c10 z rfl rfl HNL10.out hr10 hbb hs10 ?_)
  intro v11 w11 hown11 hg11
  have hb11 : Below w7.heap.size w7 w11 := hb10.grown hg11 hs10 (fun k hk => (hown10.lt k hk).1)
  have hnr : NumRow w7.heap.size (y ++ z) v11 w11 := by
    unfold NumRow
    simpa [nv] using hown11
  obtain ⟨a12, c12, hv12, hn12⟩ := numRow_nums hnr
  rw [List.length_append] at hv12
  rw [hv12]
  clear hv12 hown10 hown11 hg11 hnr hb10
  replace hr1 := hr1.next hb11
  replace hr3 := hr3.next hb11
  replace hr6 := hr6.next hb11
  replace hb11 := below_then hb7 hb11
  go_wp2_with fail
  refine (HSN.out _ _ _ _ w11 hr1 hr6).mono ?_
  rintro e w13 ⟨rfl, hb13⟩
  replace hr3 := hr3.next hb13
  replace hn12 := hn12.next hb13
  replace hb13 := below_then hb11 hb13
  go_wp2_with fail
  refine (H8.out a12 c12 w13 hn12).mono ?_
  rintro e w14 ⟨a14, c14, rfl, hr14, hb14⟩
  replace hr3 := hr3.next hb14
  replace hb14 := below_then hb13 hb14
  go_wp2_with fail
  refine (HSR.out a3 a14 c3 c14 w14 hr3 hr14).mono ?_
  rintro e w15 ⟨rfl, hb15⟩
  go_wp2_with fail
  go_ret
  exact ⟨by simp, below_then hb14 hb15⟩

theorem runsReads_walk (w : World) (a : Option Addr) (c : Nat) (l : List R.Run) (hm : l.length ≤ maxLen) (hcap : l.length ≤ c ∧ c ≤ maxLen ∧ (a = none → c = 0)) (hx : ∀ x ∈ l, x.1 < 18446744073709551616 ∧ -9223372036854775808 ≤ x.2 ∧ x.2 ≤ 9223372036854775807) (hu : Runs w w.heap.size a l)
    (b : Option Addr) (d : Nat) (m : List R.Run) (hm2 : m.length ≤ maxLen) (hcap2 : m.length ≤ d ∧ d ≤ maxLen ∧ (b = none → d = 0)) (hx2 : ∀ x ∈ m, x.1 < 18446744073709551616 ∧ -9223372036854775808 ≤ x.2 ∧ x.2 ≤ 9223372036854775807) (hv : Runs w w.heap.size b m)
    (p : Int) (hp : -9223372036854775808 ≤ p ∧ p ≤ 9223372036854775807) :
    Calls Try.prog 4 #[.slice a l.length c, .slice b m.length d, .int .i64 p] w (BoolPost true w) := by
  have k1 := fun x h => (hx x h).1
  have k2 := fun x h => (hx2 x h).1
  by_cases h1 : R.chk l = 0
  · by_cases p0 : p < 0
    · by_cases h2 : R.chk m = 0
      · by_cases h3 : 64 < (R.ex l ++ R.ex m).length
        · exact reads_A2 w a c l hm hu k1 b d m hm2 hv k2 h1 p ⟨hp.1, p0⟩ h2 h3
        · exact reads_A3 w a c l hm hu k1 b d m hm2 hv k2 h1 p ⟨hp.1, p0⟩ h2 (by omega)
      · exact reads_A1 w a c l hm hu k1 b d m hm2 hv k2 h1 p ⟨hp.1, p0⟩ h2
    · obtain ⟨p, rfl⟩ : ∃ q : Nat, p = q := ⟨p.toNat, by omega⟩
      by_cases p1 : p < (R.ex l).length
      · by_cases h2 : R.chk m = 0
        · by_cases h3 : 64 < (R.ex l ++ R.ex m).length
          · exact reads_C2 w a c l hm hu k1 b d m hm2 hv k2 h1 p p1 h2 h3
          · exact reads_C3 w a c l hm hu k1 b d m hm2 hv k2 h1 p p1 h2 (by omega)
        · exact reads_C1 w a c l hm hu k1 b d m hm2 hv k2 h1 p p1 h2
      · by_cases h2 : R.chk m = 0
        · by_cases h3 : 64 < (R.ex l ++ R.ex m).length
          · exact reads_B2 w a c l hm hu k1 b d m hm2 hv k2 h1 p ⟨by omega, by omega⟩ h2 h3
          · exact reads_B3 w a c l hm hu k1 b d m hm2 hv k2 h1 p ⟨by omega, by omega⟩ h2 (by omega)
        · exact reads_B1 w a c l hm hu k1 b d m hm2 hv k2 h1 p ⟨by omega, by omega⟩ h2
  · exact reads_bad w a c l hm hu b d m hm2 hv p hp h1
end Go.Proofs.Ythmlafoceacliab
