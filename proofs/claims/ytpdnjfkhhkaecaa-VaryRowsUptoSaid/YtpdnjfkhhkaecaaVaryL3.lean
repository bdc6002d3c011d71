/- The laws VaryLists and VaryBack. -/
import Derived.Test.YtpdnjfkhhkaecaaVaryW8
namespace Go.Proofs.Ytpdnjfkhhkaecaa
open Go.RowKit
set_option linter.unusedVariables false

theorem Nums.next {w w' : World} {a : Option Addr} {l : List Nat} (h : Nums w w.heap.size a l) (hb : Below w.heap.size w w') : Nums w' w'.heap.size a l := (h.below hb).mono hb.size

theorem rdl_len (l : List UInt8) : (V.rdl l).1.length ≤ l.length := by
  have h : ∀ f l, (V.rdF f l).1.length ≤ l.length := by
    intro f
    induction f with
    | zero => intro l; simp [V.rdF]
    | succ f ih =>
      intro l
      simp only [V.rdF]
      by_cases h1 : l = []
      · simp [h1]
      rw [if_neg h1]
      by_cases h2 : (V.rd l).2.2 = 0
      · rw [if_pos h2]
        have hk : 1 ≤ (V.rd l).2.1 ∧ (V.rd l).2.1 ≤ l.length := by
          obtain ⟨k1, kr, _⟩ := V.rd_ok l (V.rd l).1 (V.rd l).2.1 (by rw [← h2])
          exact ⟨k1, kr⟩
        have := ih (l.drop (V.rd l).2.1)
        rw [List.length_drop] at this
        by_cases h3 : (V.rdF f (l.drop (V.rd l).2.1)).2 = 0
        · rw [if_pos h3]; simp only [List.length_cons]; omega
        · rw [if_neg h3]; simp
      · rw [if_neg h2]; simp
  exact h _ l

set_option maxHeartbeats 400000 in
set_option maxRecDepth 100000 in
theorem varyLists_walk (w : World) (a : Option Addr) (c : Nat) (l : List Nat) (hm : l.length ≤ maxLen) (hx : ∀ x ∈ l, x < 18446744073709551616) (hu : Nums w w.heap.size a l) (s : ByteArray) (hs : s.size ≤ maxLen) (hbd : l.length + s.size ≤ 1048576) :
    Calls Try.prog 4 #[.slice a l.length c, .string s] w (BoolPost true w) := by
  have hra := fun w => readAll_any s w (by omega)
  have hlo := fun w => listOf_any s w (by omega)
  have hrl := rdl_len s.data.toList
  rw [len_data] at hrl
  generalize V.rdl s.data.toList = r at hra hlo hrl
  obtain ⟨xs, er⟩ := r
  simp only at hrl
  have HRA := Lib.hid hra
  have HLO := Lib.hid hlo
  have HX := Lib.hid hx
  clear hra hlo hx
  go_enter Try.func4, Try.ntmps4
  go_wp2_with fail
  refine (HRA.out _).mono ?_
  rintro e w1 ⟨a1, c1, rfl, hu1, hb1⟩
  go_wp2_with fail
  refine (HLO.out _).mono ?_
  rintro e w2 ⟨a2, c2, rfl, hu2, hb2⟩
  go_wp2_with fail
  refine (begun_any _).mono ?_
  rintro e w3 ⟨rfl, hb3⟩
  have h3 : Below w.heap.size w w3 := below_then (below_then hb1 hb2) hb3
  go_wp2_with fail
  refine (all_any a c l _ (by omega) HX.out (hu.next h3)).mono ?_
  rintro e w4 ⟨rfl, hb4⟩
  go_wp2_with fail
  refine (lbytes_any a c l _ (by omega) HX.out (hu.next (below_then h3 hb4))).mono ?_
  rintro e w5 ⟨rfl, hb5⟩
  have h15 : Below w1.heap.size w1 w5 := below_then (below_then (below_then hb2 hb3) hb4) hb5
  have h25 : Below w2.heap.size w2 w5 := below_then (below_then hb3 hb4) hb5
  have hsm := fun w B h1 h2 => same_any a1 a2 c1 c2 xs xs w B h1 h2 (by omega)
  rw [decide_eq_true rfl] at hsm
  have HSM := Lib.hid hsm
  clear hsm
  go_wp2_with fail
  refine (HSM.out _ _ (hu1.next h15) (hu2.next h25)).mono ?_
  rintro e w6 ⟨rfl, hb6⟩
  go_wp2_with fail
  go_ret
  exact ⟨rfl, below_then (below_then (below_then h3 hb4) hb5) hb6⟩

set_option maxHeartbeats 400000 in
set_option maxRecDepth 100000 in
theorem varyBack_walk (w : World) (n : Nat) (hn : n < 18446744073709551616) (a : Option Addr) (c : Nat) (l : List Nat) (hm : l.length ≤ maxLen) (hx : ∀ x ∈ l, x < 18446744073709551616) (hu : Nums w w.heap.size a l) (s : ByteArray) (hs : s.size ≤ maxLen) (hbd : l.length + s.size ≤ 1048576) :
    Calls Try.prog 5 #[.int .u64 n, .slice a l.length c, .string s] w (BoolPost true w) := by
  have h9 := V.sz_le n
  have hsz : (str (V.enc n)).size = V.sz n := by rw [str_size, V.enc_length]
  obtain ⟨t, ht⟩ : ∃ t, t = str (V.enc n) := ⟨_, rfl⟩
  have hwr := fun w => write_any n w hn
  unfold WritePost at hwr
  have hrd := fun w => read_all (t ++ s) w (by unfold maxLen; rw [ht, ByteArray.size_append, hsz]; omega)
  have hdat : (t ++ s).data.toList = V.enc n ++ s.data.toList := by rw [ht]; simp [str]
  rw [hdat, V.rd_enc n hn] at hrd
  rw [← ht] at hwr hsz
  have hts : t.size ≤ 9 := by omega
  have hsum : t.size + s.size ≤ 9223372036854775807 := by omega
  have HSZ := Lib.hid hsz
  obtain ⟨u, hu'⟩ : ∃ u, u = str (V.encs l) := ⟨_, rfl⟩
  have hus : u.size ≤ 9 * l.length := by rw [hu', str_size]; exact encs_le l
  have hra := fun w => readAll_any u w (by omega)
  have hud : u.data.toList = V.encs l := by rw [hu', str_data]
  rw [hud, V.rdl_encs l hx] at hra
  have hal := fun w hl hu => all_any a c l w hl hx hu
  unfold TextPost at hal
  rw [← hu'] at hal
  have HWR := Lib.hid hwr
  have HRD := Lib.hid hrd
  have HRA := Lib.hid hra
  have HAL := Lib.hid hal
  clear hwr hrd hra hal hdat hud ht hu' hx hsz
  go_enter Try.func5, Try.ntmps5
  go_wp2_with fail
  refine (HWR.out _).mono ?_
  rintro e w1 ⟨rfl, hb1⟩
  go_wp2_with fail
  refine (HRD.out _).mono ?_
  rintro e w2 ⟨rfl, hb2⟩
  have h2 := below_then hb1 hb2
  go_wp2_with fail
  refine (HAL.out _ (by omega) (hu.next h2)).mono ?_
  rintro e w3 ⟨rfl, hb3⟩
  go_wp2_with fail
  refine (HRA.out _).mono ?_
  rintro e w4 ⟨a4, c4, rfl, hu4, hb4⟩
  go_wp2_with fail
  refine (begun_any _).mono ?_
  rintro e w5 ⟨rfl, hb5⟩
  go_wp2_with fail
  refine (HWR.out _).mono ?_
  rintro e w6 ⟨rfl, hb6⟩
  have h6 : Below w.heap.size w w6 := below_then (below_then (below_then (below_then h2 hb3) hb4) hb5) hb6
  have h46 : Below w4.heap.size w4 w6 := below_then hb5 hb6
  have hsm := fun w B h1 h2 => same_any a4 a c4 c l l w B h1 h2 (by omega)
  rw [decide_eq_true rfl] at hsm
  have HSM := Lib.hid hsm
  clear hsm
  have hq : ((V.sz n : Int) == (t.size : Int)) = true := by rw [HSZ.out]; simp
  go_wp2_with fail
  refine (HSM.out _ _ (hu4.next h46) (hu.next h6)).mono ?_
  rintro e w7 ⟨rfl, hb7⟩
  go_wp2_with fail
  go_ret
  exact ⟨rfl, below_then h6 hb7⟩
end Go.Proofs.Ytpdnjfkhhkaecaa
