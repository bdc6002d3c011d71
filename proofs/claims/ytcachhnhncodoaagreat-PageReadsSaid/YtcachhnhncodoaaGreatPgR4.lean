/- The walk of PageOf; the law PageReads. -/
import Derived.Test.YtcachhnhncodoaaGreatPgR3
import Derived.Test.YtcachhnhncodoaaGreatPgL0
namespace Go.Proofs.YtcachhnhncodoaaGreat
open Go.RowKit
set_option linter.unusedVariables false

set_option maxHeartbeats 1000000 in
set_option maxRecDepth 100000 in
theorem bodye_any (w : World) : Calls Tryz.prog 31 #[.string (str [])] w (BodyPost (Pg.bodyR []) w) := by
  have HRE := Lib.hid (show Pg.bodyR [] = (0, [], 5) from rfl)
  have gz : (((str ([] : List UInt8)).size : Int) == 0) = true := by rw [str_size]; rfl
  generalize str ([] : List UInt8) = B at *
  go_enter Tryz.func31, Tryz.ntmps31
  go_wp2_with fail
  go_ret3
  rw [HRE.out]; exact BodyPost.none 5 (Below.refl _ _)
theorem body_any (b : List UInt8) (w : World) (hs : b.length ≤ 140737488351232) : Calls Tryz.prog 31 #[.string (str b)] w (BodyPost (Pg.bodyR b) w) := by
  cases b with
  | nil => exact bodye_any w
  | cons c t => exact bodyc_any c t w hs

set_option maxHeartbeats 1000000 in
set_option maxRecDepth 100000 in
theorem pageOf_any (s : List UInt8) (w : World) (hs : s.length ≤ 140737488351232) :
    Calls Tryz.prog 13 #[.string (str s)] w (PReadPost (Pg.readR s) w) := by
  have hO := unsealed_any s w hs
  unfold SOpenPost at hO
  have hR : Pg.readR s = if (Pg.openB s).2.2 ≠ 0 then (0, [], 0, (Pg.openB s).2.2) else Pg.pageC (Pg.openB s).1 (Pg.openB s).2.1 := rfl
  have hbl : (Pg.openB s).1.length ≤ s.length := by
    unfold Pg.openB
    split
    · simp
    · split
      · simp
      · split
        · simp
        · simp only [List.length_take, List.length_drop]; omega
  obtain ⟨b, n, e, he⟩ : ∃ b n e, Pg.openB s = (b, n, e) := ⟨_, _, _, rfl⟩
  rw [he] at hO hR hbl
  simp only at hO hR hbl
  have HO := Lib.hid hO
  clear hO he
  by_cases h0 : e ≠ 0
  · rw [if_pos h0] at hR
    have HRE := Lib.hid hR
    have g1 : ((e : Int) != 0) = true := by rw [bne_iff_ne]; omega
    generalize str b = B at *
    generalize str s = S at *
    clear hR hbl hs
    go_enter Tryz.func13, Tryz.ntmps13
    go_wp2_with fail
    refine (HO.out).mono ?_
    rintro e1 w1 ⟨rfl, hb1⟩
    go_wp2_with fail
    (try simp only [Exit.inBlock, Exit.then])
    refine bodyPost_ret (results_tmp4 rfl _ _ _) rfl ?_
    rw [HRE.out]; exact PReadPost.none e hb1
  obtain rfl : e = 0 := Classical.not_not.1 h0
  rw [if_neg h0, Pg.page_body] at hR
  have hB := fun W => body_any b W (by omega)
  unfold BodyPost at hB
  obtain ⟨k, l, er, hb⟩ : ∃ k l er, Pg.bodyR b = (k, l, er) := ⟨_, _, _, rfl⟩
  rw [hb] at hB hR
  simp only at hB hR
  have HB := Lib.hid hB
  clear hB hb
  by_cases h1 : er ≠ 0
  · rw [if_pos h1] at hR
    have HRE := Lib.hid hR
    have g1 : ((er : Int) != 0) = true := by rw [bne_iff_ne]; omega
    generalize str b = B at *
    generalize str s = S at *
    clear hR hbl hs
    go_enter Tryz.func13, Tryz.ntmps13
    go_wp2_with fail
    refine (HO.out).mono ?_
    rintro e1 w1 ⟨rfl, hb1⟩
    go_wp2_with fail
    refine (HB.out _).mono ?_
    rintro e2 w2 ⟨v2, rfl, hrow2, hb2⟩
    go_wp2_with fail
    (try simp only [Exit.inBlock, Exit.then])
    refine bodyPost_ret (results_tmp4 rfl _ _ _) rfl ?_
    rw [HRE.out]; exact PReadPost.none er (below_then hb1 hb2)
  obtain rfl : er = 0 := Classical.not_not.1 h1
  rw [if_neg h1] at hR
  have HRE := Lib.hid hR
  generalize str b = B at *
  generalize str s = S at *
  clear hR hbl hs h0 h1
  go_enter Tryz.func13, Tryz.ntmps13
  go_wp2_with fail
  refine (HO.out).mono ?_
  rintro e1 w1 ⟨rfl, hb1⟩
  go_wp2_with fail
  refine (HB.out _).mono ?_
  rintro e2 w2 ⟨v2, rfl, hrow2, hb2⟩
  go_wp2_with fail
  (try simp only [Exit.inBlock, Exit.then])
  refine bodyPost_ret (results_tmp4 rfl _ _ _) rfl ?_
  rw [HRE.out]; exact ⟨v2, rfl, hrow2.weak hb1.size, fun h => absurd rfl h, below_then hb1 hb2⟩

theorem join_le (m : List Bool) (l : List C.Cl) (h : m.length ≤ 64) : (C.join m l).length ≤ 64 := by rw [C.join_length]; exact h
theorem read_len (s : List UInt8) : (Pg.readR s).2.1.length < 9223372036854775807 := by
  unfold Pg.readR
  split
  · simp
  · unfold Pg.pageC
    split
    · simp
    · split
      · simp
      · split
        · simp
        · rename_i c t _ _ _
          simp only
          rw [Pg.cells_cnt]
          obtain ⟨n, s1, e1, h1⟩ : ∃ n s1 e1, cntR t 64 2 = (n, s1, e1) := ⟨_, _, _, rfl⟩
          rw [h1]
          simp only
          split
          · simp
          · rename_i g1
            obtain rfl : e1 = 0 := Classical.not_not.1 g1
            have hn := (Pg.cnt_facts h1 (by omega)).1
            split
            · simp
            · generalize (cntR s1 n 4).1 = d
              obtain ⟨m, s3, e3, h3⟩ : ∃ m s3 e3, Pg.whichR (cntR s1 n 4).2.1 n d = (m, s3, e3) := ⟨_, _, _, rfl⟩
              rw [h3]
              unfold Pg.restR
              simp only
              split
              · simp
              · rename_i g3
                obtain rfl : e3 = 0 := Classical.not_not.1 g3
                have hm := (Pg.which_facts h3 hn).1
                split
                · split
                  · simp
                  · simp only [List.length_replicate]; omega
                · split
                  · simp
                  · simp only [C.join_length]; omega

set_option maxHeartbeats 1000000 in
set_option maxRecDepth 100000 in
theorem pageReads_walk (w : World) (s : ByteArray) (hs : s.size ≤ maxLen) (hr0 : s.size ≤ 140737488351232) :
    Calls Tryz.prog 4 #[.string s] w (BoolPost true w) := by
  obtain ⟨t, rfl, ht⟩ : ∃ t : List UInt8, s = str t ∧ t.length = s.size := ⟨s.data.toList, (str_eta s).symm, len_data s⟩
  have HA := Lib.hid (fun W => pgread_any t W (by unfold maxLen; omega))
  have HB := Lib.hid (fun W => pageOf_any t W (by omega))
  have hlen := read_len t
  have HSM := Lib.hid (fun am a2 cm c2 W (h1 : Cls W W.heap.size am (Pg.readR t).2.1) (h2 : Cls W W.heap.size a2 (Pg.readR t).2.1) => show Calls Tryz.prog 14 #[.slice am (Pg.readR t).2.1.length cm, .slice a2 (Pg.readR t).2.1.length c2] W (BoolPost true W) from by
    have h := csame_any am a2 cm c2 _ _ W _ h1 h2 hlen
    rw [decide_eq_true rfl] at h; exact h)
  unfold PReadPost at HA HB
  generalize (Pg.readR t).1 = k at *
  generalize (Pg.readR t).2.2.1 = n at *
  generalize (Pg.readR t).2.2.2 = er at *
  generalize (Pg.readR t).2.1 = l at *
  generalize str t = S at *
  have g1 : (k == k) = true := by simp
  have g2 : ((n : Int) == (n : Int)) = true := by simp
  have g3 : ((er : Int) == (er : Int)) = true := by simp
  clear hs hr0 ht hlen
  go_enter Tryz.func4, Tryz.ntmps4
  go_wp2_with fail
  refine (HA.out _).mono ?_
  rintro e w1 ⟨v1, rfl, hrow1, -, hb1⟩
  obtain ⟨a1, c1, rfl, d1, _⟩ := cRow_cls hrow1
  clear hrow1
  go_wp2_with fail
  refine (HB.out _).mono ?_
  rintro e w2 ⟨v2, rfl, hrow2, -, hb2⟩
  obtain ⟨a2, c2, rfl, d2, _⟩ := cRow_cls hrow2
  have h2 := below_then hb1 hb2
  have d1' := d1.next hb2
  clear hrow2
  go_wp2_with fail
  refine (pgbegun_any _).mono ?_
  rintro e w3 ⟨rfl, hb3⟩
  have h3 := below_then h2 hb3
  go_wp2_with fail
  refine (HSM.out _ _ _ _ _ (d1'.next hb3) (d2.next hb3)).mono ?_
  rintro e w4 ⟨rfl, hb4⟩
  go_wp2_with fail
  go_ret
  exact ⟨rfl, below_then h3 hb4⟩
end Go.Proofs.YtcachhnhncodoaaGreat
