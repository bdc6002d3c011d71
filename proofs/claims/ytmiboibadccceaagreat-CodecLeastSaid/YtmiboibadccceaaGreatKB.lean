/- codecBegun returns true. -/
import Derived.Test.YtmiboibadccceaaGreatKW5
import Derived.Test.YtmiboibadccceaaGreatKW7
import Derived.Test.YtmiboibadccceaaGreatK7
namespace Go.Proofs.YtmiboibadccceaaGreat
open Go.RowKit
set_option linter.unusedVariables false

set_option maxHeartbeats 1000000 in
set_option maxRecDepth 100000 in
theorem repeatedc_any (y many : Nat) (w : World) (hm : many ≤ 64) :
    Calls Tryz.prog 45 #[.int .u64 y, .int .i64 many] w (fun e w' => ∃ a c, e = .returned (.slice a many c) ∧ Nums w' w'.heap.size a (List.replicate many y) ∧ many ≤ c ∧ c ≤ maxLen ∧ Below w.heap.size w w') := by
  go_enter Tryz.func45, Tryz.ntmps45
  go_wp2_with fail
  go_loopw [5, 6] (fun v i wr => ∃ k : Nat, k ≤ many ∧ i = .int .i64 k ∧ NumRow w.heap.size (List.replicate k y) v wr ∧ Below w.heap.size w wr) (fun _ i _ => many - (intOf i).toNat)
  case atStart => exact ⟨0, by omega, rfl, ⟨rfl, Or.inl ⟨rfl, rfl⟩⟩, Below.refl _ _⟩
  case round =>
    obtain ⟨k, hk, rfl, hrow, hbw⟩ := hrel
    by_cases hlt : k < many
    · have HSN := Lib.hid (show List.replicate (k + 1) y = List.replicate k y ++ [y] from List.replicate_succ')
      have hzl : (List.replicate k y).length = k := List.length_replicate
      generalize List.replicate k y = zs at *
      have hrow' : wr.ownsRow w.heap.size 46 1 u5 zs.length (nv zs) := hrow
      have HROW := Lib.hid hrow'
      clear hrow hrow'
      have hb5 : w.heap.size ≤ (wr.alloc (.cells #[.int .u64 (y : Int)] 46)).heap.size := by have := hbw.size; simp; omega
      go_wp2_with (at_builtin; refine wpList_append_one rfl (.tmp 12) (.tmp 14) rfl w.heap.size _ zs.length _ rfl (HROW.out.alloc _) wr.heap.size y rfl (World.cell?_alloc_new _ _ _ _) (by omega) hb5 ?_)
      intro v' w5 hown5 hgrow5
      go_wp2_with fail
      have hbw5 : Below w.heap.size w w5 := (hbw.alloc hbw.size _).grown hgrow5 (by have := hbw.size; simp; omega) (fun k hk => (HROW.out.lt k hk).1)
      refine ⟨⟨k + 1, by omega, by go_num, ?_, hbw5⟩, by simp [intOf]; omega⟩
      rw [HSN.out]; unfold NumRow; rw [List.length_append, hzl]; simpa [nv, hzl] using hown5
    · obtain rfl : k = many := by omega
      obtain ⟨a, c, rfl, hnum, hc1, hc2⟩ := numRow_numsc hrow
      rw [List.length_replicate] at hc1
      rw [List.length_replicate]
      have HN := Lib.hid hnum
      clear hnum hrow
      go_wp2_with fail
      go_ret
      exact ⟨a, c, rfl, HN.out, hc1, hc2, hbw⟩

theorem ktxts_lit (w : World) (l : List (List UInt8)) : Txts (w.alloc (.cells (tv l).toArray 9)) (w.alloc (.cells (tv l).toArray 9)).heap.size (some ⟨w.heap.size, 0, none⟩) l := by
  intro _
  refine ⟨w.heap.size, 0, rfl, by simp, fun i hi => ?_⟩
  rw [Nat.zero_add, World.cell?_alloc_new]
  simp [tv, List.getElem?_eq_getElem hi]
abbrev kn20 : List Nat := List.replicate 20 9
theorem kn20_lt : ∀ x ∈ kn20, x < 18446744073709551616 := by intro x hx; rw [List.eq_of_mem_replicate hx]; decide
abbrev kt5 : List (List UInt8) := [rook, wren, rook, rook, rook]
abbrev kbs : List UInt8 := [2, 4, 40, 9]
abbrev kbt : List UInt8 := [6, 2, 2, 0, 4, 114, 111, 111, 107, 0, 4, 119, 114, 101, 110]
theorem kb_bestn (a : Option Addr) (c : Nat) (w : World) (hu : Nums w w.heap.size a kn20) (h1 : 20 ≤ c) (h2 : c ≤ maxLen) : Calls Tryz.prog 13 #[.slice a 20 c] w fun e w' => e = .returned (.tuple #[.string (str kbs), .int .i64 0]) ∧ Below w.heap.size w w' := by
  have h := kbestNumbers_any a c kn20 w (by simpa using h1) h2 kn20_lt hu
  rw [show bestNR kn20 = (kbs, 0) by unfold bestNR; rw [if_neg (by simp), begun_nums]] at h
  exact h
theorem kb_readn (w : World) : Calls Tryz.prog 22 #[.string (str kbs), .int .i64 20] w fun e w' => ∃ a c, e = .returned (.tuple #[.slice a 20 c, .int .i64 0]) ∧ Nums w' w'.heap.size a kn20 ∧ Below w.heap.size w w' := by
  have h := readNumbers_any kbs 20 w (by unfold maxLen; decide)
  have e := best_back kn20 (by simp) kn20_lt
  rw [begun_nums] at e
  rw [show nlR kbs 20 = (kn20, 0) from e] at h
  exact h
theorem kb_bestt (w : World) : Calls Tryz.prog 18 #[.slice (some ⟨w.heap.size, 0, none⟩) 5 5] (w.alloc (.cells #[.string ⟨#[114, 111, 111, 107]⟩, .string ⟨#[119, 114, 101, 110]⟩, .string ⟨#[114, 111, 111, 107]⟩, .string ⟨#[114, 111, 111, 107]⟩, .string ⟨#[114, 111, 111, 107]⟩] 9)) fun e w' => e = .returned (.tuple #[.string (str kbt), .int .i64 0]) ∧ Below w.heap.size w w' := by
  have h := kbestTexts_any (some ⟨w.heap.size, 0, none⟩) 5 kt5 (w.alloc (.cells (tv kt5).toArray 9)) (ktxts_lit w kt5)
  rw [show bestTR kt5 = (kbt, 0) by unfold bestTR; rw [if_neg (by decide), begun_texts]] at h
  exact h.mono fun e w' ⟨he, hb⟩ => ⟨he, below_then ((Below.refl _ _).alloc (Nat.le_refl _) _) hb⟩
theorem kb_readt (w : World) : Calls Tryz.prog 23 #[.string (str kbt), .int .i64 5] w fun e w' => ∃ a c, e = .returned (.tuple #[.slice a 5 c, .int .i64 0]) ∧ Txts w' w'.heap.size a kt5 ∧ Below w.heap.size w w' := by
  have h := readTexts_any kbt 5 w (by unfold maxLen; decide)
  have e := tbest_back kt5 (by decide)
  rw [begun_texts] at e
  rw [show tlR kbt 5 = (kt5, 0) from e] at h
  exact h
theorem kb_read5 (w : World) : Calls Tryz.prog 22 #[.string ⟨#[5]⟩, .int .i64 0] w fun e w' => ∃ a c, e = .returned (.tuple #[.slice a 0 c, .int .i64 7]) ∧ Below w.heap.size w w' := by
  have h := readNumbers_any [5] 0 w (by unfold maxLen; decide)
  rw [show nlR [5] 0 = ([], 7) by decide] at h
  exact h.mono fun e w' ⟨a, c, he, _, hb⟩ => ⟨a, c, he, hb⟩
theorem kb_num5 (w : World) : Calls Tryz.prog 12 #[.slice none 0 0, .int .i64 5] w fun e w' => e = .returned (.tuple #[.string ⟨#[]⟩, .int .i64 7]) ∧ Below w.heap.size w w' := by
  have h := knumbers_any 5 none 0 [] w (Nat.le_refl _) (by unfold maxLen; decide) (by simp) (Nums.nil _ _ _)
  rw [show numR 5 [] = ([], 7) by decide] at h
  exact h
theorem kb_sn (a a2 : Option Addr) (c c2 : Nat) (w : World) (h1 : Nums w w.heap.size a kn20) (h2 : Nums w w.heap.size a2 kn20) : Calls Tryz.prog 26 #[.slice a 20 c, .slice a2 20 c2] w (BoolPost true w) := by
  have h := same_any a a2 c c2 kn20 kn20 w _ h1 h2 (by simp)
  rw [decide_eq_true rfl] at h; exact h
theorem kb_st (a : Option Addr) (c : Nat) (w : World) (h1 : Txts w w.heap.size a kt5) : Calls Tryz.prog 27 #[.slice a 5 c, .slice (some ⟨w.heap.size, 0, none⟩) 5 5] (w.alloc (.cells #[.string ⟨#[114, 111, 111, 107]⟩, .string ⟨#[119, 114, 101, 110]⟩, .string ⟨#[114, 111, 111, 107]⟩, .string ⟨#[114, 111, 111, 107]⟩, .string ⟨#[114, 111, 111, 107]⟩] 9)) fun e w' => e = .returned (.bool true) ∧ Below w.heap.size w w' := by
  have hb : Below w.heap.size w (w.alloc (.cells (tv kt5).toArray 9)) := (Below.refl _ _).alloc (Nat.le_refl _) _
  have h2 := tsame_any a (some ⟨w.heap.size, 0, none⟩) c 5 kt5 kt5 (w.alloc (.cells (tv kt5).toArray 9)) _ (h1.next hb) (ktxts_lit w kt5) (by decide)
  rw [decide_eq_true rfl] at h2
  exact h2.mono fun e w' ⟨he, hb'⟩ => ⟨he, below_then hb hb'⟩

set_option maxHeartbeats 1000000 in
set_option maxRecDepth 100000 in
theorem kbegun_any (w : World) : Calls Tryz.prog 16 #[] w (BoolPost true w) := by
  have hs1 := show (str kbs).toList = kbs from str_toList _
  have hs2 := show (str kbt).toList = kbt from str_toList _
  have HREP := Lib.hid (fun W => show Calls Tryz.prog 45 #[.int .u64 9, .int .i64 20] W (fun e w' => ∃ a c, e = .returned (.slice a 20 c) ∧ Nums w' w'.heap.size a kn20 ∧ 20 ≤ c ∧ c ≤ maxLen ∧ Below W.heap.size W w') from repeatedc_any 9 20 W (by omega))
  have HBN := Lib.hid kb_bestn
  have HRN := Lib.hid kb_readn
  have HBT := Lib.hid kb_bestt
  have HRT := Lib.hid kb_readt
  generalize str kbs = S at *
  generalize str kbt = T at *
  have q1 : (S.toList == [2, 4, 40, 9]) = true := by rw [hs1]; decide +kernel
  have q2 : S.toList = [2, 4, 40, 9] := hs1
  have q3 : (T.toList == [6, 2, 2, 0, 4, 114, 111, 111, 107, 0, 4, 119, 114, 101, 110]) = true := by rw [hs2]; decide +kernel
  have q4 : T.toList = [6, 2, 2, 0, 4, 114, 111, 111, 107, 0, 4, 119, 114, 101, 110] := hs2
  clear hs1 hs2
  go_enter Tryz.func16, Tryz.ntmps16
  go_wp2_with fail
  refine (HREP.out _).mono ?_
  rintro e w1 ⟨a1, c1, rfl, n1, hc1, hc2, hb1⟩
  go_wp2_with fail
  refine (HBN.out a1 c1 _ n1 hc1 hc2).mono ?_
  rintro e w2 ⟨rfl, hb2⟩
  have r2 := below_then hb1 hb2
  clear n1
  go_wp2_with fail
  refine (HRN.out _).mono ?_
  rintro e w3 ⟨a3, c3, rfl, n3, hb3⟩
  have r3 := below_then r2 hb3
  go_wp2_with fail
  refine (texts_any _ _).mono ?_
  rintro e w4 ⟨rfl, rfl⟩
  go_wp2_with fail
  refine (HBT.out _).mono ?_
  rintro e w5 ⟨rfl, hb5⟩
  have n5 := n3.next hb5
  have r5 := below_then r3 hb5
  go_wp2_with fail
  refine (HRT.out _).mono ?_
  rintro e w6 ⟨a6, c6, rfl, t6, hb6⟩
  have n6 := n5.next hb6
  have r6 := below_then r5 hb6
  go_wp2_with fail
  refine (kb_read5 _).mono ?_
  rintro e w7 ⟨a7, c7, rfl, hb7⟩
  have n7 := n6.next hb7
  have t7 := t6.next hb7
  have r7 := below_then r6 hb7
  go_wp2_with fail
  refine (kb_num5 _).mono ?_
  rintro e w8 ⟨rfl, hb8⟩
  have n8 := n7.next hb8
  have t8 := t7.next hb8
  have r8 := below_then r7 hb8
  clear n3 n5 n6 n7 t6 t7
  go_wp2_with fail
  refine (HREP.out _).mono ?_
  rintro e w9 ⟨a9, c9, rfl, n9, hc9, hd9, hb9⟩
  have r9 := below_then r8 hb9
  go_wp2_with fail
  refine (kb_sn _ _ _ _ _ (n8.next hb9) n9).mono ?_
  rintro e w10 ⟨rfl, hb10⟩
  have r10 := below_then r9 hb10
  go_wp2_with fail
  refine (texts_any _ _).mono ?_
  rintro e w11 ⟨rfl, rfl⟩
  go_wp2_with fail
  refine (kb_st _ _ _ (t8.next (below_then hb9 hb10))).mono ?_
  rintro e w12 ⟨rfl, hb12⟩
  go_wp2_with fail
  go_ret
  exact ⟨rfl, below_then r10 hb12⟩
end Go.Proofs.YtmiboibadccceaaGreat
