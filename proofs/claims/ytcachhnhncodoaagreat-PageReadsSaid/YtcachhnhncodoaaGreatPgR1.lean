/- The walks of PageBody, PageBytes. -/
import Derived.Test.YtcachhnhncodoaaGreatPgR0
namespace Go.Proofs.YtcachhnhncodoaaGreat
open Go.RowKit
set_option linter.unusedVariables false

set_option maxHeartbeats 2000000 in
set_option maxRecDepth 100000 in
theorem pbody1_any (a : Option Addr) (c : Nat) (l : List C.Cl) (w : World) (hch : C.chk 1 l = 0) (hx : ∀ x ∈ l, cOk x) (hu : Cls w w.heap.size a l) :
    Calls Tryz.prog 16 #[.int .i64 1, .slice a l.length c] w (TextPost (Pg.bodyP 1 l) w) := by
  obtain ⟨_, hl, hcs⟩ := C.chk_ok hch
  obtain ⟨_, hdl, hdc⟩ := C.chk_ok (C.dense_ok hch)
  have hle : (C.dense l).length ≤ l.length := List.length_filter_le _ _
  have HD := Lib.hid (fun W (hb : Below w.heap.size w W) => denseOf_any a c l W (by omega) (hu.next hb))
  have HT := Lib.hid (fun W (hb : Below w.heap.size w W) => thereOf_any a c l W (by omega) (hu.next hb))
  have HO := Lib.hid (fun W => one_any 1 W (by omega))
  have HE1 := Lib.hid (fun W => vbytes_any l.length W (by omega))
  have HE2 := Lib.hid (fun W => vbytes_any (C.dense l).length W (by omega))
  have HON := Lib.hid (fun W a c (h : Bools W W.heap.size a (l.map C.here)) => show Calls Tryz.prog 36 #[.slice a l.length c] W (NumsPost (ones (l.map C.here)) W) from by
    have h2 := onesOf_any a c (l.map C.here) W (by rw [List.length_map]; omega) h
    rw [List.length_map] at h2; exact h2)
  have HP := Lib.hid (fun W a c (h : Nums W W.heap.size a (ones (l.map C.here))) => show Calls Tryz.prog 35 #[.slice a l.length c, .int .i64 1] W (TextPost (bytesR (l.map C.here)).1 W) from by
    have h2 := packedL_any a c (ones (l.map C.here)) 1 W (by rw [ones_length, List.length_map]; omega) (by omega) (fun x hx => ones_lt _ x hx) (fun x hx => by have := ones_lt _ x hx; omega) h
    rw [ones_length] at h2
    rw [Pg.marks_le _ (by rw [List.length_map]; exact hl)]
    rw [List.length_map] at h2 ⊢; exact h2)
  have hml : (l.map C.here).length = l.length := List.length_map ..
  have hol : (ones (l.map C.here)).length = l.length := by rw [ones_length, List.length_map]
  have hrl : (bytesR (l.map C.here)).1.length ≤ 9 := by
    rw [Pg.marks_le _ (by rw [List.length_map]; exact hl), B.le_length, List.length_map]; unfold B.sz; omega
  have HN := Lib.hid (fun W a c (h : Cls W W.heap.size a (C.dense l)) => numbersOf_any a c (C.dense l) W hdl h)
  have hnl : ((C.dense l).map (·.num)).length = (C.dense l).length := List.length_map ..
  have HBN := Lib.hid (fun W a c (h : Nums W W.heap.size a ((C.dense l).map (·.num))) (h1 : (C.dense l).length ≤ c) (h2 : c ≤ maxLen) => show Calls Tryz.prog 38 #[.slice a (C.dense l).length c] W (TextPost (bestNW ((C.dense l).map (·.num))) W) from by
    have h3 := bestNumberBytes_any a c ((C.dense l).map (·.num)) W (by rw [List.length_map]; exact hdl) (by rw [List.length_map]; exact h1) h2 (fun x hxm => by
      simp only [List.mem_map] at hxm
      obtain ⟨y, hy, rfl⟩ := hxm
      exact (hx y (List.mem_filter.1 hy).1).2.2.1) h
    rw [List.length_map] at h3; exact h3)
  have hbl := (Pg.best_len hch hx).1
  have HB := Lib.hid (show Pg.bodyP 1 l = UInt8.ofNat 1 :: (V.enc l.length ++ (V.enc (C.dense l).length ++ ((if (C.dense l).length < l.length then (bytesR (l.map C.here)).1 else []) ++ (if (C.dense l).length = 0 then [] else bestNW ((C.dense l).map (·.num)))))) from rfl)
  have s0 : (str [UInt8.ofNat 1]).size = 1 := rfl
  have s1 : (str (V.enc l.length)).size ≤ 9 := by rw [str_size, V.enc_length]; exact V.sz_le _
  have s2 : (str (V.enc (C.dense l).length)).size ≤ 9 := by rw [str_size, V.enc_length]; exact V.sz_le _
  have s3 : (str (bytesR (l.map C.here)).1).size ≤ 9 := by rw [str_size]; exact hrl
  have s4 : (str (bestNW ((C.dense l).map (·.num)))).size ≤ 1601 := by rw [str_size]; omega
  have hwl : IntKind.u64.wrap (l.length : Int) = (l.length : Int) := by rw [IntKind.wrap_u64]; omega
  have hwd : IntKind.u64.wrap ((C.dense l).length : Int) = ((C.dense l).length : Int) := by rw [IntKind.wrap_u64]; omega
  unfold TextPost at HO HE1 HE2 HP HBN ⊢
  unfold CellsRowPost at HD
  unfold MarksRowPost at HT
  unfold NumsPost at HON
  clear hu hx hcs hdc hch hrl hbl
  by_cases hA : (C.dense l).length < l.length
  · by_cases h0 : (C.dense l).length = 0
    · have HEND := Lib.hid (show str (Pg.bodyP 1 l) = str [UInt8.ofNat 1] ++ str (V.enc l.length) ++ str (V.enc (C.dense l).length) ++ str (bytesR (l.map C.here)).1 by
        rw [HB.out, if_pos hA, if_pos h0]
        simp [str_append])
      have hAI : ((C.dense l).length : Int) < (l.length : Int) := by omega
      have h0I : ¬ (0 : Int) < ((C.dense l).length : Int) := by omega
      have h0n : ¬ 0 < (C.dense l).length := by omega
      clear HB h0 hA
      generalize str [UInt8.ofNat 1] = T0 at *
      generalize str (V.enc l.length) = T1 at *
      generalize str (V.enc (C.dense l).length) = T2 at *
      generalize str (bytesR (l.map C.here)).1 = T3 at *
      generalize str (bestNW ((C.dense l).map (·.num))) = T4 at *
      generalize hms : l.map C.here = ms at *
      generalize hds : (C.dense l).map (·.num) = ds at *
      clear hms hds
      go_enter Tryz.func16, Tryz.ntmps16
      go_wp2_with fail
      refine (HD.out _ (Below.refl _ _)).mono ?_
      rintro e w1 ⟨v1, rfl, hrow1, hb1⟩
      obtain ⟨ad, cd, rfl, hD, hqd⟩ := cRow_cls hrow1
      clear hrow1 hqd
      go_wp2_with fail
      refine (HO.out _).mono ?_
      rintro e w2 ⟨rfl, hb2⟩
      have h2 := below_then hb1 hb2
      have r2 := hb2
      go_wp2_with fail
      refine (HE1.out _).mono ?_
      rintro e w3 ⟨rfl, hb3⟩
      have h3 := below_then h2 hb3
      have r3 := below_then r2 hb3
      go_wp2_with fail
      refine (HE2.out _).mono ?_
      rintro e w4 ⟨rfl, hb4⟩
      have h4 := below_then h3 hb4
      have r4 := below_then r3 hb4
      go_wp2_with fail
      refine (HT.out _ h4).mono ?_
      rintro e w5 ⟨v5, rfl, hrow5, hb5⟩
      obtain ⟨a5, c5, rfl, hM5, _⟩ := markRow_slice2 hrow5
      rw [hml]
      go_wp2_with fail
      refine (HON.out _ _ _ hM5).mono ?_
      rintro e w6 ⟨a6, c6, rfl, hN6, hb6⟩
      rw [hol]
      go_wp2_with fail
      refine (HP.out _ _ _ hN6).mono ?_
      rintro e w7 ⟨rfl, hb7⟩
      have h7 := below_then (below_then (below_then h4 hb5) hb6) hb7
      have r7 := below_then (below_then (below_then r4 hb5) hb6) hb7
      go_wp2_with fail
      go_ret
      exact ⟨by rw [HEND.out]; rfl, h7⟩
    · have HEND := Lib.hid (show str (Pg.bodyP 1 l) = str [UInt8.ofNat 1] ++ str (V.enc l.length) ++ str (V.enc (C.dense l).length) ++ str (bytesR (l.map C.here)).1 ++ str (bestNW ((C.dense l).map (·.num))) by
        rw [HB.out, if_pos hA, if_neg h0]
        simp [str_append])
      have hAI : ((C.dense l).length : Int) < (l.length : Int) := by omega
      have h0I : (0 : Int) < ((C.dense l).length : Int) := by omega
      have h0n : 0 < (C.dense l).length := by omega
      clear HB h0 hA
      generalize str [UInt8.ofNat 1] = T0 at *
      generalize str (V.enc l.length) = T1 at *
      generalize str (V.enc (C.dense l).length) = T2 at *
      generalize str (bytesR (l.map C.here)).1 = T3 at *
      generalize str (bestNW ((C.dense l).map (·.num))) = T4 at *
      generalize hms : l.map C.here = ms at *
      generalize hds : (C.dense l).map (·.num) = ds at *
      clear hms hds
      go_enter Tryz.func16, Tryz.ntmps16
      go_wp2_with fail
      refine (HD.out _ (Below.refl _ _)).mono ?_
      rintro e w1 ⟨v1, rfl, hrow1, hb1⟩
      obtain ⟨ad, cd, rfl, hD, hqd⟩ := cRow_cls hrow1
      clear hrow1 hqd
      go_wp2_with fail
      refine (HO.out _).mono ?_
      rintro e w2 ⟨rfl, hb2⟩
      have h2 := below_then hb1 hb2
      have r2 := hb2
      go_wp2_with fail
      refine (HE1.out _).mono ?_
      rintro e w3 ⟨rfl, hb3⟩
      have h3 := below_then h2 hb3
      have r3 := below_then r2 hb3
      go_wp2_with fail
      refine (HE2.out _).mono ?_
      rintro e w4 ⟨rfl, hb4⟩
      have h4 := below_then h3 hb4
      have r4 := below_then r3 hb4
      go_wp2_with fail
      refine (HT.out _ h4).mono ?_
      rintro e w5 ⟨v5, rfl, hrow5, hb5⟩
      obtain ⟨a5, c5, rfl, hM5, _⟩ := markRow_slice2 hrow5
      rw [hml]
      go_wp2_with fail
      refine (HON.out _ _ _ hM5).mono ?_
      rintro e w6 ⟨a6, c6, rfl, hN6, hb6⟩
      rw [hol]
      go_wp2_with fail
      refine (HP.out _ _ _ hN6).mono ?_
      rintro e w7 ⟨rfl, hb7⟩
      have h7 := below_then (below_then (below_then h4 hb5) hb6) hb7
      have r7 := below_then (below_then (below_then r4 hb5) hb6) hb7
      go_wp2_with fail
      refine (HN.out _ _ _ (hD.next r7)).mono ?_
      rintro e w8 ⟨v8, rfl, hrow8, hb8⟩
      obtain ⟨a8, c8, rfl, hN8, hq8, hq9⟩ := numRow_cap_ hrow8
      rw [hnl]
      go_wp2_with fail
      refine (HBN.out _ _ _ hN8 (by omega) hq9).mono ?_
      rintro e w9 ⟨rfl, hb9⟩
      have h9 := below_then (below_then h7 hb8) hb9
      go_wp2_with fail
      go_ret
      exact ⟨by rw [HEND.out]; rfl, h9⟩
  · by_cases h0 : (C.dense l).length = 0
    · have HEND := Lib.hid (show str (Pg.bodyP 1 l) = str [UInt8.ofNat 1] ++ str (V.enc l.length) ++ str (V.enc (C.dense l).length) by
        rw [HB.out, if_neg hA, if_pos h0]
        simp [str_append])
      have hAI : ¬ ((C.dense l).length : Int) < (l.length : Int) := by omega
      have h0I : ¬ (0 : Int) < ((C.dense l).length : Int) := by omega
      have h0n : ¬ 0 < (C.dense l).length := by omega
      clear HB h0 hA
      generalize str [UInt8.ofNat 1] = T0 at *
      generalize str (V.enc l.length) = T1 at *
      generalize str (V.enc (C.dense l).length) = T2 at *
      generalize str (bytesR (l.map C.here)).1 = T3 at *
      generalize str (bestNW ((C.dense l).map (·.num))) = T4 at *
      generalize hms : l.map C.here = ms at *
      generalize hds : (C.dense l).map (·.num) = ds at *
      clear hms hds
      go_enter Tryz.func16, Tryz.ntmps16
      go_wp2_with fail
      refine (HD.out _ (Below.refl _ _)).mono ?_
      rintro e w1 ⟨v1, rfl, hrow1, hb1⟩
      obtain ⟨ad, cd, rfl, hD, hqd⟩ := cRow_cls hrow1
      clear hrow1 hqd
      go_wp2_with fail
      refine (HO.out _).mono ?_
      rintro e w2 ⟨rfl, hb2⟩
      have h2 := below_then hb1 hb2
      have r2 := hb2
      go_wp2_with fail
      refine (HE1.out _).mono ?_
      rintro e w3 ⟨rfl, hb3⟩
      have h3 := below_then h2 hb3
      have r3 := below_then r2 hb3
      go_wp2_with fail
      refine (HE2.out _).mono ?_
      rintro e w4 ⟨rfl, hb4⟩
      have h4 := below_then h3 hb4
      have r4 := below_then r3 hb4
      go_wp2_with fail
      go_ret
      exact ⟨by rw [HEND.out]; rfl, h4⟩
    · have HEND := Lib.hid (show str (Pg.bodyP 1 l) = str [UInt8.ofNat 1] ++ str (V.enc l.length) ++ str (V.enc (C.dense l).length) ++ str (bestNW ((C.dense l).map (·.num))) by
        rw [HB.out, if_neg hA, if_neg h0]
        simp [str_append])
      have hAI : ¬ ((C.dense l).length : Int) < (l.length : Int) := by omega
      have h0I : (0 : Int) < ((C.dense l).length : Int) := by omega
      have h0n : 0 < (C.dense l).length := by omega
      clear HB h0 hA
      generalize str [UInt8.ofNat 1] = T0 at *
      generalize str (V.enc l.length) = T1 at *
      generalize str (V.enc (C.dense l).length) = T2 at *
      generalize str (bytesR (l.map C.here)).1 = T3 at *
      generalize str (bestNW ((C.dense l).map (·.num))) = T4 at *
      generalize hms : l.map C.here = ms at *
      generalize hds : (C.dense l).map (·.num) = ds at *
      clear hms hds
      go_enter Tryz.func16, Tryz.ntmps16
      go_wp2_with fail
      refine (HD.out _ (Below.refl _ _)).mono ?_
      rintro e w1 ⟨v1, rfl, hrow1, hb1⟩
      obtain ⟨ad, cd, rfl, hD, hqd⟩ := cRow_cls hrow1
      clear hrow1 hqd
      go_wp2_with fail
      refine (HO.out _).mono ?_
      rintro e w2 ⟨rfl, hb2⟩
      have h2 := below_then hb1 hb2
      have r2 := hb2
      go_wp2_with fail
      refine (HE1.out _).mono ?_
      rintro e w3 ⟨rfl, hb3⟩
      have h3 := below_then h2 hb3
      have r3 := below_then r2 hb3
      go_wp2_with fail
      refine (HE2.out _).mono ?_
      rintro e w4 ⟨rfl, hb4⟩
      have h4 := below_then h3 hb4
      have r4 := below_then r3 hb4
      go_wp2_with fail
      refine (HN.out _ _ _ (hD.next r4)).mono ?_
      rintro e w8 ⟨v8, rfl, hrow8, hb8⟩
      obtain ⟨a8, c8, rfl, hN8, hq8, hq9⟩ := numRow_cap_ hrow8
      rw [hnl]
      go_wp2_with fail
      refine (HBN.out _ _ _ hN8 (by omega) hq9).mono ?_
      rintro e w9 ⟨rfl, hb9⟩
      have h9 := below_then (below_then h4 hb8) hb9
      go_wp2_with fail
      go_ret
      exact ⟨by rw [HEND.out]; rfl, h9⟩

set_option maxHeartbeats 2000000 in
set_option maxRecDepth 100000 in
theorem pbody2_any (a : Option Addr) (c : Nat) (l : List C.Cl) (w : World) (hch : C.chk 2 l = 0) (hx : ∀ x ∈ l, cOk x) (hu : Cls w w.heap.size a l) :
    Calls Tryz.prog 16 #[.int .i64 2, .slice a l.length c] w (TextPost (Pg.bodyP 2 l) w) := by
  obtain ⟨_, hl, hcs⟩ := C.chk_ok hch
  obtain ⟨_, hdl, hdc⟩ := C.chk_ok (C.dense_ok hch)
  have hle : (C.dense l).length ≤ l.length := List.length_filter_le _ _
  have HD := Lib.hid (fun W (hb : Below w.heap.size w W) => denseOf_any a c l W (by omega) (hu.next hb))
  have HT := Lib.hid (fun W (hb : Below w.heap.size w W) => thereOf_any a c l W (by omega) (hu.next hb))
  have HO := Lib.hid (fun W => one_any 2 W (by omega))
  have HE1 := Lib.hid (fun W => vbytes_any l.length W (by omega))
  have HE2 := Lib.hid (fun W => vbytes_any (C.dense l).length W (by omega))
  have HON := Lib.hid (fun W a c (h : Bools W W.heap.size a (l.map C.here)) => show Calls Tryz.prog 36 #[.slice a l.length c] W (NumsPost (ones (l.map C.here)) W) from by
    have h2 := onesOf_any a c (l.map C.here) W (by rw [List.length_map]; omega) h
    rw [List.length_map] at h2; exact h2)
  have HP := Lib.hid (fun W a c (h : Nums W W.heap.size a (ones (l.map C.here))) => show Calls Tryz.prog 35 #[.slice a l.length c, .int .i64 1] W (TextPost (bytesR (l.map C.here)).1 W) from by
    have h2 := packedL_any a c (ones (l.map C.here)) 1 W (by rw [ones_length, List.length_map]; omega) (by omega) (fun x hx => ones_lt _ x hx) (fun x hx => by have := ones_lt _ x hx; omega) h
    rw [ones_length] at h2
    rw [Pg.marks_le _ (by rw [List.length_map]; exact hl)]
    rw [List.length_map] at h2 ⊢; exact h2)
  have hml : (l.map C.here).length = l.length := List.length_map ..
  have hol : (ones (l.map C.here)).length = l.length := by rw [ones_length, List.length_map]
  have hrl : (bytesR (l.map C.here)).1.length ≤ 9 := by
    rw [Pg.marks_le _ (by rw [List.length_map]; exact hl), B.le_length, List.length_map]; unfold B.sz; omega
  have HN := Lib.hid (fun W a c (h : Cls W W.heap.size a (C.dense l)) => wordsOf_any a c (C.dense l) W hdl h)
  have hnl : ((C.dense l).map (·.txt)).length = (C.dense l).length := List.length_map ..
  have HBN := Lib.hid (fun W a c (h : Txts W W.heap.size a ((C.dense l).map (·.txt))) (h1 : (C.dense l).length ≤ c) (h2 : c ≤ maxLen) => show Calls Tryz.prog 40 #[.slice a (C.dense l).length c] W (TextPost (bestTW ((C.dense l).map (·.txt))) W) from by
    have h3 := bestTextBytes_any a c ((C.dense l).map (·.txt)) W (Pg.fit_texts hch) h
    rw [List.length_map] at h3; exact h3)
  have hbl := (Pg.best_len hch hx).2
  have HB := Lib.hid (show Pg.bodyP 2 l = UInt8.ofNat 2 :: (V.enc l.length ++ (V.enc (C.dense l).length ++ ((if (C.dense l).length < l.length then (bytesR (l.map C.here)).1 else []) ++ (if (C.dense l).length = 0 then [] else bestTW ((C.dense l).map (·.txt)))))) from rfl)
  have s0 : (str [UInt8.ofNat 2]).size = 1 := rfl
  have s1 : (str (V.enc l.length)).size ≤ 9 := by rw [str_size, V.enc_length]; exact V.sz_le _
  have s2 : (str (V.enc (C.dense l).length)).size ≤ 9 := by rw [str_size, V.enc_length]; exact V.sz_le _
  have s3 : (str (bytesR (l.map C.here)).1).size ≤ 9 := by rw [str_size]; exact hrl
  have s4 : (str (bestTW ((C.dense l).map (·.txt)))).size ≤ 1601 := by rw [str_size]; omega
  have hwl : IntKind.u64.wrap (l.length : Int) = (l.length : Int) := by rw [IntKind.wrap_u64]; omega
  have hwd : IntKind.u64.wrap ((C.dense l).length : Int) = ((C.dense l).length : Int) := by rw [IntKind.wrap_u64]; omega
  unfold TextPost at HO HE1 HE2 HP HBN ⊢
  unfold CellsRowPost at HD
  unfold MarksRowPost at HT
  unfold NumsPost at HON
  clear hu hx hcs hdc hch hrl hbl
  by_cases hA : (C.dense l).length < l.length
  · by_cases h0 : (C.dense l).length = 0
    · have HEND := Lib.hid (show str (Pg.bodyP 2 l) = str [UInt8.ofNat 2] ++ str (V.enc l.length) ++ str (V.enc (C.dense l).length) ++ str (bytesR (l.map C.here)).1 by
        rw [HB.out, if_pos hA, if_pos h0]
        simp [str_append])
      have hAI : ((C.dense l).length : Int) < (l.length : Int) := by omega
      have h0I : ¬ (0 : Int) < ((C.dense l).length : Int) := by omega
      have h0n : ¬ 0 < (C.dense l).length := by omega
      clear HB h0 hA
      generalize str [UInt8.ofNat 2] = T0 at *
      generalize str (V.enc l.length) = T1 at *
      generalize str (V.enc (C.dense l).length) = T2 at *
      generalize str (bytesR (l.map C.here)).1 = T3 at *
      generalize str (bestTW ((C.dense l).map (·.txt))) = T4 at *
      generalize hms : l.map C.here = ms at *
      generalize hds : (C.dense l).map (·.txt) = ds at *
      clear hms hds
      go_enter Tryz.func16, Tryz.ntmps16
      go_wp2_with fail
      refine (HD.out _ (Below.refl _ _)).mono ?_
      rintro e w1 ⟨v1, rfl, hrow1, hb1⟩
      obtain ⟨ad, cd, rfl, hD, hqd⟩ := cRow_cls hrow1
      clear hrow1 hqd
      go_wp2_with fail
      refine (HO.out _).mono ?_
      rintro e w2 ⟨rfl, hb2⟩
      have h2 := below_then hb1 hb2
      have r2 := hb2
      go_wp2_with fail
      refine (HE1.out _).mono ?_
      rintro e w3 ⟨rfl, hb3⟩
      have h3 := below_then h2 hb3
      have r3 := below_then r2 hb3
      go_wp2_with fail
      refine (HE2.out _).mono ?_
      rintro e w4 ⟨rfl, hb4⟩
      have h4 := below_then h3 hb4
      have r4 := below_then r3 hb4
      go_wp2_with fail
      refine (HT.out _ h4).mono ?_
      rintro e w5 ⟨v5, rfl, hrow5, hb5⟩
      obtain ⟨a5, c5, rfl, hM5, _⟩ := markRow_slice2 hrow5
      rw [hml]
      go_wp2_with fail
      refine (HON.out _ _ _ hM5).mono ?_
      rintro e w6 ⟨a6, c6, rfl, hN6, hb6⟩
      rw [hol]
      go_wp2_with fail
      refine (HP.out _ _ _ hN6).mono ?_
      rintro e w7 ⟨rfl, hb7⟩
      have h7 := below_then (below_then (below_then h4 hb5) hb6) hb7
      have r7 := below_then (below_then (below_then r4 hb5) hb6) hb7
      go_wp2_with fail
      go_ret
      exact ⟨by rw [HEND.out]; rfl, h7⟩
    · have HEND := Lib.hid (show str (Pg.bodyP 2 l) = str [UInt8.ofNat 2] ++ str (V.enc l.length) ++ str (V.enc (C.dense l).length) ++ str (bytesR (l.map C.here)).1 ++ str (bestTW ((C.dense l).map (·.txt))) by
        rw [HB.out, if_pos hA, if_neg h0]
        simp [str_append])
      have hAI : ((C.dense l).length : Int) < (l.length : Int) := by omega
      have h0I : (0 : Int) < ((C.dense l).length : Int) := by omega
      have h0n : 0 < (C.dense l).length := by omega
      clear HB h0 hA
      generalize str [UInt8.ofNat 2] = T0 at *
      generalize str (V.enc l.length) = T1 at *
      generalize str (V.enc (C.dense l).length) = T2 at *
      generalize str (bytesR (l.map C.here)).1 = T3 at *
      generalize str (bestTW ((C.dense l).map (·.txt))) = T4 at *
      generalize hms : l.map C.here = ms at *
      generalize hds : (C.dense l).map (·.txt) = ds at *
      clear hms hds
      go_enter Tryz.func16, Tryz.ntmps16
      go_wp2_with fail
      refine (HD.out _ (Below.refl _ _)).mono ?_
      rintro e w1 ⟨v1, rfl, hrow1, hb1⟩
      obtain ⟨ad, cd, rfl, hD, hqd⟩ := cRow_cls hrow1
      clear hrow1 hqd
      go_wp2_with fail
      refine (HO.out _).mono ?_
      rintro e w2 ⟨rfl, hb2⟩
      have h2 := below_then hb1 hb2
      have r2 := hb2
      go_wp2_with fail
      refine (HE1.out _).mono ?_
      rintro e w3 ⟨rfl, hb3⟩
      have h3 := below_then h2 hb3
      have r3 := below_then r2 hb3
      go_wp2_with fail
      refine (HE2.out _).mono ?_
      rintro e w4 ⟨rfl, hb4⟩
      have h4 := below_then h3 hb4
      have r4 := below_then r3 hb4
      go_wp2_with fail
      refine (HT.out _ h4).mono ?_
      rintro e w5 ⟨v5, rfl, hrow5, hb5⟩
      obtain ⟨a5, c5, rfl, hM5, _⟩ := markRow_slice2 hrow5
      rw [hml]
      go_wp2_with fail
      refine (HON.out _ _ _ hM5).mono ?_
      rintro e w6 ⟨a6, c6, rfl, hN6, hb6⟩
      rw [hol]
      go_wp2_with fail
      refine (HP.out _ _ _ hN6).mono ?_
      rintro e w7 ⟨rfl, hb7⟩
      have h7 := below_then (below_then (below_then h4 hb5) hb6) hb7
      have r7 := below_then (below_then (below_then r4 hb5) hb6) hb7
      go_wp2_with fail
      refine (HN.out _ _ _ (hD.next r7)).mono ?_
      rintro e w8 ⟨v8, rfl, hrow8, hb8⟩
      obtain ⟨a8, c8, rfl, hN8, hq8, hq9⟩ := tRow_txts hrow8
      rw [hnl]
      go_wp2_with fail
      refine (HBN.out _ _ _ hN8 (by omega) hq9).mono ?_
      rintro e w9 ⟨rfl, hb9⟩
      have h9 := below_then (below_then h7 hb8) hb9
      go_wp2_with fail
      go_ret
      exact ⟨by rw [HEND.out]; rfl, h9⟩
  · by_cases h0 : (C.dense l).length = 0
    · have HEND := Lib.hid (show str (Pg.bodyP 2 l) = str [UInt8.ofNat 2] ++ str (V.enc l.length) ++ str (V.enc (C.dense l).length) by
        rw [HB.out, if_neg hA, if_pos h0]
        simp [str_append])
      have hAI : ¬ ((C.dense l).length : Int) < (l.length : Int) := by omega
      have h0I : ¬ (0 : Int) < ((C.dense l).length : Int) := by omega
      have h0n : ¬ 0 < (C.dense l).length := by omega
      clear HB h0 hA
      generalize str [UInt8.ofNat 2] = T0 at *
      generalize str (V.enc l.length) = T1 at *
      generalize str (V.enc (C.dense l).length) = T2 at *
      generalize str (bytesR (l.map C.here)).1 = T3 at *
      generalize str (bestTW ((C.dense l).map (·.txt))) = T4 at *
      generalize hms : l.map C.here = ms at *
      generalize hds : (C.dense l).map (·.txt) = ds at *
      clear hms hds
      go_enter Tryz.func16, Tryz.ntmps16
      go_wp2_with fail
      refine (HD.out _ (Below.refl _ _)).mono ?_
      rintro e w1 ⟨v1, rfl, hrow1, hb1⟩
      obtain ⟨ad, cd, rfl, hD, hqd⟩ := cRow_cls hrow1
      clear hrow1 hqd
      go_wp2_with fail
      refine (HO.out _).mono ?_
      rintro e w2 ⟨rfl, hb2⟩
      have h2 := below_then hb1 hb2
      have r2 := hb2
      go_wp2_with fail
      refine (HE1.out _).mono ?_
      rintro e w3 ⟨rfl, hb3⟩
      have h3 := below_then h2 hb3
      have r3 := below_then r2 hb3
      go_wp2_with fail
      refine (HE2.out _).mono ?_
      rintro e w4 ⟨rfl, hb4⟩
      have h4 := below_then h3 hb4
      have r4 := below_then r3 hb4
      go_wp2_with fail
      go_ret
      exact ⟨by rw [HEND.out]; rfl, h4⟩
    · have HEND := Lib.hid (show str (Pg.bodyP 2 l) = str [UInt8.ofNat 2] ++ str (V.enc l.length) ++ str (V.enc (C.dense l).length) ++ str (bestTW ((C.dense l).map (·.txt))) by
        rw [HB.out, if_neg hA, if_neg h0]
        simp [str_append])
      have hAI : ¬ ((C.dense l).length : Int) < (l.length : Int) := by omega
      have h0I : (0 : Int) < ((C.dense l).length : Int) := by omega
      have h0n : 0 < (C.dense l).length := by omega
      clear HB h0 hA
      generalize str [UInt8.ofNat 2] = T0 at *
      generalize str (V.enc l.length) = T1 at *
      generalize str (V.enc (C.dense l).length) = T2 at *
      generalize str (bytesR (l.map C.here)).1 = T3 at *
      generalize str (bestTW ((C.dense l).map (·.txt))) = T4 at *
      generalize hms : l.map C.here = ms at *
      generalize hds : (C.dense l).map (·.txt) = ds at *
      clear hms hds
      go_enter Tryz.func16, Tryz.ntmps16
      go_wp2_with fail
      refine (HD.out _ (Below.refl _ _)).mono ?_
      rintro e w1 ⟨v1, rfl, hrow1, hb1⟩
      obtain ⟨ad, cd, rfl, hD, hqd⟩ := cRow_cls hrow1
      clear hrow1 hqd
      go_wp2_with fail
      refine (HO.out _).mono ?_
      rintro e w2 ⟨rfl, hb2⟩
      have h2 := below_then hb1 hb2
      have r2 := hb2
      go_wp2_with fail
      refine (HE1.out _).mono ?_
      rintro e w3 ⟨rfl, hb3⟩
      have h3 := below_then h2 hb3
      have r3 := below_then r2 hb3
      go_wp2_with fail
      refine (HE2.out _).mono ?_
      rintro e w4 ⟨rfl, hb4⟩
      have h4 := below_then h3 hb4
      have r4 := below_then r3 hb4
      go_wp2_with fail
      refine (HN.out _ _ _ (hD.next r4)).mono ?_
      rintro e w8 ⟨v8, rfl, hrow8, hb8⟩
      obtain ⟨a8, c8, rfl, hN8, hq8, hq9⟩ := tRow_txts hrow8
      rw [hnl]
      go_wp2_with fail
      refine (HBN.out _ _ _ hN8 (by omega) hq9).mono ?_
      rintro e w9 ⟨rfl, hb9⟩
      have h9 := below_then (below_then h4 hb8) hb9
      go_wp2_with fail
      go_ret
      exact ⟨by rw [HEND.out]; rfl, h9⟩

theorem pbody_any (k : Int) (a : Option Addr) (c : Nat) (l : List C.Cl) (w : World) (hch : C.chk k l = 0) (hx : ∀ x ∈ l, cOk x) (hu : Cls w w.heap.size a l) :
    Calls Tryz.prog 16 #[.int .i64 k, .slice a l.length c] w (TextPost (Pg.bodyP k l) w) := by
  rcases (C.chk_ok hch).1 with rfl | rfl
  · exact pbody1_any a c l w hch hx hu
  · exact pbody2_any a c l w hch hx hu

set_option maxHeartbeats 1000000 in
set_option maxRecDepth 100000 in
theorem pbytes_any (k : Int) (hk : -9223372036854775808 ≤ k ∧ k ≤ 9223372036854775807) (a : Option Addr) (c : Nat) (l : List C.Cl) (w : World) (hm : l.length ≤ maxLen) (hx : ∀ x ∈ l, cOk x) (hu : Cls w w.heap.size a l) :
    Calls Tryz.prog 10 #[.int .i64 k, .slice a l.length c] w (PackPost (Pg.writeR k l) w) := by
  have HC := Lib.hid (crcheck_any k a c l w hk hm hx hu)
  unfold CErrPost at HC
  unfold PackPost
  by_cases h1 : C.chk k l ≠ 0
  · have HR := Lib.hid (show Pg.writeR k l = ([], C.chk k l) from if_pos h1)
    generalize C.chk k l = er at *
    have g1 : ((er : Int) != 0) = true := by rw [bne_iff_ne]; omega
    clear hu hx hm h1
    go_enter Tryz.func10, Tryz.ntmps10
    go_wp2_with fail
    refine (HC.out).mono ?_
    rintro e w1 ⟨rfl, hb1⟩
    go_wp2_with fail
    go_ret2
    rw [HR.out]; exact ⟨rfl, hb1⟩
  have h1' : C.chk k l = 0 := Classical.not_not.1 h1
  have HR := Lib.hid (show Pg.writeR k l = (Pg.sealB (Pg.bodyP k l), 0) from if_neg h1)
  rw [h1'] at HC
  have HB := Lib.hid (fun W (hb : Below w.heap.size w W) => pbody_any k a c l W h1' hx (hu.next hb))
  have HS := Lib.hid (fun W => sealed_any (Pg.bodyP k l) W (by have := Pg.body_len h1' hx; omega))
  unfold TextPost at HB HS
  rw [HR.out]
  simp only
  generalize str (Pg.bodyP k l) = T at *
  generalize str (Pg.sealB (Pg.bodyP k l)) = Z at *
  clear hu hx hm h1 h1' HR
  go_enter Tryz.func10, Tryz.ntmps10
  go_wp2_with fail
  refine (HC.out).mono ?_
  rintro e w1 ⟨rfl, hb1⟩
  go_wp2_with fail
  refine (HB.out _ hb1).mono ?_
  rintro e w2 ⟨rfl, hb2⟩
  have h2 := below_then hb1 hb2
  go_wp2_with fail
  refine (HS.out _).mono ?_
  rintro e w3 ⟨rfl, hb3⟩
  go_wp2_with fail
  go_ret2
  exact ⟨rfl, below_then h2 hb3⟩
end Go.Proofs.YtcachhnhncodoaaGreat
