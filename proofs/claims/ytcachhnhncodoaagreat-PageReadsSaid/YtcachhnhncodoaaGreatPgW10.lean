/- The walk of page.Write. -/
import Derived.Test.YtcachhnhncodoaaGreatPgR1
import Derived.Deep.CutRange
import Derived.Deep.DeepCutAuto
namespace Go.Proofs.YtcachhnhncodoaaGreat
open Go.RowKit
set_option linter.unusedVariables false

theorem conv_one (W : World) (g : Nat) (n : Nat) (h : W.cell? ⟨g, 0, none⟩ = some (.int .u8 (n : Int))) (hn : n < 256) :
    (convert 42 9 (.slice (some ⟨g, 0, none⟩) 1 1)).run Tryz.prog W = .ok (.string (str [UInt8.ofNat n])) W := by
  rw [← str_of [UInt8.ofNat n]]
  refine run_convert_bytes_arg _ 42 5 Tryz.underlying42 Tryz.underlying5 _ 0 1 1 _ (by simp) ?_ 9 Tryz.underlying9
  intro i hi
  obtain rfl : i = 0 := by omega
  rw [Nat.zero_add, h]
  have : ((n : Nat) : Int) % 256 = (n : Int) := by omega
  simp [this]
theorem pgapp_nil (a : ByteArray) : a ++ str [] = a := by
  apply ByteArray.ext
  simp [str]
theorem pnums_two (w : World) (n m : Nat) : Nums (w.alloc (.cells #[.int .u64 (n : Int), .int .u64 (m : Int)] 34)) (w.alloc (.cells #[.int .u64 (n : Int), .int .u64 (m : Int)] 34)).heap.size (some ⟨w.heap.size, 0, none⟩) [n, m] := by
  intro _
  refine ⟨w.heap.size, 0, rfl, by simp, fun i hi => ?_⟩
  have : i = 0 ∨ i = 1 := by simp at hi; omega
  rcases this with rfl | rfl <;> (rw [World.cell?_alloc_new]; rfl)

set_option maxHeartbeats 8000000 in
set_option maxRecDepth 100000 in
theorem pgwrite1_any (a : Option Addr) (c : Nat) (l : List C.Cl) (w : World) (hm : l.length ≤ maxLen) (hch : C.chk 1 l = 0) (hx : ∀ x ∈ l, cOk x) (hu : Cls w w.heap.size a l) :
    Calls Tryz.prog 9 #[.int .i64 1, .slice a l.length c] w (PackPost (Pg.sealB (Pg.bodyP 1 l), 0) w) := by
  have HS := Lib.hid (nsplit_any 1 a c l w hm hx hu)
  rw [show splitR 1 l = (l.map C.here, C.dense l, 0) by unfold splitR; rw [hch]; exact if_neg (by simp)] at HS
  obtain ⟨_, hl, hcs⟩ := C.chk_ok hch
  obtain ⟨_, hdl, hdc⟩ := C.chk_ok (C.dense_ok hch)
  have hle : (C.dense l).length ≤ l.length := List.length_filter_le _ _
  have HA := Lib.hid (fun W a (h : Nums W W.heap.size a [l.length, (C.dense l).length]) => show Calls Tryz.prog 19 #[.slice a 2 2] W (TextPost (V.encs [l.length, (C.dense l).length]) W) from all_any a 2 [l.length, (C.dense l).length] W (by simp) (by intro x hx; simp at hx; rcases hx with rfl | rfl <;> omega) h)
  have HNT := Lib.hid (fun W => pnums_two W l.length (C.dense l).length)
  have HBY := Lib.hid (fun W a c (h : Bools W W.heap.size a (l.map C.here)) => show Calls Tryz.prog 20 #[.slice a l.length c] W (PackPost ((bytesR (l.map C.here)).1, 0) W) from by
    have h2 := bytes_any a c (l.map C.here) W h
    obtain ⟨t, ht, _, _⟩ := bytes_back (l.map C.here) (by rw [List.length_map]; exact hl)
    rw [List.length_map] at h2; rw [ht] at h2 ⊢; exact h2)
  have hml : (l.map C.here).length = l.length := List.length_map ..
  have hdx : ∀ x ∈ C.dense l, cOk x := fun x h => hx x (List.mem_filter.1 h).1
  have HBE := Lib.hid (fun W a c (h : Cls W W.heap.size a (C.dense l)) => pbest_any 1 (by omega) a c (C.dense l) W hdl hdx (Pg.fit_texts hch) h)
  have HPU := Lib.hid (fun W => sput_any (Pg.bodyP 1 l) W (by have := Pg.body_len hch hx; omega))
  have hrl : (bytesR (l.map C.here)).1.length ≤ 9 := by
    rw [Pg.marks_le _ (by rw [List.length_map]; exact hl), B.le_length, List.length_map]; unfold B.sz; omega
  have hbl : (bestC 1 (C.dense l)).length ≤ 1601 := by
    have h := (Pg.best_len hch hx).1; show (bestNW _).length ≤ 1601; omega
  have HB := Lib.hid (show Pg.bodyP 1 l = UInt8.ofNat 1 :: (V.enc l.length ++ (V.enc (C.dense l).length ++ ((if (C.dense l).length < l.length then (bytesR (l.map C.here)).1 else []) ++ (if (C.dense l).length = 0 then [] else bestC 1 (C.dense l))))) from rfl)
  have s0 : (str [UInt8.ofNat 1]).size = 1 := rfl
  have HE := Lib.hid (show V.encs [l.length, (C.dense l).length] = V.enc l.length ++ V.enc (C.dense l).length by simp [V.encs])
  have s1 : (str (V.encs [l.length, (C.dense l).length])).size ≤ 18 := by
    rw [str_size, HE.out]; simp only [List.length_append, V.enc_length]
    have := V.sz_le l.length; have := V.sz_le (C.dense l).length; omega
  have s3 : (str (bytesR (l.map C.here)).1).size ≤ 9 := by rw [str_size]; exact hrl
  have s4 : (str (bestC 1 (C.dense l))).size ≤ 1601 := by rw [str_size]; omega
  have hwl : IntKind.u64.wrap (l.length : Int) = (l.length : Int) := by rw [IntKind.wrap_u64]; omega
  have hwd : IntKind.u64.wrap ((C.dense l).length : Int) = ((C.dense l).length : Int) := by rw [IntKind.wrap_u64]; omega
  have HEND := Lib.hid (show ∀ x y : List UInt8, (x = if (C.dense l).length < l.length then (bytesR (l.map C.here)).1 else []) → (y = if (C.dense l).length = 0 then [] else bestC 1 (C.dense l)) → str [UInt8.ofNat 1] ++ str (V.encs [l.length, (C.dense l).length]) ++ str x ++ str y = str (Pg.bodyP 1 l) from fun x y hx hy => by
    rw [HB.out, hx, hy, HE.out]
    simp [str_append])
  have HC1 := Lib.hid (fun W g h => conv_one W g 1 h (by omega))
  unfold TextPost at HA HPU
  unfold PackPost at HBY HBE ⊢
  unfold SplitPost at HS
  simp only at HS HBY HBE ⊢
  clear hu hx hcs hdc hch hrl hbl hm HB HE hdx
  generalize str (V.encs [l.length, (C.dense l).length]) = T1 at *
  generalize str (Pg.bodyP 1 l) = TB at *
  generalize str (Pg.sealB (Pg.bodyP 1 l)) = TZ at *
  generalize [UInt8.ofNat 1] = u0 at *
  generalize str u0 = T0 at *
  go_enter Tryz.func9, Tryz.ntmps9
  go_wp2_with fail
  refine (HS.out).mono ?_
  rintro e w1 ⟨am, cm, v, rfl, hM, hqm, hrow, hb1⟩
  obtain ⟨ad, cd, rfl, hD, hqd⟩ := cRow_cls hrow
  clear hrow hqd hqm
  rw [hml]
  go_upto_region 4 with fail
  go_cut [9] from 14 to 63 (fun t wx => t = .string (T0 ++ T1) ∧ Below w1.heap.size w1 wx)
  case first =>
    have hself : Below w1.heap.size w1 w1 := Below.refl _ _
    have hw8 : IntKind.u8.wrap 1 = 1 := rfl
    have hcv1 : ∀ (W : World) (g : Nat), g = W.heap.size → (convert 42 9 (.slice (some ⟨g, 0, none⟩) 1 1)).run Tryz.prog (W.alloc (.cells #[.int .u8 1] 5)) = .ok (.string T0) (W.alloc (.cells #[.int .u8 1] 5)) := fun W g hg => HC1.out _ g (by rw [hg]; exact World.cell?_alloc_new _ _ _ _)
    have hcv2 : ∀ (W : World) (g : Nat), g = W.heap.size → (convert 42 9 (.slice (some ⟨g, 0, none⟩) 1 1)).run Tryz.prog (W.alloc (.cells #[.int .u8 1] 5)).drew = .ok (.string T0) (W.alloc (.cells #[.int .u8 1] 5)).drew := fun W g hg => HC1.out _ g (by rw [hg]; exact World.cell?_alloc_new _ _ _ _)
    have hab : ((w1.alloc (.cells #[.int .u8 1] 5)).alloc (.cells #[.int .u64 (l.length : Int), .int .u64 ((C.dense l).length : Int)] 34)).cell? ⟨w1.heap.size, 0, none⟩ = some (.int .u8 ((1 : Nat) : Int)) := ((Below.refl _ _).alloc (Nat.le_refl _) (.cells #[.int .u64 (l.length : Int), .int .u64 ((C.dense l).length : Int)] 34) |>.cell (p := ⟨w1.heap.size, 0, none⟩) (by simp)).trans (World.cell?_alloc_new w1 _ _ 0)
    have hba : ((w1.alloc (.cells #[.int .u64 (l.length : Int), .int .u64 ((C.dense l).length : Int)] 34)).alloc (.cells #[.int .u8 1] 5)).cell? ⟨w1.heap.size + 1, 0, none⟩ = some (.int .u8 ((1 : Nat) : Int)) := by simp
    have hcv3 := HC1.out ((w1.alloc (.cells #[.int .u8 1] 5)).alloc (.cells #[.int .u64 (l.length : Int), .int .u64 ((C.dense l).length : Int)] 34)) w1.heap.size hab
    have hcv4 := HC1.out ((w1.alloc (.cells #[.int .u8 1] 5)).alloc (.cells #[.int .u64 (l.length : Int), .int .u64 ((C.dense l).length : Int)] 34)).drew w1.heap.size hab
    have hnB := HNT.out w1
    have hnAB : Nums ((w1.alloc (.cells #[.int .u8 1] 5)).alloc (.cells #[.int .u64 (l.length : Int), .int .u64 ((C.dense l).length : Int)] 34)) ((w1.alloc (.cells #[.int .u8 1] 5)).alloc (.cells #[.int .u64 (l.length : Int), .int .u64 ((C.dense l).length : Int)] 34)).heap.size (some ⟨w1.heap.size + 1, 0, none⟩) [l.length, (C.dense l).length] := by have := HNT.out (w1.alloc (.cells #[.int .u8 1] 5)); simpa using this
    have hnBA := hnB.next ((Below.refl _ _).alloc (Nat.le_refl _) (.cells #[.int .u8 1] 5))
    have hsz1 := Nat.le_refl w1.heap.size
    clear HS HBY HBE HPU HEND
    go_region_with (go_at_call 19; refine (HA.out _ _ (by first | exact hnB | exact hnAB | exact hnBA)).mono ?_; rintro e w9 ⟨rfl, hb9⟩; have hfin : Below w1.heap.size w1 w9 := (by first | exact below_then hself hb9 | exact below_then (hself.alloc hsz1 _) hb9 | exact below_then (hself.alloc hsz1 _).drew hb9 | exact below_then ((hself.alloc hsz1 _).alloc (hself.alloc hsz1 _).size _) hb9 | exact below_then ((hself.alloc hsz1 _).alloc (hself.alloc hsz1 _).size _).drew hb9); (try have hcg := HC1.out w9 w1.heap.size ((hb9.cell (p := ⟨w1.heap.size, 0, none⟩) (by first | (simp; done) | (simp; omega))).trans (by exact hab))); (try have hcg2 := HC1.out w9 (w1.heap.size + 1) ((hb9.cell (p := ⟨w1.heap.size + 1, 0, none⟩) (by first | (simp; done) | (simp; omega))).trans (by exact hba))))
    all_goals
      go_wp2_with fail
      go_meet
    all_goals
      exact ⟨rfl, by first | exact hfin | exact hfin.drew | exact hfin.alloc hfin.size _ | exact (hfin.alloc hfin.size _).drew⟩
  case rest =>
    obtain ⟨rfl, hb2⟩ := hcut
    by_cases hA : (C.dense l).length < l.length
    · by_cases h0 : (C.dense l).length = 0
      · have HEQ := Lib.hid (show T0 ++ T1 ++ str (bytesR (l.map C.here)).1 = TB by
          have h := HEND.out (bytesR (l.map C.here)).1 [] (if_pos hA).symm (if_pos h0).symm
          simpa only [pgapp_nil] using h)
        have hAI : ((C.dense l).length : Int) < (l.length : Int) := by omega
        have h0I : ¬ (0 : Int) < ((C.dense l).length : Int) := by omega
        have h0n : ¬ 0 < (C.dense l).length := by omega
        clear h0 hA HEND
        generalize str (bytesR (l.map C.here)).1 = T3 at *
        generalize str (bestC 1 (C.dense l)) = T4 at *
        have r2 := hb2
        go_wp2_with fail
        refine (HBY.out _ _ _ (hM.next r2)).mono ?_
        rintro e w3 ⟨rfl, hb3⟩
        have r3 := below_then r2 hb3
        go_wp2_with fail
        rw [HEQ.out]
        refine (HPU.out _).mono ?_
        rintro e w5 ⟨rfl, hb5⟩
        go_wp2_with fail
        go_ret2
        exact ⟨rfl, below_then hb1 (below_then r3 hb5)⟩
      · have HEQ := Lib.hid (show T0 ++ T1 ++ str (bytesR (l.map C.here)).1 ++ str (bestC 1 (C.dense l)) = TB by
          have h := HEND.out (bytesR (l.map C.here)).1 (bestC 1 (C.dense l)) (if_pos hA).symm (if_neg h0).symm
          simpa only [pgapp_nil] using h)
        have hAI : ((C.dense l).length : Int) < (l.length : Int) := by omega
        have h0I : (0 : Int) < ((C.dense l).length : Int) := by omega
        have h0n : 0 < (C.dense l).length := by omega
        clear h0 hA HEND
        generalize str (bytesR (l.map C.here)).1 = T3 at *
        generalize str (bestC 1 (C.dense l)) = T4 at *
        have r2 := hb2
        go_wp2_with fail
        refine (HBY.out _ _ _ (hM.next r2)).mono ?_
        rintro e w3 ⟨rfl, hb3⟩
        have r3 := below_then r2 hb3
        go_wp2_with fail
        refine (HBE.out _ _ _ (hD.next r3)).mono ?_
        rintro e w4 ⟨rfl, hb4⟩
        have r4 := below_then r3 hb4
        go_wp2_with fail
        rw [HEQ.out]
        refine (HPU.out _).mono ?_
        rintro e w5 ⟨rfl, hb5⟩
        go_wp2_with fail
        go_ret2
        exact ⟨rfl, below_then hb1 (below_then r4 hb5)⟩
    · by_cases h0 : (C.dense l).length = 0
      · have HEQ := Lib.hid (show T0 ++ T1 = TB by
          have h := HEND.out [] [] (if_neg hA).symm (if_pos h0).symm
          simpa only [pgapp_nil] using h)
        have hAI : ¬ ((C.dense l).length : Int) < (l.length : Int) := by omega
        have h0I : ¬ (0 : Int) < ((C.dense l).length : Int) := by omega
        have h0n : ¬ 0 < (C.dense l).length := by omega
        clear h0 hA HEND
        generalize str (bytesR (l.map C.here)).1 = T3 at *
        generalize str (bestC 1 (C.dense l)) = T4 at *
        have r2 := hb2
        go_wp2_with fail
        rw [HEQ.out]
        refine (HPU.out _).mono ?_
        rintro e w5 ⟨rfl, hb5⟩
        go_wp2_with fail
        go_ret2
        exact ⟨rfl, below_then hb1 (below_then r2 hb5)⟩
      · have HEQ := Lib.hid (show T0 ++ T1 ++ str (bestC 1 (C.dense l)) = TB by
          have h := HEND.out [] (bestC 1 (C.dense l)) (if_neg hA).symm (if_neg h0).symm
          simpa only [pgapp_nil] using h)
        have hAI : ¬ ((C.dense l).length : Int) < (l.length : Int) := by omega
        have h0I : (0 : Int) < ((C.dense l).length : Int) := by omega
        have h0n : 0 < (C.dense l).length := by omega
        clear h0 hA HEND
        generalize str (bytesR (l.map C.here)).1 = T3 at *
        generalize str (bestC 1 (C.dense l)) = T4 at *
        have r2 := hb2
        go_wp2_with fail
        refine (HBE.out _ _ _ (hD.next r2)).mono ?_
        rintro e w4 ⟨rfl, hb4⟩
        have r4 := below_then r2 hb4
        go_wp2_with fail
        rw [HEQ.out]
        refine (HPU.out _).mono ?_
        rintro e w5 ⟨rfl, hb5⟩
        go_wp2_with fail
        go_ret2
        exact ⟨rfl, below_then hb1 (below_then r4 hb5)⟩
end Go.Proofs.YtcachhnhncodoaaGreat
