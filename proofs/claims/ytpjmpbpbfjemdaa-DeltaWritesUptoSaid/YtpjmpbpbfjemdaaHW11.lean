/- The walk of hybrid.Read. -/
import Derived.Test.YtpjmpbpbfjemdaaHW10
namespace Go.Proofs.Ytpjmpbpbfjemdaa
open Go.RowKit
set_option linter.unusedVariables false

def hreadR (s : List UInt8) (many wide : Int) : List Nat × Nat :=
  if wide < 0 ∨ 64 < wide ∨ many < 0 then ([], 3) else if 64 < many then ([], 2) else H.read s many.toNat wide.toNat

theorem first_end (s : List UInt8) (left w : Nat) (h : (H.first s left w).1 = 0) : (H.first s left w).2.2 ≤ s.length := by
  unfold H.first at h ⊢
  by_cases h1 : (V.rd s).2.2 = 0
  · rw [if_neg (by simp [h1])] at h ⊢
    unfold H.firstL at h ⊢
    by_cases h2 : H.fit (V.rd s).1 left = 0
    · rw [if_neg (by simp [h2])] at h ⊢
      by_cases h3 : s.length < (V.rd s).2.1 + B.sz (H.held (V.rd s).1 * w)
      · rw [if_pos h3] at h; simp at h
      · rw [if_neg h3] at h ⊢
        unfold H.body at h ⊢
        split
        · simp
        · split
          · simp only; omega
          · split
            · simp
            · simp only; omega
    · rw [if_pos h2] at h; exact absurd h h2
  · rw [if_pos h1] at h; exact absurd h h1

set_option maxHeartbeats 400000 in
theorem hread_range (s : ByteArray) (many wide : Int) (w : World) (h : wide < 0 ∨ 64 < wide ∨ many < 0) :
    Calls Try.prog 67 #[.string s, .int .i64 many, .int .i64 wide] w (AllPostC ([], 3) w) := by
  by_cases h0 : wide < 0
  · have g1 : decide (wide < 0) = true := by simp; omega
    go_enter Try.func67, Try.ntmps67
    go_wp2_with fail
    go_ret2
    exact ⟨none, 0, rfl, Nums.nil _ _ _, Nat.le_refl _, by unfold maxLen; omega, Below.refl _ _⟩
  · have g1 : decide (wide < 0) = false := by simp; omega
    by_cases h1 : 64 < wide
    · have g2 : decide (64 < wide) = true := by simp; omega
      go_enter Try.func67, Try.ntmps67
      go_wp2_with fail
      go_ret2
      exact ⟨none, 0, rfl, Nums.nil _ _ _, Nat.le_refl _, by unfold maxLen; omega, Below.refl _ _⟩
    · have g2 : decide (64 < wide) = false := by simp; omega
      have g3 : decide (many < 0) = true := by simp; omega
      go_enter Try.func67, Try.ntmps67
      go_wp2_with fail
      go_ret2
      exact ⟨none, 0, rfl, Nums.nil _ _ _, Nat.le_refl _, by unfold maxLen; omega, Below.refl _ _⟩

set_option maxHeartbeats 400000 in
theorem hread_many (s : ByteArray) (many : Int) (wide : Nat) (w : World) (h : wide ≤ 64) (hm : 64 < many) :
    Calls Try.prog 67 #[.string s, .int .i64 many, .int .i64 wide] w (AllPostC ([], 2) w) := by
  have g1 : decide ((wide : Int) < 0) = false := by simp
  have g2 : decide ((64 : Int) < (wide : Int)) = false := by simp; omega
  have g3 : decide (many < 0) = false := by simp; omega
  have g4 : decide (64 < many) = true := by simp; omega
  go_enter Try.func67, Try.ntmps67
  go_wp2_with fail
  go_ret2
  exact ⟨none, 0, rfl, Nums.nil _ _ _, Nat.le_refl _, by unfold maxLen; omega, Below.refl _ _⟩

set_option maxHeartbeats 4000000 in
set_option maxRecDepth 100000 in
theorem hread_in (s : ByteArray) (many wide : Nat) (w : World) (hs : s.size ≤ maxLen) (hw : wide ≤ 64) (hm : many ≤ 64) :
    Calls Try.prog 67 #[.string s, .int .i64 many, .int .i64 wide] w (AllPostC (H.read s.data.toList many wide) w) := by
  obtain ⟨i0, hi, hz0, hz1, hz2⟩ := info_parts info_u64
  have hmt1 : ∀ (k : Nat) (n m : Int) (w : World), (method (k + 1) 84 (.agg #[.int .u64 n, .int .i64 m]) "hypostyle/hybrid.numbers").run Try.prog w = .ok (111, .agg #[.int .u64 n, .int .i64 m]) w := fun _ _ _ _ => by kernel_rfl
  have hmt2 : ∀ (k : Nat) (a : Option Addr) (n c : Nat) (w : World), (method (k + 1) 85 (.slice a n c) "hypostyle/hybrid.numbers").run Try.prog w = .ok (118, .slice a n c) w := fun _ _ _ _ _ => by kernel_rfl
  have g1 : decide ((wide : Int) < 0) = false := by simp
  have g2 : decide ((64 : Int) < (wide : Int)) = false := by simp; omega
  have g3 : decide ((many : Int) < 0) = false := by simp
  obtain ⟨R, hR⟩ : ∃ R, R = H.read s.data.toList many wide := ⟨_, rfl⟩
  have HR := Lib.hid hR
  rw [← hR]
  have hmax := hs
  unfold maxLen at hmax
  clear hR
  go_enter Try.func67, Try.ntmps67
  go_wp2_with (at_make; refine wpList_make_own _ rfl _ _ 22 rfl w.heap.size 23 i0 (.int .u64 0) 1 Try.underlying22 hi hz0 hz1 .i64 .i64 _ many rfl rfl rfl (by rw [hz2]; omega) (by unfold maxLen; omega) (Nat.le_refl _) ?_; intro w0 hown0 hgrow0)
  have hb0 : Below w.heap.size w w0 := (Below.refl _ _).grown hgrow0 (Nat.le_refl _) (fun k hk => by cases hk)
  have hrow0 : NumRow w.heap.size [] (.slice (some ⟨w.heap.size, 0, none⟩) 0 many) w0 := hown0
  clear hown0 hgrow0
  go_loopw [0, 8, 9, 10, 11, 30] (fun s' v _ _ _ _ wr => ∃ (t : ByteArray) (xs : List Nat), s' = .string t ∧ t.size ≤ s.size ∧ xs.length ≤ many ∧ NumRow w.heap.size xs v wr ∧ Hid (R = H.pre xs (H.read t.data.toList (many - xs.length) wide)) ∧ Below w.heap.size w wr) (fun _ v _ _ _ _ _ => many - lenS v)
  case atStart => exact ⟨s, [], rfl, Nat.le_refl _, by simp, hrow0, Lib.hid (by rw [H.pre_nil _ (H.read_err _ _ _)]; exact HR.out), hb0⟩
  case round =>
    obtain ⟨t, xs, rfl, hts, hxm, hrow, HK, hbw⟩ := hrel
    obtain ⟨a, c, rfl, hnum, hlc, hcm⟩ := numRow_numsc hrow
    by_cases hlt : xs.length < many
    · have hsub : ((many : Int) - (xs.length : Int)) = ((many - xs.length : Nat) : Int) := by omega
      have hfst := fun w => hfirst_any t (many - xs.length) wide w (by omega) (by omega) (by omega) hw
      have hgr := H.first_grows t.data.toList (many - xs.length) wide (by omega)
      have hen := first_end t.data.toList (many - xs.length) wide
      have hst := H.read_step t.data.toList (many - xs.length) wide (by omega)
      have hbd := H.read_bad t.data.toList (many - xs.length) wide (by omega)
      rw [len_data] at hen
      generalize H.first t.data.toList (many - xs.length) wide = r at *
      obtain ⟨er, p, en⟩ := r
      simp only at hgr hen hst hbd
      have HFST := Lib.hid hfst
      have HST := Lib.hid hst
      have HBD := Lib.hid hbd
      clear hfst hst hbd
      go_wp2_with fail
      refine (HFST.out _).mono ?_
      rintro e1 w1 ⟨hb1, hpost⟩
      simp only at hpost
      by_cases he : er = 0
      · rw [if_pos he] at hpost
        obtain ⟨v, rfl, hpv⟩ := hpost
        subst he
        obtain ⟨hy1, hy2⟩ := hgr rfl
        have hen' := hen rfl
        have HN := Lib.hid (show R = H.pre (xs ++ p.nums) (H.read (t.data.toList.drop en) (many - (xs ++ p.nums).length) wide) by
          rw [HK.out, HST.out rfl, H.pre_pre, List.length_append, Nat.sub_sub])
        have hrow1 : NumRow w.heap.size xs (.slice a xs.length c) w1 := row_below hrow hb1
        have henI : (en : Int) ≤ (t.size : Int) := by omega
        have hbw1 := below_then hbw hb1
        have hsz1 := hbw1.size
        clear hgr hen hrow hnum
        cases p with
        | run n m =>
          obtain rfl : v = _ := hpv
          simp only [H.Part.nums, List.length_replicate] at hy1 hy2 HN
          have HNM := Lib.hid (fun W => rnums_any n m W hy1 (by omega))
          have HX3 := Lib.hid (fun (v' : Value) (w3 : World) (h : w3.ownsRow w.heap.size 23 1 v' (xs.length + m) (nv xs ++ nv (List.replicate m n))) => show NumRow w.heap.size (xs ++ List.replicate m n) v' w3 by
            unfold NumRow; rw [List.length_append, List.length_replicate]; simpa [nv] using h)
          generalize hys : List.replicate m n = ys at *
          have hyl : ys.length = m := by rw [← hys, List.length_replicate]
          clear hys
          go_wp2_with fail
          refine (HNM.out _).mono ?_
          rintro e2 w2 ⟨A, c2, rfl, hn2, hb2⟩
          rw [hyl]
          have hA : A ≠ none := fun e => by
            obtain ⟨b, off, e', _⟩ := hn2 (fun e => by rw [e] at hyl; simp at hyl; omega)
            rw [e] at e'; cases e'
          have hrow2 := row_below hrow1 hb2
          have hbw2 := below_then hbw1 hb2
          have hsz2 := hbw2.size
          have hrow2' : w2.ownsRow w.heap.size 23 1 (.slice a xs.length c) xs.length (nv xs) := hrow2
          go_wp2_with (at_builtin; refine wpList_append_nums rfl (.tmp 44) (.tmp 46) rfl w.heap.size _ xs.length (nv xs) rfl hrow2' A m c2 ys hyl rfl (fun h => absurd h hA) hn2 (by omega) hsz2 ?_; intro v' w3 hown3 hgrow3)
          have hb3 : Below w.heap.size w w3 := hbw2.grown hgrow3 hsz2 (fun k hk => (hrow2'.lt k hk).1)
          have hrow3 := HX3.out v' w3 hown3
          go_wp2_with fail
          refine ⟨⟨t.extract en t.size, xs ++ ys, rfl, by simp; omega, by rw [List.length_append]; omega, hrow3, Lib.hid ?_, hb3⟩, ?_⟩
          · rw [HN.out, cut_data]
          · obtain ⟨a3, c3, e3, _⟩ := numRow_nums hrow3
            rw [e3]; simp [lenS]; omega
        | blk ys =>
          obtain ⟨A, c2, rfl, hn1⟩ := hpv
          simp only [H.Part.nums] at hy1 hy2 HN
          have hA : A ≠ none := fun e => by
            obtain ⟨b, off, e', _⟩ := hn1 (fun e => by rw [e] at hy1; simp at hy1)
            rw [e] at e'; cases e'
          have HX3 := Lib.hid (fun (v' : Value) (w3 : World) (h : w3.ownsRow w.heap.size 23 1 v' (xs.length + ys.length) (nv xs ++ nv ys)) => show NumRow w.heap.size (xs ++ ys) v' w3 by
            unfold NumRow; rw [List.length_append]; simpa [nv] using h)
          have hrow2' : w1.ownsRow w.heap.size 23 1 (.slice a xs.length c) xs.length (nv xs) := hrow1
          go_wp2_with fail
          refine (bnums_any _ _).mono ?_
          rintro e2 w2 ⟨rfl, rfl⟩
          go_wp2_with (at_builtin; refine wpList_append_nums rfl (.tmp 44) (.tmp 46) rfl w.heap.size _ xs.length (nv xs) rfl hrow2' A ys.length c2 ys rfl rfl (fun h => absurd h hA) hn1 (by omega) hsz1 ?_; intro v' w3 hown3 hgrow3)
          have hb3 : Below w.heap.size w w3 := hbw1.grown hgrow3 hsz1 (fun k hk => (hrow2'.lt k hk).1)
          have hrow3 := HX3.out v' w3 hown3
          go_wp2_with fail
          refine ⟨⟨t.extract en t.size, xs ++ ys, rfl, by simp; omega, by rw [List.length_append]; omega, hrow3, Lib.hid ?_, hb3⟩, ?_⟩
          · rw [HN.out, cut_data]
          · obtain ⟨a3, c3, e3, _⟩ := numRow_nums hrow3
            rw [e3]; simp [lenS]; omega
      · rw [if_neg he] at hpost
        subst hpost
        have g5 : ((er : Int) != 0) = true := by rw [bne_iff_ne]; omega
        have HE := Lib.hid (show R = ([], er) by rw [HK.out, HBD.out he]; unfold H.pre; simp [he])
        go_wp2_with fail
        go_ret2
        rw [HE.out]
        exact ⟨none, 0, rfl, Nums.nil _ _ _, Nat.le_refl _, by unfold maxLen; omega, below_then hbw hb1⟩
    · obtain rfl : many = xs.length := by omega
      have hz : xs.length - xs.length = 0 := Nat.sub_self _
      have HK2 := Lib.hid (show R = H.pre xs ([], if t.data.toList = [] then 0 else 1) by rw [HK.out, hz, H.read_zero])
      by_cases ht : t.size = 0
      · have HE := Lib.hid (show R = (xs, 0) by rw [HK2.out, if_pos (data_empty t ht)]; simp [H.pre])
        have g5 := empty_true t ht
        go_wp2_with fail
        go_ret2
        rw [HE.out]
        exact ⟨_, _, rfl, hnum, hlc, hcm, hbw⟩
      · have HE := Lib.hid (show R = ([], 1) by rw [HK2.out, if_neg (data_ne t ht)]; simp [H.pre])
        have g5 := empty_false t ht
        go_wp2_with fail
        go_ret2
        rw [HE.out]
        exact ⟨none, 0, rfl, Nums.nil _ _ _, Nat.le_refl _, by unfold maxLen; omega, hbw⟩

theorem hread_any (s : ByteArray) (many wide : Int) (w : World) (hs : s.size ≤ maxLen) :
    Calls Try.prog 67 #[.string s, .int .i64 many, .int .i64 wide] w (AllPostC (hreadR s.data.toList many wide) w) := by
  unfold hreadR
  by_cases h0 : wide < 0 ∨ 64 < wide ∨ many < 0
  · rw [if_pos h0]; exact hread_range s many wide w h0
  rw [if_neg h0]
  obtain ⟨n, rfl⟩ : ∃ n : Nat, wide = n := ⟨wide.toNat, by omega⟩
  by_cases h1 : 64 < many
  · rw [if_pos h1]; exact hread_many s many n w (by omega) h1
  obtain ⟨m, rfl⟩ : ∃ m : Nat, many = m := ⟨many.toNat, by omega⟩
  rw [if_neg h1, Int.toNat_natCast, Int.toNat_natCast]
  exact hread_in s m n w hs (by omega) (by omega)
end Go.Proofs.Ytpjmpbpbfjemdaa
