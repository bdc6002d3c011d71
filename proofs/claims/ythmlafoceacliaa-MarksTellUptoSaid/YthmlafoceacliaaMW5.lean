/- The walks of rank.each for Not, of empty lists, and of And, Or, Not. -/
import Derived.Test.YthmlafoceacliaaMW4
namespace Go.Proofs.Ythmlafoceacliaa
open Go.RowKit
set_option linter.unusedVariables false

set_option maxHeartbeats 400000 in
theorem each_badNot (g n c cp : Nat) (a : Option Addr) (w : World) (hf : fit1 n ≠ 0)
    (h0 : w.cell? ⟨g, 0, none⟩ = some (.slice a n c)) :
    Calls Try.prog 29 #[.func (.func 32) #[] #[], .slice (some ⟨g, 0, none⟩) 1 cp] w (MarkPost ([], fit1 n) w) := by
  have HF := Lib.hid (fit_one g n c cp a w h0)
  have g1 : ((fit1 n : Int) != 0) = true := by rw [bne_iff_ne]; omega
  generalize fit1 n = er at *
  clear hf
  go_enter Try.func29, Try.ntmps29
  go_wp2_with fail
  refine (HF.out).mono ?_
  rintro e w1 ⟨rfl, rfl⟩
  go_wp2_with fail
  go_ret2
  exact ⟨none, 0, rfl, Bools.nil _ _ _, Below.refl _ _⟩

set_option maxHeartbeats 4000000 in
set_option maxRecDepth 100000 in
theorem each_okNot (g ba oa c cp : Nat) (l : List Bool) (w : World) (hl : l.length ≤ 64)
    (hg : g < w.heap.size) (h0 : w.cell? ⟨g, 0, none⟩ = some (.slice (some ⟨ba, oa, none⟩) l.length c))
    (hba : ba < w.heap.size)
    (ha : ∀ i, i < l.length → w.cell? ⟨ba, oa + i, none⟩ = some (.bool (l.getD i false))) :
    Calls Try.prog 29 #[.func (.func 32) #[] #[], .slice (some ⟨g, 0, none⟩) 1 cp] w (MarkPost (M.notL l, 0) w) := by
  obtain ⟨i0, hi, hz0, hz1, hz2⟩ := info_parts info_bool
  have HF2 := Lib.hid (show ∀ gm x w', MBlk w' gm [x] → Calls Try.prog 32 #[.slice (some ⟨gm, 0, none⟩) 1 1] w' fun e w'' => e = .returned (.bool (!x)) ∧ w' = w'' from
    fun gm x w' hm => by have := mkNot (some ⟨gm, 0, none⟩) 1 [x] w' _ (by simp) hm.bools; rw [M.mNot_one] at this; exact this)
  have hft := fit_one g l.length c cp _ w h0
  have hf0 : fit1 l.length = 0 := by rw [fit1, if_neg (by omega)]
  rw [hf0] at hft
  have HFT := Lib.hid hft
  have HA := Lib.hid ha
  have HZG := Lib.hid (fun k hk => notL_get l k hk)
  have HZL := Lib.hid (notL_length l)
  clear hft hf0 ha
  generalize hn : l.length = n at *
  have HN := Lib.hid hn
  generalize M.notL l = zs at *
  clear hn
  go_enter Try.func29, Try.ntmps29
  go_wp2_with fail
  refine (HFT.out).mono ?_
  rintro e w1 ⟨rfl, rfl⟩
  go_wp2_with (at_make; first
    | ((refine wpList_make_full _ rfl (.tmp 20) (.tmp 20) 22 rfl w.heap.size 4 i0 (.bool false) 1 Try.underlying22 hi hz0 hz1 .i64 .i64 _ _ n rfl rfl rfl rfl (by rw [hz2]; omega) (by unfold maxLen; omega) (Nat.le_refl _) ?_); intro w0 hown0 hgrow0; have hb0 : Below w.heap.size w w0 := (Below.refl _ _).grown hgrow0 (Nat.le_refl _) (fun k hk => by cases hk); have hblk0 := made_mblk hown0; clear hown0 hgrow0)
    | ((refine wpList_make_full _ rfl (.tmp 23) (.tmp 23) 22 rfl w0.heap.size 4 i0 (.bool false) 1 Try.underlying22 hi hz0 hz1 .i64 .i64 _ _ 1 rfl rfl rfl rfl (by rw [hz2]; omega) (by unfold maxLen; omega) (Nat.le_refl _) ?_); intro w2 hown2 hgrow2; have hb2 : Below w0.heap.size w0 w2 := (Below.refl _ _).grown hgrow2 (Nat.le_refl _) (fun k hk => by cases hk); have hblk2 := made_mblk hown2; clear hown2 hgrow2))
  have hgo : w.heap.size < w0.heap.size := hblk0.lt
  have hblk0' : MBlk w2 w.heap.size (List.replicate n false) := (hb2.block _ hblk0.lt).trans hblk0
  have hb02 : Below w.heap.size w w2 := below_then hb0 hb2
  clear hblk0 hb2 hb0
  obtain ⟨go, hgoe⟩ : ∃ go, go = w.heap.size := ⟨_, rfl⟩
  obtain ⟨gm, hgme⟩ : ∃ gm, gm = w0.heap.size := ⟨_, rfl⟩
  rw [← hgoe] at hblk0' ⊢
  rw [← hgme] at hblk2 ⊢
  have hne : gm ≠ go := by omega
  have hgmw : w.heap.size ≤ gm := by omega
  have hgow : w.heap.size ≤ go := by omega
  have HGO := Lib.hid hgoe
  have HNE := Lib.hid hne
  have HP := Lib.hid (fun k hk => put_next zs k n HZL.out hk)
  clear hgoe hgme hne
  go_loopw [9, 10, 11, 27] (fun _ _ _ i wr => ∃ (k : Nat) (p : Bool), k ≤ n ∧ i = .int .i64 k ∧ MBlk wr go (zs.take k ++ List.replicate (n - k) false) ∧ MBlk wr gm [p] ∧ Below w.heap.size w wr) (fun _ _ _ i _ => n - (intOf i).toNat)
  case atStart => exact ⟨0, false, by omega, rfl, by simpa using hblk0', hblk2, hb02⟩
  case round =>
    obtain ⟨k, p, hk, rfl, hbo, hbm, hbw⟩ := hrel
    have c0 : wr.cell? ⟨g, 0, none⟩ = some (.slice (some ⟨ba, oa, none⟩) n c) := (hbw.cell (p := ⟨g, 0, none⟩) hg).trans h0
    by_cases hlt : k < n
    · have ca : wr.cell? ⟨ba, oa + k, none⟩ = some (.bool (l.getD k false)) := (hbw.cell (p := ⟨ba, oa + k, none⟩) hba).trans (HA.out k hlt)
      have HZ := Lib.hid (HZG.out k hlt)
      have HPK := Lib.hid (HP.out k hlt)
      generalize l.getD k false = x at *
      have m0 := hbm.cell 0 (by simp)
      have f0 := hbm.free 0
      have hw4 : Below w.heap.size w (wr.setCell ⟨gm, 0, none⟩ (.bool x)) := hbw.setCell hgmw _
      have hm4 : MBlk (wr.setCell ⟨gm, 0, none⟩ (.bool x)) gm [x] := hbm.put 0 x
      have ho4 := hbo.other 0 (.bool x) HNE.out
      go_wp2_with fail
      refine wp_loop_rounds 2 ?_
      rw [rounds_succ]
      go_wp2_with fail
      obtain ⟨w5, hw5⟩ : ∃ w5, w5 = wr.setCell ⟨gm, 0, none⟩ (.bool x) := ⟨_, rfl⟩
      rw [← hw5] at hw4 hm4 ho4 ⊢
      clear hw5 c0 ca m0 f0
      have HC5 := Lib.hid (HF2.out gm x w5 hm4)
      have ol : k < (zs.take k ++ List.replicate (n - k) false).length := by simp only [List.length_append, List.length_take, List.length_replicate]; have := HZL.out; omega
      have o1 := ho4.cell k ol
      have o2 := ho4.free k
      have ho6 := ho4.put k (!x)
      have hm6 := hm4.other k (.bool (!x)) (Ne.symm HNE.out)
      have hw6 : Below w.heap.size w (w5.setCell ⟨go, k, none⟩ (.bool (!x))) := hw4.setCell hgow _
      rw [← HZ.out, HPK.out] at ho6
      rw [HZ.out] at ho6
      clear HPK HZ
      generalize (!x) = z at *
      generalize (zs.take k ++ List.replicate (n - k) false).getD k false = oz at *
      clear ol
      rw [rounds_succ]
      go_wp2_with fail
      refine (HC5.out).mono ?_
      rintro e w7 ⟨rfl, rfl⟩
      go_wp2_with fail
      exact ⟨⟨k + 1, x, by omega, by go_num, ho6, hm6, hw6⟩, by simp [intOf]; omega⟩
    · obtain rfl : k = n := by omega
      have HZA := Lib.hid (show zs.take k ++ List.replicate (k - k) false = zs by rw [Nat.sub_self, List.take_of_length_le (by rw [HZL.out]; omega)]; simp)
      rw [HZA.out] at hbo
      have hr := hbo.bools
      have HL2 := Lib.hid HZL.out
      go_wp2_with fail
      go_ret2
      refine ⟨some ⟨go, 0, none⟩, k, ?_, hr, hbw⟩
      rw [HL2.out]; rfl

set_option maxHeartbeats 1000000 in
set_option maxRecDepth 100000 in
theorem each_nilAnd (g c d cp : Nat) (a b : Option Addr) (w : World) (h0 : w.cell? ⟨g, 0, none⟩ = some (.slice a 0 c)) (h1 : w.cell? ⟨g, 1, none⟩ = some (.slice b 0 d)) :
    Calls Try.prog 29 #[.func (.func 30) #[] #[], .slice (some ⟨g, 0, none⟩) 2 cp] w (MarkPost ([], 0) w) := by
  obtain ⟨i0, hi, hz0, hz1, hz2⟩ := info_parts info_bool
  have HFT := Lib.hid (show Calls Try.prog 38 #[.slice (some ⟨g, 0, none⟩) 2 cp] w (IntPost 0 w) from fit_two g 0 0 c d cp a b w h0 h1)
  go_enter Try.func29, Try.ntmps29
  go_wp2_with fail
  refine (HFT.out).mono ?_
  rintro e w1 ⟨rfl, rfl⟩
  go_wp2_with (at_make; first
    | ((refine wpList_make_full _ rfl (.tmp 20) (.tmp 20) 22 rfl w.heap.size 4 i0 (.bool false) 1 Try.underlying22 hi hz0 hz1 .i64 .i64 _ _ 0 rfl rfl rfl rfl (by rw [hz2]; omega) (by unfold maxLen; omega) (Nat.le_refl _) ?_); intro w0 hown0 hgrow0; have hb0 : Below w.heap.size w w0 := (Below.refl _ _).grown hgrow0 (Nat.le_refl _) (fun k hk => by cases hk); clear hown0 hgrow0)
    | ((refine wpList_make_full _ rfl (.tmp 23) (.tmp 23) 22 rfl w0.heap.size 4 i0 (.bool false) 1 Try.underlying22 hi hz0 hz1 .i64 .i64 _ _ 2 rfl rfl rfl rfl (by rw [hz2]; omega) (by unfold maxLen; omega) (Nat.le_refl _) ?_); intro w2 hown2 hgrow2; have hb2 : Below w0.heap.size w0 w2 := (Below.refl _ _).grown hgrow2 (Nat.le_refl _) (fun k hk => by cases hk); clear hown2 hgrow2))
  refine wp_loop_rounds 1 ?_
  rw [rounds_succ]
  go_wp2_with fail
  go_ret2
  exact ⟨_, _, rfl, Bools.nil _ _ _, below_then hb0 hb2⟩

set_option maxHeartbeats 1000000 in
set_option maxRecDepth 100000 in
theorem each_nilOr (g c d cp : Nat) (a b : Option Addr) (w : World) (h0 : w.cell? ⟨g, 0, none⟩ = some (.slice a 0 c)) (h1 : w.cell? ⟨g, 1, none⟩ = some (.slice b 0 d)) :
    Calls Try.prog 29 #[.func (.func 31) #[] #[], .slice (some ⟨g, 0, none⟩) 2 cp] w (MarkPost ([], 0) w) := by
  obtain ⟨i0, hi, hz0, hz1, hz2⟩ := info_parts info_bool
  have HFT := Lib.hid (show Calls Try.prog 38 #[.slice (some ⟨g, 0, none⟩) 2 cp] w (IntPost 0 w) from fit_two g 0 0 c d cp a b w h0 h1)
  go_enter Try.func29, Try.ntmps29
  go_wp2_with fail
  refine (HFT.out).mono ?_
  rintro e w1 ⟨rfl, rfl⟩
  go_wp2_with (at_make; first
    | ((refine wpList_make_full _ rfl (.tmp 20) (.tmp 20) 22 rfl w.heap.size 4 i0 (.bool false) 1 Try.underlying22 hi hz0 hz1 .i64 .i64 _ _ 0 rfl rfl rfl rfl (by rw [hz2]; omega) (by unfold maxLen; omega) (Nat.le_refl _) ?_); intro w0 hown0 hgrow0; have hb0 : Below w.heap.size w w0 := (Below.refl _ _).grown hgrow0 (Nat.le_refl _) (fun k hk => by cases hk); clear hown0 hgrow0)
    | ((refine wpList_make_full _ rfl (.tmp 23) (.tmp 23) 22 rfl w0.heap.size 4 i0 (.bool false) 1 Try.underlying22 hi hz0 hz1 .i64 .i64 _ _ 2 rfl rfl rfl rfl (by rw [hz2]; omega) (by unfold maxLen; omega) (Nat.le_refl _) ?_); intro w2 hown2 hgrow2; have hb2 : Below w0.heap.size w0 w2 := (Below.refl _ _).grown hgrow2 (Nat.le_refl _) (fun k hk => by cases hk); clear hown2 hgrow2))
  refine wp_loop_rounds 1 ?_
  rw [rounds_succ]
  go_wp2_with fail
  go_ret2
  exact ⟨_, _, rfl, Bools.nil _ _ _, below_then hb0 hb2⟩

set_option maxHeartbeats 1000000 in
set_option maxRecDepth 100000 in
theorem each_nilNot (g c cp : Nat) (a : Option Addr) (w : World) (h0 : w.cell? ⟨g, 0, none⟩ = some (.slice a 0 c)) :
    Calls Try.prog 29 #[.func (.func 32) #[] #[], .slice (some ⟨g, 0, none⟩) 1 cp] w (MarkPost ([], 0) w) := by
  obtain ⟨i0, hi, hz0, hz1, hz2⟩ := info_parts info_bool
  have HFT := Lib.hid (show Calls Try.prog 38 #[.slice (some ⟨g, 0, none⟩) 1 cp] w (IntPost 0 w) from fit_one g 0 c cp a w h0)
  go_enter Try.func29, Try.ntmps29
  go_wp2_with fail
  refine (HFT.out).mono ?_
  rintro e w1 ⟨rfl, rfl⟩
  go_wp2_with (at_make; first
    | ((refine wpList_make_full _ rfl (.tmp 20) (.tmp 20) 22 rfl w.heap.size 4 i0 (.bool false) 1 Try.underlying22 hi hz0 hz1 .i64 .i64 _ _ 0 rfl rfl rfl rfl (by rw [hz2]; omega) (by unfold maxLen; omega) (Nat.le_refl _) ?_); intro w0 hown0 hgrow0; have hb0 : Below w.heap.size w w0 := (Below.refl _ _).grown hgrow0 (Nat.le_refl _) (fun k hk => by cases hk); clear hown0 hgrow0)
    | ((refine wpList_make_full _ rfl (.tmp 23) (.tmp 23) 22 rfl w0.heap.size 4 i0 (.bool false) 1 Try.underlying22 hi hz0 hz1 .i64 .i64 _ _ 1 rfl rfl rfl rfl (by rw [hz2]; omega) (by unfold maxLen; omega) (Nat.le_refl _) ?_); intro w2 hown2 hgrow2; have hb2 : Below w0.heap.size w0 w2 := (Below.refl _ _).grown hgrow2 (Nat.le_refl _) (fun k hk => by cases hk); clear hown2 hgrow2))
  refine wp_loop_rounds 1 ?_
  rw [rounds_succ]
  go_wp2_with fail
  go_ret2
  exact ⟨_, _, rfl, Bools.nil _ _ _, below_then hb0 hb2⟩

set_option maxHeartbeats 400000 in
theorem eachAnd (g c d cp : Nat) (a b : Option Addr) (l m : List Bool) (w : World) (hg : g < w.heap.size) (h0 : w.cell? ⟨g, 0, none⟩ = some (.slice a l.length c)) (h1 : w.cell? ⟨g, 1, none⟩ = some (.slice b m.length d))
    (ha : Bools w w.heap.size a l) (hb : Bools w w.heap.size b m) :
    Calls Try.prog 29 #[.func (.func 30) #[] #[], .slice (some ⟨g, 0, none⟩) 2 cp] w (MarkPost (M.pairR and l m) w) := by
  by_cases hf : fit2 l.length m.length = 0
  · have hle : l.length ≤ 64 ∧ l.length = m.length := by
      unfold fit2 at hf
      by_cases h2 : 64 < l.length ∨ 64 < m.length
      · rw [if_pos h2] at hf; omega
      · rw [if_neg h2] at hf
        by_cases h3 : l.length = m.length
        · omega
        · rw [if_pos h3] at hf; omega
    rw [M.pairR, if_neg (by omega), if_neg (by omega)]
    by_cases hn : l = []
    · subst hn
      obtain rfl : m = [] := List.eq_nil_of_length_eq_zero hle.2.symm
      exact each_nilAnd g c d cp a b w h0 h1
    · obtain ⟨ba, oa, rfl, hba, hca⟩ := ha hn
      obtain ⟨bb, ob, rfl, hbb, hcb⟩ := hb (by intro e; rw [e] at hle; exact hn (List.eq_nil_of_length_eq_zero hle.2))
      exact each_okAnd and M.mAnd_two g ba oa bb ob c d cp l m w hle.1 hle.2 hg h0 h1 hba hbb hca hcb
  · have he : M.pairR and l m = ([], fit2 l.length m.length) := by
      unfold fit2 at hf ⊢
      unfold M.pairR
      by_cases h2 : 64 < l.length ∨ 64 < m.length
      · rw [if_pos h2, if_pos h2]
      · rw [if_neg h2, if_neg h2]
        rw [if_neg h2] at hf
        by_cases h3 : l.length = m.length
        · rw [if_neg (by omega)] at hf; omega
        · rw [if_pos h3, if_pos h3]
    rw [he]
    exact each_badAnd g _ _ c d cp a b w hf h0 h1

set_option maxHeartbeats 400000 in
set_option maxRecDepth 100000 in
theorem and_any (a b : Option Addr) (c d : Nat) (l m : List Bool) (w : World) (ha : Bools w w.heap.size a l) (hb : Bools w w.heap.size b m) :
    Calls Try.prog 16 #[.slice a l.length c, .slice b m.length d] w (MarkPost (M.pairR and l m) w) := by
  have hal : Below w.heap.size w (w.alloc (.cells #[.slice a l.length c, .slice b m.length d] 22)) := (Below.refl _ _).alloc (Nat.le_refl _) _
  have HE := Lib.hid (eachAnd w.heap.size c d 2 a b l m (w.alloc (.cells #[.slice a l.length c, .slice b m.length d] 22)) (by simp) (by rw [World.cell?_alloc_new]; rfl) (by rw [World.cell?_alloc_new]; rfl) (ha.next hal) (hb.next hal))
  generalize M.pairR and l m = r at *
  go_enter Try.func16, Try.ntmps16
  go_wp2_with fail
  refine (HE.out).mono ?_
  rintro e w1 ⟨a1, c1, rfl, hn1, hb1⟩
  go_wp2_with fail
  go_ret2
  exact ⟨a1, c1, rfl, hn1, below_then hal hb1⟩

set_option maxHeartbeats 400000 in
theorem eachOr (g c d cp : Nat) (a b : Option Addr) (l m : List Bool) (w : World) (hg : g < w.heap.size) (h0 : w.cell? ⟨g, 0, none⟩ = some (.slice a l.length c)) (h1 : w.cell? ⟨g, 1, none⟩ = some (.slice b m.length d))
    (ha : Bools w w.heap.size a l) (hb : Bools w w.heap.size b m) :
    Calls Try.prog 29 #[.func (.func 31) #[] #[], .slice (some ⟨g, 0, none⟩) 2 cp] w (MarkPost (M.pairR or l m) w) := by
  by_cases hf : fit2 l.length m.length = 0
  · have hle : l.length ≤ 64 ∧ l.length = m.length := by
      unfold fit2 at hf
      by_cases h2 : 64 < l.length ∨ 64 < m.length
      · rw [if_pos h2] at hf; omega
      · rw [if_neg h2] at hf
        by_cases h3 : l.length = m.length
        · omega
        · rw [if_pos h3] at hf; omega
    rw [M.pairR, if_neg (by omega), if_neg (by omega)]
    by_cases hn : l = []
    · subst hn
      obtain rfl : m = [] := List.eq_nil_of_length_eq_zero hle.2.symm
      exact each_nilOr g c d cp a b w h0 h1
    · obtain ⟨ba, oa, rfl, hba, hca⟩ := ha hn
      obtain ⟨bb, ob, rfl, hbb, hcb⟩ := hb (by intro e; rw [e] at hle; exact hn (List.eq_nil_of_length_eq_zero hle.2))
      exact each_okOr or M.mOr_two g ba oa bb ob c d cp l m w hle.1 hle.2 hg h0 h1 hba hbb hca hcb
  · have he : M.pairR or l m = ([], fit2 l.length m.length) := by
      unfold fit2 at hf ⊢
      unfold M.pairR
      by_cases h2 : 64 < l.length ∨ 64 < m.length
      · rw [if_pos h2, if_pos h2]
      · rw [if_neg h2, if_neg h2]
        rw [if_neg h2] at hf
        by_cases h3 : l.length = m.length
        · rw [if_neg (by omega)] at hf; omega
        · rw [if_pos h3, if_pos h3]
    rw [he]
    exact each_badOr g _ _ c d cp a b w hf h0 h1

set_option maxHeartbeats 400000 in
set_option maxRecDepth 100000 in
theorem or_any (a b : Option Addr) (c d : Nat) (l m : List Bool) (w : World) (ha : Bools w w.heap.size a l) (hb : Bools w w.heap.size b m) :
    Calls Try.prog 17 #[.slice a l.length c, .slice b m.length d] w (MarkPost (M.pairR or l m) w) := by
  have hal : Below w.heap.size w (w.alloc (.cells #[.slice a l.length c, .slice b m.length d] 22)) := (Below.refl _ _).alloc (Nat.le_refl _) _
  have HE := Lib.hid (eachOr w.heap.size c d 2 a b l m (w.alloc (.cells #[.slice a l.length c, .slice b m.length d] 22)) (by simp) (by rw [World.cell?_alloc_new]; rfl) (by rw [World.cell?_alloc_new]; rfl) (ha.next hal) (hb.next hal))
  generalize M.pairR or l m = r at *
  go_enter Try.func17, Try.ntmps17
  go_wp2_with fail
  refine (HE.out).mono ?_
  rintro e w1 ⟨a1, c1, rfl, hn1, hb1⟩
  go_wp2_with fail
  go_ret2
  exact ⟨a1, c1, rfl, hn1, below_then hal hb1⟩

set_option maxHeartbeats 400000 in
theorem eachNot (g c cp : Nat) (a : Option Addr) (l : List Bool) (w : World) (hg : g < w.heap.size) (h0 : w.cell? ⟨g, 0, none⟩ = some (.slice a l.length c)) (ha : Bools w w.heap.size a l) :
    Calls Try.prog 29 #[.func (.func 32) #[] #[], .slice (some ⟨g, 0, none⟩) 1 cp] w (MarkPost (M.notR l) w) := by
  by_cases hf : 64 < l.length
  · have he : fit1 l.length = 2 := by rw [fit1, if_pos hf]
    rw [M.notR, if_pos hf, ← he]
    exact each_badNot g _ c cp a w (by omega) h0
  · rw [M.notR, if_neg hf]
    by_cases hn : l = []
    · subst hn; exact each_nilNot g c cp a w h0
    · obtain ⟨ba, oa, rfl, hba, hca⟩ := ha hn
      exact each_okNot g ba oa c cp l w (by omega) hg h0 hba hca

set_option maxHeartbeats 400000 in
set_option maxRecDepth 100000 in
theorem not_any (a : Option Addr) (c : Nat) (l : List Bool) (w : World) (ha : Bools w w.heap.size a l) :
    Calls Try.prog 18 #[.slice a l.length c] w (MarkPost (M.notR l) w) := by
  have hal : Below w.heap.size w (w.alloc (.cells #[.slice a l.length c] 22)) := (Below.refl _ _).alloc (Nat.le_refl _) _
  have HE := Lib.hid (eachNot w.heap.size c 1 a l (w.alloc (.cells #[.slice a l.length c] 22)) (by simp) (by rw [World.cell?_alloc_new]; rfl) (ha.next hal))
  generalize M.notR l = r at *
  go_enter Try.func18, Try.ntmps18
  go_wp2_with fail
  refine (HE.out).mono ?_
  rintro e w1 ⟨a1, c1, rfl, hn1, hb1⟩
  go_wp2_with fail
  go_ret2
  exact ⟨a1, c1, rfl, hn1, below_then hal hb1⟩

end Go.Proofs.Ythmlafoceacliaa
