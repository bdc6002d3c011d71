/- The walks of rank.each, And, Or, Not. -/
import Derived.Test.YthmlafoceacliaaMW3
namespace Go.Proofs.Ythmlafoceacliaa
open Go.RowKit
set_option linter.unusedVariables false

theorem put_next (l : List Bool) (k n : Nat) (hn : l.length = n) (hk : k < n) : (l.take k ++ List.replicate (n - k) false).set k (l.getD k false) = l.take (k + 1) ++ List.replicate (n - (k + 1)) false := by
  have h1 : n - k = (n - (k + 1)) + 1 := by omega
  rw [h1, List.replicate_succ, List.set_append_right _ _ (by rw [List.length_take]; omega), M.take_snoc l k (by omega)]
  have h2 : k - (l.take k).length = 0 := by simp; omega
  rw [h2]; simp
theorem zipB_length (f : Bool → Bool → Bool) (a b : List Bool) : (M.zipB f a b).length = a.length := by simp [M.zipB]
theorem zipB_get (f : Bool → Bool → Bool) (a b : List Bool) (k : Nat) (hk : k < a.length) : (M.zipB f a b).getD k false = f (a.getD k false) (b.getD k false) := by
  simp [M.zipB, List.getD, hk]
theorem notL_get (a : List Bool) (k : Nat) (hk : k < a.length) : (M.notL a).getD k false = !(a.getD k false) := by
  simp [M.notL, List.getD, List.getElem?_eq_getElem hk]
theorem notL_length (a : List Bool) : (M.notL a).length = a.length := by simp [M.notL]

set_option maxHeartbeats 400000 in
theorem each_badAnd (g n m c d cp : Nat) (a b : Option Addr) (w : World) (hf : fit2 n m ≠ 0)
    (h0 : w.cell? ⟨g, 0, none⟩ = some (.slice a n c)) (h1 : w.cell? ⟨g, 1, none⟩ = some (.slice b m d)) :
    Calls Try.prog 29 #[.func (.func 30) #[] #[], .slice (some ⟨g, 0, none⟩) 2 cp] w (MarkPost ([], fit2 n m) w) := by
  have HF := Lib.hid (fit_two g n m c d cp a b w h0 h1)
  have g1 : ((fit2 n m : Int) != 0) = true := by rw [bne_iff_ne]; omega
  generalize fit2 n m = er at *
  clear hf
  go_enter Try.func29, Try.ntmps29
  go_wp2_with fail
  refine (HF.out).mono ?_
  rintro e w1 ⟨rfl, rfl⟩
  go_wp2_with fail
  go_ret2
  exact ⟨none, 0, rfl, Bools.nil _ _ _, Below.refl _ _⟩

set_option maxHeartbeats 4000000 in
set_option maxRecDepth 100000 in
theorem each_okAnd (f : Bool → Bool → Bool) (hmk : ∀ x y, M.mAnd [x, y] = f x y) (g ba oa bb ob c d cp : Nat) (l m : List Bool) (w : World) (hl : l.length ≤ 64) (hlm : l.length = m.length)
    (hg : g < w.heap.size) (h0 : w.cell? ⟨g, 0, none⟩ = some (.slice (some ⟨ba, oa, none⟩) l.length c)) (h1 : w.cell? ⟨g, 1, none⟩ = some (.slice (some ⟨bb, ob, none⟩) m.length d))
    (hba : ba < w.heap.size) (hbb : bb < w.heap.size)
    (ha : ∀ i, i < l.length → w.cell? ⟨ba, oa + i, none⟩ = some (.bool (l.getD i false)))
    (hb : ∀ i, i < m.length → w.cell? ⟨bb, ob + i, none⟩ = some (.bool (m.getD i false))) :
    Calls Try.prog 29 #[.func (.func 30) #[] #[], .slice (some ⟨g, 0, none⟩) 2 cp] w (MarkPost (M.zipB f l m, 0) w) := by
  obtain ⟨i0, hi, hz0, hz1, hz2⟩ := info_parts info_bool
  have HF2 := Lib.hid (show ∀ gm x y w', MBlk w' gm [x, y] → Calls Try.prog 30 #[.slice (some ⟨gm, 0, none⟩) 2 2] w' fun e w'' => e = .returned (.bool (f x y)) ∧ w' = w'' from
    fun gm x y w' hm => by have := mkAnd (some ⟨gm, 0, none⟩) 2 [x, y] w' _ (by simp) hm.bools; rw [hmk] at this; exact this)
  have hft := fit_two g l.length m.length c d cp _ _ w h0 h1
  have hf0 : fit2 l.length m.length = 0 := by rw [fit2, if_neg (by omega), if_neg (by omega)]
  rw [hf0] at hft
  have HFT := Lib.hid hft
  have HA := Lib.hid ha
  have HB := Lib.hid hb
  have HZG := Lib.hid (fun k hk => zipB_get f l m k hk)
  have HZL := Lib.hid (zipB_length f l m)
  have HLM := Lib.hid hlm
  rw [← hlm] at h1
  clear hft hf0 ha hb hmk hlm
  generalize hn : l.length = n at *
  have HN := Lib.hid hn
  generalize M.zipB f l m = zs at *
  clear hn
  go_enter Try.func29, Try.ntmps29
  go_wp2_with fail
  refine (HFT.out).mono ?_
  rintro e w1 ⟨rfl, rfl⟩
  go_wp2_with (at_make; first
    | ((refine wpList_make_full _ rfl (.tmp 20) (.tmp 20) 22 rfl w.heap.size 4 i0 (.bool false) 1 Try.underlying22 hi hz0 hz1 .i64 .i64 _ _ n rfl rfl rfl rfl (by rw [hz2]; omega) (by unfold maxLen; omega) (Nat.le_refl _) ?_); intro w0 hown0 hgrow0; have hb0 : Below w.heap.size w w0 := (Below.refl _ _).grown hgrow0 (Nat.le_refl _) (fun k hk => by cases hk); have hblk0 := made_mblk hown0; clear hown0 hgrow0)
    | ((refine wpList_make_full _ rfl (.tmp 23) (.tmp 23) 22 rfl w0.heap.size 4 i0 (.bool false) 1 Try.underlying22 hi hz0 hz1 .i64 .i64 _ _ 2 rfl rfl rfl rfl (by rw [hz2]; omega) (by unfold maxLen; omega) (Nat.le_refl _) ?_); intro w2 hown2 hgrow2; have hb2 : Below w0.heap.size w0 w2 := (Below.refl _ _).grown hgrow2 (Nat.le_refl _) (fun k hk => by cases hk); have hblk2 := made_mblk hown2; clear hown2 hgrow2))
  have hgo : w.heap.size < w0.heap.size := hblk0.lt
  have hblk0' : MBlk w2 w.heap.size (List.replicate n false) := (hb2.block _ hblk0.lt).trans hblk0
  have hb02 : Below w.heap.size w w2 := below_then hb0 hb2
  clear hblk0 hb2 hb0
  obtain ⟨go, hgoe⟩ : ∃ go, go = w.heap.size := ⟨_, rfl⟩
  obtain ⟨gm, hgme⟩ : ∃ gm, gm = w0.heap.size := ⟨_, rfl⟩
  rw [← hgoe] at hblk0' ⊢
  rw [← hgme] at hblk2 ⊢
  have hne : gm ≠ go := by omega
  have hgmw : w.heap.size ≤ gm := by omega
  have hgow : w.heap.size ≤ go := by omega
  have HGO := Lib.hid hgoe
  have HNE := Lib.hid hne
  have HP := Lib.hid (fun k hk => put_next zs k n HZL.out hk)
  clear hgoe hgme hne
  go_loopw [9, 10, 11, 27] (fun _ _ _ i wr => ∃ (k : Nat) (p q : Bool), k ≤ n ∧ i = .int .i64 k ∧ MBlk wr go (zs.take k ++ List.replicate (n - k) false) ∧ MBlk wr gm [p, q] ∧ Below w.heap.size w wr) (fun _ _ _ i _ => n - (intOf i).toNat)
  case atStart => exact ⟨0, false, false, by omega, rfl, by simpa using hblk0', hblk2, hb02⟩
  case round =>
    obtain ⟨k, p, q, hk, rfl, hbo, hbm, hbw⟩ := hrel
    have c0 : wr.cell? ⟨g, 0, none⟩ = some (.slice (some ⟨ba, oa, none⟩) n c) := (hbw.cell (p := ⟨g, 0, none⟩) hg).trans h0
    have c1 : wr.cell? ⟨g, 1, none⟩ = some (.slice (some ⟨bb, ob, none⟩) n d) := (hbw.cell (p := ⟨g, 1, none⟩) hg).trans h1
    by_cases hlt : k < n
    · have ca : wr.cell? ⟨ba, oa + k, none⟩ = some (.bool (l.getD k false)) := (hbw.cell (p := ⟨ba, oa + k, none⟩) hba).trans (HA.out k hlt)
      have cb : wr.cell? ⟨bb, ob + k, none⟩ = some (.bool (m.getD k false)) := (hbw.cell (p := ⟨bb, ob + k, none⟩) hbb).trans (HB.out k (by have := HLM.out; omega))
      have HZ := Lib.hid (HZG.out k hlt)
      have HPK := Lib.hid (HP.out k hlt)
      generalize l.getD k false = x at *
      generalize m.getD k false = y at *
      have m0 := hbm.cell 0 (by simp)
      have f0 := hbm.free 0
      have m1 := hbm.cell 1 (by simp)
      have f1 := hbm.free 1
      have hw2' : Below w.heap.size w (wr.setCell ⟨gm, 0, none⟩ (.bool x)) := hbw.setCell hgmw _
      have hm2 := hbm.put 0 x
      have ho2 := hbo.other 0 (.bool x) HNE.out
      go_wp2_with fail
      refine wp_loop_rounds 3 ?_
      rw [rounds_succ]
      go_wp2_with fail
      obtain ⟨w3, hw3⟩ : ∃ w3, w3 = wr.setCell ⟨gm, 0, none⟩ (.bool x) := ⟨_, rfl⟩
      rw [← hw3] at hw2' hm2 ho2 ⊢
      have hm3 : MBlk w3 gm [x, q] := hm2
      have c1' : w3.cell? ⟨g, 1, none⟩ = some (.slice (some ⟨bb, ob, none⟩) n d) := (hw2'.cell (p := ⟨g, 1, none⟩) hg).trans h1
      have cb' : w3.cell? ⟨bb, ob + k, none⟩ = some (.bool y) := (hw2'.cell (p := ⟨bb, ob + k, none⟩) hbb).trans ((hbw.cell (p := ⟨bb, ob + k, none⟩) hbb).symm.trans cb)
      have m1' := hm3.cell 1 (by simp)
      have f1' := hm3.free 1
      have hw4 : Below w.heap.size w (w3.setCell ⟨gm, 1, none⟩ (.bool y)) := hw2'.setCell hgmw _
      have hm4 : MBlk (w3.setCell ⟨gm, 1, none⟩ (.bool y)) gm [x, y] := hm3.put 1 y
      have ho4 := ho2.other 1 (.bool y) HNE.out
      clear hw3 c0 c1 ca cb m0 m1 f0 f1 hm2
      rw [rounds_succ]
      go_wp2_with fail
      obtain ⟨w5, hw5⟩ : ∃ w5, w5 = w3.setCell ⟨gm, 1, none⟩ (.bool y) := ⟨_, rfl⟩
      rw [← hw5] at hw4 hm4 ho4 ⊢
      clear hw5 c1' cb' m1' f1'
      have HC5 := Lib.hid (HF2.out gm x y w5 hm4)
      have ol : k < (zs.take k ++ List.replicate (n - k) false).length := by simp only [List.length_append, List.length_take, List.length_replicate]; have := HZL.out; omega
      have o1 := ho4.cell k ol
      have o2 := ho4.free k
      have ho6 := ho4.put k (f x y)
      have hm6 := hm4.other k (.bool (f x y)) (Ne.symm HNE.out)
      have hw6 : Below w.heap.size w (w5.setCell ⟨go, k, none⟩ (.bool (f x y))) := hw4.setCell hgow _
      rw [← HZ.out, HPK.out] at ho6
      rw [HZ.out] at ho6
      clear HPK HZ
      generalize f x y = z at *
      generalize (zs.take k ++ List.replicate (n - k) false).getD k false = oz at *
      clear hm3 ho2 hw2' ol
      rw [rounds_succ]
      go_wp2_with fail
      refine (HC5.out).mono ?_
      rintro e w7 ⟨rfl, rfl⟩
      go_wp2_with fail
      exact ⟨⟨k + 1, x, y, by omega, by go_num, ho6, hm6, hw6⟩, by simp [intOf]; omega⟩
    · obtain rfl : k = n := by omega
      have HZA := Lib.hid (show zs.take k ++ List.replicate (k - k) false = zs by rw [Nat.sub_self, List.take_of_length_le (by rw [HZL.out]; omega)]; simp)
      rw [HZA.out] at hbo
      have hr := hbo.bools
      have HL2 := Lib.hid HZL.out
      go_wp2_with fail
      go_ret2
      refine ⟨some ⟨go, 0, none⟩, k, ?_, hr, hbw⟩
      rw [HL2.out]; rfl

set_option maxHeartbeats 400000 in
theorem each_badOr (g n m c d cp : Nat) (a b : Option Addr) (w : World) (hf : fit2 n m ≠ 0)
    (h0 : w.cell? ⟨g, 0, none⟩ = some (.slice a n c)) (h1 : w.cell? ⟨g, 1, none⟩ = some (.slice b m d)) :
    Calls Try.prog 29 #[.func (.func 31) #[] #[], .slice (some ⟨g, 0, none⟩) 2 cp] w (MarkPost ([], fit2 n m) w) := by
  have HF := Lib.hid (fit_two g n m c d cp a b w h0 h1)
  have g1 : ((fit2 n m : Int) != 0) = true := by rw [bne_iff_ne]; omega
  generalize fit2 n m = er at *
  clear hf
  go_enter Try.func29, Try.ntmps29
  go_wp2_with fail
  refine (HF.out).mono ?_
  rintro e w1 ⟨rfl, rfl⟩
  go_wp2_with fail
  go_ret2
  exact ⟨none, 0, rfl, Bools.nil _ _ _, Below.refl _ _⟩

set_option maxHeartbeats 4000000 in
set_option maxRecDepth 100000 in
theorem each_okOr (f : Bool → Bool → Bool) (hmk : ∀ x y, M.mOr [x, y] = f x y) (g ba oa bb ob c d cp : Nat) (l m : List Bool) (w : World) (hl : l.length ≤ 64) (hlm : l.length = m.length)
    (hg : g < w.heap.size) (h0 : w.cell? ⟨g, 0, none⟩ = some (.slice (some ⟨ba, oa, none⟩) l.length c)) (h1 : w.cell? ⟨g, 1, none⟩ = some (.slice (some ⟨bb, ob, none⟩) m.length d))
    (hba : ba < w.heap.size) (hbb : bb < w.heap.size)
    (ha : ∀ i, i < l.length → w.cell? ⟨ba, oa + i, none⟩ = some (.bool (l.getD i false)))
    (hb : ∀ i, i < m.length → w.cell? ⟨bb, ob + i, none⟩ = some (.bool (m.getD i false))) :
    Calls Try.prog 29 #[.func (.func 31) #[] #[], .slice (some ⟨g, 0, none⟩) 2 cp] w (MarkPost (M.zipB f l m, 0) w) := by
  obtain ⟨i0, hi, hz0, hz1, hz2⟩ := info_parts info_bool
  have HF2 := Lib.hid (show ∀ gm x y w', MBlk w' gm [x, y] → Calls Try.prog 31 #[.slice (some ⟨gm, 0, none⟩) 2 2] w' fun e w'' => e = .returned (.bool (f x y)) ∧ w' = w'' from
    fun gm x y w' hm => by have := mkOr (some ⟨gm, 0, none⟩) 2 [x, y] w' _ (by simp) hm.bools; rw [hmk] at this; exact this)
  have hft := fit_two g l.length m.length c d cp _ _ w h0 h1
  have hf0 : fit2 l.length m.length = 0 := by rw [fit2, if_neg (by omega), if_neg (by omega)]
  rw [hf0] at hft
  have HFT := Lib.hid hft
  have HA := Lib.hid ha
  have HB := Lib.hid hb
  have HZG := Lib.hid (fun k hk => zipB_get f l m k hk)
  have HZL := Lib.hid (zipB_length f l m)
  have HLM := Lib.hid hlm
  rw [← hlm] at h1
  clear hft hf0 ha hb hmk hlm
  generalize hn : l.length = n at *
  have HN := Lib.hid hn
  generalize M.zipB f l m = zs at *
  clear hn
  go_enter Try.func29, Try.ntmps29
  go_wp2_with fail
  refine (HFT.out).mono ?_
  rintro e w1 ⟨rfl, rfl⟩
  go_wp2_with (at_make; first
    | ((refine wpList_make_full _ rfl (.tmp 20) (.tmp 20) 22 rfl w.heap.size 4 i0 (.bool false) 1 Try.underlying22 hi hz0 hz1 .i64 .i64 _ _ n rfl rfl rfl rfl (by rw [hz2]; omega) (by unfold maxLen; omega) (Nat.le_refl _) ?_); intro w0 hown0 hgrow0; have hb0 : Below w.heap.size w w0 := (Below.refl _ _).grown hgrow0 (Nat.le_refl _) (fun k hk => by cases hk); have hblk0 := made_mblk hown0; clear hown0 hgrow0)
    | ((refine wpList_make_full _ rfl (.tmp 23) (.tmp 23) 22 rfl w0.heap.size 4 i0 (.bool false) 1 Try.underlying22 hi hz0 hz1 .i64 .i64 _ _ 2 rfl rfl rfl rfl (by rw [hz2]; omega) (by unfold maxLen; omega) (Nat.le_refl _) ?_); intro w2 hown2 hgrow2; have hb2 : Below w0.heap.size w0 w2 := (Below.refl _ _).grown hgrow2 (Nat.le_refl _) (fun k hk => by cases hk); have hblk2 := made_mblk hown2; clear hown2 hgrow2))
  have hgo : w.heap.size < w0.heap.size := hblk0.lt
  have hblk0' : MBlk w2 w.heap.size (List.replicate n false) := (hb2.block _ hblk0.lt).trans hblk0
  have hb02 : Below w.heap.size w w2 := below_then hb0 hb2
  clear hblk0 hb2 hb0
  obtain ⟨go, hgoe⟩ : ∃ go, go = w.heap.size := ⟨_, rfl⟩
  obtain ⟨gm, hgme⟩ : ∃ gm, gm = w0.heap.size := ⟨_, rfl⟩
  rw [← hgoe] at hblk0' ⊢
  rw [← hgme] at hblk2 ⊢
  have hne : gm ≠ go := by omega
  have hgmw : w.heap.size ≤ gm := by omega
  have hgow : w.heap.size ≤ go := by omega
  have HGO := Lib.hid hgoe
  have HNE := Lib.hid hne
  have HP := Lib.hid (fun k hk => put_next zs k n HZL.out hk)
  clear hgoe hgme hne
  go_loopw [9, 10, 11, 27] (fun _ _ _ i wr => ∃ (k : Nat) (p q : Bool), k ≤ n ∧ i = .int .i64 k ∧ MBlk wr go (zs.take k ++ List.replicate (n - k) false) ∧ MBlk wr gm [p, q] ∧ Below w.heap.size w wr) (fun _ _ _ i _ => n - (intOf i).toNat)
  case atStart => exact ⟨0, false, false, by omega, rfl, by simpa using hblk0', hblk2, hb02⟩
  case round =>
    obtain ⟨k, p, q, hk, rfl, hbo, hbm, hbw⟩ := hrel
    have c0 : wr.cell? ⟨g, 0, none⟩ = some (.slice (some ⟨ba, oa, none⟩) n c) := (hbw.cell (p := ⟨g, 0, none⟩) hg).trans h0
    have c1 : wr.cell? ⟨g, 1, none⟩ = some (.slice (some ⟨bb, ob, none⟩) n d) := (hbw.cell (p := ⟨g, 1, none⟩) hg).trans h1
    by_cases hlt : k < n
    · have ca : wr.cell? ⟨ba, oa + k, none⟩ = some (.bool (l.getD k false)) := (hbw.cell (p := ⟨ba, oa + k, none⟩) hba).trans (HA.out k hlt)
      have cb : wr.cell? ⟨bb, ob + k, none⟩ = some (.bool (m.getD k false)) := (hbw.cell (p := ⟨bb, ob + k, none⟩) hbb).trans (HB.out k (by have := HLM.out; omega))
      have HZ := Lib.hid (HZG.out k hlt)
      have HPK := Lib.hid (HP.out k hlt)
      generalize l.getD k false = x at *
      generalize m.getD k false = y at *
      have m0 := hbm.cell 0 (by simp)
      have f0 := hbm.free 0
      have m1 := hbm.cell 1 (by simp)
      have f1 := hbm.free 1
      have hw2' : Below w.heap.size w (wr.setCell ⟨gm, 0, none⟩ (.bool x)) := hbw.setCell hgmw _
      have hm2 := hbm.put 0 x
      have ho2 := hbo.other 0 (.bool x) HNE.out
      go_wp2_with fail
      refine wp_loop_rounds 3 ?_
      rw [rounds_succ]
      go_wp2_with fail
      obtain ⟨w3, hw3⟩ : ∃ w3, w3 = wr.setCell ⟨gm, 0, none⟩ (.bool x) := ⟨_, rfl⟩
      rw [← hw3] at hw2' hm2 ho2 ⊢
      have hm3 : MBlk w3 gm [x, q] := hm2
      have c1' : w3.cell? ⟨g, 1, none⟩ = some (.slice (some ⟨bb, ob, none⟩) n d) := (hw2'.cell (p := ⟨g, 1, none⟩) hg).trans h1
      have cb' : w3.cell? ⟨bb, ob + k, none⟩ = some (.bool y) := (hw2'.cell (p := ⟨bb, ob + k, none⟩) hbb).trans ((hbw.cell (p := ⟨bb, ob + k, none⟩) hbb).symm.trans cb)
      have m1' := hm3.cell 1 (by simp)
      have f1' := hm3.free 1
      have hw4 : Below w.heap.size w (w3.setCell ⟨gm, 1, none⟩ (.bool y)) := hw2'.setCell hgmw _
      have hm4 : MBlk (w3.setCell ⟨gm, 1, none⟩ (.bool y)) gm [x, y] := hm3.put 1 y
      have ho4 := ho2.other 1 (.bool y) HNE.out
      clear hw3 c0 c1 ca cb m0 m1 f0 f1 hm2
      rw [rounds_succ]
      go_wp2_with fail
      obtain ⟨w5, hw5⟩ : ∃ w5, w5 = w3.setCell ⟨gm, 1, none⟩ (.bool y) := ⟨_, rfl⟩
      rw [← hw5] at hw4 hm4 ho4 ⊢
      clear hw5 c1' cb' m1' f1'
      have HC5 := Lib.hid (HF2.out gm x y w5 hm4)
      have ol : k < (zs.take k ++ List.replicate (n - k) false).length := by simp only [List.length_append, List.length_take, List.length_replicate]; have := HZL.out; omega
      have o1 := ho4.cell k ol
      have o2 := ho4.free k
      have ho6 := ho4.put k (f x y)
      have hm6 := hm4.other k (.bool (f x y)) (Ne.symm HNE.out)
      have hw6 : Below w.heap.size w (w5.setCell ⟨go, k, none⟩ (.bool (f x y))) := hw4.setCell hgow _
      rw [← HZ.out, HPK.out] at ho6
      rw [HZ.out] at ho6
      clear HPK HZ
      generalize f x y = z at *
      generalize (zs.take k ++ List.replicate (n - k) false).getD k false = oz at *
      clear hm3 ho2 hw2' ol
      rw [rounds_succ]
      go_wp2_with fail
      refine (HC5.out).mono ?_
      rintro e w7 ⟨rfl, rfl⟩
      go_wp2_with fail
      exact ⟨⟨k + 1, x, y, by omega, by go_num, ho6, hm6, hw6⟩, by simp [intOf]; omega⟩
    · obtain rfl : k = n := by omega
      have HZA := Lib.hid (show zs.take k ++ List.replicate (k - k) false = zs by rw [Nat.sub_self, List.take_of_length_le (by rw [HZL.out]; omega)]; simp)
      rw [HZA.out] at hbo
      have hr := hbo.bools
      have HL2 := Lib.hid HZL.out
      go_wp2_with fail
      go_ret2
      refine ⟨some ⟨go, 0, none⟩, k, ?_, hr, hbw⟩
      rw [HL2.out]; rfl
end Go.Proofs.Ythmlafoceacliaa
