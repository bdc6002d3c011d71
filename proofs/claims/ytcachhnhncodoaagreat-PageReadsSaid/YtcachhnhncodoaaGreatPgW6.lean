/- The walk of slices.Repeat (of one mark). -/
import Derived.Test.YtcachhnhncodoaaGreatP10
namespace Go.Proofs.YtcachhnhncodoaaGreat
open Go.RowKit
set_option linter.unusedVariables false

/-- the row behind a step of doubling -/
def dblB (T : Nat) (n : Bool) (k : Nat) : List Bool := List.replicate k n ++ List.replicate (T - k) false
theorem dblB_length (T : Nat) (n : Bool) (k : Nat) (h : k ≤ T) : (dblB T n k).length = T := by simp [dblB]; omega
theorem mv_dbl_splice (T : Nat) (n : Bool) (k j : Nat) (h : k + j ≤ T) : splice (mv (dblB T n k)) k (mv (List.replicate j n)) = mv (dblB T n (k + j)) := by
  unfold splice dblB
  simp only [mv, List.map_append, List.map_replicate, List.length_replicate, List.take_append, List.take_replicate, List.drop_append, List.drop_replicate]
  have e1 : k - (k + j) = 0 := by omega
  have e2 : T - k - (k + j - k) = T - (k + j) := by omega
  rw [Nat.min_self, Nat.sub_self, Nat.zero_min, e1, e2, ← List.replicate_append_replicate, List.replicate_zero, List.replicate_zero, List.append_nil, List.nil_append, List.append_assoc]
theorem pmv_length (l : List Bool) : (mv l).length = l.length := by simp [mv]
theorem mv_one (l : List Bool) : ∀ v ∈ mv l, v.oneCell' = true := by
  intro v hv; simp only [mv, List.mem_map] at hv; obtain ⟨x, _, rfl⟩ := hv; rfl
def BoolsOnly (l : List Bool) (w : World) (e : Ending) (w' : World) : Prop :=
  ∃ a c, e = .returned (.slice a l.length c) ∧ Bools w' w'.heap.size a l ∧ Below w.heap.size w w'

set_option maxHeartbeats 2000000 in
set_option maxRecDepth 100000 in
theorem repeatb_any (b off c m : Nat) (n : Bool) (w : World) (h1 : 1 ≤ m) (hm : m ≤ 64) (hb : b < w.heap.size) (hc : w.cell? ⟨b, off, none⟩ = some (.bool n)) :
    Calls Tryz.prog 81 #[.slice (some ⟨b, off, none⟩) 1 c, .int .i64 m] w (BoolsOnly (List.replicate m n) w) := by
  obtain ⟨i0, hi, hz0, hz1, hz2⟩ := info_parts info_bool
  have hw : IntKind.u64.wrap (m : Int) = (m : Int) := by rw [IntKind.wrap_u64]; omega
  go_enter Tryz.func81, Tryz.ntmps81
  go_wp2_with fail
  refine (mul_one m _ hm).mono ?_
  rintro e w1 ⟨rfl, rfl⟩
  go_wp2_with (at_make; refine wpList_make_full _ rfl _ _ 39 rfl w.heap.size 4 i0 (.bool false) 1 Tryz.underlying39 hi hz0 hz1 .i64 .i64 _ _ m rfl rfl rfl rfl (by rw [hz2]; omega) (by unfold maxLen; omega) (Nat.le_refl _) ?_; intro w0 hown0 hgrow0)
  have hb0 : Below w.heap.size w w0 := (Below.refl _ _).grown hgrow0 (Nat.le_refl _) (fun k hk => by cases hk)
  have hblk := made_mblk hown0
  have HHG := Lib.hid (show w0.heap[w.heap.size]? = some (.cells (mv (List.replicate m false)).toArray 4 (0, 0)) from hblk)
  have hcell0 := (hb0.cell (p := ⟨b, off, none⟩) hb).trans hc
  clear hblk hown0 hgrow0
  obtain ⟨g, hg⟩ : ∃ g, g = w.heap.size := ⟨_, rfl⟩
  rw [← hg] at HHG ⊢
  have hgl : w.heap.size ≤ g := by omega
  clear hg
  obtain ⟨w2, hcp, hg2, hb2⟩ : ∃ w2, (Builtin.copy_ #[39, 39] 3 #[.slice (some ⟨g, 0, none⟩) m m, .slice (some ⟨b, off, none⟩) 1 c]).run Tryz.prog w0 = .ok (goInt 1) w2 ∧ MBlk w2 g (dblB m n 1) ∧ Below w.heap.size w w2 := by
    refine ⟨_, run_copy_row (P := Tryz.prog) w0 39 39 3 4 g 0 m m ⟨b, off, none⟩ 1 c (mv (List.replicate m false)).toArray 4 (mv [n]) Tryz.underlying39 (by kernel_rfl) HHG.out (show 1 = Nat.min 1 m from (Nat.min_eq_left h1).symm) ?_ (by simp [mv]; omega) (mv_one [n]), ?_, below_setRow hb0 hgl _⟩
    · intro j v hj
      match j, hj with
      | 0, hj => simp [mv] at hj; subst hj; simpa [Addr.add] using hcell0
    have e : ((mv (List.replicate m false)).toArray.toList.take 0 ++ mv [n] ++ (mv (List.replicate m false)).toArray.toList.drop (0 + (mv [n]).length)) = mv (dblB m n 1) := by
      simp [mv, dblB]
    rw [e]
    exact setRow_heap w0 g _ _ _ _ HHG.out
  go_wp2_with fail
  rw [hcp]
  simp only [Result.andThen_ok]
  clear hcp HHG hcell0 hc
  go_wp2_with fail
  go_loopw [8] (fun i wr => ∃ k : Nat, 1 ≤ k ∧ k ≤ m ∧ i = .int .i64 k ∧ MBlk wr g (dblB m n k) ∧ Below w.heap.size w wr) (fun i _ => m - (intOf i).toNat)
  case atStart => exact ⟨1, by omega, by omega, rfl, hg2, hb2⟩
  case round =>
    obtain ⟨k, hk1, hk, rfl, hblk, hbw⟩ := hrel
    by_cases hlt : k < m
    · obtain ⟨j, hj⟩ : ∃ j, j = min k (m - k) := ⟨_, rfl⟩
      have hj1 : 1 ≤ j ∧ k + j ≤ m := by omega
      have hjn : j = Nat.min k (m - k) := hj
      obtain ⟨cs, hcs⟩ : ∃ cs, cs = mv (List.replicate j n) := ⟨_, rfl⟩
      have hcl : cs.length = j := by rw [hcs, pmv_length, List.length_replicate]
      have HC1 := Lib.hid (show cs.length = Nat.min k (m - k) by rw [hcl]; exact hj)
      have HC2 := Lib.hid (show k + cs.length ≤ (mv (dblB m n k)).length by rw [hcl, pmv_length, dblB_length m n k hk]; omega)
      have HC3 := Lib.hid (show ∀ v ∈ cs, v.oneCell' = true by rw [hcs]; exact mv_one _)
      have HC4 := Lib.hid (show ∀ i v, cs[i]? = some v → wr.drew.cell? ((⟨g, 0, none⟩ : Addr).add i) = some v from fun i v hi => by
        have hij : i < j := by
          rcases Nat.lt_or_ge i j with h | h
          · exact h
          · rw [List.getElem?_eq_none (by rw [hcl]; exact h)] at hi; simp at hi
        have hadd : (⟨g, 0, none⟩ : Addr).add i = ⟨g, i, none⟩ := by unfold Addr.add; split <;> simp_all
        have := hblk.cell i (by rw [dblB_length m n k hk]; omega)
        rw [hadd]
        refine this.trans ?_
        rw [← hi, hcs]
        simp [mv, dblB, List.getD, List.getElem?_append_left, show i < k by omega, hij])
      have HSP := Lib.hid (show splice (mv (dblB m n k)) k cs = mv (dblB m n (k + j)) by rw [hcs]; exact mv_dbl_splice m n k j hj1.2)
      have HG := Lib.hid (show wr.drew.heap[g]? = some (.cells (mv (dblB m n k)).toArray 4 (0, 0)) from hblk)
      have hwk : IntKind.i64.wrap ((k : Int) + (j : Int)) = ((k + j : Nat) : Int) := by rw [IntKind.wrap_i64]; omega
      have hbd := hbw.drew
      have hk0 : (0 : Int) ≤ (k : Int) := by omega
      have hkm : (k : Int) ≤ (m : Int) := by omega
      obtain ⟨w2, hcp, hg2, hb2⟩ : ∃ w2, (Builtin.copy_ #[39, 39] 3 #[.slice (some ⟨g, k, none⟩) (m - k) (m - k), .slice (some ⟨g, 0, none⟩) k m]).run Tryz.prog wr.drew = .ok (goInt j) w2 ∧ MBlk w2 g (dblB m n (k + j)) ∧ Below w.heap.size w w2 := by
        have hr := run_copy_row (P := Tryz.prog) wr.drew 39 39 3 4 g k (m - k) (m - k) ⟨g, 0, none⟩ k m (mv (dblB m n k)).toArray 4 cs Tryz.underlying39 (by kernel_rfl) HG.out HC1.out HC4.out (by rw [List.size_toArray]; exact HC2.out) HC3.out
        rw [hcl] at hr
        refine ⟨_, hr, ?_, below_setRow hbd hgl _⟩
        have e : ((mv (dblB m n k)).toArray.toList.take k ++ cs ++ (mv (dblB m n k)).toArray.toList.drop (k + j)) = splice (mv (dblB m n k)) k cs := by simp [splice, hcl]
        rw [e, HSP.out]
        exact setRow_heap wr.drew g _ _ _ _ HG.out
      clear hcs hj hjn hblk HSP HG HC1 HC2 HC3 HC4
      have HCP := Lib.hid hcp
      clear hcp
      go_wp2_with fail
      go_region_with (rw [HCP.out]; simp only [Result.andThen_ok])
      all_goals
        simp only [List.getElem_toArray, List.getElem_cons_succ, List.getElem_cons_zero]
        go_frame
        go_roundw
        case rel =>
          refine ⟨_, _, _, _, _, _, _, _, _, _, _, _, _, _, ?_, rfl⟩
          exact ⟨k + j, by omega, hj1.2, by go_num, hg2, hb2⟩
        case measure => simp [intOf]; omega
    · obtain rfl : k = m := by omega
      have hn := hblk.bools
      have e : dblB k n k = List.replicate k n := by simp [dblB]
      rw [e] at hn
      have HN := Lib.hid hn
      clear e hn hblk
      go_wp2_with fail
      go_ret
      exact ⟨some ⟨g, 0, none⟩, k, by rw [List.length_replicate]; rfl, HN.out, hbw⟩
set_option maxHeartbeats 2000000 in
set_option maxRecDepth 100000 in
theorem repeatb_zero (b off c : Nat) (w : World) :
    Calls Tryz.prog 81 #[.slice (some ⟨b, off, none⟩) 1 c, .int .i64 0] w (BoolsOnly [] w) := by
  obtain ⟨i0, hi, hz0, hz1, hz2⟩ := info_parts info_bool
  have HM := Lib.hid (fun W => mul_one 0 W (by omega))
  go_enter Tryz.func81, Tryz.ntmps81
  go_wp2_with fail
  refine (HM.out _).mono ?_
  rintro e w1 ⟨rfl, rfl⟩
  go_wp2_with (at_make; refine wpList_make_full _ rfl _ _ 39 rfl w.heap.size 4 i0 (.bool false) 1 Tryz.underlying39 hi hz0 hz1 .i64 .i64 _ _ 0 rfl rfl rfl rfl (by rw [hz2]; omega) (by unfold maxLen; omega) (Nat.le_refl _) ?_; intro w0 hown0 hgrow0)
  have hb0 : Below w.heap.size w w0 := (Below.refl _ _).grown hgrow0 (Nat.le_refl _) (fun k hk => by cases hk)
  have hblk := made_mblk hown0
  have HHG := Lib.hid (show w0.heap[w.heap.size]? = some (.cells (mv (List.replicate 0 false)).toArray 4 (0, 0)) from hblk)
  clear hblk hown0 hgrow0
  obtain ⟨g, hg⟩ : ∃ g, g = w.heap.size := ⟨_, rfl⟩
  rw [← hg] at HHG ⊢
  have hgl : w.heap.size ≤ g := by omega
  clear hg
  obtain ⟨w2, hcp, hb2⟩ : ∃ w2, (Builtin.copy_ #[39, 39] 3 #[.slice (some ⟨g, 0, none⟩) 0 0, .slice (some ⟨b, off, none⟩) 1 c]).run Tryz.prog w0 = .ok (goInt 0) w2 ∧ Below w.heap.size w w2 := by
    refine ⟨_, run_copy_row (P := Tryz.prog) w0 39 39 3 4 g 0 0 0 ⟨b, off, none⟩ 1 c (mv (List.replicate 0 false)).toArray 4 (mv []) Tryz.underlying39 (by kernel_rfl) HHG.out (by rfl) ?_ (by simp [mv]) (mv_one []), below_setRow hb0 hgl _⟩
    intro j v hj; simp [mv] at hj
  go_wp2_with fail
  rw [hcp]
  simp only [Result.andThen_ok]
  clear hcp HHG
  go_wp2_with fail
  refine wp_loop_rounds 1 ?_
  rw [rounds_succ]
  go_wp2_with fail
  go_ret
  exact ⟨some ⟨g, 0, none⟩, 0, rfl, Bools.nil _ _ _, hb2⟩
theorem repeatb_all (b off c m : Nat) (n : Bool) (w : World) (hm : m ≤ 64) (hb : b < w.heap.size) (hc : w.cell? ⟨b, off, none⟩ = some (.bool n)) :
    Calls Tryz.prog 81 #[.slice (some ⟨b, off, none⟩) 1 c, .int .i64 m] w (BoolsOnly (List.replicate m n) w) := by
  by_cases h : m = 0
  · subst h; exact repeatb_zero b off c w
  · exact repeatb_any b off c m n w (by omega) hm hb hc
end Go.Proofs.YtcachhnhncodoaaGreat
