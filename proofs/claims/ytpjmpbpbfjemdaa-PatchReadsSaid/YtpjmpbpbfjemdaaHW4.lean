/- The walks of slices.Repeat (of one number), (run).numbers. -/
import Derived.Test.YtpjmpbpbfjemdaaHW3
import Derived.Test.YtpjmpbpbfjemdaaShelfM
import Derived.Deep.RegionLaw
namespace Go.Proofs.Ytpjmpbpbfjemdaa
open Go.RowKit
set_option linter.unusedVariables false

set_option maxHeartbeats 400000 in
theorem mul_one (m : Nat) (w : World) (hm : m ≤ 64) :
    Calls Try.prog 114 #[.int .u64 1, .int .u64 m] w fun e w' => e = .returned (.tuple #[.int .u64 0, .int .u64 m]) ∧ w = w' := by
  have h := fun w => Try.bits_Mul64 1 m (by omega) (by omega) w
  have e1 : 1 * m / 18446744073709551616 = 0 := by omega
  have e2 : 1 * m % 18446744073709551616 = m := by omega
  rw [e1, e2] at h
  have HM := Lib.hid h
  have hw : IntKind.u64.wrap (m : Int) = (m : Int) := by rw [IntKind.wrap_u64]; omega
  clear h e1 e2
  go_enter Try.func114, Try.ntmps114
  go_wp2_with fail
  refine (HM.out _).mono ?_
  rintro e w1 ⟨rfl, rfl⟩
  go_wp2_with fail
  go_ret2
  exact ⟨rfl, rfl⟩

/-- the row behind a step of doubling -/
def dbl (T n k : Nat) : List Nat := List.replicate k n ++ List.replicate (T - k) 0
theorem dbl_length (T n k : Nat) (h : k ≤ T) : (dbl T n k).length = T := by simp [dbl]; omega
theorem nv_dbl_splice (T n k j : Nat) (h : k + j ≤ T) : splice (nv (dbl T n k)) k (nv (List.replicate j n)) = nv (dbl T n (k + j)) := by
  unfold splice dbl
  simp only [nv, List.map_append, List.map_replicate, List.length_replicate, List.take_append, List.take_replicate, List.drop_append, List.drop_replicate]
  have e1 : k - (k + j) = 0 := by omega
  have e2 : T - k - (k + j - k) = T - (k + j) := by omega
  rw [Nat.min_self, Nat.sub_self, Nat.zero_min, e1, e2, ← List.replicate_append_replicate, List.replicate_zero, List.replicate_zero, List.append_nil, List.nil_append, List.append_assoc]

def NumsOnly (l : List Nat) (w : World) (e : Ending) (w' : World) : Prop :=
  ∃ a c, e = .returned (.slice a l.length c) ∧ Nums w' w'.heap.size a l ∧ Below w.heap.size w w'

set_option maxHeartbeats 2000000 in
set_option maxRecDepth 100000 in
theorem repeat_any (b off c n m : Nat) (w : World) (h1 : 1 ≤ m) (hm : m ≤ 64) (hb : b < w.heap.size) (hc : w.cell? ⟨b, off, none⟩ = some (.int .u64 (n : Int))) :
    Calls Try.prog 113 #[.slice (some ⟨b, off, none⟩) 1 c, .int .i64 m] w (NumsOnly (List.replicate m n) w) := by
  obtain ⟨i0, hi, hz0, hz1, hz2⟩ := info_parts info_u64
  have hw : IntKind.u64.wrap (m : Int) = (m : Int) := by rw [IntKind.wrap_u64]; omega
  go_enter Try.func113, Try.ntmps113
  go_wp2_with fail
  refine (mul_one m _ hm).mono ?_
  rintro e w1 ⟨rfl, rfl⟩
  go_wp2_with (at_make; refine wpList_make_full _ rfl _ _ 22 rfl w.heap.size 23 i0 (.int .u64 0) 1 Try.underlying22 hi hz0 hz1 .i64 .i64 _ _ m rfl rfl rfl rfl (by rw [hz2]; omega) (by unfold maxLen; omega) (Nat.le_refl _) ?_; intro w0 hown0 hgrow0)
  have hb0 : Below w.heap.size w w0 := (Below.refl _ _).grown hgrow0 (Nat.le_refl _) (fun k hk => by cases hk)
  have hblk := made_ublk hown0
  have HHG := Lib.hid (show w0.heap[w.heap.size]? = some (.cells (nv (List.replicate m 0)).toArray 23 (0, 0)) from hblk)
  have hcell0 := (hb0.cell (p := ⟨b, off, none⟩) hb).trans hc
  clear hblk hown0 hgrow0
  obtain ⟨g, hg⟩ : ∃ g, g = w.heap.size := ⟨_, rfl⟩
  rw [← hg] at HHG ⊢
  have hgl : w.heap.size ≤ g := by omega
  clear hg
  obtain ⟨w2, hcp, hg2, hb2⟩ : ∃ w2, (Builtin.copy_ #[22, 22] 3 #[.slice (some ⟨g, 0, none⟩) m m, .slice (some ⟨b, off, none⟩) 1 c]).run Try.prog w0 = .ok (goInt 1) w2 ∧ UBlk w2 g (dbl m n 1) ∧ Below w.heap.size w w2 := by
    refine ⟨_, run_copy_row (P := Try.prog) w0 22 22 3 23 g 0 m m ⟨b, off, none⟩ 1 c (nv (List.replicate m 0)).toArray 23 (nv [n]) Try.underlying22 (by kernel_rfl) HHG.out (show 1 = Nat.min 1 m from (Nat.min_eq_left h1).symm) ?_ (by simp [nv]; omega) (nv_one [n]), ?_, below_setRow hb0 hgl _⟩
    · intro j v hj
      match j, hj with
      | 0, hj => simp [nv] at hj; subst hj; simpa [Addr.add] using hcell0
    have e : ((nv (List.replicate m 0)).toArray.toList.take 0 ++ nv [n] ++ (nv (List.replicate m 0)).toArray.toList.drop (0 + (nv [n]).length)) = nv (dbl m n 1) := by
      simp [nv, dbl]
    rw [e]
    exact setRow_heap w0 g _ _ _ _ HHG.out
  go_wp2_with fail
  rw [hcp]
  simp only [Result.andThen_ok]
  clear hcp HHG hcell0 hc
  go_wp2_with fail
  go_loopw [8] (fun i wr => ∃ k : Nat, 1 ≤ k ∧ k ≤ m ∧ i = .int .i64 k ∧ UBlk wr g (dbl m n k) ∧ Below w.heap.size w wr) (fun i _ => m - (intOf i).toNat)
  case atStart => exact ⟨1, by omega, by omega, rfl, hg2, hb2⟩
  case round =>
    obtain ⟨k, hk1, hk, rfl, hblk, hbw⟩ := hrel
    by_cases hlt : k < m
    · obtain ⟨j, hj⟩ : ∃ j, j = min k (m - k) := ⟨_, rfl⟩
      have hj1 : 1 ≤ j ∧ k + j ≤ m := by omega
      have hjn : j = Nat.min k (m - k) := hj
      obtain ⟨cs, hcs⟩ : ∃ cs, cs = nv (List.replicate j n) := ⟨_, rfl⟩
      have hcl : cs.length = j := by rw [hcs, nv_length, List.length_replicate]
      have HC1 := Lib.hid (show cs.length = Nat.min k (m - k) by rw [hcl]; exact hj)
      have HC2 := Lib.hid (show k + cs.length ≤ (nv (dbl m n k)).length by rw [hcl, nv_length, dbl_length m n k hk]; omega)
      have HC3 := Lib.hid (show ∀ v ∈ cs, v.oneCell' = true by rw [hcs]; exact nv_one _)
      have HC4 := Lib.hid (show ∀ i v, cs[i]? = some v → wr.drew.cell? ((⟨g, 0, none⟩ : Addr).add i) = some v from fun i v hi => by
        have hij : i < j := by
          rcases Nat.lt_or_ge i j with h | h
          · exact h
          · rw [List.getElem?_eq_none (by rw [hcl]; exact h)] at hi; simp at hi
        have hadd : (⟨g, 0, none⟩ : Addr).add i = ⟨g, i, none⟩ := by unfold Addr.add; split <;> simp_all
        have := hblk.cell i (by rw [dbl_length m n k hk]; omega)
        rw [hadd]
        refine this.trans ?_
        rw [← hi, hcs]
        simp [nv, dbl, List.getD, List.getElem?_append_left, show i < k by omega, hij])
      have HSP := Lib.hid (show splice (nv (dbl m n k)) k cs = nv (dbl m n (k + j)) by rw [hcs]; exact nv_dbl_splice m n k j hj1.2)
      have HG := Lib.hid (show wr.drew.heap[g]? = some (.cells (nv (dbl m n k)).toArray 23 (0, 0)) from hblk)
      have hwk : IntKind.i64.wrap ((k : Int) + (j : Int)) = ((k + j : Nat) : Int) := by rw [IntKind.wrap_i64]; omega
      have hbd := hbw.drew
      have hk0 : (0 : Int) ≤ (k : Int) := by omega
      have hkm : (k : Int) ≤ (m : Int) := by omega
      obtain ⟨w2, hcp, hg2, hb2⟩ : ∃ w2, (Builtin.copy_ #[22, 22] 3 #[.slice (some ⟨g, k, none⟩) (m - k) (m - k), .slice (some ⟨g, 0, none⟩) k m]).run Try.prog wr.drew = .ok (goInt j) w2 ∧ UBlk w2 g (dbl m n (k + j)) ∧ Below w.heap.size w w2 := by
        have hr := run_copy_row (P := Try.prog) wr.drew 22 22 3 23 g k (m - k) (m - k) ⟨g, 0, none⟩ k m (nv (dbl m n k)).toArray 23 cs Try.underlying22 (by kernel_rfl) HG.out HC1.out HC4.out (by rw [List.size_toArray]; exact HC2.out) HC3.out
        rw [hcl] at hr
        refine ⟨_, hr, ?_, below_setRow hbd hgl _⟩
        have e : ((nv (dbl m n k)).toArray.toList.take k ++ cs ++ (nv (dbl m n k)).toArray.toList.drop (k + j)) = splice (nv (dbl m n k)) k cs := by simp [splice, hcl]
        rw [e, HSP.out]
        exact setRow_heap wr.drew g _ _ _ _ HG.out
      clear hcs hj hjn hblk HSP HG HC1 HC2 HC3 HC4
      have HCP := Lib.hid hcp
      clear hcp
      go_wp2_with fail
      go_region_with (rw [HCP.out]; simp only [Result.andThen_ok])
      all_goals
        simp only [List.getElem_toArray, List.getElem_cons_succ, List.getElem_cons_zero]
        go_frame
        go_roundw
        case rel =>
          refine ⟨_, _, _, _, _, _, _, _, _, _, _, _, _, _, ?_, rfl⟩
          exact ⟨k + j, by omega, hj1.2, by go_num, hg2, hb2⟩
        case measure => simp [intOf]; omega
    · obtain rfl : k = m := by omega
      have hn := hblk.nums
      have e : dbl k n k = List.replicate k n := by simp [dbl]
      rw [e] at hn
      have HN := Lib.hid hn
      clear e hn hblk
      go_wp2_with fail
      go_ret
      exact ⟨some ⟨g, 0, none⟩, k, by rw [List.length_replicate]; rfl, HN.out, hbw⟩

set_option maxHeartbeats 1000000 in
theorem rnums_any (n m : Nat) (w : World) (h1 : 1 ≤ m) (hm : m ≤ 64) :
    Calls Try.prog 111 #[.agg #[.int .u64 n, .int .i64 m]] w (NumsOnly (List.replicate m n) w) := by
  have HR := Lib.hid (fun W b c hb hc => repeat_any b 0 c n m W h1 hm hb hc)
  go_enter Try.func111, Try.ntmps111
  go_wp2_with fail
  refine (HR.out _ _ _ ?_ ?_).mono ?_
  · simp
  · simp
  rintro e w1 ⟨a, c, rfl, hn, hb⟩
  rw [List.length_replicate]
  go_wp2_with fail
  go_ret
  refine ⟨a, c, by rw [List.length_replicate]; rfl, hn, ?_⟩
  have k1 : Below w.heap.size w (w.alloc (.cells #[.int .u64 (n : Int), .int .i64 (m : Int)] 84)) := (Below.refl _ _).alloc (Nat.le_refl _) _
  have k2 := k1.alloc (o := .cells #[.int .u64 (n : Int)] 23) k1.size
  exact below_then k2 hb
end Go.Proofs.Ytpjmpbpbfjemdaa
