/- The walk of slices.Repeat (of one cell). -/
import Derived.Deep.RegionLaw
import Derived.Laws.CopyOwn
import Derived.Test.YtnjnalehfhfefaaK3
namespace Go.Proofs.Ytnjnalehfhfefaa
open Go.RowKit
set_option linter.unusedVariables false

set_option maxHeartbeats 400000 in
theorem mul_one2 (m : Nat) (w : World) (hm : m ≤ 1048576) :
    Calls Try.prog 86 #[.int .u64 1, .int .u64 m] w fun e w' => e = .returned (.tuple #[.int .u64 0, .int .u64 m]) ∧ w = w' := by
  have h := fun w => Try.bits_Mul64 1 m (by omega) (by omega) w
  have e1 : 1 * m / 18446744073709551616 = 0 := by omega
  have e2 : 1 * m % 18446744073709551616 = m := by omega
  rw [e1, e2] at h
  have HM := Lib.hid h
  have hw : IntKind.u64.wrap (m : Int) = (m : Int) := by rw [IntKind.wrap_u64]; omega
  clear h e1 e2
  go_enter Try.func86, Try.ntmps86
  go_wp2_with fail
  refine (HM.out _).mono ?_
  rintro e w1 ⟨rfl, rfl⟩
  go_wp2_with fail
  go_ret2
  exact ⟨rfl, rfl⟩

theorem run_copy_rows {P : Program} (w : World) (dT sT ty elem : TypeId) (k g o dLen dCap : Nat) (a : Addr) (sLen sCap : Nat) (cur : Array Value) (t : TypeId) (cs : List Value)
    (hu : P.underlying dT = some (.slice elem)) (hs : (P.info? elem).map (·.size) = some k)
    (hg : w.heap[g]? = some (.cells cur t (0, 0))) (hn : cs.length = Nat.min sLen dLen * k)
    (hsrc : ∀ j v, cs[j]? = some v → w.cell? (a.add j) = some v) (hfit : o + cs.length ≤ cur.size) (h1 : ∀ v ∈ cs, v.oneCell' = true) :
    (Builtin.copy_ #[dT, sT] ty #[.slice (some ⟨g, o, none⟩) dLen dCap, .slice (some a) sLen sCap]).run P w =
      .ok (goInt (Nat.min sLen dLen)) (w.setRow g (cur.toList.take o ++ cs ++ cur.toList.drop (o + cs.length)).toArray) := by
  have hl := run_loadCells_list (P := P) w a cs hsrc
  have hst := run_storeCells_at P g o t cs 0 cur w hg (by simpa using hfit) h1
  cases hq : P.info? elem with
  | none => simp [hq] at hs
  | some i =>
    have hi : i.size = k := by simpa [hq] using hs
    simp [Builtin.copy_, run_underlying hu, Builtin.lenOf, Builtin.firstCells, sizeOf, typeInfo, hq, hi, ← hn, hl, hst]

/-- the row behind a step of doubling -/
def dblC (T : Nat) (n : C.Cl) (k : Nat) : List C.Cl := List.replicate k n ++ List.replicate (T - k) C.null
theorem dblC_length (T : Nat) (n : C.Cl) (k : Nat) (h : k ≤ T) : (dblC T n k).length = T := by simp [dblC]; omega
theorem cv_splice (a b c d : List C.Cl) (h : c.length = b.length) : splice (cv (a ++ b ++ d)) (a.length * 3) (cv c) = cv (a ++ c ++ d) := by
  unfold splice
  rw [cv_append, cv_append, List.append_assoc, List.take_append_of_le_length (by rw [cv_length]; omega), List.take_of_length_le (by rw [cv_length]; omega), cv_append, cv_append, ← List.append_assoc (cv a) (cv b) (cv d), List.drop_append, List.drop_eq_nil_of_le (by rw [List.length_append, cv_length, cv_length, cv_length]; omega)]
  rw [List.nil_append, List.length_append, cv_length, cv_length, cv_length]
  rw [show a.length * 3 + c.length * 3 - (a.length * 3 + b.length * 3) = 0 by omega, List.drop_zero, List.append_assoc]
theorem dbl_splice (T : Nat) (n : C.Cl) (k j : Nat) (h : k + j ≤ T) : splice (cv (dblC T n k)) (k * 3) (cv (List.replicate j n)) = cv (dblC T n (k + j)) := by
  have e1 : dblC T n k = List.replicate k n ++ List.replicate j C.null ++ List.replicate (T - (k + j)) C.null := by
    unfold dblC
    rw [List.append_assoc, List.replicate_append_replicate, show j + (T - (k + j)) = T - k by omega]
  have e2 : dblC T n (k + j) = List.replicate k n ++ List.replicate j n ++ List.replicate (T - (k + j)) C.null := by
    unfold dblC
    rw [List.replicate_append_replicate]
  rw [e1, e2]
  have := cv_splice (List.replicate k n) (List.replicate j C.null) (List.replicate j n) (List.replicate (T - (k + j)) C.null) (by simp)
  rwa [List.length_replicate] at this
theorem cv_one (l : List C.Cl) : ∀ v ∈ cv l, v.oneCell' = true := by
  intro u hu
  simp only [cv, List.mem_flatMap] at hu
  obtain ⟨x, _, hx⟩ := hu
  simp [cx] at hx
  rcases hx with rfl | rfl | rfl <;> rfl
/-- a block of cells -/
def CBlk (w : World) (g : Nat) (l : List C.Cl) : Prop := w.heap[g]? = some (.cells (cv l).toArray 30 (0, 0))
theorem CBlk.cellAt {w : World} {g : Nat} {l : List C.Cl} (h : CBlk w g l) (i : Nat) : w.cell? ⟨g, i, none⟩ = (cv l)[i]? := by
  unfold CBlk at h
  simp only [World.cell?, h]
  simp
theorem cblk_of_row {w : World} {B g n c : Nat} {l : List C.Cl} (h : CRow B l (.slice (some ⟨g, 0, none⟩) n c) w) (hc : c = l.length) : CBlk w g l := by
  unfold CRow at h
  rcases h.2 with ⟨he, _⟩ | ⟨g', cap, cur, he, e2, e3, e4, e5, e6, e7⟩
  · cases he
  · injection he with h1 h2 h3
    injection h1 with h1
    injection h1 with h1 _
    subst h1; subst h3; subst hc
    unfold CBlk
    rw [e3, ← e7, List.take_of_length_le (by rw [Array.length_toList, e6]; exact Nat.le_refl _)]
theorem cblk_row {w : World} {B g : Nat} {l : List C.Cl} (h : CBlk w g l) (hB : B ≤ g) (hm : l.length ≤ maxLen) : CRow B l (.slice (some ⟨g, 0, none⟩) l.length l.length) w := by
  unfold CRow
  refine ⟨cv_length l, Or.inr ⟨g, l.length, (cv l).toArray, rfl, hB, h, Nat.le_refl _, hm, by simp [cv_length], ?_⟩⟩
  rw [show (cv l).toArray.toList = cv l from rfl, List.take_of_length_le (by rw [cv_length]; exact Nat.le_refl _)]

set_option maxHeartbeats 2000000 in
set_option maxRecDepth 100000 in
theorem repeatc_any (b off c m : Nat) (n : C.Cl) (w : World) (h1 : 1 ≤ m) (hm : m ≤ 1048576) (hb : b < w.heap.size) (hc0 : w.cell? ⟨b, off, none⟩ = some (.int .i64 n.kind)) (hc1 : w.cell? ⟨b, off + 1, none⟩ = some (.int .u64 (n.num : Int))) (hc2 : w.cell? ⟨b, off + 2, none⟩ = some (.string (str n.txt))) :
    Calls Try.prog 45 #[.slice (some ⟨b, off, none⟩) 1 c, .int .i64 m] w (CellsRowPost (List.replicate m n) w) := by
  obtain ⟨i0, hi, hz0, hz1, hz2⟩ := info_parts info_cell
  have hw : IntKind.u64.wrap (m : Int) = (m : Int) := by rw [IntKind.wrap_u64]; omega
  go_enter Try.func45, Try.ntmps45
  go_wp2_with fail
  refine (mul_one2 m _ hm).mono ?_
  rintro e w1 ⟨rfl, rfl⟩
  go_wp2_with (at_make; refine wpList_make_full _ rfl _ _ 34 rfl w.heap.size 30 i0 (.agg #[.int .i64 0, .int .u64 0, .string ByteArray.empty]) 3 Try.underlying34 hi hz0 hz1 .i64 .i64 _ _ m rfl rfl rfl rfl (by rw [hz2]; omega) (by unfold maxLen; omega) (Nat.le_refl _) ?_; intro w0 hown0 hgrow0)
  have hb0 : Below w.heap.size w w0 := (Below.refl _ _).grown hgrow0 (Nat.le_refl _) (fun k hk => by cases hk)
  have hblk := cblk_of_row (made_crow hown0) (by simp)
  have HHG := Lib.hid hblk
  have q0 := (hb0.cell (p := ⟨b, off, none⟩) hb).trans hc0
  have q1 := (hb0.cell (p := ⟨b, off + 1, none⟩) hb).trans hc1
  have q2 := (hb0.cell (p := ⟨b, off + 2, none⟩) hb).trans hc2
  clear hblk hown0 hgrow0
  obtain ⟨g, hg⟩ : ∃ g, g = w.heap.size := ⟨_, rfl⟩
  rw [← hg] at HHG ⊢
  have hgl : w.heap.size ≤ g := by omega
  clear hg
  have hmin : Nat.min 1 m = 1 := Nat.min_eq_left h1
  obtain ⟨w2, hcp, hg2, hb2⟩ : ∃ w2, (Builtin.copy_ #[34, 34] 3 #[.slice (some ⟨g, 0, none⟩) m m, .slice (some ⟨b, off, none⟩) 1 c]).run Try.prog w0 = .ok (goInt 1) w2 ∧ CBlk w2 g (dblC m n 1) ∧ Below w.heap.size w w2 := by
    have hr := run_copy_rows (P := Try.prog) w0 34 34 3 30 3 g 0 m m ⟨b, off, none⟩ 1 c (cv (List.replicate m C.null)).toArray 30 (cv [n]) Try.underlying34 (by kernel_rfl) HHG.out (by rw [hmin]; rfl) ?_ (by rw [List.size_toArray, cv_length, cv_length, List.length_replicate, List.length_singleton]; omega) (cv_one [n])
    · rw [hmin] at hr
      refine ⟨_, hr, ?_, below_setRow hb0 hgl _⟩
      have e : ((cv (List.replicate m C.null)).toArray.toList.take 0 ++ cv [n] ++ (cv (List.replicate m C.null)).toArray.toList.drop (0 + (cv [n]).length)) = splice (cv (dblC m n 0)) (0 * 3) (cv (List.replicate 1 n)) := by
        simp [splice, dblC]
      rw [e, dbl_splice m n 0 1 (by omega)]
      exact setRow_heap w0 g _ _ _ _ HHG.out
    · intro j v hj
      match j, hj with
      | 0, hj => simp [cv, cx] at hj; subst hj; simpa [Addr.add] using q0
      | 1, hj => simp [cv, cx] at hj; subst hj; simpa [Addr.add] using q1
      | 2, hj => simp [cv, cx] at hj; subst hj; simpa [Addr.add] using q2
  go_wp2_with fail
  rw [hcp]
  simp only [Result.andThen_ok]
  clear hcp HHG q0 q1 q2 hc0 hc1 hc2 hmin
  go_wp2_with fail
  go_loopw [8] (fun i wr => ∃ k : Nat, 1 ≤ k ∧ k ≤ m ∧ i = .int .i64 k ∧ CBlk wr g (dblC m n k) ∧ Below w.heap.size w wr) (fun i _ => m - (intOf i).toNat)
  case atStart => exact ⟨1, by omega, by omega, rfl, hg2, hb2⟩
  case round =>
    obtain ⟨k, hk1, hk, rfl, hblk, hbw⟩ := hrel
    by_cases hlt : k < m
    · obtain ⟨j, hj⟩ : ∃ j, j = min k (m - k) := ⟨_, rfl⟩
      have hj1 : 1 ≤ j ∧ k + j ≤ m := by omega
      have hjn : j = Nat.min k (m - k) := hj
      obtain ⟨cs, hcs⟩ : ∃ cs, cs = cv (List.replicate j n) := ⟨_, rfl⟩
      have hcl : cs.length = j * 3 := by rw [hcs, cv_length, List.length_replicate]
      have HC1 := Lib.hid (show cs.length = Nat.min k (m - k) * 3 by rw [hcl, ← hjn])
      have HC2 := Lib.hid (show k * 3 + cs.length ≤ (cv (dblC m n k)).length by rw [hcl, cv_length, dblC_length m n k hk]; omega)
      have HC3 := Lib.hid (show ∀ v ∈ cs, v.oneCell' = true by rw [hcs]; exact cv_one _)
      have HC4 := Lib.hid (show ∀ i v, cs[i]? = some v → wr.drew.cell? ((⟨g, 0, none⟩ : Addr).add i) = some v from fun i v hi => by
        have hij : i < j * 3 := by
          rcases Nat.lt_or_ge i (j * 3) with h | h
          · exact h
          · rw [List.getElem?_eq_none (by rw [hcl]; exact h)] at hi; simp at hi
        have hadd : (⟨g, 0, none⟩ : Addr).add i = ⟨g, i, none⟩ := by unfold Addr.add; split <;> simp_all
        rw [hadd]
        refine (hblk.cellAt i).trans ?_
        rw [← hi, hcs]
        have e : cv (dblC m n k) = cv (List.replicate j n) ++ cv (List.replicate (k - j) n ++ List.replicate (m - k) C.null) := by
          rw [← cv_append]; unfold dblC; rw [← List.append_assoc, List.replicate_append_replicate, show j + (k - j) = k by omega]
        rw [e, List.getElem?_append_left (by rw [cv_length, List.length_replicate]; exact hij)])
      have HSP := Lib.hid (show splice (cv (dblC m n k)) (k * 3) cs = cv (dblC m n (k + j)) by rw [hcs]; exact dbl_splice m n k j hj1.2)
      have HG := Lib.hid (show wr.drew.heap[g]? = some (.cells (cv (dblC m n k)).toArray 30 (0, 0)) from hblk)
      have hwk : IntKind.i64.wrap ((k : Int) + (j : Int)) = ((k + j : Nat) : Int) := by rw [IntKind.wrap_i64]; omega
      have hbd := hbw.drew
      have hk0 : (0 : Int) ≤ (k : Int) := by omega
      have hkm : (k : Int) ≤ (m : Int) := by omega
      have hkc : k ≤ m := hk
      have hmk : ¬ m = k := by omega
      obtain ⟨w2, hcp, hg2, hb2⟩ : ∃ w2, (Builtin.copy_ #[34, 34] 3 #[.slice (some ⟨g, k * 3, none⟩) (m - k) (m - k), .slice (some ⟨g, 0, none⟩) k m]).run Try.prog wr.drew = .ok (goInt j) w2 ∧ CBlk w2 g (dblC m n (k + j)) ∧ Below w.heap.size w w2 := by
        have hr := run_copy_rows (P := Try.prog) wr.drew 34 34 3 30 3 g (k * 3) (m - k) (m - k) ⟨g, 0, none⟩ k m (cv (dblC m n k)).toArray 30 cs Try.underlying34 (by kernel_rfl) HG.out HC1.out HC4.out (by rw [List.size_toArray]; exact HC2.out) HC3.out
        rw [← hjn, hcl] at hr
        refine ⟨_, hr, ?_, below_setRow hbd hgl _⟩
        have e : ((cv (dblC m n k)).toArray.toList.take (k * 3) ++ cs ++ (cv (dblC m n k)).toArray.toList.drop (k * 3 + j * 3)) = splice (cv (dblC m n k)) (k * 3) cs := by simp [splice, hcl]
        rw [e, HSP.out]
        exact setRow_heap wr.drew g _ _ _ _ HG.out
      clear hcs hj hjn hblk HSP HG HC1 HC2 HC3 HC4
      have HCP := Lib.hid hcp
      clear hcp
      go_wp2_with fail
      go_region_with (rw [HCP.out]; simp only [Result.andThen_ok])
      all_goals
        simp only [List.getElem_toArray, List.getElem_cons_succ, List.getElem_cons_zero]
        go_frame
        go_roundw
        case rel =>
          refine ⟨_, _, _, _, _, _, _, _, _, _, _, _, _, _, ?_, rfl⟩
          exact ⟨k + j, by omega, hj1.2, by go_num, hg2, hb2⟩
        case measure => simp [intOf]; omega
    · obtain rfl : k = m := by omega
      have e : dblC k n k = List.replicate k n := by simp [dblC]
      rw [e] at hblk
      have hrow := cblk_row hblk hgl (by rw [List.length_replicate]; unfold maxLen; omega)
      rw [List.length_replicate] at hrow
      have HN := Lib.hid hrow
      clear e hrow hblk
      go_wp2_with fail
      go_ret
      exact ⟨_, rfl, HN.out, hbw⟩

set_option maxHeartbeats 2000000 in
set_option maxRecDepth 100000 in
theorem repeatc_zero (b off c : Nat) (w : World) :
    Calls Try.prog 45 #[.slice (some ⟨b, off, none⟩) 1 c, .int .i64 0] w (CellsRowPost [] w) := by
  obtain ⟨i0, hi, hz0, hz1, hz2⟩ := info_parts info_cell
  have HM := Lib.hid (fun W => mul_one2 0 W (by omega))
  go_enter Try.func45, Try.ntmps45
  go_wp2_with fail
  refine (HM.out _).mono ?_
  rintro e w1 ⟨rfl, rfl⟩
  go_wp2_with (at_make; refine wpList_make_full _ rfl _ _ 34 rfl w.heap.size 30 i0 (.agg #[.int .i64 0, .int .u64 0, .string ByteArray.empty]) 3 Try.underlying34 hi hz0 hz1 .i64 .i64 _ _ 0 rfl rfl rfl rfl (by rw [hz2]; omega) (by unfold maxLen; omega) (Nat.le_refl _) ?_; intro w0 hown0 hgrow0)
  have hb0 : Below w.heap.size w w0 := (Below.refl _ _).grown hgrow0 (Nat.le_refl _) (fun k hk => by cases hk)
  have hblk := cblk_of_row (made_crow hown0) (by simp)
  have HHG := Lib.hid hblk
  clear hblk hown0 hgrow0
  obtain ⟨g, hg⟩ : ∃ g, g = w.heap.size := ⟨_, rfl⟩
  rw [← hg] at HHG ⊢
  have hgl : w.heap.size ≤ g := by omega
  clear hg
  obtain ⟨w2, hcp, hg2, hb2⟩ : ∃ w2, (Builtin.copy_ #[34, 34] 3 #[.slice (some ⟨g, 0, none⟩) 0 0, .slice (some ⟨b, off, none⟩) 1 c]).run Try.prog w0 = .ok (goInt 0) w2 ∧ CBlk w2 g [] ∧ Below w.heap.size w w2 := by
    have hr := run_copy_rows (P := Try.prog) w0 34 34 3 30 3 g 0 0 0 ⟨b, off, none⟩ 1 c (cv (List.replicate 0 C.null)).toArray 30 (cv []) Try.underlying34 (by kernel_rfl) HHG.out (by rfl) ?_ (by simp [cv]) (cv_one [])
    · exact ⟨_, hr, setRow_heap w0 g _ _ _ _ HHG.out, below_setRow hb0 hgl _⟩
    · intro j v hj; simp [cv] at hj
  go_wp2_with fail
  rw [hcp]
  simp only [Result.andThen_ok]
  clear hcp HHG
  go_wp2_with fail
  refine wp_loop_rounds 1 ?_
  rw [rounds_succ]
  go_wp2_with fail
  go_ret
  exact ⟨_, rfl, cblk_row hg2 hgl (Nat.zero_le _), hb2⟩
theorem repeatc_all (b off c m : Nat) (n : C.Cl) (w : World) (hm : m ≤ 1048576) (hb : b < w.heap.size) (hc0 : w.cell? ⟨b, off, none⟩ = some (.int .i64 n.kind)) (hc1 : w.cell? ⟨b, off + 1, none⟩ = some (.int .u64 (n.num : Int))) (hc2 : w.cell? ⟨b, off + 2, none⟩ = some (.string (str n.txt))) :
    Calls Try.prog 45 #[.slice (some ⟨b, off, none⟩) 1 c, .int .i64 m] w (CellsRowPost (List.replicate m n) w) := by
  by_cases h : m = 0
  · subst h; exact repeatc_zero b off c w
  · exact repeatc_any b off c m n w (by omega) hm hb hc0 hc1 hc2
end Go.Proofs.Ytnjnalehfhfefaa
