/- HW3, ShelfM, HW4, HW5, HW6, HW7, DW3, HW8, HW9, HW10, HW11, DW4, DW5, Step, DR1, DR2. -/
import Derived.Laws.CopyOwn
import Derived.Shelf.Bits.Mul64
import Derived.Test.YtcachhnhncodoaaGreatProg
import Derived.Deep.RegionLaw
import Derived.RangeFuncBox
import Derived.Lib.AppendStr
import Derived.Deep.RegionHeld3
import Derived.Deep.AppendLies
import Derived.Test.YtcachhnhncodoaaGreatP2
namespace Go.Proofs.YtcachhnhncodoaaGreat
open Go.RowKit
set_option linter.unusedVariables false
theorem nums_cells {W : World} {B b off : Nat} {l : List Nat} (h : Nums W B (some ⟨b, off, none⟩) l) : ∀ j v, (nv l)[j]? = some v → W.cell? ((⟨b, off, none⟩ : Addr).add j) = some v := by
  intro j v hj
  have hjl : j < l.length := by
    rcases Nat.lt_or_ge j l.length with h | h
    · exact h
    · rw [List.getElem?_eq_none (by rw [nv_length]; exact h)] at hj; simp at hj
  obtain ⟨b', off', e, _, hc⟩ := h (by intro e; rw [e] at hjl; simp at hjl)
  injection e with e
  injection e with e1 e2
  subst e1 e2
  have hadd : (⟨b, off, none⟩ : Addr).add j = ⟨b, off + j, none⟩ := by unfold Addr.add; split <;> simp_all
  rw [hadd, hc j hjl, ← hj]
  simp [nv, List.getElem?_eq_getElem hjl]
theorem nv_one (l : List Nat) : ∀ v ∈ nv l, v.oneCell' = true := by
  intro u hu
  simp only [nv, List.mem_map] at hu
  obtain ⟨x, _, rfl⟩ := hu
  rfl
theorem splice_pad (l : List Nat) : splice (nv (List.replicate (H.nb l.length * 8) 0)) 0 (nv l) = nv (H.pad l) := by
  unfold splice H.pad
  simp only [List.take_zero, List.nil_append, Nat.zero_add, nv_length]
  simp only [nv, List.map_append, List.map_replicate, List.drop_replicate]
  congr 2
  omega
set_option maxHeartbeats 1000000 in
set_option maxRecDepth 100000 in
theorem bbytes_any (a : Option Addr) (c : Nat) (l : List Nat) (wide : Nat) (w : World) (hx : ∀ x ∈ l, x < 2 ^ wide) (hw : wide ≤ 64) (h0 : l ≠ []) (hl : l.length ≤ 64) (hu : Nums w w.heap.size a l) :
    Calls Tryz.prog 246 #[.slice a l.length c, .int .i64 wide] w (TextPost (H.Part.bytes wide (.blk l)) w) := by
  obtain ⟨b, off, rfl, hb, hc⟩ := hu h0
  obtain ⟨i0, hi, hz0, hz1, hz2⟩ := info_parts info_u64
  have hp : 0 < l.length := List.length_pos_iff.2 h0
  have hnb : H.nb l.length ≤ 8 ∧ l.length ≤ H.nb l.length * 8 := by unfold H.nb; omega
  have hpl := H.pad_length l
  have hpm := H.pad_mem l wide hx
  obtain ⟨k, hk⟩ : ∃ k, k = H.nb l.length := ⟨_, rfl⟩
  obtain ⟨t1, ht1⟩ : ∃ t1, t1 = str (V.enc (2 * k + 1)) := ⟨_, rfl⟩
  obtain ⟨t2, ht2⟩ : ∃ t2, t2 = str (H.pkd wide (H.pad l)) := ⟨_, rfl⟩
  have HSUM := Lib.hid (show t1 ++ t2 = str (H.Part.bytes wide (.blk l)) by rw [ht1, ht2, str_append, hk]; rfl)
  have HSP := Lib.hid (splice_pad l)
  have hsz := hsize_any l.length
  have hlen := nv_length l
  rw [← hk] at hnb hpl hsz HSP
  have h1 : t1.size ≤ 9 := by rw [ht1, str_size, V.enc_length]; exact V.sz_le _
  have h2 : t2.size ≤ 512 := by
    rw [ht2, str_size, H.pkd_length, hpl]
    have : k * 8 * wide ≤ 64 * 64 := Nat.mul_le_mul (by omega) hw
    unfold B.sz; omega
  have hcat : ¬ 9223372036854775807 < t1.size + t2.size := by omega
  have hk1 : IntKind.u64.wrap (k : Int) = (k : Int) := by rw [IntKind.wrap_u64]; omega
  have hk2 : IntKind.u64.wrap (2 * (k : Int)) = ((2 * k : Nat) : Int) := by rw [IntKind.wrap_u64]; omega
  have hk3 : IntKind.u64.wrap (((2 * k : Nat) : Int) + 1) = ((2 * k + 1 : Nat) : Int) := by rw [IntKind.wrap_u64]; omega
  obtain ⟨T, hT⟩ : ∃ T, T = k * 8 := ⟨_, rfl⟩
  have hk8 : ((k : Int) * 8) = (T : Int) := by omega
  rw [← hT] at hnb hpl HSP
  have HWR := Lib.hid (fun W => show Calls Tryz.prog 50 #[.int .u64 ((2 * k + 1 : Nat) : Int)] W (fun e w' => e = .returned (.string t1) ∧ Below W.heap.size W w') by rw [ht1]; exact write_any (2 * k + 1) W (by omega))
  have HPK := Lib.hid (fun (W : World) g c (hn : UBlk W g (H.pad l)) => show Calls Tryz.prog 244 #[.slice (some ⟨g, 0, none⟩) T c, .int .i64 wide] W (fun e w' => e = .returned (.string t2) ∧ Below W.heap.size W w') by
    have := packed'_any (some ⟨g, 0, none⟩) c (H.pad l) wide W hpm hw (by rw [hpl]; omega) hn.nums
    rw [hpl] at this
    rw [ht2]; exact this)
  have HC := Lib.hid (nums_cells hu)
  have HSZ := Lib.hid hsz
  have HCS := Lib.hid (nv_one l)
  generalize H.pad l = pl at *
  have hT64 : T ≤ 64 := by omega
  clear ht1 ht2 hk hT hpl hpm hsz hc hu hx
  obtain ⟨cs, hcs⟩ : ∃ cs, cs = nv l := ⟨_, rfl⟩
  rw [← hcs] at hlen HSP HC HCS
  clear hcs
  go_enter Tryz.func246, Tryz.ntmps246
  go_wp2_with fail
  refine (HSZ.out _ (by omega)).mono ?_
  rintro e w1 ⟨rfl, rfl⟩
  go_wp2_with (at_make; refine wpList_make_full _ rfl _ _ 44 rfl w.heap.size 34 i0 (.int .u64 0) 1 Tryz.underlying44 hi hz0 hz1 .i64 .i64 _ _ T rfl rfl rfl rfl (by rw [hz2]; omega) (by unfold maxLen; omega) (Nat.le_refl _) ?_; intro w0 hown0 hgrow0)
  have hb0 : Below w.heap.size w w0 := (Below.refl _ _).grown hgrow0 (Nat.le_refl _) (fun k hk => by cases hk)
  have hblk := made_ublk hown0
  have hbc : ∀ j v, cs[j]? = some v → w0.cell? ((⟨b, off, none⟩ : Addr).add j) = some v := fun j v hj => by
    have hadd : (⟨b, off, none⟩ : Addr).add j = ⟨b, off + j, none⟩ := by unfold Addr.add; split <;> simp_all
    have := HC.out j v hj
    rw [hadd] at this ⊢
    exact (hb0.cell (p := ⟨b, off + j, none⟩) hb).trans this
  have HBC := Lib.hid hbc
  have HHG := Lib.hid (show w0.heap[w.heap.size]? = some (.cells (nv (List.replicate T 0)).toArray 34 (0, 0)) from hblk)
  clear hbc hblk hown0 hgrow0
  obtain ⟨g, hg⟩ : ∃ g, g = w.heap.size := ⟨_, rfl⟩
  rw [← hg] at HHG ⊢
  have HG := Lib.hid hg
  have hgl : w.heap.size ≤ g := by omega
  clear hg
  obtain ⟨w2, hcp, hg2, hb2⟩ : ∃ w2, (Builtin.copy_ #[44, 184] 3 #[.slice (some ⟨g, 0, none⟩) T T, .slice (some ⟨b, off, none⟩) l.length c]).run Tryz.prog w0 = .ok (goInt cs.length) w2 ∧ UBlk w2 g pl ∧ Below w.heap.size w w2 := by
    refine ⟨_, run_copy_row (P := Tryz.prog) w0 44 184 3 34 g 0 T T ⟨b, off, none⟩ l.length c (nv (List.replicate T 0)).toArray 34 cs Tryz.underlying44 (by kernel_rfl) HHG.out (by rw [hlen]; exact (Nat.min_eq_left (by omega)).symm) HBC.out (by rw [hlen, List.size_toArray, nv_length, List.length_replicate]; omega) HCS.out, ?_, below_setRow hb0 hgl _⟩
    have := setRow_heap w0 g _ (splice (nv (List.replicate T 0)) 0 cs).toArray _ _ HHG.out
    rw [HSP.out] at this
    have e : ((nv (List.replicate T 0)).toArray.toList.take 0 ++ cs ++ (nv (List.replicate T 0)).toArray.toList.drop (0 + cs.length)) = splice (nv (List.replicate T 0)) 0 cs := by simp [splice]
    rw [e, HSP.out]
    exact this
  have HP := Lib.hid (HPK.out w2 g T hg2)
  have HWW := Lib.hid (fun W (h : Below w2.heap.size w2 W) => HPK.out W g T (hg2.next h))
  go_wp2_with fail
  rw [hcp]
  simp only [Result.andThen_ok]
  go_wp2_with fail
  refine (HWR.out _).mono ?_
  rintro e w3 ⟨rfl, hb3⟩
  go_wp2_with fail
  refine (HWW.out _ hb3).mono ?_
  rintro e w4 ⟨rfl, hb4⟩
  go_wp2_with fail
  go_ret
  exact ⟨by rw [← HSUM.out]; rfl, below_then (below_then hb2 hb3) hb4⟩
set_option maxHeartbeats 400000 in
theorem bnums_any (v : Value) (w : World) :
    Calls Tryz.prog 247 #[v] w fun e w' => e = .returned v ∧ w = w' := by
  go_enter Tryz.func247, Tryz.ntmps247
  go_wp2_with fail
  go_ret
  exact ⟨rfl, rfl⟩
end Go.Proofs.YtcachhnhncodoaaGreat
namespace Go.Proofs
open Go.Shelf
def Tryz.lays264_ren : Go.Shelf.Ren := ⟨fun | 264 => 143 | n => n, fun | 53 => 34 | 46 => 109 | n => n, fun | n => n⟩
theorem Tryz.lays264 : Go.Proofs.Lays.n264 Tryz.prog Tryz.lays264_ren := {
  mixed := by kernel_rfl
  f264 := Tryz.func143.trans (congrArg some (by kernel_rfl))
  t46 := Tryz.underlying109
  a46 := Tryz.isAgg109
  z46 := Tryz.sizeOf109
  v46 := Tryz.zeroValue109
  t53 := Tryz.underlying34
  a53 := Tryz.isAgg34
  z53 := Tryz.sizeOf34
  v53 := Tryz.zeroValue34 }
theorem Tryz.bits_Mul64 (x y : Nat) (hx : x < 18446744073709551616) (hy : y < 18446744073709551616) (w : World) :
    Calls Tryz.prog 143 #[.int .u64 x, .int .u64 y] w fun e w' => e = .returned (.tuple #[.int .u64 ((x * y / 18446744073709551616 : Nat) : Int), .int .u64 ((x * y % 18446744073709551616 : Nat) : Int)]) ∧ w' = w := Any.bits_Mul64 Tryz.lays264 x y hx hy w
end Go.Proofs
namespace Go.Proofs.YtcachhnhncodoaaGreat
open Go.RowKit
set_option linter.unusedVariables false
set_option maxHeartbeats 400000 in
theorem mul_one (m : Nat) (w : World) (hm : m ≤ 64) :
    Calls Tryz.prog 117 #[.int .u64 1, .int .u64 m] w fun e w' => e = .returned (.tuple #[.int .u64 0, .int .u64 m]) ∧ w = w' := by
  have h := fun w => Tryz.bits_Mul64 1 m (by omega) (by omega) w
  have e1 : 1 * m / 18446744073709551616 = 0 := by omega
  have e2 : 1 * m % 18446744073709551616 = m := by omega
  rw [e1, e2] at h
  have HM := Lib.hid h
  have hw : IntKind.u64.wrap (m : Int) = (m : Int) := by rw [IntKind.wrap_u64]; omega
  clear h e1 e2
  go_enter Tryz.func117, Tryz.ntmps117
  go_wp2_with fail
  refine (HM.out _).mono ?_
  rintro e w1 ⟨rfl, rfl⟩
  go_wp2_with fail
  go_ret2
  exact ⟨rfl, rfl⟩
def dbl (T n k : Nat) : List Nat := List.replicate k n ++ List.replicate (T - k) 0
theorem dbl_length (T n k : Nat) (h : k ≤ T) : (dbl T n k).length = T := by simp [dbl]; omega
theorem nv_dbl_splice (T n k j : Nat) (h : k + j ≤ T) : splice (nv (dbl T n k)) k (nv (List.replicate j n)) = nv (dbl T n (k + j)) := by
  unfold splice dbl
  simp only [nv, List.map_append, List.map_replicate, List.length_replicate, List.take_append, List.take_replicate, List.drop_append, List.drop_replicate]
  have e1 : k - (k + j) = 0 := by omega
  have e2 : T - k - (k + j - k) = T - (k + j) := by omega
  rw [Nat.min_self, Nat.sub_self, Nat.zero_min, e1, e2, ← List.replicate_append_replicate, List.replicate_zero, List.replicate_zero, List.append_nil, List.nil_append, List.append_assoc]
def NumsOnly (l : List Nat) (w : World) (e : Ending) (w' : World) : Prop :=
  ∃ a c, e = .returned (.slice a l.length c) ∧ Nums w' w'.heap.size a l ∧ Below w.heap.size w w'
set_option maxHeartbeats 2000000 in
set_option maxRecDepth 100000 in
theorem repeat_any (b off c n m : Nat) (w : World) (h1 : 1 ≤ m) (hm : m ≤ 64) (hb : b < w.heap.size) (hc : w.cell? ⟨b, off, none⟩ = some (.int .u64 (n : Int))) :
    Calls Tryz.prog 245 #[.slice (some ⟨b, off, none⟩) 1 c, .int .i64 m] w (NumsOnly (List.replicate m n) w) := by
  obtain ⟨i0, hi, hz0, hz1, hz2⟩ := info_parts info_u64
  have hw : IntKind.u64.wrap (m : Int) = (m : Int) := by rw [IntKind.wrap_u64]; omega
  go_enter Tryz.func245, Tryz.ntmps245
  go_wp2_with fail
  refine (mul_one m _ hm).mono ?_
  rintro e w1 ⟨rfl, rfl⟩
  go_wp2_with (at_make; refine wpList_make_full _ rfl _ _ 44 rfl w.heap.size 34 i0 (.int .u64 0) 1 Tryz.underlying44 hi hz0 hz1 .i64 .i64 _ _ m rfl rfl rfl rfl (by rw [hz2]; omega) (by unfold maxLen; omega) (Nat.le_refl _) ?_; intro w0 hown0 hgrow0)
  have hb0 : Below w.heap.size w w0 := (Below.refl _ _).grown hgrow0 (Nat.le_refl _) (fun k hk => by cases hk)
  have hblk := made_ublk hown0
  have HHG := Lib.hid (show w0.heap[w.heap.size]? = some (.cells (nv (List.replicate m 0)).toArray 34 (0, 0)) from hblk)
  have hcell0 := (hb0.cell (p := ⟨b, off, none⟩) hb).trans hc
  clear hblk hown0 hgrow0
  obtain ⟨g, hg⟩ : ∃ g, g = w.heap.size := ⟨_, rfl⟩
  rw [← hg] at HHG ⊢
  have hgl : w.heap.size ≤ g := by omega
  clear hg
  obtain ⟨w2, hcp, hg2, hb2⟩ : ∃ w2, (Builtin.copy_ #[44, 44] 3 #[.slice (some ⟨g, 0, none⟩) m m, .slice (some ⟨b, off, none⟩) 1 c]).run Tryz.prog w0 = .ok (goInt 1) w2 ∧ UBlk w2 g (dbl m n 1) ∧ Below w.heap.size w w2 := by
    refine ⟨_, run_copy_row (P := Tryz.prog) w0 44 44 3 34 g 0 m m ⟨b, off, none⟩ 1 c (nv (List.replicate m 0)).toArray 34 (nv [n]) Tryz.underlying44 (by kernel_rfl) HHG.out (show 1 = Nat.min 1 m from (Nat.min_eq_left h1).symm) ?_ (by simp [nv]; omega) (nv_one [n]), ?_, below_setRow hb0 hgl _⟩
    · intro j v hj
      match j, hj with
      | 0, hj => simp [nv] at hj; subst hj; simpa [Addr.add] using hcell0
    have e : ((nv (List.replicate m 0)).toArray.toList.take 0 ++ nv [n] ++ (nv (List.replicate m 0)).toArray.toList.drop (0 + (nv [n]).length)) = nv (dbl m n 1) := by
      simp [nv, dbl]
    rw [e]
    exact setRow_heap w0 g _ _ _ _ HHG.out
  go_wp2_with fail
  rw [hcp]
  simp only [Result.andThen_ok]
  clear hcp HHG hcell0 hc
  go_wp2_with fail
  go_loopw [8] (fun i wr => ∃ k : Nat, 1 ≤ k ∧ k ≤ m ∧ i = .int .i64 k ∧ UBlk wr g (dbl m n k) ∧ Below w.heap.size w wr) (fun i _ => m - (intOf i).toNat)
  case atStart => exact ⟨1, by omega, by omega, rfl, hg2, hb2⟩
  case round =>
    obtain ⟨k, hk1, hk, rfl, hblk, hbw⟩ := hrel
    by_cases hlt : k < m
    · obtain ⟨j, hj⟩ : ∃ j, j = min k (m - k) := ⟨_, rfl⟩
      have hj1 : 1 ≤ j ∧ k + j ≤ m := by omega
      have hjn : j = Nat.min k (m - k) := hj
      obtain ⟨cs, hcs⟩ : ∃ cs, cs = nv (List.replicate j n) := ⟨_, rfl⟩
      have hcl : cs.length = j := by rw [hcs, nv_length, List.length_replicate]
      have HC1 := Lib.hid (show cs.length = Nat.min k (m - k) by rw [hcl]; exact hj)
      have HC2 := Lib.hid (show k + cs.length ≤ (nv (dbl m n k)).length by rw [hcl, nv_length, dbl_length m n k hk]; omega)
      have HC3 := Lib.hid (show ∀ v ∈ cs, v.oneCell' = true by rw [hcs]; exact nv_one _)
      have HC4 := Lib.hid (show ∀ i v, cs[i]? = some v → wr.drew.cell? ((⟨g, 0, none⟩ : Addr).add i) = some v from fun i v hi => by
        have hij : i < j := by
          rcases Nat.lt_or_ge i j with h | h
          · exact h
          · rw [List.getElem?_eq_none (by rw [hcl]; exact h)] at hi; simp at hi
        have hadd : (⟨g, 0, none⟩ : Addr).add i = ⟨g, i, none⟩ := by unfold Addr.add; split <;> simp_all
        have := hblk.cell i (by rw [dbl_length m n k hk]; omega)
        rw [hadd]
        refine this.trans ?_
        rw [← hi, hcs]
        simp [nv, dbl, List.getD, List.getElem?_append_left, show i < k by omega, hij])
      have HSP := Lib.hid (show splice (nv (dbl m n k)) k cs = nv (dbl m n (k + j)) by rw [hcs]; exact nv_dbl_splice m n k j hj1.2)
      have HG := Lib.hid (show wr.drew.heap[g]? = some (.cells (nv (dbl m n k)).toArray 34 (0, 0)) from hblk)
      have hwk : IntKind.i64.wrap ((k : Int) + (j : Int)) = ((k + j : Nat) : Int) := by rw [IntKind.wrap_i64]; omega
      have hbd := hbw.drew
      have hk0 : (0 : Int) ≤ (k : Int) := by omega
      have hkm : (k : Int) ≤ (m : Int) := by omega
      obtain ⟨w2, hcp, hg2, hb2⟩ : ∃ w2, (Builtin.copy_ #[44, 44] 3 #[.slice (some ⟨g, k, none⟩) (m - k) (m - k), .slice (some ⟨g, 0, none⟩) k m]).run Tryz.prog wr.drew = .ok (goInt j) w2 ∧ UBlk w2 g (dbl m n (k + j)) ∧ Below w.heap.size w w2 := by
        have hr := run_copy_row (P := Tryz.prog) wr.drew 44 44 3 34 g k (m - k) (m - k) ⟨g, 0, none⟩ k m (nv (dbl m n k)).toArray 34 cs Tryz.underlying44 (by kernel_rfl) HG.out HC1.out HC4.out (by rw [List.size_toArray]; exact HC2.out) HC3.out
        rw [hcl] at hr
        refine ⟨_, hr, ?_, below_setRow hbd hgl _⟩
        have e : ((nv (dbl m n k)).toArray.toList.take k ++ cs ++ (nv (dbl m n k)).toArray.toList.drop (k + j)) = splice (nv (dbl m n k)) k cs := by simp [splice, hcl]
        rw [e, HSP.out]
        exact setRow_heap wr.drew g _ _ _ _ HG.out
      clear hcs hj hjn hblk HSP HG HC1 HC2 HC3 HC4
      have HCP := Lib.hid hcp
      clear hcp
      go_wp2_with fail
      go_region_with (rw [HCP.out]; simp only [Result.andThen_ok])
      all_goals
        simp only [List.getElem_toArray, List.getElem_cons_succ, List.getElem_cons_zero]
        go_frame
        go_roundw
        case rel =>
          refine ⟨_, _, _, _, _, _, _, _, _, _, _, _, _, _, ?_, rfl⟩
          exact ⟨k + j, by omega, hj1.2, by go_num, hg2, hb2⟩
        case measure => simp [intOf]; omega
    · obtain rfl : k = m := by omega
      have hn := hblk.nums
      have e : dbl k n k = List.replicate k n := by simp [dbl]
      rw [e] at hn
      have HN := Lib.hid hn
      clear e hn hblk
      go_wp2_with fail
      go_ret
      exact ⟨some ⟨g, 0, none⟩, k, by rw [List.length_replicate]; rfl, HN.out, hbw⟩
set_option maxHeartbeats 1000000 in
theorem rnums_any (n m : Nat) (w : World) (h1 : 1 ≤ m) (hm : m ≤ 64) :
    Calls Tryz.prog 243 #[.agg #[.int .u64 n, .int .i64 m]] w (NumsOnly (List.replicate m n) w) := by
  have HR := Lib.hid (fun W b c hb hc => repeat_any b 0 c n m W h1 hm hb hc)
  go_enter Tryz.func243, Tryz.ntmps243
  go_wp2_with fail
  refine (HR.out _ _ _ ?_ ?_).mono ?_
  · simp
  · simp
  rintro e w1 ⟨a, c, rfl, hn, hb⟩
  rw [List.length_replicate]
  go_wp2_with fail
  go_ret
  refine ⟨a, c, by rw [List.length_replicate]; rfl, hn, ?_⟩
  have k1 : Below w.heap.size w (w.alloc (.cells #[.int .u64 (n : Int), .int .i64 (m : Int)] 183)) := (Below.refl _ _).alloc (Nat.le_refl _) _
  have k2 := k1.alloc (o := .cells #[.int .u64 (n : Int)] 34) k1.size
  exact below_then k2 hb
end Go.Proofs.YtcachhnhncodoaaGreat
namespace Go.Proofs.YtcachhnhncodoaaGreat
open Go.RowKit
set_option linter.unusedVariables false
def OwnS (base Bk : Nat) (w : World) (xs : List UInt8) : Prop :=
  base ≤ Bk ∧ ∃ v, w.heap[Bk]? = some (.cells #[v] 42 (0, 0)) ∧ w.ownsRow base 5 1 v xs.length (bv xs)
theorem strCells_str (l : List UInt8) : Lib.strCells (str l) = bv l := by simp [Lib.strCells, bv, str]
theorem owns_other {w : World} {base B n : Nat} {t : TypeId} {u v : Value} {xs : List Value} (ht : t ≠ 5) (h : w.heap[B]? = some (.cells #[u] t (0, 0))) (ho : w.ownsRow base 5 1 v n xs) : v.ownBlock ≠ some B := by
  rcases ho.2 with ⟨rfl, _⟩ | ⟨g, cap, cur, rfl, _, hh, _⟩
  · simp [Value.ownBlock]
  · intro he
    have hg : g = B := by simpa [Value.ownBlock] using he
    rw [hg, h] at hh
    injection hh with hh
    injection hh with _ h2
    exact ht h2
theorem append_text (base Bk Bw wide : Nat) (v : Value) (xs bs : List UInt8) (w W : World) (hbase : base ≤ Bk) (hv : w.heap[Bk]? = some (.cells #[v] 42 (0, 0))) (hown : w.ownsRow base 5 1 v xs.length (bv xs)) (hbw : Boxed w Bw 3 (.int .i64 wide)) (hl : xs.length ≤ 1048576) (hbl : bs.length ≤ 1048576) (hk : Below w.heap.size w W) :
    W.cell? ⟨Bk, 0, none⟩ = some v ∧ W.frozen? ⟨Bk, 0, none⟩ = false ∧ W.cell? ⟨Bw, 0, none⟩ = some (.int .i64 (wide : Int)) ∧
    ∃ (A : Option Addr) (m' c' : Nat) (w4 : World), (Builtin.append_ #[42, 9] 42 #[v, .string (str bs)]).run Tryz.prog W = .ok (.slice A m' c') w4 ∧ w4.cell? ⟨Bk, 0, none⟩ = some v ∧ w4.frozen? ⟨Bk, 0, none⟩ = false ∧ w4.cell? ⟨Bw, 0, none⟩ = some (.int .i64 (wide : Int)) ∧ OwnS base Bk (w4.setCell ⟨Bk, 0, none⟩ (.slice A m' c')) (xs ++ bs) ∧ Boxed (w4.setCell ⟨Bk, 0, none⟩ (.slice A m' c')) Bw 3 (.int .i64 wide) ∧ Below base W (w4.setCell ⟨Bk, 0, none⟩ (.slice A m' c')) := by
  obtain ⟨i0, hi, hz0, hz1, hz2⟩ := info_parts info_u8
  have hBlt := lt_of_block hv
  have hV : W.heap[Bk]? = some (.cells #[v] 42 (0, 0)) := (hk.block Bk hBlt).trans hv
  have hW : Boxed W Bw 3 (.int .i64 wide) := (hk.block Bw hbw.lt).trans hbw
  have hO := row_below hown hk
  have hne := owns_other (by decide) hV hO
  have hneW := owns_other (by decide) hW hO
  obtain ⟨v', w4, hr, h2, h3, h4⟩ := Lib.run_append_own_string (P := Tryz.prog) W base 42 9 42 5 i0 Tryz.underlying42 Tryz.underlying9 hi hz0 hz1 hz2 v xs.length _ hO (str bs) (by rw [str_size]; unfold maxLen; omega) (by rw [str_size]; omega) (by have := hk.size; omega)
  rw [strCells_str, str_size] at h2
  have hV4 : w4.heap[Bk]? = some (.cells #[v] 42 (0, 0)) := (h3.block Bk (lt_of_block hV) (fun h => hne h.symm)).trans hV
  have hW4 : Boxed w4 Bw 3 (.int .i64 wide) := (h3.block Bw hW.lt (fun h => hneW h.symm)).trans hW
  have hne4 := owns_other (by decide) hV4 h2
  have hBB : Bw ≠ Bk := by
    intro e
    have h5 : w4.heap[Bw]? = _ := hW4
    rw [e, hV4] at h5
    injection h5 with h5
    injection h5 with _ h5
    exact absurd h5 (by decide)
  obtain ⟨A, m', c', rfl⟩ : ∃ A m' c', v' = .slice A m' c' := by
    rcases h2.2 with ⟨rfl, _⟩ | ⟨g, cap, cur, rfl, _⟩
    · exact ⟨_, _, _, rfl⟩
    · exact ⟨_, _, _, rfl⟩
  refine ⟨cell_of_one hV, free_of_one hV, hW.cell, A, m', c', w4, hr, cell_of_one hV4, free_of_one hV4, hW4.cell, ⟨hbase, _, one_setCell hV4, ?_⟩, ?_, ?_⟩
  · have := ownsRow_setCell_other h2 (a := ⟨Bk, 0, none⟩) hne4 (.slice A m' c')
    simpa [bv] using this
  · exact ((grownBy_setCell' w4 Bk _).block Bw hW4.lt (fun e => hBB (by injection e))).trans hW4
  · exact ((Below.refl base W).grown h3 (by have := hk.size; omega) (fun k hk' => (hO.lt k hk').1)).setCell (p := ⟨Bk, 0, none⟩) hbase _
theorem step_append_run {P : Program} {ops : Array Oper} {o : Oper} {a : Act} {w : World} {K : Act → World → Prop} {Q : Exit → Act → World → Prop} {E : Prop} (hgd : o.guard = none) (s x : Operand) (t u : TypeId)
    (ho : o.op = .call { callee := .builtin .append, args := #[s, x], argTypes := #[t, u] }) (vs vx v' : Value) (w' : World) (hs : a.eval s = vs) (hx : a.eval x = vx)
    (hr : (Builtin.append_ #[t, u] o.type #[vs, vx]).run P w = .ok v' w') (h : K (a.put o.dst v') w') : if Region.wanted o (yielded ops a.tmps) = true then Oper.wp P o a w K Q else E := by
  have hw : Region.wanted o (yielded ops a.tmps) = true := by simp [Region.wanted, hgd]
  rw [if_pos hw]
  unfold Oper.wp
  simp only [execOp, ho, resolve, invoke, builtin, Sem.run_bind, Sem.run_pure, Result.andThen_ok, List.map_toArray, List.map_cons, List.map_nil, hs, hx, hr]
  exact h
theorem step_invoke {ops : Array Oper} {o : Oper} {a : Act} {w : World} {K : Act → World → Prop} {Q : Exit → Act → World → Prop} {E : Prop} (hgd : o.guard = none) (r x : Operand) (m : String) (T t : TypeId)
    (ho : o.op = .call { callee := .invoke r m, args := #[x], argTypes := #[t] }) (rv rv' xv res : Value) (f : FuncId) (R : World → Prop) (hs : a.eval r = .iface T rv) (hx : a.eval x = xv)
    (hmt : ∀ k w, (method (k + 1) T rv m).run Tryz.prog w = .ok (f, rv') w) (hf : ∀ args w, (callFunc f args).run Tryz.prog w = .ok (.enter f args) w)
    (hc : Calls Tryz.prog f #[rv', xv] w fun e w' => e = .returned res ∧ R w') (h : ∀ w', R w' → K (a.put o.dst res) w') : if Region.wanted o (yielded ops a.tmps) = true then Oper.wp Tryz.prog o a w K Q else E := by
  have hw : Region.wanted o (yielded ops a.tmps) = true := by simp [Region.wanted, hgd]
  rw [if_pos hw]
  have hm := fun w => hmt (Tryz.prog.types.size + Made.depth - 1) w
  have e1 : Tryz.prog.types.size + Made.depth - 1 + 1 = Tryz.prog.types.size + Made.depth := by
    have : 0 < Made.depth := by decide
    omega
  rw [e1] at hm
  unfold Oper.wp
  simp only [execOp, ho, resolve, invoke, callMethod, Sem.run_bind, Sem.run_pure, Result.andThen_ok, List.map_toArray, List.map_cons, List.map_nil, hs, hx]
  show Oper.upon _ _ _ _ _ (Sem.run Tryz.prog (do
    let p ← program
    let y ← method (p.types.size + Made.depth) T rv m
    callFunc y.1 (#[y.2] ++ (#[Value.iface T rv] ++ #[xv]).extract 1)) w)
  rw [Sem.run_bind, run_program, Result.andThen_ok, Sem.run_bind, hm, Result.andThen_ok, hf]
  refine hc.mono ?_
  rintro e w' ⟨rfl, hR⟩
  exact h w' hR
theorem part_length (w : Nat) (p : H.Part) (hw : w ≤ 64) (hp : match p with | .run _ _ => True | .blk l => l.length ≤ 64) : (H.Part.bytes w p).length ≤ 1024 := by
  cases p with
  | run n m =>
    have := V.sz_le (2 * m)
    simp only [H.Part.bytes, List.length_append, V.enc_length, H.pkd_length, List.length_cons, List.length_nil]
    unfold B.sz; omega
  | blk l =>
    have := V.sz_le (2 * H.nb l.length + 1)
    simp only [H.Part.bytes, List.length_append, V.enc_length, H.pkd_length, H.pad_length]
    have h8 : H.nb l.length * 8 ≤ 64 := by simp only at hp; unfold H.nb; omega
    have := Nat.mul_le_mul h8 hw
    unfold B.sz; omega
set_option maxHeartbeats 2000000 in
set_option maxRecDepth 100000 in
theorem hclos_run (base Bk Bw wide : Nat) (n m : Nat) (xs : List UInt8) (w : World) (hn : n < 2 ^ wide) (hm : m ≤ 64) (hw : wide ≤ 64) (ho : OwnS base Bk w xs) (hbw : Boxed w Bw 3 (.int .i64 wide)) (hl : xs.length ≤ 1048576) :
    Calls Tryz.prog 161 #[.iface 183 (.agg #[.int .u64 n, .int .i64 m]), .pointer (some ⟨Bk, 0, none⟩), .pointer (some ⟨Bw, 0, none⟩)] w
      fun e w' => e = .returned (.tuple #[]) ∧ OwnS base Bk w' (xs ++ H.Part.bytes wide (.run n m)) ∧ Boxed w' Bw 3 (.int .i64 wide) ∧ Below base w w' := by
  have hmt : ∀ (k : Nat) (w : World), (method (k + 1) 183 (.agg #[.int .u64 n, .int .i64 m]) "hypostyle/hybrid.bytes").run Tryz.prog w = .ok (242, (.agg #[.int .u64 n, .int .i64 m])) w := fun _ _ => by kernel_rfl
  have hcf : ∀ (args : Array Value) (w : World), (callFunc 242 args).run Tryz.prog w = .ok (.enter 242 args) w := fun _ _ => by kernel_rfl
  obtain ⟨hbase, v, hv, hown⟩ := ho
  have c0 := cell_of_one hv
  have f0 := free_of_one hv
  have c1 := hbw.cell
  have hlen := part_length wide (.run n m) hw trivial
  have HBY := Lib.hid (show Calls Tryz.prog 242 #[(.agg #[.int .u64 n, .int .i64 m]), .int .i64 wide] w.drew (TextPost (H.Part.bytes wide (.run n m)) w.drew) from rbytes_any n m wide w.drew hn hm hw)
  have HAP := Lib.hid (fun W (h : Below w.drew.heap.size w.drew W) => append_text base Bk Bw wide v xs (H.Part.bytes wide (.run n m)) w.drew W hbase hv hown hbw hl (by omega) h)
  have hbs : base ≤ w.heap.size := by have := lt_of_block hv; omega
  generalize H.Part.bytes wide (.run n m) = bs at *
  clear hlen hown hv
  go_enter Tryz.func161, Tryz.ntmps161
  go_wp2_with fail
  go_region_law (first
    | ((refine step_invoke (by rfl) _ _ _ _ _ (by rfl) _ _ (.int .i64 (wide : Int)) (.string (str bs)) _ _ (by rfl) (by rfl) hmt hcf HBY.out ?_); intro w3 hb3; obtain ⟨d0, d1, dw, A, m', c', w4, hr, d3, d4, dx, d5, d6, d7⟩ := HAP.out w3 hb3)
    | (refine step_append_run (by rfl) _ _ _ _ (by rfl) v (.string (str bs)) (.slice A m' c') w4 (by rfl) (by rfl) hr ?_))
  all_goals
    go_wp2_with fail
    go_end0
    exact ⟨rfl, d5, d6, ((Below.refl base w).drew.trans (hb3.mono hbs)).trans d7⟩
set_option maxHeartbeats 2000000 in
set_option maxRecDepth 100000 in
theorem hclos_blk (base Bk Bw wide : Nat) (a : Option Addr) (c : Nat) (l : List Nat) (xs : List UInt8) (w : World) (hx : ∀ x ∈ l, x < 2 ^ wide) (h0 : l ≠ []) (hll : l.length ≤ 64) (hu : Nums w w.heap.size a l) (hw : wide ≤ 64) (ho : OwnS base Bk w xs) (hbw : Boxed w Bw 3 (.int .i64 wide)) (hl : xs.length ≤ 1048576) :
    Calls Tryz.prog 161 #[.iface 184 (.slice a l.length c), .pointer (some ⟨Bk, 0, none⟩), .pointer (some ⟨Bw, 0, none⟩)] w
      fun e w' => e = .returned (.tuple #[]) ∧ OwnS base Bk w' (xs ++ H.Part.bytes wide (.blk l)) ∧ Boxed w' Bw 3 (.int .i64 wide) ∧ Below base w w' := by
  have hmt : ∀ (k : Nat) (w : World), (method (k + 1) 184 (.slice a l.length c) "hypostyle/hybrid.bytes").run Tryz.prog w = .ok (246, (.slice a l.length c)) w := fun _ _ => by kernel_rfl
  have hcf : ∀ (args : Array Value) (w : World), (callFunc 246 args).run Tryz.prog w = .ok (.enter 246 args) w := fun _ _ => by kernel_rfl
  obtain ⟨hbase, v, hv, hown⟩ := ho
  have c0 := cell_of_one hv
  have f0 := free_of_one hv
  have c1 := hbw.cell
  have hlen := part_length wide (.blk l) hw hll
  have HBY := Lib.hid (show Calls Tryz.prog 246 #[(.slice a l.length c), .int .i64 wide] w.drew (TextPost (H.Part.bytes wide (.blk l)) w.drew) from bbytes_any a c l wide w.drew hx hw h0 hll hu)
  have HAP := Lib.hid (fun W (h : Below w.drew.heap.size w.drew W) => append_text base Bk Bw wide v xs (H.Part.bytes wide (.blk l)) w.drew W hbase hv hown hbw hl (by omega) h)
  have hbs : base ≤ w.heap.size := by have := lt_of_block hv; omega
  generalize H.Part.bytes wide (.blk l) = bs at *
  clear hlen hown hv
  go_enter Tryz.func161, Tryz.ntmps161
  go_wp2_with fail
  go_region_law (first
    | ((refine step_invoke (by rfl) _ _ _ _ _ (by rfl) _ _ (.int .i64 (wide : Int)) (.string (str bs)) _ _ (by rfl) (by rfl) hmt hcf HBY.out ?_); intro w3 hb3; obtain ⟨d0, d1, dw, A, m', c', w4, hr, d3, d4, dx, d5, d6, d7⟩ := HAP.out w3 hb3)
    | (refine step_append_run (by rfl) _ _ _ _ (by rfl) v (.string (str bs)) (.slice A m' c') w4 (by rfl) (by rfl) hr ?_))
  all_goals
    go_wp2_with fail
    go_end0
    exact ⟨rfl, d5, d6, ((Below.refl base w).drew.trans (hb3.mono hbs)).trans d7⟩
end Go.Proofs.YtcachhnhncodoaaGreat
namespace Go.Proofs.YtcachhnhncodoaaGreat
open Go.RowKit
set_option linter.unusedVariables false
theorem Nums.cutIf {w : World} {B' b off c k : Nat} {l : List Nat} (h : Nums w B' (some ⟨b, off, none⟩) l) (hl : l.length ≤ c) : Nums w B' (if c = k then some ⟨b, off, none⟩ else some ⟨b, off + k, none⟩) (l.drop k) := by
  by_cases hk : c = k
  · rw [if_pos hk, List.drop_eq_nil_of_le (by omega)]; exact Nums.nil _ _ _
  · rw [if_neg hk]; exact h.drop k
def lenS : Value → Nat
  | .slice _ n _ => n
  | _ => 0
set_option maxHeartbeats 4000000 in
set_option maxRecDepth 100000 in
theorem heach_any (base Bk Bw wide : Nat) (a : Option Addr) (c : Nat) (l : List Nat) (w : World) (hx : ∀ x ∈ l, x < 2 ^ wide) (hw : wide ≤ 64) (hl : l.length ≤ 64) (hcap : l.length ≤ c) (hcm : c ≤ maxLen) (hu : Nums w base a l) (ho : OwnS base Bk w []) (hbw : Boxed w Bw 3 (.int .i64 wide)) :
    Calls Tryz.prog 160 #[.slice a l.length c, .func (.func 161) #[] #[.pointer (some ⟨Bk, 0, none⟩), .pointer (some ⟨Bw, 0, none⟩)]] w
      fun e w' => e = .returned (.tuple #[]) ∧ OwnS base Bk w' (H.bytes wide l) ∧ Below base w w' := by
  unfold maxLen at hcm
  have hbd := H.bytes_bound wide l hl
  have hmw : l.length * wide ≤ 64 * 64 := Nat.mul_le_mul hl hw
  have HLEN := Lib.hid (show (H.bytes wide l).length ≤ 1048576 by omega)
  have HU := Lib.hid hu
  have HX := Lib.hid hx
  clear hbd hmw hu hx
  go_enter Tryz.func160, Tryz.ntmps160
  go_wp2_with fail
  go_loopw [0, 4, 5] (fun s _ _ wr => ∃ (k : Nat) (a' : Option Addr) (c' : Nat) (cur : List UInt8), k ≤ l.length ∧ s = .slice a' (l.length - k) c' ∧ l.length - k ≤ c' ∧ c' ≤ 9223372036854775807 ∧ Hid (Nums w base a' (l.drop k)) ∧ Hid (cur ++ H.bytes wide (l.drop k) = H.bytes wide l) ∧ OwnS base Bk wr cur ∧ Boxed wr Bw 3 (.int .i64 wide) ∧ Below base w wr) (fun s _ _ _ => lenS s)
  case atStart => exact ⟨0, a, c, [], by omega, rfl, by omega, by omega, Lib.hid (by simpa using HU.out), Lib.hid (by simp), ho, hbw, Below.refl _ _⟩
  case round =>
    obtain ⟨k, a', c', cur, hk, rfl, hc', hcm', HN, HB, ho2, hbw2, hbl⟩ := hrel
    by_cases hlt : k < l.length
    · have hne : l.drop k ≠ [] := fun e => by have := congrArg List.length e; rw [List.length_drop] at this; simp at this; omega
      obtain ⟨b, off, rfl, hb, hcc⟩ := HN.out hne
      have hnr : Nums wr base (some ⟨b, off, none⟩) (l.drop k) := HN.out.below hbl
      have hnw : Nums wr wr.heap.size (some ⟨b, off, none⟩) (l.drop k) := hnr.mono (by have := lt_of_block ho2.2.choose_spec.1; have := ho2.1; omega)
      have hld : (l.drop k).length = l.length - k := List.length_drop
      have hrow := row_any (some ⟨b, off, none⟩) c' (l.drop k) wr (by rw [hld]; unfold maxLen; omega) _ hnr
      have hloo := loose_any (some ⟨b, off, none⟩) c' (l.drop k) wr (by rw [hld]; omega) hne (by rw [hld]; omega) (by unfold maxLen; omega) _ hnr
      have hc0 := hcc 0 (by rw [hld]; omega)
      have hhd : (l.drop k).getD 0 0 = (l.drop k).headD 0 := by cases l.drop k <;> rfl
      rw [hhd, Nat.add_zero] at hc0
      have hc0' := (hbl.cell (p := ⟨b, off, none⟩) hb).trans hc0
      have hmem : (l.drop k).headD 0 ∈ l := by rw [← hhd]; exact List.mem_of_mem_drop (getD_mem _ 0 (by rw [hld]; omega))
      have hxk := HX.out _ hmem
      have hcl : cur.length ≤ 1048576 := by have := HLEN.out; rw [← HB.out, List.length_append] at this; omega
      have hr1 := H.row_pos _ hne
      have hr2 := H.row_le (l.drop k)
      rw [hld] at hrow hloo hr2
      have HRUN := Lib.hid (fun h8 => H.bytes_run wide (l.drop k) hne h8)
      have HBLK := Lib.hid (fun h8 => H.bytes_blk wide (l.drop k) hne h8)
      have hl1 := fun h8 => H.loose_pos (l.drop k) (fun e => e.elim hne h8)
      have hl2 := H.loose_le (l.drop k)
      rw [hld] at hl2
      have HLP := Lib.hid hl1
      have HDD := Lib.hid (fun j => (List.drop_drop (i := j) (j := k) (l := l)))
      have HCUT := Lib.hid (fun j => Nums.cutIf (k := j) (HN.out) (show (l.drop k).length ≤ c' by rw [hld]; exact hc'))
      have HCB := Lib.hid (fun (m : Nat) (h1 : 1 ≤ m) (h2 : m ≤ l.length - k) => show Calls Tryz.prog 161 #[.iface 184 (.slice (some ⟨b, off, none⟩) m c'), .pointer (some ⟨Bk, 0, none⟩), .pointer (some ⟨Bw, 0, none⟩)] wr
        (fun e w' => e = .returned (.tuple #[]) ∧ OwnS base Bk w' (cur ++ H.Part.bytes wide (.blk ((l.drop k).take m))) ∧ Boxed w' Bw 3 (.int .i64 wide) ∧ Below base wr w') by
          have hlt : ((l.drop k).take m).length = m := by rw [List.length_take, hld]; omega
          have := hclos_blk base Bk Bw wide (some ⟨b, off, none⟩) c' ((l.drop k).take m) cur wr (fun x hx => HX.out x (List.mem_of_mem_drop (List.mem_of_mem_take hx))) (fun e => by rw [e] at hlt; simp at hlt; omega) (by rw [hlt]; omega) (hnw.take m) hw ho2 hbw2 hcl
          rw [hlt] at this
          exact this)
      generalize H.row (l.drop k) = r at *
      generalize H.loose (l.drop k) = lo at *
      generalize (l.drop k).headD 0 = x at *
      have HROW := Lib.hid hrow
      have HLOO := Lib.hid hloo
      have HCR := Lib.hid (hclos_run base Bk Bw wide x r cur wr hxk (by omega) hw ho2 hbw2 hcl)
      clear hrow hloo hnr hnw hcc hne hmem hhd hc0
      have hrc : (r : Int) ≤ ((l.length - k : Nat) : Int) := by omega
      by_cases h8 : 8 ≤ r
      · have g1 : decide ((r : Int) < 8) = false := by simp; omega
        go_wp2_with fail
        refine (HROW.out).mono ?_
        rintro e w1 ⟨rfl, rfl⟩
        go_wp2_with fail
        refine (HCR.out).mono ?_
        rintro e w2 ⟨rfl, ho3, hbw3, hb3⟩
        go_wp2_with fail
        refine ⟨⟨k + r, _, c' - r, _, by omega, by rw [Nat.sub_sub], by omega, by omega, Lib.hid ?_, Lib.hid ?_, ho3, hbw3, hbl.trans hb3⟩, by simp [lenS]; omega⟩
        · rw [← HDD.out]; exact HCUT.out r
        · rw [← HDD.out, List.append_assoc, ← HRUN.out h8]; exact HB.out
      · have g1 : decide ((r : Int) < 8) = true := by simp; omega
        have hlo1 := HLP.out h8
        have hlc : (lo : Int) ≤ ((l.length - k : Nat) : Int) := by omega
        have HCL := Lib.hid (HCB.out lo hlo1 hl2)
        go_wp2_with fail
        refine (HROW.out).mono ?_
        rintro e w1 ⟨rfl, rfl⟩
        go_wp2_with fail
        refine (HLOO.out).mono ?_
        rintro e w1 ⟨rfl, rfl⟩
        go_wp2_with fail
        refine (HCL.out).mono ?_
        rintro e w2 ⟨rfl, ho3, hbw3, hb3⟩
        go_wp2_with fail
        refine ⟨⟨k + lo, _, c' - lo, _, by omega, by rw [Nat.sub_sub], by omega, by omega, Lib.hid ?_, Lib.hid ?_, ho3, hbw3, hbl.trans hb3⟩, by simp [lenS]; omega⟩
        · rw [← HDD.out]; exact HCUT.out lo
        · rw [← HDD.out, List.append_assoc, ← HBLK.out h8]; exact HB.out
    · obtain rfl : k = l.length := by omega
      have hB := HB.out
      rw [List.drop_length, H.bytes_nil, List.append_nil] at hB
      subst hB
      go_wp2_with fail
      go_end0
      exact ⟨rfl, ho2, hbl⟩
end Go.Proofs.YtcachhnhncodoaaGreat
namespace Go.Proofs.YtcachhnhncodoaaGreat
open Go.RowKit
set_option linter.unusedVariables false
def hwriteR (l : List Nat) (wide : Int) : List UInt8 × Nat := if (packR l wide).2 ≠ 0 then ([], (packR l wide).2) else (H.bytes wide.toNat l, 0)
theorem owns_text {base Bk : Nat} {w : World} {xs : List UInt8} (h : OwnS base Bk w xs) : ∃ (A : Option Addr) (n c : Nat), w.cell? ⟨Bk, 0, none⟩ = some (.slice A n c) ∧ (convert 42 9 (.slice A n c)).run Tryz.prog w = .ok (.string (str xs)) w := by
  obtain ⟨h0, v, hv, hown⟩ := h
  have hown' := hown
  rcases hown.2 with ⟨rfl, hz⟩ | ⟨g, cap, cur, rfl, _⟩
  · refine ⟨none, 0, 0, cell_of_one hv, ?_⟩
    obtain rfl : xs = [] := List.eq_nil_of_length_eq_zero hz
    exact run_convert_bytes_nil _ 42 5 Tryz.underlying42 Tryz.underlying5 0 0 9 Tryz.underlying9
  · refine ⟨some ⟨g, 0, none⟩, xs.length, cap, cell_of_one hv, ?_⟩
    rw [← str_of xs]
    refine run_convert_bytes_arg _ 42 5 Tryz.underlying42 Tryz.underlying5 _ 0 xs.length cap _ (by simp) ?_ 9 Tryz.underlying9
    intro i hi
    rw [Nat.zero_add, hown'.cellAt i (by omega)]
    simp [bv, List.getElem?_eq_getElem hi]
set_option maxHeartbeats 400000 in
theorem hwrite_range (a : Option Addr) (c n : Nat) (wide : Int) (w : World) (h : wide < 0 ∨ 64 < wide) :
    Calls Tryz.prog 135 #[.slice a n c, .int .i64 wide] w (PackPost ([], 3) w) := by
  have c0 : (w.alloc (.cells #[.int .i64 wide] 3)).cell? ⟨w.heap.size, 0, none⟩ = some (.int .i64 wide) := by rw [World.cell?_alloc_new]; rfl
  by_cases h0 : wide < 0
  · have g1 : decide (wide < 0) = true := by simp; omega
    go_enter Tryz.func135, Tryz.ntmps135
    go_wp2_with fail
    go_ret2
    exact ⟨rfl, (Below.refl _ _).alloc (Nat.le_refl _) _⟩
  · have g1 : decide (wide < 0) = false := by simp; omega
    have g2 : decide (64 < wide) = true := by simp; omega
    go_enter Tryz.func135, Tryz.ntmps135
    go_wp2_with fail
    go_ret2
    exact ⟨rfl, (Below.refl _ _).alloc (Nat.le_refl _) _⟩
set_option maxHeartbeats 400000 in
theorem hwrite_many (a : Option Addr) (c n wide : Nat) (w : World) (h : wide ≤ 64) (hn : 64 < n) :
    Calls Tryz.prog 135 #[.slice a n c, .int .i64 wide] w (PackPost ([], 2) w) := by
  have g1 : decide ((wide : Int) < 0) = false := by simp
  have g2 : decide ((64 : Int) < (wide : Int)) = false := by simp; omega
  go_enter Tryz.func135, Tryz.ntmps135
  go_wp2_with fail
  go_ret2
  exact ⟨rfl, (Below.refl _ _).alloc (Nat.le_refl _) _⟩
set_option maxHeartbeats 1000000 in
theorem hwrite_over (a : Option Addr) (c : Nat) (l : List Nat) (wide : Nat) (w : World) (h : wide ≤ 64) (hn : l.length ≤ 64) (hx : ∀ x ∈ l, x < 18446744073709551616) (hu : Nums w w.heap.size a l) (ho : wide < B.wd l) :
    Calls Tryz.prog 135 #[.slice a l.length c, .int .i64 wide] w (PackPost ([], 8) w) := by
  have g1 : decide ((wide : Int) < 0) = false := by simp
  have g2 : decide ((64 : Int) < (wide : Int)) = false := by simp; omega
  have HW := Lib.hid (fun w' h => width_any a c l w' w.heap.size (by unfold maxLen; omega) hx h)
  have HU := Lib.hid hu
  have h64 := B.wd_64 l hx
  have hb0 : Below w.heap.size w (w.alloc (.cells #[.int .i64 (wide : Int)] 3)) := (Below.refl _ _).alloc (Nat.le_refl _) _
  have g3 : decide ((wide : Int) < (B.wd l : Int)) = true := by simp; omega
  clear hx hu
  generalize B.wd l = d at *
  go_enter Tryz.func135, Tryz.ntmps135
  go_wp2_with fail
  go_quiet ((go_at_call 72; exact Calls.quiet_same (HW.out _ (HU.out.below (below_drewN hb0 _)))))
  go_wp2_with fail
  go_ret2
  exact ⟨rfl, below_drewN hb0 _⟩
set_option maxHeartbeats 1000000 in
set_option maxRecDepth 100000 in
theorem hwrite_ok (a : Option Addr) (c : Nat) (l : List Nat) (wide : Nat) (w : World) (h : wide ≤ 64) (hn : l.length ≤ 64) (hcap : l.length ≤ c) (hcm : c ≤ maxLen) (hx : ∀ x ∈ l, x < 18446744073709551616) (hu : Nums w w.heap.size a l) (ho : B.wd l ≤ wide) :
    Calls Tryz.prog 135 #[.slice a l.length c, .int .i64 wide] w (PackPost (H.bytes wide l, 0) w) := by
  have hmf : ∀ (fn : Fn) (first cap : Array Value) (w : World), (Instr.makeFunc fn first cap).run Tryz.prog w = .ok (.func fn first cap) w := fun _ _ _ _ => rfl
  have g1 : decide ((wide : Int) < 0) = false := by simp
  have g2 : decide ((64 : Int) < (wide : Int)) = false := by simp; omega
  have HW := Lib.hid (fun w' h => width_any a c l w' w.heap.size (by unfold maxLen; omega) hx h)
  have hb0 : Below w.heap.size w (w.alloc (.cells #[.int .i64 (wide : Int)] 3)) := (Below.refl _ _).alloc (Nat.le_refl _) _
  have g3 : decide ((wide : Int) < (B.wd l : Int)) = false := by simp; omega
  have hxw := (B.wd_le l wide).1 ho
  have HE := Lib.hid (fun (W : World) Bk Bw (hb : Below w.heap.size w W) (ho : OwnS w.heap.size Bk W []) (hbw : Boxed W Bw 3 (.int .i64 wide)) => heach_any w.heap.size Bk Bw wide a c l W hxw h hn hcap hcm (hu.below hb) ho hbw)
  have HU := Lib.hid hu
  generalize H.bytes wide l = out at *
  clear hx hu hxw
  generalize B.wd l = d at *
  go_enter Tryz.func135, Tryz.ntmps135
  go_wp2_with fail
  go_quiet ((go_at_call 72; exact Calls.quiet_same (HW.out _ (HU.out.below (below_drewN hb0 _)))))
  obtain ⟨W1, hW1⟩ : ∃ W1, W1 = w.alloc (.cells #[.int .i64 (wide : Int)] 3) := ⟨_, rfl⟩
  have hbox : Boxed W1 w.heap.size 3 (.int .i64 wide) := by rw [hW1]; exact Boxed.new _ _ _
  rw [← hW1] at hb0 ⊢
  clear hW1
  go_wp2_with fail
  have hsz : w.heap.size ≤ (W1.drewN nq).heap.size := (below_drewN hb0 nq).size
  have hb1 : Below w.heap.size w ((W1.drewN nq).alloc (.cells #[.slice none 0 0] 42)) := (below_drewN hb0 nq).alloc hsz _
  have hbox1 : Boxed ((W1.drewN nq).alloc (.cells #[.slice none 0 0] 42)) w.heap.size 3 (.int .i64 wide) := (show Boxed (W1.drewN nq) w.heap.size 3 (.int .i64 wide) from hbox).alloc _
  have ho1 : OwnS w.heap.size (W1.drewN nq).heap.size ((W1.drewN nq).alloc (.cells #[.slice none 0 0] 42)) [] := ⟨hsz, _, heap_alloc_new _ _, World.ownsRow_nil _ _ _ _⟩
  refine (HE.out _ _ _ ?h1 ?h2 ?h3).mono ?_
  case h1 => exact hb1
  case h2 => exact ho1
  case h3 => exact hbox1
  rintro e w2 ⟨rfl, ho2, hb2⟩
  obtain ⟨A, n', c', hcell, hconv⟩ := owns_text ho2
  go_wp2_with fail
  go_ret2
  exact ⟨rfl, hb1.trans hb2⟩
theorem hwrite_any (a : Option Addr) (c : Nat) (l : List Nat) (wide : Int) (w : World) (hcap : l.length ≤ c) (hcm : c ≤ maxLen) (hx : ∀ x ∈ l, x < 18446744073709551616) (hu : Nums w w.heap.size a l) :
    Calls Tryz.prog 135 #[.slice a l.length c, .int .i64 wide] w (PackPost (hwriteR l wide) w) := by
  by_cases h0 : wide < 0 ∨ 64 < wide
  · have e : hwriteR l wide = ([], 3) := by unfold hwriteR packR; rw [if_pos h0]; rfl
    rw [e]; exact hwrite_range a c _ wide w h0
  obtain ⟨n, rfl⟩ : ∃ n : Nat, wide = n := ⟨wide.toNat, by omega⟩
  by_cases h1 : 64 < l.length
  · have e : hwriteR l n = ([], 2) := by unfold hwriteR packR; rw [if_neg h0, if_pos h1]; rfl
    rw [e]; exact hwrite_many a c _ n w (by omega) h1
  by_cases h2 : n < B.wd l
  · have e : hwriteR l n = ([], 8) := by unfold hwriteR packR; rw [if_neg h0, if_neg h1, Int.toNat_natCast, if_pos h2]; rfl
    rw [e]; exact hwrite_over a c l n w (by omega) (by omega) hx hu h2
  · have e : hwriteR l n = (H.bytes n l, 0) := by unfold hwriteR packR; rw [if_neg h0, if_neg h1, Int.toNat_natCast, if_neg h2]; rfl
    rw [e]; exact hwrite_ok a c l n w (by omega) (by omega) hcap hcm hx hu (by omega)
end Go.Proofs.YtcachhnhncodoaaGreat
namespace Go.Proofs.YtcachhnhncodoaaGreat
open Go.RowKit
set_option linter.unusedVariables false
attribute [local go_sem ↓] Go.wp_at_zero Go.wp_at_succ
def dz (l : List Nat) : List Nat := D.zigs ((D.diffs l).drop 1)
def dbytes (l : List Nat) : List UInt8 := if l = [] then [] else (V.enc (l.headD 0) ++ [UInt8.ofNat (B.wd (dz l))]) ++ H.bytes (B.wd (dz l)) (dz l)
def dwriteR (l : List Nat) : List UInt8 × Nat := if 64 < l.length then ([], 2) else (dbytes l, 0)
theorem dz_length (l : List Nat) : (dz l).length = l.length - 1 := by unfold dz D.zigs; rw [List.length_map, List.length_drop, D.diffs_length]
theorem dz_lt (l : List Nat) (hx : ∀ x ∈ l, x < 18446744073709551616) : ∀ y ∈ dz l, y < 18446744073709551616 :=
  D.zigs_lt _ (fun x h => D.diffs_lt l hx x (List.mem_of_mem_drop h))
theorem run_text_one (W : World) (g v : Nat) (hv : v < 256) (h : W.cell? ⟨g, 0, none⟩ = some (.int .u8 (v : Int))) :
    (convert 42 9 (.slice (some ⟨g, 0, none⟩) 1 1)).run Tryz.prog W = .ok (.string (str [UInt8.ofNat v])) W := by
  rw [← str_of [UInt8.ofNat v]]
  refine run_convert_bytes_arg _ 42 5 Tryz.underlying42 Tryz.underlying5 _ 0 1 1 _ (by simp) ?_ 9 Tryz.underlying9
  intro i hi
  obtain rfl : i = 0 := by omega
  rw [Nat.zero_add, h]
  simp
  omega
abbrev KD (bb o : Nat) (v : Value) (w W : World) : Prop := W.cell? ⟨bb, o, none⟩ = some v ∧ Below w.heap.size w W
set_option maxHeartbeats 400000 in
theorem dwrite_many (a : Option Addr) (c : Nat) (l : List Nat) (w : World) (hx : ∀ x ∈ l, x < 18446744073709551616) (hu : Nums w w.heap.size a l) (h : 64 < l.length) :
    Calls Tryz.prog 136 #[.slice a l.length c] w (PackPost ([], 2) w) := by
  have hd := diffs_any a c l w hx hu
  rw [if_pos h] at hd
  have HD := Lib.hid hd
  clear hd
  go_enter Tryz.func136, Tryz.ntmps136
  go_wp2_with fail
  refine (HD.out).mono ?_
  rintro e w1 ⟨A, c1, rfl, hn, hlc, hcm, hb1⟩
  go_wp2_with fail
  go_ret2
  exact ⟨rfl, hb1⟩
set_option maxHeartbeats 400000 in
theorem dwrite_nil (a : Option Addr) (c : Nat) (w : World) :
    Calls Tryz.prog 136 #[.slice a 0 c] w (PackPost ([], 0) w) := by
  have hd := diffs_any a c [] w (by simp) (Nums.nil _ _ _)
  have HD := Lib.hid (show Calls Tryz.prog 162 #[.slice a 0 c] w (AllPostC ([], 0) w) from hd)
  clear hd
  go_enter Tryz.func136, Tryz.ntmps136
  go_wp2_with fail
  refine (HD.out).mono ?_
  rintro e w1 ⟨A, c1, rfl, hn, hlc, hcm, hb1⟩
  go_wp2_with fail
  go_ret2
  exact ⟨rfl, hb1⟩
set_option maxHeartbeats 2000000 in
set_option maxRecDepth 100000 in
theorem dwrite_ok (a : Option Addr) (c : Nat) (l : List Nat) (w : World) (hx : ∀ x ∈ l, x < 18446744073709551616) (hu : Nums w w.heap.size a l) (h0 : l ≠ []) (hl : l.length ≤ 64) :
    Calls Tryz.prog 136 #[.slice a l.length c] w (PackPost (dbytes l, 0) w) := by
  have hp : 0 < l.length := List.length_pos_iff.2 h0
  obtain ⟨b, off, rfl, hb, hcc⟩ := hu h0
  have hhd : l.headD 0 = l.getD 0 0 := by cases l <;> rfl
  have hc0 := hcc 0 hp
  rw [← hhd, Nat.add_zero] at hc0
  have hx0 : l.headD 0 < 18446744073709551616 := by rw [hhd]; exact hx _ (getD_mem l 0 hp)
  have hd := diffs_any (some ⟨b, off, none⟩) c l w hx hu
  rw [if_neg (by omega)] at hd
  have hdl := D.diffs_length l
  have hdx := D.diffs_lt l hx
  have hzl := dz_length l
  have hzx := dz_lt l hx
  have hw64 := B.wd_64 (dz l) hzx
  have hal := fun W A c' h => along_zig W A c' ((D.diffs l).drop 1) (by rw [List.length_drop, hdl]; omega) (fun x h => hdx x (List.mem_of_mem_drop h)) h
  have hdz : D.runF D.fzig 0 ((D.diffs l).drop 1) = dz l := D.run_zig 0 _
  rw [hdz] at hal
  simp only [List.length_drop, hdl] at hal
  have hwd := fun W A c' h => width_any A c' (dz l) W W.heap.size (by rw [hzl]; unfold maxLen; omega) hzx h
  have hhw := fun W A c' hlc hcm h => hwrite_any A c' (dz l) (B.wd (dz l)) W hlc hcm hzx h
  have hpk : packR (dz l) (B.wd (dz l)) = (H.pkd (B.wd (dz l)) (dz l), 0) := by
    unfold packR
    rw [if_neg (by omega), if_neg (by rw [hzl]; omega), Int.toNat_natCast, if_neg (by omega)]; rfl
  have hok : hwriteR (dz l) (B.wd (dz l)) = (H.bytes (B.wd (dz l)) (dz l), 0) := by
    unfold hwriteR
    rw [hpk, Int.toNat_natCast]; simp
  have hbb := H.bytes_bound (B.wd (dz l)) (dz l) (by rw [hzl]; omega)
  have hmul : (dz l).length * B.wd (dz l) ≤ 64 * 64 := Nat.mul_le_mul (by rw [hzl]; omega) hw64
  obtain ⟨t1, ht1⟩ : ∃ t1, t1 = str (V.enc (l.headD 0)) := ⟨_, rfl⟩
  obtain ⟨t2, ht2⟩ : ∃ t2, t2 = str [UInt8.ofNat (B.wd (dz l))] := ⟨_, rfl⟩
  obtain ⟨t3, ht3⟩ : ∃ t3, t3 = str (H.bytes (B.wd (dz l)) (dz l)) := ⟨_, rfl⟩
  have HSUM := Lib.hid (show (t1 ++ t2) ++ t3 = str (dbytes l) by rw [ht1, ht2, ht3, str_append, str_append]; unfold dbytes; rw [if_neg h0])
  have hs1 : t1.size ≤ 9 := by rw [ht1, str_size, V.enc_length]; exact V.sz_le _
  have hs2 : t2.size = 1 := by rw [ht2]; rfl
  have hs3 : t3.size ≤ 1048576 := by rw [ht3, str_size]; omega
  have hcat1 : ¬ 9223372036854775807 < t1.size + 1 := by omega
  have hcat2 : ¬ 9223372036854775807 < t1.size + 1 + t3.size := by omega
  rw [hok] at hhw
  simp only [hzl] at hhw hwd
  have HD := Lib.hid hd
  have HAL := Lib.hid hal
  have HWD := Lib.hid hwd
  have HHW := Lib.hid (fun W A c' hlc hcm h => show Calls Tryz.prog 135 #[.slice A (l.length - 1) c', .int .i64 (B.wd (dz l))] W (fun e w' => e = .returned (.tuple #[.string t3, .int .i64 0]) ∧ Below W.heap.size W w') by rw [ht3]; exact hhw W A c' hlc hcm h)
  have HVW := Lib.hid (fun W => show Calls Tryz.prog 50 #[.int .u64 (l.headD 0 : Nat)] W (fun e w' => e = .returned (.string t1) ∧ Below W.heap.size W w') by rw [ht1]; exact write_any (l.headD 0) W hx0)
  have hconv := fun W g (h : W.cell? ⟨g, 0, none⟩ = some (.int .u8 ((B.wd (dz l) : Nat) : Int))) => run_text_one W g (B.wd (dz l)) (by omega) h
  rw [← ht2] at hconv
  have hcv : ∀ (W : World) (g : Nat), g = W.heap.size → (convert 42 9 (.slice (some ⟨g, 0, none⟩) 1 1)).run Tryz.prog (W.alloc (.cells #[.int .u8 ((B.wd (dz l) : Nat) : Int)] 5)) = .ok (.string t2) (W.alloc (.cells #[.int .u8 ((B.wd (dz l) : Nat) : Int)] 5)) :=
    fun W g hg => hconv _ g (by rw [hg, World.cell?_alloc_new]; rfl)
  have hcv2 : ∀ (W : World) (g : Nat), g = W.heap.size → (convert 42 9 (.slice (some ⟨g, 0, none⟩) 1 1)).run Tryz.prog (W.alloc (.cells #[.int .u8 ((B.wd (dz l) : Nat) : Int)] 5)).drew = .ok (.string t2) (W.alloc (.cells #[.int .u8 ((B.wd (dz l) : Nat) : Int)] 5)).drew :=
    fun W g hg => hconv _ g (show (W.alloc (.cells #[.int .u8 ((B.wd (dz l) : Nat) : Int)] 5)).cell? ⟨g, 0, none⟩ = _ by rw [hg, World.cell?_alloc_new]; rfl)
  have HCONV := Lib.hid hconv
  clear hconv ht2
  have hwr8 : IntKind.u8.wrap ((B.wd (dz l) : Nat) : Int) = ((B.wd (dz l) : Nat) : Int) := by
    rw [IntKind.wrap_u8]; omega
  clear hd hal hwd hhw hx hdx ht1 ht3 hhd hcc hdz
  generalize B.wd (dz l) = wd at *
  generalize dz l = z at *
  generalize D.diffs l = d at *
  have hdp : 0 < d.length := by omega
  have hone : 1 ≤ l.length := hp
  have hlz : ((l.length : Int) == 0) = false := by simp; exact h0
  go_enter Tryz.func136, Tryz.ntmps136
  go_wp2_with fail
  refine (HD.out).mono ?_
  rintro e w1 ⟨A, c1, rfl, hn, hlc, hcm, hb1⟩
  obtain ⟨bA, oA, rfl, hbA, hcA⟩ := hn (List.length_pos_iff.1 hdp)
  have hnd : Nums w1 w1.heap.size (some ⟨bA, oA + 1, none⟩) (d.drop 1) := hn.drop 1
  have hlc' : d.length ≤ c1 := hlc
  have hnd0 : c1 = 1 → Nums w1 w1.heap.size (some ⟨bA, oA, none⟩) (d.drop 1) := fun e h => absurd (List.drop_eq_nil_of_le (by omega)) h
  rw [hdl] at hlc ⊢
  clear hdl hu hpk hok hbb hmul
  go_wp2_with fail
  case inl =>
    refine (HAL.out _ _ _ (hnd0 (by omega))).mono ?_
    rintro e w2 ⟨Z, c2, rfl, hz2, hlc2, hcm2, hb2⟩
    go_wp2_with fail
    refine (HWD.out _ _ _ hz2).mono ?_
    rintro e w3 ⟨rfl, rfl⟩
    go_wp2_with fail
    refine (HHW.out _ _ _ (by omega) hcm2 hz2).mono ?_
    rintro e w4 ⟨rfl, hb4⟩
    have h4 : Below w.heap.size w w4 := below_then (below_then hb1 hb2) hb4
    have hsz := h4.size
    have hc4 : w4.cell? ⟨b, off, none⟩ = some (.int .u64 ((l.headD 0 : Nat) : Int)) := by rw [(bcell h4).1 b off hb]; exact hc0
    clear hc0 HD HAL HWD HHW hz2 hn hcA hnd hb1 hb2 hb4
    go_wp2_with fail
    have hS0 : KD b off (.int .u64 ((l.headD 0 : Nat) : Int)) w w4 := ⟨hc4, h4⟩
    generalize l.headD 0 = x at *
    have hbl : b < w4.heap.size := by omega
    go_region_with (go_at_call 50; refine (HVW.out _).mono ?_; rintro e w5 ⟨rfl, hb5⟩; have hfin : Below w.heap.size w w5 := (by first | exact below_then h4 hb5 | exact below_then h4.drew hb5 | exact below_then (h4.alloc hsz _) hb5 | exact below_then (h4.alloc hsz _).drew hb5 | exact below_then (h4.drew.alloc hsz _) hb5 | exact below_then (h4.drew.alloc hsz _).drew hb5); try have hcg := HCONV.out w5 w4.heap.size ((hb5.cell (p := ⟨w4.heap.size, 0, none⟩) (by simp)).trans (World.cell?_alloc_new w4 _ _ 0)))
    all_goals
      go_wp2_with fail
      go_ret2
      exact ⟨by rw [← HSUM.out]; rfl, by first | exact hfin | exact hfin.alloc hfin.size _ | exact hfin.drew | exact (hfin.alloc hfin.size _).drew | exact hfin.drew.alloc hfin.size _⟩
  case inr =>
    refine (HAL.out _ _ _ hnd).mono ?_
    rintro e w2 ⟨Z, c2, rfl, hz2, hlc2, hcm2, hb2⟩
    go_wp2_with fail
    refine (HWD.out _ _ _ hz2).mono ?_
    rintro e w3 ⟨rfl, rfl⟩
    go_wp2_with fail
    refine (HHW.out _ _ _ (by omega) hcm2 hz2).mono ?_
    rintro e w4 ⟨rfl, hb4⟩
    have h4 : Below w.heap.size w w4 := below_then (below_then hb1 hb2) hb4
    have hsz := h4.size
    have hc4 : w4.cell? ⟨b, off, none⟩ = some (.int .u64 ((l.headD 0 : Nat) : Int)) := by rw [(bcell h4).1 b off hb]; exact hc0
    clear hc0 HD HAL HWD HHW hz2 hn hcA hnd hb1 hb2 hb4
    go_wp2_with fail
    have hS0 : KD b off (.int .u64 ((l.headD 0 : Nat) : Int)) w w4 := ⟨hc4, h4⟩
    generalize l.headD 0 = x at *
    have hbl : b < w4.heap.size := by omega
    go_region_with (go_at_call 50; refine (HVW.out _).mono ?_; rintro e w5 ⟨rfl, hb5⟩; have hfin : Below w.heap.size w w5 := (by first | exact below_then h4 hb5 | exact below_then h4.drew hb5 | exact below_then (h4.alloc hsz _) hb5 | exact below_then (h4.alloc hsz _).drew hb5 | exact below_then (h4.drew.alloc hsz _) hb5 | exact below_then (h4.drew.alloc hsz _).drew hb5); try have hcg := HCONV.out w5 w4.heap.size ((hb5.cell (p := ⟨w4.heap.size, 0, none⟩) (by simp)).trans (World.cell?_alloc_new w4 _ _ 0)))
    all_goals
      go_wp2_with fail
      go_ret2
      exact ⟨by rw [← HSUM.out]; rfl, by first | exact hfin | exact hfin.alloc hfin.size _ | exact hfin.drew | exact (hfin.alloc hfin.size _).drew | exact hfin.drew.alloc hfin.size _⟩
theorem dwrite_any (a : Option Addr) (c : Nat) (l : List Nat) (w : World) (hx : ∀ x ∈ l, x < 18446744073709551616) (hu : Nums w w.heap.size a l) :
    Calls Tryz.prog 136 #[.slice a l.length c] w (PackPost (dwriteR l) w) := by
  unfold dwriteR
  by_cases h : 64 < l.length
  · rw [if_pos h]; exact dwrite_many a c l w hx hu h
  · rw [if_neg h]
    by_cases h0 : l = []
    · subst h0; exact dwrite_nil a c w
    · exact dwrite_ok a c l w hx hu h0 (by omega)
end Go.Proofs.YtcachhnhncodoaaGreat
namespace Go.Proofs.YtcachhnhncodoaaGreat
open Go.RowKit
set_option linter.unusedVariables false
def PV (W : World) (v : Value) : H.Part → Prop
  | .run n m => v = .iface 183 (.agg #[.int .u64 n, .int .i64 m])
  | .blk l => ∃ a c, v = .iface 184 (.slice a l.length c) ∧ Nums W W.heap.size a l
def FirstPost (r : Nat × H.Part × Nat) (w : World) (e : Ending) (w' : World) : Prop :=
  Below w.heap.size w w' ∧ (if r.1 = 0 then ∃ v, e = .returned (.tuple #[v, .int .i64 r.2.2, .int .i64 0]) ∧ PV w' v r.2.1 else e = .returned (.tuple #[.nilIface, .int .i64 0, .int .i64 r.1]))
theorem FirstPost.bad {r : Nat × H.Part × Nat} {er : Nat} {w w' : World} (h : Below w.heap.size w w') (hr : r.1 = er) (he : er ≠ 0) : FirstPost r w (.returned (.tuple #[.nilIface, .int .i64 0, .int .i64 er])) w' := by
  refine ⟨h, ?_⟩
  rw [if_neg (by omega), hr]
theorem FirstPost.good {r : Nat × H.Part × Nat} {p : H.Part} {n : Nat} {v : Value} {w w' : World} (h : Below w.heap.size w w') (hr : r = (0, p, n)) (hv : PV w' v p) : FirstPost r w (.returned (.tuple #[v, .int .i64 n, .int .i64 0])) w' := by
  subst hr
  exact ⟨h, v, rfl, hv⟩
theorem vread_any (s : ByteArray) (w : World) (hs : s.size ≤ maxLen) : Calls Tryz.prog 55 #[.string s] w (ReadPost (V.rd s.data.toList) w) := by
  by_cases h : s.size = 0
  · rw [data_empty s h]; exact read_empty s w (empty_true s h)
  · exact read_any s w hs (by omega) (empty_false s h)
theorem first_e1 (s : List UInt8) (left w e : Nat) (h : (V.rd s).2.2 = e) (he : e ≠ 0) : (H.first s left w).1 = e := by
  unfold H.first; rw [if_pos (by omega)]; exact h
theorem first_ok (s : List UInt8) (left w h k : Nat) (hr : V.rd s = (h, k, 0)) : H.first s left w = H.firstL s h k left w := by
  unfold H.first; rw [hr]; simp
set_option maxHeartbeats 1000000 in
set_option maxRecDepth 100000 in
theorem first_rd (s : ByteArray) (left wide e : Nat) (w : World) (hs : s.size ≤ maxLen) (he : e ≠ 0) (hr : V.rd s.data.toList = (0, 0, e)) :
    Calls Tryz.prog 174 #[.string s, .int .i64 left, .int .i64 wide] w (FirstPost (H.first s.data.toList left wide) w) := by
  have HF := Lib.hid (first_e1 s.data.toList left wide e (by rw [hr]) he)
  have hv := fun w => vread_any s w hs
  rw [hr] at hv
  have HV := Lib.hid hv
  have g1 : ((e : Int) != 0) = true := by rw [bne_iff_ne]; omega
  generalize H.first s.data.toList left wide = r at *
  clear hv hr
  go_enter Tryz.func174, Tryz.ntmps174
  go_wp2_with fail
  refine (HV.out _).mono ?_
  rintro e1 w1 ⟨rfl, hb⟩
  go_wp2_with fail
  go_ret3
  exact FirstPost.bad hb HF.out he
set_option maxHeartbeats 1000000 in
set_option maxRecDepth 100000 in
theorem first_fit (s : ByteArray) (left wide h k z : Nat) (w : World) (hs : s.size ≤ maxLen) (hl : left ≤ 64) (hh : h < 18446744073709551616) (hr : V.rd s.data.toList = (h, k, 0)) (hz : H.fit h left = z) (he : z ≠ 0) :
    Calls Tryz.prog 174 #[.string s, .int .i64 left, .int .i64 wide] w (FirstPost (H.first s.data.toList left wide) w) := by
  have HF := Lib.hid (show (H.first s.data.toList left wide).1 = z by rw [first_ok _ _ _ _ _ hr]; unfold H.firstL; rw [if_pos (by omega)]; exact hz)
  have hv := fun w => vread_any s w hs
  rw [hr] at hv
  have HV := Lib.hid hv
  have hft := fun w => hfit_any h left w hh hl
  rw [hz] at hft
  have HFT := Lib.hid hft
  have g1 : ((z : Int) != 0) = true := by rw [bne_iff_ne]; omega
  generalize H.first s.data.toList left wide = r at *
  clear hv hr hft hz
  go_enter Tryz.func174, Tryz.ntmps174
  go_wp2_with fail
  refine (HV.out _).mono ?_
  rintro e1 w1 ⟨rfl, hb⟩
  go_wp2_with fail
  refine (HFT.out _).mono ?_
  rintro e1 w2 ⟨rfl, rfl⟩
  go_wp2_with fail
  go_ret3
  exact FirstPost.bad hb HF.out he
end Go.Proofs.YtcachhnhncodoaaGreat
namespace Go.Proofs.YtcachhnhncodoaaGreat
open Go.RowKit
set_option linter.unusedVariables false
theorem ext_data (s : ByteArray) (a b : Nat) : (s.extract a b).data.toList = (s.data.toList.drop a).take (b - a) := by
  rw [Lib.extract_data]
theorem dg_one (w : Nat) (X : Nat) : B.dg w 1 X = [X % 2 ^ w] := by simp [B.dg]
set_option maxHeartbeats 400000 in
set_option maxRecDepth 100000 in
theorem first_even (s : ByteArray) (left wide m k : Nat) (w : World) (hs : s.size ≤ maxLen) (hl : left ≤ 64) (hw : wide ≤ 64) (hm1 : 1 ≤ m) (hm2 : m ≤ left) (hk : k ≤ 9) (hks : k ≤ s.size) (hr : V.rd s.data.toList = (2 * m, k, 0)) :
    Calls Tryz.prog 174 #[.string s, .int .i64 left, .int .i64 wide] w (FirstPost (H.first s.data.toList left wide) w) := by
  have hheld : H.held (2 * m) = 1 := by unfold H.held; rw [if_neg (by omega)]
  have hfit : H.fit (2 * m) left = 0 := by unfold H.fit; rw [if_neg (by omega), if_neg (show ¬ (2 * m) % 2 = 1 by omega), if_neg (by omega)]
  have hfl := first_ok s.data.toList left wide _ _ hr
  unfold H.firstL at hfl
  rw [if_neg (by simp [hfit]), hheld, len_data, Nat.one_mul] at hfl
  obtain ⟨Z, hZ⟩ : ∃ Z, Z = B.sz wide := ⟨_, rfl⟩
  obtain ⟨E, hE⟩ : ∃ E, E = k + Z := ⟨_, rfl⟩
  rw [← hZ, ← hE] at hfl
  have hz8 : Z ≤ 8 := by rw [hZ]; unfold B.sz; omega
  have hsz := hs
  unfold maxLen at hsz
  have hv := fun w => vread_any s w hs
  rw [hr] at hv
  have HV := Lib.hid hv
  have hft := fun w => hfit_any (2 * m) left w (by omega) hl
  rw [hfit] at hft
  have HFT := Lib.hid hft
  have hq1 : (((2 * m : Nat) : Int) / 2) = (m : Int) := by omega
  have hq2 : IntKind.i64.wrap (m : Int) = (m : Int) := by rw [IntKind.wrap_i64]; omega
  have g1 : (((2 * m : Nat) : Int) % 2 == 1) = false := by rw [beq_eq_false_iff_ne]; omega
  have g2 : (((2 * m : Nat) : Int) % 2 == 0) = true := by rw [beq_iff_eq]; omega
  have hq3 : (((wide : Int) + 7) / 8) = (Z : Int) := by rw [hZ]; unfold B.sz; omega
  have hq4 : ((k : Int) + (Z : Int)) = (E : Int) := by omega
  have HKE := Lib.hid hE
  have hEb : k ≤ E ∧ E ≤ 17 := by omega
  have hH : ∃ h : Nat, h = 2 * m := ⟨_, rfl⟩
  obtain ⟨h, hh⟩ := hH
  rw [← hh] at hq1 g1 g2 HV HFT
  have hheld2 : H.held h = 1 := by rw [hh]; exact hheld
  have hhm : h / 2 = m ∧ h % 2 = 0 := by omega
  rw [← hh] at hfl
  clear hv hr hft hfit hheld hE hh
  by_cases hlen : s.size < E
  · have HF := Lib.hid (show (H.first s.data.toList left wide).1 = 5 by rw [hfl, if_pos hlen])
    generalize H.first s.data.toList left wide = r at *
    clear hfl hZ
    go_enter Tryz.func174, Tryz.ntmps174
    go_wp2_with fail
    refine (HV.out _).mono ?_
    rintro e1 w1 ⟨rfl, hb⟩
    go_wp2_with fail
    refine (HFT.out _).mono ?_
    rintro e1 w2 ⟨rfl, rfl⟩
    go_wp2_with fail
    go_ret3
    exact FirstPost.bad (er := 5) hb HF.out (by omega)
  · rw [if_neg hlen] at hfl
    obtain ⟨d, hd⟩ : ∃ d, d = (s.data.toList.drop k).take Z := ⟨_, rfl⟩
    have hdx : (s.extract k E).data.toList = d := by rw [ext_data, hd, show E - k = Z by have := HKE.out; omega]
    have hdl : d.length = B.sz (1 * wide) := by rw [hd, List.length_take, List.length_drop, len_data, Nat.one_mul, ← hZ]; have := HKE.out; omega
    have hun : ∀ w, Calls Tryz.prog 118 #[.string (s.extract k E), .int .i64 1, .int .i64 wide] w (AllPostC (if B.leN d / 2 ^ wide ≠ 0 then ([], 1) else (B.dg wide 1 (B.leN d), 0)) w) := fun w => by
      have := unpackc_any (s.extract k E) ((1 : Nat) : Int) wide w (by simp; omega)
      rw [hdx, unpR_eq d 1 wide (by omega) hw hdl, Nat.one_mul] at this
      exact this
    rw [← hd] at hfl
    unfold H.body at hfl
    rw [hheld2, if_pos hhm.2, hhm.1, Nat.one_mul, dg_one] at hfl
    rw [dg_one] at hun
    simp only [List.headD_cons] at hfl
    have hx0 : B.leN d % 2 ^ wide < 18446744073709551616 := Nat.lt_of_lt_of_le (Nat.mod_lt _ (B.pos2 wide)) (Nat.pow_le_pow_right (n := 2) (by omega) hw)
    clear hhm hheld2 hdl hdx hd
    have hEs : (E : Int) ≤ (s.size : Int) := by omega
    have hkE : (k : Int) ≤ (E : Int) := by omega
    by_cases hbad : B.leN d / 2 ^ wide ≠ 0
    · rw [if_pos hbad] at hun hfl
      have HF := Lib.hid (show (H.first s.data.toList left wide).1 = 1 by rw [hfl])
      have HUN := Lib.hid hun
      generalize H.first s.data.toList left wide = r at *
      clear hfl hun hbad hx0 hZ
      go_enter Tryz.func174, Tryz.ntmps174
      go_wp2_with fail
      refine (HV.out _).mono ?_
      rintro e1 w1 ⟨rfl, hb⟩
      go_wp2_with fail
      refine (HFT.out _).mono ?_
      rintro e1 w2 ⟨rfl, rfl⟩
      go_wp2_with fail
      refine (HUN.out _).mono ?_
      rintro e1 w3 ⟨a, c, rfl, hnum, hlc, hcm, hb3⟩
      go_wp2_with fail
      go_ret3
      exact FirstPost.bad (er := 1) (below_then hb hb3) HF.out (by omega)
    · rw [if_neg hbad] at hun hfl
      generalize B.leN d % 2 ^ wide = x at *
      have HF := Lib.hid hfl
      have HUN := Lib.hid hun
      generalize H.first s.data.toList left wide = r at *
      clear hfl hun hbad hZ
      go_enter Tryz.func174, Tryz.ntmps174
      go_wp2_with fail
      refine (HV.out _).mono ?_
      rintro e1 w1 ⟨rfl, hb⟩
      go_wp2_with fail
      refine (HFT.out _).mono ?_
      rintro e1 w2 ⟨rfl, rfl⟩
      go_wp2_with fail
      refine (HUN.out _).mono ?_
      rintro e1 w3 ⟨a, c, rfl, hnum, hlc, hcm, hb3⟩
      obtain ⟨b, off, rfl, hbl, hcell⟩ := hnum (by simp)
      have c0 := hcell 0 (by simp)
      simp only [List.getD_cons_zero, Nat.add_zero] at c0
      clear hcell hnum
      go_wp2_with fail
      go_ret3
      exact FirstPost.good (below_then hb hb3) HF.out rfl
end Go.Proofs.YtcachhnhncodoaaGreat
namespace Go.Proofs.YtcachhnhncodoaaGreat
open Go.RowKit
set_option linter.unusedVariables false
theorem PV.blk {W : World} {A : Option Addr} {wn c : Nat} {xs : List Nat} (h : xs.length = wn) (hn : Nums W W.heap.size A xs) : PV W (.iface 184 (.slice A wn c)) (.blk xs) := ⟨A, c, by rw [h], hn⟩
set_option maxHeartbeats 400000 in
set_option maxRecDepth 100000 in
theorem first_odd (s : ByteArray) (left wide m k : Nat) (w : World) (hs : s.size ≤ maxLen) (hl : left ≤ 64) (hw : wide ≤ 64) (hm1 : 1 ≤ m) (hl1 : 1 ≤ left) (hm2 : m ≤ H.nb left) (hk : k ≤ 9) (hks : k ≤ s.size) (hr : V.rd s.data.toList = (2 * m + 1, k, 0)) :
    Calls Tryz.prog 174 #[.string s, .int .i64 left, .int .i64 wide] w (FirstPost (H.first s.data.toList left wide) w) := by
  obtain ⟨T, hT⟩ : ∃ T, T = m * 8 := ⟨_, rfl⟩
  have hnb : H.nb left ≤ 8 := by unfold H.nb; omega
  have hheld : H.held (2 * m + 1) = T := by unfold H.held; rw [if_pos (by omega), hT]; omega
  have hfit : H.fit (2 * m + 1) left = 0 := by unfold H.fit; rw [if_neg (by omega), if_pos (show (2 * m + 1) % 2 = 1 by omega), if_neg (by omega)]
  have hfl := first_ok s.data.toList left wide _ _ hr
  unfold H.firstL at hfl
  obtain ⟨M, hM⟩ : ∃ M, M = T * wide := ⟨_, rfl⟩
  rw [if_neg (by simp [hfit]), hheld, len_data, ← hM] at hfl
  obtain ⟨Z, hZ⟩ : ∃ Z, Z = B.sz M := ⟨_, rfl⟩
  obtain ⟨E, hE⟩ : ∃ E, E = k + Z := ⟨_, rfl⟩
  rw [← hZ, ← hE] at hfl
  have hT64 : 8 ≤ T ∧ T ≤ 64 := by omega
  have hM4 : M ≤ 64 * 64 := by rw [hM]; exact Nat.mul_le_mul hT64.2 hw
  have hz8 : Z ≤ 512 := by rw [hZ]; unfold B.sz; omega
  have hsz := hs
  unfold maxLen at hsz
  have hv := fun w => vread_any s w hs
  rw [hr] at hv
  have HV := Lib.hid hv
  have hft := fun w => hfit_any (2 * m + 1) left w (by omega) hl
  rw [hfit] at hft
  have HFT := Lib.hid hft
  have hq1 : (((2 * m + 1 : Nat) : Int) / 2) = (m : Int) := by omega
  have hq2 : IntKind.i64.wrap (m : Int) = (m : Int) := by rw [IntKind.wrap_i64]; omega
  have g1 : (((2 * m + 1 : Nat) : Int) % 2 == 1) = true := by rw [beq_iff_eq]; omega
  have g2 : (((2 * m + 1 : Nat) : Int) % 2 == 0) = false := by rw [beq_eq_false_iff_ne]; omega
  have hq5 : ((m : Int) * 8) = (T : Int) := by omega
  have hq6 : ((T : Int) * (wide : Int)) = (M : Int) := by rw [hM]; simp
  have hq3 : (((M : Int) + 7) / 8) = (Z : Int) := by rw [hZ]; unfold B.sz; omega
  have hq4 : ((k : Int) + (Z : Int)) = (E : Int) := by omega
  have HKE := Lib.hid hE
  have hEb : k ≤ E ∧ E ≤ 521 := by omega
  obtain ⟨wn, hwn⟩ : ∃ wn, wn = min left T := ⟨_, rfl⟩
  have hwn1 : 1 ≤ wn ∧ wn ≤ T := by omega
  have hmn : min (left : Int) (T : Int) = (wn : Int) := by omega
  have hH : ∃ h : Nat, h = 2 * m + 1 := ⟨_, rfl⟩
  obtain ⟨h, hh⟩ := hH
  rw [← hh] at hq1 g1 g2 HV HFT
  have hheld2 : H.held h = T := by rw [hh]; exact hheld
  have hhm : h / 2 = m ∧ ¬ h % 2 = 0 := by omega
  rw [← hh] at hfl
  have HM := Lib.hid hM
  have HWN := Lib.hid hwn
  clear hv hr hft hfit hheld hE hh hM hT hwn
  by_cases hlen : s.size < E
  · have HF := Lib.hid (show (H.first s.data.toList left wide).1 = 5 by rw [hfl, if_pos hlen])
    generalize H.first s.data.toList left wide = r at *
    clear hfl hZ
    go_enter Tryz.func174, Tryz.ntmps174
    go_wp2_with fail
    refine (HV.out _).mono ?_
    rintro e1 w1 ⟨rfl, hb⟩
    go_wp2_with fail
    refine (HFT.out _).mono ?_
    rintro e1 w2 ⟨rfl, rfl⟩
    go_wp2_with fail
    go_ret3
    exact FirstPost.bad (er := 5) hb HF.out (by omega)
  · rw [if_neg hlen] at hfl
    obtain ⟨d, hd⟩ : ∃ d, d = (s.data.toList.drop k).take Z := ⟨_, rfl⟩
    have hdx : (s.extract k E).data.toList = d := by rw [ext_data, hd, show E - k = Z by have := HKE.out; omega]
    have hdl : d.length = B.sz (T * wide) := by rw [hd, List.length_take, List.length_drop, len_data, ← HM.out, ← hZ]; have := HKE.out; omega
    have hun : ∀ w, Calls Tryz.prog 118 #[.string (s.extract k E), .int .i64 T, .int .i64 wide] w (AllPostC (if B.leN d / 2 ^ M ≠ 0 then ([], 1) else (B.dg wide T (B.leN d), 0)) w) := fun w => by
      have := unpackc_any (s.extract k E) T wide w (by simp; omega)
      rw [hdx, unpR_eq d T wide (by omega) hw hdl, ← HM.out] at this
      exact this
    rw [← hd] at hfl
    unfold H.body at hfl
    rw [hheld2, if_neg hhm.2, ← HM.out, ← HWN.out] at hfl
    have hxl : ∀ x ∈ B.dg wide T (B.leN d), x < 18446744073709551616 := fun x hx => Nat.lt_of_lt_of_le (B.dg_lt wide T _ x hx) (Nat.pow_le_pow_right (n := 2) (by omega) hw)
    have hxn := B.dg_length wide T (B.leN d)
    clear hhm hheld2 hdl hdx hd
    have hEs : (E : Int) ≤ (s.size : Int) := by omega
    have hkE : (k : Int) ≤ (E : Int) := by omega
    by_cases hbad : B.leN d / 2 ^ M ≠ 0
    · rw [if_pos hbad] at hun hfl
      have HF := Lib.hid (show (H.first s.data.toList left wide).1 = 1 by rw [hfl])
      have HUN := Lib.hid hun
      generalize H.first s.data.toList left wide = r at *
      clear hfl hun hbad hxl hxn hZ
      go_enter Tryz.func174, Tryz.ntmps174
      go_wp2_with fail
      refine (HV.out _).mono ?_
      rintro e1 w1 ⟨rfl, hb⟩
      go_wp2_with fail
      refine (HFT.out _).mono ?_
      rintro e1 w2 ⟨rfl, rfl⟩
      go_wp2_with fail
      refine (HUN.out _).mono ?_
      rintro e1 w3 ⟨a, c, rfl, hnum, hlc, hcm, hb3⟩
      go_wp2_with fail
      go_ret3
      exact FirstPost.bad (er := 1) (below_then hb hb3) HF.out (by omega)
    · rw [if_neg hbad] at hun hfl
      generalize B.dg wide T (B.leN d) = xs at *
      have HUN := Lib.hid hun
      have HF := Lib.hid hfl
      have HXL := Lib.hid hxl
      have HXN := Lib.hid hxn
      generalize H.first s.data.toList left wide = r at *
      clear hfl hun hbad hxl hxn hZ
      go_enter Tryz.func174, Tryz.ntmps174
      go_wp2_with fail
      refine (HV.out _).mono ?_
      rintro e1 w1 ⟨rfl, hb⟩
      go_wp2_with fail
      refine (HFT.out _).mono ?_
      rintro e1 w2 ⟨rfl, rfl⟩
      go_wp2_with fail
      refine (HUN.out _).mono ?_
      rintro e1 w3 ⟨a, c, rfl, hnum, hlc, hcm, hb3⟩
      have hxn := HXN.out
      obtain ⟨b, off, rfl, hbl, hcell⟩ := hnum (fun e => by have e : xs = [] := e; rw [e] at hxn; simp at hxn; omega)
      have HNUM := Lib.hid hnum
      have hwd := fun A c' (hA : Nums w3 w3.heap.size A (xs.drop wn)) => width_any A c' (xs.drop wn) w3 w3.heap.size (by rw [List.length_drop]; unfold maxLen; omega) (fun x hx => HXL.out x (List.mem_of_mem_drop hx)) hA
      rw [List.length_drop, hxn] at hwd
      have hwd64 := B.wd_64 (xs.drop wn) (fun x hx => HXL.out x (List.mem_of_mem_drop hx))
      have HCUT := Lib.hid (Nums.cutIf (k := wn) (c := c) hnum hlc)
      have HDR := Lib.hid (Nums.drop hnum wn)
      have HTL := Lib.hid (show (xs.take wn).length = wn by rw [List.length_take]; omega)
      simp only [hxn] at hlc ⊢
      generalize B.wd (xs.drop wn) = dd at *
      have HWD := Lib.hid hwd
      unfold maxLen at hcm
      have hwT : (wn : Int) ≤ (T : Int) := by omega
      have hwc : (wn : Int) ≤ (c : Int) := by omega
      clear hwd hnum hcell hxn
      by_cases hz : dd = 0
      · subst hz
        go_wp2_with fail
        all_goals
          refine (HWD.out _ _ (by first | exact HDR.out | (have hh := HCUT.out; rw [if_pos (by assumption)] at hh; exact hh))).mono ?_
          rintro e1 w4 ⟨rfl, rfl⟩
          go_wp2_with fail
          go_ret3
          refine FirstPost.good (below_then hb hb3) (HF.out.trans (if_neg (by simp))) ?_
          exact PV.blk HTL.out (HNUM.out.take wn)
      · have g3 : ((dd : Int) != 0) = true := by rw [bne_iff_ne]; omega
        go_wp2_with fail
        all_goals
          refine (HWD.out _ _ (by first | exact HDR.out | (have hh := HCUT.out; rw [if_pos (by assumption)] at hh; exact hh))).mono ?_
          rintro e1 w4 ⟨rfl, rfl⟩
          go_wp2_with fail
          go_ret3
          exact FirstPost.bad (er := 1) (below_then hb hb3) (by rw [HF.out, if_pos hz]) (by omega)
theorem hfirst_any (s : ByteArray) (left wide : Nat) (w : World) (hs : s.size ≤ maxLen) (hl1 : 1 ≤ left) (hl : left ≤ 64) (hw : wide ≤ 64) :
    Calls Tryz.prog 174 #[.string s, .int .i64 left, .int .i64 wide] w (FirstPost (H.first s.data.toList left wide) w) := by
  rcases V.rd_bad s.data.toList with h0 | h5 | h1
  · obtain ⟨h, k, hr⟩ : ∃ h k, V.rd s.data.toList = (h, k, 0) := ⟨_, _, by rw [← h0]⟩
    obtain ⟨k1, k2, _, k4, k5, _⟩ := V.rd_ok _ _ _ hr
    rw [len_data] at k2
    by_cases hf : H.fit h left = 0
    · unfold H.fit at hf
      by_cases hm : h / 2 = 0
      · rw [if_pos hm] at hf; omega
      rw [if_neg hm] at hf
      by_cases hp : h % 2 = 1
      · rw [if_pos hp] at hf
        by_cases hq : H.nb left < h / 2
        · rw [if_pos hq] at hf; omega
        · obtain ⟨m, rfl⟩ : ∃ m, h = 2 * m + 1 := ⟨h / 2, by omega⟩
          exact first_odd s left wide m k w hs hl hw (by omega) hl1 (by omega) k5 k2 hr
      · rw [if_neg hp] at hf
        by_cases hq : left < h / 2
        · rw [if_pos hq] at hf; omega
        · obtain ⟨m, rfl⟩ : ∃ m, h = 2 * m := ⟨h / 2, by omega⟩
          exact first_even s left wide m k w hs hl hw (by omega) (by omega) k5 k2 hr
    · exact first_fit s left wide h k _ w hs hl k4 hr rfl hf
  · exact first_rd s left wide 5 w hs (by omega) h5
  · exact first_rd s left wide 1 w hs (by omega) h1
end Go.Proofs.YtcachhnhncodoaaGreat
namespace Go.Proofs.YtcachhnhncodoaaGreat
open Go.RowKit
set_option linter.unusedVariables false
def hreadR (s : List UInt8) (many wide : Int) : List Nat × Nat :=
  if wide < 0 ∨ 64 < wide ∨ many < 0 then ([], 3) else if 64 < many then ([], 2) else H.read s many.toNat wide.toNat
theorem first_end (s : List UInt8) (left w : Nat) (h : (H.first s left w).1 = 0) : (H.first s left w).2.2 ≤ s.length := by
  unfold H.first at h ⊢
  by_cases h1 : (V.rd s).2.2 = 0
  · rw [if_neg (by simp [h1])] at h ⊢
    unfold H.firstL at h ⊢
    by_cases h2 : H.fit (V.rd s).1 left = 0
    · rw [if_neg (by simp [h2])] at h ⊢
      by_cases h3 : s.length < (V.rd s).2.1 + B.sz (H.held (V.rd s).1 * w)
      · rw [if_pos h3] at h; simp at h
      · rw [if_neg h3] at h ⊢
        unfold H.body at h ⊢
        split
        · simp
        · split
          · simp only; omega
          · split
            · simp
            · simp only; omega
    · rw [if_pos h2] at h; exact absurd h h2
  · rw [if_pos h1] at h; exact absurd h h1
set_option maxHeartbeats 400000 in
theorem hread_range (s : ByteArray) (many wide : Int) (w : World) (h : wide < 0 ∨ 64 < wide ∨ many < 0) :
    Calls Tryz.prog 148 #[.string s, .int .i64 many, .int .i64 wide] w (AllPostC ([], 3) w) := by
  by_cases h0 : wide < 0
  · have g1 : decide (wide < 0) = true := by simp; omega
    go_enter Tryz.func148, Tryz.ntmps148
    go_wp2_with fail
    go_ret2
    exact ⟨none, 0, rfl, Nums.nil _ _ _, Nat.le_refl _, by unfold maxLen; omega, Below.refl _ _⟩
  · have g1 : decide (wide < 0) = false := by simp; omega
    by_cases h1 : 64 < wide
    · have g2 : decide (64 < wide) = true := by simp; omega
      go_enter Tryz.func148, Tryz.ntmps148
      go_wp2_with fail
      go_ret2
      exact ⟨none, 0, rfl, Nums.nil _ _ _, Nat.le_refl _, by unfold maxLen; omega, Below.refl _ _⟩
    · have g2 : decide (64 < wide) = false := by simp; omega
      have g3 : decide (many < 0) = true := by simp; omega
      go_enter Tryz.func148, Tryz.ntmps148
      go_wp2_with fail
      go_ret2
      exact ⟨none, 0, rfl, Nums.nil _ _ _, Nat.le_refl _, by unfold maxLen; omega, Below.refl _ _⟩
set_option maxHeartbeats 400000 in
theorem hread_many (s : ByteArray) (many : Int) (wide : Nat) (w : World) (h : wide ≤ 64) (hm : 64 < many) :
    Calls Tryz.prog 148 #[.string s, .int .i64 many, .int .i64 wide] w (AllPostC ([], 2) w) := by
  have g1 : decide ((wide : Int) < 0) = false := by simp
  have g2 : decide ((64 : Int) < (wide : Int)) = false := by simp; omega
  have g3 : decide (many < 0) = false := by simp; omega
  have g4 : decide (64 < many) = true := by simp; omega
  go_enter Tryz.func148, Tryz.ntmps148
  go_wp2_with fail
  go_ret2
  exact ⟨none, 0, rfl, Nums.nil _ _ _, Nat.le_refl _, by unfold maxLen; omega, Below.refl _ _⟩
set_option maxHeartbeats 4000000 in
set_option maxRecDepth 100000 in
theorem hread_in (s : ByteArray) (many wide : Nat) (w : World) (hs : s.size ≤ maxLen) (hw : wide ≤ 64) (hm : many ≤ 64) :
    Calls Tryz.prog 148 #[.string s, .int .i64 many, .int .i64 wide] w (AllPostC (H.read s.data.toList many wide) w) := by
  obtain ⟨i0, hi, hz0, hz1, hz2⟩ := info_parts info_u64
  have hmt1 : ∀ (k : Nat) (n m : Int) (w : World), (method (k + 1) 183 (.agg #[.int .u64 n, .int .i64 m]) "hypostyle/hybrid.numbers").run Tryz.prog w = .ok (243, .agg #[.int .u64 n, .int .i64 m]) w := fun _ _ _ _ => by kernel_rfl
  have hmt2 : ∀ (k : Nat) (a : Option Addr) (n c : Nat) (w : World), (method (k + 1) 184 (.slice a n c) "hypostyle/hybrid.numbers").run Tryz.prog w = .ok (247, .slice a n c) w := fun _ _ _ _ _ => by kernel_rfl
  have g1 : decide ((wide : Int) < 0) = false := by simp
  have g2 : decide ((64 : Int) < (wide : Int)) = false := by simp; omega
  have g3 : decide ((many : Int) < 0) = false := by simp
  obtain ⟨R, hR⟩ : ∃ R, R = H.read s.data.toList many wide := ⟨_, rfl⟩
  have HR := Lib.hid hR
  rw [← hR]
  have hmax := hs
  unfold maxLen at hmax
  clear hR
  go_enter Tryz.func148, Tryz.ntmps148
  go_wp2_with (at_make; refine wpList_make_own _ rfl _ _ 44 rfl w.heap.size 34 i0 (.int .u64 0) 1 Tryz.underlying44 hi hz0 hz1 .i64 .i64 _ many rfl rfl rfl (by rw [hz2]; omega) (by unfold maxLen; omega) (Nat.le_refl _) ?_; intro w0 hown0 hgrow0)
  have hb0 : Below w.heap.size w w0 := (Below.refl _ _).grown hgrow0 (Nat.le_refl _) (fun k hk => by cases hk)
  have hrow0 : NumRow w.heap.size [] (.slice (some ⟨w.heap.size, 0, none⟩) 0 many) w0 := hown0
  clear hown0 hgrow0
  go_loopw [0, 8, 9, 10, 11, 30] (fun s' v _ _ _ _ wr => ∃ (t : ByteArray) (xs : List Nat), s' = .string t ∧ t.size ≤ s.size ∧ xs.length ≤ many ∧ NumRow w.heap.size xs v wr ∧ Hid (R = H.pre xs (H.read t.data.toList (many - xs.length) wide)) ∧ Below w.heap.size w wr) (fun _ v _ _ _ _ _ => many - lenS v)
  case atStart => exact ⟨s, [], rfl, Nat.le_refl _, by simp, hrow0, Lib.hid (by rw [H.pre_nil _ (H.read_err _ _ _)]; exact HR.out), hb0⟩
  case round =>
    obtain ⟨t, xs, rfl, hts, hxm, hrow, HK, hbw⟩ := hrel
    obtain ⟨a, c, rfl, hnum, hlc, hcm⟩ := numRow_numsc hrow
    by_cases hlt : xs.length < many
    · have hsub : ((many : Int) - (xs.length : Int)) = ((many - xs.length : Nat) : Int) := by omega
      have hfst := fun w => hfirst_any t (many - xs.length) wide w (by omega) (by omega) (by omega) hw
      have hgr := H.first_grows t.data.toList (many - xs.length) wide (by omega)
      have hen := first_end t.data.toList (many - xs.length) wide
      have hst := H.read_step t.data.toList (many - xs.length) wide (by omega)
      have hbd := H.read_bad t.data.toList (many - xs.length) wide (by omega)
      rw [len_data] at hen
      generalize H.first t.data.toList (many - xs.length) wide = r at *
      obtain ⟨er, p, en⟩ := r
      simp only at hgr hen hst hbd
      have HFST := Lib.hid hfst
      have HST := Lib.hid hst
      have HBD := Lib.hid hbd
      clear hfst hst hbd
      go_wp2_with fail
      refine (HFST.out _).mono ?_
      rintro e1 w1 ⟨hb1, hpost⟩
      simp only at hpost
      by_cases he : er = 0
      · rw [if_pos he] at hpost
        obtain ⟨v, rfl, hpv⟩ := hpost
        subst he
        obtain ⟨hy1, hy2⟩ := hgr rfl
        have hen' := hen rfl
        have HN := Lib.hid (show R = H.pre (xs ++ p.nums) (H.read (t.data.toList.drop en) (many - (xs ++ p.nums).length) wide) by
          rw [HK.out, HST.out rfl, H.pre_pre, List.length_append, Nat.sub_sub])
        have hrow1 : NumRow w.heap.size xs (.slice a xs.length c) w1 := row_below hrow hb1
        have henI : (en : Int) ≤ (t.size : Int) := by omega
        have hbw1 := below_then hbw hb1
        have hsz1 := hbw1.size
        clear hgr hen hrow hnum
        cases p with
        | run n m =>
          obtain rfl : v = _ := hpv
          simp only [H.Part.nums, List.length_replicate] at hy1 hy2 HN
          have HNM := Lib.hid (fun W => rnums_any n m W hy1 (by omega))
          have HX3 := Lib.hid (fun (v' : Value) (w3 : World) (h : w3.ownsRow w.heap.size 34 1 v' (xs.length + m) (nv xs ++ nv (List.replicate m n))) => show NumRow w.heap.size (xs ++ List.replicate m n) v' w3 by
            unfold NumRow; rw [List.length_append, List.length_replicate]; simpa [nv] using h)
          generalize hys : List.replicate m n = ys at *
          have hyl : ys.length = m := by rw [← hys, List.length_replicate]
          clear hys
          go_wp2_with fail
          refine (HNM.out _).mono ?_
          rintro e2 w2 ⟨A, c2, rfl, hn2, hb2⟩
          rw [hyl]
          have hA : A ≠ none := fun e => by
            obtain ⟨b, off, e', _⟩ := hn2 (fun e => by rw [e] at hyl; simp at hyl; omega)
            rw [e] at e'; cases e'
          have hrow2 := row_below hrow1 hb2
          have hbw2 := below_then hbw1 hb2
          have hsz2 := hbw2.size
          have hrow2' : w2.ownsRow w.heap.size 34 1 (.slice a xs.length c) xs.length (nv xs) := hrow2
          go_wp2_with (at_builtin; refine wpList_append_nums rfl (.tmp 44) (.tmp 46) rfl w.heap.size _ xs.length (nv xs) rfl hrow2' A m c2 ys hyl rfl (fun h => absurd h hA) hn2 (by omega) hsz2 ?_; intro v' w3 hown3 hgrow3)
          have hb3 : Below w.heap.size w w3 := hbw2.grown hgrow3 hsz2 (fun k hk => (hrow2'.lt k hk).1)
          have hrow3 := HX3.out v' w3 hown3
          go_wp2_with fail
          refine ⟨⟨t.extract en t.size, xs ++ ys, rfl, by simp; omega, by rw [List.length_append]; omega, hrow3, Lib.hid ?_, hb3⟩, ?_⟩
          · rw [HN.out, cut_data]
          · obtain ⟨a3, c3, e3, _⟩ := numRow_nums hrow3
            rw [e3]; simp [lenS]; omega
        | blk ys =>
          obtain ⟨A, c2, rfl, hn1⟩ := hpv
          simp only [H.Part.nums] at hy1 hy2 HN
          have hA : A ≠ none := fun e => by
            obtain ⟨b, off, e', _⟩ := hn1 (fun e => by rw [e] at hy1; simp at hy1)
            rw [e] at e'; cases e'
          have HX3 := Lib.hid (fun (v' : Value) (w3 : World) (h : w3.ownsRow w.heap.size 34 1 v' (xs.length + ys.length) (nv xs ++ nv ys)) => show NumRow w.heap.size (xs ++ ys) v' w3 by
            unfold NumRow; rw [List.length_append]; simpa [nv] using h)
          have hrow2' : w1.ownsRow w.heap.size 34 1 (.slice a xs.length c) xs.length (nv xs) := hrow1
          go_wp2_with fail
          refine (bnums_any _ _).mono ?_
          rintro e2 w2 ⟨rfl, rfl⟩
          go_wp2_with (at_builtin; refine wpList_append_nums rfl (.tmp 44) (.tmp 46) rfl w.heap.size _ xs.length (nv xs) rfl hrow2' A ys.length c2 ys rfl rfl (fun h => absurd h hA) hn1 (by omega) hsz1 ?_; intro v' w3 hown3 hgrow3)
          have hb3 : Below w.heap.size w w3 := hbw1.grown hgrow3 hsz1 (fun k hk => (hrow2'.lt k hk).1)
          have hrow3 := HX3.out v' w3 hown3
          go_wp2_with fail
          refine ⟨⟨t.extract en t.size, xs ++ ys, rfl, by simp; omega, by rw [List.length_append]; omega, hrow3, Lib.hid ?_, hb3⟩, ?_⟩
          · rw [HN.out, cut_data]
          · obtain ⟨a3, c3, e3, _⟩ := numRow_nums hrow3
            rw [e3]; simp [lenS]; omega
      · rw [if_neg he] at hpost
        subst hpost
        have g5 : ((er : Int) != 0) = true := by rw [bne_iff_ne]; omega
        have HE := Lib.hid (show R = ([], er) by rw [HK.out, HBD.out he]; unfold H.pre; simp [he])
        go_wp2_with fail
        go_ret2
        rw [HE.out]
        exact ⟨none, 0, rfl, Nums.nil _ _ _, Nat.le_refl _, by unfold maxLen; omega, below_then hbw hb1⟩
    · obtain rfl : many = xs.length := by omega
      have hz : xs.length - xs.length = 0 := Nat.sub_self _
      have HK2 := Lib.hid (show R = H.pre xs ([], if t.data.toList = [] then 0 else 1) by rw [HK.out, hz, H.read_zero])
      by_cases ht : t.size = 0
      · have HE := Lib.hid (show R = (xs, 0) by rw [HK2.out, if_pos (data_empty t ht)]; simp [H.pre])
        have g5 := empty_true t ht
        go_wp2_with fail
        go_ret2
        rw [HE.out]
        exact ⟨_, _, rfl, hnum, hlc, hcm, hbw⟩
      · have HE := Lib.hid (show R = ([], 1) by rw [HK2.out, if_neg (data_ne t ht)]; simp [H.pre])
        have g5 := empty_false t ht
        go_wp2_with fail
        go_ret2
        rw [HE.out]
        exact ⟨none, 0, rfl, Nums.nil _ _ _, Nat.le_refl _, by unfold maxLen; omega, hbw⟩
theorem hread_any (s : ByteArray) (many wide : Int) (w : World) (hs : s.size ≤ maxLen) :
    Calls Tryz.prog 148 #[.string s, .int .i64 many, .int .i64 wide] w (AllPostC (hreadR s.data.toList many wide) w) := by
  unfold hreadR
  by_cases h0 : wide < 0 ∨ 64 < wide ∨ many < 0
  · rw [if_pos h0]; exact hread_range s many wide w h0
  rw [if_neg h0]
  obtain ⟨n, rfl⟩ : ∃ n : Nat, wide = n := ⟨wide.toNat, by omega⟩
  by_cases h1 : 64 < many
  · rw [if_pos h1]; exact hread_many s many n w (by omega) h1
  obtain ⟨m, rfl⟩ : ∃ m : Nat, many = m := ⟨many.toNat, by omega⟩
  rw [if_neg h1, Int.toNat_natCast, Int.toNat_natCast]
  exact hread_in s m n w hs (by omega) (by omega)
end Go.Proofs.YtcachhnhncodoaaGreat
namespace Go.Proofs.YtcachhnhncodoaaGreat
open Go.RowKit
set_option linter.unusedVariables false
theorem hfirst_lt (s : List UInt8) (left w : Nat) : ∀ x ∈ (H.first s left w).2.1.nums, x < 2 ^ w := by
  unfold H.first
  split
  · intro x hx; simp [H.Part.nums] at hx
  · unfold H.firstL
    split
    · intro x hx; simp [H.Part.nums] at hx
    · split
      · intro x hx; simp [H.Part.nums] at hx
      · unfold H.body
        split
        · intro x hx; simp [H.Part.nums] at hx
        · split
          · intro x hx
            have h1 := B.dg_length w 1 (B.leN (((s.drop (V.rd s).2.1).take (B.sz (H.held (V.rd s).1 * w)))))
            have h2 := B.dg_lt w 1 (B.leN (((s.drop (V.rd s).2.1).take (B.sz (H.held (V.rd s).1 * w)))))
            simp only [H.Part.nums] at hx
            obtain ⟨_, rfl⟩ := List.mem_replicate.1 hx
            generalize B.dg w 1 (B.leN (((s.drop (V.rd s).2.1).take (B.sz (H.held (V.rd s).1 * w))))) = d at *
            cases d with
            | nil => simp at h1
            | cons y t => exact h2 y (by simp)
          · split
            · intro x hx; simp [H.Part.nums] at hx
            · intro x hx
              exact B.dg_lt _ _ _ x (List.mem_of_mem_take hx)
theorem hreadF_lt (f : Nat) (s : List UInt8) (left w : Nat) : ∀ x ∈ (H.readF f s left w).1, x < 2 ^ w := by
  induction f generalizing s left with
  | zero => intro x hx; simp [H.readF] at hx
  | succ f ih =>
    unfold H.readF
    split
    · intro x hx; simp at hx
    · split
      · intro x hx; simp at hx
      · unfold H.pre
        split
        · intro x hx; simp at hx
        · intro x hx
          rcases List.mem_append.1 hx with h | h
          · exact hfirst_lt _ _ _ x h
          · exact ih _ _ x h
theorem hreadR_lt (s : List UInt8) (many wide : Int) : ∀ x ∈ (hreadR s many wide).1, x < 18446744073709551616 := by
  unfold hreadR
  split
  · intro x hx; simp at hx
  · split
    · intro x hx; simp at hx
    · intro x hx
      exact Nat.lt_of_lt_of_le (hreadF_lt _ _ _ _ x hx) (Nat.pow_le_pow_right (n := 2) (by omega) (show wide.toNat ≤ 64 by omega))
theorem hreadR_len (s : List UInt8) (many wide : Int) : (hreadR s many wide).1.length ≤ many.toNat := by
  unfold hreadR
  split
  · simp
  · split
    · simp
    · by_cases h : (H.read s many.toNat wide.toNat).2 = 0
      · exact Nat.le_of_eq (H.read_length s many.toNat wide.toNat h)
      · rw [H.read_err s many.toNat wide.toNat h]; simp
def parse2 (n wd : Nat) (h : List Nat × Nat) : Nat × List Nat × Nat := if h.2 ≠ 0 then (0, [], h.2) else if B.wd h.1 ≠ wd then (0, [], 1) else (n, h.1, 0)
def parseR (s : List UInt8) (many : Nat) : Nat × List Nat × Nat :=
  if (V.rd s).2.2 ≠ 0 then (0, [], (V.rd s).2.2) else if s.length = (V.rd s).2.1 then (0, [], 5)
  else parse2 (V.rd s).1 (s.getD (V.rd s).2.1 0).toNat (hreadR (s.drop ((V.rd s).2.1 + 1)) (many - 1 : Nat) ((s.getD (V.rd s).2.1 0).toNat : Nat))
def ParsePost (r : Nat × List Nat × Nat) (w : World) (e : Ending) (w' : World) : Prop :=
  ∃ a c, e = .returned (.tuple #[.int .u64 r.1, .slice a r.2.1.length c, .int .i64 r.2.2]) ∧ Nums w' w'.heap.size a r.2.1 ∧ r.2.1.length ≤ c ∧ c ≤ maxLen ∧ Below w.heap.size w w'
theorem ParsePost.none {w w' : World} (n er : Nat) (h : Below w.heap.size w w') : ParsePost (n, [], er) w (.returned (.tuple #[.int .u64 n, .slice none 0 0, .int .i64 er])) w' :=
  ⟨Option.none, 0, rfl, Nums.nil _ _ _, Nat.le_refl _, by unfold maxLen; omega, h⟩
set_option maxHeartbeats 1000000 in
set_option maxRecDepth 100000 in
theorem parse_any (s : ByteArray) (many : Nat) (w : World) (hs : s.size ≤ maxLen) (hm1 : 1 ≤ many) (hm : many ≤ 64) :
    Calls Tryz.prog 175 #[.string s, .int .i64 many] w (ParsePost (parseR s.data.toList many) w) := by
  have hv := fun w => vread_any s w hs
  have hmax := hs
  unfold maxLen at hmax
  unfold parseR
  by_cases he : (V.rd s.data.toList).2.2 = 0
  · rw [if_neg (by simp [he])]
    obtain ⟨n, k, hr⟩ : ∃ n k, V.rd s.data.toList = (n, k, 0) := ⟨_, _, by rw [← he]⟩
    obtain ⟨k1, k2, _, k4, k5, _⟩ := V.rd_ok _ _ _ hr
    rw [hr] at hv ⊢
    rw [len_data] at k2 ⊢
    have HV := Lib.hid hv
    clear hv hr he
    by_cases hl : s.size = k
    · rw [if_pos hl]
      have g1 : ((s.size : Int) == (k : Int)) = true := by rw [beq_iff_eq]; omega
      go_enter Tryz.func175, Tryz.ntmps175
      go_wp2_with fail
      refine (HV.out _).mono ?_
      rintro e1 w1 ⟨rfl, hb⟩
      go_wp2_with fail
      go_ret3
      exact ParsePost.none 0 5 hb
    · rw [if_neg hl]
      have g1 : ((s.size : Int) == (k : Int)) = false := by rw [beq_eq_false_iff_ne]; omega
      have hks : k < s.size := by omega
      have hksI : (k : Int) < (s.size : Int) := by omega
      have hks2 : ((k + 1 : Nat) : Int) ≤ (s.size : Int) := by omega
      have hsub : ((many : Int) - 1) = ((many - 1 : Nat) : Int) := by omega
      have hbyte : s.data.toList.getD k 0 = s[k] := by simp [List.getD, ByteArray.getElem_eq_getElem_data, hks]
      simp only [hbyte]
      have hu8 := s[k].toNat_lt
      have hw64 : wrap64 (s[k].toNat : Int) = (s[k].toNat : Int) := by
        unfold wrap64; omega
      have hrd := fun W => hread_any (s.extract (k + 1) s.size) ((many - 1 : Nat) : Int) (s[k].toNat : Int) W (by simp; unfold maxLen; omega)
      rw [cut_data] at hrd
      have hrl := hreadR_lt (s.data.toList.drop (k + 1)) ((many - 1 : Nat) : Int) (s[k].toNat : Int)
      have hrn := hreadR_len (s.data.toList.drop (k + 1)) ((many - 1 : Nat) : Int) (s[k].toNat : Int)
      rw [Int.toNat_natCast] at hrn
      generalize hreadR (s.data.toList.drop (k + 1)) ((many - 1 : Nat) : Int) (s[k].toNat : Int) = r at *
      obtain ⟨zs, er⟩ := r
      simp only at hrl hrn
      have HRD := Lib.hid hrd
      have HWD := Lib.hid (fun W A c' h => width_any A c' zs W W.heap.size (by unfold maxLen; omega) hrl h)
      clear hrd hrl hbyte
      unfold parse2
      simp only
      by_cases hz : er = 0
      · subst hz
        rw [if_neg (by simp)]
        by_cases hwe : B.wd zs = s[k].toNat
        · rw [if_neg (by simp [hwe])]
          rw [hwe] at HWD
          go_enter Tryz.func175, Tryz.ntmps175
          go_wp2_with fail
          refine (HV.out _).mono ?_
          rintro e1 w1 ⟨rfl, hb⟩
          go_wp2_with fail
          refine (HRD.out _).mono ?_
          rintro e2 w2 ⟨A, c2, rfl, hn2, hlc2, hcm2, hb2⟩
          go_wp2_with fail
          refine (HWD.out _ _ _ hn2).mono ?_
          rintro e3 w3 ⟨rfl, rfl⟩
          go_wp2_with fail
          go_ret3
          exact ⟨_, _, rfl, hn2, hlc2, hcm2, below_then hb hb2⟩
        · rw [if_pos hwe]
          have g2 : ((B.wd zs : Int) != (s[k].toNat : Int)) = true := by rw [bne_iff_ne]; omega
          go_enter Tryz.func175, Tryz.ntmps175
          go_wp2_with fail
          refine (HV.out _).mono ?_
          rintro e1 w1 ⟨rfl, hb⟩
          go_wp2_with fail
          refine (HRD.out _).mono ?_
          rintro e2 w2 ⟨A, c2, rfl, hn2, hlc2, hcm2, hb2⟩
          go_wp2_with fail
          refine (HWD.out _ _ _ hn2).mono ?_
          rintro e3 w3 ⟨rfl, rfl⟩
          go_wp2_with fail
          go_ret3
          exact ParsePost.none 0 1 (below_then hb hb2)
      · rw [if_pos hz]
        have g2 : ((er : Int) != 0) = true := by rw [bne_iff_ne]; omega
        go_enter Tryz.func175, Tryz.ntmps175
        go_wp2_with fail
        refine (HV.out _).mono ?_
        rintro e1 w1 ⟨rfl, hb⟩
        go_wp2_with fail
        refine (HRD.out _).mono ?_
        rintro e2 w2 ⟨A, c2, rfl, hn2, hlc2, hcm2, hb2⟩
        go_wp2_with fail
        go_ret3
        exact ParsePost.none 0 er (below_then hb hb2)
  · rw [if_pos he]
    generalize V.rd s.data.toList = r at *
    have g1 : ((r.2.2 : Int) != 0) = true := by rw [bne_iff_ne]; omega
    have HV := Lib.hid hv
    clear hv
    go_enter Tryz.func175, Tryz.ntmps175
    go_wp2_with fail
    refine (HV.out _).mono ?_
    rintro e1 w1 ⟨rfl, hb⟩
    go_wp2_with fail
    go_ret3
    exact ParsePost.none 0 _ hb
end Go.Proofs.YtcachhnhncodoaaGreat
namespace Go.Proofs.YtcachhnhncodoaaGreat
open Go.RowKit
set_option linter.unusedVariables false
def dread2 (p : Nat × List Nat × Nat) : List Nat × Nat := if p.2.2 ≠ 0 then ([], p.2.2) else (D.sums (p.1 :: D.zags p.2.1), 0)
def dreadR (s : List UInt8) (many : Int) : List Nat × Nat :=
  if many < 0 then ([], 3) else if 64 < many then ([], 2) else if many = 0 then ([], if s = [] then 0 else 1) else dread2 (parseR s many.toNat)
theorem parseR_facts (s : List UInt8) (many : Nat) : (parseR s many).1 < 18446744073709551616 ∧ (parseR s many).2.1.length ≤ many - 1 ∧ (∀ x ∈ (parseR s many).2.1, x < 18446744073709551616) ∧ ((parseR s many).2.2 = 0 ∨ (parseR s many).2.1 = []) := by
  unfold parseR
  by_cases h : (V.rd s).2.2 = 0
  · rw [if_neg (by simp [h])]
    obtain ⟨n, k, hr⟩ : ∃ n k, V.rd s = (n, k, 0) := ⟨_, _, by rw [← h]⟩
    obtain ⟨_, _, _, k4, _, _⟩ := V.rd_ok _ _ _ hr
    rw [hr]
    by_cases hl : s.length = k
    · rw [if_pos hl]; simp
    · rw [if_neg hl]
      have h1 := hreadR_lt (s.drop (k + 1)) ((many - 1 : Nat) : Int) ((s.getD k 0).toNat : Int)
      have h2 := hreadR_len (s.drop (k + 1)) ((many - 1 : Nat) : Int) ((s.getD k 0).toNat : Int)
      rw [Int.toNat_natCast] at h2
      simp only
      generalize hreadR (s.drop (k + 1)) ((many - 1 : Nat) : Int) ((s.getD k 0).toNat : Int) = r at *
      unfold parse2
      split
      · simp
      · split
        · simp
        · exact ⟨k4, h2, h1, Or.inl rfl⟩
  · rw [if_pos h]; simp
set_option maxHeartbeats 2000000 in
set_option maxRecDepth 100000 in
theorem along_zag2 (w : World) (a : Option Addr) (c : Nat) (l : List Nat) (hl : l.length ≤ 64) (hx : ∀ x ∈ l, x < 18446744073709551616) (hu : Nums w w.heap.size a l) :
    Calls Tryz.prog 163 #[.slice a l.length c, .func (.func 177) #[] #[]] w (fun e w2 => ∃ A c2, e = .returned (.slice (some A) (D.runF D.fzag 0 l).length c2) ∧ Nums w2 w2.heap.size (some A) (D.runF D.fzag 0 l) ∧ Below w.heap.size w w2) := by
  obtain ⟨i0, hi, hz0, hz1, hz2⟩ := info_parts info_u64
  have HU := Lib.hid hu
  have HX := Lib.hid hx
  have HST := Lib.hid (fun k hk => ublk_step D.fzag 0 l k hk)
  have HLN := Lib.hid (fun k hk => ublk_len D.fzag 0 l k hk)
  have HTK := Lib.hid (fun k hk => D.runF_take D.fzag 0 l k hk)
  have HRL := Lib.hid (D.runF_length D.fzag 0 l)
  clear hu hx
  go_enter Tryz.func163, Tryz.ntmps163
  go_wp2_with (at_make; refine wpList_make_full _ rfl _ _ 44 rfl w.heap.size 34 i0 (.int .u64 0) 1 Tryz.underlying44 hi hz0 hz1 .i64 .i64 _ _ l.length rfl rfl rfl rfl (by rw [hz2]; omega) (by unfold maxLen; omega) (Nat.le_refl _) ?_; intro w0 hown0 hgrow0)
  have hb0 : Below w.heap.size w w0 := (Below.refl _ _).grown hgrow0 (Nat.le_refl _) (fun k hk => by cases hk)
  have hblk := made_ublk hown0
  obtain ⟨g, hg⟩ : ∃ g, g = w.heap.size := ⟨_, rfl⟩
  rw [← hg] at hblk ⊢
  have hgl : w.heap.size ≤ g := by omega
  clear hg hown0 hgrow0
  go_wp2_with fail
  go_loopw [6, 7, 13] (fun _ _ i wr => ∃ k : Nat, k ≤ l.length ∧ i = .int .i64 k ∧ UBlk wr g (D.runF D.fzag 0 (l.take k) ++ List.replicate (l.length - k) 0) ∧ Below w.heap.size w wr) (fun _ _ i _ => l.length - (intOf i).toNat)
  case atStart => exact ⟨0, by omega, rfl, by simpa [D.runF] using hblk, hb0⟩
  case round =>
    obtain ⟨k, hk, rfl, hub, hbw⟩ := hrel
    by_cases hlt : k < l.length
    · obtain ⟨b, off, rfl, hb, hcc⟩ := HU.out (fun e => by rw [e] at hlt; simp at hlt)
      have ck := (hbw.cell (p := ⟨b, off + k, none⟩) hb).trans (hcc k hlt)
      have hxk := HX.out _ (getD_mem l k hlt)
      have HS := Lib.hid (show (D.runF D.fzag 0 (l.take k) ++ List.replicate (l.length - k) 0).set k (D.zag (l.getD k 0)) = _ from HST.out k hlt)
      have hln := HLN.out k hk
      have hcall := zag_any (l.getD k 0) wr hxk
      generalize l.getD k 0 = x at *
      generalize D.runF D.fzag 0 (l.take k) ++ List.replicate (l.length - k) 0 = acc at *
      generalize D.zag x = y at *
      have HC := Lib.hid hcall
      clear hcc hcall
      go_wp2_with fail
      refine (HC.out).mono ?_
      rintro e w1 ⟨rfl, rfl⟩
      have hub1 := hub
      have u1 := hub1.cell k (by omega)
      have u2 := hub1.free k
      have hub2 := hub1.put k y
      generalize acc.getD k 0 = oz at *
      clear hub1 hub
      have hkI : (k : Int) < (l.length : Int) := by omega
      go_wp2_with fail
      exact ⟨⟨k + 1, by omega, by go_num, by rw [← HS.out]; exact hub2, hbw.setCell (p := ⟨g, k, none⟩) hgl _⟩, by simp [intOf]; omega⟩
    · obtain rfl : k = l.length := by omega
      have hn := hub.nums
      rw [Nat.sub_self, List.replicate_zero, List.append_nil, List.take_length] at hn
      have HN := Lib.hid hn
      clear hn hub
      go_wp2_with fail
      go_ret
      exact ⟨⟨g, 0, none⟩, l.length, by rw [HRL.out]; rfl, HN.out, hbw⟩
set_option maxHeartbeats 1000000 in
set_option maxRecDepth 100000 in
theorem dread_in (s : ByteArray) (many : Nat) (w : World) (hs : s.size ≤ maxLen) (h1 : 1 ≤ many) (hm : many ≤ 64) :
    Calls Tryz.prog 149 #[.string s, .int .i64 many] w (AllPostC (dread2 (parseR s.data.toList many)) w) := by
  have hp := fun w => parse_any s many w hs h1 hm
  obtain ⟨f1, f2, f3, _⟩ := parseR_facts s.data.toList many
  generalize parseR s.data.toList many = p at *
  obtain ⟨n, zs, er⟩ := p
  simp only at f1 f2 f3
  have HP := Lib.hid hp
  clear hp
  have g1 : decide ((many : Int) < 0) = false := by simp
  have g2 : decide ((64 : Int) < (many : Int)) = false := by simp; omega
  have g3 : ((many : Int) == 0) = false := by rw [beq_eq_false_iff_ne]; omega
  unfold dread2
  simp only
  by_cases he : er = 0
  · subst he
    rw [if_neg (by simp)]
    have hzl : (D.runF D.fzag 0 zs).length = zs.length := D.runF_length _ _ _
    have hzz : D.runF D.fzag 0 zs = D.zags zs := D.run_zag 0 zs
    have HX3 := Lib.hid (fun (v' : Value) (w3 : World) (h : w3.ownsRow w.heap.size 34 1 v' (1 + zs.length) ((#[Value.int .u64 (n : Int)] : Array Value).toList ++ nv (D.runF D.fzag 0 zs))) => show NumRow w.heap.size (n :: D.zags zs) v' w3 by
      unfold NumRow; rw [hzz] at h; rw [List.length_cons, ← hzz, hzl, Nat.add_comm, hzz]; simpa [nv] using h)
    have HXX := Lib.hid (show ∀ x ∈ n :: D.zags zs, x < 18446744073709551616 by
      intro x hx
      rcases List.mem_cons.1 hx with h | h
      · omega
      · exact D.zags_lt zs f3 x h)
    have hsn : ¬ 64 < (n :: D.zags zs).length := by rw [List.length_cons, ← hzz, hzl]; omega
    have hsums := fun a c W h => sums_any a c (n :: D.zags zs) W HXX.out h
    rw [if_neg hsn] at hsums
    have HSUMS := Lib.hid hsums
    clear hsums
    go_enter Tryz.func149, Tryz.ntmps149
    go_wp2_with fail
    refine (HP.out _).mono ?_
    rintro e1 w1 ⟨A, c1, rfl, hn1, hlc1, hcm1, hb1⟩
    have hlit := World.ownsRow_lit (base := w.heap.size) (e := 34) (size := 1) w1 #[.int .u64 (n : Int)] 1 hb1.size (by decide) rfl
    have hb2 : Below w.heap.size w (w1.alloc (.cells #[.int .u64 (n : Int)] 34)) := hb1.alloc hb1.size _
    have hn2 := hn1.below ((Below.refl w1.heap.size w1).alloc (Nat.le_refl _) (.cells #[.int .u64 (n : Int)] 34))
    have HZ := Lib.hid (along_zag2 (w1.alloc (.cells #[.int .u64 (n : Int)] 34)) A c1 zs (by omega) f3 (hn2.mono (by simp)))
    go_wp2_with fail
    refine (HZ.out).mono ?_
    rintro e2 w2 ⟨Z, c2, rfl, hnz, hb3⟩
    have hrow2 := row_below hlit hb3
    have hb4 := below_then hb2 hb3
    have hsz4 := hb4.size
    rw [hzl]
    go_wp2_with (at_builtin; refine wpList_append_nums rfl (.tmp 36) (.tmp 38) rfl w.heap.size _ 1 _ rfl hrow2 (some Z) zs.length c2 (D.runF D.fzag 0 zs) hzl rfl (fun h => absurd h (by simp)) hnz (by omega) hsz4 ?_; intro v' w3 hown3 hgrow3)
    have hb5 : Below w.heap.size w w3 := hb4.grown hgrow3 hsz4 (fun k hk => (hrow2.lt k hk).1)
    have hrow3 : NumRow w.heap.size (n :: D.zags zs) v' w3 := HX3.out v' w3 hown3
    obtain ⟨a3, c3, rfl, hn3⟩ := numRow_nums hrow3
    go_wp2_with fail
    refine (HSUMS.out _ _ _ hn3).mono ?_
    rintro e4 w4 ⟨a4, c4, rfl, hn4, hlc4, hcm4, hb6⟩
    go_wp2_with fail
    go_ret2
    exact ⟨_, _, rfl, hn4, hlc4, hcm4, below_then hb5 hb6⟩
  · rw [if_pos he]
    have g4 : ((er : Int) != 0) = true := by rw [bne_iff_ne]; omega
    go_enter Tryz.func149, Tryz.ntmps149
    go_wp2_with fail
    refine (HP.out _).mono ?_
    rintro e1 w1 ⟨A, c1, rfl, hn1, hlc1, hcm1, hb1⟩
    go_wp2_with fail
    go_ret2
    exact ⟨none, 0, rfl, Nums.nil _ _ _, Nat.le_refl _, by unfold maxLen; omega, hb1⟩
theorem dread_any (s : ByteArray) (many : Int) (w : World) (hs : s.size ≤ maxLen) :
    Calls Tryz.prog 149 #[.string s, .int .i64 many] w (AllPostC (dreadR s.data.toList many) w) := by
  unfold dreadR
  by_cases h0 : many < 0
  · rw [if_pos h0]
    have g1 : decide (many < 0) = true := by simp; omega
    go_enter Tryz.func149, Tryz.ntmps149
    go_wp2_with fail
    go_ret2
    exact ⟨none, 0, rfl, Nums.nil _ _ _, Nat.le_refl _, by unfold maxLen; omega, Below.refl _ _⟩
  rw [if_neg h0]
  obtain ⟨m, rfl⟩ : ∃ m : Nat, many = m := ⟨many.toNat, by omega⟩
  have g1 : decide ((m : Int) < 0) = false := by simp
  by_cases h1 : 64 < (m : Int)
  · rw [if_pos h1]
    have g2 : decide ((64 : Int) < (m : Int)) = true := by simp; omega
    go_enter Tryz.func149, Tryz.ntmps149
    go_wp2_with fail
    go_ret2
    exact ⟨none, 0, rfl, Nums.nil _ _ _, Nat.le_refl _, by unfold maxLen; omega, Below.refl _ _⟩
  rw [if_neg h1]
  by_cases h2 : (m : Int) = 0
  · rw [if_pos h2]
    obtain rfl : m = 0 := by omega
    by_cases ht : s.size = 0
    · rw [if_pos (data_empty s ht)]
      have g5 := empty_true s ht
      go_enter Tryz.func149, Tryz.ntmps149
      go_wp2_with fail
      go_ret2
      exact ⟨none, 0, rfl, Nums.nil _ _ _, Nat.le_refl _, by unfold maxLen; omega, Below.refl _ _⟩
    · rw [if_neg (data_ne s ht)]
      have g5 := empty_false s ht
      go_enter Tryz.func149, Tryz.ntmps149
      go_wp2_with fail
      go_ret2
      exact ⟨none, 0, rfl, Nums.nil _ _ _, Nat.le_refl _, by unfold maxLen; omega, Below.refl _ _⟩
  rw [if_neg h2, Int.toNat_natCast]
  exact dread_in s m w hs (by omega) (by omega)
end Go.Proofs.YtcachhnhncodoaaGreat
namespace Go.Proofs.YtcachhnhncodoaaGreat
open Go.RowKit
set_option linter.unusedVariables false
theorem step_append_one {w : World} {ops : Array Oper} {o : Oper} {a : Act} {K : Act → World → Prop} {Q : Exit → Act → World → Prop} {E : Prop} (hgd : o.guard = none) (s x : Operand)
    (ho : o.op = .call { callee := .builtin .append, args := #[s, x], argTypes := #[44, 44] }) (base : Nat)
    (v : Value) (xs : List Nat) (hs : a.eval s = v) (hown : NumRow base xs v w)
    (g : Nat) (y : Nat) (hx : a.eval x = .slice (some ⟨g, 0, none⟩) 1 1) (hc : w.cell? ⟨g, 0, none⟩ = some (.int .u64 (y : Int)))
    (hbytes : (xs.length + 1) * 8 ≤ 140737488355328) (hbase : base ≤ w.heap.size)
    (h : ∀ v' w', NumRow base (xs ++ [y]) v' w' → Below base w w' → K (a.put o.dst v') w') :
    if Region.wanted o (yielded ops a.tmps) = true then Oper.wp Tryz.prog o a w K Q else E := by
  obtain ⟨i, hi, hz0, hz1, hz2⟩ := info_parts info_u64
  refine step_append_lies w hgd s x 44 ho base 34 i (.int .u64 0) 1 8 Tryz.underlying44 hi hz0 hz1 hz2 rfl (by decide) v xs.length (nv xs) hs hown ⟨g, 0, none⟩ 1 1 [.int .u64 (y : Int)] hx rfl ?_ ?_ (by decide) (by unfold maxLen; omega) hbytes hbase _ rfl ?_
  · intro j u hj
    match j, hj with
    | 0, hj => simp at hj; subst hj; simpa [Addr.add] using hc
  · intro u hu; simp at hu; subst hu; rfl
  · intro g' cap w' h1 h2 h3 h4
    refine h _ w' ?_ ?_
    · unfold NumRow; rw [List.length_append]; simpa [nv] using h1
    · exact (Below.refl base w).grown h2 hbase (fun k hk => (hown.lt k hk).1)
end Go.Proofs.YtcachhnhncodoaaGreat
namespace Go.Proofs.YtcachhnhncodoaaGreat
open Go.RowKit
set_option linter.unusedVariables false
set_option maxHeartbeats 400000 in
theorem rzig_any (n : Nat) (w : World) (hn : n < 18446744073709551616) :
    Calls Tryz.prog 157 #[.int .u64 n] w fun e w' => e = .returned (.int .u64 (D.zig n)) ∧ w = w' := by
  by_cases h : n < 9223372036854775808
  · have HZ := Lib.hid (show D.zig n = 2 * n by unfold D.zig; rw [if_pos h])
    have hw : IntKind.u64.wrap (2 * (n : Int)) = 2 * (n : Int) := by rw [IntKind.wrap_u64]; omega
    have g1 : decide ((n : Int) < 9223372036854775808) = true := by simp; omega
    go_enter Tryz.func157, Tryz.ntmps157
    go_wp2_with fail
    go_ret
    exact ⟨by rw [HZ.out]; simp, rfl⟩
  · have HZ := Lib.hid (show D.zig n = 2 * (18446744073709551616 - n) - 1 by unfold D.zig; rw [if_neg h])
    have g1 : decide ((n : Int) < 9223372036854775808) = false := by simp; omega
    obtain ⟨m, hm⟩ : ∃ m, m = 18446744073709551616 - n := ⟨_, rfl⟩
    have hw : IntKind.u64.wrap (-(n : Int)) = (m : Int) := by rw [IntKind.wrap_u64]; omega
    have hw0 : IntKind.u64.wrap (0 - (n : Int)) = (m : Int) := by rw [IntKind.wrap_u64]; omega
    obtain ⟨z, hz⟩ : ∃ z, z = 2 * (18446744073709551616 - n) - 1 := ⟨_, rfl⟩
    have hw2 : IntKind.u64.wrap (IntKind.u64.wrap (2 * (m : Int)) - 1) = (z : Int) := by rw [IntKind.wrap_u64, IntKind.wrap_u64]; omega
    rw [← hz] at HZ
    clear hm hz
    go_enter Tryz.func157, Tryz.ntmps157
    go_wp2_with fail
    go_ret
    exact ⟨by rw [HZ.out]; rfl, rfl⟩
set_option maxHeartbeats 400000 in
theorem rzag_any (n : Nat) (w : World) (hn : n < 18446744073709551616) :
    Calls Tryz.prog 123 #[.int .u64 n] w fun e w' => e = .returned (.int .u64 (D.zag n)) ∧ w = w' := by
  obtain ⟨q, hq⟩ : ∃ q, q = n / 2 := ⟨_, rfl⟩
  have hqI : ((n : Int) / 2) = (q : Int) := by omega
  have hqb : q < 9223372036854775808 := by omega
  by_cases h : n % 2 = 0
  · have HZ := Lib.hid (show D.zag n = q by unfold D.zag; rw [if_pos h, hq])
    have g1 : ((n : Int) % 2 == 0) = true := by rw [beq_iff_eq]; omega
    clear hq
    go_enter Tryz.func123, Tryz.ntmps123
    go_wp2_with fail
    go_ret
    exact ⟨by rw [HZ.out]; rfl, rfl⟩
  · obtain ⟨z, hz⟩ : ∃ z, z = 18446744073709551616 - 1 - q := ⟨_, rfl⟩
    have HZ := Lib.hid (show D.zag n = z by unfold D.zag; rw [if_neg h, hz, hq])
    have g1 : ((n : Int) % 2 == 0) = false := by rw [beq_eq_false_iff_ne]; omega
    have hw2 : IntKind.u64.wrap (-((q : Int) + 1)) = (z : Int) := by rw [IntKind.wrap_u64]; omega
    have hw3 : IntKind.u64.wrap (0 - ((q : Int) + 1)) = (z : Int) := by rw [IntKind.wrap_u64]; omega
    clear hq hz
    go_enter Tryz.func123, Tryz.ntmps123
    go_wp2_with fail
    go_ret
    exact ⟨by rw [HZ.out]; rfl, rfl⟩
theorem diffs_take0 (l : List Nat) (h : 0 < l.length) (hx : ∀ x ∈ l, x < 18446744073709551616) : D.diffs (l.take 1) = [l.getD 0 0] := by
  cases l with
  | nil => simp at h
  | cons x t =>
    have hx0 := hx x (by simp)
    have e : (D.fd 0 x).2 = x := by unfold D.fd; simp only; omega
    show [(D.fd 0 x).2] = [x]
    rw [e]
theorem diffs_take (l : List Nat) (k : Nat) (h1 : 1 ≤ k) (h : k < l.length) : D.diffs (l.take (k + 1)) = D.diffs (l.take k) ++ [(l.getD k 0 + (18446744073709551616 - l.getD (k - 1) 0)) % 18446744073709551616] := by
  unfold D.diffs
  rw [(D.runF_take D.fd 0 l k h).1]
  obtain ⟨j, rfl⟩ : ∃ j, k = j + 1 := ⟨k - 1, by omega⟩
  rw [(D.runF_take D.fd 0 l j (by omega)).2]
  rfl
set_option maxHeartbeats 1000000 in
set_option maxRecDepth 100000 in
theorem rdiffs_some (b off c : Nat) (l : List Nat) (w : World) (hl : l.length * 8 ≤ 140737488351232) (hx : ∀ x ∈ l, x < 18446744073709551616) (hb : b < w.heap.size)
    (hc : ∀ i, i < l.length → w.cell? ⟨b, off + i, none⟩ = some (.int .u64 ((l.getD i 0 : Nat) : Int))) :
    Calls Tryz.prog 156 #[.slice (some ⟨b, off, none⟩) l.length c] w (NumsC (D.diffs l) w.heap.size w) := by
  have HC := Lib.hid hc
  have HX := Lib.hid hx
  have HT0 := Lib.hid (fun h => diffs_take0 l h hx)
  have HTK := Lib.hid (fun k h1 h => diffs_take l k h1 h)
  have HLN := Lib.hid (fun k (h : k ≤ l.length) => show (D.diffs (l.take k)).length = k by rw [D.diffs_length, List.length_take]; omega)
  clear hc hx
  go_enter Tryz.func156, Tryz.ntmps156
  go_wp2_with fail
  go_loopw [3, 4] (fun v i wr => ∃ k : Nat, k ≤ l.length ∧ i = .int .i64 k ∧ NumRow w.heap.size (D.diffs (l.take k)) v wr ∧ Below w.heap.size w wr) (fun _ i _ => l.length - (intOf i).toNat)
  case atStart => exact ⟨0, by omega, rfl, ⟨rfl, Or.inl ⟨rfl, rfl⟩⟩, Below.refl _ _⟩
  case round =>
    obtain ⟨k, hk, rfl, hrow, hbw⟩ := hrel
    have hln := HLN.out k hk
    by_cases hlt : k < l.length
    · have ck := (hbw.cell (p := ⟨b, off + k, none⟩) hb).trans (HC.out k hlt)
      by_cases h0 : k = 0
      · subst h0
        have HT := Lib.hid (HT0.out hlt)
        have hnil : D.diffs (l.take 0) = [] := rfl
        rw [hnil] at hrow
        generalize l.getD 0 0 = x at *
        have HROW := Lib.hid (show wr.ownsRow w.heap.size 34 1 u3 0 [] from hrow)
        have hb5 : w.heap.size ≤ (wr.alloc (.cells #[.int .u64 (x : Int)] 34)).heap.size := by have := hbw.size; simp; omega
        rw [Nat.add_zero] at ck
        have ck0 : wr.cell? ⟨b, off + 0, none⟩ = some (.int .u64 (x : Int)) := ck
        clear hrow hln hnil
        go_wp2_with (at_builtin; refine wpList_append_one rfl (.tmp 13) (.tmp 17) rfl w.heap.size _ 0 _ rfl (HROW.out.alloc _) wr.heap.size x rfl (World.cell?_alloc_new _ _ _ _) (by omega) hb5 ?_)
        intro v' w5 hown5 hgrow5
        have hbw5 : Below w.heap.size w w5 := (hbw.alloc hbw.size _).grown hgrow5 (by have := hbw.size; simp; omega) (fun k hk => (HROW.out.lt k hk).1)
        go_wp2_with fail
        refine ⟨⟨1, by omega, by go_num, ?_, hbw5⟩, by simp [intOf]; omega⟩
        rw [HT.out]; exact hown5
      · have ck1 := (hbw.cell (p := ⟨b, off + (k - 1), none⟩) hb).trans (HC.out (k - 1) (by omega))
        have HT := Lib.hid (HTK.out k (by omega) hlt)
        have hxk := HX.out _ (getD_mem l k hlt)
        have hyk := HX.out _ (getD_mem l (k - 1) (by omega))
        have g0 : ((k : Int) == 0) = false := by rw [beq_eq_false_iff_ne]; omega
        generalize l.getD k 0 = x at *
        generalize l.getD (k - 1) 0 = y at *
        generalize D.diffs (l.take k) = acc at *
        have hwrap : IntKind.u64.wrap ((x : Int) - (y : Int)) = (((x + (18446744073709551616 - y)) % 18446744073709551616 : Nat) : Int) := by rw [IntKind.wrap_u64]; omega
        generalize (x + (18446744073709551616 - y)) % 18446744073709551616 = z at *
        have hi1 : IntKind.i64.wrap ((k : Int) - 1) = (k : Int) - 1 := by rw [IntKind.wrap_i64]; omega
        have hi2 : (0 : Int) ≤ (k : Int) - 1 := by omega
        have hi3 : ((k : Int) - 1).toNat = k - 1 := by omega
        have hi4 : (k : Int) - 1 < (l.length : Int) := by omega
        have hi5 : (k : Int) < (l.length : Int) := by omega
        have hi6 : (1 : Int) ≤ (k : Int) := by omega
        have hlb : (acc.length + 1) * 8 ≤ 140737488355328 := by omega
        have hb5 : w.heap.size ≤ (wr.alloc (.cells #[.int .u64 (z : Int)] 34)).heap.size := by have := hbw.size; simp; omega
        have HROW := Lib.hid hrow
        have HLN2 := Lib.hid hln
        clear hrow hln
        go_wp2_with fail
        go_region_held3 (fun W => W.cell? ⟨b, off + k, none⟩ = some (.int .u64 (x : Int)) ∧ W.cell? ⟨b, off + (k - 1), none⟩ = some (.int .u64 (y : Int)))
          (first
            | go_keep
            | (go_split_ands; refine ⟨?_, ?_⟩ <;> (rw [hg5.cell (by assumption)]; assumption)))
          ((refine step_append_one rfl (.tmp 19) (.tmp 30) rfl w.heap.size _ acc rfl ((HROW.out.alloc _).drew) wr.heap.size z rfl (by simp) hlb hb5 ?_; intro v' w5 hown5 hg5))
        go_wp2_with fail
        refine ⟨⟨k + 1, by omega, by go_num, ?_, ((hbw.alloc hbw.size _).drew).trans hg5⟩, by simp [intOf]; omega⟩
        rw [HT.out]; exact hown5
    · obtain rfl : k = l.length := by omega
      rw [List.take_length] at hrow
      obtain ⟨a', c', rfl, hn, h1, h2⟩ := numRow_numsc hrow
      rw [D.diffs_length] at h1 ⊢
      go_wp2_with fail
      go_ret
      exact ⟨a', c', by rw [D.diffs_length]; rfl, hn, by rw [D.diffs_length]; exact h1, h2, hbw⟩
set_option maxHeartbeats 400000 in
theorem rdiffs_nil (a : Option Addr) (c : Nat) (w : World) :
    Calls Tryz.prog 156 #[.slice a 0 c] w (NumsC [] w.heap.size w) := by
  go_enter Tryz.func156, Tryz.ntmps156
  go_wp2_with fail
  refine wp_loop_rounds 1 ?_
  rw [rounds_succ]
  go_wp2_with fail
  go_ret
  exact ⟨none, 0, rfl, Nums.nil _ _ _, Nat.le_refl _, by unfold maxLen; omega, Below.refl _ _⟩
theorem rdiffs_any (a : Option Addr) (c : Nat) (l : List Nat) (w : World) (hl : l.length * 8 ≤ 140737488351232) (hx : ∀ x ∈ l, x < 18446744073709551616) (hu : Nums w w.heap.size a l) :
    Calls Tryz.prog 156 #[.slice a l.length c] w (NumsC (D.diffs l) w.heap.size w) := by
  by_cases h : l = []
  · subst h; exact rdiffs_nil a c w
  · obtain ⟨b, off, rfl, hb, hc⟩ := hu h
    exact rdiffs_some b off c l w hl hx hb hc
end Go.Proofs.YtcachhnhncodoaaGreat
namespace Go.Proofs.YtcachhnhncodoaaGreat
open Go.RowKit
set_option linter.unusedVariables false
theorem zigs_step (d : List Nat) (k : Nat) (h1 : 1 ≤ k) (h : k < d.length) : D.zigs ((d.take (k + 1)).drop 1) = D.zigs ((d.take k).drop 1) ++ [D.zig (d.getD k 0)] := by
  have e : d.take (k + 1) = d.take k ++ [d.getD k 0] := by
    rw [List.take_succ_eq_append_getElem h]; simp [List.getD, List.getElem?_eq_getElem h]
  rw [e, List.drop_append_of_le_length (by rw [List.length_take]; omega)]
  simp [D.zigs]
set_option maxHeartbeats 1000000 in
set_option maxRecDepth 100000 in
theorem rzigs_any (a : Option Addr) (c : Nat) (l : List Nat) (w : World) (hl : l.length * 8 ≤ 140737488351232) (hx : ∀ x ∈ l, x < 18446744073709551616) (hu : Nums w w.heap.size a l) :
    Calls Tryz.prog 129 #[.slice a l.length c] w (NumsC (dz l) w.heap.size w) := by
  have hrd := rdiffs_any a c l w hl hx hu
  have hdl := D.diffs_length l
  have hdx := D.diffs_lt l hx
  unfold dz
  generalize D.diffs l = d at *
  have HRD := Lib.hid hrd
  have HDX := Lib.hid hdx
  have HZL := Lib.hid (show (D.zigs (d.drop 1)).length = d.length - 1 by simp [D.zigs])
  have HKL := Lib.hid (fun k (h1 : 1 ≤ k) (h : k ≤ d.length) => show (D.zigs ((d.take k).drop 1)).length = k - 1 by simp [D.zigs]; omega)
  have HST := Lib.hid (fun k h1 h => zigs_step d k h1 h)
  have HK1 := Lib.hid (show D.zigs ((d.take 1).drop 1) = [] by cases d <;> simp [D.zigs])
  have hdb : d.length * 8 ≤ 140737488351232 := by omega
  clear hrd hdx hx hu
  go_enter Tryz.func129, Tryz.ntmps129
  go_wp2_with fail
  refine (HRD.out).mono ?_
  rintro e w1 ⟨a1, c1, rfl, n1, _, _, hb1⟩
  have HN := Lib.hid n1
  clear n1 hdl
  go_wp2_with fail
  go_loopw [4, 5] (fun v i wr => ∃ k : Nat, 1 ≤ k ∧ (k ≤ d.length ∨ k = 1) ∧ i = .int .i64 k ∧ NumRow w1.heap.size (D.zigs ((d.take k).drop 1)) v wr ∧ Below w1.heap.size w1 wr) (fun _ i _ => d.length + 1 - (intOf i).toNat)
  case atStart => exact ⟨1, by omega, Or.inr rfl, rfl, by rw [HK1.out]; exact ⟨rfl, Or.inl ⟨rfl, rfl⟩⟩, Below.refl _ _⟩
  case round =>
    obtain ⟨k, h1k, hk, rfl, hrow, hbw⟩ := hrel
    by_cases hlt : k < d.length
    · obtain ⟨b, off, rfl, hb, hcc⟩ := HN.out (fun e => by rw [e] at hlt; simp at hlt)
      have ck := (hbw.cell (p := ⟨b, off + k, none⟩) hb).trans (hcc k hlt)
      have hxk := HDX.out _ (getD_mem d k hlt)
      have HT := Lib.hid (HST.out k h1k hlt)
      have hln := HKL.out k h1k (by omega)
      generalize d.getD k 0 = x at *
      generalize D.zigs ((d.take k).drop 1) = acc at *
      have HZ := Lib.hid (fun W => rzig_any x W hxk)
      generalize D.zig x = z at *
      have hlb : (acc.length + 1) * 8 ≤ 140737488355328 := by omega
      have hown : wr.ownsRow w1.heap.size 34 1 u4 acc.length (nv acc) := hrow
      have HOWN := Lib.hid hown
      have hsz2 := hbw.size
      have hb5 : w1.heap.size ≤ (wr.alloc (.cells #[.int .u64 (z : Int)] 34)).heap.size := by simp; omega
      clear hrow hown hln hcc
      go_wp2_with fail
      refine (HZ.out _).mono ?_
      rintro e w2 ⟨rfl, rfl⟩
      go_wp2_with (at_builtin; refine wpList_append_one rfl (.tmp 14) (.tmp 20) rfl w1.heap.size _ acc.length _ rfl (HOWN.out.alloc _) wr.heap.size z rfl (World.cell?_alloc_new _ _ _ _) hlb hb5 ?_)
      intro v' w5 hown5 hgrow5
      have hbw5 : Below w1.heap.size w1 w5 := (hbw.alloc hbw.size _).grown hgrow5 (by have := hbw.size; simp; omega) (fun k hk => (HOWN.out.lt k hk).1)
      go_wp2_with fail
      refine ⟨⟨k + 1, by omega, Or.inl (by omega), by go_num, ?_, hbw5⟩, by simp [intOf]; omega⟩
      rw [HT.out]; unfold NumRow; rw [List.length_append]; simpa [nv] using hown5
    · have hcut : (d.take k).drop 1 = d.drop 1 := by
        rcases hk with hk | hk
        · rw [List.take_of_length_le (by omega)]
        · rw [hk, List.drop_eq_nil_of_le (by rw [List.length_take]; omega), List.drop_eq_nil_of_le (by omega)]
      rw [hcut] at hrow
      obtain ⟨a', c', rfl, hn, h1, h2⟩ := numRow_numsc hrow
      have HFIN := Lib.hid hn
      have hge : d.length ≤ k := by omega
      clear hcut hrow hn hk
      generalize D.zigs (d.drop 1) = zz at *
      go_wp2_with fail
      go_ret
      exact ⟨a', c', rfl, HFIN.out, h1, h2, below_then hb1 hbw⟩
set_option maxHeartbeats 1000000 in
set_option maxRecDepth 100000 in
theorem rdbytes_some (b off c : Nat) (l : List Nat) (w : World) (hl : l.length ≤ 1048576) (h0 : 0 < l.length) (hx : ∀ x ∈ l, x < 18446744073709551616) (hb : b < w.heap.size)
    (hc : ∀ i, i < l.length → w.cell? ⟨b, off + i, none⟩ = some (.int .u64 ((l.getD i 0 : Nat) : Int))) :
    Calls Tryz.prog 101 #[.slice (some ⟨b, off, none⟩) l.length c] w (TextPost (dbytes l) w) := by
  have hne : l ≠ [] := fun e => by rw [e] at h0; simp at h0
  have hhd : l.headD 0 = l.getD 0 0 := by cases l with
    | nil => simp at h0
    | cons x t => rfl
  have hx0 := hx _ (getD_mem l 0 h0)
  have c0 := hc 0 h0
  have hrz := rzigs_any (some ⟨b, off, none⟩) c l w (by omega) hx (fun _ => ⟨b, off, rfl, hb, hc⟩)
  have hzl := dz_length l
  have hzx := dz_lt l hx
  have hw64 := B.wd_64 (dz l) hzx
  have hzf : ∀ x ∈ dz l, x < 2 ^ B.wd (dz l) := (B.wd_le _ _).1 (Nat.le_refl _)
  have hbl := H.bytes_len (B.wd (dz l)) (dz l)
  have hmul : (18 + B.wd (dz l)) * (dz l).length ≤ (18 + 64) * 1048576 := Nat.mul_le_mul (by omega) (by omega)
  have hres : dbytes l = V.enc (l.getD 0 0) ++ [UInt8.ofNat (B.wd (dz l))] ++ H.bytes (B.wd (dz l)) (dz l) := by
    unfold dbytes; rw [if_neg hne, hhd]
  rw [hres]
  have hwd := fun A c' W W' h => rwidth_any A c' (dz l) W W' (by unfold maxLen; omega) hzx h
  have hhb := fun A c' W h1 h2 h => hbytes_any A c' (dz l) (B.wd (dz l)) W (by omega) h1 h2 hw64 hzf h
  generalize l.getD 0 0 = x at *
  generalize hwdd : B.wd (dz l) = wd at *
  generalize H.bytes wd (dz l) = hbt at *
  generalize dz l = z at *
  obtain ⟨t1, ht1⟩ : ∃ t1, t1 = str (V.enc x) := ⟨_, rfl⟩
  obtain ⟨t2, ht2⟩ : ∃ t2, t2 = str [UInt8.ofNat wd] := ⟨_, rfl⟩
  obtain ⟨t3, ht3⟩ : ∃ t3, t3 = str hbt := ⟨_, rfl⟩
  have hs1 : t1.size ≤ 9 := by rw [ht1, str_size, V.enc_length]; exact V.sz_le _
  have hs2 : t2.size ≤ 1 := by rw [ht2, str_size]; simp
  have hs3 : t3.size ≤ 85983232 := by rw [ht3, str_size]; omega
  have hcat1 : ¬ 9223372036854775807 < t1.size + t2.size := by omega
  have hcat2 : ¬ 9223372036854775807 < t1.size + t2.size + t3.size := by omega
  have HSUM := Lib.hid (show t1 ++ t2 ++ t3 = str (V.enc x ++ [UInt8.ofNat wd] ++ hbt) by rw [ht1, ht2, ht3, str_append, str_append])
  have HVB := Lib.hid (fun W => show Calls Tryz.prog 15 #[.int .u64 (x : Int)] W (fun e w' => e = .returned (.string t1) ∧ Below W.heap.size W w') by rw [ht1]; exact vbytes_any x W hx0)
  have HOB := Lib.hid (fun W => show Calls Tryz.prog 33 #[.int .i64 (wd : Int)] W (fun e w' => e = .returned (.string t2) ∧ Below W.heap.size W w') by rw [ht2]; exact one_any wd W (by omega))
  have HHB := Lib.hid (fun A c' W h1 h2 h => show Calls Tryz.prog 100 #[.slice A z.length c', .int .i64 (wd : Int)] W (fun e w' => e = .returned (.string t3) ∧ Below W.heap.size W w') by rw [ht3]; exact hhb A c' W h1 h2 h)
  have HRZ := Lib.hid hrz
  have HWD := Lib.hid hwd
  have g0 : ((l.length : Int) == 0) = false := by rw [beq_eq_false_iff_ne]; omega
  have h0I : (0 : Int) < (l.length : Int) := by omega
  have c0' : w.cell? ⟨b, off, none⟩ = some (.int .u64 (x : Int)) := c0
  clear hrz hwd hhb hres hhd hbl hmul hzl hzx hzf hx hc ht1 ht2 ht3 hwdd hne c0
  go_enter Tryz.func101, Tryz.ntmps101
  go_wp2_with fail
  refine (HRZ.out).mono ?_
  rintro e w1 ⟨a1, c1, rfl, n1, hc1, hc2, hb1⟩
  have N1 := Lib.hid n1
  clear n1
  go_wp2_with fail
  refine (HWD.out _ _ _ _ N1.out).mono ?_
  rintro e w2 ⟨rfl, rfl⟩
  have k0 : w1.cell? ⟨b, off, none⟩ = some (.int .u64 (x : Int)) := (hb1.cell (p := ⟨b, off, none⟩) hb).trans c0'
  have hb1s : b < w1.heap.size := by have := hb1.size; omega
  have k1 : w1.cell? ⟨b, off + 0, none⟩ = some (.int .u64 (x : Int)) := k0
  go_wp2_with fail
  refine (HVB.out _).mono ?_
  rintro e w3 ⟨rfl, hb3⟩
  go_wp2_with fail
  refine (HOB.out _).mono ?_
  rintro e w4 ⟨rfl, hb4⟩
  go_wp2_with fail
  refine (HHB.out _ _ _ hc1 hc2 (N1.out.next (below_then hb3 hb4))).mono ?_
  rintro e w5 ⟨rfl, hb5⟩
  go_wp2_with fail
  go_ret
  exact ⟨by rw [← HSUM.out]; rfl, below_then hb1 (below_then (below_then hb3 hb4) hb5)⟩
set_option maxHeartbeats 400000 in
theorem rdbytes_nil (a : Option Addr) (c : Nat) (w : World) :
    Calls Tryz.prog 101 #[.slice a 0 c] w (TextPost [] w) := by
  go_enter Tryz.func101, Tryz.ntmps101
  go_wp2_with fail
  go_ret
  exact ⟨rfl, Below.refl _ _⟩
theorem rdbytes_any (a : Option Addr) (c : Nat) (l : List Nat) (w : World) (hl : l.length ≤ 1048576) (hx : ∀ x ∈ l, x < 18446744073709551616) (hu : Nums w w.heap.size a l) :
    Calls Tryz.prog 101 #[.slice a l.length c] w (TextPost (dbytes l) w) := by
  by_cases h : l = []
  · subst h; exact rdbytes_nil a c w
  · obtain ⟨b, off, rfl, hb, hc⟩ := hu h
    exact rdbytes_some b off c l w hl (by cases l with
      | nil => exact absurd rfl h
      | cons x t => simp) hx hb hc
end Go.Proofs.YtcachhnhncodoaaGreat
