/- The walks of (blocks).bytes, (blocks).numbers. -/
import Derived.Test.YtpjmpbpbfjemdaaHW2
import Derived.Test.YtpjmpbpbfjemdaaUBlk
import Derived.Laws.CopyOwn
namespace Go.Proofs.Ytpjmpbpbfjemdaa
open Go.RowKit
set_option linter.unusedVariables false

theorem nums_cells {W : World} {B b off : Nat} {l : List Nat} (h : Nums W B (some ⟨b, off, none⟩) l) : ∀ j v, (nv l)[j]? = some v → W.cell? ((⟨b, off, none⟩ : Addr).add j) = some v := by
  intro j v hj
  have hjl : j < l.length := by
    rcases Nat.lt_or_ge j l.length with h | h
    · exact h
    · rw [List.getElem?_eq_none (by rw [nv_length]; exact h)] at hj; simp at hj
  obtain ⟨b', off', e, _, hc⟩ := h (by intro e; rw [e] at hjl; simp at hjl)
  injection e with e
  injection e with e1 e2
  subst e1 e2
  have hadd : (⟨b, off, none⟩ : Addr).add j = ⟨b, off + j, none⟩ := by unfold Addr.add; split <;> simp_all
  rw [hadd, hc j hjl, ← hj]
  simp [nv, List.getElem?_eq_getElem hjl]
theorem nv_one (l : List Nat) : ∀ v ∈ nv l, v.oneCell' = true := by
  intro u hu
  simp only [nv, List.mem_map] at hu
  obtain ⟨x, _, rfl⟩ := hu
  rfl

theorem splice_pad (l : List Nat) : splice (nv (List.replicate (H.nb l.length * 8) 0)) 0 (nv l) = nv (H.pad l) := by
  unfold splice H.pad
  simp only [List.take_zero, List.nil_append, Nat.zero_add, nv_length]
  simp only [nv, List.map_append, List.map_replicate, List.drop_replicate]
  congr 2
  omega

set_option maxHeartbeats 1000000 in
set_option maxRecDepth 100000 in
theorem bbytes_any (a : Option Addr) (c : Nat) (l : List Nat) (wide : Nat) (w : World) (hx : ∀ x ∈ l, x < 2 ^ wide) (hw : wide ≤ 64) (h0 : l ≠ []) (hl : l.length ≤ 64) (hu : Nums w w.heap.size a l) :
    Calls Try.prog 117 #[.slice a l.length c, .int .i64 wide] w (TextPost (H.Part.bytes wide (.blk l)) w) := by
  obtain ⟨b, off, rfl, hb, hc⟩ := hu h0
  obtain ⟨i0, hi, hz0, hz1, hz2⟩ := info_parts info_u64
  have hp : 0 < l.length := List.length_pos_iff.2 h0
  have hnb : H.nb l.length ≤ 8 ∧ l.length ≤ H.nb l.length * 8 := by unfold H.nb; omega
  have hpl := H.pad_length l
  have hpm := H.pad_mem l wide hx
  obtain ⟨k, hk⟩ : ∃ k, k = H.nb l.length := ⟨_, rfl⟩
  obtain ⟨t1, ht1⟩ : ∃ t1, t1 = str (V.enc (2 * k + 1)) := ⟨_, rfl⟩
  obtain ⟨t2, ht2⟩ : ∃ t2, t2 = str (H.pkd wide (H.pad l)) := ⟨_, rfl⟩
  have HSUM := Lib.hid (show t1 ++ t2 = str (H.Part.bytes wide (.blk l)) by rw [ht1, ht2, str_append, hk]; rfl)
  have HSP := Lib.hid (splice_pad l)
  have hsz := hsize_any l.length
  have hlen := nv_length l
  rw [← hk] at hnb hpl hsz HSP
  have h1 : t1.size ≤ 9 := by rw [ht1, str_size, V.enc_length]; exact V.sz_le _
  have h2 : t2.size ≤ 512 := by
    rw [ht2, str_size, H.pkd_length, hpl]
    have : k * 8 * wide ≤ 64 * 64 := Nat.mul_le_mul (by omega) hw
    unfold B.sz; omega
  have hcat : ¬ 9223372036854775807 < t1.size + t2.size := by omega
  have hk1 : IntKind.u64.wrap (k : Int) = (k : Int) := by rw [IntKind.wrap_u64]; omega
  have hk2 : IntKind.u64.wrap (2 * (k : Int)) = ((2 * k : Nat) : Int) := by rw [IntKind.wrap_u64]; omega
  have hk3 : IntKind.u64.wrap (((2 * k : Nat) : Int) + 1) = ((2 * k + 1 : Nat) : Int) := by rw [IntKind.wrap_u64]; omega
  obtain ⟨T, hT⟩ : ∃ T, T = k * 8 := ⟨_, rfl⟩
  have hk8 : ((k : Int) * 8) = (T : Int) := by omega
  rw [← hT] at hnb hpl HSP
  have HWR := Lib.hid (fun W => show Calls Try.prog 42 #[.int .u64 ((2 * k + 1 : Nat) : Int)] W (fun e w' => e = .returned (.string t1) ∧ Below W.heap.size W w') by rw [ht1]; exact write_any (2 * k + 1) W (by omega))
  have HPK := Lib.hid (fun (W : World) g c (hn : UBlk W g (H.pad l)) => show Calls Try.prog 112 #[.slice (some ⟨g, 0, none⟩) T c, .int .i64 wide] W (fun e w' => e = .returned (.string t2) ∧ Below W.heap.size W w') by
    have := packed'_any (some ⟨g, 0, none⟩) c (H.pad l) wide W hpm hw (by rw [hpl]; omega) hn.nums
    rw [hpl] at this
    rw [ht2]; exact this)
  have HC := Lib.hid (nums_cells hu)
  have HSZ := Lib.hid hsz
  have HCS := Lib.hid (nv_one l)
  generalize H.pad l = pl at *
  have hT64 : T ≤ 64 := by omega
  clear ht1 ht2 hk hT hpl hpm hsz hc hu hx
  obtain ⟨cs, hcs⟩ : ∃ cs, cs = nv l := ⟨_, rfl⟩
  rw [← hcs] at hlen HSP HC HCS
  clear hcs
  go_enter Try.func117, Try.ntmps117
  go_wp2_with fail
  refine (HSZ.out _ (by omega)).mono ?_
  rintro e w1 ⟨rfl, rfl⟩
  go_wp2_with (at_make; refine wpList_make_full _ rfl _ _ 22 rfl w.heap.size 23 i0 (.int .u64 0) 1 Try.underlying22 hi hz0 hz1 .i64 .i64 _ _ T rfl rfl rfl rfl (by rw [hz2]; omega) (by unfold maxLen; omega) (Nat.le_refl _) ?_; intro w0 hown0 hgrow0)
  have hb0 : Below w.heap.size w w0 := (Below.refl _ _).grown hgrow0 (Nat.le_refl _) (fun k hk => by cases hk)
  have hblk := made_ublk hown0
  have hbc : ∀ j v, cs[j]? = some v → w0.cell? ((⟨b, off, none⟩ : Addr).add j) = some v := fun j v hj => by
    have hadd : (⟨b, off, none⟩ : Addr).add j = ⟨b, off + j, none⟩ := by unfold Addr.add; split <;> simp_all
    have := HC.out j v hj
    rw [hadd] at this ⊢
    exact (hb0.cell (p := ⟨b, off + j, none⟩) hb).trans this
  have HBC := Lib.hid hbc
  have HHG := Lib.hid (show w0.heap[w.heap.size]? = some (.cells (nv (List.replicate T 0)).toArray 23 (0, 0)) from hblk)
  clear hbc hblk hown0 hgrow0
  obtain ⟨g, hg⟩ : ∃ g, g = w.heap.size := ⟨_, rfl⟩
  rw [← hg] at HHG ⊢
  have HG := Lib.hid hg
  have hgl : w.heap.size ≤ g := by omega
  clear hg
  obtain ⟨w2, hcp, hg2, hb2⟩ : ∃ w2, (Builtin.copy_ #[22, 85] 3 #[.slice (some ⟨g, 0, none⟩) T T, .slice (some ⟨b, off, none⟩) l.length c]).run Try.prog w0 = .ok (goInt cs.length) w2 ∧ UBlk w2 g pl ∧ Below w.heap.size w w2 := by
    refine ⟨_, run_copy_row (P := Try.prog) w0 22 85 3 23 g 0 T T ⟨b, off, none⟩ l.length c (nv (List.replicate T 0)).toArray 23 cs Try.underlying22 (by kernel_rfl) HHG.out (by rw [hlen]; exact (Nat.min_eq_left (by omega)).symm) HBC.out (by rw [hlen, List.size_toArray, nv_length, List.length_replicate]; omega) HCS.out, ?_, below_setRow hb0 hgl _⟩
    have := setRow_heap w0 g _ (splice (nv (List.replicate T 0)) 0 cs).toArray _ _ HHG.out
    rw [HSP.out] at this
    have e : ((nv (List.replicate T 0)).toArray.toList.take 0 ++ cs ++ (nv (List.replicate T 0)).toArray.toList.drop (0 + cs.length)) = splice (nv (List.replicate T 0)) 0 cs := by simp [splice]
    rw [e, HSP.out]
    exact this
  have HP := Lib.hid (HPK.out w2 g T hg2)
  have HWW := Lib.hid (fun W (h : Below w2.heap.size w2 W) => HPK.out W g T (hg2.next h))
  go_wp2_with fail
  rw [hcp]
  simp only [Result.andThen_ok]
  go_wp2_with fail
  refine (HWR.out _).mono ?_
  rintro e w3 ⟨rfl, hb3⟩
  go_wp2_with fail
  refine (HWW.out _ hb3).mono ?_
  rintro e w4 ⟨rfl, hb4⟩
  go_wp2_with fail
  go_ret
  exact ⟨by rw [← HSUM.out]; rfl, below_then (below_then hb2 hb3) hb4⟩

set_option maxHeartbeats 400000 in
theorem bnums_any (v : Value) (w : World) :
    Calls Try.prog 118 #[v] w fun e w' => e = .returned v ∧ w = w' := by
  go_enter Try.func118, Try.ntmps118
  go_wp2_with fail
  go_ret
  exact ⟨rfl, rfl⟩
end Go.Proofs.Ytpjmpbpbfjemdaa
