/- HW2, UBlk, HW3, ShelfM, HW4, HW5, HPlain2, HW6, HW7, BitsW6, BitsX6, HR1, HPlain3, VaryR5, VaryR6, BitsU2, HR2. -/
import Derived.Deep.DrawnRows
import Derived.Laws.CopyOwn
import Derived.Shelf.Bits.Mul64
import Derived.Test.YtmiboibadccceaaGreatProg
import Derived.Deep.RegionLaw
import Derived.RangeFuncBox
import Derived.Lib.AppendStr
import Derived.Test.YtmiboibadccceaaGreatK1
/- The walk of (run).bytes. -/
namespace Go.Proofs.YtmiboibadccceaaGreat
open Go.RowKit
set_option linter.unusedVariables false
attribute [local go_sem ↓] Go.wp_at_zero Go.wp_at_succ

theorem one_nums {W : World} {g n : Nat} (hc : W.cell? ⟨g, 0, none⟩ = some (.int .u64 (n : Int))) : Nums W W.heap.size (some ⟨g, 0, none⟩) [n] := by
  intro _
  refine ⟨g, 0, rfl, World.block_lt_of_cell? W _ hc, fun i hi => ?_⟩
  have : i = 0 := by simpa using hi
  subst this
  simpa using hc

abbrev KB (bx : Nat) (a b : Value) (w W : World) : Prop := W.cell? ⟨bx, 0, none⟩ = some a ∧ W.cell? ⟨bx, 1, none⟩ = some b ∧ Below bx w W
theorem kb_drew {W w : World} {bx : Nat} {a b : Value} (h : KB bx a b w W) : KB bx a b w W.drew := ⟨h.1, h.2.1, h.2.2.drew⟩
theorem kb_below {W w W' : World} {bx : Nat} {a b : Value} (hk : Below W.heap.size W W') (h : KB bx a b w W) : KB bx a b w W' :=
  have hl := World.block_lt_of_cell? W _ h.1
  ⟨(hk.cell (p := ⟨bx, 0, none⟩) hl).trans h.1, (hk.cell (p := ⟨bx, 1, none⟩) hl).trans h.2.1, h.2.2.trans (hk.mono (Nat.le_of_lt hl))⟩
theorem kb_alloc {W w : World} {bx : Nat} {a b : Value} (o : Obj) (h : KB bx a b w W) : KB bx a b w (W.alloc o) := kb_below ((Below.refl _ _).alloc (Nat.le_refl _) o) h

set_option maxHeartbeats 1000000 in
set_option maxRecDepth 100000 in
theorem rbytes_any (n m wide : Nat) (w : World) (hn : n < 2 ^ wide) (hm : m ≤ 64) (hw : wide ≤ 64) :
    Calls Tryz.prog 201 #[.agg #[.int .u64 n, .int .i64 m], .int .i64 wide] w (TextPost (H.Part.bytes wide (.run n m)) w) := by
  have hmw : IntKind.u64.wrap (m : Int) = (m : Int) := by rw [IntKind.wrap_u64]; omega
  have hmul : IntKind.u64.wrap (2 * (m : Int)) = ((2 * m : Nat) : Int) := by rw [IntKind.wrap_u64]; omega
  obtain ⟨t1, ht1⟩ : ∃ t1, t1 = str (V.enc (2 * m)) := ⟨_, rfl⟩
  obtain ⟨t2, ht2⟩ : ∃ t2, t2 = str (H.pkd wide [n]) := ⟨_, rfl⟩
  have HWR := Lib.hid (fun W => show Calls Tryz.prog 71 #[.int .u64 ((2 * m : Nat) : Int)] W (fun e w' => e = .returned (.string t1) ∧ Below W.heap.size W w') by rw [ht1]; exact write_any (2 * m) W (by omega))
  have HPK := Lib.hid (fun (W : World) g c (hc : W.cell? ⟨g, 0, none⟩ = some (.int .u64 (n : Int))) => show Calls Tryz.prog 203 #[.slice (some ⟨g, 0, none⟩) 1 c, .int .i64 wide] W (fun e w' => e = .returned (.string t2) ∧ Below W.heap.size W w') by
    rw [ht2]; exact packed'_any (some ⟨g, 0, none⟩) c [n] wide W (by simpa using hn) hw (by simp) (one_nums hc))
  have h1 : t1.size ≤ 9 := by rw [ht1, str_size, V.enc_length]; exact V.sz_le _
  have h2 : t2.size ≤ 64 := by rw [ht2, str_size, H.pkd_length]; unfold B.sz; simp; omega
  have hcat : ¬ 9223372036854775807 < t1.size + t2.size := by omega
  have HSUM := Lib.hid (show t1 ++ t2 = str (H.Part.bytes wide (.run n m)) by rw [ht1, ht2, str_append]; rfl)
  clear ht1 ht2
  go_enter Tryz.func201, Tryz.ntmps201
  go_wp2_with fail
  have c0 : (w.alloc (.cells #[.int .u64 (n : Int), .int .i64 (m : Int)] 137)).cell? ⟨w.heap.size, 0, none⟩ = some (.int .u64 (n : Int)) := by rw [World.cell?_alloc_new]; rfl
  have c1 : (w.alloc (.cells #[.int .u64 (n : Int), .int .i64 (m : Int)] 137)).cell? ⟨w.heap.size, 1, none⟩ = some (.int .i64 (m : Int)) := by rw [World.cell?_alloc_new]; rfl
  have hb0 : Below w.heap.size w (w.alloc (.cells #[.int .u64 (n : Int), .int .i64 (m : Int)] 137)) := (Below.refl _ _).alloc (Nat.le_refl _) _
  have hlt : w.heap.size < (w.alloc (.cells #[.int .u64 (n : Int), .int .i64 (m : Int)] 137)).heap.size := by simp
  obtain ⟨bx, hbx⟩ : ∃ bx, bx = w.heap.size := ⟨_, rfl⟩
  obtain ⟨W1, hW1⟩ : ∃ W1, W1 = w.alloc (.cells #[.int .u64 (n : Int), .int .i64 (m : Int)] 137) := ⟨_, rfl⟩
  rw [← hW1, ← hbx] at c0 c1 hlt hb0 ⊢
  have HBX := Lib.hid hbx
  clear hW1 hbx
  go_region_held3 (fun W => W.cell? ⟨bx, 0, none⟩ = some (.int .u64 (n : Int)) ∧ W.cell? ⟨bx, 1, none⟩ = some (.int .i64 (m : Int)) ∧ Below bx w W)
    (first
      | (refine kb_drew ?_; first | assumption | (refine ⟨?_, ?_, ?_⟩ <;> assumption))
      | (refine kb_drew (kb_alloc _ ?_); first | assumption | (refine ⟨?_, ?_, ?_⟩ <;> assumption))
      | (refine kb_alloc _ ?_; first | assumption | (refine ⟨?_, ?_, ?_⟩ <;> assumption))
      | (refine kb_below hb3 ?_; first | assumption | (refine ⟨?_, ?_, ?_⟩ <;> assumption))
      | (refine kb_below hb4 ?_; first | assumption | (refine ⟨?_, ?_, ?_⟩ <;> assumption)))
    (first
      | (go_at_call 71; refine (HWR.out _).mono ?_; rintro e w3 ⟨rfl, hb3⟩)
      | (go_at_call 203; refine (HPK.out _ _ _ (by rw [World.cell?_alloc_new]; rfl)).mono ?_; rintro e w4 ⟨rfl, hb4⟩)
      | (go_at_call 203; refine (HPK.out _ _ _ ((hb3.cell (p := ⟨W1.heap.size, 0, none⟩) (by simp)).trans (World.cell?_alloc_new W1 _ _ 0))).mono ?_; rintro e w4 ⟨rfl, hb4⟩))
  all_goals
    go_wp2_with fail
    go_ret
    exact ⟨by rw [← HSUM.out]; rfl, HBX.out ▸ (show KB bx (.int .u64 (n : Int)) (.int .i64 (m : Int)) w w4 by assumption).2.2⟩
end Go.Proofs.YtmiboibadccceaaGreat
/- Blocks of numbers. -/
namespace Go.Proofs.YtmiboibadccceaaGreat
open Go.RowKit
set_option linter.unusedVariables false

/-- a block of numbers, known whole -/
def UBlk (w : World) (g : Nat) (l : List Nat) : Prop := w.heap[g]? = some (.cells (nv l).toArray 46 (0, 0))
theorem UBlk.cell {w : World} {g : Nat} {l : List Nat} (h : UBlk w g l) (i : Nat) (hi : i < l.length) : w.cell? ⟨g, i, none⟩ = some (.int .u64 ((l.getD i 0 : Nat) : Int)) := by
  unfold UBlk at h
  simp [World.cell?, h, nv, List.getElem?_eq_getElem hi]
theorem UBlk.free {w : World} {g : Nat} {l : List Nat} (h : UBlk w g l) (i : Nat) : w.frozen? ⟨g, i, none⟩ = false := by
  unfold UBlk at h
  simp [World.frozen?, h]
theorem UBlk.lt {w : World} {g : Nat} {l : List Nat} (h : UBlk w g l) : g < w.heap.size := lt_of_block h
theorem UBlk.put {w : World} {g : Nat} {l : List Nat} (h : UBlk w g l) (i : Nat) (x : Nat) : UBlk (w.setCell ⟨g, i, none⟩ (.int .u64 (x : Int))) g (l.set i x) := by
  unfold UBlk at *
  simp [World.setCell, Array.getElem?_modify, h, nv, List.map_set]
theorem UBlk.nums {w : World} {g : Nat} {l : List Nat} (h : UBlk w g l) : Nums w w.heap.size (some ⟨g, 0, none⟩) l := by
  intro _
  exact ⟨g, 0, rfl, h.lt, fun i hi => by rw [Nat.zero_add]; exact h.cell i hi⟩
theorem made_ublk {w' : World} {g n B' : Nat} (h : w'.ownsRow B' 46 1 (.slice (some ⟨g, 0, none⟩) n n) n (madeCells (Value.int .u64 0).cells (n * 1)).toList) : UBlk w' g (List.replicate n 0) := by
  rcases h.2 with ⟨he, _⟩ | ⟨g', cap, cur, he, _, hh, _, _, hs, ht⟩
  · cases he
  · injection he with h1 h2 h3
    injection h1 with h1
    injection h1 with h1
    subst h1 h3
    unfold UBlk
    rw [hh]
    have e : cur = (nv (List.replicate n 0)).toArray := by
      apply Array.toList_inj.mp
      rw [List.take_of_length_le (by rw [Array.length_toList, hs]; omega)] at ht
      rw [ht]
      apply List.ext_getElem
      · simp [madeCells, nv]
      · intro i h1 h2
        simp [madeCells, nv, Value.cells, Nat.mod_one]
    rw [e]
theorem UBlk.next {w w' : World} {g : Nat} {l : List Nat} (h : UBlk w g l) (hb : Below w.heap.size w w') : UBlk w' g l := (hb.block g h.lt).trans h
theorem UBlk.alloc {w : World} {g : Nat} {l : List Nat} (h : UBlk w g l) (o : Obj) : UBlk (w.alloc o) g l := (Below.heap_alloc w o g h.lt).trans h
end Go.Proofs.YtmiboibadccceaaGreat
/- The walks of (blocks).bytes, (blocks).numbers. -/
namespace Go.Proofs.YtmiboibadccceaaGreat
open Go.RowKit
set_option linter.unusedVariables false

theorem nums_cells {W : World} {B b off : Nat} {l : List Nat} (h : Nums W B (some ⟨b, off, none⟩) l) : ∀ j v, (nv l)[j]? = some v → W.cell? ((⟨b, off, none⟩ : Addr).add j) = some v := by
  intro j v hj
  have hjl : j < l.length := by
    rcases Nat.lt_or_ge j l.length with h | h
    · exact h
    · rw [List.getElem?_eq_none (by rw [nv_length]; exact h)] at hj; simp at hj
  obtain ⟨b', off', e, _, hc⟩ := h (by intro e; rw [e] at hjl; simp at hjl)
  injection e with e
  injection e with e1 e2
  subst e1 e2
  have hadd : (⟨b, off, none⟩ : Addr).add j = ⟨b, off + j, none⟩ := by unfold Addr.add; split <;> simp_all
  rw [hadd, hc j hjl, ← hj]
  simp [nv, List.getElem?_eq_getElem hjl]
theorem nv_one (l : List Nat) : ∀ v ∈ nv l, v.oneCell' = true := by
  intro u hu
  simp only [nv, List.mem_map] at hu
  obtain ⟨x, _, rfl⟩ := hu
  rfl

theorem splice_pad (l : List Nat) : splice (nv (List.replicate (H.nb l.length * 8) 0)) 0 (nv l) = nv (H.pad l) := by
  unfold splice H.pad
  simp only [List.take_zero, List.nil_append, Nat.zero_add, nv_length]
  simp only [nv, List.map_append, List.map_replicate, List.drop_replicate]
  congr 2
  omega

set_option maxHeartbeats 1000000 in
set_option maxRecDepth 100000 in
theorem bbytes_any (a : Option Addr) (c : Nat) (l : List Nat) (wide : Nat) (w : World) (hx : ∀ x ∈ l, x < 2 ^ wide) (hw : wide ≤ 64) (h0 : l ≠ []) (hl : l.length ≤ 64) (hu : Nums w w.heap.size a l) :
    Calls Tryz.prog 208 #[.slice a l.length c, .int .i64 wide] w (TextPost (H.Part.bytes wide (.blk l)) w) := by
  obtain ⟨b, off, rfl, hb, hc⟩ := hu h0
  obtain ⟨i0, hi, hz0, hz1, hz2⟩ := info_parts info_u64
  have hp : 0 < l.length := List.length_pos_iff.2 h0
  have hnb : H.nb l.length ≤ 8 ∧ l.length ≤ H.nb l.length * 8 := by unfold H.nb; omega
  have hpl := H.pad_length l
  have hpm := H.pad_mem l wide hx
  obtain ⟨k, hk⟩ : ∃ k, k = H.nb l.length := ⟨_, rfl⟩
  obtain ⟨t1, ht1⟩ : ∃ t1, t1 = str (V.enc (2 * k + 1)) := ⟨_, rfl⟩
  obtain ⟨t2, ht2⟩ : ∃ t2, t2 = str (H.pkd wide (H.pad l)) := ⟨_, rfl⟩
  have HSUM := Lib.hid (show t1 ++ t2 = str (H.Part.bytes wide (.blk l)) by rw [ht1, ht2, str_append, hk]; rfl)
  have HSP := Lib.hid (splice_pad l)
  have hsz := hsize_any l.length
  have hlen := nv_length l
  rw [← hk] at hnb hpl hsz HSP
  have h1 : t1.size ≤ 9 := by rw [ht1, str_size, V.enc_length]; exact V.sz_le _
  have h2 : t2.size ≤ 512 := by
    rw [ht2, str_size, H.pkd_length, hpl]
    have : k * 8 * wide ≤ 64 * 64 := Nat.mul_le_mul (by omega) hw
    unfold B.sz; omega
  have hcat : ¬ 9223372036854775807 < t1.size + t2.size := by omega
  have hk1 : IntKind.u64.wrap (k : Int) = (k : Int) := by rw [IntKind.wrap_u64]; omega
  have hk2 : IntKind.u64.wrap (2 * (k : Int)) = ((2 * k : Nat) : Int) := by rw [IntKind.wrap_u64]; omega
  have hk3 : IntKind.u64.wrap (((2 * k : Nat) : Int) + 1) = ((2 * k + 1 : Nat) : Int) := by rw [IntKind.wrap_u64]; omega
  obtain ⟨T, hT⟩ : ∃ T, T = k * 8 := ⟨_, rfl⟩
  have hk8 : ((k : Int) * 8) = (T : Int) := by omega
  rw [← hT] at hnb hpl HSP
  have HWR := Lib.hid (fun W => show Calls Tryz.prog 71 #[.int .u64 ((2 * k + 1 : Nat) : Int)] W (fun e w' => e = .returned (.string t1) ∧ Below W.heap.size W w') by rw [ht1]; exact write_any (2 * k + 1) W (by omega))
  have HPK := Lib.hid (fun (W : World) g c (hn : UBlk W g (H.pad l)) => show Calls Tryz.prog 203 #[.slice (some ⟨g, 0, none⟩) T c, .int .i64 wide] W (fun e w' => e = .returned (.string t2) ∧ Below W.heap.size W w') by
    have := packed'_any (some ⟨g, 0, none⟩) c (H.pad l) wide W hpm hw (by rw [hpl]; omega) hn.nums
    rw [hpl] at this
    rw [ht2]; exact this)
  have HC := Lib.hid (nums_cells hu)
  have HSZ := Lib.hid hsz
  have HCS := Lib.hid (nv_one l)
  generalize H.pad l = pl at *
  have hT64 : T ≤ 64 := by omega
  clear ht1 ht2 hk hT hpl hpm hsz hc hu hx
  obtain ⟨cs, hcs⟩ : ∃ cs, cs = nv l := ⟨_, rfl⟩
  rw [← hcs] at hlen HSP HC HCS
  clear hcs
  go_enter Tryz.func208, Tryz.ntmps208
  go_wp2_with fail
  refine (HSZ.out _ (by omega)).mono ?_
  rintro e w1 ⟨rfl, rfl⟩
  go_wp2_with (at_make; refine wpList_make_full _ rfl _ _ 22 rfl w.heap.size 46 i0 (.int .u64 0) 1 Tryz.underlying22 hi hz0 hz1 .i64 .i64 _ _ T rfl rfl rfl rfl (by rw [hz2]; omega) (by unfold maxLen; omega) (Nat.le_refl _) ?_; intro w0 hown0 hgrow0)
  have hb0 : Below w.heap.size w w0 := (Below.refl _ _).grown hgrow0 (Nat.le_refl _) (fun k hk => by cases hk)
  have hblk := made_ublk hown0
  have hbc : ∀ j v, cs[j]? = some v → w0.cell? ((⟨b, off, none⟩ : Addr).add j) = some v := fun j v hj => by
    have hadd : (⟨b, off, none⟩ : Addr).add j = ⟨b, off + j, none⟩ := by unfold Addr.add; split <;> simp_all
    have := HC.out j v hj
    rw [hadd] at this ⊢
    exact (hb0.cell (p := ⟨b, off + j, none⟩) hb).trans this
  have HBC := Lib.hid hbc
  have HHG := Lib.hid (show w0.heap[w.heap.size]? = some (.cells (nv (List.replicate T 0)).toArray 46 (0, 0)) from hblk)
  clear hbc hblk hown0 hgrow0
  obtain ⟨g, hg⟩ : ∃ g, g = w.heap.size := ⟨_, rfl⟩
  rw [← hg] at HHG ⊢
  have HG := Lib.hid hg
  have hgl : w.heap.size ≤ g := by omega
  clear hg
  obtain ⟨w2, hcp, hg2, hb2⟩ : ∃ w2, (Builtin.copy_ #[22, 138] 3 #[.slice (some ⟨g, 0, none⟩) T T, .slice (some ⟨b, off, none⟩) l.length c]).run Tryz.prog w0 = .ok (goInt cs.length) w2 ∧ UBlk w2 g pl ∧ Below w.heap.size w w2 := by
    refine ⟨_, run_copy_row (P := Tryz.prog) w0 22 138 3 46 g 0 T T ⟨b, off, none⟩ l.length c (nv (List.replicate T 0)).toArray 46 cs Tryz.underlying22 (by kernel_rfl) HHG.out (by rw [hlen]; exact (Nat.min_eq_left (by omega)).symm) HBC.out (by rw [hlen, List.size_toArray, nv_length, List.length_replicate]; omega) HCS.out, ?_, below_setRow hb0 hgl _⟩
    have := setRow_heap w0 g _ (splice (nv (List.replicate T 0)) 0 cs).toArray _ _ HHG.out
    rw [HSP.out] at this
    have e : ((nv (List.replicate T 0)).toArray.toList.take 0 ++ cs ++ (nv (List.replicate T 0)).toArray.toList.drop (0 + cs.length)) = splice (nv (List.replicate T 0)) 0 cs := by simp [splice]
    rw [e, HSP.out]
    exact this
  have HP := Lib.hid (HPK.out w2 g T hg2)
  have HWW := Lib.hid (fun W (h : Below w2.heap.size w2 W) => HPK.out W g T (hg2.next h))
  go_wp2_with fail
  rw [hcp]
  simp only [Result.andThen_ok]
  go_wp2_with fail
  refine (HWR.out _).mono ?_
  rintro e w3 ⟨rfl, hb3⟩
  go_wp2_with fail
  refine (HWW.out _ hb3).mono ?_
  rintro e w4 ⟨rfl, hb4⟩
  go_wp2_with fail
  go_ret
  exact ⟨by rw [← HSUM.out]; rfl, below_then (below_then hb2 hb3) hb4⟩

set_option maxHeartbeats 400000 in
theorem bnums_any (v : Value) (w : World) :
    Calls Tryz.prog 209 #[v] w fun e w' => e = .returned v ∧ w = w' := by
  go_enter Tryz.func209, Tryz.ntmps209
  go_wp2_with fail
  go_ret
  exact ⟨rfl, rfl⟩
end Go.Proofs.YtmiboibadccceaaGreat
/- The library contract math/bits.Mul64 at this program, laid by the shelf, in plain declarations. -/
namespace Go.Proofs
open Go.Shelf
def Tryz.lays264_ren : Go.Shelf.Ren := ⟨fun | 264 => 207 | n => n, fun | 53 => 46 | 46 => 135 | n => n, fun | n => n⟩
theorem Tryz.lays264 : Go.Proofs.Lays.n264 Tryz.prog Tryz.lays264_ren := {
  mixed := by kernel_rfl
  f264 := Tryz.func207.trans (congrArg some (by kernel_rfl))
  t46 := Tryz.underlying135
  a46 := Tryz.isAgg135
  z46 := Tryz.sizeOf135
  v46 := Tryz.zeroValue135
  t53 := Tryz.underlying46
  a53 := Tryz.isAgg46
  z53 := Tryz.sizeOf46
  v53 := Tryz.zeroValue46 }
theorem Tryz.bits_Mul64 (x y : Nat) (hx : x < 18446744073709551616) (hy : y < 18446744073709551616) (w : World) :
    Calls Tryz.prog 207 #[.int .u64 x, .int .u64 y] w fun e w' => e = .returned (.tuple #[.int .u64 ((x * y / 18446744073709551616 : Nat) : Int), .int .u64 ((x * y % 18446744073709551616 : Nat) : Int)]) ∧ w' = w := Any.bits_Mul64 Tryz.lays264 x y hx hy w
end Go.Proofs
/- The walks of slices.Repeat (of one number), (run).numbers. -/
namespace Go.Proofs.YtmiboibadccceaaGreat
open Go.RowKit
set_option linter.unusedVariables false

set_option maxHeartbeats 400000 in
theorem mul_one (m : Nat) (w : World) (hm : m ≤ 64) :
    Calls Tryz.prog 205 #[.int .u64 1, .int .u64 m] w fun e w' => e = .returned (.tuple #[.int .u64 0, .int .u64 m]) ∧ w = w' := by
  have h := fun w => Tryz.bits_Mul64 1 m (by omega) (by omega) w
  have e1 : 1 * m / 18446744073709551616 = 0 := by omega
  have e2 : 1 * m % 18446744073709551616 = m := by omega
  rw [e1, e2] at h
  have HM := Lib.hid h
  have hw : IntKind.u64.wrap (m : Int) = (m : Int) := by rw [IntKind.wrap_u64]; omega
  clear h e1 e2
  go_enter Tryz.func205, Tryz.ntmps205
  go_wp2_with fail
  refine (HM.out _).mono ?_
  rintro e w1 ⟨rfl, rfl⟩
  go_wp2_with fail
  go_ret2
  exact ⟨rfl, rfl⟩

/-- the row behind a step of doubling -/
def dbl (T n k : Nat) : List Nat := List.replicate k n ++ List.replicate (T - k) 0
theorem dbl_length (T n k : Nat) (h : k ≤ T) : (dbl T n k).length = T := by simp [dbl]; omega
theorem nv_dbl_splice (T n k j : Nat) (h : k + j ≤ T) : splice (nv (dbl T n k)) k (nv (List.replicate j n)) = nv (dbl T n (k + j)) := by
  unfold splice dbl
  simp only [nv, List.map_append, List.map_replicate, List.length_replicate, List.take_append, List.take_replicate, List.drop_append, List.drop_replicate]
  have e1 : k - (k + j) = 0 := by omega
  have e2 : T - k - (k + j - k) = T - (k + j) := by omega
  rw [Nat.min_self, Nat.sub_self, Nat.zero_min, e1, e2, ← List.replicate_append_replicate, List.replicate_zero, List.replicate_zero, List.append_nil, List.nil_append, List.append_assoc]

def NumsOnly (l : List Nat) (w : World) (e : Ending) (w' : World) : Prop :=
  ∃ a c, e = .returned (.slice a l.length c) ∧ Nums w' w'.heap.size a l ∧ Below w.heap.size w w'

set_option maxHeartbeats 2000000 in
set_option maxRecDepth 100000 in
theorem repeat_any (b off c n m : Nat) (w : World) (h1 : 1 ≤ m) (hm : m ≤ 64) (hb : b < w.heap.size) (hc : w.cell? ⟨b, off, none⟩ = some (.int .u64 (n : Int))) :
    Calls Tryz.prog 204 #[.slice (some ⟨b, off, none⟩) 1 c, .int .i64 m] w (NumsOnly (List.replicate m n) w) := by
  obtain ⟨i0, hi, hz0, hz1, hz2⟩ := info_parts info_u64
  have hw : IntKind.u64.wrap (m : Int) = (m : Int) := by rw [IntKind.wrap_u64]; omega
  go_enter Tryz.func204, Tryz.ntmps204
  go_wp2_with fail
  refine (mul_one m _ hm).mono ?_
  rintro e w1 ⟨rfl, rfl⟩
  go_wp2_with (at_make; refine wpList_make_full _ rfl _ _ 22 rfl w.heap.size 46 i0 (.int .u64 0) 1 Tryz.underlying22 hi hz0 hz1 .i64 .i64 _ _ m rfl rfl rfl rfl (by rw [hz2]; omega) (by unfold maxLen; omega) (Nat.le_refl _) ?_; intro w0 hown0 hgrow0)
  have hb0 : Below w.heap.size w w0 := (Below.refl _ _).grown hgrow0 (Nat.le_refl _) (fun k hk => by cases hk)
  have hblk := made_ublk hown0
  have HHG := Lib.hid (show w0.heap[w.heap.size]? = some (.cells (nv (List.replicate m 0)).toArray 46 (0, 0)) from hblk)
  have hcell0 := (hb0.cell (p := ⟨b, off, none⟩) hb).trans hc
  clear hblk hown0 hgrow0
  obtain ⟨g, hg⟩ : ∃ g, g = w.heap.size := ⟨_, rfl⟩
  rw [← hg] at HHG ⊢
  have hgl : w.heap.size ≤ g := by omega
  clear hg
  obtain ⟨w2, hcp, hg2, hb2⟩ : ∃ w2, (Builtin.copy_ #[22, 22] 3 #[.slice (some ⟨g, 0, none⟩) m m, .slice (some ⟨b, off, none⟩) 1 c]).run Tryz.prog w0 = .ok (goInt 1) w2 ∧ UBlk w2 g (dbl m n 1) ∧ Below w.heap.size w w2 := by
    refine ⟨_, run_copy_row (P := Tryz.prog) w0 22 22 3 46 g 0 m m ⟨b, off, none⟩ 1 c (nv (List.replicate m 0)).toArray 46 (nv [n]) Tryz.underlying22 (by kernel_rfl) HHG.out (show 1 = Nat.min 1 m from (Nat.min_eq_left h1).symm) ?_ (by simp [nv]; omega) (nv_one [n]), ?_, below_setRow hb0 hgl _⟩
    · intro j v hj
      match j, hj with
      | 0, hj => simp [nv] at hj; subst hj; simpa [Addr.add] using hcell0
    have e : ((nv (List.replicate m 0)).toArray.toList.take 0 ++ nv [n] ++ (nv (List.replicate m 0)).toArray.toList.drop (0 + (nv [n]).length)) = nv (dbl m n 1) := by
      simp [nv, dbl]
    rw [e]
    exact setRow_heap w0 g _ _ _ _ HHG.out
  go_wp2_with fail
  rw [hcp]
  simp only [Result.andThen_ok]
  clear hcp HHG hcell0 hc
  go_wp2_with fail
  go_loopw [8] (fun i wr => ∃ k : Nat, 1 ≤ k ∧ k ≤ m ∧ i = .int .i64 k ∧ UBlk wr g (dbl m n k) ∧ Below w.heap.size w wr) (fun i _ => m - (intOf i).toNat)
  case atStart => exact ⟨1, by omega, by omega, rfl, hg2, hb2⟩
  case round =>
    obtain ⟨k, hk1, hk, rfl, hblk, hbw⟩ := hrel
    by_cases hlt : k < m
    · obtain ⟨j, hj⟩ : ∃ j, j = min k (m - k) := ⟨_, rfl⟩
      have hj1 : 1 ≤ j ∧ k + j ≤ m := by omega
      have hjn : j = Nat.min k (m - k) := hj
      obtain ⟨cs, hcs⟩ : ∃ cs, cs = nv (List.replicate j n) := ⟨_, rfl⟩
      have hcl : cs.length = j := by rw [hcs, nv_length, List.length_replicate]
      have HC1 := Lib.hid (show cs.length = Nat.min k (m - k) by rw [hcl]; exact hj)
      have HC2 := Lib.hid (show k + cs.length ≤ (nv (dbl m n k)).length by rw [hcl, nv_length, dbl_length m n k hk]; omega)
      have HC3 := Lib.hid (show ∀ v ∈ cs, v.oneCell' = true by rw [hcs]; exact nv_one _)
      have HC4 := Lib.hid (show ∀ i v, cs[i]? = some v → wr.drew.cell? ((⟨g, 0, none⟩ : Addr).add i) = some v from fun i v hi => by
        have hij : i < j := by
          rcases Nat.lt_or_ge i j with h | h
          · exact h
          · rw [List.getElem?_eq_none (by rw [hcl]; exact h)] at hi; simp at hi
        have hadd : (⟨g, 0, none⟩ : Addr).add i = ⟨g, i, none⟩ := by unfold Addr.add; split <;> simp_all
        have := hblk.cell i (by rw [dbl_length m n k hk]; omega)
        rw [hadd]
        refine this.trans ?_
        rw [← hi, hcs]
        simp [nv, dbl, List.getD, List.getElem?_append_left, show i < k by omega, hij])
      have HSP := Lib.hid (show splice (nv (dbl m n k)) k cs = nv (dbl m n (k + j)) by rw [hcs]; exact nv_dbl_splice m n k j hj1.2)
      have HG := Lib.hid (show wr.drew.heap[g]? = some (.cells (nv (dbl m n k)).toArray 46 (0, 0)) from hblk)
      have hwk : IntKind.i64.wrap ((k : Int) + (j : Int)) = ((k + j : Nat) : Int) := by rw [IntKind.wrap_i64]; omega
      have hbd := hbw.drew
      have hk0 : (0 : Int) ≤ (k : Int) := by omega
      have hkm : (k : Int) ≤ (m : Int) := by omega
      obtain ⟨w2, hcp, hg2, hb2⟩ : ∃ w2, (Builtin.copy_ #[22, 22] 3 #[.slice (some ⟨g, k, none⟩) (m - k) (m - k), .slice (some ⟨g, 0, none⟩) k m]).run Tryz.prog wr.drew = .ok (goInt j) w2 ∧ UBlk w2 g (dbl m n (k + j)) ∧ Below w.heap.size w w2 := by
        have hr := run_copy_row (P := Tryz.prog) wr.drew 22 22 3 46 g k (m - k) (m - k) ⟨g, 0, none⟩ k m (nv (dbl m n k)).toArray 46 cs Tryz.underlying22 (by kernel_rfl) HG.out HC1.out HC4.out (by rw [List.size_toArray]; exact HC2.out) HC3.out
        rw [hcl] at hr
        refine ⟨_, hr, ?_, below_setRow hbd hgl _⟩
        have e : ((nv (dbl m n k)).toArray.toList.take k ++ cs ++ (nv (dbl m n k)).toArray.toList.drop (k + j)) = splice (nv (dbl m n k)) k cs := by simp [splice, hcl]
        rw [e, HSP.out]
        exact setRow_heap wr.drew g _ _ _ _ HG.out
      clear hcs hj hjn hblk HSP HG HC1 HC2 HC3 HC4
      have HCP := Lib.hid hcp
      clear hcp
      go_wp2_with fail
      go_region_with (rw [HCP.out]; simp only [Result.andThen_ok])
      all_goals
        simp only [List.getElem_toArray, List.getElem_cons_succ, List.getElem_cons_zero]
        go_frame
        go_roundw
        case rel =>
          refine ⟨_, _, _, _, _, _, _, _, _, _, _, _, _, _, ?_, rfl⟩
          exact ⟨k + j, by omega, hj1.2, by go_num, hg2, hb2⟩
        case measure => simp [intOf]; omega
    · obtain rfl : k = m := by omega
      have hn := hblk.nums
      have e : dbl k n k = List.replicate k n := by simp [dbl]
      rw [e] at hn
      have HN := Lib.hid hn
      clear e hn hblk
      go_wp2_with fail
      go_ret
      exact ⟨some ⟨g, 0, none⟩, k, by rw [List.length_replicate]; rfl, HN.out, hbw⟩

set_option maxHeartbeats 1000000 in
theorem rnums_any (n m : Nat) (w : World) (h1 : 1 ≤ m) (hm : m ≤ 64) :
    Calls Tryz.prog 202 #[.agg #[.int .u64 n, .int .i64 m]] w (NumsOnly (List.replicate m n) w) := by
  have HR := Lib.hid (fun W b c hb hc => repeat_any b 0 c n m W h1 hm hb hc)
  go_enter Tryz.func202, Tryz.ntmps202
  go_wp2_with fail
  refine (HR.out _ _ _ ?_ ?_).mono ?_
  · simp
  · simp
  rintro e w1 ⟨a, c, rfl, hn, hb⟩
  rw [List.length_replicate]
  go_wp2_with fail
  go_ret
  refine ⟨a, c, by rw [List.length_replicate]; rfl, hn, ?_⟩
  have k1 : Below w.heap.size w (w.alloc (.cells #[.int .u64 (n : Int), .int .i64 (m : Int)] 137)) := (Below.refl _ _).alloc (Nat.le_refl _) _
  have k2 := k1.alloc (o := .cells #[.int .u64 (n : Int)] 46) k1.size
  exact below_then k2 hb
end Go.Proofs.YtmiboibadccceaaGreat
/- The walk of the closure in hybrid.Write: one part more. -/
namespace Go.Proofs.YtmiboibadccceaaGreat
open Go.RowKit
set_option linter.unusedVariables false

/-- a captured row of bytes in block Bk -/
def OwnS (base Bk : Nat) (w : World) (xs : List UInt8) : Prop :=
  base ≤ Bk ∧ ∃ v, w.heap[Bk]? = some (.cells #[v] 78 (0, 0)) ∧ w.ownsRow base 5 1 v xs.length (bv xs)

theorem strCells_str (l : List UInt8) : Lib.strCells (str l) = bv l := by simp [Lib.strCells, bv, str]

theorem owns_other {w : World} {base B n : Nat} {t : TypeId} {u v : Value} {xs : List Value} (ht : t ≠ 5) (h : w.heap[B]? = some (.cells #[u] t (0, 0))) (ho : w.ownsRow base 5 1 v n xs) : v.ownBlock ≠ some B := by
  rcases ho.2 with ⟨rfl, _⟩ | ⟨g, cap, cur, rfl, _, hh, _⟩
  · simp [Value.ownBlock]
  · intro he
    have hg : g = B := by simpa [Value.ownBlock] using he
    rw [hg, h] at hh
    injection hh with hh
    injection hh with _ h2
    exact ht h2

/-- what append does with a text, in whatever world behind -/
theorem append_text (base Bk Bw wide : Nat) (v : Value) (xs bs : List UInt8) (w W : World) (hbase : base ≤ Bk) (hv : w.heap[Bk]? = some (.cells #[v] 78 (0, 0))) (hown : w.ownsRow base 5 1 v xs.length (bv xs)) (hbw : Boxed w Bw 3 (.int .i64 wide)) (hl : xs.length ≤ 1048576) (hbl : bs.length ≤ 1048576) (hk : Below w.heap.size w W) :
    W.cell? ⟨Bk, 0, none⟩ = some v ∧ W.frozen? ⟨Bk, 0, none⟩ = false ∧ W.cell? ⟨Bw, 0, none⟩ = some (.int .i64 (wide : Int)) ∧
    ∃ (A : Option Addr) (m' c' : Nat) (w4 : World), (Builtin.append_ #[78, 9] 78 #[v, .string (str bs)]).run Tryz.prog W = .ok (.slice A m' c') w4 ∧ w4.cell? ⟨Bk, 0, none⟩ = some v ∧ w4.frozen? ⟨Bk, 0, none⟩ = false ∧ w4.cell? ⟨Bw, 0, none⟩ = some (.int .i64 (wide : Int)) ∧ OwnS base Bk (w4.setCell ⟨Bk, 0, none⟩ (.slice A m' c')) (xs ++ bs) ∧ Boxed (w4.setCell ⟨Bk, 0, none⟩ (.slice A m' c')) Bw 3 (.int .i64 wide) ∧ Below base W (w4.setCell ⟨Bk, 0, none⟩ (.slice A m' c')) := by
  obtain ⟨i0, hi, hz0, hz1, hz2⟩ := info_parts info_u8
  have hBlt := lt_of_block hv
  have hV : W.heap[Bk]? = some (.cells #[v] 78 (0, 0)) := (hk.block Bk hBlt).trans hv
  have hW : Boxed W Bw 3 (.int .i64 wide) := (hk.block Bw hbw.lt).trans hbw
  have hO := row_below hown hk
  have hne := owns_other (by decide) hV hO
  have hneW := owns_other (by decide) hW hO
  obtain ⟨v', w4, hr, h2, h3, h4⟩ := Lib.run_append_own_string (P := Tryz.prog) W base 78 9 78 5 i0 Tryz.underlying78 Tryz.underlying9 hi hz0 hz1 hz2 v xs.length _ hO (str bs) (by rw [str_size]; unfold maxLen; omega) (by rw [str_size]; omega) (by have := hk.size; omega)
  rw [strCells_str, str_size] at h2
  have hV4 : w4.heap[Bk]? = some (.cells #[v] 78 (0, 0)) := (h3.block Bk (lt_of_block hV) (fun h => hne h.symm)).trans hV
  have hW4 : Boxed w4 Bw 3 (.int .i64 wide) := (h3.block Bw hW.lt (fun h => hneW h.symm)).trans hW
  have hne4 := owns_other (by decide) hV4 h2
  have hBB : Bw ≠ Bk := by
    intro e
    have h5 : w4.heap[Bw]? = _ := hW4
    rw [e, hV4] at h5
    injection h5 with h5
    injection h5 with _ h5
    exact absurd h5 (by decide)
  obtain ⟨A, m', c', rfl⟩ : ∃ A m' c', v' = .slice A m' c' := by
    rcases h2.2 with ⟨rfl, _⟩ | ⟨g, cap, cur, rfl, _⟩
    · exact ⟨_, _, _, rfl⟩
    · exact ⟨_, _, _, rfl⟩
  refine ⟨cell_of_one hV, free_of_one hV, hW.cell, A, m', c', w4, hr, cell_of_one hV4, free_of_one hV4, hW4.cell, ⟨hbase, _, one_setCell hV4, ?_⟩, ?_, ?_⟩
  · have := ownsRow_setCell_other h2 (a := ⟨Bk, 0, none⟩) hne4 (.slice A m' c')
    simpa [bv] using this
  · exact ((grownBy_setCell' w4 Bk _).block Bw hW4.lt (fun e => hBB (by injection e))).trans hW4
  · exact ((Below.refl base W).grown h3 (by have := hk.size; omega) (fun k hk' => (hO.lt k hk').1)).setCell (p := ⟨Bk, 0, none⟩) hbase _

/-- append as one step of a region that draws, by its run -/
theorem step_append_run {P : Program} {ops : Array Oper} {o : Oper} {a : Act} {w : World} {K : Act → World → Prop} {Q : Exit → Act → World → Prop} {E : Prop} (hgd : o.guard = none) (s x : Operand) (t u : TypeId)
    (ho : o.op = .call { callee := .builtin .append, args := #[s, x], argTypes := #[t, u] }) (vs vx v' : Value) (w' : World) (hs : a.eval s = vs) (hx : a.eval x = vx)
    (hr : (Builtin.append_ #[t, u] o.type #[vs, vx]).run P w = .ok v' w') (h : K (a.put o.dst v') w') : if Region.wanted o (yielded ops a.tmps) = true then Oper.wp P o a w K Q else E := by
  have hw : Region.wanted o (yielded ops a.tmps) = true := by simp [Region.wanted, hgd]
  rw [if_pos hw]
  unfold Oper.wp
  simp only [execOp, ho, resolve, invoke, builtin, Sem.run_bind, Sem.run_pure, Result.andThen_ok, List.map_toArray, List.map_cons, List.map_nil, hs, hx, hr]
  exact h

/-- a method's call as one step of a region that draws -/
theorem step_invoke {ops : Array Oper} {o : Oper} {a : Act} {w : World} {K : Act → World → Prop} {Q : Exit → Act → World → Prop} {E : Prop} (hgd : o.guard = none) (r x : Operand) (m : String) (T t : TypeId)
    (ho : o.op = .call { callee := .invoke r m, args := #[x], argTypes := #[t] }) (rv rv' xv res : Value) (f : FuncId) (R : World → Prop) (hs : a.eval r = .iface T rv) (hx : a.eval x = xv)
    (hmt : ∀ k w, (method (k + 1) T rv m).run Tryz.prog w = .ok (f, rv') w) (hf : ∀ args w, (callFunc f args).run Tryz.prog w = .ok (.enter f args) w)
    (hc : Calls Tryz.prog f #[rv', xv] w fun e w' => e = .returned res ∧ R w') (h : ∀ w', R w' → K (a.put o.dst res) w') : if Region.wanted o (yielded ops a.tmps) = true then Oper.wp Tryz.prog o a w K Q else E := by
  have hw : Region.wanted o (yielded ops a.tmps) = true := by simp [Region.wanted, hgd]
  rw [if_pos hw]
  have hm := fun w => hmt (Tryz.prog.types.size + Made.depth - 1) w
  have e1 : Tryz.prog.types.size + Made.depth - 1 + 1 = Tryz.prog.types.size + Made.depth := by
    have : 0 < Made.depth := by decide
    omega
  rw [e1] at hm
  unfold Oper.wp
  simp only [execOp, ho, resolve, invoke, callMethod, Sem.run_bind, Sem.run_pure, Result.andThen_ok, List.map_toArray, List.map_cons, List.map_nil, hs, hx]
  show Oper.upon _ _ _ _ _ (Sem.run Tryz.prog (do
    let p ← program
    let y ← method (p.types.size + Made.depth) T rv m
    callFunc y.1 (#[y.2] ++ (#[Value.iface T rv] ++ #[xv]).extract 1)) w)
  rw [Sem.run_bind, run_program, Result.andThen_ok, Sem.run_bind, hm, Result.andThen_ok, hf]
  refine hc.mono ?_
  rintro e w' ⟨rfl, hR⟩
  exact h w' hR

theorem part_length (w : Nat) (p : H.Part) (hw : w ≤ 64) (hp : match p with | .run _ _ => True | .blk l => l.length ≤ 64) : (H.Part.bytes w p).length ≤ 1024 := by
  cases p with
  | run n m =>
    have := V.sz_le (2 * m)
    simp only [H.Part.bytes, List.length_append, V.enc_length, H.pkd_length, List.length_cons, List.length_nil]
    unfold B.sz; omega
  | blk l =>
    have := V.sz_le (2 * H.nb l.length + 1)
    simp only [H.Part.bytes, List.length_append, V.enc_length, H.pkd_length, H.pad_length]
    have h8 : H.nb l.length * 8 ≤ 64 := by simp only at hp; unfold H.nb; omega
    have := Nat.mul_le_mul h8 hw
    unfold B.sz; omega

set_option maxHeartbeats 2000000 in
set_option maxRecDepth 100000 in
theorem hclos_run (base Bk Bw wide : Nat) (n m : Nat) (xs : List UInt8) (w : World) (hn : n < 2 ^ wide) (hm : m ≤ 64) (hw : wide ≤ 64) (ho : OwnS base Bk w xs) (hbw : Boxed w Bw 3 (.int .i64 wide)) (hl : xs.length ≤ 1048576) :
    Calls Tryz.prog 131 #[.iface 137 (.agg #[.int .u64 n, .int .i64 m]), .pointer (some ⟨Bk, 0, none⟩), .pointer (some ⟨Bw, 0, none⟩)] w
      fun e w' => e = .returned (.tuple #[]) ∧ OwnS base Bk w' (xs ++ H.Part.bytes wide (.run n m)) ∧ Boxed w' Bw 3 (.int .i64 wide) ∧ Below base w w' := by
  have hmt : ∀ (k : Nat) (w : World), (method (k + 1) 137 (.agg #[.int .u64 n, .int .i64 m]) "hypostyle/hybrid.bytes").run Tryz.prog w = .ok (201, (.agg #[.int .u64 n, .int .i64 m])) w := fun _ _ => by kernel_rfl
  have hcf : ∀ (args : Array Value) (w : World), (callFunc 201 args).run Tryz.prog w = .ok (.enter 201 args) w := fun _ _ => by kernel_rfl
  obtain ⟨hbase, v, hv, hown⟩ := ho
  have c0 := cell_of_one hv
  have f0 := free_of_one hv
  have c1 := hbw.cell
  have hlen := part_length wide (.run n m) hw trivial
  have HBY := Lib.hid (show Calls Tryz.prog 201 #[(.agg #[.int .u64 n, .int .i64 m]), .int .i64 wide] w.drew (TextPost (H.Part.bytes wide (.run n m)) w.drew) from rbytes_any n m wide w.drew hn hm hw)
  have HAP := Lib.hid (fun W (h : Below w.drew.heap.size w.drew W) => append_text base Bk Bw wide v xs (H.Part.bytes wide (.run n m)) w.drew W hbase hv hown hbw hl (by omega) h)
  have hbs : base ≤ w.heap.size := by have := lt_of_block hv; omega
  generalize H.Part.bytes wide (.run n m) = bs at *
  clear hlen hown hv
  go_enter Tryz.func131, Tryz.ntmps131
  go_wp2_with fail
  go_region_law (first
    | ((refine step_invoke (by rfl) _ _ _ _ _ (by rfl) _ _ (.int .i64 (wide : Int)) (.string (str bs)) _ _ (by rfl) (by rfl) hmt hcf HBY.out ?_); intro w3 hb3; obtain ⟨d0, d1, dw, A, m', c', w4, hr, d3, d4, dx, d5, d6, d7⟩ := HAP.out w3 hb3)
    | (refine step_append_run (by rfl) _ _ _ _ (by rfl) v (.string (str bs)) (.slice A m' c') w4 (by rfl) (by rfl) hr ?_))
  all_goals
    go_wp2_with fail
    go_end0
    exact ⟨rfl, d5, d6, ((Below.refl base w).drew.trans (hb3.mono hbs)).trans d7⟩

set_option maxHeartbeats 2000000 in
set_option maxRecDepth 100000 in
theorem hclos_blk (base Bk Bw wide : Nat) (a : Option Addr) (c : Nat) (l : List Nat) (xs : List UInt8) (w : World) (hx : ∀ x ∈ l, x < 2 ^ wide) (h0 : l ≠ []) (hll : l.length ≤ 64) (hu : Nums w w.heap.size a l) (hw : wide ≤ 64) (ho : OwnS base Bk w xs) (hbw : Boxed w Bw 3 (.int .i64 wide)) (hl : xs.length ≤ 1048576) :
    Calls Tryz.prog 131 #[.iface 138 (.slice a l.length c), .pointer (some ⟨Bk, 0, none⟩), .pointer (some ⟨Bw, 0, none⟩)] w
      fun e w' => e = .returned (.tuple #[]) ∧ OwnS base Bk w' (xs ++ H.Part.bytes wide (.blk l)) ∧ Boxed w' Bw 3 (.int .i64 wide) ∧ Below base w w' := by
  have hmt : ∀ (k : Nat) (w : World), (method (k + 1) 138 (.slice a l.length c) "hypostyle/hybrid.bytes").run Tryz.prog w = .ok (208, (.slice a l.length c)) w := fun _ _ => by kernel_rfl
  have hcf : ∀ (args : Array Value) (w : World), (callFunc 208 args).run Tryz.prog w = .ok (.enter 208 args) w := fun _ _ => by kernel_rfl
  obtain ⟨hbase, v, hv, hown⟩ := ho
  have c0 := cell_of_one hv
  have f0 := free_of_one hv
  have c1 := hbw.cell
  have hlen := part_length wide (.blk l) hw hll
  have HBY := Lib.hid (show Calls Tryz.prog 208 #[(.slice a l.length c), .int .i64 wide] w.drew (TextPost (H.Part.bytes wide (.blk l)) w.drew) from bbytes_any a c l wide w.drew hx hw h0 hll hu)
  have HAP := Lib.hid (fun W (h : Below w.drew.heap.size w.drew W) => append_text base Bk Bw wide v xs (H.Part.bytes wide (.blk l)) w.drew W hbase hv hown hbw hl (by omega) h)
  have hbs : base ≤ w.heap.size := by have := lt_of_block hv; omega
  generalize H.Part.bytes wide (.blk l) = bs at *
  clear hlen hown hv
  go_enter Tryz.func131, Tryz.ntmps131
  go_wp2_with fail
  go_region_law (first
    | ((refine step_invoke (by rfl) _ _ _ _ _ (by rfl) _ _ (.int .i64 (wide : Int)) (.string (str bs)) _ _ (by rfl) (by rfl) hmt hcf HBY.out ?_); intro w3 hb3; obtain ⟨d0, d1, dw, A, m', c', w4, hr, d3, d4, dx, d5, d6, d7⟩ := HAP.out w3 hb3)
    | (refine step_append_run (by rfl) _ _ _ _ (by rfl) v (.string (str bs)) (.slice A m' c') w4 (by rfl) (by rfl) hr ?_))
  all_goals
    go_wp2_with fail
    go_end0
    exact ⟨rfl, d5, d6, ((Below.refl base w).drew.trans (hb3.mono hbs)).trans d7⟩
end Go.Proofs.YtmiboibadccceaaGreat
/- Plain mathematics of runs and blocks: how long, and read as they were. -/
namespace Go.Proofs.YtmiboibadccceaaGreat.H
set_option linter.unusedVariables false

theorem sz8 (m : Nat) : 8 * B.sz m ≤ m + 7 := by unfold B.sz; omega
theorem vsz1 (n : Nat) (h : n < 128) : V.sz n = 1 := by
  have := V.sz_spec n; omega
theorem vsz2 (n : Nat) (h : n < 16384) : V.sz n ≤ 2 := by
  have := V.sz_spec n; omega

/-- how long a list's bytes are -/
theorem bytes_bound (w : Nat) : ∀ l : List Nat, l.length ≤ 64 → 8 * (bytes w l).length ≤ l.length * w + l.length + 7 * w + 7 := by
  refine parts_ind (fun l => l.length ≤ 64 → 8 * (bytes w l).length ≤ l.length * w + l.length + 7 * w + 7) ?_ ?_ ?_
  · intro _; simp [bytes_nil]
  · intro l h0 h8 ih hl
    have hr := row_le l
    have := ih (by rw [List.length_drop]; omega)
    rw [bytes_run w l h0 h8, List.length_append]
    simp only [Part.bytes, List.length_append, V.enc_length, pkd_length, List.length_cons, List.length_nil, Nat.zero_add, Nat.one_mul]
    rw [List.length_drop] at this
    have hs := sz8 w
    have hm : (l.length - row l) * w + row l * w = l.length * w := by rw [← Nat.add_mul]; congr 1; omega
    have h8w : 8 * w ≤ row l * w := Nat.mul_le_mul_right _ h8
    have hs2 : 8 * B.sz w ≤ 8 * w := by unfold B.sz; omega
    by_cases h64 : row l < 64
    · have := vsz1 (2 * row l) (by omega); omega
    · have := vsz2 (2 * row l) (by omega); omega
  · intro l h0 h8 ih hl
    have hr := loose_le l
    have hp := loose_pos l (fun e => e.elim h0 h8)
    have := ih (by rw [List.length_drop]; omega)
    rw [bytes_blk w l h0 h8, List.length_append]
    simp only [Part.bytes, List.length_append, V.enc_length, pkd_length, pad_length, List.length_take, Nat.min_eq_left hr]
    rw [List.length_drop] at this
    have hnb : nb (loose l) * 8 < 128 ∧ loose l ≤ nb (loose l) * 8 ∧ nb (loose l) * 8 ≤ loose l + 7 := by unfold nb; omega
    have hv := vsz1 (2 * nb (loose l) + 1) (by omega)
    have hsz : 8 * B.sz (nb (loose l) * 8 * w) = nb (loose l) * 8 * w := by
      rw [Nat.mul_assoc, Nat.mul_left_comm]; unfold B.sz; omega
    rcases loose_full l with hf | hf
    · have e : nb (loose l) * 8 = loose l := by unfold nb; omega
      rw [e] at hsz ⊢
      have hm : (l.length - loose l) * w + loose l * w = l.length * w := by rw [← Nat.add_mul]; congr 1; omega
      omega
    · rw [hf] at hsz hnb hp hv ⊢
      have e : l.drop l.length = [] := List.drop_length
      rw [e, bytes_nil]
      have hm : nb l.length * 8 * w ≤ (l.length + 7) * w := Nat.mul_le_mul_right _ hnb.2.2
      rw [Nat.add_mul] at hm
      simp only [List.length_nil]
      omega

/-- a part that stands in a text -/
def PartOk (w left : Nat) : Part → Prop
  | .run n m => n < 2 ^ w ∧ 1 ≤ m ∧ m ≤ left
  | .blk l => (∀ x ∈ l, x < 2 ^ w) ∧ 1 ≤ l.length ∧ l.length ≤ left ∧ (l.length % 8 = 0 ∨ l.length = left)
def PartsOk (w : Nat) : Nat → List Part → Prop
  | _, [] => True
  | left, p :: ps => PartOk w left p ∧ PartsOk w (left - p.nums.length) ps

theorem leN_pkd (w : Nat) (l : List Nat) (h : ∀ x ∈ l, x < 2 ^ w) : B.leN (pkd w l) = B.pk w l := by
  unfold pkd
  rw [B.leN_le]
  apply Nat.mod_eq_of_lt
  have := B.pk_lt w l h
  rw [Nat.mul_comm] at this
  refine Nat.lt_of_lt_of_le this ?_
  rw [B.two8]; exact Nat.pow_le_pow_right (by omega) (by unfold B.sz; omega)
theorem pk_top (w : Nat) (l : List Nat) (h : ∀ x ∈ l, x < 2 ^ w) : B.pk w l / 2 ^ (l.length * w) = 0 := by
  have := B.pk_lt w l h
  rw [Nat.mul_comm] at this
  exact Nat.div_eq_of_lt this
theorem wd_zero (k : Nat) : B.wd (List.replicate k 0) = 0 := by
  have := (B.wd_le (List.replicate k 0) 0).2 (fun x hx => by rw [List.eq_of_mem_replicate hx]; simp)
  omega

def Part.head : Part → Nat
  | .run _ m => 2 * m
  | .blk l => 2 * nb l.length + 1
def Part.pays : Part → List Nat
  | .run n _ => [n]
  | .blk l => pad l
theorem bytes_eq (w : Nat) (p : Part) : Part.bytes w p = V.enc p.head ++ pkd w p.pays := by cases p <;> rfl
theorem fit_even (m left : Nat) : fit (2 * m) left = if m = 0 then 1 else if left < m then 2 else 0 := by
  unfold fit
  rw [show 2 * m / 2 = m by omega, show 2 * m % 2 = 0 by omega]; rfl
theorem fit_odd (k left : Nat) : fit (2 * k + 1) left = if k = 0 then 1 else if nb left < k then 2 else 0 := by
  unfold fit
  rw [show (2 * k + 1) / 2 = k by omega, show (2 * k + 1) % 2 = 1 by omega]; rfl
theorem head_lt (w left : Nat) (p : Part) (hl : left ≤ 64) (h : PartOk w left p) : p.head < 128 + 2 ∧ fit p.head left = 0 ∧ p.pays.length = held p.head ∧ (∀ x ∈ p.pays, x < 2 ^ w) := by
  cases p with
  | run n m =>
    obtain ⟨h1, h2, h3⟩ := h
    simp only [Part.head, Part.pays]
    refine ⟨by omega, ?_, ?_, by simpa using h1⟩
    · rw [fit_even, if_neg (by omega), if_neg (by omega)]
    · unfold held; rw [if_neg (by omega)]; rfl
  | blk l =>
    obtain ⟨h1, h2, h3, h4⟩ := h
    simp only [Part.head, Part.pays]
    have hn : 1 ≤ nb l.length ∧ nb l.length ≤ 8 ∧ nb l.length ≤ nb left := by unfold nb; omega
    refine ⟨by omega, ?_, ?_, pad_mem l w h1⟩
    · rw [fit_odd, if_neg (by omega), if_neg (by omega)]
    · unfold held; rw [if_pos (by omega), pad_length]; omega

theorem first_bytes (w left : Nat) (p : Part) (t : List UInt8) (hl : left ≤ 64) (h : PartOk w left p) : first (Part.bytes w p ++ t) left w = (0, p, (Part.bytes w p).length) := by
  obtain ⟨h1, h2, h3, h4⟩ := head_lt w left p hl h
  rw [bytes_eq]
  have hpl : (pkd w p.pays).length = B.sz (held p.head * w) := by rw [pkd_length, h3]
  unfold first
  rw [List.append_assoc, V.rd_enc p.head (by omega)]
  simp only [ne_eq, not_true_eq_false, if_false]
  unfold firstL
  rw [if_neg (by simp [h2]), if_neg (by rw [List.length_append, List.length_append, V.enc_length, hpl]; omega)]
  have hd : ((V.enc p.head ++ (pkd w p.pays ++ t)).drop (V.sz p.head)).take (B.sz (held p.head * w)) = pkd w p.pays := by
    rw [List.drop_append_of_le_length (by rw [V.enc_length]; omega), List.drop_of_length_le (by rw [V.enc_length]; omega), List.nil_append, ← hpl, List.take_left]
  rw [hd, List.length_append, V.enc_length, hpl]
  unfold body
  rw [leN_pkd w _ h4]
  have htop := pk_top w p.pays h4
  rw [h3] at htop
  rw [if_neg (by simp [htop])]
  cases p with
  | run n m =>
    have hdg : B.dg w 1 (B.pk w [n]) = [n] := B.dg_pk w [n] h4
    rw [if_pos (show (Part.run n m).head % 2 = 0 by show 2 * m % 2 = 0; omega)]
    show (0, Part.run ((B.dg w 1 (B.pk w [n])).headD 0) (2 * m / 2), _) = _
    rw [hdg, show 2 * m / 2 = m by omega]; rfl
  | blk l =>
    obtain ⟨g1, g2, g3, g4⟩ := h
    have h3' : (pad l).length = held (2 * nb l.length + 1) := h3
    have hdg : B.dg w (pad l).length (B.pk w (pad l)) = pad l := B.dg_pk w (pad l) h4
    rw [h3'] at hdg
    have hmin : min left (held (2 * nb l.length + 1)) = l.length := by rw [← h3', pad_length]; unfold nb; omega
    have e1 : (pad l).drop l.length = List.replicate (8 * nb l.length - l.length) 0 := by unfold pad; rw [List.drop_left]
    have e2 : (pad l).take l.length = l := by unfold pad; rw [List.take_left]
    rw [if_neg (show ¬ (Part.blk l).head % 2 = 0 by show ¬ (2 * nb l.length + 1) % 2 = 0; omega)]
    show (if B.wd ((B.dg w (held (2 * nb l.length + 1)) (B.pk w (pad l))).drop (min left (held (2 * nb l.length + 1)))) ≠ 0 then (1, Part.blk [], 0)
      else (0, Part.blk ((B.dg w (held (2 * nb l.length + 1)) (B.pk w (pad l))).take (min left (held (2 * nb l.length + 1)))), _)) = _
    rw [hdg, hmin, e1, e2, wd_zero, if_neg (by simp)]

theorem first_cut (w left : Nat) (p : Part) (k : Nat) (hl : left ≤ 64) (h : PartOk w left p) (hk : k < (Part.bytes w p).length) : first ((Part.bytes w p).take k) left w = (5, .blk [], 0) := by
  obtain ⟨h1, h2, h3, h4⟩ := head_lt w left p hl h
  rw [bytes_eq] at hk ⊢
  have hpl : (pkd w p.pays).length = B.sz (held p.head * w) := by rw [pkd_length, h3]
  rw [List.length_append, V.enc_length, hpl] at hk
  unfold first
  by_cases hs : k < V.sz p.head
  · rw [List.take_append_of_le_length (by rw [V.enc_length]; omega), V.rd_cut p.head k (by omega) hs]
    simp
  · have e : (V.enc p.head ++ pkd w p.pays).take k = V.enc p.head ++ (pkd w p.pays).take (k - V.sz p.head) := by
      rw [List.take_append, V.enc_length, List.take_of_length_le (by rw [V.enc_length]; omega)]
    rw [e, V.rd_enc p.head (by omega)]
    simp only [ne_eq, not_true_eq_false, if_false]
    unfold firstL
    rw [if_neg (by simp [h2]), if_pos (by rw [List.length_append, V.enc_length, List.length_take, hpl]; omega)]

theorem nums_pos (w left : Nat) (p : Part) (h : PartOk w left p) : 1 ≤ p.nums.length ∧ p.nums.length ≤ left := by
  cases p with
  | run n m => simp only [Part.nums, List.length_replicate]; exact ⟨h.2.1, h.2.2⟩
  | blk l => exact ⟨h.2.1, h.2.2.1⟩

theorem read_parts (w : Nat) : ∀ (ps : List Part) (left : Nat) (t : List UInt8), left ≤ 64 → PartsOk w left ps →
    read (ps.flatMap (Part.bytes w) ++ t) left w = pre (ps.flatMap Part.nums) (read t (left - (ps.flatMap Part.nums).length) w) := by
  intro ps
  induction ps with
  | nil =>
    intro left t _ _
    simp only [List.flatMap_nil, List.nil_append, List.length_nil, Nat.sub_zero]
    exact (pre_nil _ (read_err t left w)).symm
  | cons p ps ih =>
    intro left t hl h
    obtain ⟨h1, h2⟩ := h
    have hn := nums_pos w left p h1
    have hf := first_bytes w left p (ps.flatMap (Part.bytes w) ++ t) hl h1
    simp only [List.flatMap_cons, List.append_assoc]
    rw [read_step _ left w (by omega) (by rw [hf]), hf]
    simp only [List.drop_left]
    rw [ih (left - p.nums.length) t (by omega) h2, pre_pre, List.length_append, Nat.sub_sub]

theorem read_cut (w : Nat) : ∀ (ps : List Part) (left k : Nat), left ≤ 64 → PartsOk w left ps → k < (ps.flatMap (Part.bytes w)).length → (read ((ps.flatMap (Part.bytes w)).take k) left w).2 = 5 := by
  intro ps
  induction ps with
  | nil => intro left k _ _ hk; simp at hk
  | cons p ps ih =>
    intro left k hl h hk
    obtain ⟨h1, h2⟩ := h
    have hn := nums_pos w left p h1
    simp only [List.flatMap_cons] at hk ⊢
    rw [List.length_append] at hk
    by_cases hc : k < (Part.bytes w p).length
    · rw [List.take_append_of_le_length (by omega)]
      have hf := first_cut w left p k hl h1 hc
      rw [read_bad _ left w (by omega) (by rw [hf]; simp), hf]
    · have e : (Part.bytes w p ++ ps.flatMap (Part.bytes w)).take k = Part.bytes w p ++ (ps.flatMap (Part.bytes w)).take (k - (Part.bytes w p).length) := by
        rw [List.take_append, List.take_of_length_le (by omega)]
      rw [e]
      have hf := first_bytes w left p ((ps.flatMap (Part.bytes w)).take (k - (Part.bytes w p).length)) hl h1
      rw [read_step _ left w (by omega) (by rw [hf]), hf]
      simp only [List.drop_left]
      have := ih (left - p.nums.length) (k - (Part.bytes w p).length) (by omega) h2 (by omega)
      unfold pre
      rw [this]; simp

/-- a list's parts stand in its text, and are the list -/
theorem parts_ok (w : Nat) : ∀ l : List Nat, (∀ x ∈ l, x < 2 ^ w) → PartsOk w l.length (parts l) ∧ (parts l).flatMap Part.nums = l := by
  refine parts_ind (fun l => (∀ x ∈ l, x < 2 ^ w) → PartsOk w l.length (parts l) ∧ (parts l).flatMap Part.nums = l) ?_ ?_ ?_
  · intro _; simp [parts_nil, PartsOk]
  · intro l h0 h8 ih hx
    have hr := row_le l
    obtain ⟨i1, i2⟩ := ih (fun x hx' => hx x (List.mem_of_mem_drop hx'))
    rw [parts_run l h0 h8]
    have hh : l.headD 0 ∈ l := by cases l with
      | nil => exact absurd rfl h0
      | cons x l => simp
    refine ⟨⟨⟨hx _ hh, by omega, hr⟩, ?_⟩, ?_⟩
    · simp only [Part.nums, List.length_replicate]
      rw [List.length_drop] at i1; exact i1
    · simp only [List.flatMap_cons, i2, Part.nums]
      rw [← row_take, List.take_append_drop]
  · intro l h0 h8 ih hx
    have hr := loose_le l
    have hp := loose_pos l (fun e => e.elim h0 h8)
    obtain ⟨i1, i2⟩ := ih (fun x hx' => hx x (List.mem_of_mem_drop hx'))
    rw [parts_blk l h0 h8]
    have hlt : (l.take (loose l)).length = loose l := by rw [List.length_take]; omega
    refine ⟨⟨⟨fun x hx' => hx x (List.mem_of_mem_take hx'), by omega, by omega, ?_⟩, ?_⟩, ?_⟩
    · rw [hlt]; exact loose_full l
    · simp only [Part.nums, hlt]
      rw [List.length_drop] at i1; exact i1
    · simp only [List.flatMap_cons, i2, Part.nums, List.take_append_drop]

theorem read_bytes (w : Nat) (l : List Nat) (t : List UInt8) (hl : l.length ≤ 64) (hx : ∀ x ∈ l, x < 2 ^ w) : read (bytes w l ++ t) l.length w = pre l (read t 0 w) := by
  obtain ⟨h1, h2⟩ := parts_ok w l hx
  have := read_parts w (parts l) l.length t hl h1
  rw [h2, Nat.sub_self] at this
  exact this
theorem read_back (w : Nat) (l : List Nat) (hl : l.length ≤ 64) (hx : ∀ x ∈ l, x < 2 ^ w) : read (bytes w l) l.length w = (l, 0) := by
  have := read_bytes w l [] hl hx
  rw [List.append_nil] at this
  rw [this, read_zero]; simp [pre]
theorem read_more (w : Nat) (l : List Nat) (b : UInt8) (hl : l.length ≤ 64) (hx : ∀ x ∈ l, x < 2 ^ w) : (read (bytes w l ++ [b]) l.length w).2 = 1 := by
  rw [read_bytes w l [b] hl hx, read_zero]; simp [pre]
theorem read_short (w : Nat) (l : List Nat) (k : Nat) (hl : l.length ≤ 64) (hx : ∀ x ∈ l, x < 2 ^ w) (hk : k < (bytes w l).length) : (read ((bytes w l).take k) l.length w).2 = 5 :=
  read_cut w (parts l) l.length k hl (parts_ok w l hx).1 hk
end Go.Proofs.YtmiboibadccceaaGreat.H
/- The walks of hybrid.each, hybrid.Write. -/
namespace Go.Proofs.YtmiboibadccceaaGreat
open Go.RowKit
set_option linter.unusedVariables false

theorem Nums.cutIf {w : World} {B' b off c k : Nat} {l : List Nat} (h : Nums w B' (some ⟨b, off, none⟩) l) (hl : l.length ≤ c) : Nums w B' (if c = k then some ⟨b, off, none⟩ else some ⟨b, off + k, none⟩) (l.drop k) := by
  by_cases hk : c = k
  · rw [if_pos hk, List.drop_eq_nil_of_le (by omega)]; exact Nums.nil _ _ _
  · rw [if_neg hk]; exact h.drop k

def lenS : Value → Nat
  | .slice _ n _ => n
  | _ => 0

set_option maxHeartbeats 4000000 in
set_option maxRecDepth 100000 in
theorem heach_any (base Bk Bw wide : Nat) (a : Option Addr) (c : Nat) (l : List Nat) (w : World) (hx : ∀ x ∈ l, x < 2 ^ wide) (hw : wide ≤ 64) (hl : l.length ≤ 64) (hcap : l.length ≤ c) (hcm : c ≤ maxLen) (hu : Nums w base a l) (ho : OwnS base Bk w []) (hbw : Boxed w Bw 3 (.int .i64 wide)) :
    Calls Tryz.prog 130 #[.slice a l.length c, .func (.func 131) #[] #[.pointer (some ⟨Bk, 0, none⟩), .pointer (some ⟨Bw, 0, none⟩)]] w
      fun e w' => e = .returned (.tuple #[]) ∧ OwnS base Bk w' (H.bytes wide l) ∧ Below base w w' := by
  unfold maxLen at hcm
  have hbd := H.bytes_bound wide l hl
  have hmw : l.length * wide ≤ 64 * 64 := Nat.mul_le_mul hl hw
  have HLEN := Lib.hid (show (H.bytes wide l).length ≤ 1048576 by omega)
  have HU := Lib.hid hu
  have HX := Lib.hid hx
  clear hbd hmw hu hx
  go_enter Tryz.func130, Tryz.ntmps130
  go_wp2_with fail
  go_loopw [0, 4, 5] (fun s _ _ wr => ∃ (k : Nat) (a' : Option Addr) (c' : Nat) (cur : List UInt8), k ≤ l.length ∧ s = .slice a' (l.length - k) c' ∧ l.length - k ≤ c' ∧ c' ≤ 9223372036854775807 ∧ Hid (Nums w base a' (l.drop k)) ∧ Hid (cur ++ H.bytes wide (l.drop k) = H.bytes wide l) ∧ OwnS base Bk wr cur ∧ Boxed wr Bw 3 (.int .i64 wide) ∧ Below base w wr) (fun s _ _ _ => lenS s)
  case atStart => exact ⟨0, a, c, [], by omega, rfl, by omega, by omega, Lib.hid (by simpa using HU.out), Lib.hid (by simp), ho, hbw, Below.refl _ _⟩
  case round =>
    obtain ⟨k, a', c', cur, hk, rfl, hc', hcm', HN, HB, ho2, hbw2, hbl⟩ := hrel
    by_cases hlt : k < l.length
    · have hne : l.drop k ≠ [] := fun e => by have := congrArg List.length e; rw [List.length_drop] at this; simp at this; omega
      obtain ⟨b, off, rfl, hb, hcc⟩ := HN.out hne
      have hnr : Nums wr base (some ⟨b, off, none⟩) (l.drop k) := HN.out.below hbl
      have hnw : Nums wr wr.heap.size (some ⟨b, off, none⟩) (l.drop k) := hnr.mono (by have := lt_of_block ho2.2.choose_spec.1; have := ho2.1; omega)
      have hld : (l.drop k).length = l.length - k := List.length_drop
      have hrow := row_any (some ⟨b, off, none⟩) c' (l.drop k) wr (by rw [hld]; unfold maxLen; omega) _ hnr
      have hloo := loose_any (some ⟨b, off, none⟩) c' (l.drop k) wr (by rw [hld]; omega) hne (by rw [hld]; omega) (by unfold maxLen; omega) _ hnr
      have hc0 := hcc 0 (by rw [hld]; omega)
      have hhd : (l.drop k).getD 0 0 = (l.drop k).headD 0 := by cases l.drop k <;> rfl
      rw [hhd, Nat.add_zero] at hc0
      have hc0' := (hbl.cell (p := ⟨b, off, none⟩) hb).trans hc0
      have hmem : (l.drop k).headD 0 ∈ l := by rw [← hhd]; exact List.mem_of_mem_drop (getD_mem _ 0 (by rw [hld]; omega))
      have hxk := HX.out _ hmem
      have hcl : cur.length ≤ 1048576 := by have := HLEN.out; rw [← HB.out, List.length_append] at this; omega
      have hr1 := H.row_pos _ hne
      have hr2 := H.row_le (l.drop k)
      rw [hld] at hrow hloo hr2
      have HRUN := Lib.hid (fun h8 => H.bytes_run wide (l.drop k) hne h8)
      have HBLK := Lib.hid (fun h8 => H.bytes_blk wide (l.drop k) hne h8)
      have hl1 := fun h8 => H.loose_pos (l.drop k) (fun e => e.elim hne h8)
      have hl2 := H.loose_le (l.drop k)
      rw [hld] at hl2
      have HLP := Lib.hid hl1
      have HDD := Lib.hid (fun j => (List.drop_drop (i := j) (j := k) (l := l)))
      have HCUT := Lib.hid (fun j => Nums.cutIf (k := j) (HN.out) (show (l.drop k).length ≤ c' by rw [hld]; exact hc'))
      have HCB := Lib.hid (fun (m : Nat) (h1 : 1 ≤ m) (h2 : m ≤ l.length - k) => show Calls Tryz.prog 131 #[.iface 138 (.slice (some ⟨b, off, none⟩) m c'), .pointer (some ⟨Bk, 0, none⟩), .pointer (some ⟨Bw, 0, none⟩)] wr
        (fun e w' => e = .returned (.tuple #[]) ∧ OwnS base Bk w' (cur ++ H.Part.bytes wide (.blk ((l.drop k).take m))) ∧ Boxed w' Bw 3 (.int .i64 wide) ∧ Below base wr w') by
          have hlt : ((l.drop k).take m).length = m := by rw [List.length_take, hld]; omega
          have := hclos_blk base Bk Bw wide (some ⟨b, off, none⟩) c' ((l.drop k).take m) cur wr (fun x hx => HX.out x (List.mem_of_mem_drop (List.mem_of_mem_take hx))) (fun e => by rw [e] at hlt; simp at hlt; omega) (by rw [hlt]; omega) (hnw.take m) hw ho2 hbw2 hcl
          rw [hlt] at this
          exact this)
      generalize H.row (l.drop k) = r at *
      generalize H.loose (l.drop k) = lo at *
      generalize (l.drop k).headD 0 = x at *
      have HROW := Lib.hid hrow
      have HLOO := Lib.hid hloo
      have HCR := Lib.hid (hclos_run base Bk Bw wide x r cur wr hxk (by omega) hw ho2 hbw2 hcl)
      clear hrow hloo hnr hnw hcc hne hmem hhd hc0
      have hrc : (r : Int) ≤ ((l.length - k : Nat) : Int) := by omega
      by_cases h8 : 8 ≤ r
      · have g1 : decide ((r : Int) < 8) = false := by simp; omega
        go_wp2_with fail
        refine (HROW.out).mono ?_
        rintro e w1 ⟨rfl, rfl⟩
        go_wp2_with fail
        refine (HCR.out).mono ?_
        rintro e w2 ⟨rfl, ho3, hbw3, hb3⟩
        go_wp2_with fail
        refine ⟨⟨k + r, _, c' - r, _, by omega, by rw [Nat.sub_sub], by omega, by omega, Lib.hid ?_, Lib.hid ?_, ho3, hbw3, hbl.trans hb3⟩, by simp [lenS]; omega⟩
        · rw [← HDD.out]; exact HCUT.out r
        · rw [← HDD.out, List.append_assoc, ← HRUN.out h8]; exact HB.out
      · have g1 : decide ((r : Int) < 8) = true := by simp; omega
        have hlo1 := HLP.out h8
        have hlc : (lo : Int) ≤ ((l.length - k : Nat) : Int) := by omega
        have HCL := Lib.hid (HCB.out lo hlo1 hl2)
        go_wp2_with fail
        refine (HROW.out).mono ?_
        rintro e w1 ⟨rfl, rfl⟩
        go_wp2_with fail
        refine (HLOO.out).mono ?_
        rintro e w1 ⟨rfl, rfl⟩
        go_wp2_with fail
        refine (HCL.out).mono ?_
        rintro e w2 ⟨rfl, ho3, hbw3, hb3⟩
        go_wp2_with fail
        refine ⟨⟨k + lo, _, c' - lo, _, by omega, by rw [Nat.sub_sub], by omega, by omega, Lib.hid ?_, Lib.hid ?_, ho3, hbw3, hbl.trans hb3⟩, by simp [lenS]; omega⟩
        · rw [← HDD.out]; exact HCUT.out lo
        · rw [← HDD.out, List.append_assoc, ← HBLK.out h8]; exact HB.out
    · obtain rfl : k = l.length := by omega
      have hB := HB.out
      rw [List.drop_length, H.bytes_nil, List.append_nil] at hB
      subst hB
      go_wp2_with fail
      go_end0
      exact ⟨rfl, ho2, hbl⟩
end Go.Proofs.YtmiboibadccceaaGreat
/- The walk of hybrid.Write. -/
namespace Go.Proofs.YtmiboibadccceaaGreat
open Go.RowKit
set_option linter.unusedVariables false

def hwriteR (l : List Nat) (wide : Int) : List UInt8 × Nat := if (packR l wide).2 ≠ 0 then ([], (packR l wide).2) else (H.bytes wide.toNat l, 0)

theorem owns_text {base Bk : Nat} {w : World} {xs : List UInt8} (h : OwnS base Bk w xs) : ∃ (A : Option Addr) (n c : Nat), w.cell? ⟨Bk, 0, none⟩ = some (.slice A n c) ∧ (convert 78 9 (.slice A n c)).run Tryz.prog w = .ok (.string (str xs)) w := by
  obtain ⟨h0, v, hv, hown⟩ := h
  have hown' := hown
  rcases hown.2 with ⟨rfl, hz⟩ | ⟨g, cap, cur, rfl, _⟩
  · refine ⟨none, 0, 0, cell_of_one hv, ?_⟩
    obtain rfl : xs = [] := List.eq_nil_of_length_eq_zero hz
    exact run_convert_bytes_nil _ 78 5 Tryz.underlying78 Tryz.underlying5 0 0 9 Tryz.underlying9
  · refine ⟨some ⟨g, 0, none⟩, xs.length, cap, cell_of_one hv, ?_⟩
    rw [← str_of xs]
    refine run_convert_bytes_arg _ 78 5 Tryz.underlying78 Tryz.underlying5 _ 0 xs.length cap _ (by simp) ?_ 9 Tryz.underlying9
    intro i hi
    rw [Nat.zero_add, hown'.cellAt i (by omega)]
    simp [bv, List.getElem?_eq_getElem hi]

set_option maxHeartbeats 400000 in
theorem hwrite_range (a : Option Addr) (c n : Nat) (wide : Int) (w : World) (h : wide < 0 ∨ 64 < wide) :
    Calls Tryz.prog 85 #[.slice a n c, .int .i64 wide] w (PackPost ([], 3) w) := by
  have c0 : (w.alloc (.cells #[.int .i64 wide] 3)).cell? ⟨w.heap.size, 0, none⟩ = some (.int .i64 wide) := by rw [World.cell?_alloc_new]; rfl
  by_cases h0 : wide < 0
  · have g1 : decide (wide < 0) = true := by simp; omega
    go_enter Tryz.func85, Tryz.ntmps85
    go_wp2_with fail
    go_ret2
    exact ⟨rfl, (Below.refl _ _).alloc (Nat.le_refl _) _⟩
  · have g1 : decide (wide < 0) = false := by simp; omega
    have g2 : decide (64 < wide) = true := by simp; omega
    go_enter Tryz.func85, Tryz.ntmps85
    go_wp2_with fail
    go_ret2
    exact ⟨rfl, (Below.refl _ _).alloc (Nat.le_refl _) _⟩

set_option maxHeartbeats 400000 in
theorem hwrite_many (a : Option Addr) (c n wide : Nat) (w : World) (h : wide ≤ 64) (hn : 64 < n) :
    Calls Tryz.prog 85 #[.slice a n c, .int .i64 wide] w (PackPost ([], 2) w) := by
  have g1 : decide ((wide : Int) < 0) = false := by simp
  have g2 : decide ((64 : Int) < (wide : Int)) = false := by simp; omega
  go_enter Tryz.func85, Tryz.ntmps85
  go_wp2_with fail
  go_ret2
  exact ⟨rfl, (Below.refl _ _).alloc (Nat.le_refl _) _⟩

set_option maxHeartbeats 1000000 in
theorem hwrite_over (a : Option Addr) (c : Nat) (l : List Nat) (wide : Nat) (w : World) (h : wide ≤ 64) (hn : l.length ≤ 64) (hx : ∀ x ∈ l, x < 18446744073709551616) (hu : Nums w w.heap.size a l) (ho : wide < B.wd l) :
    Calls Tryz.prog 85 #[.slice a l.length c, .int .i64 wide] w (PackPost ([], 8) w) := by
  have g1 : decide ((wide : Int) < 0) = false := by simp
  have g2 : decide ((64 : Int) < (wide : Int)) = false := by simp; omega
  have HW := Lib.hid (fun w' h => width_any a c l w' w.heap.size (by unfold maxLen; omega) hx h)
  have HU := Lib.hid hu
  have h64 := B.wd_64 l hx
  have hb0 : Below w.heap.size w (w.alloc (.cells #[.int .i64 (wide : Int)] 3)) := (Below.refl _ _).alloc (Nat.le_refl _) _
  have g3 : decide ((wide : Int) < (B.wd l : Int)) = true := by simp; omega
  clear hx hu
  generalize B.wd l = d at *
  go_enter Tryz.func85, Tryz.ntmps85
  go_wp2_with fail
  go_quiet ((go_at_call 117; exact Calls.quiet_same (HW.out _ (HU.out.below (below_drewN hb0 _)))))
  go_wp2_with fail
  go_ret2
  exact ⟨rfl, below_drewN hb0 _⟩

set_option maxHeartbeats 1000000 in
set_option maxRecDepth 100000 in
theorem hwrite_ok (a : Option Addr) (c : Nat) (l : List Nat) (wide : Nat) (w : World) (h : wide ≤ 64) (hn : l.length ≤ 64) (hcap : l.length ≤ c) (hcm : c ≤ maxLen) (hx : ∀ x ∈ l, x < 18446744073709551616) (hu : Nums w w.heap.size a l) (ho : B.wd l ≤ wide) :
    Calls Tryz.prog 85 #[.slice a l.length c, .int .i64 wide] w (PackPost (H.bytes wide l, 0) w) := by
  have hmf : ∀ (fn : Fn) (first cap : Array Value) (w : World), (Instr.makeFunc fn first cap).run Tryz.prog w = .ok (.func fn first cap) w := fun _ _ _ _ => rfl
  have g1 : decide ((wide : Int) < 0) = false := by simp
  have g2 : decide ((64 : Int) < (wide : Int)) = false := by simp; omega
  have HW := Lib.hid (fun w' h => width_any a c l w' w.heap.size (by unfold maxLen; omega) hx h)
  have hb0 : Below w.heap.size w (w.alloc (.cells #[.int .i64 (wide : Int)] 3)) := (Below.refl _ _).alloc (Nat.le_refl _) _
  have g3 : decide ((wide : Int) < (B.wd l : Int)) = false := by simp; omega
  have hxw := (B.wd_le l wide).1 ho
  have HE := Lib.hid (fun (W : World) Bk Bw (hb : Below w.heap.size w W) (ho : OwnS w.heap.size Bk W []) (hbw : Boxed W Bw 3 (.int .i64 wide)) => heach_any w.heap.size Bk Bw wide a c l W hxw h hn hcap hcm (hu.below hb) ho hbw)
  have HU := Lib.hid hu
  generalize H.bytes wide l = out at *
  clear hx hu hxw
  generalize B.wd l = d at *
  go_enter Tryz.func85, Tryz.ntmps85
  go_wp2_with fail
  go_quiet ((go_at_call 117; exact Calls.quiet_same (HW.out _ (HU.out.below (below_drewN hb0 _)))))
  obtain ⟨W1, hW1⟩ : ∃ W1, W1 = w.alloc (.cells #[.int .i64 (wide : Int)] 3) := ⟨_, rfl⟩
  have hbox : Boxed W1 w.heap.size 3 (.int .i64 wide) := by rw [hW1]; exact Boxed.new _ _ _
  rw [← hW1] at hb0 ⊢
  clear hW1
  go_wp2_with fail
  have hsz : w.heap.size ≤ (W1.drewN nq).heap.size := (below_drewN hb0 nq).size
  have hb1 : Below w.heap.size w ((W1.drewN nq).alloc (.cells #[.slice none 0 0] 78)) := (below_drewN hb0 nq).alloc hsz _
  have hbox1 : Boxed ((W1.drewN nq).alloc (.cells #[.slice none 0 0] 78)) w.heap.size 3 (.int .i64 wide) := (show Boxed (W1.drewN nq) w.heap.size 3 (.int .i64 wide) from hbox).alloc _
  have ho1 : OwnS w.heap.size (W1.drewN nq).heap.size ((W1.drewN nq).alloc (.cells #[.slice none 0 0] 78)) [] := ⟨hsz, _, heap_alloc_new _ _, World.ownsRow_nil _ _ _ _⟩
  refine (HE.out _ _ _ ?h1 ?h2 ?h3).mono ?_
  case h1 => exact hb1
  case h2 => exact ho1
  case h3 => exact hbox1
  rintro e w2 ⟨rfl, ho2, hb2⟩
  obtain ⟨A, n', c', hcell, hconv⟩ := owns_text ho2
  go_wp2_with fail
  go_ret2
  exact ⟨rfl, hb1.trans hb2⟩

theorem hwrite_any (a : Option Addr) (c : Nat) (l : List Nat) (wide : Int) (w : World) (hcap : l.length ≤ c) (hcm : c ≤ maxLen) (hx : ∀ x ∈ l, x < 18446744073709551616) (hu : Nums w w.heap.size a l) :
    Calls Tryz.prog 85 #[.slice a l.length c, .int .i64 wide] w (PackPost (hwriteR l wide) w) := by
  by_cases h0 : wide < 0 ∨ 64 < wide
  · have e : hwriteR l wide = ([], 3) := by unfold hwriteR packR; rw [if_pos h0]; rfl
    rw [e]; exact hwrite_range a c _ wide w h0
  obtain ⟨n, rfl⟩ : ∃ n : Nat, wide = n := ⟨wide.toNat, by omega⟩
  by_cases h1 : 64 < l.length
  · have e : hwriteR l n = ([], 2) := by unfold hwriteR packR; rw [if_neg h0, if_pos h1]; rfl
    rw [e]; exact hwrite_many a c _ n w (by omega) h1
  by_cases h2 : n < B.wd l
  · have e : hwriteR l n = ([], 8) := by unfold hwriteR packR; rw [if_neg h0, if_neg h1, Int.toNat_natCast, if_pos h2]; rfl
    rw [e]; exact hwrite_over a c l n w (by omega) (by omega) hx hu h2
  · have e : hwriteR l n = (H.bytes n l, 0) := by unfold hwriteR packR; rw [if_neg h0, if_neg h1, Int.toNat_natCast, if_neg h2]; rfl
    rw [e]; exact hwrite_ok a c l n w (by omega) (by omega) hcap hcm hx hu (by omega)
end Go.Proofs.YtmiboibadccceaaGreat
/- The walks of the reference: pow2, fits, WidthOf, bitOf, PackedOf, PackOf. -/
namespace Go.Proofs.YtmiboibadccceaaGreat
open Go.RowKit
set_option linter.unusedVariables false

set_option maxHeartbeats 400000 in
theorem pow2_any (k : Nat) (w : World) (hk : k < 64) :
    Calls Tryz.prog 132 #[.int .i64 k] w fun e w' => e = .returned (.int .u64 ((2 ^ k : Nat) : Int)) ∧ w = w' := by
  go_enter Tryz.func132, Tryz.ntmps132
  go_wp2_with fail
  go_loop [3, 4] (fun n i => ∃ j : Nat, j ≤ k ∧ i = .int .i64 j ∧ n = .int .u64 ((2 ^ j : Nat) : Int)) (fun _ i => k - (intOf i).toNat)
  case atStart => exact ⟨0, by omega, rfl, rfl⟩
  case round =>
    obtain ⟨j, hj, rfl, rfl⟩ := hrel
    by_cases hlt : j < k
    · have hp : 2 ^ j * 2 < 18446744073709551616 := by
        have : 2 ^ (j + 1) ≤ 2 ^ 63 := Nat.pow_le_pow_right (by omega) (by omega)
        rw [Nat.pow_succ] at this; omega
      have HP := Lib.hid (Nat.pow_succ 2 j)
      generalize 2 ^ j = P at *
      go_wp2_with fail
      exact ⟨⟨j + 1, by omega, by go_num, by rw [HP.out]; simp⟩, by simp [intOf]; omega⟩
    · obtain rfl : j = k := by omega
      go_wp2_with fail
      go_ret
      exact ⟨rfl, rfl⟩

set_option maxHeartbeats 400000 in
theorem fits_any (n k : Nat) (w : World) (hn : n < 18446744073709551616) (hk : k ≤ 64) :
    Calls Tryz.prog 86 #[.int .u64 n, .int .i64 k] w fun e w' => e = .returned (.bool (decide (B.bl n ≤ k))) ∧ w = w' := by
  by_cases h : k = 64
  · subst h
    have HT := Lib.hid (show decide (B.bl n ≤ 64) = true by rw [decide_eq_true_iff, B.bl_le]; exact hn)
    go_enter Tryz.func86, Tryz.ntmps86
    go_wp2_with fail
    go_ret
    exact ⟨by rw [HT.out]; rfl, rfl⟩
  · have g1 : decide ((64 : Int) ≤ (k : Int)) = false := by simp; omega
    have HT := Lib.hid (show decide (B.bl n ≤ k) = decide (n < 2 ^ k) from decide_eq_decide.2 (B.bl_le n k))
    have HP := Lib.hid (fun w => pow2_any k w (by omega))
    generalize 2 ^ k = P at *
    go_enter Tryz.func86, Tryz.ntmps86
    go_wp2_with fail
    refine (HP.out _).mono ?_
    rintro e w1 ⟨rfl, rfl⟩
    go_wp2_with fail
    go_ret
    exact ⟨by rw [HT.out]; rfl, rfl⟩

set_option maxHeartbeats 1000000 in
theorem rwidth_some (b off c : Nat) (l : List Nat) (w : World) (hl : l.length ≤ maxLen) (hx : ∀ x ∈ l, x < 18446744073709551616)
    (h1 : ∀ i, i < l.length → w.cell? ⟨b, off + i, none⟩ = some (.int .u64 ((l.getD i 0 : Nat) : Int))) :
    Calls Tryz.prog 39 #[.slice (some ⟨b, off, none⟩) l.length c] w fun e w' => e = .returned (.int .i64 (B.wd l)) ∧ w = w' := by
  unfold maxLen at hl
  have H1 := Lib.hid h1
  have HX := Lib.hid hx
  clear h1 hx
  go_enter Tryz.func39, Tryz.ntmps39
  go_wp2_with fail
  go_loop [3, 4] (fun v i => ∃ k : Nat, k ≤ l.length ∧ i = .int .i64 k ∧ v = .int .i64 (B.wd (l.take k))) (fun _ i => l.length - (intOf i).toNat)
  case atStart => exact ⟨0, by omega, rfl, rfl⟩
  case round =>
    obtain ⟨k, hk, rfl, rfl⟩ := hrel
    by_cases hlt : k < l.length
    · have hcell := H1.out k hlt
      have hxk := HX.out _ (getD_mem l k hlt)
      have HW := Lib.hid (show B.wd (l.take (k + 1)) = max (B.wd (l.take k)) (B.bl (l.getD k 0)) by
        rw [List.take_succ_eq_append_getElem hlt, B.wd_snoc]; simp [List.getD, List.getElem?_eq_getElem hlt])
      have hm : B.wd (l.take k) ≤ 64 := B.wd_64 _ (fun x h => HX.out x (List.mem_of_mem_take h))
      have hbl : B.bl (l.getD k 0) ≤ 64 := (B.bl_le _ 64).2 hxk
      have hft := fun j w h => fits_any (l.getD k 0) j w hxk h
      generalize l.getD k 0 = x at *
      generalize B.wd (l.take k) = m at *
      have HFT := Lib.hid hft
      clear hft
      go_wp2_with fail
      go_loop [3] (fun v => ∃ j : Nat, m ≤ j ∧ j ≤ 64 ∧ (j ≤ m ∨ j ≤ B.bl x) ∧ v = .int .i64 j) (fun v => 65 - (intOf v).toNat)
      case atStart => exact ⟨m, by omega, hm, Or.inl (by omega), rfl⟩
      case round =>
        obtain ⟨j, hj1, hj2, hj3, rfl⟩ := hrel
        by_cases hf : B.bl x ≤ j
        · have hd : decide (B.bl x ≤ j) = true := by simp; omega
          have hft := fun w => HFT.out j w hj2
          rw [hd] at hft
          have HF2 := Lib.hid hft
          clear hft hd
          go_wp2_with fail
          refine (HF2.out _).mono ?_
          rintro e w1 ⟨rfl, rfl⟩
          go_wp2_with fail
          refine ⟨⟨k + 1, by omega, by go_num, ?_⟩, by simp [intOf]; omega⟩
          rw [HW.out]; congr 2; omega
        · have hd : decide (B.bl x ≤ j) = false := by simp; omega
          have hft := fun w => HFT.out j w hj2
          rw [hd] at hft
          have HF2 := Lib.hid hft
          clear hft hd
          go_wp2_with fail
          refine (HF2.out _).mono ?_
          rintro e w1 ⟨rfl, rfl⟩
          go_wp2_with fail
          exact ⟨⟨j + 1, by omega, by omega, Or.inr (by omega), by go_num⟩, by simp [intOf]; omega⟩
    · obtain rfl : k = l.length := by omega
      rw [List.take_length]
      go_wp2_with fail
      go_ret
      exact ⟨rfl, rfl⟩

set_option maxHeartbeats 400000 in
theorem rwidth_nil (a : Option Addr) (c : Nat) (w : World) :
    Calls Tryz.prog 39 #[.slice a 0 c] w fun e w' => e = .returned (.int .i64 0) ∧ w = w' := by
  go_enter Tryz.func39, Tryz.ntmps39
  go_wp2_with fail
  refine wp_loop_rounds 1 ?_
  rw [rounds_succ]
  go_wp2_with fail
  go_ret
  exact ⟨rfl, rfl⟩

theorem rwidth_any (a : Option Addr) (c : Nat) (l : List Nat) (w : World) (B' : Nat) (hl : l.length ≤ maxLen) (hx : ∀ x ∈ l, x < 18446744073709551616) (hu : Nums w B' a l) :
    Calls Tryz.prog 39 #[.slice a l.length c] w fun e w' => e = .returned (.int .i64 (B.wd l)) ∧ w = w' := by
  by_cases hn : l = []
  · subst hn; exact rwidth_nil a c w
  · obtain ⟨b, off, rfl, hb, hc⟩ := hu hn
    exact rwidth_some b off c l w hl hx hc

set_option maxHeartbeats 400000 in
theorem bitOf_any (b off c : Nat) (l : List Nat) (n p : Nat) (w : World) (hl : l.length ≤ 64) (hn : 1 ≤ n) (hn2 : n ≤ 64) (hp : p < l.length * n) (hx : ∀ x ∈ l, x < 18446744073709551616)
    (h1 : ∀ i, i < l.length → w.cell? ⟨b, off + i, none⟩ = some (.int .u64 ((l.getD i 0 : Nat) : Int))) :
    Calls Tryz.prog 87 #[.slice (some ⟨b, off, none⟩) l.length c, .int .i64 n, .int .i64 p] w fun e w' => e = .returned (.int .i64 ((l.getD (p / n) 0 / 2 ^ (p % n) % 2 : Nat) : Int)) ∧ w = w' := by
  have hi : p / n < l.length := by rw [Nat.div_lt_iff_lt_mul (by omega)]; exact hp
  have hcell := h1 _ hi
  have hxk := hx _ (getD_mem l _ hi)
  have hpb : p < 4096 := Nat.lt_of_lt_of_le hp (Nat.mul_le_mul hl hn2)
  have hpI : ((p : Int) / (n : Int)) = ((p / n : Nat) : Int) := by simp
  have hpM : ((p : Int) % (n : Int)) = ((p % n : Nat) : Int) := by simp
  have hq : p % n < n := Nat.mod_lt _ (by omega)
  clear h1 hx hp
  generalize p / n = q at *
  generalize l.getD q 0 = x at *
  generalize p % n = r at *
  generalize hres : x / 2 ^ r % 2 = res
  have HRES := Lib.hid hres
  clear hres
  go_enter Tryz.func87, Tryz.ntmps87
  go_wp2_with fail
  go_loop [7, 8] (fun v i => ∃ j : Nat, j ≤ r ∧ i = .int .i64 j ∧ v = .int .u64 ((x / 2 ^ j : Nat) : Int)) (fun _ i => r - (intOf i).toNat)
  case atStart => exact ⟨0, by omega, rfl, by simp⟩
  case round =>
    obtain ⟨j, hj, rfl, rfl⟩ := hrel
    have hle : x / 2 ^ j ≤ x := Nat.div_le_self _ _
    by_cases hlt : j < r
    · have HD := Lib.hid (show x / 2 ^ (j + 1) = x / 2 ^ j / 2 by rw [Nat.pow_succ, Nat.div_div_eq_div_mul])
      generalize x / 2 ^ j = y at *
      go_wp2_with fail
      exact ⟨⟨j + 1, by omega, by go_num, by rw [HD.out]; simp⟩, by simp [intOf]; omega⟩
    · obtain rfl : j = r := by omega
      generalize x / 2 ^ j = y at *
      go_wp2_with fail
      go_ret
      refine ⟨?_, rfl⟩
      show Ending.returned (Value.int .i64 _) = _
      congr 2
      rw [← HRES.out]; simp

theorem le_snoc (k v : Nat) : B.le (k + 1) v = B.le k v ++ [UInt8.ofNat (v / 256 ^ k)] := by
  induction k generalizing v with
  | zero => simp [B.le]
  | succ k ih =>
    rw [B.le, ih]
    conv => rhs; rw [B.le]
    rw [List.cons_append, Nat.div_div_eq_div_mul, Nat.pow_succ, Nat.mul_comm 256]

theorem bits_zero (X : Nat) : X % 2 ^ 0 = 0 := by simp [Nat.mod_one]
theorem byte_of (X q : Nat) : X / 2 ^ (8 * q + 8 - 8) % 2 ^ 8 = X / 256 ^ q % 256 := by rw [Nat.add_sub_cancel, ← B.two8]

theorem bits_step (X q t : Nat) (ht : t < 8) : X / 2 ^ (8 * q + 8 - (t + 1)) % 2 ^ (t + 1) = 2 * (X / 2 ^ (8 * q + 8 - t) % 2 ^ t) + X / 2 ^ (8 * q + (7 - t)) % 2 := by
  have e1 : 8 * q + 8 - (t + 1) = 8 * q + (7 - t) := by omega
  have e2 : 8 * q + 8 - t = 8 * q + (7 - t) + 1 := by omega
  rw [e1, e2, show 2 ^ (8 * q + (7 - t) + 1) = 2 ^ (8 * q + (7 - t)) * 2 from Nat.pow_succ 2 _, ← Nat.div_div_eq_div_mul]
  generalize X / 2 ^ (8 * q + (7 - t)) = Y
  rw [Nat.pow_succ, Nat.mul_comm (2 ^ t), Nat.mod_mul]; omega

set_option maxHeartbeats 4000000 in
set_option maxRecDepth 100000 in
theorem packed_some (b off c : Nat) (l : List Nat) (n : Nat) (w : World) (hl : l.length ≤ 64) (hn : 1 ≤ n) (hn2 : n ≤ 64) (hf : ∀ x ∈ l, x < 2 ^ n) (hx : ∀ x ∈ l, x < 18446744073709551616) (hb : b < w.heap.size)
    (h1 : ∀ i, i < l.length → w.cell? ⟨b, off + i, none⟩ = some (.int .u64 ((l.getD i 0 : Nat) : Int))) :
    Calls Tryz.prog 41 #[.slice (some ⟨b, off, none⟩) l.length c, .int .i64 n] w (TextPost (B.le (B.sz (l.length * n)) (B.pk n l)) w) := by
  have hlt := B.pk_lt n l hf
  rw [Nat.mul_comm] at hlt
  have hbit := fun p hp => B.pk_bit n l hf p (by omega) hp
  generalize B.pk n l = X at *
  have hmul := Nat.mul_le_mul hl hn2
  have hmulI : ((l.length : Int) * (n : Int)) = ((l.length * n : Nat) : Int) := by simp
  have hbo := fun p w hp h1 => bitOf_any b off c l n p w hl hn hn2 hp hx h1
  generalize hM : l.length * n = M at *
  have HLT := Lib.hid hlt
  have HBIT := Lib.hid hbit
  have HBO := Lib.hid hbo
  have H1 := Lib.hid h1
  clear hlt hbit hbo h1 hx hf hM
  go_enter Tryz.func41, Tryz.ntmps41
  go_wp2_with fail
  go_loopw [5, 7, 8, 9] (fun s i _ _ wr => ∃ q : Nat, q ≤ B.sz M ∧ i = .int .i64 ((8 * q : Nat) : Int) ∧ s = .string (str (B.le q X)) ∧ Below w.heap.size w wr) (fun _ i _ _ _ => M + 8 - (intOf i).toNat)
  case atStart => exact ⟨0, by omega, rfl, rfl, Below.refl _ _⟩
  case round =>
    obtain ⟨q, hq, rfl, rfl, hbw⟩ := hrel
    have hsz : B.sz M ≤ 512 ∧ 8 * B.sz M < M + 8 ∧ M ≤ 8 * B.sz M := by unfold B.sz; omega
    by_cases hlt : 8 * q < M
    · have hts : (str (B.le q X)).size ≤ 512 := by rw [str_size, B.le_length]; omega
      obtain ⟨t, ht⟩ : ∃ t, t = str (B.le q X) := ⟨_, rfl⟩
      rw [← ht] at hts ⊢
      have HT := Lib.hid ht
      clear ht
      obtain ⟨f, hf⟩ : ∃ f, f = 8 * q := ⟨_, rfl⟩
      rw [← hf] at hlt ⊢
      have HF := Lib.hid hf
      have hfb : f ≤ 4096 := by omega
      clear hf
      go_wp2_with fail
      go_loop [8, 9] (fun v k => ∃ s : Nat, s ≤ 8 ∧ k = .int .i64 (7 - (s : Int)) ∧ v = .int .i64 ((X / 2 ^ (8 * q + 8 - s) % 2 ^ s : Nat) : Int)) (fun _ k => (intOf k + 1).toNat)
      case atStart => exact ⟨0, by omega, rfl, by rw [bits_zero]; rfl⟩
      case round =>
        obtain ⟨s, hs, rfl, rfl⟩ := hrel
        by_cases hs8 : s < 8
        · have hst := bits_step X q s hs8
          have hvb : X / 2 ^ (8 * q + 8 - s) % 2 ^ s < 256 := Nat.lt_of_lt_of_le (Nat.mod_lt _ (B.pos2 s)) (by have : 2 ^ s ≤ 2 ^ 8 := Nat.pow_le_pow_right (by omega) hs; omega)
          have hkI : ((f : Int) + (7 - (s : Int))) = ((f + (7 - s) : Nat) : Int) := by omega
          rw [show 8 * q + (7 - s) = f + (7 - s) by rw [HF.out]] at hst
          generalize X / 2 ^ (8 * q + 8 - s) % 2 ^ s = v at *
          have HST := Lib.hid hst
          clear hst
          generalize hp : f + (7 - s) = p at *
          have hpb : p ≤ 8192 := by omega
          clear hp
          by_cases hpM : p < M
          · have hbo := fun w h => HBO.out p w hpM h
            rw [← HBIT.out p hpM] at hbo
            have hb2 : X / 2 ^ p % 2 < 2 := by omega
            generalize X / 2 ^ p % 2 = bt at *
            have hcl := fun i hi => (hbw.cell (p := ⟨b, off + i, none⟩) hb).trans (H1.out i hi)
            have HB2 := Lib.hid (hbo wr hcl)
            clear hbo hcl
            go_wp2_with fail
            refine (HB2.out).mono ?_
            rintro e w1 ⟨rfl, rfl⟩
            go_wp2_with fail
            refine ⟨⟨s + 1, by omega, by congr 1; omega, ?_⟩, by simp [intOf]; omega⟩
            rw [HST.out]; congr 1; omega
          · have HZ := Lib.hid (show X / 2 ^ p % 2 = 0 by
              rw [Nat.div_eq_of_lt (Nat.lt_of_lt_of_le HLT.out (Nat.pow_le_pow_right (by omega) (by omega)))])
            go_wp2_with fail
            refine ⟨⟨s + 1, by omega, by congr 1; omega, ?_⟩, by simp [intOf]; omega⟩
            rw [HST.out, HZ.out]; congr 1; omega
        · obtain rfl : s = 8 := by omega
          have hbyte := byte_of X q
          generalize X / 2 ^ (8 * q + 8 - 8) % 2 ^ 8 = y at *
          have hy : y < 256 := by omega
          have HSN := Lib.hid (show B.le (q + 1) X = B.le q X ++ [UInt8.ofNat y] by
            rw [le_snoc]; congr 2; apply UInt8.toNat_inj.mp; simp only [UInt8.toNat_ofNat']; rw [hbyte]; omega)
          clear hbyte
          have hs1 : (str [UInt8.ofNat y]).size = 1 := rfl
          go_wp2_with fail
          refine (one_any y _ (by omega)).mono ?_
          rintro e w1 ⟨rfl, hb1⟩
          go_wp2_with fail
          refine ⟨⟨q + 1, by have := HF.out; omega, ?_, ?_, below_then hbw hb1⟩, by simp [intOf]; omega⟩
          · rw [HF.out]; congr 1 <;> omega
          · rw [HT.out, str_append, HSN.out]
    · obtain rfl : q = B.sz M := by unfold B.sz at hq ⊢; omega
      go_wp2_with fail
      go_ret
      exact ⟨rfl, hbw⟩
end Go.Proofs.YtmiboibadccceaaGreat
/- The walk of hypostyleref.PackedOf for long lists. -/
namespace Go.Proofs.YtmiboibadccceaaGreat
open Go.RowKit
set_option linter.unusedVariables false

set_option maxHeartbeats 400000 in
theorem bitOfL_any (b off c : Nat) (l : List Nat) (n p : Nat) (w : World) (hl : l.length ≤ 1048640) (hn : 1 ≤ n) (hn2 : n ≤ 64) (hp : p < l.length * n) (hx : ∀ x ∈ l, x < 18446744073709551616)
    (h1 : ∀ i, i < l.length → w.cell? ⟨b, off + i, none⟩ = some (.int .u64 ((l.getD i 0 : Nat) : Int))) :
    Calls Tryz.prog 87 #[.slice (some ⟨b, off, none⟩) l.length c, .int .i64 n, .int .i64 p] w fun e w' => e = .returned (.int .i64 ((l.getD (p / n) 0 / 2 ^ (p % n) % 2 : Nat) : Int)) ∧ w = w' := by
  have hi : p / n < l.length := by rw [Nat.div_lt_iff_lt_mul (by omega)]; exact hp
  have hcell := h1 _ hi
  have hxk := hx _ (getD_mem l _ hi)
  have hpb : p < 67112960 := Nat.lt_of_lt_of_le hp (Nat.mul_le_mul hl hn2)
  have hpI : ((p : Int) / (n : Int)) = ((p / n : Nat) : Int) := by simp
  have hpM : ((p : Int) % (n : Int)) = ((p % n : Nat) : Int) := by simp
  have hq : p % n < n := Nat.mod_lt _ (by omega)
  clear h1 hx hp
  generalize p / n = q at *
  generalize l.getD q 0 = x at *
  generalize p % n = r at *
  generalize hres : x / 2 ^ r % 2 = res
  have HRES := Lib.hid hres
  clear hres
  go_enter Tryz.func87, Tryz.ntmps87
  go_wp2_with fail
  go_loop [7, 8] (fun v i => ∃ j : Nat, j ≤ r ∧ i = .int .i64 j ∧ v = .int .u64 ((x / 2 ^ j : Nat) : Int)) (fun _ i => r - (intOf i).toNat)
  case atStart => exact ⟨0, by omega, rfl, by simp⟩
  case round =>
    obtain ⟨j, hj, rfl, rfl⟩ := hrel
    have hle : x / 2 ^ j ≤ x := Nat.div_le_self _ _
    by_cases hlt : j < r
    · have HD := Lib.hid (show x / 2 ^ (j + 1) = x / 2 ^ j / 2 by rw [Nat.pow_succ, Nat.div_div_eq_div_mul])
      generalize x / 2 ^ j = y at *
      go_wp2_with fail
      exact ⟨⟨j + 1, by omega, by go_num, by rw [HD.out]; simp⟩, by simp [intOf]; omega⟩
    · obtain rfl : j = r := by omega
      generalize x / 2 ^ j = y at *
      go_wp2_with fail
      go_ret
      refine ⟨?_, rfl⟩
      show Ending.returned (Value.int .i64 _) = _
      congr 2
      rw [← HRES.out]; simp


set_option maxHeartbeats 4000000 in
set_option maxRecDepth 100000 in
theorem packedL_some (b off c : Nat) (l : List Nat) (n : Nat) (w : World) (hl : l.length ≤ 1048640) (hn : 1 ≤ n) (hn2 : n ≤ 64) (hf : ∀ x ∈ l, x < 2 ^ n) (hx : ∀ x ∈ l, x < 18446744073709551616) (hb : b < w.heap.size)
    (h1 : ∀ i, i < l.length → w.cell? ⟨b, off + i, none⟩ = some (.int .u64 ((l.getD i 0 : Nat) : Int))) :
    Calls Tryz.prog 41 #[.slice (some ⟨b, off, none⟩) l.length c, .int .i64 n] w (TextPost (B.le (B.sz (l.length * n)) (B.pk n l)) w) := by
  have hlt := B.pk_lt n l hf
  rw [Nat.mul_comm] at hlt
  have hbit := fun p hp => B.pk_bit n l hf p (by omega) hp
  generalize B.pk n l = X at *
  have hmul := Nat.mul_le_mul hl hn2
  have hmulI : ((l.length : Int) * (n : Int)) = ((l.length * n : Nat) : Int) := by simp
  have hbo := fun p w hp h1 => bitOfL_any b off c l n p w hl hn hn2 hp hx h1
  generalize hM : l.length * n = M at *
  have HLT := Lib.hid hlt
  have HBIT := Lib.hid hbit
  have HBO := Lib.hid hbo
  have H1 := Lib.hid h1
  clear hlt hbit hbo h1 hx hf hM
  go_enter Tryz.func41, Tryz.ntmps41
  go_wp2_with fail
  go_loopw [5, 7, 8, 9] (fun s i _ _ wr => ∃ q : Nat, q ≤ B.sz M ∧ i = .int .i64 ((8 * q : Nat) : Int) ∧ s = .string (str (B.le q X)) ∧ Below w.heap.size w wr) (fun _ i _ _ _ => M + 8 - (intOf i).toNat)
  case atStart => exact ⟨0, by omega, rfl, rfl, Below.refl _ _⟩
  case round =>
    obtain ⟨q, hq, rfl, rfl, hbw⟩ := hrel
    have hsz : B.sz M ≤ 8389121 ∧ 8 * B.sz M < M + 8 ∧ M ≤ 8 * B.sz M := by unfold B.sz; omega
    by_cases hlt : 8 * q < M
    · have hts : (str (B.le q X)).size ≤ 8389121 := by rw [str_size, B.le_length]; omega
      obtain ⟨t, ht⟩ : ∃ t, t = str (B.le q X) := ⟨_, rfl⟩
      rw [← ht] at hts ⊢
      have HT := Lib.hid ht
      clear ht
      obtain ⟨f, hf⟩ : ∃ f, f = 8 * q := ⟨_, rfl⟩
      rw [← hf] at hlt ⊢
      have HF := Lib.hid hf
      have hfb : f ≤ 67112968 := by omega
      clear hf
      go_wp2_with fail
      go_loop [8, 9] (fun v k => ∃ s : Nat, s ≤ 8 ∧ k = .int .i64 (7 - (s : Int)) ∧ v = .int .i64 ((X / 2 ^ (8 * q + 8 - s) % 2 ^ s : Nat) : Int)) (fun _ k => (intOf k + 1).toNat)
      case atStart => exact ⟨0, by omega, rfl, by rw [bits_zero]; rfl⟩
      case round =>
        obtain ⟨s, hs, rfl, rfl⟩ := hrel
        by_cases hs8 : s < 8
        · have hst := bits_step X q s hs8
          have hvb : X / 2 ^ (8 * q + 8 - s) % 2 ^ s < 256 := Nat.lt_of_lt_of_le (Nat.mod_lt _ (B.pos2 s)) (by have : 2 ^ s ≤ 2 ^ 8 := Nat.pow_le_pow_right (by omega) hs; omega)
          have hkI : ((f : Int) + (7 - (s : Int))) = ((f + (7 - s) : Nat) : Int) := by omega
          rw [show 8 * q + (7 - s) = f + (7 - s) by rw [HF.out]] at hst
          generalize X / 2 ^ (8 * q + 8 - s) % 2 ^ s = v at *
          have HST := Lib.hid hst
          clear hst
          generalize hp : f + (7 - s) = p at *
          have hpb : p ≤ 67113000 := by omega
          clear hp
          by_cases hpM : p < M
          · have hbo := fun w h => HBO.out p w hpM h
            rw [← HBIT.out p hpM] at hbo
            have hb2 : X / 2 ^ p % 2 < 2 := by omega
            generalize X / 2 ^ p % 2 = bt at *
            have hcl := fun i hi => (hbw.cell (p := ⟨b, off + i, none⟩) hb).trans (H1.out i hi)
            have HB2 := Lib.hid (hbo wr hcl)
            clear hbo hcl
            go_wp2_with fail
            refine (HB2.out).mono ?_
            rintro e w1 ⟨rfl, rfl⟩
            go_wp2_with fail
            refine ⟨⟨s + 1, by omega, by congr 1; omega, ?_⟩, by simp [intOf]; omega⟩
            rw [HST.out]; congr 1; omega
          · have HZ := Lib.hid (show X / 2 ^ p % 2 = 0 by
              rw [Nat.div_eq_of_lt (Nat.lt_of_lt_of_le HLT.out (Nat.pow_le_pow_right (by omega) (by omega)))])
            go_wp2_with fail
            refine ⟨⟨s + 1, by omega, by congr 1; omega, ?_⟩, by simp [intOf]; omega⟩
            rw [HST.out, HZ.out]; congr 1; omega
        · obtain rfl : s = 8 := by omega
          have hbyte := byte_of X q
          generalize X / 2 ^ (8 * q + 8 - 8) % 2 ^ 8 = y at *
          have hy : y < 256 := by omega
          have HSN := Lib.hid (show B.le (q + 1) X = B.le q X ++ [UInt8.ofNat y] by
            rw [le_snoc]; congr 2; apply UInt8.toNat_inj.mp; simp only [UInt8.toNat_ofNat']; rw [hbyte]; omega)
          clear hbyte
          have hs1 : (str [UInt8.ofNat y]).size = 1 := rfl
          go_wp2_with fail
          refine (one_any y _ (by omega)).mono ?_
          rintro e w1 ⟨rfl, hb1⟩
          go_wp2_with fail
          refine ⟨⟨q + 1, by have := HF.out; omega, ?_, ?_, below_then hbw hb1⟩, by simp [intOf]; omega⟩
          · rw [HF.out]; congr 1 <;> omega
          · rw [HT.out, str_append, HSN.out]
    · obtain rfl : q = B.sz M := by unfold B.sz at hq ⊢; omega
      go_wp2_with fail
      go_ret
      exact ⟨rfl, hbw⟩

set_option maxHeartbeats 400000 in
theorem packedL_zero (a : Option Addr) (c k n : Nat) (w : World) (hk : k ≤ 1048640) (hn : n ≤ 64) (h : k * n = 0) :
    Calls Tryz.prog 41 #[.slice a k c, .int .i64 n] w (TextPost [] w) := by
  have hmulI : ((k : Int) * (n : Int)) = ((k * n : Nat) : Int) := by simp
  rw [h] at hmulI
  clear h
  go_enter Tryz.func41, Tryz.ntmps41
  go_wp2_with fail
  refine wp_loop_rounds 1 ?_
  rw [rounds_succ]
  go_wp2_with fail
  go_ret
  exact ⟨rfl, Below.refl _ _⟩


theorem packedL_any (a : Option Addr) (c : Nat) (l : List Nat) (n : Nat) (w : World) (hl : l.length ≤ 1048640) (hn2 : n ≤ 64) (hf : ∀ x ∈ l, x < 2 ^ n) (hx : ∀ x ∈ l, x < 18446744073709551616) (hu : Nums w w.heap.size a l) :
    Calls Tryz.prog 41 #[.slice a l.length c, .int .i64 n] w (TextPost (B.le (B.sz (l.length * n)) (B.pk n l)) w) := by
  by_cases h : l.length * n = 0
  · rw [h]; exact packedL_zero a c _ n w hl hn2 h
  · have hn : 1 ≤ n := by
      rcases Nat.eq_zero_or_pos n with h0 | h0
      · rw [h0] at h; simp at h
      · exact h0
    have hne : l ≠ [] := by intro e; rw [e] at h; simp at h
    obtain ⟨b, off, rfl, hb, hc⟩ := hu hne
    exact packedL_some b off c l n w hl hn hn2 hf hx hb hc

end Go.Proofs.YtmiboibadccceaaGreat
/- The walk of hypostyleref.sameFrom. -/
namespace Go.Proofs.YtmiboibadccceaaGreat
open Go.RowKit
set_option linter.unusedVariables false

set_option maxHeartbeats 1000000 in
theorem sameFrom_any (b off c : Nat) (l : List Nat) (p : Nat) (w : World) (hl : l.length ≤ 1048576) (hp : p < l.length)
    (hc : ∀ i, i < l.length → w.cell? ⟨b, off + i, none⟩ = some (.int .u64 ((l.getD i 0 : Nat) : Int))) :
    Calls Tryz.prog 88 #[.slice (some ⟨b, off, none⟩) l.length c, .int .i64 p] w fun e w' => e = .returned (.int .i64 (H.row (l.drop p))) ∧ Below w.heap.size w w' := by
  have hne : l.drop p ≠ [] := fun e => by have := congrArg List.length e; rw [List.length_drop] at this; simp at this; omega
  have hld : (l.drop p).length = l.length - p := List.length_drop
  have hle := H.row_le (l.drop p)
  rw [hld] at hle
  have hhd : (l.drop p).headD 0 = l.getD p 0 := by
    rw [List.drop_eq_getElem_cons hp]; simp [List.getD, List.getElem?_eq_getElem hp]
  have hget : ∀ k, (l.drop p).getD k 0 = l.getD (p + k) 0 := fun k => by simp [List.getD, List.getElem?_drop]
  have HS := Lib.hid (fun k hk hl => H.rowF_step ((l.drop p).headD 0) (l.drop p) k hk hl)
  have ch := hc p hp
  rw [← hhd] at ch
  have hrow : H.row (l.drop p) = H.rowF ((l.drop p).headD 0) (l.drop p) := rfl
  rw [← hrow] at HS
  have HC := Lib.hid hc
  have HG := Lib.hid hget
  have HLD := Lib.hid hld
  generalize H.row (l.drop p) = r at *
  generalize (l.drop p).headD 0 = x at *
  clear hc hhd hrow hget hld hne
  have hpI : (p : Int) < (l.length : Int) := by omega
  go_enter Tryz.func88, Tryz.ntmps88
  go_wp2_with fail
  go_loopw [5] (fun i wr => ∃ k : Nat, k ≤ r ∧ i = .int .i64 k ∧ (∃ m, wr = w.drewN m)) (fun i _ => l.length - (intOf i).toNat)
  case atStart => exact ⟨0, by omega, rfl, 0, rfl⟩
  case round =>
    obtain ⟨k, hk, rfl, m, rfl⟩ := hrel
    have hsum : ((p : Int) + (k : Int)) = ((p + k : Nat) : Int) := by omega
    have hwr : IntKind.i64.wrap ((p + k : Nat) : Int) = ((p + k : Nat) : Int) := by rw [IntKind.wrap_i64]; omega
    by_cases hlt : p + k < l.length
    · have ck := HC.out (p + k) hlt
      have HK := Lib.hid (HS.out k hk (by rw [HLD.out]; omega))
      have hg := HG.out k
      rw [hg] at HK
      have hI : ((p + k : Nat) : Int) < (l.length : Int) := by omega
      have hkn := (HK.out).2
      have hky := (HK.out).1
      generalize l.getD (p + k) 0 = y at *
      obtain ⟨q, hq⟩ : ∃ q, q = p + k := ⟨_, rfl⟩
      rw [← hq] at hsum hwr ck hI hlt
      have hq0 : (0 : Int) ≤ (q : Int) := by omega
      clear hg HK hq
      by_cases hyx : y = x
      · have hk1 := hky hyx
        subst hyx
        clear hky hkn
        go_wp2_with fail
        go_quiet (fail)
        go_wp2_with fail
        exact ⟨⟨k + 1, hk1, by go_num, ⟨_, rfl⟩⟩, by simp [intOf]; omega⟩
      · have g1 : ((y : Int) == (x : Int)) = false := by rw [beq_eq_false_iff_ne]; omega
        obtain rfl : r = k := hkn hyx
        clear hky hkn
        go_wp2_with fail
        go_quiet (fail)
        go_wp2_with fail
        go_ret
        exact ⟨rfl, below_drewN (below_drewN (Below.refl _ _) _) _⟩
    · obtain rfl : k = r := by omega
      obtain ⟨q, hq⟩ : ∃ q, q = p + k := ⟨_, rfl⟩
      rw [← hq] at hsum hwr hlt
      have g1 : decide ((q : Int) < (l.length : Int)) = false := by simp; omega
      clear hq
      go_wp2_with fail
      go_quiet (fail)
      go_wp2_with fail
      go_ret
      exact ⟨rfl, below_drewN (below_drewN (Below.refl _ _) _) _⟩
end Go.Proofs.YtmiboibadccceaaGreat
/- Plain mathematics of runs and blocks: block by block. -/
namespace Go.Proofs.YtmiboibadccceaaGreat.H
set_option linter.unusedVariables false

theorem bytes_len (w : Nat) : ∀ l : List Nat, (bytes w l).length ≤ (18 + w) * l.length := by
  refine parts_ind (fun l => (bytes w l).length ≤ (18 + w) * l.length) ?_ ?_ ?_
  · simp [bytes_nil]
  · intro l h0 h8 ih
    have hr := row_le l
    rw [bytes_run w l h0 h8, List.length_append]
    simp only [Part.bytes, List.length_append, V.enc_length, pkd_length, List.length_cons, List.length_nil, Nat.zero_add, Nat.one_mul]
    rw [List.length_drop] at ih
    have hv := V.sz_le (2 * row l)
    have hs : B.sz w ≤ w := by unfold B.sz; omega
    have hm : (18 + w) * (l.length - row l) + (18 + w) * row l = (18 + w) * l.length := by rw [← Nat.mul_add]; congr 1; omega
    have h8w : (18 + w) * 8 ≤ (18 + w) * row l := Nat.mul_le_mul_left _ h8
    omega
  · intro l h0 h8 ih
    have hr := loose_le l
    have hp := loose_pos l (fun e => e.elim h0 h8)
    rw [bytes_blk w l h0 h8, List.length_append]
    simp only [Part.bytes, List.length_append, V.enc_length, pkd_length, pad_length, List.length_take, Nat.min_eq_left hr]
    rw [List.length_drop] at ih
    have hv := V.sz_le (2 * nb (loose l) + 1)
    have hsz : 8 * B.sz (nb (loose l) * 8 * w) = nb (loose l) * 8 * w := by
      rw [Nat.mul_assoc, Nat.mul_left_comm]; unfold B.sz; omega
    have hnb : nb (loose l) ≤ loose l := by unfold nb; omega
    have e1 : nb (loose l) * 8 * w = 8 * (nb (loose l) * w) := by rw [Nat.mul_comm (nb (loose l)) 8, Nat.mul_assoc]
    have e2 : nb (loose l) * w ≤ w * loose l := by rw [Nat.mul_comm]; exact Nat.mul_le_mul_left _ hnb
    have hm : (18 + w) * (l.length - loose l) + (18 + w) * loose l = (18 + w) * l.length := by rw [← Nat.mul_add]; congr 1; omega
    have hx : (18 + w) * loose l = 18 * loose l + w * loose l := Nat.add_mul _ _ _
    omega

def eightK (l : List Nat) (q k : Nat) : List Nat := (List.range k).map fun i => l.getD (q + i) 0
theorem eightK_length (l : List Nat) (q k : Nat) : (eightK l q k).length = k := by simp [eightK]
theorem eightK_succ (l : List Nat) (q k : Nat) : eightK l q (k + 1) = eightK l q k ++ [l.getD (q + k) 0] := by simp [eightK, List.range_succ]
theorem eightK_eq (l : List Nat) (q : Nat) : (l.drop q).take 8 ++ List.replicate (8 - (l.drop q).length) 0 = eightK l q 8 := by
  apply List.ext_getElem?
  intro i
  by_cases h8 : i < 8
  · have e : (eightK l q 8)[i]? = some (l.getD (q + i) 0) := by simp [eightK, h8]
    rw [e]
    by_cases hl : i < (l.drop q).length
    · rw [List.getElem?_append_left (by rw [List.length_take]; omega), List.getElem?_take_of_lt h8, List.getElem?_drop]
      rw [List.length_drop] at hl
      simp [List.getD, List.getElem?_eq_getElem (show q + i < l.length by omega)]
    · rw [List.getElem?_append_right (by rw [List.length_take]; omega), List.getElem?_replicate]
      rw [if_pos (by rw [List.length_take]; omega)]
      rw [List.length_drop] at hl
      simp [List.getD, List.getElem?_eq_none (show l.length ≤ q + i by omega)]
  · rw [List.getElem?_eq_none (by rw [List.length_append, List.length_take, List.length_replicate]; omega), List.getElem?_eq_none (by rw [eightK_length]; omega)]

theorem pad_append (A B : List Nat) (h : A.length = 8) : pad (A ++ B) = A ++ pad B := by
  unfold pad
  rw [List.append_assoc, List.length_append, h]
  congr 3
  unfold nb; omega
theorem pad_step (l : List Nat) (q : Nat) (h : ¬ (l.drop q = [] ∨ 8 ≤ row (l.drop q))) :
    pad ((l.drop q).take (loose (l.drop q))) = eightK l q 8 ++ pad ((l.drop (q + 8)).take (loose (l.drop (q + 8)))) ∧
    l.drop (q + loose (l.drop q)) = l.drop (q + 8 + loose (l.drop (q + 8))) := by
  have hg := loose_go (l.drop q) h
  have hdd : (l.drop q).drop 8 = l.drop (q + 8) := by rw [List.drop_drop]
  have hp : 1 ≤ (l.drop q).length := List.length_pos_iff.2 (fun e => h (Or.inl e))
  rw [hdd] at hg
  have he := eightK_eq l q
  by_cases h8 : 8 ≤ (l.drop q).length
  · rw [Nat.min_eq_left h8] at hg
    rw [show 8 - (l.drop q).length = 0 by omega, List.replicate_zero, List.append_nil] at he
    rw [hg]
    constructor
    · rw [List.take_add, hdd, pad_append _ _ (by rw [List.length_take]; omega), he]
    · rw [Nat.add_assoc]
  · have hnil : l.drop (q + 8) = [] := List.drop_eq_nil_of_le (by rw [List.length_drop] at h8; omega)
    rw [hnil, loose_stop [] (Or.inl rfl)] at hg ⊢
    rw [Nat.min_eq_right (by omega), Nat.add_zero] at hg
    rw [hg]
    constructor
    · rw [List.take_length, List.take_nil]
      have e1 : pad [] = [] := rfl
      rw [e1, List.append_nil, ← he, List.take_of_length_le (by omega)]
      unfold pad
      congr 2
      unfold nb; omega
    · rw [Nat.add_zero, hnil, List.length_drop]
      exact List.drop_eq_nil_of_le (by omega)
theorem pad_stop (l : List Nat) (h : l = [] ∨ 8 ≤ row l) : pad (l.take (loose l)) = [] ∧ loose l = 0 := by
  rw [loose_stop l h, List.take_zero]; exact ⟨rfl, rfl⟩
end Go.Proofs.YtmiboibadccceaaGreat.H
/- The walks of the reference: bigBytes, VaryBytes, varyLen, VaryOf. -/
namespace Go.Proofs.YtmiboibadccceaaGreat
open Go.RowKit
set_option linter.unusedVariables false

set_option maxHeartbeats 400000 in
theorem big_any (n k : Nat) (w : World) (hn : n < 18446744073709551616) (hk : k ≤ 9) :
    Calls Tryz.prog 96 #[.int .u64 n, .int .i64 k] w (TextPost (V.be k n) w) := by
  go_enter Tryz.func96, Tryz.ntmps96
  go_wp2_with fail
  go_loopw [0, 5, 6] (fun m t i wr => ∃ j : Nat, j ≤ k ∧ m = .int .u64 (n / 256 ^ j : Nat) ∧ t = .string (str (V.be j n)) ∧ i = .int .i64 j ∧ Below w.heap.size w wr) (fun _ _ i _ => k - (intOf i).toNat)
  case atStart => exact ⟨0, by omega, by simp, rfl, rfl, Below.refl _ _⟩
  case round =>
    obtain ⟨j, hj, rfl, rfl, rfl, hb⟩ := hrel
    by_cases hlt : j < k
    · have hle : n / 256 ^ j ≤ n := Nat.div_le_self _ _
      have HB := Lib.hid (show V.be (j + 1) n = UInt8.ofNat (n / 256 ^ j % 256) :: V.be j n by
        rw [V.be]; congr 1; apply UInt8.toNat_inj.mp; simp)
      have HD := Lib.hid (show n / 256 ^ (j + 1) = n / 256 ^ j / 256 by rw [Nat.pow_succ, Nat.div_div_eq_div_mul])
      have hsz : (str (V.be j n)).size ≤ 9 := by rw [str_size, V.be_length]; omega
      obtain ⟨t, ht⟩ : ∃ t, t = str (V.be j n) := ⟨_, rfl⟩
      rw [← ht] at hsz ⊢
      have HT := Lib.hid ht
      clear ht
      generalize n / 256 ^ j = q at *
      have h1 : (str [UInt8.ofNat (q % 256)]).size = 1 := rfl
      go_wp2_with fail
      refine (one_eq _ (q % 256) _ (by simp) (by omega)).mono ?_
      rintro e w1 ⟨rfl, hb1⟩
      go_wp2_with fail
      refine ⟨⟨j + 1, by omega, by rw [HD.out]; simp, ?_, by go_num, below_then hb hb1⟩, by simp [intOf]; omega⟩
      rw [HT.out, str_append, HB.out]; rfl
    · obtain rfl : j = k := by omega
      go_wp2_with fail
      go_ret
      exact ⟨rfl, hb⟩

theorem be_tail (k v c : Nat) : V.be k (v + c * 256 ^ k) = V.be k v := by
  apply V.be_congr; rw [Nat.add_mul_mod_self_right]

theorem enc_by (n k : Nat) (hk : V.sz n = k + 1) (hn : n < 18446744073709551616) :
    V.enc n = UInt8.ofNat (n / 256 ^ k % 256 + V.ld (k + 1)) :: V.be k n := by
  unfold V.enc
  rw [hk, V.be, Nat.add_sub_cancel, be_tail]
  congr 1
  apply UInt8.toNat_inj.mp
  rw [Nat.add_mul_div_right _ _ (Nat.pow_pos (by omega))]
  simp only [UInt8.toNat_ofNat']
  omega

theorem ld_step (k : Nat) (h1 : 1 ≤ k) (h8 : k ≤ 8) : V.ld (k + 1) = V.ld k / 2 + 128 := by
  have : k = 1 ∨ k = 2 ∨ k = 3 ∨ k = 4 ∨ k = 5 ∨ k = 6 ∨ k = 7 ∨ k = 8 := by omega
  rcases this with rfl | rfl | rfl | rfl | rfl | rfl | rfl | rfl <;> rfl

theorem be_text (j n : Nat) : ∃ t : ByteArray, t = str (V.be (j + 1) n) ∧ t.size = j + 1 ∧ (∀ h : 0 < t.size, t[0].toNat = n / 256 ^ j % 256) ∧ t.extract 1 t.size = str (V.be j n) := by
  refine ⟨_, rfl, by rw [str_size, V.be_length], ?_, ?_⟩
  · intro h
    show (UInt8.ofNat (n / 256 ^ j)).toNat = _
    simp
  · apply ByteArray.ext
    apply Array.toList_inj.mp
    rw [cut_data, str_data, str_data, V.be, List.drop_succ_cons, List.drop_zero]

def LimRel (n k : Nat) : Prop := k = 1 ∨ 128 ^ (k - 1) ≤ n

theorem lim_sz (n k : Nat) (h1 : 1 ≤ k) (h8 : k ≤ 8) (hr : LimRel n k) (h : n < 128 ^ k) : V.sz n = k := by
  have hs := V.sz_spec n
  unfold LimRel at hr
  have : k = 1 ∨ k = 2 ∨ k = 3 ∨ k = 4 ∨ k = 5 ∨ k = 6 ∨ k = 7 ∨ k = 8 := by omega
  rcases this with rfl | rfl | rfl | rfl | rfl | rfl | rfl | rfl <;> simp only [Nat.reduceSub, Nat.reducePow] at h hr <;> omega

theorem lim_bd (k : Nat) (h9 : k ≤ 9) : 128 ^ k < 18446744073709551616 := by
  have : 128 ^ k ≤ 128 ^ 9 := Nat.pow_le_pow_right (by omega) h9
  omega

set_option maxHeartbeats 400000 in
theorem vbytes_any (n : Nat) (w : World) (hn : n < 18446744073709551616) :
    Calls Tryz.prog 51 #[.int .u64 n] w (TextPost (V.enc n) w) := by
  go_enter Tryz.func51, Tryz.ntmps51
  go_wp2_with fail
  go_loopw [2, 3, 4, 5, 6] (fun _ m f i _ wr => ∃ k : Nat, 1 ≤ k ∧ k ≤ 9 ∧ LimRel n k ∧ m = .int .u64 (128 ^ k : Nat) ∧ f = .int .i64 (V.ld k : Nat) ∧ i = .int .i64 k ∧ Below w.heap.size w wr) (fun _ _ _ i _ _ => 10 - (intOf i).toNat)
  case atStart => exact ⟨1, by omega, by omega, Or.inl rfl, rfl, rfl, rfl, Below.refl _ _⟩
  case round =>
    obtain ⟨k, h1, h9, hr, rfl, rfl, rfl, hb⟩ := hrel
    have hL := lim_bd k h9
    by_cases h8 : k ≤ 8
    · by_cases hlt : n < 128 ^ k
      · have hsz := lim_sz n k h1 h8 hr hlt
        obtain ⟨j, rfl⟩ : ∃ j, k = j + 1 := ⟨k - 1, by omega⟩
        have HE := Lib.hid (enc_by n j hsz hn)
        generalize 128 ^ (j + 1) = L at *
        clear hsz hr
        go_wp2_with fail
        refine (big_any n (j + 1) _ hn (by omega)).mono ?_
        rintro e w1 ⟨rfl, hb1⟩
        obtain ⟨t, ht, hts, hth, htc⟩ := be_text j n
        rw [← ht]
        have HTC := Lib.hid htc
        have HTH := Lib.hid hth
        have HTS := Lib.hid hts
        have h0 : 0 < t.size := by omega
        have hle : t.size ≤ 9 := by omega
        have hex : (t.extract 1 t.size).size ≤ 9 := by simp; omega
        have hh : t[0].toNat < 256 := t[0].toNat_lt
        have hld : V.ld (j + 1) ≤ 255 := by
          rcases nine (k := j + 1) (by omega) (by omega) with h | h | h | h | h | h | h | h | h <;> rw [h] <;> decide
        have hsum : IntKind.i64.wrap ((t[0].toNat : Int) + (V.ld (j + 1) : Int)) = (t[0].toNat : Int) + (V.ld (j + 1) : Int) := IntWalk.i64_in _ (by omega)
        have hwr : IntKind.i64.wrap (t[0].toNat : Int) = (t[0].toNat : Int) := IntWalk.i64_in _ (by omega)
        have hI : (1 : Int) ≤ (t.size : Int) := by omega
        obtain ⟨x, hx⟩ : ∃ x, x = UInt8.ofNat (t[0].toNat + V.ld (j + 1)) := ⟨_, rfl⟩
        have HO := Lib.hid (fun w => show Calls Tryz.prog 40 #[.int .i64 ((t[0].toNat : Int) + (V.ld (j + 1) : Int))] w (TextPost [x] w) by
          rw [hx]; exact one_eq _ _ w (by simp) (by omega))
        have HX := Lib.hid hx
        have hs1 : (str [x]).size = 1 := rfl
        clear hx
        have hcat : ¬ 9223372036854775807 < 1 + (t.size - 1) := by omega
        clear ht hth htc hts
        go_wp2_with fail
        go_region_held3 (fun _ => True) (exact trivial) (first | (go_at_call 40; refine (HO.out _).mono ?_; rintro e w2 ⟨rfl, hb2⟩))
        go_wp2_with fail
        go_ret
        refine ⟨?_, below_then (below_then hb hb1) ((Below.refl _ _).drew.trans hb2)⟩
        show Ending.returned (Value.string _) = _
        rw [HTC.out, str_append, HE.out, HX.out, HTH.out h0]; rfl
      · have hr' : LimRel n (k + 1) := Or.inr (by rw [Nat.add_sub_cancel]; omega)
        have HP := Lib.hid (show 128 ^ (k + 1) = 128 ^ k * 128 from Nat.pow_succ 128 k)
        have HLD := Lib.hid (ld_step k h1 h8)
        have hL2 : 128 ^ k * 128 < 18446744073709551616 := by rw [← HP.out]; exact lim_bd (k + 1) (by omega)
        have hld : V.ld k ≤ 256 := Nat.sub_le _ _
        generalize 128 ^ k = L at *
        generalize V.ld k = d at *
        go_wp2_with fail
        refine ⟨⟨k + 1, by omega, by omega, hr', by rw [HP.out]; simp, by rw [HLD.out]; simp, by go_num, hb⟩, by simp [intOf]; omega⟩
    · obtain rfl : k = 9 := by omega
      have HE := Lib.hid (enc_by n 8 (by have hs := V.sz_spec n; unfold LimRel at hr; simp only [Nat.reduceSub, Nat.reducePow] at hr; omega) hn)
      have hs1 : (str [UInt8.ofNat 255]).size = 1 := rfl
      have hs8 : (str (V.be 8 n)).size = 8 := by rw [str_size, V.be_length]
      have HZ := Lib.hid (show n / 256 ^ 8 % 256 = 0 by omega)
      generalize 128 ^ 9 = L at *
      go_wp2_with fail
      refine (one_any 255 _ (by omega)).mono ?_
      rintro e w1 ⟨rfl, hb1⟩
      go_wp2_with fail
      refine (big_any n 8 _ hn (by omega)).mono ?_
      rintro e w2 ⟨rfl, hb2⟩
      go_wp2_with fail
      go_ret
      refine ⟨?_, below_then (below_then hb hb1) hb2⟩
      show Ending.returned (Value.string _) = _
      rw [str_append, HE.out, HZ.out]; rfl
end Go.Proofs.YtmiboibadccceaaGreat
/- The walks of the reference: varyLen, VaryOf. -/
namespace Go.Proofs.YtmiboibadccceaaGreat
open Go.RowKit
set_option linter.unusedVariables false

def LenRel (c k b : Nat) : Prop := b = (c - V.ld k) * 2 ^ (k - 1) ∧ V.ld k ≤ c

theorem len_on (c k b : Nat) (hc : c < 256) (h1 : 1 ≤ k) (h8 : k ≤ 8) (hr : LenRel c k b) (hb : 128 ≤ b) : LenRel c (k + 1) ((b - 128) * 2) := by
  unfold LenRel at *
  have : k = 1 ∨ k = 2 ∨ k = 3 ∨ k = 4 ∨ k = 5 ∨ k = 6 ∨ k = 7 ∨ k = 8 := by omega
  rcases this with rfl | rfl | rfl | rfl | rfl | rfl | rfl | rfl <;> simp only [V.ld, Nat.reduceSub, Nat.reducePow, Nat.reduceAdd] at hr ⊢ <;> omega
theorem len_end (c k b : Nat) (hc : c < 256) (h1 : 1 ≤ k) (h8 : k ≤ 8) (hr : LenRel c k b) (hb : b < 128) : V.kl c = k := by
  unfold LenRel at *
  have hs := V.kl_spec c hc
  have : k = 1 ∨ k = 2 ∨ k = 3 ∨ k = 4 ∨ k = 5 ∨ k = 6 ∨ k = 7 ∨ k = 8 := by omega
  rcases this with rfl | rfl | rfl | rfl | rfl | rfl | rfl | rfl <;> simp only [V.ld, Nat.reduceSub, Nat.reducePow] at hr <;> omega
theorem len_nine (c b : Nat) (hc : c < 256) (hr : LenRel c 9 b) : V.kl c = 9 := by
  unfold LenRel at *
  have hs := V.kl_spec c hc
  simp only [V.ld, Nat.reduceSub, Nat.reducePow] at hr
  omega
theorem len_bd (c k b : Nat) (hc : c < 256) (h1 : 1 ≤ k) (h9 : k ≤ 9) (hr : LenRel c k b) : b ≤ 65536 := by
  unfold LenRel at *
  rcases nine h1 h9 with rfl | rfl | rfl | rfl | rfl | rfl | rfl | rfl | rfl <;> simp only [V.ld, Nat.reduceSub, Nat.reducePow] at hr <;> omega

set_option maxHeartbeats 400000 in
theorem vlen_any (c : Nat) (w : World) (hc : c < 256) :
    Calls Tryz.prog 150 #[.int .i64 c] w fun e w' => e = .returned (.int .i64 (V.kl c)) ∧ w = w' := by
  go_enter Tryz.func150, Tryz.ntmps150
  go_wp2_with fail
  go_loop [0, 3] (fun m i => ∃ k b : Nat, 1 ≤ k ∧ k ≤ 9 ∧ LenRel c k b ∧ m = .int .i64 b ∧ i = .int .i64 k) (fun _ i => 10 - (intOf i).toNat)
  case atStart => exact ⟨1, c, by omega, by omega, ⟨by simp [V.ld], by simp [V.ld]⟩, rfl, rfl⟩
  case round =>
    obtain ⟨k, b, h1, h9, hr, rfl, rfl⟩ := hrel
    have hbd := len_bd c k b hc h1 h9 hr
    by_cases h8 : k ≤ 8
    · have g1 : decide ((k : Int) ≤ 8) = true := by simp; omega
      by_cases hb : 128 ≤ b
      · have hr' := len_on c k b hc h1 h8 hr hb
        have g2 : decide ((128 : Int) ≤ (b : Int)) = true := by simp; omega
        go_wp2_with fail
        refine ⟨⟨k + 1, (b - 128) * 2, by omega, by omega, hr', ?_, by go_num⟩, by simp [intOf]; omega⟩
        congr 1; omega
      · have HK := Lib.hid (len_end c k b hc h1 h8 hr (by omega))
        have g2 : decide ((128 : Int) ≤ (b : Int)) = false := by simp; omega
        go_wp2_with fail
        go_ret
        exact ⟨by rw [HK.out]; rfl, rfl⟩
    · obtain rfl : k = 9 := by omega
      have HK := Lib.hid (len_nine c b hc hr)
      go_wp2_with fail
      go_ret
      exact ⟨by rw [HK.out]; rfl, rfl⟩

theorem val_acc (s : ByteArray) (h0 : 0 < s.size) (h : V.kl s[0].toNat ≤ s.size) :
    V.val (s.data.toList.take (V.kl s[0].toNat)) = acc s[0].toNat (V.kl s[0].toNat) (s.data.toList.drop 1) (V.kl s[0].toNat - 1) + V.ld (V.kl s[0].toNat) * 256 ^ (V.kl s[0].toNat - 1) := by
  obtain ⟨l, hl⟩ := head_cons s h0
  have hsz : (s[0] :: l).length = s.size := by rw [← hl]; exact len_data s
  rw [hl]
  obtain ⟨f1, f2, f3, f4⟩ := V.rd_facts s[0] l (by omega)
  simp only [List.drop_succ_cons, List.drop_zero, acc]
  omega

theorem acc_sum (s : ByteArray) (h0 : 0 < s.size) (h : V.kl s[0].toNat ≤ s.size) (h9 : V.kl s[0].toNat < 9) :
    acc s[0].toNat (V.kl s[0].toNat) (s.data.toList.drop 1) (V.kl s[0].toNat - 1) + V.ld (V.kl s[0].toNat) * 256 ^ (V.kl s[0].toNat - 1) < 18446744073709551616 := by
  rw [← val_acc s h0 h]
  refine Nat.lt_of_lt_of_le (V.val_lt _) ?_
  have : 256 ^ (s.data.toList.take (V.kl s[0].toNat)).length ≤ 256 ^ 8 := Nat.pow_le_pow_right (by omega) (by rw [List.length_take]; omega)
  omega

theorem enc_cmp (s : ByteArray) (h0 : 0 < s.size) (h : V.kl s[0].toNat ≤ s.size) (A : Nat) (hA : acc s[0].toNat (V.kl s[0].toNat) (s.data.toList.drop 1) (V.kl s[0].toNat - 1) = A) :
    (V.sz A < V.kl s[0].toNat → V.enc A ≠ s.data.toList.take (V.kl s[0].toNat)) ∧ (¬ V.sz A < V.kl s[0].toNat → V.enc A = s.data.toList.take (V.kl s[0].toNat)) := by
  obtain ⟨_, hr⟩ := rd_long s h0 h
  rw [hA] at hr
  constructor
  · intro hz e
    have h1 := congrArg List.length e
    rw [V.enc_length, List.length_take, len_data] at h1
    omega
  · intro hz
    rw [if_neg hz] at hr
    exact (V.rd_ok _ _ _ hr).2.2.1

theorem pow_bd (k : Nat) (h1 : 1 ≤ k) (h8 : k ≤ 8) (j : Nat) (hj : j ≤ k - 1) : V.ld k * 256 ^ j < 18446744073709551616 := by
  have a : V.ld k ≤ 255 := by
    rcases nine h1 (by omega) with rfl | rfl | rfl | rfl | rfl | rfl | rfl | rfl | rfl <;> decide
  have b : 256 ^ j ≤ 256 ^ 7 := Nat.pow_le_pow_right (by omega) (by omega)
  have c : V.ld k * 256 ^ j ≤ 255 * 256 ^ 7 := Nat.mul_le_mul a b
  omega

def valM (s : ByteArray) (i : Nat) : Nat := V.val (s.data.toList.take i) % 18446744073709551616

theorem valM_step (s : ByteArray) (i : Nat) (hi : i < s.size) : valM s (i + 1) = (valM s i * 256 + s[i].toNat) % 18446744073709551616 := by
  have hl : i < s.data.toList.length := by rw [len_data]; exact hi
  have e : s.data.toList.take (i + 1) = s.data.toList.take i ++ [s[i]] := by
    rw [List.take_succ_eq_append_getElem hl]; rfl
  unfold valM
  rw [e, V.val_snoc]
  omega

set_option maxHeartbeats 400000 in
theorem vof_empty (s : ByteArray) (w : World) (h : s.size = 0) :
    Calls Tryz.prog 106 #[.string s] w (ReadPost (0, 0, 5) w) := by
  go_enter Tryz.func106, Tryz.ntmps106
  go_wp2_with fail
  go_ret3
  exact ⟨rfl, Below.refl _ _⟩

set_option maxHeartbeats 1000000 in
theorem vof_any (s : ByteArray) (w : World) (hs : s.size ≤ maxLen) (h0 : 0 < s.size) :
    Calls Tryz.prog 106 #[.string s] w (ReadPost (V.rd s.data.toList) w) := by
  unfold maxLen at hs
  have hc := s[0].toNat_lt
  obtain ⟨k1, k9, kld, kb, _⟩ := V.kl_bounds s[0].toNat hc
  have hvl := fun w => vlen_any s[0].toNat w hc
  have hrd := fun x => rd_short s h0 x
  have hrl := fun x => rd_long s h0 x
  have hva := fun x => val_acc s h0 x
  have hcp := fun x => enc_cmp s h0 x
  have has := fun x y => acc_sum s h0 x y
  generalize hk : V.kl s[0].toNat = k at *
  have HVA := Lib.hid hva
  have HCP := Lib.hid hcp
  have HAS := Lib.hid has
  clear hva hcp has
  have HRD := Lib.hid hrd
  have HRL := Lib.hid hrl
  have HVL := Lib.hid hvl
  clear hrd hrl hvl hk kb kld
  have hsz0 : ((s.size : Int) == 0) = false := by rw [beq_eq_false_iff_ne]; omega
  go_enter Tryz.func106, Tryz.ntmps106
  go_wp2_with fail
  refine (HVL.out _).mono ?_
  rintro e w' ⟨rfl, rfl⟩
  by_cases hlen : s.size < k
  · go_wp2_with fail
    go_ret3
    exact ⟨by rw [HRD.out hlen]; rfl, Below.refl _ _⟩
  · go_wp2_with fail
    go_loop [6, 7] (fun m i => ∃ j : Nat, j ≤ k ∧ m = .int .u64 (valM s j) ∧ i = .int .i64 j) (fun _ i => k - (intOf i).toNat)
    case atStart => exact ⟨0, by omega, by simp [valM, V.val], rfl⟩
    case round =>
      obtain ⟨j, hj, rfl, rfl⟩ := hrel
      by_cases hlt : j < k
      · have HS := Lib.hid (valM_step s j (by omega))
        have hm : valM s j < 18446744073709551616 := Nat.mod_lt _ (by omega)
        have hx := s[j].toNat_lt
        have hw8 : IntKind.u64.wrap (s[j].toNat : Int) = (s[j].toNat : Int) := by rw [IntKind.wrap_u64]; omega
        generalize valM s j = M at *
        go_wp2_with fail
        refine ⟨⟨j + 1, by omega, ?_, by go_num⟩, by simp [intOf]; omega⟩
        rw [HS.out, IntKind.wrap_u64, IntKind.wrap_u64]
        congr 1; omega
      · obtain rfl : j = k := by omega
        have hkI : (j : Int) ≤ (s.size : Int) := by omega
        obtain ⟨hal, hrd⟩ := HRL.out (by omega)
        have hva := HVA.out (by omega)
        have hcp := fun A => HCP.out (by omega) A
        have hone : valM s j = V.val (s.data.toList.take j) % 18446744073709551616 := rfl
        have has := fun y => HAS.out (by omega) y
        generalize acc s[0].toNat j (s.data.toList.drop 1) (j - 1) = A at *
        have hcm := hcp A rfl
        clear hcp
        rw [hva] at hone
        clear hva
        obtain ⟨t, ht⟩ : ∃ t, t = str (V.enc A) := ⟨_, rfl⟩
        have hvb := fun w => vbytes_any A w hal
        unfold TextPost at hvb
        rw [← ht] at hvb
        have HB := Lib.hid hvb
        have HT := Lib.hid ht
        have HR := Lib.hid hrd
        clear hrd hvb ht
        by_cases h9 : j < 9
        · have hld0 : V.ld j * 256 ^ (j - 1) < 18446744073709551616 := pow_bd j k1 (by omega) (j - 1) (by omega)
          have hAs : A + V.ld j * 256 ^ (j - 1) < 18446744073709551616 := has h9
          have hm : valM s j = A + V.ld j * 256 ^ (j - 1) := by rw [hone]; exact Nat.mod_eq_of_lt hAs
          rw [hm]
          have hle : V.ld j * 256 ^ (j - 1) ≤ A + V.ld j * 256 ^ (j - 1) := by omega
          clear hm hone has
          generalize hN : A + V.ld j * 256 ^ (j - 1) = N at *
          have HN := Lib.hid hN
          clear hN
          go_wp2_with fail
          go_loop [8, 9] (fun o i => ∃ q : Nat, q ≤ j - 1 ∧ o = .int .u64 (V.ld (q + 1)) ∧ i = .int .i64 q) (fun _ i => j - (intOf i).toNat)
          case atStart => exact ⟨0, by omega, rfl, rfl⟩
          case round =>
            obtain ⟨q, hq, rfl, rfl⟩ := hrel
            by_cases hlt2 : q < j - 1
            · have HLD := Lib.hid (ld_step (q + 1) (by omega) (by omega))
              have hld : V.ld (q + 1) ≤ 256 := Nat.sub_le _ _
              generalize V.ld (q + 1) = d at *
              go_wp2_with fail
              refine ⟨⟨q + 1, by omega, by rw [HLD.out]; simp, by go_num⟩, by simp [intOf]; omega⟩
            · obtain rfl : q = j - 1 := by omega
              have hqj : j - 1 + 1 = j := by omega
              rw [hqj]
              clear hqj
              go_wp2_with fail
              go_loop [8, 10] (fun o i => ∃ p : Nat, 1 ≤ p ∧ p ≤ j ∧ o = .int .u64 (V.ld j * 256 ^ (p - 1) : Nat) ∧ i = .int .i64 p) (fun _ i => j - (intOf i).toNat)
              case atStart => exact ⟨1, by omega, by omega, by simp, rfl⟩
              case round =>
                obtain ⟨p, hp1, hpj, rfl, rfl⟩ := hrel
                by_cases hlt3 : p < j
                · have HP := Lib.hid (show V.ld j * 256 ^ (p + 1 - 1) = V.ld j * 256 ^ (p - 1) * 256 by
                    rw [Nat.mul_assoc, ← Nat.pow_succ]; congr 2; omega)
                  have hpb : V.ld j * 256 ^ (p - 1) * 256 < 18446744073709551616 := by rw [← HP.out]; exact pow_bd j k1 (by omega) _ (by omega)
                  generalize V.ld j * 256 ^ (p - 1) = D at *
                  go_wp2_with fail
                  refine ⟨⟨p + 1, by omega, by omega, by rw [HP.out]; simp, by go_num⟩, by simp [intOf]; omega⟩
                · obtain rfl : p = j := by omega
                  have hsub : ((N : Int) - ((V.ld p * 256 ^ (p - 1) : Nat) : Int)) = (A : Int) := by rw [← HN.out]; omega
                  generalize V.ld p * 256 ^ (p - 1) = D at *
                  by_cases hz : V.sz A < p
                  · have hne : (t.toList == (s.extract 0 p).toList) = false := by rw [beq_eq_false_iff_ne, HT.out, str_toList, ByteArray.toList_eq, take_data]; exact hcm.1 hz
                    have HZ := Lib.hid (HR.out.trans (if_pos hz))
                    clear hcm hz
                    go_wp2_with fail
                    go_region_held3 (fun _ => True) (exact trivial) (first | (go_at_call 51; refine (HB.out _).mono ?_; rintro e w2 ⟨rfl, hb2⟩))
                    go_wp2_with fail
                    go_ret3
                    exact ⟨by rw [HZ.out]; rfl, (Below.refl _ _).drew.trans hb2⟩
                  · have hne : (t.toList == (s.extract 0 p).toList) = true := by rw [beq_iff_eq, HT.out, str_toList, ByteArray.toList_eq, take_data]; exact hcm.2 hz
                    have HZ := Lib.hid (HR.out.trans (if_neg hz))
                    clear hcm hz
                    go_wp2_with fail
                    go_region_held3 (fun _ => True) (exact trivial) (first | (go_at_call 51; refine (HB.out _).mono ?_; rintro e w2 ⟨rfl, hb2⟩))
                    go_wp2_with fail
                    go_ret3
                    exact ⟨by rw [HZ.out]; rfl, (Below.refl _ _).drew.trans hb2⟩
        · have hm : valM s j = A := by
            rw [hone, show j = 9 from by omega]
            simp only [V.ld, Nat.reduceSub, Nat.reducePow]
            omega
          rw [hm]
          clear hm hone
          by_cases hz : V.sz A < j
          · have hne : (t.toList == (s.extract 0 j).toList) = false := by rw [beq_eq_false_iff_ne, HT.out, str_toList, ByteArray.toList_eq, take_data]; exact hcm.1 hz
            have HZ := Lib.hid (HR.out.trans (if_pos hz))
            clear hcm hz
            go_wp2_with fail
            go_region_held3 (fun _ => True) (exact trivial) (first | (go_at_call 51; refine (HB.out _).mono ?_; rintro e w2 ⟨rfl, hb2⟩))
            go_wp2_with fail
            go_ret3
            exact ⟨by rw [HZ.out]; rfl, (Below.refl _ _).drew.trans hb2⟩
          · have hne : (t.toList == (s.extract 0 j).toList) = true := by rw [beq_iff_eq, HT.out, str_toList, ByteArray.toList_eq, take_data]; exact hcm.2 hz
            have HZ := Lib.hid (HR.out.trans (if_neg hz))
            clear hcm hz
            go_wp2_with fail
            go_region_held3 (fun _ => True) (exact trivial) (first | (go_at_call 51; refine (HB.out _).mono ?_; rintro e w2 ⟨rfl, hb2⟩))
            go_wp2_with fail
            go_ret3
            exact ⟨by rw [HZ.out]; rfl, (Below.refl _ _).drew.trans hb2⟩
end Go.Proofs.YtmiboibadccceaaGreat
/- bits.Unpack once more: with the room of what it makes. -/
namespace Go.Proofs.YtmiboibadccceaaGreat
open Go.RowKit
set_option linter.unusedVariables false

def AllPostC (r : List Nat × Nat) (w : World) (e : Ending) (w' : World) : Prop :=
  ∃ a c, e = .returned (.tuple #[.slice a r.1.length c, .int .i64 r.2]) ∧ Nums w' w'.heap.size a r.1 ∧ r.1.length ≤ c ∧ c ≤ maxLen ∧ Below w.heap.size w w'

theorem numRow_numsc {B : Nat} {xs : List Nat} {v : Value} {w : World} (h : NumRow B xs v w) : ∃ a c, v = .slice a xs.length c ∧ Nums w w.heap.size a xs ∧ xs.length ≤ c ∧ c ≤ maxLen := by
  have h' := h
  unfold NumRow at h
  rcases h.2 with ⟨rfl, h0⟩ | ⟨g, cap, cur, rfl, e2, e3, e4, e5, _⟩
  · refine ⟨none, 0, by rw [h0], ?_, by omega, by unfold maxLen; omega⟩
    rw [List.eq_nil_of_length_eq_zero h0]; exact Nums.nil _ _ _
  · obtain ⟨a, c, e, hn⟩ := numRow_nums h'
    injection e with x1 x2 x3
    subst x1 x3
    exact ⟨_, _, rfl, hn, e4, e5⟩

theorem OwnB.numsc {base B : Nat} {w : World} {xs : List Nat} (h : OwnB base B w xs) : ∃ a c, w.cell? ⟨B, 0, none⟩ = some (.slice a xs.length c) ∧ Nums w w.heap.size a xs ∧ xs.length ≤ c ∧ c ≤ maxLen := by
  obtain ⟨h0, v, hv, hown⟩ := h
  obtain ⟨a, c, rfl, hn, h1, h2⟩ := numRow_numsc hown
  exact ⟨a, c, cell_of_one hv, hn, h1, h2⟩

theorem unpR_eq (d : List UInt8) (m n : Nat) (hm : m ≤ 64) (hn : n ≤ 64) (hd : d.length = B.sz (m * n)) : unpR d m n = if B.leN d / 2 ^ (m * n) ≠ 0 then ([], 1) else (B.dg n m (B.leN d), 0) := by
  have e : chkR d m n = if B.leN d / 2 ^ (m * n) ≠ 0 then 1 else 0 := by
    unfold chkR
    rw [if_neg (by omega), if_neg (by omega), Int.toNat_natCast, Int.toNat_natCast]
    unfold chkF
    simp [hd]
  unfold unpR
  by_cases h : B.leN d / 2 ^ (m * n) ≠ 0
  · rw [e, if_pos h, if_pos h]; rfl
  · rw [e, if_neg h, if_neg h, if_pos rfl, Int.toNat_natCast, Int.toNat_natCast]

set_option maxHeartbeats 1000000 in
set_option maxRecDepth 100000 in
theorem unpackc_any (s : ByteArray) (many wide : Int) (w : World) (hs : s.size ≤ maxLen) :
    Calls Tryz.prog 100 #[.string s, .int .i64 many, .int .i64 wide] w (AllPostC (unpR s.data.toList many wide) w) := by
  have hmf : ∀ (fn : Fn) (first cap : Array Value) (w : World), (Instr.makeFunc fn first cap).run Tryz.prog w = .ok (.func fn first cap) w := fun _ _ _ _ => rfl
  obtain ⟨i0, hi, hz0, hz1, hz2⟩ := info_parts info_u64
  have hck := fun w => check_any s many wide w hs
  by_cases hc : chkR s.data.toList many wide = 0
  · obtain ⟨m, n, rfl, rfl, hm, hn, hl, hq⟩ := chk_zero _ _ _ hc
    have HR := Lib.hid (show unpR s.data.toList m n = (B.dg n m (B.leN s.data.toList), 0) by rw [unpR, if_pos hc]; simp)
    rw [hc] at hck
    have HCK := Lib.hid hck
    rw [len_data] at hl
    have hmn : m * n ≤ 64 * 64 := Nat.mul_le_mul hm hn
    have h8 : m * n ≤ 8 * s.size ∧ s.size ≤ 4096 := by rw [hl]; unfold B.sz; omega
    have HBE := Lib.hid (fun base Bk w ho => beach_any base Bk s m n w hn hm h8.1 h8.2 ho)
    clear hck hc hq hl hmn h8
    generalize B.dg n m (B.leN s.data.toList) = xs at *
    go_enter Tryz.func100, Tryz.ntmps100
    go_wp2_with fail
    refine (HCK.out _).mono ?_
    rintro e w1 ⟨rfl, rfl⟩
    go_wp2_with (at_make; refine wpList_make_own _ rfl _ _ 22 rfl w.heap.size 46 i0 (.int .u64 0) 1 Tryz.underlying22 hi hz0 hz1 .i64 .i64 _ m rfl rfl rfl (by rw [hz2]; omega) (by unfold maxLen; omega) (Nat.le_refl _) ?_; intro w0 hown0 hgrow0)
    have hb0 : Below w.heap.size w w0 := (Below.refl _ _).grown hgrow0 (Nat.le_refl _) (fun k hk => by cases hk)
    have hob : OwnB w.heap.size w0.heap.size (w0.alloc (.cells #[.slice (some ⟨w.heap.size, 0, none⟩) 0 m] 22)) [] :=
      ⟨hb0.size, _, heap_alloc_new w0 _, hown0.alloc _⟩
    clear hown0 hgrow0
    go_wp2_with fail
    refine (HBE.out w.heap.size w0.heap.size _ hob).mono ?_
    rintro e w2 ⟨rfl, ho2, hb2⟩
    obtain ⟨a, c, hcell, hnum, hlc, hcm⟩ := ho2.numsc
    go_wp2_with fail
    go_ret2
    rw [HR.out]
    exact ⟨a, c, rfl, hnum, hlc, hcm, (hb0.alloc hb0.size _).trans hb2⟩
  · have HR := Lib.hid (show unpR s.data.toList many wide = ([], chkR s.data.toList many wide) by rw [unpR, if_neg hc])
    have g1 : ((chkR s.data.toList many wide : Int) != 0) = true := by rw [bne_iff_ne]; omega
    generalize chkR s.data.toList many wide = er at *
    have HCK := Lib.hid hck
    clear hck hc
    go_enter Tryz.func100, Tryz.ntmps100
    go_wp2_with fail
    refine (HCK.out _).mono ?_
    rintro e w1 ⟨rfl, rfl⟩
    go_wp2_with fail
    go_ret2
    rw [HR.out]
    exact ⟨none, 0, rfl, Nums.nil _ _ _, Nat.le_refl _, by unfold maxLen; omega, Below.refl _ _⟩

end Go.Proofs.YtmiboibadccceaaGreat
/- The walk of hypostyleref.HybridBytes. -/
namespace Go.Proofs.YtmiboibadccceaaGreat
open Go.RowKit
set_option linter.unusedVariables false

theorem one_nums2 {W : World} {b off n : Nat} (hc : W.cell? ⟨b, off, none⟩ = some (.int .u64 (n : Int))) : Nums W W.heap.size (some ⟨b, off, none⟩) [n] := by
  intro _
  refine ⟨b, off, rfl, World.block_lt_of_cell? W _ hc, fun i hi => ?_⟩
  have : i = 0 := by simpa using hi
  subst this
  simpa using hc

def lenS2 : Value → Nat
  | .slice _ n _ => n
  | _ => 0

set_option maxHeartbeats 4000000 in
set_option maxRecDepth 100000 in
theorem hbytes_some (b off c : Nat) (l : List Nat) (n : Nat) (w : World) (hl : l.length ≤ 1048576) (hcap : l.length ≤ c) (hcm : c ≤ maxLen) (hn : n ≤ 64) (hf : ∀ x ∈ l, x < 2 ^ n) (hb : b < w.heap.size)
    (hc : ∀ i, i < l.length → w.cell? ⟨b, off + i, none⟩ = some (.int .u64 ((l.getD i 0 : Nat) : Int))) :
    Calls Tryz.prog 42 #[.slice (some ⟨b, off, none⟩) l.length c, .int .i64 n] w (TextPost (H.bytes n l) w) := by
  unfold maxLen at hcm
  have hbl := H.bytes_len n l
  have hmul : (18 + n) * l.length ≤ (18 + 64) * 1048576 := Nat.mul_le_mul (by omega) hl
  have HTL := Lib.hid (show (H.bytes n l).length ≤ 85983232 by omega)
  have h64 : ∀ x, x < 2 ^ n → x < 18446744073709551616 := fun x hx => Nat.lt_of_lt_of_le hx (Nat.pow_le_pow_right (n := 2) (by omega) hn)
  have HF := Lib.hid hf
  have HC := Lib.hid hc
  have H64 := Lib.hid h64
  clear hbl hmul hf hc h64
  go_enter Tryz.func42, Tryz.ntmps42
  go_wp2_with fail
  go_loopw [5, 6, 7, 8, 9] (fun s i _ _ _ wr => ∃ (p : Nat) (cur : List UInt8), p ≤ l.length + 8 ∧ i = .int .i64 p ∧ s = .string (str cur) ∧ Hid (cur ++ H.bytes n (l.drop p) = H.bytes n l) ∧ Below w.heap.size w wr) (fun _ i _ _ _ _ => l.length + 8 - (intOf i).toNat)
  case atStart => exact ⟨0, [], by omega, rfl, rfl, Lib.hid (by simp), Below.refl _ _⟩
  case round =>
    obtain ⟨p, cur, hp, rfl, rfl, HB, hbw⟩ := hrel
    have hcl : cur.length ≤ 85983232 := by have := HTL.out; rw [← HB.out, List.length_append] at this; omega
    by_cases hlt : p < l.length
    · have hsf := fun w' (h : Below w.heap.size w w') => sameFrom_any b off c l p w' hl hlt (fun i hi => (h.cell (p := ⟨b, off + i, none⟩) hb).trans (HC.out i hi))
      have hne : l.drop p ≠ [] := fun e => by have := congrArg List.length e; rw [List.length_drop] at this; simp at this; omega
      have hrp := H.row_pos _ hne
      have hrl := H.row_le (l.drop p)
      rw [List.length_drop] at hrl
      have HRUN := Lib.hid (fun h8 => H.bytes_run n (l.drop p) hne h8)
      have HBLK := Lib.hid (fun h8 => H.bytes_blk n (l.drop p) hne h8)
      have hhd : (l.drop p).headD 0 = l.getD p 0 := by
        rw [List.drop_eq_getElem_cons hlt]; simp [List.getD, List.getElem?_eq_getElem hlt]
      have hx0 : (l.drop p).headD 0 < 2 ^ n := by rw [hhd]; exact HF.out _ (getD_mem l p hlt)
      have HSTEP := Lib.hid (fun q h => H.pad_step l q h)
      have hr : H.row (l.drop p) = H.row (l.drop p) := rfl
      obtain ⟨r, hre⟩ : ∃ r, r = H.row (l.drop p) := ⟨_, rfl⟩
      have HSF := Lib.hid (fun q (hq : q < l.length) w' (h : Below w.heap.size w w') => sameFrom_any b off c l q w' hl hq (fun i hi => (h.cell (p := ⟨b, off + i, none⟩) hb).trans (HC.out i hi)))
      have hsf1 := hsf wr hbw
      rw [← hre] at hsf1 hrp hrl HRUN HBLK
      have HSF1 := Lib.hid hsf1
      have HRE := Lib.hid hre
      clear hsf hsf1 hr hre
      by_cases h8 : 8 ≤ r
      · have g1 : decide ((8 : Int) ≤ (r : Int)) = true := by simp; omega
        obtain ⟨tc, htc⟩ : ∃ tc, tc = str cur := ⟨_, rfl⟩
        obtain ⟨t1, ht1⟩ : ∃ t1, t1 = str (V.enc (2 * r)) := ⟨_, rfl⟩
        obtain ⟨t2, ht2⟩ : ∃ t2, t2 = str (H.pkd n [(l.drop p).headD 0]) := ⟨_, rfl⟩
        have hs0 : tc.size ≤ 85983232 := by rw [htc, str_size]; exact hcl
        have hs1 : t1.size ≤ 9 := by rw [ht1, str_size, V.enc_length]; exact V.sz_le _
        have hs2 : t2.size ≤ 8 := by rw [ht2, str_size, H.pkd_length]; unfold B.sz; simp; omega
        have hcat1 : ¬ 9223372036854775807 < t1.size + t2.size := by omega
        have hcat2 : ¬ 9223372036854775807 < tc.size + (t1.size + t2.size) := by omega
        have HSUM := Lib.hid (show tc ++ (t1 ++ t2) = str (cur ++ H.Part.bytes n (.run ((l.drop p).headD 0) r)) by rw [htc, ht1, ht2, str_append, str_append]; rfl)
        have HVB := Lib.hid (fun w => show Calls Tryz.prog 51 #[.int .u64 ((2 * r : Nat) : Int)] w (fun e w' => e = .returned (.string t1) ∧ Below w.heap.size w w') by rw [ht1]; exact vbytes_any (2 * r) w (by omega))
        have HPK := Lib.hid (fun W c' (h : Below w.heap.size w W) => show Calls Tryz.prog 41 #[.slice (some ⟨b, off + p, none⟩) 1 c', .int .i64 n] W (fun e w' => e = .returned (.string t2) ∧ Below W.heap.size W w') by
          rw [ht2]
          have hcell := (h.cell (p := ⟨b, off + p, none⟩) hb).trans (HC.out p hlt)
          rw [← hhd] at hcell
          exact packedL_any (some ⟨b, off + p, none⟩) c' [(l.drop p).headD 0] n W (by simp) hn (by simpa using hx0) (by simpa using H64.out _ hx0) (one_nums2 hcell))
        have HR8 := Lib.hid (HRUN.out h8)
        have hw2 : IntKind.u64.wrap (2 * (r : Int)) = ((2 * r : Nat) : Int) := by rw [IntKind.wrap_u64]; omega
        have hi2 : IntKind.i64.wrap (2 * (r : Int)) = 2 * (r : Int) := by rw [IntKind.wrap_i64]; omega
        have hp1 : IntKind.i64.wrap ((p : Int) + 1) = (p : Int) + 1 := by rw [IntKind.wrap_i64]; omega
        have hp0 : (0 : Int) ≤ (p : Int) + 1 := by omega
        have hpt : ((p : Int) + 1).toNat = p + 1 := by omega
        have hpm : p + 1 - p = 1 := by omega
        have hpI : (0 : Int) ≤ (p : Int) := by omega
        have hpq : (p : Int) ≤ (p : Int) + 1 := by omega
        have hqc : (p : Int) + 1 ≤ (c : Int) := by omega
        have hcp : ¬ c = p := by omega
        have hpr : IntKind.i64.wrap ((p : Int) + (r : Int)) = (p : Int) + (r : Int) := by rw [IntKind.wrap_i64]; omega
        have HDD := Lib.hid (show (l.drop p).drop r = l.drop (p + r) from List.drop_drop)
        rw [← htc]
        generalize (l.drop p).headD 0 = x at *
        clear ht1 ht2 htc hhd hne hcl HRUN HBLK HSTEP HSF
        go_wp2_with fail
        refine (HSF1.out).mono ?_
        rintro e w1 ⟨rfl, hb1⟩
        have hbw1 := hbw.trans (hb1.mono hbw.size)
        go_wp2_with fail
        go_region_held3 (fun W => True) (exact trivial)
          (first
            | (go_at_call 51; refine (HVB.out _).mono ?_; rintro e w3 ⟨rfl, hb3⟩)
            | (go_at_call 41; refine (HPK.out _ _ (below_then hbw1.drew hb3)).mono ?_; rintro e w4 ⟨rfl, hb4⟩))
        all_goals
          go_wp2_with fail
          refine ⟨⟨p + r, cur ++ H.Part.bytes n (.run x r), by omega, by simp, by rw [← HSUM.out], Lib.hid ?_, below_then (below_then hbw1.drew hb3) hb4⟩, by simp [intOf]; omega⟩
          rw [List.append_assoc, ← HDD.out, ← HR8.out]; exact HB.out
      · have g1 : decide ((8 : Int) ≤ (r : Int)) = false := by simp; omega
        have HB8 := Lib.hid (HBLK.out h8)
        have hlo1 := H.loose_pos (l.drop p) (fun e => e.elim hne (fun e => by rw [← HRE.out] at e; exact h8 e))
        have hlp := H.loose_le (l.drop p)
        rw [List.length_drop] at hlp
        have HPL := Lib.hid (show (H.pad ((l.drop p).take (H.loose (l.drop p)))).length = H.nb (H.loose (l.drop p)) * 8 by
          rw [H.pad_length, List.length_take, List.length_drop, Nat.min_eq_left hlp])
        have hnb8 : H.nb (H.loose (l.drop p)) * 8 ≤ l.length + 7 := by unfold H.nb; omega
        have HPM := Lib.hid (H.pad_mem ((l.drop p).take (H.loose (l.drop p))) n (fun x hx => HF.out x (List.mem_of_mem_drop (List.mem_of_mem_take hx))))
        have HPB := Lib.hid (show H.Part.bytes n (.blk ((l.drop p).take (H.loose (l.drop p)))) = V.enc (2 * H.nb (H.loose (l.drop p)) + 1) ++ H.pkd n (H.pad ((l.drop p).take (H.loose (l.drop p)))) by
          simp only [H.Part.bytes]; rw [List.length_take, List.length_drop, Nat.min_eq_left hlp])
        generalize hlo : H.loose (l.drop p) = lo at *
        generalize hPD : H.pad ((l.drop p).take lo) = PD at *
        have HLO := Lib.hid hlo
        have HPD := Lib.hid hPD
        obtain ⟨tc, htc⟩ : ∃ tc, tc = str cur := ⟨_, rfl⟩
        have hs0 : tc.size ≤ 85983232 := by rw [htc, str_size]; exact hcl
        obtain ⟨K, hK⟩ : ∃ K, K = H.nb lo := ⟨_, rfl⟩
        have HK := Lib.hid hK
        rw [← hK] at hnb8 HPB
        obtain ⟨t1, ht1⟩ : ∃ t1, t1 = str (V.enc (2 * K + 1)) := ⟨_, rfl⟩
        obtain ⟨t2, ht2⟩ : ∃ t2, t2 = str (H.pkd n PD) := ⟨_, rfl⟩
        have HT2 := Lib.hid ht2
        have hs1 : t1.size ≤ 9 := by rw [ht1, str_size, V.enc_length]; exact V.sz_le _
        have hs2 : t2.size ≤ 8389121 := by
          rw [ht2, str_size, H.pkd_length, HPL.out, HK.out.symm]
          have := Nat.mul_le_mul (show K * 8 ≤ 1048584 by omega) hn
          unfold B.sz; omega
        have hcat1 : ¬ 9223372036854775807 < t1.size + t2.size := by omega
        have hcat2 : ¬ 9223372036854775807 < tc.size + (t1.size + t2.size) := by omega
        have HSUM := Lib.hid (show tc ++ (t1 ++ t2) = str (cur ++ H.Part.bytes n (.blk ((l.drop p).take lo))) by rw [htc, ht1, ht2, str_append, str_append, HPB.out])
        have HVB := Lib.hid (fun w => show Calls Tryz.prog 51 #[.int .u64 ((2 * K + 1 : Nat) : Int)] w (fun e w' => e = .returned (.string t1) ∧ Below w.heap.size w w') by rw [ht1]; exact vbytes_any (2 * K + 1) w (by omega))
        have hk2 : IntKind.i64.wrap ((K : Int) * 2) = (K : Int) * 2 := by rw [IntKind.wrap_i64]; omega
        have hk3 : IntKind.i64.wrap ((K : Int) * 2 + 1) = (K : Int) * 2 + 1 := by rw [IntKind.wrap_i64]; omega
        have hk4 : IntKind.u64.wrap ((K : Int) * 2 + 1) = ((2 * K + 1 : Nat) : Int) := by rw [IntKind.wrap_u64]; omega
        have HDD := Lib.hid (show (l.drop p).drop lo = l.drop (p + lo) from List.drop_drop)
        rw [← htc]
        clear hK ht1 ht2
        clear hlo hPD htc hhd hne hcl HRUN HBLK hx0
        go_wp2_with fail
        refine (HSF1.out).mono ?_
        rintro e w1 ⟨rfl, hb1⟩
        have hbw1 := hbw.trans (hb1.mono hbw.size)
        go_wp2_with fail
        go_loopw [6, 8, 9] (fun i v _ wr2 => ∃ (q : Nat) (xs : List Nat), p ≤ q ∧ q ≤ l.length + 7 ∧ i = .int .i64 q ∧ NumRow w.heap.size xs v wr2 ∧ Hid (xs ++ H.pad ((l.drop q).take (H.loose (l.drop q))) = PD) ∧ Hid (l.drop (q + H.loose (l.drop q)) = l.drop (p + lo)) ∧ Below w.heap.size w wr2) (fun i _ _ _ => l.length + 8 - (intOf i).toNat)
        case atStart => exact ⟨p, [], by omega, by omega, rfl, ⟨rfl, Or.inl ⟨rfl, rfl⟩⟩, Lib.hid (by rw [HLO.out, HPD.out]; rfl), Lib.hid (by rw [HLO.out]), hbw1⟩
        case round =>
          obtain ⟨q, xs, hpq, hq7, rfl, hrow, HX, HD, hbw2⟩ := hrel
          have hxl : xs.length ≤ l.length + 7 := by
            have := congrArg List.length HX.out
            rw [List.length_append, HPL.out, ← HK.out] at this; omega
          by_cases hql : q < l.length
          · have hs2 := HSF.out q hql wr hbw2
            have HST := Lib.hid (fun h => H.pad_step l q h)
            have hqne : l.drop q ≠ [] := fun e => by have := congrArg List.length e; rw [List.length_drop] at this; simp at this; omega
            obtain ⟨r2, hr2⟩ : ∃ r2, r2 = H.row (l.drop q) := ⟨_, rfl⟩
            rw [← hr2] at hs2
            have hr2b := H.row_le (l.drop q)
            rw [← hr2, List.length_drop] at hr2b
            have HS2 := Lib.hid hs2
            have HR2 := Lib.hid hr2
            clear hs2 hr2
            by_cases hr8 : r2 < 8
            · have g2 : decide ((r2 : Int) < 8) = true := by simp; omega
              have HPS := Lib.hid (HST.out (fun e => e.elim hqne (fun e => by rw [← HR2.out] at e; omega)))
              go_wp2_with fail
              refine (HS2.out).mono ?_
              rintro e w2 ⟨rfl, hb2⟩
              have hrow2 : NumRow w.heap.size xs u8 w2 := row_below hrow hb2
              have hbw3 := hbw2.trans (hb2.mono hbw2.size)
              go_wp2_with fail
              go_loopw [6, 8, 9] (fun i v kk wr3 => ∃ (k j : Nat), k ≤ 8 ∧ Hid (j = q + k) ∧ kk = .int .i64 k ∧ i = .int .i64 j ∧ NumRow w.heap.size (xs ++ H.eightK l q k) v wr3 ∧ Below w.heap.size w wr3) (fun _ _ kk _ => 8 - (intOf kk).toNat)
              case atStart => exact ⟨0, q, by omega, Lib.hid rfl, rfl, rfl, by simpa [H.eightK] using hrow2, hbw3⟩
              case round =>
                obtain ⟨k, j, hk8, HJ, rfl, rfl, hrow3, hbw4⟩ := hrel
                have hj := HJ.out
                by_cases hk : k < 8
                · have HES := Lib.hid (H.eightK_succ l q k)
                  have hxl3 : (xs ++ H.eightK l q k).length = xs.length + k := by rw [List.length_append, H.eightK_length]
                  have hjn : j ≤ l.length + 16 := by omega
                  have hlj : l.getD (q + k) 0 = l.getD j 0 := by rw [hj]
                  rw [hlj] at HES
                  generalize H.eightK l q k = ek at *
                  clear hj hlj
                  by_cases hjl : j < l.length
                  · have hcell := (hbw4.cell (p := ⟨b, off + j, none⟩) hb).trans (HC.out j hjl)
                    generalize l.getD j 0 = y at *
                    have hb5 : w.heap.size ≤ (wr.alloc (.cells #[.int .u64 (y : Int)] 46)).heap.size := by have := hbw4.size; simp; omega
                    have hrow3' : wr.ownsRow w.heap.size 46 1 u8 (xs ++ ek).length (nv (xs ++ ek)) := hrow3
                    have HROW := Lib.hid hrow3'
                    clear hrow3 hrow3'
                    go_wp2_with (at_builtin; refine wpList_append_one rfl (.tmp 54) (.tmp 59) rfl w.heap.size _ (xs ++ ek).length _ rfl (HROW.out.alloc _) wr.heap.size y rfl (World.cell?_alloc_new _ _ _ _) (by omega) hb5 ?_)
                    intro v' w5 hown5 hgrow5
                    go_wp2_with fail
                    have hbw5 : Below w.heap.size w w5 := (hbw4.alloc hbw4.size _).grown hgrow5 (by have := hbw4.size; simp; omega) (fun k hk => (HROW.out.lt k hk).1)
                    refine ⟨⟨k + 1, j + 1, by omega, Lib.hid (by have := HJ.out; omega), by go_num, by go_num, ?_, hbw5⟩, by simp [intOf]; omega⟩
                    rw [HES.out, ← List.append_assoc]
                    unfold NumRow; rw [List.length_append, hxl3]; simpa [nv, hxl3] using hown5
                  · have hl0 : l.getD j 0 = 0 := by simp [List.getD, List.getElem?_eq_none (show l.length ≤ j by omega)]
                    rw [hl0] at HES
                    have g3 : decide ((j : Int) < (l.length : Int)) = false := by simp; omega
                    have hb5 : w.heap.size ≤ (wr.alloc (.cells #[.int .u64 ((0 : Nat) : Int)] 46)).heap.size := by have := hbw4.size; simp; omega
                    have hrow3' : wr.ownsRow w.heap.size 46 1 u8 (xs ++ ek).length (nv (xs ++ ek)) := hrow3
                    have HROW := Lib.hid hrow3'
                    clear hrow3 hrow3' hl0
                    go_wp2_with (at_builtin; refine wpList_append_one rfl (.tmp 61) (.tmp 62) rfl w.heap.size _ (xs ++ ek).length _ rfl (HROW.out.alloc _) wr.heap.size 0 rfl (World.cell?_alloc_new _ _ _ _) (by omega) hb5 ?_)
                    intro v' w5 hown5 hgrow5
                    go_wp2_with fail
                    have hbw5 : Below w.heap.size w w5 := (hbw4.alloc hbw4.size _).grown hgrow5 (by have := hbw4.size; simp; omega) (fun k hk => (HROW.out.lt k hk).1)
                    refine ⟨⟨k + 1, j + 1, by omega, Lib.hid (by have := HJ.out; omega), by go_num, by go_num, ?_, hbw5⟩, by simp [intOf]; omega⟩
                    rw [HES.out, ← List.append_assoc]
                    unfold NumRow; rw [List.length_append, hxl3]; simpa [nv, hxl3] using hown5
                · obtain rfl : k = 8 := by omega
                  subst hj
                  go_wp2_with fail
                  refine ⟨⟨q + 8, xs ++ H.eightK l q 8, by omega, by omega, rfl, hrow3, Lib.hid ?_, Lib.hid ?_, hbw4⟩, by simp [intOf]; omega⟩
                  · rw [List.append_assoc, ← (HPS.out).1]; exact HX.out
                  · rw [← (HPS.out).2]; exact HD.out
            · have g2 : decide ((r2 : Int) < 8) = false := by simp; omega
              have hstop : l.drop q = [] ∨ 8 ≤ H.row (l.drop q) := Or.inr (by rw [← HR2.out]; omega)
              go_wp2_with fail
              refine (HS2.out).mono ?_
              rintro e w2 ⟨rfl, hb2⟩
              have hrow2 : NumRow w.heap.size xs u8 w2 := row_below hrow hb2
              have hbw3 := hbw2.trans (hb2.mono hbw2.size)
              clear hrow
              have hstop2 := H.pad_stop (l.drop q) hstop
              have hqp : q ≠ p := fun e => by rw [e, HLO.out] at hstop2; omega
              have hxs : xs = PD := by rw [← HX.out, hstop2.1, List.append_nil]
              have HDQ := Lib.hid (show l.drop q = l.drop (p + lo) by rw [← HD.out, hstop2.2, Nat.add_zero])
              obtain ⟨a4, c4, rfl, hnum, _, _⟩ := numRow_numsc hrow2
              have hxK : xs.length = K * 8 := by rw [hxs, HPL.out, HK.out]
              have hq8 : ((xs.length : Int) / 8) = (K : Int) := by omega
              have HPK2 := Lib.hid (fun W (h : Nums W W.heap.size a4 xs) => show Calls Tryz.prog 41 #[.slice a4 xs.length c4, .int .i64 n] W (fun e w' => e = .returned (.string t2) ∧ Below W.heap.size W w') by
                have := packedL_any a4 c4 xs n W (by omega) hn (by rw [hxs]; exact HPM.out) (fun x hx => H64.out x (by rw [hxs] at hx; exact HPM.out x hx)) h
                rw [HT2.out, ← hxs]; exact this)
              clear hstop2 hxs hxK hrow2
              go_wp2_with fail
              refine (HVB.out _).mono ?_
              rintro e w3 ⟨rfl, hb3⟩
              go_wp2_with fail
              refine (HPK2.out _ (hnum.next hb3)).mono ?_
              rintro e w4 ⟨rfl, hb4⟩
              go_wp2_with fail
              refine ⟨⟨q, cur ++ H.Part.bytes n (.blk ((l.drop p).take lo)), by omega, rfl, by rw [← HSUM.out], Lib.hid ?_, below_then (below_then hbw3 hb3) hb4⟩, by simp [intOf]; omega⟩
              rw [List.append_assoc, HDQ.out, ← HDD.out, ← HB8.out]; exact HB.out
          · have hstop : l.drop q = [] ∨ 8 ≤ H.row (l.drop q) := Or.inl (List.drop_eq_nil_of_le (by omega))
            have g3 : decide ((q : Int) < (l.length : Int)) = false := by simp; omega
            have hstop2 := H.pad_stop (l.drop q) hstop
            have hqp : q ≠ p := fun e => by rw [e, HLO.out] at hstop2; omega
            have hxs : xs = PD := by rw [← HX.out, hstop2.1, List.append_nil]
            have HDQ := Lib.hid (show l.drop q = l.drop (p + lo) by rw [← HD.out, hstop2.2, Nat.add_zero])
            obtain ⟨a4, c4, rfl, hnum, _, _⟩ := numRow_numsc hrow
            have hxK : xs.length = K * 8 := by rw [hxs, HPL.out, HK.out]
            have hq8 : ((xs.length : Int) / 8) = (K : Int) := by omega
            have HPK2 := Lib.hid (fun W (h : Nums W W.heap.size a4 xs) => show Calls Tryz.prog 41 #[.slice a4 xs.length c4, .int .i64 n] W (fun e w' => e = .returned (.string t2) ∧ Below W.heap.size W w') by
              have := packedL_any a4 c4 xs n W (by omega) hn (by rw [hxs]; exact HPM.out) (fun x hx => H64.out x (by rw [hxs] at hx; exact HPM.out x hx)) h
              rw [HT2.out, ← hxs]; exact this)
            clear hstop2 hxs hxK hrow
            go_wp2_with fail
            refine (HVB.out _).mono ?_
            rintro e w3 ⟨rfl, hb3⟩
            go_wp2_with fail
            refine (HPK2.out _ (hnum.next hb3)).mono ?_
            rintro e w4 ⟨rfl, hb4⟩
            go_wp2_with fail
            refine ⟨⟨q, cur ++ H.Part.bytes n (.blk ((l.drop p).take lo)), by omega, rfl, by rw [← HSUM.out], Lib.hid ?_, below_then (below_then hbw2 hb3) hb4⟩, by simp [intOf]; omega⟩
            rw [List.append_assoc, HDQ.out, ← HDD.out, ← HB8.out]; exact HB.out
    · have hnil : l.drop p = [] := List.drop_eq_nil_of_le (by omega)
      have hB := HB.out
      rw [hnil, H.bytes_nil, List.append_nil] at hB
      subst hB
      have g1 : decide ((p : Int) < (l.length : Int)) = false := by simp; omega
      go_wp2_with fail
      go_ret
      exact ⟨rfl, hbw⟩

set_option maxHeartbeats 400000 in
theorem hbytes_nil (a : Option Addr) (c : Nat) (n : Int) (w : World) :
    Calls Tryz.prog 42 #[.slice a 0 c, .int .i64 n] w (TextPost [] w) := by
  go_enter Tryz.func42, Tryz.ntmps42
  go_wp2_with fail
  refine wp_loop_rounds 1 ?_
  rw [rounds_succ]
  go_wp2_with fail
  go_ret
  exact ⟨rfl, Below.refl _ _⟩

theorem hbytes_any (a : Option Addr) (c : Nat) (l : List Nat) (n : Nat) (w : World) (hl : l.length ≤ 1048576) (hcap : l.length ≤ c) (hcm : c ≤ maxLen) (hn : n ≤ 64) (hf : ∀ x ∈ l, x < 2 ^ n) (hu : Nums w w.heap.size a l) :
    Calls Tryz.prog 42 #[.slice a l.length c, .int .i64 n] w (TextPost (H.bytes n l) w) := by
  by_cases h : l = []
  · subst h; exact hbytes_nil a c n w
  · obtain ⟨b, off, rfl, hb, hc⟩ := hu h
    exact hbytes_some b off c l n w hl hcap hcm hn hf hb hc
end Go.Proofs.YtmiboibadccceaaGreat
