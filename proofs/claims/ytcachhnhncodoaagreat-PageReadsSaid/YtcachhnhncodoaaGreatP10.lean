/- MW6, MW8, ML3, AdPlain, AdW1, AdW2, AdR1, Lift, AdB, CLift. -/
import Derived.ProofKit
import Derived.OpenShut
import Derived.ShutString
import Derived.ChangeOld
import Derived.JoinedCond
import Derived.Below
import Derived.Deep.Slices
import Derived.Deep.Grids
import Derived.Test.YtcachhnhncodoaaGreatP9
namespace Go.Proofs.YtcachhnhncodoaaGreat
open Go.RowKit
set_option linter.unusedVariables false
def ones (l : List Bool) : List Nat := l.map fun b => if b then 1 else 0
theorem ones_length (l : List Bool) : (ones l).length = l.length := by simp [ones]
theorem ones_lt (l : List Bool) : ∀ x ∈ ones l, x < 2 := by
  intro x hx
  simp only [ones, List.mem_map] at hx
  obtain ⟨b, _, rfl⟩ := hx
  cases b <;> simp
theorem ones_snoc (l : List Bool) (k : Nat) (h : k < l.length) : ones (l.take (k + 1)) = ones (l.take k) ++ [if l.getD k false = true then 1 else 0] := by
  rw [M.take_snoc l k h]; simp [ones]
def ofOnes (l : List Nat) : List Bool := l.map fun n => n == 1
theorem ofOnes_ones (l : List Bool) : ofOnes (ones l) = l := by
  induction l with
  | nil => rfl
  | cons b l ih => cases b <;> simp_all [ofOnes, ones]
theorem ones_ofOnes (l : List Nat) (h : ∀ x ∈ l, x < 2) : ones (ofOnes l) = l := by
  induction l with
  | nil => rfl
  | cons x l ih =>
    have hx := h x (by simp)
    have := ih (fun y hy => h y (by simp [hy]))
    simp only [ones, ofOnes, List.map_cons, List.cons.injEq] at this ⊢
    refine ⟨?_, this⟩
    have : x = 0 ∨ x = 1 := by omega
    rcases this with rfl | rfl <;> rfl
theorem ones_next (l : List Bool) (k n : Nat) (hn : l.length = n) (hk : k < n) (hx : l.getD k false = true) : (ones (l.take k) ++ List.replicate (n - k) 0).set k 1 = ones (l.take (k + 1)) ++ List.replicate (n - (k + 1)) 0 := by
  have h1 : n - k = (n - (k + 1)) + 1 := by omega
  rw [h1, List.replicate_succ, List.set_append_right _ _ (by rw [ones_length, List.length_take]; omega), ones_snoc l k (by omega), hx]
  have h2 : k - (ones (l.take k)).length = 0 := by rw [ones_length, List.length_take]; omega
  rw [h2]; simp
theorem ones_skip (l : List Bool) (k n : Nat) (hn : l.length = n) (hk : k < n) (hx : l.getD k false = false) : ones (l.take k) ++ List.replicate (n - k) 0 = ones (l.take (k + 1)) ++ List.replicate (n - (k + 1)) 0 := by
  have h1 : n - k = (n - (k + 1)) + 1 := by omega
  rw [h1, List.replicate_succ, ones_snoc l k (by omega), hx]; simp
def bytesR (l : List Bool) : List UInt8 × Nat := packR (ones l) 1
theorem bytes_many (l : List Bool) (h : 64 < l.length) : bytesR l = ([], 2) := by
  rw [bytesR, packR, if_neg (by omega), if_pos (by rw [ones_length]; exact h)]
set_option maxHeartbeats 1000000 in
set_option maxRecDepth 100000 in
theorem bytes_some (b off c : Nat) (l : List Bool) (w : World) (hl : l.length ≤ 64) (hb : b < w.heap.size)
    (hc : ∀ i, i < l.length → w.cell? ⟨b, off + i, none⟩ = some (.bool (l.getD i false))) :
    Calls Tryz.prog 20 #[.slice (some ⟨b, off, none⟩) l.length c] w (PackPost (bytesR l) w) := by
  obtain ⟨i0, hi, hz0, hz1, hz2⟩ := info_parts info_u64
  have HC := Lib.hid hc
  have HP := Lib.hid (show ∀ g w', UBlk w' g (ones l) → Calls Tryz.prog 43 #[.slice (some ⟨g, 0, none⟩) l.length l.length, .int .i64 1] w' (PackPost (bytesR l) w') from
    fun g w' hu => by have := pack_any (some ⟨g, 0, none⟩) l.length (ones l) 1 w' (fun x hx => by have := ones_lt l x hx; omega) hu.nums; rw [ones_length] at this; exact this)
  have HON := Lib.hid (fun k hk hx => ones_next l k l.length rfl hk hx)
  have HOS := Lib.hid (fun k hk hx => ones_skip l k l.length rfl hk hx)
  have HOL := Lib.hid (fun k => ones_length (l.take k))
  generalize bytesR l = r at *
  clear hc
  go_enter Tryz.func20, Tryz.ntmps20
  go_wp2_with (at_make; refine wpList_make_full _ rfl (.tmp 11) (.tmp 11) 44 rfl w.heap.size 34 i0 (.int .u64 0) 1 Tryz.underlying44 hi hz0 hz1 .i64 .i64 _ _ l.length rfl rfl rfl rfl (by rw [hz2]; omega) (by unfold maxLen; omega) (Nat.le_refl _) ?_; intro w0 hown0 hgrow0)
  have hb0 : Below w.heap.size w w0 := (Below.refl _ _).grown hgrow0 (Nat.le_refl _) (fun k hk => by cases hk)
  have hblk0 := made_ublk hown0
  clear hown0 hgrow0
  obtain ⟨g, hge⟩ : ∃ g, g = w.heap.size := ⟨_, rfl⟩
  rw [← hge] at hblk0 ⊢
  have hgw : w.heap.size ≤ g := by omega
  clear hge
  go_loopw [5, 6, 15] (fun _ _ i wr => ∃ k : Nat, k ≤ l.length ∧ i = .int .i64 k ∧ UBlk wr g (ones (l.take k) ++ List.replicate (l.length - k) 0) ∧ Below w.heap.size w wr) (fun _ _ i _ => l.length - (intOf i).toNat)
  case atStart => exact ⟨0, by omega, rfl, by simpa [ones] using hblk0, hb0⟩
  case round =>
    obtain ⟨k, hk, rfl, hblk, hbw⟩ := hrel
    by_cases hlt : k < l.length
    · have hcell : wr.cell? ⟨b, off + k, none⟩ = some (.bool (l.getD k false)) := (hbw.cell (p := ⟨b, off + k, none⟩) hb).trans (HC.out k hlt)
      cases hx : l.getD k false with
      | true =>
        rw [hx] at hcell
        have ol : k < (ones (l.take k) ++ List.replicate (l.length - k) 0).length := by simp only [List.length_append, HOL.out, List.length_take, List.length_replicate]; omega
        have o1 := hblk.cell k ol
        have o2 := hblk.free k
        have hb2 := hblk.put k 1
        rw [HON.out k hlt hx] at hb2
        have hw2 : Below w.heap.size w (wr.setCell ⟨g, k, none⟩ (.int .u64 ((1 : Nat) : Int))) := hbw.setCell hgw _
        generalize (ones (l.take k) ++ List.replicate (l.length - k) 0).getD k 0 = oz at *
        clear hx ol
        go_wp2_with fail
        exact ⟨⟨k + 1, by omega, by go_num, hb2, hw2⟩, by simp [intOf]; omega⟩
      | false =>
        rw [hx] at hcell
        rw [HOS.out k hlt hx] at hblk
        clear hx
        go_wp2_with fail
        exact ⟨⟨k + 1, by omega, by go_num, hblk, hbw⟩, by simp [intOf]; omega⟩
    · obtain rfl : k = l.length := by omega
      rw [List.take_length, Nat.sub_self, List.replicate_zero, List.append_nil] at hblk
      have HP2 := Lib.hid (HP.out g wr hblk)
      go_wp2_with fail
      refine (HP2.out).mono ?_
      rintro e w2 ⟨rfl, hb2⟩
      go_wp2_with fail
      go_ret2
      exact ⟨rfl, below_then hbw hb2⟩
set_option maxHeartbeats 400000 in
set_option maxRecDepth 100000 in
theorem bytes_nil (a : Option Addr) (c : Nat) (w : World) :
    Calls Tryz.prog 20 #[.slice a 0 c] w (PackPost (bytesR []) w) := by
  obtain ⟨i0, hi, hz0, hz1, hz2⟩ := info_parts info_u64
  have HP := Lib.hid (show ∀ g w', Calls Tryz.prog 43 #[.slice (some ⟨g, 0, none⟩) 0 0, .int .i64 1] w' (PackPost (bytesR []) w') from
    fun g w' => pack_any (some ⟨g, 0, none⟩) 0 [] 1 w' (by simp) (Nums.nil _ _ _))
  generalize bytesR [] = r at *
  go_enter Tryz.func20, Tryz.ntmps20
  go_wp2_with (at_make; refine wpList_make_full _ rfl (.tmp 11) (.tmp 11) 44 rfl w.heap.size 34 i0 (.int .u64 0) 1 Tryz.underlying44 hi hz0 hz1 .i64 .i64 _ _ 0 rfl rfl rfl rfl (by rw [hz2]; omega) (by unfold maxLen; omega) (Nat.le_refl _) ?_; intro w0 hown0 hgrow0)
  have hb0 : Below w.heap.size w w0 := (Below.refl _ _).grown hgrow0 (Nat.le_refl _) (fun k hk => by cases hk)
  clear hown0 hgrow0
  refine wp_loop_rounds 1 ?_
  rw [rounds_succ]
  go_wp2_with fail
  refine (HP.out _ _).mono ?_
  rintro e w2 ⟨rfl, hb2⟩
  go_wp2_with fail
  go_ret2
  exact ⟨rfl, below_then hb0 hb2⟩
set_option maxHeartbeats 400000 in
theorem bytes_over (a : Option Addr) (n c : Nat) (w : World) (h : 64 < n) :
    Calls Tryz.prog 20 #[.slice a n c] w (PackPost ([], 2) w) := by
  go_enter Tryz.func20, Tryz.ntmps20
  go_wp2_with fail
  go_ret2
  exact ⟨rfl, Below.refl _ _⟩
theorem bytes_any (a : Option Addr) (c : Nat) (l : List Bool) (w : World) (hu : Bools w w.heap.size a l) :
    Calls Tryz.prog 20 #[.slice a l.length c] w (PackPost (bytesR l) w) := by
  by_cases h : 64 < l.length
  · rw [bytes_many l h]; exact bytes_over a _ c w h
  by_cases hn : l = []
  · subst hn; exact bytes_nil a c w
  · obtain ⟨b, off, rfl, hb, hc⟩ := hu hn
    exact bytes_some b off c l w (by omega) hb hc
def mofR (s : List UInt8) (many : Int) : List Bool × Nat := (ofOnes (unpR s many 1).1, (unpR s many 1).2)
theorem unp_bad (s : List UInt8) (many wide : Int) (h : (unpR s many wide).2 ≠ 0) : (unpR s many wide).1 = [] := by
  unfold unpR at *
  by_cases hc : chkR s many wide = 0
  · rw [if_pos hc] at h; exact absurd rfl h
  · rw [if_neg hc]
theorem unp_len (s : List UInt8) (many wide : Int) : (unpR s many wide).1.length ≤ 64 := by
  unfold unpR
  by_cases hc : chkR s many wide = 0
  · obtain ⟨m, n, rfl, rfl, hm, _⟩ := chk_zero _ _ _ hc
    rw [if_pos hc, B.dg_length]; simpa using hm
  · rw [if_neg hc]; simp
theorem of_next (l : List Nat) (k n : Nat) (hn : l.length = n) (hk : k < n) : ((ofOnes l).take k ++ List.replicate (n - k) false).set k (l.getD k 0 == 1) = (ofOnes l).take (k + 1) ++ List.replicate (n - (k + 1)) false := by
  have := put_next (ofOnes l) k n (by simp [ofOnes, hn]) hk
  have e : (ofOnes l).getD k false = (l.getD k 0 == 1) := by simp [ofOnes, List.getD, List.getElem?_eq_getElem (show k < l.length by omega)]
  rwa [e] at this
set_option maxHeartbeats 1000000 in
set_option maxRecDepth 100000 in
theorem mof_any (s : ByteArray) (many : Int) (w : World) (hs : s.size ≤ maxLen) :
    Calls Tryz.prog 82 #[.string s, .int .i64 many] w (MarkPost (mofR s.data.toList many) w) := by
  obtain ⟨i0, hi, hz0, hz1, hz2⟩ := info_parts info_bool
  have HU := Lib.hid (fun w => unpack_any s many 1 w hs)
  have hlen := unp_len s.data.toList many 1
  have hbad := unp_bad s.data.toList many 1
  unfold mofR
  generalize unpR s.data.toList many 1 = u at *
  obtain ⟨xs, er⟩ := u
  simp only at hlen hbad ⊢
  by_cases he : er = 0
  · subst he
    clear hbad
    have HON := Lib.hid (fun k hk => of_next xs k xs.length rfl hk)
    have HOL := Lib.hid (show (ofOnes xs).length = xs.length by simp [ofOnes])
    generalize ofOnes xs = zs at *
    go_enter Tryz.func82, Tryz.ntmps82
    go_wp2_with fail
    refine (HU.out _).mono ?_
    rintro e w1 ⟨a1, c1, rfl, hn1, hb1⟩
    simp only at hn1 ⊢
    generalize hln : xs.length = n at *
    have HLN := Lib.hid hln
    clear hln
    go_wp2_with (at_make; refine wpList_make_full _ rfl (.tmp 21) (.tmp 21) 39 rfl w1.heap.size 4 i0 (.bool false) 1 Tryz.underlying39 hi hz0 hz1 .i64 .i64 _ _ n rfl rfl rfl rfl (by rw [hz2]; omega) (by unfold maxLen; omega) (Nat.le_refl _) ?_; intro w0 hown0 hgrow0)
    have hb0 : Below w1.heap.size w1 w0 := (Below.refl _ _).grown hgrow0 (Nat.le_refl _) (fun k hk => by cases hk)
    have hblk0 := made_mblk hown0
    clear hown0 hgrow0
    obtain ⟨g, hge⟩ : ∃ g, g = w1.heap.size := ⟨_, rfl⟩
    rw [← hge] at hblk0 ⊢
    have hgw : w1.heap.size ≤ g := by omega
    clear hge
    have HN1 := Lib.hid hn1
    clear hn1
    by_cases hz : n = 0
    · have hzs : zs = [] := List.eq_nil_of_length_eq_zero (by rw [HOL.out]; exact hz)
      subst hz
      subst hzs
      refine wp_loop_rounds 1 ?_
      rw [rounds_succ]
      go_wp2_with fail
      go_ret2
      exact ⟨_, _, rfl, Bools.nil _ _ _, below_then hb1 hb0⟩
    obtain ⟨b, off, rfl, hbl, hcl⟩ := HN1.out (by intro e; rw [e] at HLN; exact hz HLN.out.symm)
    have HCL := Lib.hid hcl
    clear hcl hz HN1
    go_loopw [9, 10, 25] (fun _ _ i wr => ∃ k : Nat, k ≤ n ∧ i = .int .i64 k ∧ MBlk wr g (zs.take k ++ List.replicate (n - k) false) ∧ Below w1.heap.size w1 wr) (fun _ _ i _ => n - (intOf i).toNat)
    case atStart => exact ⟨0, by omega, rfl, by simpa using hblk0, hb0⟩
    case round =>
      obtain ⟨k, hk, rfl, hblk, hbw⟩ := hrel
      by_cases hlt : k < n
      · have hcell : wr.cell? ⟨b, off + k, none⟩ = some (.int .u64 ((xs.getD k 0 : Nat) : Int)) := (hbw.cell (p := ⟨b, off + k, none⟩) hbl).trans (HCL.out k (by rw [HLN.out]; exact hlt))
        have ol : k < (zs.take k ++ List.replicate (n - k) false).length := by simp only [List.length_append, List.length_take, HOL.out, List.length_replicate]; omega
        have o1 := hblk.cell k ol
        have o2 := hblk.free k
        have hq : ((xs.getD k 0 : Int) == 1) = (xs.getD k 0 == 1) := by rw [Bool.eq_iff_iff]; simp; omega
        have hb2 := hblk.put k (xs.getD k 0 == 1)
        rw [HON.out k hlt] at hb2
        generalize xs.getD k 0 = x at *
        generalize (x == 1) = bx at *
        have hw2 : Below w1.heap.size w1 (wr.setCell ⟨g, k, none⟩ (.bool bx)) := hbw.setCell hgw _
        generalize (zs.take k ++ List.replicate (n - k) false).getD k false = oz at *
        clear ol
        go_wp2_with fail
        exact ⟨⟨k + 1, by omega, by go_num, hb2, hw2⟩, by simp [intOf]; omega⟩
      · obtain rfl : k = n := by omega
        rw [List.take_of_length_le (by rw [HOL.out]; omega), Nat.sub_self, List.replicate_zero, List.append_nil] at hblk
        have hr := hblk.bools
        have HLZ := Lib.hid HOL.out
        go_wp2_with fail
        go_ret2
        refine ⟨some ⟨g, 0, none⟩, k, ?_, hr, below_then hb1 hbw⟩
        rw [HLZ.out]; rfl
  · have hb := hbad he
    subst hb
    have g1 : ((er : Int) != 0) = true := by rw [bne_iff_ne]; omega
    clear he hbad
    go_enter Tryz.func82, Tryz.ntmps82
    go_wp2_with fail
    refine (HU.out _).mono ?_
    rintro e w1 ⟨a1, c1, rfl, hn1, hb1⟩
    simp only at hn1 ⊢
    go_wp2_with fail
    go_ret2
    exact ⟨none, 0, rfl, Bools.nil _ _ _, hb1⟩
end Go.Proofs.YtcachhnhncodoaaGreat
namespace Go.Proofs.YtcachhnhncodoaaGreat
open Go.RowKit
set_option linter.unusedVariables false
def NumsPost (l : List Nat) (w : World) (e : Ending) (w' : World) : Prop :=
  ∃ a c, e = .returned (.slice a l.length c) ∧ Nums w' w'.heap.size a l ∧ Below w.heap.size w w'
set_option maxHeartbeats 1000000 in
set_option maxRecDepth 100000 in
theorem onesOf_some (b off c : Nat) (l : List Bool) (w : World) (hl : l.length * 8 ≤ 140737488355328) (hb : b < w.heap.size)
    (hc : ∀ i, i < l.length → w.cell? ⟨b, off + i, none⟩ = some (.bool (l.getD i false))) :
    Calls Tryz.prog 36 #[.slice (some ⟨b, off, none⟩) l.length c] w (NumsPost (ones l) w) := by
  have HC := Lib.hid hc
  have HSN := Lib.hid (fun k hk => ones_snoc l k hk)
  have HOL := Lib.hid (fun k => ones_length (l.take k))
  clear hc
  go_enter Tryz.func36, Tryz.ntmps36
  go_wp2_with fail
  go_loopw [3, 4] (fun v i wr => ∃ k : Nat, k ≤ l.length ∧ i = .int .i64 k ∧ NumRow w.heap.size (ones (l.take k)) v wr ∧ Below w.heap.size w wr) (fun _ i _ => l.length - (intOf i).toNat)
  case atStart => exact ⟨0, by omega, rfl, ⟨rfl, Or.inl ⟨rfl, rfl⟩⟩, Below.refl _ _⟩
  case round =>
    obtain ⟨k, hk, rfl, hrow, hbw⟩ := hrel
    by_cases hlt : k < l.length
    · have hcell : wr.cell? ⟨b, off + k, none⟩ = some (.bool (l.getD k false)) := (hbw.cell (p := ⟨b, off + k, none⟩) hb).trans (HC.out k hlt)
      have hsn := HSN.out k hlt
      have hln := HOL.out k
      rw [List.length_take] at hln
      generalize ones (l.take k) = xs at *
      have HROW := Lib.hid hrow
      have hxl : (xs.length + 1) * 8 ≤ 140737488355328 := by omega
      clear hrow hln
      cases hx : l.getD k false with
      | true =>
        rw [hx] at hcell hsn
        have HS := Lib.hid hsn
        clear hsn hx
        have hb5 : w.heap.size ≤ (wr.alloc (.cells #[.int .u64 ((1 : Nat) : Int)] 34)).heap.size := by have := hbw.size; simp; omega
        go_wp2_with (at_builtin; refine wpList_append_one rfl (.tmp 15) (.tmp 16) rfl w.heap.size _ xs.length _ rfl (HROW.out.alloc _) wr.heap.size 1 rfl (World.cell?_alloc_new _ _ _ _) hxl hb5 ?_)
        intro v' w2 hown2 hgrow2
        go_wp2_with fail
        have hbw2 : Below w.heap.size w w2 := (hbw.alloc hbw.size _).grown hgrow2 (by have := hbw.size; simp; omega) (fun k hk => (HROW.out.lt k hk).1)
        refine ⟨⟨k + 1, by omega, by go_num, ?_, hbw2⟩, by simp [intOf]; omega⟩
        rw [HS.out]; unfold NumRow; simpa [nv] using hown2
      | false =>
        rw [hx] at hcell hsn
        have HS := Lib.hid hsn
        clear hsn hx
        have hb5 : w.heap.size ≤ (wr.alloc (.cells #[.int .u64 ((0 : Nat) : Int)] 34)).heap.size := by have := hbw.size; simp; omega
        go_wp2_with (at_builtin; refine wpList_append_one rfl (.tmp 18) (.tmp 19) rfl w.heap.size _ xs.length _ rfl (HROW.out.alloc _) wr.heap.size 0 rfl (World.cell?_alloc_new _ _ _ _) hxl hb5 ?_)
        intro v' w2 hown2 hgrow2
        go_wp2_with fail
        have hbw2 : Below w.heap.size w w2 := (hbw.alloc hbw.size _).grown hgrow2 (by have := hbw.size; simp; omega) (fun k hk => (HROW.out.lt k hk).1)
        refine ⟨⟨k + 1, by omega, by go_num, ?_, hbw2⟩, by simp [intOf]; omega⟩
        rw [HS.out]; unfold NumRow; simpa [nv] using hown2
    · obtain rfl : k = l.length := by omega
      rw [List.take_length] at hrow
      obtain ⟨a, c', rfl, hnum⟩ := numRow_nums hrow
      generalize ones l = xs at *
      go_wp2_with fail
      go_ret
      exact ⟨a, c', rfl, hnum, hbw⟩
set_option maxHeartbeats 400000 in
theorem onesOf_nil (a : Option Addr) (c : Nat) (w : World) :
    Calls Tryz.prog 36 #[.slice a 0 c] w (NumsPost [] w) := by
  go_enter Tryz.func36, Tryz.ntmps36
  go_wp2_with fail
  refine wp_loop_rounds 1 ?_
  rw [rounds_succ]
  go_wp2_with fail
  go_ret
  exact ⟨none, 0, rfl, Nums.nil _ _ _, Below.refl _ _⟩
theorem onesOf_any (a : Option Addr) (c : Nat) (l : List Bool) (w : World) (hl : l.length * 8 ≤ 140737488355328) (hu : Bools w w.heap.size a l) :
    Calls Tryz.prog 36 #[.slice a l.length c] w (NumsPost (ones l) w) := by
  by_cases hn : l = []
  · subst hn; exact onesOf_nil a c w
  · obtain ⟨b, off, rfl, hb, hc⟩ := hu hn
    exact onesOf_some b off c l w hl hb hc
end Go.Proofs.YtcachhnhncodoaaGreat
namespace Go.Proofs.YtcachhnhncodoaaGreat
open Go.RowKit
set_option linter.unusedVariables false
theorem bytes_back (l : List Bool) (h : l.length ≤ 64) : ∃ t, bytesR l = (t, 0) ∧ t.length ≤ maxLen ∧ mofR t l.length = (l, 0) := by
  have hf : ∀ x ∈ ones l, x < 2 ^ 1 := ones_lt l
  have hl : (ones l).length ≤ 64 := by rw [ones_length]; exact h
  obtain ⟨hun, _⟩ := unp_pack 1 (ones l) (by omega) hl hf
  rw [ones_length] at hun
  refine ⟨B.le (B.sz (l.length * 1)) (B.pk 1 (ones l)), ?_, ?_, ?_⟩
  · have hwd : B.wd (ones l) ≤ 1 := (B.wd_le _ _).2 hf
    rw [bytesR, packR, if_neg (by omega), if_neg (by omega), if_neg (by show ¬ (1 < B.wd (ones l)); omega), ones_length]; rfl
  · rw [B.le_length]; unfold B.sz maxLen; omega
  · unfold mofR
    have e : ((1 : Nat) : Int) = 1 := rfl
    rw [e] at hun
    rw [hun, ofOnes_ones]
theorem of_back (s : List UInt8) (many : Int) (h : (mofR s many).2 = 0) : bytesR (mofR s many).1 = (s, 0) ∧ ((mofR s many).1.length : Int) = many := by
  unfold mofR at h ⊢
  simp only at h ⊢
  unfold unpR at h ⊢
  by_cases hc : chkR s many 1 = 0
  · rw [if_pos hc]
    obtain ⟨h1, h2⟩ := pack_unp s many 1 hc
    have hlt := B.dg_lt (1 : Int).toNat many.toNat (B.leN s)
    have hob : ones (ofOnes (B.dg (1 : Int).toNat many.toNat (B.leN s))) = B.dg (1 : Int).toNat many.toNat (B.leN s) := ones_ofOnes _ hlt
    refine ⟨by rw [bytesR, hob]; exact h1, by simp only [ofOnes, List.length_map]; exact h2⟩
  · rw [if_neg hc] at h; exact absurd h hc
theorem of_bad (s : List UInt8) (many : Int) (h : (mofR s many).2 ≠ 0) : (mofR s many).1 = [] := by
  unfold mofR at h ⊢
  simp only at h ⊢
  rw [unp_bad s many 1 h]; rfl
end Go.Proofs.YtcachhnhncodoaaGreat
namespace Go.Proofs.YtcachhnhncodoaaGreat.Ad
def E (a b : Nat) : Prop := a % 65521 = b % 65521
theorem E.rfl {a : Nat} : E a a := Eq.refl _
theorem E.of {a b : Nat} (h : a = b) : E a b := by subst h; exact E.rfl
theorem E.symm {a b : Nat} (h : E a b) : E b a := Eq.symm h
theorem E.trans {a b c : Nat} (h : E a b) (k : E b c) : E a c := Eq.trans h k
theorem E.add {a b c d : Nat} (h : E a b) (k : E c d) : E (a + c) (b + d) := by unfold E at *; omega
theorem E.mul {a b c d : Nat} (h : E a b) (k : E c d) : E (a * c) (b * d) := by
  unfold E at *
  rw [Nat.mul_mod, h, k, ← Nat.mul_mod]
theorem E.mod (a : Nat) : E (a % 65521) a := by unfold E; omega
theorem E.off {a b c : Nat} (h : E (a + c) (b + c)) : E a b := by unfold E at *; omega
theorem E.lt {a b : Nat} (h : E a b) (ha : a < 65521) (hb : b < 65521) : a = b := by unfold E at *; omega
def stp (p : Nat × Nat) (b : UInt8) : Nat × Nat := ((p.1 + b.toNat) % 65521, (p.2 + (p.1 + b.toNat) % 65521) % 65521)
def run (p : Nat × Nat) (s : List UInt8) : Nat × Nat := s.foldl stp p
def lo (c : Nat) : Nat := c % 65536 % 65521
def hi (c : Nat) : Nat := c / 65536 % 65521
def sum (p : Nat × Nat) : Nat := p.2 * 65536 + p.1
def more (c : Nat) (s : List UInt8) : Nat := sum (run (lo c, hi c) s)
def of (s : List UInt8) : Nat := more 1 s
def S : List UInt8 → Nat
  | [] => 0
  | b :: t => b.toNat + S t
def Wt : List UInt8 → Nat
  | [] => 0
  | b :: t => (t.length + 1) * b.toNat + Wt t
theorem S_append (s t : List UInt8) : S (s ++ t) = S s + S t := by
  induction s with
  | nil => simp [S]
  | cons b s ih => simp only [List.cons_append, S, ih]; omega
theorem W_append (s t : List UInt8) : Wt (s ++ t) = Wt s + t.length * S s + Wt t := by
  induction s with
  | nil => simp [S, Wt]
  | cons b s ih =>
    simp only [List.cons_append, S, Wt, ih, List.length_append, Nat.mul_add, Nat.add_mul, Nat.one_mul]
    omega
def Ok (p : Nat × Nat) : Prop := p.1 < 65521 ∧ p.2 < 65521
theorem lo_lt (c : Nat) : lo c < 65521 := Nat.mod_lt _ (by omega)
theorem hi_lt (c : Nat) : hi c < 65521 := Nat.mod_lt _ (by omega)
theorem ok_c (c : Nat) : Ok (lo c, hi c) := ⟨lo_lt c, hi_lt c⟩
theorem stp_ok (p : Nat × Nat) (b : UInt8) : Ok (stp p b) := ⟨Nat.mod_lt _ (by omega), Nat.mod_lt _ (by omega)⟩
theorem run_ok (s : List UInt8) (p : Nat × Nat) (h : Ok p) : Ok (run p s) := by
  induction s generalizing p with
  | nil => exact h
  | cons b s ih => exact ih _ (stp_ok p b)
theorem run_snoc (s : List UInt8) (b : UInt8) (p : Nat × Nat) : run p (s ++ [b]) = stp (run p s) b := by simp [run]
theorem run_append (s t : List UInt8) (p : Nat × Nat) : run p (s ++ t) = run (run p s) t := List.foldl_append
theorem run_E (s : List UInt8) (p : Nat × Nat) : E (run p s).1 (p.1 + S s) ∧ E (run p s).2 (p.2 + s.length * p.1 + Wt s) := by
  induction s generalizing p with
  | nil => exact ⟨E.of (by simp [run, S]), E.of (by simp [run, Wt])⟩
  | cons b s ih =>
    have h := ih (stp p b)
    refine ⟨h.1.trans ?_, h.2.trans ?_⟩
    · show E ((p.1 + b.toNat) % 65521 + S s) (p.1 + (b.toNat + S s))
      unfold E; omega
    · show E ((p.2 + (p.1 + b.toNat) % 65521) % 65521 + s.length * ((p.1 + b.toNat) % 65521) + Wt s) (p.2 + (s.length + 1) * p.1 + ((s.length + 1) * b.toNat + Wt s))
      have h1 : E ((p.2 + (p.1 + b.toNat) % 65521) % 65521) (p.2 + (p.1 + b.toNat)) := by unfold E; omega
      have h2 : E (s.length * ((p.1 + b.toNat) % 65521)) (s.length * (p.1 + b.toNat)) := E.rfl.mul (E.mod _)
      refine ((h1.add h2).add E.rfl).trans (E.of ?_)
      simp only [Nat.mul_add, Nat.add_mul, Nat.one_mul]
      omega
theorem sum_inj {p q : Nat × Nat} (hp : Ok p) (hq : Ok q) : sum p = sum q ↔ p = q := by
  obtain ⟨a, b⟩ := p; obtain ⟨c, d⟩ := q
  unfold sum Ok at *
  simp only [Prod.mk.injEq] at *
  omega
theorem lo_sum {p : Nat × Nat} (hp : Ok p) : lo (sum p) = p.1 := by unfold lo sum Ok at *; omega
theorem hi_sum {p : Nat × Nat} (hp : Ok p) : hi (sum p) = p.2 := by unfold hi sum Ok at *; omega
theorem sum_lt {p : Nat × Nat} (hp : Ok p) : sum p < 4294967296 := by unfold sum Ok at *; omega
theorem more_lt (c : Nat) (s : List UInt8) : more c s < 4294967296 := sum_lt (run_ok s _ (ok_c c))
theorem of_lt (s : List UInt8) : of s < 4294967296 := more_lt 1 s
theorem lo_of (s : List UInt8) : lo (of s) = (run (1, 0) s).1 := lo_sum (run_ok s _ (ok_c 1))
theorem hi_of (s : List UInt8) : hi (of s) = (run (1, 0) s).2 := hi_sum (run_ok s _ (ok_c 1))
theorem more_of (s t : List UInt8) : more (of s) t = of (s ++ t) := by
  unfold more
  rw [lo_of, hi_of]
  unfold of more
  rw [run_append]; rfl
def joined (a b n : Nat) : Nat := sum ((lo b + (lo a + 65520)) % 65521, (hi a + hi b + n % 65521 * (lo a + 65520)) % 65521)
theorem joined_of (s t : List UInt8) : joined (of s) (of t) t.length = of (s ++ t) := by
  have hs := run_E s (1, 0)
  have ht := run_E t (1, 0)
  have hst := run_E (s ++ t) (1, 0)
  unfold joined
  rw [lo_of, lo_of, hi_of, hi_of]
  show sum _ = sum (run (1, 0) (s ++ t))
  rw [sum_inj ⟨Nat.mod_lt _ (by omega), Nat.mod_lt _ (by omega)⟩ (run_ok _ _ ⟨by decide, by decide⟩)]
  have hok := run_ok (s ++ t) (1, 0) ⟨by decide, by decide⟩
  refine Prod.ext ?_ ?_
  · refine E.lt ((E.mod _).trans (E.trans ?_ hst.1.symm)) (Nat.mod_lt _ (by omega)) hok.1
    rw [S_append]
    refine (ht.1.add (hs.1.add E.rfl)).trans ?_
    unfold E
    simp only
    omega
  · refine E.lt ((E.mod _).trans (E.trans ?_ hst.2.symm)) (Nat.mod_lt _ (by omega)) hok.2
    rw [W_append]
    have h3 : E (t.length % 65521 * ((run (1, 0) s).1 + 65520)) (t.length * (1 + S s + 65520)) := (E.mod _).mul (hs.1.add E.rfl)
    refine ((hs.2.add ht.2).add h3).trans ?_
    simp only [List.length_append, Nat.mul_add, Nat.mul_one, Nat.zero_add]
    unfold E
    omega
def rolled (c n out inn : Nat) : Nat :=
  sum ((lo c + 65521 - out + inn) % 65521, (hi c + (lo c + 65521 - out + inn) + 65521 - (1 + n % 65521 * out) % 65521) % 65521)
theorem rolled_of (b x : UInt8) (t : List UInt8) : rolled (of (b :: t)) (t.length + 1) b.toNat x.toNat = of (t ++ [x]) := by
  have hs := run_E (b :: t) (1, 0)
  have hst := run_E (t ++ [x]) (1, 0)
  have hb := UInt8.toNat_lt b
  unfold rolled
  rw [lo_of, hi_of]
  show sum _ = sum (run (1, 0) (t ++ [x]))
  rw [sum_inj ⟨Nat.mod_lt _ (by omega), Nat.mod_lt _ (by omega)⟩ (run_ok _ _ ⟨by decide, by decide⟩)]
  have hok := run_ok (t ++ [x]) (1, 0) ⟨by decide, by decide⟩
  rw [S_append] at hst
  rw [W_append] at hst
  have h3 : E (1 + (t.length + 1) % 65521 * b.toNat) (1 + (t.length + 1) * b.toNat) := E.rfl.add ((E.mod _).mul E.rfl)
  generalize (1 + (t.length + 1) % 65521 * b.toNat) = m at *
  generalize run (1, 0) (b :: t) = p at *
  generalize run (1, 0) (t ++ [x]) = q at *
  obtain ⟨a1, a2⟩ := p
  obtain ⟨b1, b2⟩ := q
  simp only [S, Wt, List.length_cons, List.length_append, List.length_nil, Nat.mul_one, Nat.zero_add, Nat.one_mul, Nat.add_zero] at *
  generalize (t.length + 1) * b.toNat = v at *
  generalize S t = s1 at *
  generalize Wt t = w1 at *
  generalize b.toNat = bn at *
  generalize x.toNat = xn at *
  generalize t.length = n at *
  obtain ⟨h1, h2⟩ := hs
  obtain ⟨k1, k2⟩ := hst
  unfold Ok at hok
  unfold E at *
  simp only at *
  refine Prod.ext ?_ ?_
  · simp only; omega
  · simp only; omega
theorem same_of (s t : List UInt8) : of s = of t ↔ run (1, 0) s = run (1, 0) t :=
  sum_inj (run_ok s _ ⟨by decide, by decide⟩) (run_ok t _ ⟨by decide, by decide⟩)
theorem byte_of (s t : List UInt8) (b x : UInt8) : (of (s ++ [b] ++ t) == of (s ++ [x] ++ t)) = (x == b) := by
  by_cases h : x = b
  · subst h; simp
  · rw [show (x == b) = false by simpa using h, beq_eq_false_iff_ne]
    intro he
    rw [same_of] at he
    have h1 := (run_E (s ++ [b] ++ t) (1, 0)).1
    have h2 := (run_E (s ++ [x] ++ t) (1, 0)).1
    rw [he] at h1
    have h3 := h1.symm.trans h2
    simp only [S_append, S] at h3
    have hb := UInt8.toNat_lt b
    have hx := UInt8.toNat_lt x
    have : x.toNat ≠ b.toNat := fun e => h (UInt8.toNat_inj.1 e)
    unfold E at h3
    omega
theorem swap_of (s t : List UInt8) (b x : UInt8) : (of (s ++ [x] ++ [b] ++ t) == of (s ++ [b] ++ [x] ++ t)) = (b == x) := by
  by_cases h : b = x
  · subst h; simp
  · rw [show (b == x) = false by simpa using h, beq_eq_false_iff_ne]
    intro he
    rw [same_of] at he
    have h1 := (run_E (s ++ [x] ++ [b] ++ t) (1, 0)).2
    have h2 := (run_E (s ++ [b] ++ [x] ++ t) (1, 0)).2
    rw [he] at h1
    have h3 := h1.symm.trans h2
    have hb := UInt8.toNat_lt b
    have hx := UInt8.toNat_lt x
    have hne : b.toNat ≠ x.toNat := fun e => h (UInt8.toNat_inj.1 e)
    simp only [S_append, W_append, S, Wt, List.length_append, List.length_cons, List.length_nil, Nat.add_zero, Nat.zero_add, Nat.one_mul, Nat.mul_one, Nat.mul_add] at h3
    generalize t.length * x.toNat = u at *
    generalize t.length * b.toNat = v at *
    generalize t.length * S s = z at *
    generalize Wt t = y at *
    generalize Wt s = y' at *
    generalize t.length = n at *
    generalize s.length = n' at *
    unfold E at h3
    omega
def rst (n : Nat) (i : Nat) (p : Nat × Nat) (b : UInt8) : Nat × Nat := (p.1 + b.toNat, (p.2 + (n - i) % 65521 * b.toNat) % 65521)
def rrun (p : Nat × Nat) : List UInt8 → Nat × Nat
  | [] => p
  | b :: t => rrun (p.1 + b.toNat, (p.2 + (t.length + 1) % 65521 * b.toNat) % 65521) t
theorem rrun_E (s : List UInt8) (p : Nat × Nat) : (rrun p s).1 = p.1 + S s ∧ E (rrun p s).2 (p.2 + Wt s) := by
  induction s generalizing p with
  | nil => exact ⟨rfl, E.rfl⟩
  | cons b s ih =>
    have h := ih (p.1 + b.toNat, (p.2 + (s.length + 1) % 65521 * b.toNat) % 65521)
    refine ⟨h.1.trans (by simp only [S]; omega), h.2.trans ?_⟩
    show E ((p.2 + (s.length + 1) % 65521 * b.toNat) % 65521 + Wt s) (p.2 + ((s.length + 1) * b.toNat + Wt s))
    have h1 : E ((p.2 + (s.length + 1) % 65521 * b.toNat) % 65521) (p.2 + (s.length + 1) * b.toNat) := (E.mod _).trans (E.rfl.add ((E.mod _).mul E.rfl))
    refine (h1.add E.rfl).trans (E.of (by omega))
def rmore (c : Nat) (s : List UInt8) : Nat :=
  let r := rrun (lo c, hi c + s.length % 65521 * lo c) s
  r.2 % 65521 * 65536 + r.1 % 65521
theorem rmore_is (c : Nat) (s : List UInt8) : rmore c s = more c s := by
  have h := run_E s (lo c, hi c)
  have hok := run_ok s _ (ok_c c)
  have k := rrun_E s (lo c, hi c + s.length % 65521 * lo c)
  unfold rmore more sum
  have e1 : (rrun (lo c, hi c + s.length % 65521 * lo c) s).1 % 65521 = (run (lo c, hi c) s).1 :=
    E.lt ((E.mod _).trans ((E.of k.1).trans h.1.symm)) (Nat.mod_lt _ (by omega)) hok.1
  have e2 : (rrun (lo c, hi c + s.length % 65521 * lo c) s).2 % 65521 = (run (lo c, hi c) s).2 := by
    refine E.lt ((E.mod _).trans (k.2.trans (E.trans ?_ h.2.symm))) (Nat.mod_lt _ (by omega)) hok.2
    exact (E.rfl.add ((E.mod _).mul E.rfl)).add E.rfl
  simp only [e1, e2]
def rjoined (a b n : Nat) : Nat := (hi a + hi b + n % 65521 * ((lo a + 65520) % 65521)) % 65521 * 65536 + (lo a + lo b + 65520) % 65521
theorem rjoined_is (a b n : Nat) : rjoined a b n = joined a b n := by
  unfold rjoined joined sum
  have h1 : E (hi a + hi b + n % 65521 * ((lo a + 65520) % 65521)) (hi a + hi b + n % 65521 * (lo a + 65520)) := E.rfl.add (E.rfl.mul (E.mod _))
  unfold E at h1
  rw [h1, show lo a + lo b + 65520 = lo b + (lo a + 65520) by omega]
def rrolled (c n out inn : Nat) : Nat :=
  (hi c + 65521 * 256 - n % 65521 * out % 65521 + (lo c + 65521 - out + inn) % 65521 + 65520) % 65521 * 65536 + (lo c + 65521 - out + inn) % 65521
theorem rrolled_is (c n out inn : Nat) : rrolled c n out inn = rolled c n out inn := by
  unfold rrolled rolled sum
  generalize n % 65521 * out = m
  generalize (lo c + 65521 - out + inn) = l
  simp only
  have : (hi c + 65521 * 256 - m % 65521 + l % 65521 + 65520) % 65521 = (hi c + l + 65521 - (1 + m) % 65521) % 65521 := by omega
  rw [this]
end Go.Proofs.YtcachhnhncodoaaGreat.Ad
namespace Go.Proofs.YtcachhnhncodoaaGreat
open Go.RowKit
set_option linter.unusedVariables false
def hd (p q : Nat) : Array Value := #[.int .u64 (p : Int), .int .u64 (q : Int)]
def hv (p q : Nat) : Value := .agg (hd p q)
def Duo (w : World) (b : Nat) (p q : Nat) : Prop := w.heap[b]? = some (.cells (hd p q) 126 (0, 0))
theorem Duo.c0 {w : World} {b p q : Nat} (h : Duo w b p q) : w.cell? ⟨b, 0, none⟩ = some (.int .u64 (p : Int)) := by
  unfold Duo hd at h; simp [World.cell?, h]
theorem Duo.c1 {w : World} {b p q : Nat} (h : Duo w b p q) : w.cell? ⟨b, 1, none⟩ = some (.int .u64 (q : Int)) := by
  unfold Duo hd at h; simp [World.cell?, h]
theorem Duo.free {w : World} {b p q : Nat} (h : Duo w b p q) (i : Nat) : w.frozen? ⟨b, i, none⟩ = false := by unfold Duo at h; simp [World.frozen?, h]
theorem Duo.lt {w : World} {b p q : Nat} (h : Duo w b p q) : b < w.heap.size := lt_of_block h
theorem Duo.next {w w' : World} {b p q : Nat} (h : Duo w b p q) (hb : Below w.heap.size w w') : Duo w' b p q := (hb.block b h.lt).trans h
theorem Duo.put0 {w : World} {b p q : Nat} (h : Duo w b p q) (x : Nat) : Duo (w.setCell ⟨b, 0, none⟩ (.int .u64 (x : Int))) b x q := by
  unfold Duo hd at *; simp [World.setCell, Array.getElem?_modify, h]
theorem Duo.put1 {w : World} {b p q : Nat} (h : Duo w b p q) (x : Nat) : Duo (w.setCell ⟨b, 1, none⟩ (.int .u64 (x : Int))) b p x := by
  unfold Duo hd at *; simp [World.setCell, Array.getElem?_modify, h]
theorem Duo.drew {w : World} {b p q : Nat} (h : Duo w b p q) : Duo w.drew b p q := h
theorem duo_new (w : World) (p q : Nat) : Duo (w.alloc (.cells (hd p q) 126)) w.heap.size p q := heap_alloc_new _ _
theorem and_u32 (c : Nat) (hc : c < 4294967296) : bits .and .u32 (c : Int) 65535 = ((c % 65536 : Nat) : Int) := by
  have h1 : (BitVec.ofInt 32 (c : Int)).toNat = c := by
    rw [BitVec.ofInt_natCast, BitVec.toNat_ofNat]; exact Nat.mod_eq_of_lt (by omega)
  have h2 : (BitVec.ofInt 32 (65535 : Int)).toNat = 65535 := by decide
  show IntKind.u32.wrap ((BitVec.ofInt 32 (c : Int) &&& BitVec.ofInt 32 (65535 : Int)).toNat : Int) = _
  rw [BitVec.toNat_and, h1, h2, show (65535 : Nat) = 2 ^ 16 - 1 from rfl, Nat.and_two_pow_sub_one_eq_mod, IntKind.wrap_u32]
  omega
theorem or_u32 (a b : Nat) (ha : a < 65536) (hb : b < 65536) : bits .or .u32 ((a : Int) * 65536) (b : Int) = ((a * 65536 + b : Nat) : Int) := by
  have h1 : (BitVec.ofInt 32 ((a * 65536 : Nat) : Int)).toNat = a * 65536 := by
    rw [BitVec.ofInt_natCast, BitVec.toNat_ofNat]; exact Nat.mod_eq_of_lt (by omega)
  have h2 : (BitVec.ofInt 32 (b : Int)).toNat = b := by
    rw [BitVec.ofInt_natCast, BitVec.toNat_ofNat]; exact Nat.mod_eq_of_lt (by omega)
  rw [show (a : Int) * 65536 = ((a * 65536 : Nat) : Int) by omega]
  show IntKind.u32.wrap ((BitVec.ofInt 32 ((a * 65536 : Nat) : Int) ||| BitVec.ofInt 32 (b : Int)).toNat : Int) = _
  rw [BitVec.toNat_or, h1, h2, Nat.mul_comm, show (65536 : Nat) = 2 ^ 16 from rfl, ← Nat.two_pow_add_eq_or_of_lt (by omega), IntKind.wrap_u32]
  omega
def HvPost (p q : Nat) (w : World) (e : Ending) (w' : World) : Prop := e = .returned (.agg #[.int .u64 (p : Int), .int .u64 (q : Int)]) ∧ Below w.heap.size w w'
def U32Post (n : Nat) (w : World) (e : Ending) (w' : World) : Prop := e = .returned (.int .u32 (n : Int)) ∧ Below w.heap.size w w'
set_option maxHeartbeats 1000000 in
theorem split_any (c : Nat) (w : World) (hc : c < 4294967296) :
    Calls Tryz.prog 114 #[.int .u32 c] w (HvPost (Ad.lo c) (Ad.hi c) w) := by
  have ha := and_u32 c hc
  have hlo : (c : Int) % 65536 % 65521 = (Ad.lo c : Int) := by unfold Ad.lo; omega
  have hhi : (c : Int) / 65536 % 65521 = (Ad.hi c : Int) := by unfold Ad.hi; omega
  have hl := Ad.lo_lt c
  have hh := Ad.hi_lt c
  generalize Ad.lo c = p at *
  generalize Ad.hi c = q at *
  have hn := duo_new w 0 0
  have hs := (hn.put0 p).put1 q
  have z0 := hs.c0
  have z1 := hs.c1
  have hbw : Below w.heap.size w (w.alloc (.cells (hd 0 0) 126)) := (Below.refl _ _).alloc (Nat.le_refl _) _
  unfold hd at hn hs hbw z0 z1
  clear hs
  go_enter Tryz.func114, Tryz.ntmps114
  go_wp2_with fail
  refine bodyPost_ret (v := .agg #[.int .u64 (p : Int), .int .u64 (q : Int)]) (by simp [results, Tryz.results114, go_sem]) rfl ⟨rfl, ?_⟩
  exact (Below.refl _ _).alloc (Nat.le_refl _) _
set_option maxHeartbeats 1000000 in
theorem sum_any (p q : Nat) (w : World) (hp : p < 18446744073709551616) (hq : q < 18446744073709551616) :
    Calls Tryz.prog 115 #[.agg #[.int .u64 (p : Int), .int .u64 (q : Int)]] w (U32Post (Ad.sum (p % 65521, q % 65521)) w) := by
  have ho := or_u32 (q % 65521) (p % 65521) (by omega) (by omega)
  rw [show ((q % 65521 : Nat) : Int) = (q : Int) % 65521 by omega, show ((p % 65521 : Nat) : Int) = (p : Int) % 65521 by omega] at ho
  go_enter Tryz.func115, Tryz.ntmps115
  go_wp2_with fail
  go_ret
  refine ⟨?_, (Below.refl _ _).alloc (Nat.le_refl _) _⟩
  show Ending.returned (.int .u32 ((q : Int) % 65521 * 65536 + (p : Int) % 65521)) = _
  rw [show (q : Int) % 65521 * 65536 + (p : Int) % 65521 = ((Ad.sum (p % 65521, q % 65521) : Nat) : Int) by unfold Ad.sum; omega]
end Go.Proofs.YtcachhnhncodoaaGreat
namespace Go.Proofs.YtcachhnhncodoaaGreat
open Go.RowKit
set_option linter.unusedVariables false
set_option maxHeartbeats 4000000 in
set_option maxRecDepth 100000 in
theorem more_core (c : Nat) (x : List UInt8) (X : ByteArray) (w : World) (hc : c < 4294967296) (hx : x.length ≤ 9223372036854775807) (hsx : X.size = x.length)
    (hxa : ∀ i (h : i < X.size) (h2 : i < x.length), X[i] = x[i]) :
    Calls Tryz.prog 79 #[.int .u32 c, .string X] w (U32Post (Ad.more c x) w) := by
  have HXA := Lib.hid hxa
  clear hxa
  have HSTEP0 := Lib.hid (fun k (h : k < x.length) => show Ad.run (Ad.lo c, Ad.hi c) (x.take (k + 1)) = Ad.stp (Ad.run (Ad.lo c, Ad.hi c) (x.take k)) x[k] by
    rw [List.take_succ_eq_append_getElem h, Ad.run_snoc])
  have HOK0 := Lib.hid (fun k => Ad.run_ok (x.take k) _ (Ad.ok_c c))
  have HEND0 := Lib.hid (show Ad.more c x = Ad.sum (Ad.run (Ad.lo c, Ad.hi c) (x.take x.length)) by rw [List.take_length]; rfl)
  have HSP := Lib.hid (fun W => split_any c W hc)
  obtain ⟨P, hP⟩ : ∃ P : Nat → Nat × Nat, P = fun k => Ad.run (Ad.lo c, Ad.hi c) (x.take k) := ⟨_, rfl⟩
  have hp0 : P 0 = (Ad.lo c, Ad.hi c) := by rw [hP]; rfl
  have HSTEP := Lib.hid (fun k (h : k < x.length) => show P (k + 1) = Ad.stp (P k) x[k] by rw [hP]; exact HSTEP0.out k h)
  have HOK := Lib.hid (fun k => show Ad.Ok (P k) by rw [hP]; exact HOK0.out k)
  have HEND := Lib.hid (show Ad.more c x = Ad.sum (P x.length) by rw [hP]; exact HEND0.out)
  clear hP HSTEP0 HOK0 HEND0
  have HP0 := Lib.hid hp0
  clear hp0
  generalize Ad.lo c = p0 at *
  generalize Ad.hi c = q0 at *
  have HSX := Lib.hid hsx
  have hX : X.size ≤ 9223372036854775807 := by omega
  clear hsx hx
  go_enter Tryz.func79, Tryz.ntmps79
  go_wp2_with fail
  refine (HSP.out _).mono ?_
  rintro e w1 ⟨rfl, hb1⟩
  have hn := duo_new w1 p0 q0
  have hbn : Below w.heap.size w (w1.alloc (.cells (hd p0 q0) 126)) := hb1.alloc hb1.size _
  have hs1 := hb1.size
  unfold hd at hn hbn
  go_wp2_with fail
  have HN := Lib.hid (show ∃ k : Nat, k ≤ X.size ∧ (0 : Nat) = k ∧ True from ⟨0, by omega, rfl, trivial⟩)
  clear HN
  go_loopw [6, 11] (fun _ i wr => ∃ k : Nat, k ≤ X.size ∧ i = .int .i64 k ∧ Duo wr w1.heap.size (P k).1 (P k).2 ∧ Below w.heap.size w wr) (fun _ i _ => X.size - (intOf i).toNat)
  case atStart => exact ⟨0, by omega, rfl, by rw [HP0.out]; exact hn, hbn⟩
  case round =>
    obtain ⟨k, hk, rfl, hD, hB⟩ := hrel
    by_cases hlt : k < X.size
    · have h1 : k < x.length := by have := HSX.out; omega
      have ex := HXA.out k hlt h1
      have HS := Lib.hid (HSTEP.out k h1)
      have hok := HOK.out k
      unfold Ad.Ok at hok
      have hxk := UInt8.toNat_lt x[k]
      have hkI : (k : Int) < (X.size : Int) := by omega
      generalize x[k] = b at *
      obtain ⟨q, hq⟩ : ∃ q, q = P k := ⟨_, rfl⟩
      rw [← hq] at hD hok HS
      obtain ⟨u, v⟩ := q
      simp only at hD hok
      obtain ⟨u', hu'⟩ : ∃ u', u' = (u + b.toNat) % 65521 := ⟨_, rfl⟩
      obtain ⟨v', hv'⟩ : ∃ v', v' = (v + u') % 65521 := ⟨_, rfl⟩
      have HN1 := Lib.hid (show P (k + 1) = (u', v') by rw [HS.out, hv', hu']; rfl)
      have eu : ((u : Int) + (b.toNat : Int)) % 65521 = (u' : Int) := by omega
      have ev : ((v : Int) + (u' : Int)) % 65521 = (v' : Int) := by omega
      have c0 := hD.c0
      have c1 := hD.c1
      have f0 := hD.free 0
      have hD1 := hD.put0 u'
      have d0 := hD1.c0
      have d1 := hD1.c1
      have f1 := hD1.free 1
      have hD2 := hD1.put1 v'
      have hu : u' < 65521 := by omega
      have hB2 := (hB.setCell (p := ⟨w1.heap.size, 0, none⟩) hs1 (.int .u64 (u' : Int))).setCell (p := ⟨w1.heap.size, 1, none⟩) hs1 (.int .u64 (v' : Int))
      have HD2 := Lib.hid hD2
      have HB2 := Lib.hid hB2
      have hbt : b.toNat < 256 := hxk
      clear hD2 hB2 hq hu' hv'
      go_wp2_with fail
      go_region
      all_goals
        go_wp2_with fail
        exact ⟨⟨k + 1, by omega, by go_num, by rw [HN1.out]; exact HD2.out, HB2.out.drew⟩, by simp [intOf]; omega⟩
    · obtain rfl : k = X.size := by omega
      have c0 := hD.c0
      have c1 := hD.c1
      have hok := HOK.out X.size
      have HE := Lib.hid (show Ad.more c x = Ad.sum (P X.size) by rw [HEND.out, HSX.out])
      obtain ⟨q, hq⟩ : ∃ q, q = P X.size := ⟨_, rfl⟩
      rw [← hq] at hD hok HE c0 c1
      unfold Ad.Ok at hok
      obtain ⟨u, v⟩ := q
      simp only at c0 c1 hok
      clear hq hD
      have HE := Lib.hid (show Ad.more c x = Ad.sum (u % 65521, v % 65521) by rw [HE.out, Nat.mod_eq_of_lt hok.1, Nat.mod_eq_of_lt hok.2])
      go_wp2_with fail
      refine (sum_any u v _ (by omega) (by omega)).mono ?_
      rintro e w3 ⟨rfl, hb3⟩
      go_wp2_with fail
      go_ret
      exact ⟨by rw [HE.out]; rfl, below_then hB hb3⟩
theorem str_at' (l : List UInt8) (i : Nat) (h : i < (str l).size) (h2 : i < l.length) : (str l)[i] = l[i] := rfl
theorem more_any (c : Nat) (x : List UInt8) (w : World) (hc : c < 4294967296) (hx : x.length ≤ maxLen) :
    Calls Tryz.prog 79 #[.int .u32 c, .string (str x)] w (U32Post (Ad.more c x) w) :=
  more_core c x (str x) w hc (by unfold maxLen at hx; omega) (str_size x) (fun i h h2 => str_at' x i h h2)
set_option maxHeartbeats 1000000 in
theorem of_any (x : List UInt8) (w : World) (hx : x.length ≤ maxLen) :
    Calls Tryz.prog 52 #[.string (str x)] w (U32Post (Ad.of x) w) := by
  have HM := Lib.hid (fun W => more_any 1 x W (by omega) hx)
  generalize str x = X at *
  go_enter Tryz.func52, Tryz.ntmps52
  go_wp2_with fail
  refine (HM.out _).mono ?_
  rintro e w1 ⟨rfl, hb1⟩
  go_wp2_with fail
  go_ret
  exact ⟨rfl, hb1⟩
end Go.Proofs.YtcachhnhncodoaaGreat
namespace Go.Proofs.YtcachhnhncodoaaGreat
open Go.RowKit
set_option linter.unusedVariables false
set_option maxHeartbeats 4000000 in
set_option maxRecDepth 100000 in
theorem adlerOf_core (c : Nat) (x : List UInt8) (X : ByteArray) (w : World) (hc : c < 4294967296) (hx : x.length ≤ 140737488351232) (hsx : X.size = x.length)
    (hxa : ∀ i (h : i < X.size) (h2 : i < x.length), X[i] = x[i]) :
    Calls Tryz.prog 54 #[.int .u32 c, .string X] w fun e w' => e = .returned (.int .u32 (Ad.more c x : Nat)) ∧ w = w' := by
  have HXA := Lib.hid hxa
  clear hxa
  have HM0 := Lib.hid (Ad.rmore_is c x)
  have hlo : (c : Int) % 65536 % 65521 = (Ad.lo c : Int) := by unfold Ad.lo; omega
  have hhi : (c : Int) / 65536 % 65521 = (Ad.hi c : Int) := by unfold Ad.hi; omega
  have hl := Ad.lo_lt c
  have hh := Ad.hi_lt c
  obtain ⟨p, hp⟩ : ∃ p, p = Ad.lo c := ⟨_, rfl⟩
  obtain ⟨q, hq⟩ : ∃ q, q = Ad.hi c := ⟨_, rfl⟩
  obtain ⟨t, ht⟩ : ∃ t, t = q + x.length % 65521 * p := ⟨_, rfl⟩
  have HM := Lib.hid (show Ad.more c x = (Ad.rrun (p, t) x).2 % 65521 * 65536 + (Ad.rrun (p, t) x).1 % 65521 by rw [← HM0.out, ht, hp, hq]; rfl)
  rw [← hp] at hlo hl
  rw [← hq] at hhi hh
  clear HM0 hp hq
  obtain ⟨R, hR⟩ : ∃ R, R = Ad.rrun (p, t) x := ⟨_, rfl⟩
  rw [← hR] at HM
  have HR0 := Lib.hid (show Ad.rrun (p, t) (x.drop 0) = R by rw [hR]; rfl)
  clear hR
  have HSTEP := Lib.hid (fun k u v (h : k < x.length) => show Ad.rrun (u, v) (x.drop k) = Ad.rrun (u + x[k].toNat, (v + (x.length - k) % 65521 * x[k].toNat) % 65521) (x.drop (k + 1)) by
    rw [List.drop_eq_getElem_cons h]
    show Ad.rrun (u + x[k].toNat, (v + ((x.drop (k + 1)).length + 1) % 65521 * x[k].toNat) % 65521) (x.drop (k + 1)) = _
    rw [List.length_drop, show x.length - (k + 1) + 1 = x.length - k by omega])
  have HLAST := Lib.hid (fun u v => show Ad.rrun (u, v) (x.drop x.length) = (u, v) by rw [List.drop_length]; rfl)
  obtain ⟨m, hm⟩ : ∃ m, m = x.length % 65521 := ⟨_, rfl⟩
  rw [← hm] at ht
  have hmp : m * p ≤ 65521 * 65521 := Nat.mul_le_mul (by omega) (by omega)
  have emp : (m : Int) * (p : Int) = ((m * p : Nat) : Int) := by simp
  have et : (q : Int) + (m : Int) * (p : Int) = (t : Int) := by rw [emp]; omega
  have hw1 : IntKind.u64.wrap ((X.size : Nat) : Int) = ((X.size : Nat) : Int) := by rw [IntKind.wrap_u64]; omega
  have em : (X.size : Int) % 65521 = (m : Int) := by omega
  have hmp2 : (m : Int) * (p : Int) < 18446744073709551616 := by rw [emp]; omega
  have hmp3 : (0 : Int) ≤ (m : Int) * (p : Int) := by rw [emp]; omega
  have ht2 : t ≤ 4293066962 := by omega
  have HSX := Lib.hid hsx
  have hX : X.size ≤ 140737488351232 := by omega
  have hm65 : m < 65521 := by omega
  clear hsx hx hm ht emp
  go_enter Tryz.func54, Tryz.ntmps54
  go_wp2_with fail
  go_loopw [5, 6, 8] (fun u v i wr => ∃ k a b : Nat, k ≤ X.size ∧ i = .int .i64 k ∧ u = .int .u64 a ∧ v = .int .u64 b ∧ wr = w ∧ a ≤ 65521 + 256 * k ∧ b ≤ 4293066962 ∧ Hid (Ad.rrun (a, b) (x.drop k) = R)) (fun _ _ i _ => X.size - (intOf i).toNat)
  case atStart => exact ⟨0, p, t, by omega, rfl, by rw [hlo], by first | rfl | (rw [hhi, em, hlo, et]), by first | rfl | trivial, by omega, by omega, HR0⟩
  case round =>
    obtain ⟨k, a, b, hk, rfl, rfl, rfl, rfl, ha, hb, HJ⟩ := hrel
    by_cases hlt : k < X.size
    · have h1 : k < x.length := by have := HSX.out; omega
      have ex := HXA.out k hlt h1
      have HS := Lib.hid (HSTEP.out k a b h1)
      have hxk := UInt8.toNat_lt x[k]
      have hkI : (k : Int) < (X.size : Int) := by omega
      generalize x[k] = y at *
      obtain ⟨r, hr⟩ : ∃ r, r = (X.size - k) % 65521 := ⟨_, rfl⟩
      have er : ((X.size : Int) - (k : Int)) % 65521 = (r : Int) := by omega
      have hr65 : r < 65521 := by omega
      have hry : r * y.toNat ≤ 65521 * 256 := Nat.mul_le_mul (by omega) (by omega)
      have ery : (r : Int) * (y.toNat : Int) = ((r * y.toNat : Nat) : Int) := by simp
      have hw2 : IntKind.u64.wrap (k : Int) = (k : Int) := by rw [IntKind.wrap_u64]; omega
      obtain ⟨b', hb'⟩ : ∃ b', b' = (b + r * y.toNat) % 65521 := ⟨_, rfl⟩
      have eb : ((b : Int) + (r : Int) * (y.toNat : Int)) % 65521 = (b' : Int) := by rw [ery]; omega
      have hs1 : (b : Int) + (r : Int) * (y.toNat : Int) < 18446744073709551616 := by rw [ery]; omega
      have hs2 : (0 : Int) ≤ (r : Int) * (y.toNat : Int) := by rw [ery]; omega
      have hs3 : (r : Int) * (y.toNat : Int) < 18446744073709551616 := by rw [ery]; omega
      have HN1 := Lib.hid (show Ad.rrun (a + y.toNat, b') (x.drop (k + 1)) = R by rw [← HJ.out, HS.out, hb', hr, HSX.out])
      have hb65 : b' < 65521 := by omega
      clear hr hb' ery
      go_wp2_with fail
      exact ⟨⟨k + 1, a + y.toNat, b', by omega, by go_num, by simp, by rw [eb], by first | rfl | trivial, by omega, by omega, HN1⟩, by simp [intOf]; omega⟩
    · obtain rfl : k = X.size := by omega
      have HE := Lib.hid (show Ad.more c x = b % 65521 * 65536 + a % 65521 by
        have h := HLAST.out a b
        rw [← HSX.out] at h
        rw [HM.out, ← HJ.out, h])
      go_wp2_with fail
      go_ret
      exact ⟨by rw [HE.out]; simp [go_sem], rfl⟩
theorem adlerOf_any (c : Nat) (x : List UInt8) (w : World) (hc : c < 4294967296) (hx : x.length ≤ 140737488351232) :
    Calls Tryz.prog 54 #[.int .u32 c, .string (str x)] w fun e w' => e = .returned (.int .u32 (Ad.more c x : Nat)) ∧ w = w' :=
  adlerOf_core c x (str x) w hc hx (str_size x) (fun i h h2 => str_at' x i h h2)
end Go.Proofs.YtcachhnhncodoaaGreat
namespace Go.Proofs.YtcachhnhncodoaaGreat
open Go.ChangeShapes Go.WideShapes Go.ChangeAt Go.RowKit
set_option linter.unusedVariables false
theorem own_knob : ownKnob Tryz.prog.godebug = none := by kernel_rfl
theorem laid_out : laidOutB Tryz.prog = true := by kernel_rfl
theorem nat_u64 {a : Int} (h : (Lit.int .u64 a).wf = true) : ∃ n : Nat, a = n ∧ n < 18446744073709551616 := by
  have hb : 0 ≤ a ∧ a ≤ 18446744073709551615 := by simpa [Lit.wf, IntKind.min, IntKind.max, IntKind.signed, IntKind.bits] using h
  exact ⟨a.toNat, by omega, by omega⟩
theorem bounds_int {a : Int} (h : (Lit.int .i64 a).wf = true) : -9223372036854775808 ≤ a ∧ a ≤ 9223372036854775807 := by
  simpa [Lit.wf, IntKind.min, IntKind.max, IntKind.signed, IntKind.bits] using h
theorem lt_of_cell {w : World} {b o : Nat} {v : Value} (h : w.cell? ⟨b, o, none⟩ = some v) : b < w.heap.size := by
  rcases Nat.lt_or_ge b w.heap.size with hlt | hge
  · exact hlt
  · simp [World.cell?, Array.getElem?_eq_none hge] at h
theorem nat_of_wf (zs : List Int) (h : ∀ n ∈ zs, (Lit.int .u64 n).wf = true) : ∃ l : List Nat, zs = l.map (fun x : Nat => (x : Int)) ∧ ∀ x ∈ l, x < 18446744073709551616 := by
  induction zs with
  | nil => exact ⟨[], rfl, by simp⟩
  | cons z zs ih =>
    obtain ⟨l, rfl, hl⟩ := ih (fun n hn => h n (by simp [hn]))
    obtain ⟨n, rfl, hn⟩ := nat_u64 (h z (by simp))
    exact ⟨n :: l, rfl, by intro x hx; rcases List.mem_cons.1 hx with rfl | hx; exact hn; exact hl x hx⟩
section
variable {H : Type} {enc : TypeId × Value → H} {w : World} {base : Nat} {spare : Nat → Bool} {held : Bool}
theorem open_nums {t e : TypeId} {fuel : Nat} {a : Option Addr} {len cap : Nat} {x : DataW H × List MemPlace} (ht : Tryz.prog.underlying t = some (.slice e)) (he : Tryz.prog.underlying e = some (.int .u64)) (hc : Tryz.prog.cellsOf e = 1)
    (h : DataW.trod enc Tryz.prog w base spare held fuel t (Value.slice a len cap).cells.toList = some x) :
    ∃ l : List Nat, l.length = len ∧ len ≤ maxLen ∧ (len ≤ cap ∧ cap ≤ maxLen ∧ (a = none → cap = 0)) ∧ (∀ x ∈ l, x < 18446744073709551616) ∧ Nums w w.heap.size a l ∧
      (x.1 = .nil ∧ len = 0 ∨ ∃ r, x.1 = .slice ((l.map fun x : Nat => (x : Int)).map fun n => .lit (.int .u64 n)) r) := by
  rcases open_ints ht he hc h with ⟨hcs, hx⟩ | ⟨ad, l, c, zs, hcs, _, hl, hm, hz, hx, hcell, hwz⟩
  · simp [Value.cells] at hcs
    obtain ⟨rfl, rfl, rfl⟩ := hcs
    exact ⟨[], rfl, Nat.zero_le _, ⟨Nat.le_refl _, Nat.zero_le _, fun _ => rfl⟩, by simp, Nums.nil _ _ _, Or.inl ⟨by rw [hx], rfl⟩⟩
  · simp [Value.cells] at hcs
    obtain ⟨rfl, rfl, rfl⟩ := hcs
    have hlen : len ≤ zs.length := by rw [hz]; split <;> omega
    obtain ⟨l, hl2, hlt⟩ := nat_of_wf (zs.take len) (fun n hn => hwz n (List.mem_of_mem_take hn))
    have hll : l.length = len := by have := congrArg List.length hl2; simp only [List.length_take, List.length_map] at this; omega
    refine ⟨l, hll, by omega, ⟨hl, hm, fun h => by cases h⟩, hlt, ?_, Or.inr ⟨_, by rw [hx, hl2]; rfl⟩⟩
    intro hne
    have hpos : 0 < zs.length := by
      rcases Nat.eq_zero_or_pos len with h0 | h0
      · rw [h0] at hll; exact absurd (List.eq_nil_of_length_eq_zero hll) hne
      · omega
    obtain ⟨b, off, rfl, hc2⟩ := ints_at hcell hpos
    refine ⟨b, off, rfl, lt_of_cell (hc2 0 hpos), fun i hi => ?_⟩
    rw [hc2 i (by omega)]
    have h1 : zs.getD i 0 = (zs.take len).getD i 0 := by simp [List.getD, List.getElem?_take_of_lt (show i < len by omega)]
    rw [h1, hl2]
    simp [List.getD, List.getElem?_eq_getElem hi]
end
theorem bulk_one {H : Type} (d : DataW H) : 1 ≤ Rows.uptoBulk d := by
  cases d with
  | lit l => cases l <;> simp [Rows.uptoBulk]
  | _ => simp [Rows.uptoBulk]
theorem bulk_length {H : Type} (l : List (DataW H)) : l.length ≤ Rows.uptoBulkAll l := by
  induction l with
  | nil => simp [Rows.uptoBulkAll]
  | cons x r ih => have := bulk_one x; simp only [Rows.uptoBulkAll, List.length_cons]; omega
theorem bulk_slice {H : Type} {d : DataW H} {l : List Nat} {n : Nat} (hl : l.length = n) (h : d = .nil ∧ n = 0 ∨ ∃ r, d = .slice ((l.map fun x : Nat => (x : Int)).map fun n => .lit (.int .u64 n)) r) : n + 1 ≤ Rows.uptoBulk d := by
  rcases h with ⟨rfl, rfl⟩ | ⟨r, rfl⟩
  · simp [Rows.uptoBulk]
  · have := bulk_length ((l.map fun x : Nat => (x : Int)).map fun n => DataW.lit (H := H) (.int .u64 n))
    simp only [List.length_map] at this
    simp only [Rows.uptoBulk]
    omega
theorem bulk_of {H : Type} {l : List (DataW H)} (hk : Rows.uptoSmall H l = true) : Rows.uptoBulkAll l ≤ 1048576 := of_decide_eq_true hk
end Go.Proofs.YtcachhnhncodoaaGreat
namespace Go.Proofs.YtcachhnhncodoaaGreat
open Go.RowKit
set_option linter.unusedVariables false
theorem run_text_u8 (w : World) (x : UInt8) :
    (convert 42 9 (.slice (some ⟨w.heap.size, 0, none⟩) 1 1)).run Tryz.prog (w.alloc (.cells #[.int .u8 (x.toNat : Int)] 5)) = .ok (.string (str [x])) (w.alloc (.cells #[.int .u8 (x.toNat : Int)] 5)) := by
  rw [← str_of [x]]
  refine run_convert_bytes_arg _ 42 5 Tryz.underlying42 Tryz.underlying5 _ 0 1 1 _ (by simp) ?_ 9 Tryz.underlying9
  intro i hi
  obtain rfl : i = 0 := by omega
  rw [Nat.zero_add, World.cell?_alloc_new]; rfl
set_option maxHeartbeats 400000 in
theorem byteText_any (x : UInt8) (w : World) :
    Calls Tryz.prog 17 #[.int .u8 (x.toNat : Int)] w (fun e w' => e = .returned (.string (str [x])) ∧ Below w.heap.size w w') := by
  have htx := run_text_u8 w x
  generalize (x.toNat : Int) = n at *
  go_enter Tryz.func17, Tryz.ntmps17
  go_wp2_with fail
  go_ret
  exact ⟨rfl, (Below.refl _ _).alloc (Nat.le_refl _) _⟩
end Go.Proofs.YtcachhnhncodoaaGreat
namespace Go.Proofs.YtcachhnhncodoaaGreat
open Go.ChangeShapes Go.WideShapes Go.ChangeAt Go.RowKit
set_option linter.unusedVariables false
instance : Inhabited C.Cl := ⟨C.null⟩
def cellD {H : Type} (c : C.Cl) : DataW H := .agg [.lit (.int .i64 c.kind), .lit (.int .u64 (c.num : Int)), .lit (.string c.txt)]
section
variable {H : Type} {enc : TypeId × Value → H} {w : World} {base : Nat} {held : Bool} {spare : Nat → Bool}
theorem open_three {P : Program} {e : TypeId} {f0 f1 f2 : Field} {n : Nat} {cs : List Value} {x : DataW H × List MemPlace} (he : P.underlying e = some (.struct #[f0, f1, f2])) (ce : P.cellsOf e = 3)
    (o0 : f0.offset = 0) (o1 : f1.offset = 1) (o2 : f2.offset = 2) (c0 : P.cellsOf f0.type = 1) (c1 : P.cellsOf f1.type = 1) (c2 : P.cellsOf f2.type = 1)
    (h : DataW.trod enc P w base spare held n e cs = some x) :
    ∃ (k : Nat) (v0 v1 v2 : Value) (y0 y1 y2 : DataW H × List MemPlace), cs = [v0, v1, v2] ∧ x = (.agg [y0.1, y1.1, y2.1], y0.2 ++ y1.2 ++ y2.2) ∧
      DataW.trod enc P w base spare held k f0.type [v0] = some y0 ∧ DataW.trod enc P w base spare held k f1.type [v1] = some y1 ∧ DataW.trod enc P w base spare held k f2.type [v2] = some y2 := by
  obtain ⟨xs, k, _, hxy, hlen, hxl, hf⟩ := DataW.trod_struct he h
  rw [ce] at hlen
  match xs, hxl, cs, hlen with
  | [y0, y1, y2], _, [v0, v1, v2], _ =>
    have g0 := hf 0 f0 rfl
    have g1 := hf 1 f1 rfl
    have g2 := hf 2 f2 rfl
    simp [o0, o1, o2, c0, c1, c2] at g0 g1 g2
    exact ⟨k, v0, v1, v2, y0, y1, y2, rfl, by simpa using hxy, g0, g1, g2⟩
theorem open_cell3 {n : Nat} {cs : List Value} {x : DataW H × List MemPlace} (h : DataW.trod enc Tryz.prog w base spare held n 50 cs = some x) :
    ∃ c : C.Cl, cOk c ∧ cs = cx c ∧ x = (cellD c, []) := by
  obtain ⟨k, v0, v1, v2, y0, y1, y2, hcs, hxy, g0, g1, g2⟩ := open_three Tryz.underlying50 (by kernel_rfl) rfl rfl rfl (by kernel_rfl) (by kernel_rfl) (by kernel_rfl) h
  obtain ⟨z, e1, e2, e3⟩ := DataW.trod_int Tryz.underlying3 g0
  obtain ⟨y, f1, f2, f3⟩ := DataW.trod_int Tryz.underlying34 g1
  obtain ⟨s, s1, s2, s3⟩ := DataW.trod_string Tryz.underlying9 g2
  obtain ⟨m, rfl, hm⟩ := nat_u64 f3
  have hz := bounds_int e3
  simp at e1 f1 s1
  subst e1; subst f1; subst s1; subst e2; subst f2; subst s2
  refine ⟨⟨z, m, s.data.toList⟩, ⟨hz.1, hz.2, hm, by rw [len_data]; exact s3⟩, by rw [hcs]; simp [cx, str], ?_⟩
  rw [hxy]; rfl
theorem open_cells {t : TypeId} {fuel : Nat} {a : Option Addr} {len cap : Nat} {x : DataW H × List MemPlace} (ht : Tryz.prog.underlying t = some (.slice 50))
    (h : DataW.trod enc Tryz.prog w base spare held fuel t (Value.slice a len cap).cells.toList = some x) :
    ∃ l : List C.Cl, l.length = len ∧ len ≤ maxLen ∧ (len ≤ cap ∧ cap ≤ maxLen ∧ (a = none → cap = 0)) ∧ (∀ x ∈ l, cOk x) ∧ Cls w w.heap.size a l ∧
      (x.1 = .nil ∧ len = 0 ∨ ∃ r, x.1 = .slice (l.map cellD) r) := by
  rcases Go.Deep.open_slice ht h with ⟨hcs, hx⟩ | ⟨ad, ln, cp, m, n, D, Pl, hcs, hb, hl, hm, hmm, hx, hcell⟩
  · simp [Value.cells] at hcs
    obtain ⟨rfl, rfl, rfl⟩ := hcs
    exact ⟨[], rfl, Nat.zero_le _, ⟨Nat.le_refl _, Nat.zero_le _, fun _ => rfl⟩, by simp, Cls.nil _ _ _, Or.inl ⟨by rw [hx], rfl⟩⟩
  · simp [Value.cells] at hcs
    obtain ⟨rfl, rfl, rfl⟩ := hcs
    have hlm : len ≤ m := by rw [hmm]; split <;> omega
    have each : ∀ i, i < m → ∃ c : C.Cl, cOk c ∧ D i = cellD c ∧ w.cell? (ad.add (i * 3)) = some (.int .i64 c.kind) ∧ w.cell? (ad.add (i * 3 + 1)) = some (.int .u64 (c.num : Int)) ∧ w.cell? (ad.add (i * 3 + 2)) = some (.string (str c.txt)) := by
      intro i hi
      obtain ⟨cs', h1, h2⟩ := hcell i hi
      rw [show Tryz.prog.cellsOf 50 = 3 by kernel_rfl] at h1
      obtain ⟨_, hlen, hc⟩ := World.cells?_some h1
      obtain ⟨c, hok, rfl, hd⟩ := open_cell3 h2
      have c0 := hc 0 (by omega)
      have c1 := hc 1 (by omega)
      have c2 := hc 2 (by omega)
      rw [Go.Deep.add_add] at c0 c1 c2
      simp only [Prod.mk.injEq] at hd
      exact ⟨c, hok, hd.1, by simpa [cx] using c0, by simpa [cx] using c1, by simpa [cx] using c2⟩
    obtain ⟨Q, hQ⟩ := Go.Deep.choose_lt (α := C.Cl) each
    refine ⟨(List.range len).map Q, by simp, by omega, ⟨hl, hm, fun h => by cases h⟩, ?_, ?_, Or.inr ⟨_, by
      rw [hx]; simp only [List.map_map]; rw [List.map_congr_left (g := cellD ∘ Q) (fun i hi => (hQ i (by have := List.mem_range.1 hi; omega)).2.1)]⟩⟩
    · intro y hy
      obtain ⟨i, hi, rfl⟩ := List.mem_map.1 hy
      exact (hQ i (by have := List.mem_range.1 hi; omega)).1
    intro hne
    have hpos : 0 < len := by
      rcases Nat.eq_zero_or_pos len with h0 | h0
      · rw [h0] at hne; simp at hne
      · exact h0
    obtain ⟨b, off, spot⟩ := ad
    have hspot : spot = none := by simpa [Addr.add] using World.cell?_spot (hQ 0 (by omega)).2.2.1
    subst hspot
    have hc2 : ∀ i, i < len → w.cell? ⟨b, off + i * 3, none⟩ = some (.int .i64 (Q i).kind) ∧ w.cell? ⟨b, off + i * 3 + 1, none⟩ = some (.int .u64 ((Q i).num : Int)) ∧ w.cell? ⟨b, off + i * 3 + 2, none⟩ = some (.string (str (Q i).txt)) := fun i hi => by
      have hq := (hQ i (by omega)).2.2
      rw [Go.WideShapes.add_plain, Go.WideShapes.add_plain, Go.WideShapes.add_plain] at hq
      exact hq
    refine ⟨b, off, rfl, lt_of_cell (hc2 0 hpos).1, fun i hi => ?_⟩
    simp only [List.length_map, List.length_range] at hi
    have hg : ((List.range len).map Q).getD i C.null = Q i := by simp [List.getD, hi]
    rw [hg]
    exact hc2 i hi
set_option maxRecDepth 100000 in
theorem open_cell {r : Reach} {b0 : Nat} {v : Value} {d : DataW H} {ps : List MemPlace} (hval : Value.okWide Tryz.prog w r b0 50 v) (hd : DataW.Trod enc Tryz.prog w base spare held 50 v d ps) :
    ∃ c : C.Cl, v = cag c ∧ d = cellD c ∧ ps = [] ∧ cOk c := by
  obtain ⟨cs, rfl, hsz⟩ := okWide_struct Tryz.underlying50 hval
  obtain ⟨fuel, hf⟩ := hd
  obtain ⟨c, hok, h1, h2⟩ := open_cell3 hf
  have hcs : cs.toList = cx c := by simpa [Value.cells] using h1
  refine ⟨c, ?_, (Prod.mk.injEq _ _ _ _ ▸ h2).1, (Prod.mk.injEq _ _ _ _ ▸ h2).2, hok⟩
  unfold cag
  congr 1
  apply Array.toList_inj.mp
  rw [hcs]; rfl
end
theorem bulk_cells {H : Type} {d : DataW H} {l : List C.Cl} {n : Nat} (hl : l.length = n) (h : d = .nil ∧ n = 0 ∨ ∃ r, d = .slice (l.map cellD) r) : n + 1 ≤ Rows.uptoBulk d := by
  rcases h with ⟨rfl, rfl⟩ | ⟨r, rfl⟩
  · simp [Rows.uptoBulk]
  · have := bulk_length (l.map (cellD (H := H)))
    simp only [List.length_map] at this
    simp only [Rows.uptoBulk]
    omega
end Go.Proofs.YtcachhnhncodoaaGreat
