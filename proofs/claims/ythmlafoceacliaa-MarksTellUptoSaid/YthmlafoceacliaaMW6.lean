/- The walks of rank.Bytes, rank.Of, and of OnesOf. -/
import Derived.Test.YthmlafoceacliaaMW5
import Derived.Test.YthmlafoceacliaaBitsF
namespace Go.Proofs.Ythmlafoceacliaa
open Go.RowKit
set_option linter.unusedVariables false

def ones (l : List Bool) : List Nat := l.map fun b => if b then 1 else 0
theorem ones_length (l : List Bool) : (ones l).length = l.length := by simp [ones]
theorem ones_lt (l : List Bool) : ∀ x ∈ ones l, x < 2 := by
  intro x hx
  simp only [ones, List.mem_map] at hx
  obtain ⟨b, _, rfl⟩ := hx
  cases b <;> simp
theorem ones_snoc (l : List Bool) (k : Nat) (h : k < l.length) : ones (l.take (k + 1)) = ones (l.take k) ++ [if l.getD k false = true then 1 else 0] := by
  rw [M.take_snoc l k h]; simp [ones]
def ofOnes (l : List Nat) : List Bool := l.map fun n => n == 1
theorem ofOnes_ones (l : List Bool) : ofOnes (ones l) = l := by
  induction l with
  | nil => rfl
  | cons b l ih => cases b <;> simp_all [ofOnes, ones]
theorem ones_ofOnes (l : List Nat) (h : ∀ x ∈ l, x < 2) : ones (ofOnes l) = l := by
  induction l with
  | nil => rfl
  | cons x l ih =>
    have hx := h x (by simp)
    have := ih (fun y hy => h y (by simp [hy]))
    simp only [ones, ofOnes, List.map_cons, List.cons.injEq] at this ⊢
    refine ⟨?_, this⟩
    have : x = 0 ∨ x = 1 := by omega
    rcases this with rfl | rfl <;> rfl

/-- a block of numbers, known whole -/
def UBlk (w : World) (g : Nat) (l : List Nat) : Prop := w.heap[g]? = some (.cells (nv l).toArray 50 (0, 0))
theorem UBlk.cell {w : World} {g : Nat} {l : List Nat} (h : UBlk w g l) (i : Nat) (hi : i < l.length) : w.cell? ⟨g, i, none⟩ = some (.int .u64 ((l.getD i 0 : Nat) : Int)) := by
  unfold UBlk at h
  simp [World.cell?, h, nv, List.getElem?_eq_getElem hi]
theorem UBlk.free {w : World} {g : Nat} {l : List Nat} (h : UBlk w g l) (i : Nat) : w.frozen? ⟨g, i, none⟩ = false := by
  unfold UBlk at h
  simp [World.frozen?, h]
theorem UBlk.lt {w : World} {g : Nat} {l : List Nat} (h : UBlk w g l) : g < w.heap.size := lt_of_block h
theorem UBlk.put {w : World} {g : Nat} {l : List Nat} (h : UBlk w g l) (i : Nat) (x : Nat) : UBlk (w.setCell ⟨g, i, none⟩ (.int .u64 (x : Int))) g (l.set i x) := by
  unfold UBlk at *
  simp [World.setCell, Array.getElem?_modify, h, nv, List.map_set]
theorem UBlk.nums {w : World} {g : Nat} {l : List Nat} (h : UBlk w g l) : Nums w w.heap.size (some ⟨g, 0, none⟩) l := by
  intro _
  exact ⟨g, 0, rfl, h.lt, fun i hi => by rw [Nat.zero_add]; exact h.cell i hi⟩
theorem made_ublk {w' : World} {g n B' : Nat} (h : w'.ownsRow B' 50 1 (.slice (some ⟨g, 0, none⟩) n n) n (madeCells (Value.int .u64 0).cells (n * 1)).toList) : UBlk w' g (List.replicate n 0) := by
  rcases h.2 with ⟨he, _⟩ | ⟨g', cap, cur, he, _, hh, _, _, hs, ht⟩
  · cases he
  · injection he with h1 h2 h3
    injection h1 with h1
    injection h1 with h1
    subst h1 h3
    unfold UBlk
    rw [hh]
    have e : cur = (nv (List.replicate n 0)).toArray := by
      apply Array.toList_inj.mp
      rw [List.take_of_length_le (by rw [Array.length_toList, hs]; omega)] at ht
      rw [ht]
      apply List.ext_getElem
      · simp [madeCells, nv]
      · intro i h1 h2
        simp [madeCells, nv, Value.cells, Nat.mod_one]
    rw [e]

theorem ones_next (l : List Bool) (k n : Nat) (hn : l.length = n) (hk : k < n) (hx : l.getD k false = true) : (ones (l.take k) ++ List.replicate (n - k) 0).set k 1 = ones (l.take (k + 1)) ++ List.replicate (n - (k + 1)) 0 := by
  have h1 : n - k = (n - (k + 1)) + 1 := by omega
  rw [h1, List.replicate_succ, List.set_append_right _ _ (by rw [ones_length, List.length_take]; omega), ones_snoc l k (by omega), hx]
  have h2 : k - (ones (l.take k)).length = 0 := by rw [ones_length, List.length_take]; omega
  rw [h2]; simp
theorem ones_skip (l : List Bool) (k n : Nat) (hn : l.length = n) (hk : k < n) (hx : l.getD k false = false) : ones (l.take k) ++ List.replicate (n - k) 0 = ones (l.take (k + 1)) ++ List.replicate (n - (k + 1)) 0 := by
  have h1 : n - k = (n - (k + 1)) + 1 := by omega
  rw [h1, List.replicate_succ, ones_snoc l k (by omega), hx]; simp

def bytesR (l : List Bool) : List UInt8 × Nat := packR (ones l) 1
theorem bytes_many (l : List Bool) (h : 64 < l.length) : bytesR l = ([], 2) := by
  rw [bytesR, packR, if_neg (by omega), if_pos (by rw [ones_length]; exact h)]

set_option maxHeartbeats 1000000 in
set_option maxRecDepth 100000 in
theorem bytes_some (b off c : Nat) (l : List Bool) (w : World) (hl : l.length ≤ 64) (hb : b < w.heap.size)
    (hc : ∀ i, i < l.length → w.cell? ⟨b, off + i, none⟩ = some (.bool (l.getD i false))) :
    Calls Try.prog 19 #[.slice (some ⟨b, off, none⟩) l.length c] w (PackPost (bytesR l) w) := by
  obtain ⟨i0, hi, hz0, hz1, hz2⟩ := info_parts info_u64
  have HC := Lib.hid hc
  have HP := Lib.hid (show ∀ g w', UBlk w' g (ones l) → Calls Try.prog 33 #[.slice (some ⟨g, 0, none⟩) l.length l.length, .int .i64 1] w' (PackPost (bytesR l) w') from
    fun g w' hu => by have := pack_any (some ⟨g, 0, none⟩) l.length (ones l) 1 w' (fun x hx => by have := ones_lt l x hx; omega) hu.nums; rw [ones_length] at this; exact this)
  have HON := Lib.hid (fun k hk hx => ones_next l k l.length rfl hk hx)
  have HOS := Lib.hid (fun k hk hx => ones_skip l k l.length rfl hk hx)
  have HOL := Lib.hid (fun k => ones_length (l.take k))
  generalize bytesR l = r at *
  clear hc
  go_enter Try.func19, Try.ntmps19
  go_wp2_with (at_make; refine wpList_make_full _ rfl (.tmp 11) (.tmp 11) 38 rfl w.heap.size 50 i0 (.int .u64 0) 1 Try.underlying38 hi hz0 hz1 .i64 .i64 _ _ l.length rfl rfl rfl rfl (by rw [hz2]; omega) (by unfold maxLen; omega) (Nat.le_refl _) ?_; intro w0 hown0 hgrow0)
  have hb0 : Below w.heap.size w w0 := (Below.refl _ _).grown hgrow0 (Nat.le_refl _) (fun k hk => by cases hk)
  have hblk0 := made_ublk hown0
  clear hown0 hgrow0
  obtain ⟨g, hge⟩ : ∃ g, g = w.heap.size := ⟨_, rfl⟩
  rw [← hge] at hblk0 ⊢
  have hgw : w.heap.size ≤ g := by omega
  clear hge
  go_loopw [5, 6, 15] (fun _ _ i wr => ∃ k : Nat, k ≤ l.length ∧ i = .int .i64 k ∧ UBlk wr g (ones (l.take k) ++ List.replicate (l.length - k) 0) ∧ Below w.heap.size w wr) (fun _ _ i _ => l.length - (intOf i).toNat)
  case atStart => exact ⟨0, by omega, rfl, by simpa [ones] using hblk0, hb0⟩
  case round =>
    obtain ⟨k, hk, rfl, hblk, hbw⟩ := hrel
    by_cases hlt : k < l.length
    · have hcell : wr.cell? ⟨b, off + k, none⟩ = some (.bool (l.getD k false)) := (hbw.cell (p := ⟨b, off + k, none⟩) hb).trans (HC.out k hlt)
      cases hx : l.getD k false with
      | true =>
        rw [hx] at hcell
        have ol : k < (ones (l.take k) ++ List.replicate (l.length - k) 0).length := by simp only [List.length_append, HOL.out, List.length_take, List.length_replicate]; omega
        have o1 := hblk.cell k ol
        have o2 := hblk.free k
        have hb2 := hblk.put k 1
        rw [HON.out k hlt hx] at hb2
        have hw2 : Below w.heap.size w (wr.setCell ⟨g, k, none⟩ (.int .u64 ((1 : Nat) : Int))) := hbw.setCell hgw _
        generalize (ones (l.take k) ++ List.replicate (l.length - k) 0).getD k 0 = oz at *
        clear hx ol
        go_wp2_with fail
        exact ⟨⟨k + 1, by omega, by go_num, hb2, hw2⟩, by simp [intOf]; omega⟩
      | false =>
        rw [hx] at hcell
        rw [HOS.out k hlt hx] at hblk
        clear hx
        go_wp2_with fail
        exact ⟨⟨k + 1, by omega, by go_num, hblk, hbw⟩, by simp [intOf]; omega⟩
    · obtain rfl : k = l.length := by omega
      rw [List.take_length, Nat.sub_self, List.replicate_zero, List.append_nil] at hblk
      have HP2 := Lib.hid (HP.out g wr hblk)
      go_wp2_with fail
      refine (HP2.out).mono ?_
      rintro e w2 ⟨rfl, hb2⟩
      go_wp2_with fail
      go_ret2
      exact ⟨rfl, below_then hbw hb2⟩

set_option maxHeartbeats 400000 in
set_option maxRecDepth 100000 in
theorem bytes_nil (a : Option Addr) (c : Nat) (w : World) :
    Calls Try.prog 19 #[.slice a 0 c] w (PackPost (bytesR []) w) := by
  obtain ⟨i0, hi, hz0, hz1, hz2⟩ := info_parts info_u64
  have HP := Lib.hid (show ∀ g w', Calls Try.prog 33 #[.slice (some ⟨g, 0, none⟩) 0 0, .int .i64 1] w' (PackPost (bytesR []) w') from
    fun g w' => pack_any (some ⟨g, 0, none⟩) 0 [] 1 w' (by simp) (Nums.nil _ _ _))
  generalize bytesR [] = r at *
  go_enter Try.func19, Try.ntmps19
  go_wp2_with (at_make; refine wpList_make_full _ rfl (.tmp 11) (.tmp 11) 38 rfl w.heap.size 50 i0 (.int .u64 0) 1 Try.underlying38 hi hz0 hz1 .i64 .i64 _ _ 0 rfl rfl rfl rfl (by rw [hz2]; omega) (by unfold maxLen; omega) (Nat.le_refl _) ?_; intro w0 hown0 hgrow0)
  have hb0 : Below w.heap.size w w0 := (Below.refl _ _).grown hgrow0 (Nat.le_refl _) (fun k hk => by cases hk)
  clear hown0 hgrow0
  refine wp_loop_rounds 1 ?_
  rw [rounds_succ]
  go_wp2_with fail
  refine (HP.out _ _).mono ?_
  rintro e w2 ⟨rfl, hb2⟩
  go_wp2_with fail
  go_ret2
  exact ⟨rfl, below_then hb0 hb2⟩

set_option maxHeartbeats 400000 in
theorem bytes_over (a : Option Addr) (n c : Nat) (w : World) (h : 64 < n) :
    Calls Try.prog 19 #[.slice a n c] w (PackPost ([], 2) w) := by
  go_enter Try.func19, Try.ntmps19
  go_wp2_with fail
  go_ret2
  exact ⟨rfl, Below.refl _ _⟩

theorem bytes_any (a : Option Addr) (c : Nat) (l : List Bool) (w : World) (hu : Bools w w.heap.size a l) :
    Calls Try.prog 19 #[.slice a l.length c] w (PackPost (bytesR l) w) := by
  by_cases h : 64 < l.length
  · rw [bytes_many l h]; exact bytes_over a _ c w h
  by_cases hn : l = []
  · subst hn; exact bytes_nil a c w
  · obtain ⟨b, off, rfl, hb, hc⟩ := hu hn
    exact bytes_some b off c l w (by omega) hb hc

def ofR (s : List UInt8) (many : Int) : List Bool × Nat := (ofOnes (unpR s many 1).1, (unpR s many 1).2)
theorem unp_bad (s : List UInt8) (many wide : Int) (h : (unpR s many wide).2 ≠ 0) : (unpR s many wide).1 = [] := by
  unfold unpR at *
  by_cases hc : chkR s many wide = 0
  · rw [if_pos hc] at h; exact absurd rfl h
  · rw [if_neg hc]
theorem unp_len (s : List UInt8) (many wide : Int) : (unpR s many wide).1.length ≤ 64 := by
  unfold unpR
  by_cases hc : chkR s many wide = 0
  · obtain ⟨m, n, rfl, rfl, hm, _⟩ := chk_zero _ _ _ hc
    rw [if_pos hc, B.dg_length]; simpa using hm
  · rw [if_neg hc]; simp

theorem of_next (l : List Nat) (k n : Nat) (hn : l.length = n) (hk : k < n) : ((ofOnes l).take k ++ List.replicate (n - k) false).set k (l.getD k 0 == 1) = (ofOnes l).take (k + 1) ++ List.replicate (n - (k + 1)) false := by
  have := put_next (ofOnes l) k n (by simp [ofOnes, hn]) hk
  have e : (ofOnes l).getD k false = (l.getD k 0 == 1) := by simp [ofOnes, List.getD, List.getElem?_eq_getElem (show k < l.length by omega)]
  rwa [e] at this

set_option maxHeartbeats 1000000 in
set_option maxRecDepth 100000 in
theorem of_any (s : ByteArray) (many : Int) (w : World) (hs : s.size ≤ maxLen) :
    Calls Try.prog 20 #[.string s, .int .i64 many] w (MarkPost (ofR s.data.toList many) w) := by
  obtain ⟨i0, hi, hz0, hz1, hz2⟩ := info_parts info_bool
  have HU := Lib.hid (fun w => unpack_any s many 1 w hs)
  have hlen := unp_len s.data.toList many 1
  have hbad := unp_bad s.data.toList many 1
  unfold ofR
  generalize unpR s.data.toList many 1 = u at *
  obtain ⟨xs, er⟩ := u
  simp only at hlen hbad ⊢
  by_cases he : er = 0
  · subst he
    clear hbad
    have HON := Lib.hid (fun k hk => of_next xs k xs.length rfl hk)
    have HOL := Lib.hid (show (ofOnes xs).length = xs.length by simp [ofOnes])
    generalize ofOnes xs = zs at *
    go_enter Try.func20, Try.ntmps20
    go_wp2_with fail
    refine (HU.out _).mono ?_
    rintro e w1 ⟨a1, c1, rfl, hn1, hb1⟩
    simp only at hn1 ⊢
    generalize hln : xs.length = n at *
    have HLN := Lib.hid hln
    clear hln
    go_wp2_with (at_make; refine wpList_make_full _ rfl (.tmp 21) (.tmp 21) 22 rfl w1.heap.size 4 i0 (.bool false) 1 Try.underlying22 hi hz0 hz1 .i64 .i64 _ _ n rfl rfl rfl rfl (by rw [hz2]; omega) (by unfold maxLen; omega) (Nat.le_refl _) ?_; intro w0 hown0 hgrow0)
    have hb0 : Below w1.heap.size w1 w0 := (Below.refl _ _).grown hgrow0 (Nat.le_refl _) (fun k hk => by cases hk)
    have hblk0 := made_mblk hown0
    clear hown0 hgrow0
    obtain ⟨g, hge⟩ : ∃ g, g = w1.heap.size := ⟨_, rfl⟩
    rw [← hge] at hblk0 ⊢
    have hgw : w1.heap.size ≤ g := by omega
    clear hge
    have HN1 := Lib.hid hn1
    clear hn1
    by_cases hz : n = 0
    · have hzs : zs = [] := List.eq_nil_of_length_eq_zero (by rw [HOL.out]; exact hz)
      subst hz
      subst hzs
      refine wp_loop_rounds 1 ?_
      rw [rounds_succ]
      go_wp2_with fail
      go_ret2
      exact ⟨_, _, rfl, Bools.nil _ _ _, below_then hb1 hb0⟩
    obtain ⟨b, off, rfl, hbl, hcl⟩ := HN1.out (by intro e; rw [e] at HLN; exact hz HLN.out.symm)
    have HCL := Lib.hid hcl
    clear hcl hz HN1
    go_loopw [9, 10, 25] (fun _ _ i wr => ∃ k : Nat, k ≤ n ∧ i = .int .i64 k ∧ MBlk wr g (zs.take k ++ List.replicate (n - k) false) ∧ Below w1.heap.size w1 wr) (fun _ _ i _ => n - (intOf i).toNat)
    case atStart => exact ⟨0, by omega, rfl, by simpa using hblk0, hb0⟩
    case round =>
      obtain ⟨k, hk, rfl, hblk, hbw⟩ := hrel
      by_cases hlt : k < n
      · have hcell : wr.cell? ⟨b, off + k, none⟩ = some (.int .u64 ((xs.getD k 0 : Nat) : Int)) := (hbw.cell (p := ⟨b, off + k, none⟩) hbl).trans (HCL.out k (by rw [HLN.out]; exact hlt))
        have ol : k < (zs.take k ++ List.replicate (n - k) false).length := by simp only [List.length_append, List.length_take, HOL.out, List.length_replicate]; omega
        have o1 := hblk.cell k ol
        have o2 := hblk.free k
        have hq : ((xs.getD k 0 : Int) == 1) = (xs.getD k 0 == 1) := by rw [Bool.eq_iff_iff]; simp; omega
        have hb2 := hblk.put k (xs.getD k 0 == 1)
        rw [HON.out k hlt] at hb2
        generalize xs.getD k 0 = x at *
        generalize (x == 1) = bx at *
        have hw2 : Below w1.heap.size w1 (wr.setCell ⟨g, k, none⟩ (.bool bx)) := hbw.setCell hgw _
        generalize (zs.take k ++ List.replicate (n - k) false).getD k false = oz at *
        clear ol
        go_wp2_with fail
        exact ⟨⟨k + 1, by omega, by go_num, hb2, hw2⟩, by simp [intOf]; omega⟩
      · obtain rfl : k = n := by omega
        rw [List.take_of_length_le (by rw [HOL.out]; omega), Nat.sub_self, List.replicate_zero, List.append_nil] at hblk
        have hr := hblk.bools
        have HLZ := Lib.hid HOL.out
        go_wp2_with fail
        go_ret2
        refine ⟨some ⟨g, 0, none⟩, k, ?_, hr, below_then hb1 hbw⟩
        rw [HLZ.out]; rfl
  · have hb := hbad he
    subst hb
    have g1 : ((er : Int) != 0) = true := by rw [bne_iff_ne]; omega
    clear he hbad
    go_enter Try.func20, Try.ntmps20
    go_wp2_with fail
    refine (HU.out _).mono ?_
    rintro e w1 ⟨a1, c1, rfl, hn1, hb1⟩
    simp only at hn1 ⊢
    go_wp2_with fail
    go_ret2
    exact ⟨none, 0, rfl, Bools.nil _ _ _, hb1⟩
end Go.Proofs.Ythmlafoceacliaa
