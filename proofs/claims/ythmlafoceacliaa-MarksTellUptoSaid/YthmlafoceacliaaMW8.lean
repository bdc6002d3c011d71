/- The walks of OnesOf, MarksOf, NotOf. -/
import Derived.Test.YthmlafoceacliaaMW7
import Derived.Test.YthmlafoceacliaaMApp
namespace Go.Proofs.Ythmlafoceacliaa
open Go.RowKit
set_option linter.unusedVariables false

def NumsPost (l : List Nat) (w : World) (e : Ending) (w' : World) : Prop :=
  ∃ a c, e = .returned (.slice a l.length c) ∧ Nums w' w'.heap.size a l ∧ Below w.heap.size w w'

set_option maxHeartbeats 1000000 in
set_option maxRecDepth 100000 in
theorem onesOf_some (b off c : Nat) (l : List Bool) (w : World) (hl : l.length * 8 ≤ 140737488355328) (hb : b < w.heap.size)
    (hc : ∀ i, i < l.length → w.cell? ⟨b, off + i, none⟩ = some (.bool (l.getD i false))) :
    Calls Try.prog 24 #[.slice (some ⟨b, off, none⟩) l.length c] w (NumsPost (ones l) w) := by
  have HC := Lib.hid hc
  have HSN := Lib.hid (fun k hk => ones_snoc l k hk)
  have HOL := Lib.hid (fun k => ones_length (l.take k))
  clear hc
  go_enter Try.func24, Try.ntmps24
  go_wp2_with fail
  go_loopw [3, 4] (fun v i wr => ∃ k : Nat, k ≤ l.length ∧ i = .int .i64 k ∧ NumRow w.heap.size (ones (l.take k)) v wr ∧ Below w.heap.size w wr) (fun _ i _ => l.length - (intOf i).toNat)
  case atStart => exact ⟨0, by omega, rfl, ⟨rfl, Or.inl ⟨rfl, rfl⟩⟩, Below.refl _ _⟩
  case round =>
    obtain ⟨k, hk, rfl, hrow, hbw⟩ := hrel
    by_cases hlt : k < l.length
    · have hcell : wr.cell? ⟨b, off + k, none⟩ = some (.bool (l.getD k false)) := (hbw.cell (p := ⟨b, off + k, none⟩) hb).trans (HC.out k hlt)
      have hsn := HSN.out k hlt
      have hln := HOL.out k
      rw [List.length_take] at hln
      generalize ones (l.take k) = xs at *
      have HROW := Lib.hid hrow
      have hxl : (xs.length + 1) * 8 ≤ 140737488355328 := by omega
      clear hrow hln
      cases hx : l.getD k false with
      | true =>
        rw [hx] at hcell hsn
        have HS := Lib.hid hsn
        clear hsn hx
        have hb5 : w.heap.size ≤ (wr.alloc (.cells #[.int .u64 ((1 : Nat) : Int)] 50)).heap.size := by have := hbw.size; simp; omega
        go_wp2_with (at_builtin; refine wpList_append_one rfl (.tmp 15) (.tmp 16) rfl w.heap.size _ xs.length _ rfl (HROW.out.alloc _) wr.heap.size 1 rfl (World.cell?_alloc_new _ _ _ _) hxl hb5 ?_)
        intro v' w2 hown2 hgrow2
        go_wp2_with fail
        have hbw2 : Below w.heap.size w w2 := (hbw.alloc hbw.size _).grown hgrow2 (by have := hbw.size; simp; omega) (fun k hk => (HROW.out.lt k hk).1)
        refine ⟨⟨k + 1, by omega, by go_num, ?_, hbw2⟩, by simp [intOf]; omega⟩
        rw [HS.out]; unfold NumRow; simpa [nv] using hown2
      | false =>
        rw [hx] at hcell hsn
        have HS := Lib.hid hsn
        clear hsn hx
        have hb5 : w.heap.size ≤ (wr.alloc (.cells #[.int .u64 ((0 : Nat) : Int)] 50)).heap.size := by have := hbw.size; simp; omega
        go_wp2_with (at_builtin; refine wpList_append_one rfl (.tmp 18) (.tmp 19) rfl w.heap.size _ xs.length _ rfl (HROW.out.alloc _) wr.heap.size 0 rfl (World.cell?_alloc_new _ _ _ _) hxl hb5 ?_)
        intro v' w2 hown2 hgrow2
        go_wp2_with fail
        have hbw2 : Below w.heap.size w w2 := (hbw.alloc hbw.size _).grown hgrow2 (by have := hbw.size; simp; omega) (fun k hk => (HROW.out.lt k hk).1)
        refine ⟨⟨k + 1, by omega, by go_num, ?_, hbw2⟩, by simp [intOf]; omega⟩
        rw [HS.out]; unfold NumRow; simpa [nv] using hown2
    · obtain rfl : k = l.length := by omega
      rw [List.take_length] at hrow
      obtain ⟨a, c', rfl, hnum⟩ := numRow_nums hrow
      generalize ones l = xs at *
      go_wp2_with fail
      go_ret
      exact ⟨a, c', rfl, hnum, hbw⟩

set_option maxHeartbeats 400000 in
theorem onesOf_nil (a : Option Addr) (c : Nat) (w : World) :
    Calls Try.prog 24 #[.slice a 0 c] w (NumsPost [] w) := by
  go_enter Try.func24, Try.ntmps24
  go_wp2_with fail
  refine wp_loop_rounds 1 ?_
  rw [rounds_succ]
  go_wp2_with fail
  go_ret
  exact ⟨none, 0, rfl, Nums.nil _ _ _, Below.refl _ _⟩

theorem onesOf_any (a : Option Addr) (c : Nat) (l : List Bool) (w : World) (hl : l.length * 8 ≤ 140737488355328) (hu : Bools w w.heap.size a l) :
    Calls Try.prog 24 #[.slice a l.length c] w (NumsPost (ones l) w) := by
  by_cases hn : l = []
  · subst hn; exact onesOf_nil a c w
  · obtain ⟨b, off, rfl, hb, hc⟩ := hu hn
    exact onesOf_some b off c l w hl hb hc

set_option maxHeartbeats 400000 in
theorem notOf_many (a : Option Addr) (n c : Nat) (w : World) (h : 64 < n) :
    Calls Try.prog 22 #[.slice a n c] w (MarkPost ([], 2) w) := by
  go_enter Try.func22, Try.ntmps22
  go_wp2_with fail
  go_ret2
  exact ⟨none, 0, rfl, Bools.nil _ _ _, Below.refl _ _⟩
set_option maxHeartbeats 400000 in
theorem notOf_nil (a : Option Addr) (c : Nat) (w : World) :
    Calls Try.prog 22 #[.slice a 0 c] w (MarkPost ([], 0) w) := by
  go_enter Try.func22, Try.ntmps22
  go_wp2_with fail
  refine wp_loop_rounds 1 ?_
  rw [rounds_succ]
  go_wp2_with fail
  go_ret2
  exact ⟨none, 0, rfl, Bools.nil _ _ _, Below.refl _ _⟩
theorem notL_snoc (l : List Bool) (k : Nat) (h : k < l.length) : M.notL (l.take (k + 1)) = M.notL (l.take k) ++ [!(l.getD k false)] := by
  rw [M.take_snoc l k h]; simp [M.notL]

set_option maxHeartbeats 1000000 in
set_option maxRecDepth 100000 in
theorem notOf_some (b off c : Nat) (l : List Bool) (w : World) (hl : l.length ≤ 64) (hb : b < w.heap.size)
    (hc : ∀ i, i < l.length → w.cell? ⟨b, off + i, none⟩ = some (.bool (l.getD i false))) :
    Calls Try.prog 22 #[.slice (some ⟨b, off, none⟩) l.length c] w (MarkPost (M.notL l, 0) w) := by
  have HC := Lib.hid hc
  have HSN := Lib.hid (fun k hk => notL_snoc l k hk)
  have HOL := Lib.hid (fun k => notL_length (l.take k))
  clear hc
  go_enter Try.func22, Try.ntmps22
  go_wp2_with fail
  go_loopw [4, 5] (fun v i wr => ∃ k : Nat, k ≤ l.length ∧ i = .int .i64 k ∧ MarkRow w.heap.size (M.notL (l.take k)) v wr ∧ Below w.heap.size w wr) (fun _ i _ => l.length - (intOf i).toNat)
  case atStart => exact ⟨0, by omega, rfl, ⟨rfl, Or.inl ⟨rfl, rfl⟩⟩, Below.refl _ _⟩
  case round =>
    obtain ⟨k, hk, rfl, hrow, hbw⟩ := hrel
    by_cases hlt : k < l.length
    · have hcell : wr.cell? ⟨b, off + k, none⟩ = some (.bool (l.getD k false)) := (hbw.cell (p := ⟨b, off + k, none⟩) hb).trans (HC.out k hlt)
      have hsn := HSN.out k hlt
      have hln := HOL.out k
      rw [List.length_take] at hln
      generalize M.notL (l.take k) = xs at *
      generalize l.getD k false = x at *
      have HROW := Lib.hid hrow
      have hxl : (xs.length + 1) * 1 ≤ 140737488355328 := by omega
      have HS := Lib.hid hsn
      clear hrow hln hsn
      have hb5 : w.heap.size ≤ (wr.alloc (.cells #[.bool (!x)] 4)).heap.size := by have := hbw.size; simp; omega
      go_wp2_with (at_builtin; refine wpList_append_mark rfl (.tmp 15) (.tmp 21) rfl w.heap.size _ xs.length _ rfl (HROW.out.alloc _) wr.heap.size (!x) rfl (World.cell?_alloc_new _ _ _ _) hxl hb5 ?_)
      intro v' w2 hown2 hgrow2
      go_wp2_with fail
      have hbw2 : Below w.heap.size w w2 := (hbw.alloc hbw.size _).grown hgrow2 (by have := hbw.size; simp; omega) (fun k hk => (HROW.out.lt k hk).1)
      refine ⟨⟨k + 1, by omega, by go_num, ?_, hbw2⟩, by simp [intOf]; omega⟩
      rw [HS.out]; unfold MarkRow; simpa [mv] using hown2
    · obtain rfl : k = l.length := by omega
      rw [List.take_length] at hrow
      obtain ⟨a, c', rfl, hnum⟩ := markRow_bools hrow
      generalize M.notL l = xs at *
      go_wp2_with fail
      go_ret2
      exact ⟨a, c', rfl, hnum, hbw⟩

theorem notOf_any (a : Option Addr) (c : Nat) (l : List Bool) (w : World) (hu : Bools w w.heap.size a l) :
    Calls Try.prog 22 #[.slice a l.length c] w (MarkPost (M.notR l) w) := by
  unfold M.notR
  by_cases h : 64 < l.length
  · rw [if_pos h]; exact notOf_many a _ c w h
  rw [if_neg h]
  by_cases hn : l = []
  · subst hn; exact notOf_nil a c w
  · obtain ⟨b, off, rfl, hb, hc⟩ := hu hn
    exact notOf_some b off c l w (by omega) hb hc

theorem zipB_snoc (f : Bool → Bool → Bool) (l m : List Bool) (k : Nat) (hk : k < l.length) : (M.zipB f l m).take (k + 1) = (M.zipB f l m).take k ++ [f (l.getD k false) (m.getD k false)] := by
  rw [M.take_snoc _ k (by rw [zipB_length]; exact hk), zipB_get f l m k hk]

set_option maxHeartbeats 400000 in
theorem marksOf_many (a b : Option Addr) (n m c d : Nat) (o : Bool) (w : World) (h : 64 < n ∨ 64 < m) :
    Calls Try.prog 21 #[.slice a n c, .slice b m d, .bool o] w (MarkPost ([], 2) w) := by
  by_cases hn : 64 < n
  · have g1 : decide (64 < n) = true := by simp; omega
    clear h
    go_enter Try.func21, Try.ntmps21
    go_wp2_with fail
    go_ret2
    exact ⟨none, 0, rfl, Bools.nil _ _ _, Below.refl _ _⟩
  · have hm : 64 < m := by omega
    have g1 : decide ((64 : Int) < (n : Int)) = false := by simp; omega
    clear h hn
    go_enter Try.func21, Try.ntmps21
    go_wp2_with fail
    go_ret2
    exact ⟨none, 0, rfl, Bools.nil _ _ _, Below.refl _ _⟩
set_option maxHeartbeats 400000 in
theorem marksOf_form (a b : Option Addr) (n m c d : Nat) (o : Bool) (w : World) (hn : n ≤ 64) (hm : m ≤ 64) (h : n ≠ m) :
    Calls Try.prog 21 #[.slice a n c, .slice b m d, .bool o] w (MarkPost ([], 1) w) := by
  have g1 : decide ((64 : Int) < (n : Int)) = false := by simp; omega
  have g2 : decide ((64 : Int) < (m : Int)) = false := by simp; omega
  have g3 : ((n : Int) != (m : Int)) = true := by rw [bne_iff_ne]; omega
  clear h
  go_enter Try.func21, Try.ntmps21
  go_wp2_with fail
  go_ret2
  exact ⟨none, 0, rfl, Bools.nil _ _ _, Below.refl _ _⟩

set_option maxHeartbeats 1000000 in
set_option maxRecDepth 100000 in
theorem marksOf_true (ba oa bb ob c d : Nat) (l m : List Bool) (w : World) (hl : l.length ≤ 64) (hlm : l.length = m.length) (hba : ba < w.heap.size) (hbb : bb < w.heap.size)
    (ha : ∀ i, i < l.length → w.cell? ⟨ba, oa + i, none⟩ = some (.bool (l.getD i false)))
    (hb : ∀ i, i < m.length → w.cell? ⟨bb, ob + i, none⟩ = some (.bool (m.getD i false))) :
    Calls Try.prog 21 #[.slice (some ⟨ba, oa, none⟩) l.length c, .slice (some ⟨bb, ob, none⟩) m.length d, .bool true] w (MarkPost (M.zipB or l m, 0) w) := by
  have HA := Lib.hid ha
  have HB := Lib.hid hb
  have HSN := Lib.hid (fun k hk => zipB_snoc or l m k hk)
  have HOL := Lib.hid (zipB_length or l m)
  have HLM := Lib.hid hlm
  rw [← hlm]
  have g0 : ((l.length : Int) != (l.length : Int)) = false := by simp
  clear ha hb hlm
  generalize M.zipB or l m = zs at *
  go_enter Try.func21, Try.ntmps21
  go_wp2_with fail
  go_loopw [8, 9] (fun v i wr => ∃ k : Nat, k ≤ l.length ∧ i = .int .i64 k ∧ MarkRow w.heap.size (zs.take k) v wr ∧ Below w.heap.size w wr) (fun _ i _ => l.length - (intOf i).toNat)
  case atStart => exact ⟨0, by omega, rfl, ⟨rfl, Or.inl ⟨rfl, rfl⟩⟩, Below.refl _ _⟩
  case round =>
    obtain ⟨k, hk, rfl, hrow, hbw⟩ := hrel
    by_cases hlt : k < l.length
    · have ca : wr.cell? ⟨ba, oa + k, none⟩ = some (.bool (l.getD k false)) := (hbw.cell (p := ⟨ba, oa + k, none⟩) hba).trans (HA.out k hlt)
      have cb : wr.cell? ⟨bb, ob + k, none⟩ = some (.bool (m.getD k false)) := (hbw.cell (p := ⟨bb, ob + k, none⟩) hbb).trans (HB.out k (by have := HLM.out; omega))
      have hsn := HSN.out k hlt
      have hln : (zs.take k).length = k := by rw [List.length_take, HOL.out]; omega
      generalize zs.take k = xs at *
      generalize l.getD k false = x at *
      generalize m.getD k false = y at *
      have HROW := Lib.hid hrow
      have hxl : (xs.length + 1) * 1 ≤ 140737488355328 := by omega
      clear hrow hln
      cases x with
      | true =>
        rw [show or true y = true from rfl] at hsn
        have HS := Lib.hid hsn
        clear hsn
        have hb5 : w.heap.size ≤ (wr.alloc (.cells #[.bool true] 4)).heap.size := by have := hbw.size; simp; omega
        go_wp2_with (at_builtin; refine wpList_append_mark rfl (.tmp 30) (.tmp 41) rfl w.heap.size _ xs.length _ rfl (HROW.out.alloc _) wr.heap.size true rfl (World.cell?_alloc_new _ _ _ _) hxl hb5 ?_)
        intro v' w2 hown2 hgrow2
        go_wp2_with fail
        have hbw2 : Below w.heap.size w w2 := (hbw.alloc hbw.size _).grown hgrow2 (by have := hbw.size; simp; omega) (fun k hk => (HROW.out.lt k hk).1)
        refine ⟨⟨k + 1, by omega, by go_num, ?_, hbw2⟩, by simp [intOf]; omega⟩
        rw [HS.out]; unfold MarkRow; simpa [mv] using hown2
      | false =>
        rw [show or false y = y from rfl] at hsn
        have HS := Lib.hid hsn
        clear hsn
        have hb5 : w.heap.size ≤ (wr.alloc (.cells #[.bool y] 4)).heap.size := by have := hbw.size; simp; omega
        go_wp2_with (at_builtin; refine wpList_append_mark rfl (.tmp 30) (.tmp 41) rfl w.heap.size _ xs.length _ rfl (HROW.out.alloc _) wr.heap.size y rfl (World.cell?_alloc_new _ _ _ _) hxl hb5 ?_)
        intro v' w2 hown2 hgrow2
        go_wp2_with fail
        have hbw2 : Below w.heap.size w w2 := (hbw.alloc hbw.size _).grown hgrow2 (by have := hbw.size; simp; omega) (fun k hk => (HROW.out.lt k hk).1)
        refine ⟨⟨k + 1, by omega, by go_num, ?_, hbw2⟩, by simp [intOf]; omega⟩
        rw [HS.out]; unfold MarkRow; simpa [mv] using hown2
    · have HK := Lib.hid (show zs.take k = zs from List.take_of_length_le (by rw [HOL.out]; omega))
      rw [HK.out] at hrow
      obtain ⟨a, c', rfl, hnum⟩ := markRow_bools hrow
      go_wp2_with fail
      go_ret2
      exact ⟨a, c', rfl, hnum, hbw⟩

set_option maxHeartbeats 400000 in
theorem marksOf_niltrue (a b : Option Addr) (c d : Nat) (w : World) :
    Calls Try.prog 21 #[.slice a 0 c, .slice b 0 d, .bool true] w (MarkPost ([], 0) w) := by
  go_enter Try.func21, Try.ntmps21
  go_wp2_with fail
  refine wp_loop_rounds 1 ?_
  rw [rounds_succ]
  go_wp2_with fail
  go_ret2
  exact ⟨none, 0, rfl, Bools.nil _ _ _, Below.refl _ _⟩

theorem marksOf_anytrue (a b : Option Addr) (c d : Nat) (l m : List Bool) (w : World) (ha : Bools w w.heap.size a l) (hb : Bools w w.heap.size b m) :
    Calls Try.prog 21 #[.slice a l.length c, .slice b m.length d, .bool true] w (MarkPost (M.pairR or l m) w) := by
  unfold M.pairR
  by_cases h2 : 64 < l.length ∨ 64 < m.length
  · rw [if_pos h2]; exact marksOf_many a b _ _ c d _ w h2
  rw [if_neg h2]
  by_cases h3 : l.length = m.length
  · rw [if_neg (by omega)]
    by_cases hn : l = []
    · subst hn
      obtain rfl : m = [] := List.eq_nil_of_length_eq_zero h3.symm
      exact marksOf_niltrue a b c d w
    · obtain ⟨ba, oa, rfl, hba, hca⟩ := ha hn
      obtain ⟨bb, ob, rfl, hbb, hcb⟩ := hb (by intro e; rw [e] at h3; exact hn (List.eq_nil_of_length_eq_zero h3))
      exact marksOf_true ba oa bb ob c d l m w (by omega) h3 hba hbb hca hcb
  · rw [if_pos h3]; exact marksOf_form a b _ _ c d _ w (by omega) (by omega) h3

set_option maxHeartbeats 1000000 in
set_option maxRecDepth 100000 in
theorem marksOf_false (ba oa bb ob c d : Nat) (l m : List Bool) (w : World) (hl : l.length ≤ 64) (hlm : l.length = m.length) (hba : ba < w.heap.size) (hbb : bb < w.heap.size)
    (ha : ∀ i, i < l.length → w.cell? ⟨ba, oa + i, none⟩ = some (.bool (l.getD i false)))
    (hb : ∀ i, i < m.length → w.cell? ⟨bb, ob + i, none⟩ = some (.bool (m.getD i false))) :
    Calls Try.prog 21 #[.slice (some ⟨ba, oa, none⟩) l.length c, .slice (some ⟨bb, ob, none⟩) m.length d, .bool false] w (MarkPost (M.zipB and l m, 0) w) := by
  have HA := Lib.hid ha
  have HB := Lib.hid hb
  have HSN := Lib.hid (fun k hk => zipB_snoc and l m k hk)
  have HOL := Lib.hid (zipB_length and l m)
  have HLM := Lib.hid hlm
  rw [← hlm]
  have g0 : ((l.length : Int) != (l.length : Int)) = false := by simp
  clear ha hb hlm
  generalize M.zipB and l m = zs at *
  go_enter Try.func21, Try.ntmps21
  go_wp2_with fail
  go_loopw [8, 9] (fun v i wr => ∃ k : Nat, k ≤ l.length ∧ i = .int .i64 k ∧ MarkRow w.heap.size (zs.take k) v wr ∧ Below w.heap.size w wr) (fun _ i _ => l.length - (intOf i).toNat)
  case atStart => exact ⟨0, by omega, rfl, ⟨rfl, Or.inl ⟨rfl, rfl⟩⟩, Below.refl _ _⟩
  case round =>
    obtain ⟨k, hk, rfl, hrow, hbw⟩ := hrel
    by_cases hlt : k < l.length
    · have ca : wr.cell? ⟨ba, oa + k, none⟩ = some (.bool (l.getD k false)) := (hbw.cell (p := ⟨ba, oa + k, none⟩) hba).trans (HA.out k hlt)
      have cb : wr.cell? ⟨bb, ob + k, none⟩ = some (.bool (m.getD k false)) := (hbw.cell (p := ⟨bb, ob + k, none⟩) hbb).trans (HB.out k (by have := HLM.out; omega))
      have hsn := HSN.out k hlt
      have hln : (zs.take k).length = k := by rw [List.length_take, HOL.out]; omega
      generalize zs.take k = xs at *
      generalize l.getD k false = x at *
      generalize m.getD k false = y at *
      have HROW := Lib.hid hrow
      have hxl : (xs.length + 1) * 1 ≤ 140737488355328 := by omega
      clear hrow hln
      cases x with
      | true =>
        rw [show and true y = y from rfl] at hsn
        have HS := Lib.hid hsn
        clear hsn
        have hb5 : w.heap.size ≤ (wr.alloc (.cells #[.bool y] 4)).heap.size := by have := hbw.size; simp; omega
        go_wp2_with (at_builtin; refine wpList_append_mark rfl (.tmp 43) (.tmp 54) rfl w.heap.size _ xs.length _ rfl (HROW.out.alloc _) wr.heap.size y rfl (World.cell?_alloc_new _ _ _ _) hxl hb5 ?_)
        intro v' w2 hown2 hgrow2
        go_wp2_with fail
        have hbw2 : Below w.heap.size w w2 := (hbw.alloc hbw.size _).grown hgrow2 (by have := hbw.size; simp; omega) (fun k hk => (HROW.out.lt k hk).1)
        refine ⟨⟨k + 1, by omega, by go_num, ?_, hbw2⟩, by simp [intOf]; omega⟩
        rw [HS.out]; unfold MarkRow; simpa [mv] using hown2
      | false =>
        rw [show and false y = false from rfl] at hsn
        have HS := Lib.hid hsn
        clear hsn
        have hb5 : w.heap.size ≤ (wr.alloc (.cells #[.bool false] 4)).heap.size := by have := hbw.size; simp; omega
        go_wp2_with (at_builtin; refine wpList_append_mark rfl (.tmp 43) (.tmp 54) rfl w.heap.size _ xs.length _ rfl (HROW.out.alloc _) wr.heap.size false rfl (World.cell?_alloc_new _ _ _ _) hxl hb5 ?_)
        intro v' w2 hown2 hgrow2
        go_wp2_with fail
        have hbw2 : Below w.heap.size w w2 := (hbw.alloc hbw.size _).grown hgrow2 (by have := hbw.size; simp; omega) (fun k hk => (HROW.out.lt k hk).1)
        refine ⟨⟨k + 1, by omega, by go_num, ?_, hbw2⟩, by simp [intOf]; omega⟩
        rw [HS.out]; unfold MarkRow; simpa [mv] using hown2
    · have HK := Lib.hid (show zs.take k = zs from List.take_of_length_le (by rw [HOL.out]; omega))
      rw [HK.out] at hrow
      obtain ⟨a, c', rfl, hnum⟩ := markRow_bools hrow
      go_wp2_with fail
      go_ret2
      exact ⟨a, c', rfl, hnum, hbw⟩

set_option maxHeartbeats 400000 in
theorem marksOf_nilfalse (a b : Option Addr) (c d : Nat) (w : World) :
    Calls Try.prog 21 #[.slice a 0 c, .slice b 0 d, .bool false] w (MarkPost ([], 0) w) := by
  go_enter Try.func21, Try.ntmps21
  go_wp2_with fail
  refine wp_loop_rounds 1 ?_
  rw [rounds_succ]
  go_wp2_with fail
  go_ret2
  exact ⟨none, 0, rfl, Bools.nil _ _ _, Below.refl _ _⟩

theorem marksOf_anyfalse (a b : Option Addr) (c d : Nat) (l m : List Bool) (w : World) (ha : Bools w w.heap.size a l) (hb : Bools w w.heap.size b m) :
    Calls Try.prog 21 #[.slice a l.length c, .slice b m.length d, .bool false] w (MarkPost (M.pairR and l m) w) := by
  unfold M.pairR
  by_cases h2 : 64 < l.length ∨ 64 < m.length
  · rw [if_pos h2]; exact marksOf_many a b _ _ c d _ w h2
  rw [if_neg h2]
  by_cases h3 : l.length = m.length
  · rw [if_neg (by omega)]
    by_cases hn : l = []
    · subst hn
      obtain rfl : m = [] := List.eq_nil_of_length_eq_zero h3.symm
      exact marksOf_nilfalse a b c d w
    · obtain ⟨ba, oa, rfl, hba, hca⟩ := ha hn
      obtain ⟨bb, ob, rfl, hbb, hcb⟩ := hb (by intro e; rw [e] at h3; exact hn (List.eq_nil_of_length_eq_zero h3))
      exact marksOf_false ba oa bb ob c d l m w (by omega) h3 hba hbb hca hcb
  · rw [if_pos h3]; exact marksOf_form a b _ _ c d _ w (by omega) (by omega) h3

end Go.Proofs.Ythmlafoceacliaa
