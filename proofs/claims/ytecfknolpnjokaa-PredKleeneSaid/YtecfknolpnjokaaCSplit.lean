/- Out of CW3: mks, mks_length, mks_next, mks_all, SplitPost, splitR, nsplit_any. -/
import Derived.Test.YtecfknolpnjokaaQ3
import Derived.Test.YtecfknolpnjokaaMBase
namespace Go.Proofs.Ytecfknolpnjokaa
open Go.RowKit
set_option linter.unusedVariables false

/-- marks that are laid as far as place j -/
def mks (l : List C.Cl) (j : Nat) : List Bool := (l.map C.here).take j ++ List.replicate (l.length - j) false
theorem mks_length (l : List C.Cl) (j : Nat) (h : j ≤ l.length) : (mks l j).length = l.length := by simp [mks]; omega
theorem mks_next (l : List C.Cl) (j : Nat) (h : j < l.length) : mks l (j + 1) = if (l.getD j C.null).kind = 0 then mks l j else (mks l j).set j true := by
  have h1 : l.length - j = (l.length - (j + 1)) + 1 := by omega
  have hs : (l.map C.here).take (j + 1) = (l.map C.here).take j ++ [C.here (l.getD j C.null)] := by
    rw [List.take_succ_eq_append_getElem (by simpa using h)]; simp [List.getD, List.getElem?_eq_getElem h]
  unfold mks
  rw [hs, h1, List.replicate_succ]
  by_cases hk : (l.getD j C.null).kind = 0
  · rw [if_pos hk, show C.here (l.getD j C.null) = false by unfold C.here; rw [hk]; rfl]; simp
  · rw [if_neg hk, show C.here (l.getD j C.null) = true by unfold C.here; exact decide_eq_true hk, List.set_append_right _ _ (by rw [List.length_take]; omega)]
    have h2 : j - ((l.map C.here).take j).length = 0 := by simp; omega
    rw [h2]; simp
theorem mks_all (l : List C.Cl) : mks l l.length = l.map C.here := by unfold mks; rw [Nat.sub_self, List.take_of_length_le (by simp)]; simp
def SplitPost (r : List Bool × List C.Cl × Nat) (w : World) (e : Ending) (w' : World) : Prop :=
  ∃ am cm v, e = .returned (.tuple #[.slice am r.1.length cm, v, .int .i64 (r.2.2 : Nat)]) ∧ Bools w' w'.heap.size am r.1 ∧ (r.1.length ≤ cm ∧ cm ≤ maxLen ∧ (am = none → cm = 0)) ∧ CRow w.heap.size r.2.1 v w' ∧ Below w.heap.size w w'
def splitR (k : Int) (l : List C.Cl) : List Bool × List C.Cl × Nat := if C.chk k l ≠ 0 then ([], [], C.chk k l) else (l.map C.here, C.dense l, 0)
set_option maxHeartbeats 2000000 in
set_option maxRecDepth 100000 in
theorem nsplit_any (k : Int) (a : Option Addr) (c : Nat) (l : List C.Cl) (w : World) (hm : l.length ≤ maxLen) (hx : ∀ x ∈ l, cOk x) (hu : Cls w w.heap.size a l) :
    Calls Try.prog 45 #[.int .i64 k, .slice a l.length c] w (SplitPost (splitR k l) w) := by
  have HC := Lib.hid (ncheck_any k a c l w hm hx hu)
  by_cases h1 : C.chk k l ≠ 0
  · have HR := Lib.hid (show splitR k l = ([], [], C.chk k l) from if_pos h1)
    generalize C.chk k l = er at *
    have g1 : ((er : Int) != 0) = true := by rw [bne_iff_ne]; omega
    clear hu hx h1
    go_enter Try.func45, Try.ntmps45
    go_wp2_with fail
    refine (HC.out).mono ?_
    rintro e w1 ⟨rfl, hb1⟩
    go_wp2_with fail
    go_ret3
    refine ⟨none, 0, .slice none 0 0, by rw [HR.out]; rfl, by rw [HR.out]; exact Bools.nil _ _ _, by rw [HR.out]; exact ⟨Nat.le_refl _, by unfold maxLen; omega, fun _ => rfl⟩, by rw [HR.out]; exact cnilRow _ _, hb1⟩
  have h1' : C.chk k l = 0 := Classical.not_not.1 h1
  obtain ⟨_, hl64, _⟩ := C.chk_ok h1'
  have HR := Lib.hid (show splitR k l = (l.map C.here, C.dense l, 0) from if_neg h1)
  rw [h1'] at HC
  have HU := Lib.hid hu
  have HD := Lib.hid (fun j h => dense_snoc l j h)
  have HDL := Lib.hid (fun j => dense_le l j)
  have HMN := Lib.hid (fun j h => mks_next l j h)
  have HML := Lib.hid (fun j h => mks_length l j h)
  obtain ⟨i0, hi, hz0, hz1, hz2⟩ := info_parts info_bool
  clear hu hx h1 h1' hm
  generalize splitR k l = R at *
  go_enter Try.func45, Try.ntmps45
  go_wp2_with fail
  refine (HC.out).mono ?_
  rintro e w1 ⟨rfl, hb1⟩
  go_wp2_with (at_make; refine wpList_make_full _ rfl (.tmp 19) (.tmp 19) 78 rfl w1.heap.size 4 i0 (.bool false) 1 Try.underlying78 hi hz0 hz1 .i64 .i64 _ _ l.length rfl rfl rfl rfl (by rw [hz2]; omega) (by unfold maxLen; omega) (Nat.le_refl _) ?_; intro w2 hown hgrow; have hb2 : Below w1.heap.size w1 w2 := (Below.refl _ _).grown hgrow (Nat.le_refl _) (fun k hk => by cases hk); have hblk := made_mblk hown; clear hown hgrow)
  have hgo := hblk.lt
  have hw2 := below_then hb1 hb2
  have hs1 := hb1.size
  obtain ⟨go, hgoe⟩ : ∃ go, go = w1.heap.size := ⟨_, rfl⟩
  rw [← hgoe] at hblk hgo hs1 ⊢
  obtain ⟨B, hBe⟩ : ∃ B, B = w2.heap.size := ⟨_, rfl⟩
  rw [← hBe] at hgo
  have hBs : B ≤ w2.heap.size := by omega
  have hBw : w.heap.size ≤ B := by omega
  clear hb1 hb2 hgoe hBe
  go_loopw [9, 10, 11, 23] (fun v _ _ i wr => ∃ j : Nat, j ≤ l.length ∧ i = .int .i64 j ∧ CRow B (C.dense (l.take j)) v wr ∧ MBlk wr go (mks l j) ∧ B ≤ wr.heap.size ∧ Below w.heap.size w wr) (fun _ _ _ i _ => l.length - (intOf i).toNat)
  case atStart => exact ⟨0, by omega, rfl, cnilRow _ _, hblk, hBs, hw2⟩
  case round =>
    clear hw2 hBs hblk
    obtain ⟨j, hj, rfl, hrow, hbo, hBr, hbw⟩ := hrel
    by_cases hlt : j < l.length
    · obtain ⟨b, off, rfl, hb, hcc⟩ := HU.out (fun e => by rw [e] at hlt; simp at hlt)
      obtain ⟨k0, k1, k2⟩ := hcc j hlt
      have c0 := (hbw.cell (p := ⟨b, off + j * 3, none⟩) hb).trans k0
      have c1 := (hbw.cell (p := ⟨b, off + j * 3 + 1, none⟩) hb).trans k1
      have c2 := (hbw.cell (p := ⟨b, off + j * 3 + 2, none⟩) hb).trans k2
      have hd := HD.out j hlt
      have hmn := HMN.out j hlt
      have hml := HML.out j hj
      have hal := HDL.out j
      have hjI : (j : Int) < (l.length : Int) := by omega
      obtain ⟨y, hy⟩ : ∃ y, y = l.getD j C.null := ⟨_, rfl⟩
      rw [← hy] at c0 c1 c2 hd hmn
      obtain ⟨z, n, x⟩ := y
      simp only at c0 c1 c2 hd hmn
      generalize C.dense (l.take j) = acc at *
      generalize mks l j = ms at *
      clear k0 k1 k2 hcc hy
      by_cases hz : z = 0
      · subst hz
        rw [if_pos rfl] at hd hmn
        have HDN := Lib.hid hd
        have HMJ := Lib.hid hmn
        clear hd hmn
        generalize hX : str x = X at *
        go_wp2_with fail
        refine ⟨⟨j + 1, by omega, by go_num, by rw [HDN.out]; exact hrow.alloc_ _, by rw [HMJ.out]; exact hbo.below ((Below.refl _ _).alloc (Nat.le_refl _) _), by simp; omega, hbw.alloc hbw.size _⟩, by simp [intOf]; omega⟩
      · rw [if_neg hz] at hd hmn
        have HDN := Lib.hid hd
        have HMJ := Lib.hid hmn
        have g1 : (z != 0) = true := by rw [bne_iff_ne]; exact hz
        generalize hX : str x = X at *
        have hne : go ≠ wr.heap.size := by omega
        have q := hbo.below ((Below.refl wr.heap.size wr).alloc (Nat.le_refl _) (.cells #[.int .i64 z, .int .u64 (n : Int), .string X] 38))
        have o1 := q.cell j (by rw [hml]; exact hlt)
        have o2 := q.free j
        have p := q.put j true
        have hrow2 := (hrow.alloc_ (.cells #[.int .i64 z, .int .u64 (n : Int), .string X] 38)).far go j (.bool true) (by omega)
        have s0 : ((wr.alloc (.cells #[.int .i64 z, .int .u64 (n : Int), .string X] 38)).setCell ⟨go, j, none⟩ (.bool true)).cell? ⟨wr.heap.size, 0, none⟩ = some (.int .i64 z) := by
          rw [World.cell?_setCell_far _ _ _ _ hne, World.cell?_alloc_new]; rfl
        have s1 : ((wr.alloc (.cells #[.int .i64 z, .int .u64 (n : Int), .string X] 38)).setCell ⟨go, j, none⟩ (.bool true)).cell? ⟨wr.heap.size, 1, none⟩ = some (.int .u64 (n : Int)) := by
          rw [World.cell?_setCell_far _ _ _ _ hne, World.cell?_alloc_new]; rfl
        have s2 : ((wr.alloc (.cells #[.int .i64 z, .int .u64 (n : Int), .string X] 38)).setCell ⟨go, j, none⟩ (.bool true)).cell? ⟨wr.heap.size, 2, none⟩ = some (.string X) := by
          rw [World.cell?_setCell_far _ _ _ _ hne, World.cell?_alloc_new]; rfl
        have hbw2 : Below w.heap.size w ((wr.alloc (.cells #[.int .i64 z, .int .u64 (n : Int), .string X] 38)).setCell ⟨go, j, none⟩ (.bool true)) := (hbw.alloc hbw.size _).setCell (p := ⟨go, j, none⟩) (by show w.heap.size ≤ go; omega) _
        have hsz : B ≤ ((wr.alloc (.cells #[.int .i64 z, .int .u64 (n : Int), .string X] 38)).setCell ⟨go, j, none⟩ (.bool true)).heap.size := by simp; omega
        have HROW := Lib.hid hrow2
        have hs2 : ((wr.alloc (.cells #[.int .i64 z, .int .u64 (n : Int), .string X] 38)).setCell ⟨go, j, none⟩ (.bool true)).heap.size = wr.heap.size + 1 := by simp
        have e0 : (((wr.alloc (.cells #[.int .i64 z, .int .u64 (n : Int), .string X] 38)).setCell ⟨go, j, none⟩ (.bool true)).alloc (.cells #[.int .i64 z, .int .u64 (n : Int), .string X] 38)).cell? ⟨wr.heap.size + 1, 0, none⟩ = some (.int .i64 z) := by rw [← hs2, World.cell?_alloc_new]; rfl
        have e1 : (((wr.alloc (.cells #[.int .i64 z, .int .u64 (n : Int), .string X] 38)).setCell ⟨go, j, none⟩ (.bool true)).alloc (.cells #[.int .i64 z, .int .u64 (n : Int), .string X] 38)).cell? ⟨wr.heap.size + 1, 1, none⟩ = some (.int .u64 (n : Int)) := by rw [← hs2, World.cell?_alloc_new]; rfl
        have e2 : (((wr.alloc (.cells #[.int .i64 z, .int .u64 (n : Int), .string X] 38)).setCell ⟨go, j, none⟩ (.bool true)).alloc (.cells #[.int .i64 z, .int .u64 (n : Int), .string X] 38)).cell? ⟨wr.heap.size + 1, 2, none⟩ = some (.string (str x)) := by rw [← hs2, World.cell?_alloc_new, hX]; rfl
        have hb5 : B ≤ (((wr.alloc (.cells #[.int .i64 z, .int .u64 (n : Int), .string X] 38)).setCell ⟨go, j, none⟩ (.bool true)).alloc (.cells #[.int .i64 z, .int .u64 (n : Int), .string X] 38)).heap.size := by simp; omega
        have HB3 := Lib.hid (hbw2.alloc hbw2.size (.cells #[.int .i64 z, .int .u64 (n : Int), .string X] 38))
        have HE := Lib.hid (And.intro e0 (And.intro e1 e2))
        have hp3 := p.below ((Below.refl _ _).alloc (Nat.le_refl _) (.cells #[.int .i64 z, .int .u64 (n : Int), .string X] 38))
        have HP := Lib.hid hp3
        have hlb : (acc.length + 1) * 32 ≤ 140737488355328 := by omega
        generalize ms.getD j false = om at *
        clear hd hmn hrow hbo q p hrow2 hz e0 e1 e2 hp3 hbw2
        go_wp2_with (at_builtin; refine wpList_append_onec rfl (.tmp 34) (.tmp 36) rfl B _ acc rfl (HROW.out.alloc_ _) (wr.heap.size + 1) ⟨z, n, x⟩ rfl HE.out.1 HE.out.2.1 HE.out.2.2 hlb hb5 ?_)
        intro v' w5 hown5 hb5w hg5
        have hbw5 : Below w.heap.size w w5 := HB3.out.trans (hb5w.mono hBw)
        have hm5 : MBlk w5 go (ms.set j true) := (hb5w.block go hgo).trans HP.out
        have hs5 := hb5w.size
        have hB5 : B ≤ w5.heap.size := by omega
        clear hb5w
        go_wp2_with fail
        exact ⟨⟨j + 1, by omega, by go_num, by rw [HDN.out]; exact hown5, by rw [HMJ.out]; exact hm5, hB5, hbw5⟩, by simp [intOf]; omega⟩
    · obtain rfl : j = l.length := by omega
      have HDA := Lib.hid (show C.dense (l.take l.length) = C.dense l by rw [List.take_length])
      have HMA := Lib.hid (mks_all l)
      have hrw := hrow.weak hBw
      have hbs := hbo.bools
      rw [HMA.out] at hbs
      rw [HDA.out] at hrw
      clear hrow hbo
      go_wp2_with fail
      go_ret3
      rw [HR.out]
      refine ⟨some ⟨go, 0, none⟩, l.length, _, ?_, hbs, ⟨by simp, by unfold maxLen; omega, fun h => by cases h⟩, hrw, hbw⟩
      simp
end Go.Proofs.Ytecfknolpnjokaa
