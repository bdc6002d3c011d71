/- The walks of page.each, from cells to numbers and to texts. -/
import Derived.Test.YtcachhnhncodoaaGreatP10
namespace Go.Proofs.YtcachhnhncodoaaGreat
open Go.RowKit
set_option linter.unusedVariables false

theorem pfill_step {α β : Type} (f : α → β) (z : β) (l : List α) (j : Nat) (h : j < l.length) (d : α) : ((l.take j).map f ++ List.replicate (l.length - j) z).set j (f (l.getD j d)) = (l.take (j + 1)).map f ++ List.replicate (l.length - (j + 1)) z := by
  have hl : ((l.take j).map f).length = j := by simp; omega
  have e : l.take (j + 1) = l.take j ++ [l.getD j d] := by
    rw [List.take_succ_eq_append_getElem h]; simp [List.getD, List.getElem?_eq_getElem h]
  rw [List.set_append_right _ _ (by omega), hl, Nat.sub_self, show l.length - j = (l.length - (j + 1)) + 1 by omega, List.replicate_succ, List.set_cons_zero, e, List.map_append, List.append_assoc]
  rfl
theorem pfill_len {α β : Type} (f : α → β) (z : β) (l : List α) (j : Nat) (h : j ≤ l.length) : ((l.take j).map f ++ List.replicate (l.length - j) z).length = l.length := by simp; omega
theorem pfill_all {α β : Type} (f : α → β) (z : β) (l : List α) : (l.take l.length).map f ++ List.replicate (l.length - l.length) z = l.map f := by rw [List.take_length, Nat.sub_self]; simp

set_option maxHeartbeats 400000 in
theorem pbest1_any (c : C.Cl) (w : World) :
    Calls Tryz.prog 46 #[cag c] w fun e w' => e = .returned (.int .u64 (c.num : Int)) ∧ Below w.heap.size w w' := by
  unfold cag
  generalize c.kind = k
  generalize c.num = n
  generalize str c.txt = X
  go_enter Tryz.func46, Tryz.ntmps46
  have q := tri_new w (.int .i64 k) (.int .u64 (n : Int)) (.string X)
  have c1 := q.c1
  go_wp2_with fail
  go_ret
  exact ⟨rfl, (Below.refl _ _).alloc (Nat.le_refl _) _⟩
set_option maxHeartbeats 400000 in
theorem pbest2_any (c : C.Cl) (w : World) :
    Calls Tryz.prog 49 #[cag c] w fun e w' => e = .returned (.string (str c.txt)) ∧ Below w.heap.size w w' := by
  unfold cag
  generalize c.kind = k
  generalize c.num = n
  generalize str c.txt = X
  go_enter Tryz.func49, Tryz.ntmps49
  have q := tri_new w (.int .i64 k) (.int .u64 (n : Int)) (.string X)
  have c1 := q.c2
  go_wp2_with fail
  go_ret
  exact ⟨rfl, (Below.refl _ _).alloc (Nat.le_refl _) _⟩

set_option maxHeartbeats 1000000 in
set_option maxRecDepth 100000 in
theorem eachN_any (a : Option Addr) (c : Nat) (l : List C.Cl) (w : World) (hl : l.length ≤ 64) (hu : Cls w w.heap.size a l) :
    Calls Tryz.prog 45 #[.slice a l.length c, .func (.func 46) #[] #[]] w fun e w' => ∃ g, e = .returned (.slice (some ⟨g, 0, none⟩) l.length l.length) ∧ Nums w' w'.heap.size (some ⟨g, 0, none⟩) (l.map (·.num)) ∧ Below w.heap.size w w' := by
  obtain ⟨i0, hi, hz0, hz1, hz2⟩ := info_parts info_u64
  have HU := Lib.hid hu
  have HC := Lib.hid (fun x W => pbest1_any x W)
  have HST := Lib.hid (fun j h => pfill_step (fun x : C.Cl => x.num) 0 l j h C.null)
  have HLN := Lib.hid (fun j h => pfill_len (fun x : C.Cl => x.num) 0 l j h)
  have HALL := Lib.hid (pfill_all (fun x : C.Cl => x.num) 0 l)
  clear hu
  go_enter Tryz.func45, Tryz.ntmps45
  go_wp2_with (at_make; refine wpList_make_full _ rfl _ _ 44 rfl w.heap.size 34 i0 (.int .u64 0) 1 Tryz.underlying44 hi hz0 hz1 .i64 .i64 _ _ l.length rfl rfl rfl rfl (by rw [hz2]; omega) (by unfold maxLen; omega) (Nat.le_refl _) ?_; intro w0 hown0 hgrow0)
  have hb0 : Below w.heap.size w w0 := (Below.refl _ _).grown hgrow0 (Nat.le_refl _) (fun k hk => by cases hk)
  have hblk0 := made_ublk hown0
  obtain ⟨g, hg⟩ : ∃ g, g = w.heap.size := ⟨_, rfl⟩
  rw [← hg] at hblk0 ⊢
  have hgl : w.heap.size ≤ g := by omega
  clear hg hown0 hgrow0
  go_loopw [6, 7, 13] (fun _ _ i wr => ∃ j : Nat, j ≤ l.length ∧ i = .int .i64 j ∧ UBlk wr g ((l.take j).map (fun x : C.Cl => x.num) ++ List.replicate (l.length - j) 0) ∧ Below w.heap.size w wr) (fun _ _ i _ => l.length - (intOf i).toNat)
  case atStart => exact ⟨0, by omega, rfl, by simpa using hblk0, hb0⟩
  case round =>
    obtain ⟨j, hj, rfl, hblk, hbw⟩ := hrel
    by_cases hlt : j < l.length
    · obtain ⟨b, off, rfl, hb, hcc⟩ := HU.out (fun e => by rw [e] at hlt; simp at hlt)
      obtain ⟨k0, k1, k2⟩ := hcc j hlt
      have c0 := (hbw.cell (p := ⟨b, off + j * 3, none⟩) hb).trans k0
      have c1 := (hbw.cell (p := ⟨b, off + j * 3 + 1, none⟩) hb).trans k1
      have c2 := (hbw.cell (p := ⟨b, off + j * 3 + 2, none⟩) hb).trans k2
      have HS := Lib.hid (HST.out j hlt)
      have hln := HLN.out j hj
      have hcall := HC.out (l.getD j C.null) (wr.alloc (.cells #[.int .i64 (l.getD j C.null).kind, .int .u64 ((l.getD j C.null).num : Int), .string (str (l.getD j C.null).txt)] 50))
      unfold cag at hcall
      generalize (l.take j).map (fun x : C.Cl => x.num) ++ List.replicate (l.length - j) 0 = xs at *
      generalize (l.getD j C.null).kind = z at *
      generalize (l.getD j C.null).num = n at *
      generalize str (l.getD j C.null).txt = X at *
      have HCX := Lib.hid hcall
      have hjI : (j : Int) < (l.length : Int) := by omega
      clear k0 k1 k2 hcc hcall
      go_wp2_with fail
      refine (HCX.out).mono ?_
      rintro e w1 ⟨rfl, hb1⟩
      have hba := hbw.alloc hbw.size (.cells #[.int .i64 z, .int .u64 (n : Int), .string X] 50)
      have hbw1 := hba.trans (hb1.mono hba.size)
      have hblk1 := (hblk.alloc (.cells #[.int .i64 z, .int .u64 (n : Int), .string X] 50)).next hb1
      have d0 := hblk1.cell j (by omega)
      have f0 := hblk1.free j
      have hblk2 := hblk1.put j n
      have hbw2 := hbw1.setCell (p := ⟨g, j, none⟩) hgl (.int .u64 (n : Int))
      generalize xs.getD j 0 = y at *
      clear hblk hblk1 hbw hb1 hbw1 hba
      go_wp2_with fail
      exact ⟨⟨j + 1, by omega, by go_num, by rw [← HS.out]; exact hblk2, hbw2⟩, by simp [intOf]; omega⟩
    · obtain rfl : j = l.length := by omega
      rw [HALL.out] at hblk
      have hnum := hblk.nums
      go_wp2_with fail
      go_ret
      exact ⟨g, rfl, hnum, hbw⟩

set_option maxHeartbeats 1000000 in
set_option maxRecDepth 100000 in
theorem eachT_any (a : Option Addr) (c : Nat) (l : List C.Cl) (w : World) (hl : l.length ≤ 64) (hu : Cls w w.heap.size a l) :
    Calls Tryz.prog 48 #[.slice a l.length c, .func (.func 49) #[] #[]] w fun e w' => ∃ g, e = .returned (.slice (some ⟨g, 0, none⟩) l.length l.length) ∧ Txts w' w'.heap.size (some ⟨g, 0, none⟩) (l.map (·.txt)) ∧ Below w.heap.size w w' := by
  obtain ⟨i0, hi, hz0, hz1, hz2⟩ := info_parts info_str
  have HU := Lib.hid hu
  have HC := Lib.hid (fun x W => pbest2_any x W)
  have HST := Lib.hid (fun j h => pfill_step (fun x : C.Cl => x.txt) [] l j h C.null)
  have HLN := Lib.hid (fun j h => pfill_len (fun x : C.Cl => x.txt) [] l j h)
  have HALL := Lib.hid (pfill_all (fun x : C.Cl => x.txt) [] l)
  clear hu
  go_enter Tryz.func48, Tryz.ntmps48
  go_wp2_with (at_make; refine wpList_make_full _ rfl _ _ 66 rfl w.heap.size 9 i0 (.string ByteArray.empty) 1 Tryz.underlying66 hi hz0 hz1 .i64 .i64 _ _ l.length rfl rfl rfl rfl (by rw [hz2]; omega) (by unfold maxLen; omega) (Nat.le_refl _) ?_; intro w0 hown0 hgrow0)
  have hb0 : Below w.heap.size w w0 := (Below.refl _ _).grown hgrow0 (Nat.le_refl _) (fun k hk => by cases hk)
  have hrow0 := made_trow hown0
  obtain ⟨g, hg⟩ : ∃ g, g = w.heap.size := ⟨_, rfl⟩
  rw [← hg] at hrow0 ⊢
  have hgl : w.heap.size ≤ g := by omega
  clear hg hown0 hgrow0
  go_loopw [6, 7, 13] (fun _ _ i wr => ∃ j : Nat, j ≤ l.length ∧ i = .int .i64 j ∧ TRow g ((l.take j).map (fun x : C.Cl => x.txt) ++ List.replicate (l.length - j) []) (.slice (some ⟨g, 0, none⟩) l.length l.length) wr ∧ Below w.heap.size w wr) (fun _ _ i _ => l.length - (intOf i).toNat)
  case atStart => exact ⟨0, by omega, rfl, by simpa using hrow0, hb0⟩
  case round =>
    obtain ⟨j, hj, rfl, hrow, hbw⟩ := hrel
    by_cases hlt : j < l.length
    · obtain ⟨b, off, rfl, hb, hcc⟩ := HU.out (fun e => by rw [e] at hlt; simp at hlt)
      obtain ⟨k0, k1, k2⟩ := hcc j hlt
      have c0 := (hbw.cell (p := ⟨b, off + j * 3, none⟩) hb).trans k0
      have c1 := (hbw.cell (p := ⟨b, off + j * 3 + 1, none⟩) hb).trans k1
      have c2 := (hbw.cell (p := ⟨b, off + j * 3 + 2, none⟩) hb).trans k2
      have hs := HST.out j hlt
      have hln := HLN.out j hj
      have hcall := HC.out (l.getD j C.null) (wr.alloc (.cells #[.int .i64 (l.getD j C.null).kind, .int .u64 ((l.getD j C.null).num : Int), .string (str (l.getD j C.null).txt)] 50))
      unfold cag at hcall
      generalize (l.take j).map (fun x : C.Cl => x.txt) ++ List.replicate (l.length - j) [] = xs at *
      generalize (l.getD j C.null).kind = z at *
      generalize (l.getD j C.null).num = n at *
      generalize (l.getD j C.null).txt = x at *
      have HS := Lib.hid hs
      have HCX := Lib.hid hcall
      have hjI : (j : Int) < (l.length : Int) := by omega
      clear k0 k1 k2 hcc hcall hs
      have HPUT := Lib.hid (fun W (h : TRow g xs (.slice (some ⟨g, 0, none⟩) l.length l.length) W) => h.put j x)
      generalize str x = X at *
      go_wp2_with fail
      refine (HCX.out).mono ?_
      rintro e w1 ⟨rfl, hb1⟩
      have hba := hbw.alloc hbw.size (.cells #[.int .i64 z, .int .u64 (n : Int), .string X] 50)
      have hbw1 := hba.trans (hb1.mono hba.size)
      have hrow1 := (hrow.alloc_ (.cells #[.int .i64 z, .int .u64 (n : Int), .string X] 50)).below hb1
      have d0 := hrow1.cell j (by omega)
      have f0 := hrow1.free j
      have hrow2 := HPUT.out _ hrow1
      have hbw2 := hbw1.setCell (p := ⟨g, j, none⟩) hgl (.string X)
      generalize str (xs.getD j []) = y at *
      clear hrow hrow1 hbw hb1 hbw1 hba
      go_wp2_with fail
      exact ⟨⟨j + 1, by omega, by go_num, by rw [← HS.out]; exact hrow2, hbw2⟩, by simp [intOf]; omega⟩
    · obtain rfl : j = l.length := by omega
      rw [HALL.out] at hrow
      have hnum := hrow.txts.1
      go_wp2_with fail
      go_ret
      exact ⟨g, rfl, hnum, hbw⟩
end Go.Proofs.YtcachhnhncodoaaGreat
