/- The walks of page.each, from numbers and from texts to cells. -/
import Derived.Test.YtcachhnhncodoaaGreatPgW3
import Derived.RangeFuncBox
namespace Go.Proofs.YtcachhnhncodoaaGreat
open Go.RowKit
set_option linter.unusedVariables false

set_option maxHeartbeats 400000 in
theorem ptold1_any (Cb : Nat) (k : Int) (n : Nat) (w : World) (hB : Boxed w Cb 3 (.int .i64 k)) :
    Calls Tryz.prog 86 #[.int .u64 (n : Int), .pointer (some ⟨Cb, 0, none⟩)] w fun e w' => e = .returned (cag ⟨k, n, []⟩) ∧ Below w.heap.size w w' := by
  have cb : (w.alloc (.cells #[.int .i64 0, .int .u64 0, .string ⟨#[]⟩] 50)).cell? ⟨Cb, 0, none⟩ = some (.int .i64 k) := (hB.alloc _).cell
  clear hB
  go_enter Tryz.func86, Tryz.ntmps86
  go_wp2_with fail
  exact bodyPost_ret (v := cag ⟨k, n, []⟩) (by simp [results, Tryz.results86, go_sem, cag]; try rfl) rfl ⟨rfl, (Below.refl _ _).alloc (Nat.le_refl _) _⟩
set_option maxHeartbeats 400000 in
theorem ptold2_any (Cb : Nat) (k : Int) (x : List UInt8) (w : World) (hB : Boxed w Cb 3 (.int .i64 k)) :
    Calls Tryz.prog 89 #[.string (str x), .pointer (some ⟨Cb, 0, none⟩)] w fun e w' => e = .returned (cag ⟨k, 0, x⟩) ∧ Below w.heap.size w w' := by
  have cb : (w.alloc (.cells #[.int .i64 0, .int .u64 0, .string ⟨#[]⟩] 50)).cell? ⟨Cb, 0, none⟩ = some (.int .i64 k) := (hB.alloc _).cell
  clear hB
  go_enter Tryz.func89, Tryz.ntmps89
  go_wp2_with fail
  exact bodyPost_ret (v := cag ⟨k, 0, x⟩) (by simp [results, Tryz.results89, go_sem, cag]; try rfl) rfl ⟨rfl, (Below.refl _ _).alloc (Nat.le_refl _) _⟩
set_option maxHeartbeats 1000000 in
set_option maxRecDepth 100000 in
theorem eachC_any (Cb : Nat) (k : Int) (a : Option Addr) (c : Nat) (l : List (Nat)) (w : World) (hl : l.length ≤ 64) (hB : Boxed w Cb 3 (.int .i64 k)) (hu : Nums w w.heap.size a l) :
    Calls Tryz.prog 85 #[.slice a l.length c, .func (.func 86) #[] #[.pointer (some ⟨Cb, 0, none⟩)]] w fun e w' => ∃ g, e = .returned (.slice (some ⟨g, 0, none⟩) l.length l.length) ∧ CRow w.heap.size (l.map fun x => ⟨k, x, []⟩) (.slice (some ⟨g, 0, none⟩) l.length l.length) w' ∧ Below w.heap.size w w' := by
  obtain ⟨i0, hi, hz0, hz1, hz2⟩ := info_parts info_cell
  have HU := Lib.hid hu
  have HC := Lib.hid (fun x W (hb : Below w.heap.size w W) => ptold1_any Cb k x W ((hb.block Cb hB.lt).trans hB))
  have HST := Lib.hid (fun j h => pfill_step (fun x => (⟨k, x, []⟩ : C.Cl)) C.null l j h 0)
  have HLN := Lib.hid (fun j h => pfill_len (fun x => (⟨k, x, []⟩ : C.Cl)) C.null l j h)
  have HALL := Lib.hid (pfill_all (fun x => (⟨k, x, []⟩ : C.Cl)) C.null l)
  clear hu hB
  generalize hF : (fun x => (⟨k, x, []⟩ : C.Cl)) = F at *
  have HFV := Lib.hid (fun x => show F x = ⟨k, x, []⟩ by rw [← hF])
  clear hF
  go_enter Tryz.func85, Tryz.ntmps85
  go_wp2_with (at_make; refine wpList_make_full _ rfl _ _ 22 rfl w.heap.size 50 i0 (.agg #[.int .i64 0, .int .u64 0, .string ByteArray.empty]) 3 Tryz.underlying22 hi hz0 hz1 .i64 .i64 _ _ l.length rfl rfl rfl rfl (by rw [hz2]; omega) (by unfold maxLen; omega) (Nat.le_refl _) ?_; intro w0 hown0 hgrow0)
  have hb0 : Below w.heap.size w w0 := (Below.refl _ _).grown hgrow0 (Nat.le_refl _) (fun k hk => by cases hk)
  have hrow0 := made_crow hown0
  obtain ⟨g, hg⟩ : ∃ g, g = w.heap.size := ⟨_, rfl⟩
  have hrow00 : CRow w.heap.size (List.replicate l.length C.null) (.slice (some ⟨g, 0, none⟩) l.length l.length) w0 := by rw [hg]; exact hrow0
  rw [← hg]
  have hgl : w.heap.size ≤ g := by omega
  have hgl' : g ≤ w.heap.size := by omega
  clear hown0 hgrow0 hrow0
  have HG := Lib.hid hg
  clear hg
  go_loopw [6, 7, 13] (fun _ _ i wr => ∃ j : Nat, j ≤ l.length ∧ i = .int .i64 j ∧ CRow w.heap.size ((l.take j).map F ++ List.replicate (l.length - j) C.null) (.slice (some ⟨g, 0, none⟩) l.length l.length) wr ∧ Below w.heap.size w wr) (fun _ _ i _ => l.length - (intOf i).toNat)
  case atStart => exact ⟨0, by omega, rfl, by simpa using hrow00, hb0⟩
  case round =>
    clear hrow00
    obtain ⟨j, hj, rfl, hrow, hbw⟩ := hrel
    by_cases hlt : j < l.length
    · obtain ⟨b, off, rfl, hb, hcc⟩ := HU.out (fun e => by rw [e] at hlt; simp at hlt)
      have k0 := hcc j hlt
      have c0 := (hbw.cell (p := ⟨b, off + j, none⟩) hb).trans k0
      have HS := Lib.hid (HST.out j hlt)
      have hln := HLN.out j hj
      have HFX := Lib.hid (HFV.out (l.getD j 0))
      have hcall := HC.out (l.getD j 0)
      generalize (l.take j).map F ++ List.replicate (l.length - j) C.null = xs at *
      generalize l.getD j 0 = n at *
      have HCX := Lib.hid hcall
      have hjI : (j : Int) < (l.length : Int) := by omega
      have hw2n : ∀ W, CRow w.heap.size xs (.slice (some ⟨g, 0, none⟩) l.length l.length) W → CRow w.heap.size (xs.set j (F n)) (.slice (some ⟨g, 0, none⟩) l.length l.length) (((W.setCell ⟨g, j * 3, none⟩ (.int .i64 k)).setCell ⟨g, j * 3 + 1, none⟩ (.int .u64 (n : Int))).setCell ⟨g, j * 3 + 2, none⟩ (.string (str []))) := fun W h => by
        have := h.put j (F n) (by omega)
        rw [HFX.out] at this ⊢; exact this
      have HPUT := Lib.hid hw2n
      clear k0 hcc hcall hw2n
      unfold cag at HCX
      go_wp2_with fail
      refine (HCX.out _ hbw).mono ?_
      rintro e w1 ⟨rfl, hb1⟩
      have hbw1 := hbw.trans (hb1.mono hbw.size)
      have hrow1 := hrow.below hb1
      obtain ⟨⟨o0, d0⟩, ⟨o1, d1⟩, ⟨o2, d2⟩, f0, f1, f2⟩ := hrow1.stores j (.int .i64 k) (.int .u64 (n : Int)) (by omega)
      have hrow2 := HPUT.out _ hrow1
      have hbw2 := ((hbw1.setCell (p := ⟨g, j * 3, none⟩) hgl (.int .i64 k)).setCell (p := ⟨g, j * 3 + 1, none⟩) hgl (.int .u64 (n : Int))).setCell (p := ⟨g, j * 3 + 2, none⟩) hgl (.string (str []))
      have HEND := Lib.hid (And.intro hrow2 hbw2)
      clear hrow hrow1 hbw hb1 hbw1 hrow2 hbw2
      go_wp2_with fail
      exact ⟨⟨j + 1, by omega, by go_num, by rw [← HS.out, ← HFX.out]; exact HEND.out.1, HEND.out.2⟩, by simp [intOf]; omega⟩
    · obtain rfl : j = l.length := by omega
      rw [HALL.out] at hrow
      go_wp2_with fail
      go_ret
      exact ⟨g, rfl, hrow, hbw⟩
set_option maxHeartbeats 1000000 in
set_option maxRecDepth 100000 in
theorem eachD_any (Cb : Nat) (k : Int) (a : Option Addr) (c : Nat) (l : List (List UInt8)) (w : World) (hl : l.length ≤ 64) (hB : Boxed w Cb 3 (.int .i64 k)) (hu : Txts w w.heap.size a l) :
    Calls Tryz.prog 88 #[.slice a l.length c, .func (.func 89) #[] #[.pointer (some ⟨Cb, 0, none⟩)]] w fun e w' => ∃ g, e = .returned (.slice (some ⟨g, 0, none⟩) l.length l.length) ∧ CRow w.heap.size (l.map fun x => ⟨k, 0, x⟩) (.slice (some ⟨g, 0, none⟩) l.length l.length) w' ∧ Below w.heap.size w w' := by
  obtain ⟨i0, hi, hz0, hz1, hz2⟩ := info_parts info_cell
  have HU := Lib.hid hu
  have HC := Lib.hid (fun x W (hb : Below w.heap.size w W) => ptold2_any Cb k x W ((hb.block Cb hB.lt).trans hB))
  have HST := Lib.hid (fun j h => pfill_step (fun x => (⟨k, 0, x⟩ : C.Cl)) C.null l j h [])
  have HLN := Lib.hid (fun j h => pfill_len (fun x => (⟨k, 0, x⟩ : C.Cl)) C.null l j h)
  have HALL := Lib.hid (pfill_all (fun x => (⟨k, 0, x⟩ : C.Cl)) C.null l)
  clear hu hB
  generalize hF : (fun x => (⟨k, 0, x⟩ : C.Cl)) = F at *
  have HFV := Lib.hid (fun x => show F x = ⟨k, 0, x⟩ by rw [← hF])
  clear hF
  go_enter Tryz.func88, Tryz.ntmps88
  go_wp2_with (at_make; refine wpList_make_full _ rfl _ _ 22 rfl w.heap.size 50 i0 (.agg #[.int .i64 0, .int .u64 0, .string ByteArray.empty]) 3 Tryz.underlying22 hi hz0 hz1 .i64 .i64 _ _ l.length rfl rfl rfl rfl (by rw [hz2]; omega) (by unfold maxLen; omega) (Nat.le_refl _) ?_; intro w0 hown0 hgrow0)
  have hb0 : Below w.heap.size w w0 := (Below.refl _ _).grown hgrow0 (Nat.le_refl _) (fun k hk => by cases hk)
  have hrow0 := made_crow hown0
  obtain ⟨g, hg⟩ : ∃ g, g = w.heap.size := ⟨_, rfl⟩
  have hrow00 : CRow w.heap.size (List.replicate l.length C.null) (.slice (some ⟨g, 0, none⟩) l.length l.length) w0 := by rw [hg]; exact hrow0
  rw [← hg]
  have hgl : w.heap.size ≤ g := by omega
  have hgl' : g ≤ w.heap.size := by omega
  clear hown0 hgrow0 hrow0
  have HG := Lib.hid hg
  clear hg
  go_loopw [6, 7, 13] (fun _ _ i wr => ∃ j : Nat, j ≤ l.length ∧ i = .int .i64 j ∧ CRow w.heap.size ((l.take j).map F ++ List.replicate (l.length - j) C.null) (.slice (some ⟨g, 0, none⟩) l.length l.length) wr ∧ Below w.heap.size w wr) (fun _ _ i _ => l.length - (intOf i).toNat)
  case atStart => exact ⟨0, by omega, rfl, by simpa using hrow00, hb0⟩
  case round =>
    clear hrow00
    obtain ⟨j, hj, rfl, hrow, hbw⟩ := hrel
    by_cases hlt : j < l.length
    · obtain ⟨b, off, rfl, hb, hcc⟩ := HU.out (fun e => by rw [e] at hlt; simp at hlt)
      have k0 := hcc j hlt
      have c0 := (hbw.cell (p := ⟨b, off + j, none⟩) hb).trans k0
      have HS := Lib.hid (HST.out j hlt)
      have hln := HLN.out j hj
      have HFX := Lib.hid (HFV.out (l.getD j []))
      have hcall := HC.out (l.getD j [])
      generalize (l.take j).map F ++ List.replicate (l.length - j) C.null = xs at *
      generalize l.getD j [] = n at *
      have HCX := Lib.hid hcall
      have hjI : (j : Int) < (l.length : Int) := by omega
      have hw2n : ∀ W, CRow w.heap.size xs (.slice (some ⟨g, 0, none⟩) l.length l.length) W → CRow w.heap.size (xs.set j (F n)) (.slice (some ⟨g, 0, none⟩) l.length l.length) (((W.setCell ⟨g, j * 3, none⟩ (.int .i64 k)).setCell ⟨g, j * 3 + 1, none⟩ (.int .u64 0)).setCell ⟨g, j * 3 + 2, none⟩ (.string (str n))) := fun W h => by
        have := h.put j (F n) (by omega)
        rw [HFX.out] at this ⊢; exact this
      have HPUT := Lib.hid hw2n
      clear k0 hcc hcall hw2n
      unfold cag at HCX
      go_wp2_with fail
      refine (HCX.out _ hbw).mono ?_
      rintro e w1 ⟨rfl, hb1⟩
      have hbw1 := hbw.trans (hb1.mono hbw.size)
      have hrow1 := hrow.below hb1
      obtain ⟨⟨o0, d0⟩, ⟨o1, d1⟩, ⟨o2, d2⟩, f0, f1, f2⟩ := hrow1.stores j (.int .i64 k) (.int .u64 0) (by omega)
      have hrow2 := HPUT.out _ hrow1
      have hbw2 := ((hbw1.setCell (p := ⟨g, j * 3, none⟩) hgl (.int .i64 k)).setCell (p := ⟨g, j * 3 + 1, none⟩) hgl (.int .u64 0)).setCell (p := ⟨g, j * 3 + 2, none⟩) hgl (.string (str n))
      have HEND := Lib.hid (And.intro hrow2 hbw2)
      clear hrow hrow1 hbw hb1 hbw1 hrow2 hbw2
      go_wp2_with fail
      exact ⟨⟨j + 1, by omega, by go_num, by rw [← HS.out, ← HFX.out]; exact HEND.out.1, HEND.out.2⟩, by simp [intOf]; omega⟩
    · obtain rfl : j = l.length := by omega
      rw [HALL.out] at hrow
      go_wp2_with fail
      go_ret
      exact ⟨g, rfl, hrow, hbw⟩
end Go.Proofs.YtcachhnhncodoaaGreat
