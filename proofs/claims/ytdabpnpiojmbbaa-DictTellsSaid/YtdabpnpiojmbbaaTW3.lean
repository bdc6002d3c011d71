/- The walks of dict.Texts, Find, Span. -/
import Derived.Test.YtdabpnpiojmbbaaTW2
import Derived.Test.YtdabpnpiojmbbaaUBlk
namespace Go.Proofs.Ytdabpnpiojmbbaa
open Go.RowKit
set_option linter.unusedVariables false

/-- what Find answers -/
def findR (b : List (List UInt8)) (s : List UInt8) : Nat × Bool × Nat :=
  if bookR b ≠ 0 then (0, false, bookR b) else (T.plc b s, decide (T.plc b s < b.length) && decide (b.getD (T.plc b s) [] = s), 0)
def spanR (b : List (List UInt8)) (low high : List UInt8) : Nat × Nat × Nat :=
  if bookR b ≠ 0 then (0, 0, bookR b) else (T.plc b low, max (T.plc b low) (T.plA b high), 0)
theorem tl_eq (x y : List UInt8) : ((str x).toList == (str y).toList) = decide (x = y) := by
  rw [str_toList, str_toList]
  by_cases h : x = y
  · subst h; simp
  · simp [h]

set_option maxHeartbeats 1000000 in
set_option maxRecDepth 100000 in
theorem dfind_any (a : Option Addr) (c : Nat) (l : List (List UInt8)) (s : List UInt8) (w : World) (hu : Txts w w.heap.size a l) :
    Calls Try.prog 18 #[.slice a l.length c, .string (str s)] w fun e w' => e = .returned (.tuple #[.int .i64 (findR l s).1, .bool (findR l s).2.1, .int .i64 (findR l s).2.2]) ∧ Below w.heap.size w w' := by
  have hmf : ∀ (fn : Fn) (first cap : Array Value) (w : World), (Instr.makeFunc fn first cap).run Try.prog w = .ok (.func fn first cap) w := fun _ _ _ _ => rfl
  have hb0 : Below w.heap.size w (w.alloc (.cells #[.string (str s)] 9)) := (Below.refl _ _).alloc (Nat.le_refl _) _
  have HB0 := Lib.hid hb0
  have HU1 := Lib.hid (hu.next hb0)
  have HCK := Lib.hid (dcheck_any a c l (w.alloc (.cells #[.string (str s)] 9)) (hu.next hb0))
  have HBX : Boxed (w.alloc (.cells #[.string (str s)] 9)) w.heap.size 9 (.string (str s)) := heap_alloc_new w _
  have HBX := Lib.hid HBX
  clear hb0 hu
  by_cases hr : bookR l ≠ 0
  · have HR := Lib.hid (show findR l s = (0, false, bookR l) by unfold findR; rw [if_pos hr])
    generalize bookR l = er at *
    have g1 : ((er : Int) != 0) = true := by rw [bne_iff_ne]; omega
    go_enter Try.func18, Try.ntmps18
    go_wp2_with fail
    refine (HCK.out).mono ?_
    rintro e w1 ⟨rfl, hb1⟩
    go_wp2_with fail
    go_ret3
    exact ⟨by rw [HR.out]; rfl, below_then HB0.out hb1⟩
  have hr0 : bookR l = 0 := by omega
  have hl := (bookR_len hr0).1
  have HR := Lib.hid (show findR l s = (T.plc l s, decide (T.plc l s < l.length) && decide (l.getD (T.plc l s) [] = s), 0) by unfold findR; rw [if_neg hr])
  rw [hr0] at HCK
  have HFF := Lib.hid (fun W hB h => first_find w.heap.size s W hB a c l hl h)
  have HPI := Lib.hid (show l.findIdx (atl s) = T.plc l s from rfl)
  have hpl := T.plc_le l s
  rw [HPI.out] at HFF
  generalize T.plc l s = p at *
  clear hr hr0
  by_cases hp : p < l.length
  · have g1 : decide (p < l.length) = true := decide_eq_true hp
    have hpI : (p : Int) < (l.length : Int) := by omega
    obtain ⟨b, off, rfl, hb, hcc⟩ := HU1.out (fun e => by rw [e] at hp; simp at hp)
    have cp := hcc p hp
    have HTE := Lib.hid (tl_eq (l.getD p []) s)
    generalize l.getD p [] = x at *
    clear hcc
    have hte := HTE.out
    generalize str x = X at *
    generalize str s = S at *
    generalize decide (x = s) = bb at *
    have HRR := Lib.hid (show findR l s = (p, bb, 0) by rw [HR.out, g1]; rfl)
    clear HTE
    cases bb
    all_goals
      go_enter Try.func18, Try.ntmps18
      go_wp2_with fail
      refine (HCK.out).mono ?_
      rintro e w1 ⟨rfl, hb1⟩
      have hbx1 : Boxed w1 w.heap.size 9 (.string S) := (hb1.block w.heap.size (by simp)).trans HBX.out
      have c1 := hbx1.cell
      have cp1 := (hb1.cell (p := ⟨b, off + p, none⟩) hb).trans cp
      have HBX1 := Lib.hid hbx1
      have HU2 := Lib.hid (HU1.out.next hb1)
      clear hbx1
      go_wp2_with fail
      refine (HFF.out w1 HBX1.out HU2.out).mono ?_
      rintro e w2 ⟨rfl, rfl⟩
      go_wp2_with fail
      go_quiet (fail)
      go_wp2_with fail
      go_ret3
      exact ⟨by rw [HRR.out]; rfl, below_drewN (below_then HB0.out hb1) _⟩
  · have g1 : decide (p < l.length) = false := decide_eq_false hp
    have HRR := Lib.hid (show findR l s = (p, false, 0) by rw [HR.out, g1]; rfl)
    go_enter Try.func18, Try.ntmps18
    go_wp2_with fail
    refine (HCK.out).mono ?_
    rintro e w1 ⟨rfl, hb1⟩
    have HBX1 := Lib.hid (show Boxed w1 w.heap.size 9 (.string (str s)) from (hb1.block w.heap.size (by simp)).trans HBX.out)
    have HU2 := Lib.hid (HU1.out.next hb1)
    go_wp2_with fail
    refine (HFF.out w1 HBX1.out HU2.out).mono ?_
    rintro e w2 ⟨rfl, rfl⟩
    go_wp2_with fail
    go_quiet (fail)
    go_wp2_with fail
    go_ret3
    exact ⟨by rw [HRR.out]; rfl, below_drewN (below_then HB0.out hb1) _⟩

set_option maxHeartbeats 1000000 in
set_option maxRecDepth 100000 in
theorem dspan_any (a : Option Addr) (c : Nat) (l : List (List UInt8)) (s t : List UInt8) (w : World) (hu : Txts w w.heap.size a l) :
    Calls Try.prog 19 #[.slice a l.length c, .string (str s), .string (str t)] w fun e w' => e = .returned (.tuple #[.int .i64 (spanR l s t).1, .int .i64 (spanR l s t).2.1, .int .i64 (spanR l s t).2.2]) ∧ Below w.heap.size w w' := by
  have hmf : ∀ (fn : Fn) (first cap : Array Value) (w : World), (Instr.makeFunc fn first cap).run Try.prog w = .ok (.func fn first cap) w := fun _ _ _ _ => rfl
  obtain ⟨w0, hw0⟩ : ∃ w0, w0 = w.alloc (.cells #[.string (str s)] 9) := ⟨_, rfl⟩
  obtain ⟨w00, hw00⟩ : ∃ w00, w00 = w0.alloc (.cells #[.string (str t)] 9) := ⟨_, rfl⟩
  have hb0 : Below w.heap.size w w00 := by rw [hw00, hw0]; exact ((Below.refl _ _).alloc (Nat.le_refl _) _).alloc (by simp) _
  have hs0 : w0.heap.size = w.heap.size + 1 := by rw [hw0]; simp
  have hs00 : w00.heap.size = w.heap.size + 2 := by rw [hw00]; simp [hs0]
  have hbx0 : Boxed w00 w.heap.size 9 (.string (str s)) := by
    rw [hw00]
    have h1 : Boxed w0 w.heap.size 9 (.string (str s)) := by rw [hw0]; exact heap_alloc_new w _
    exact (Below.heap_alloc w0 _ _ (by omega)).trans h1
  have hbx1 : Boxed w00 (w.heap.size + 1) 9 (.string (str t)) := by
    rw [hw00, ← hs0]; exact heap_alloc_new w0 _
  have HB0 := Lib.hid hb0
  have HU1 := Lib.hid (hu.next hb0)
  have HBX0 := Lib.hid hbx0
  have HBX1 := Lib.hid hbx1
  have HCK := Lib.hid (dcheck_any a c l w00 (hu.next hb0))
  have HW := Lib.hid (show (w.alloc (.cells #[.string (str s)] 9)).alloc (.cells #[.string (str t)] 9) = w00 by rw [hw00, hw0])
  have HS := Lib.hid hs00
  clear hb0 hu hw0 hw00 hs0 hs00 hbx0 hbx1
  by_cases hr : bookR l ≠ 0
  · have HR := Lib.hid (show spanR l s t = (0, 0, bookR l) by unfold spanR; rw [if_pos hr])
    generalize bookR l = er at *
    have g1 : ((er : Int) != 0) = true := by rw [bne_iff_ne]; omega
    go_enter Try.func19, Try.ntmps19
    go_wp2_with fail
    rw [HW.out]
    refine (HCK.out).mono ?_
    rintro e w1 ⟨rfl, hb1⟩
    go_wp2_with fail
    go_ret3
    exact ⟨by rw [HR.out]; rfl, below_then HB0.out hb1⟩
  have hr0 : bookR l = 0 := by omega
  have hl := (bookR_len hr0).1
  have HR := Lib.hid (show spanR l s t = (T.plc l s, max (T.plc l s) (T.plA l t), 0) by unfold spanR; rw [if_neg hr])
  rw [hr0] at HCK
  have HFL := Lib.hid (fun W hB h => show Calls Try.prog 27 #[.slice a l.length c, .func (.func 29) #[] #[.pointer (some ⟨w.heap.size, 0, none⟩)]] W (fun e w' => e = .returned (.int .i64 (T.plc l s : Nat)) ∧ W = w') from first_low w.heap.size s W hB a c l hl h)
  have HFH := Lib.hid (fun W hB h => show Calls Try.prog 27 #[.slice a l.length c, .func (.func 30) #[] #[.pointer (some ⟨w.heap.size + 1, 0, none⟩)]] W (fun e w' => e = .returned (.int .i64 (T.plA l t : Nat)) ∧ W = w') from first_high (w.heap.size + 1) t W hB a c l hl h)
  have hpl := T.plc_le l s
  have hpa := T.plA_le l t
  generalize T.plc l s = p at *
  generalize T.plA l t = q at *
  clear hr hr0
  go_enter Try.func19, Try.ntmps19
  go_wp2_with fail
  rw [HW.out]
  refine (HCK.out).mono ?_
  rintro e w1 ⟨rfl, hb1⟩
  have HX0 := Lib.hid (show Boxed w1 w.heap.size 9 (.string (str s)) from (hb1.block w.heap.size (by have := HS.out; omega)).trans HBX0.out)
  have HX1 := Lib.hid (show Boxed w1 (w.heap.size + 1) 9 (.string (str t)) from (hb1.block (w.heap.size + 1) (by have := HS.out; omega)).trans HBX1.out)
  have HU2 := Lib.hid (HU1.out.next hb1)
  go_wp2_with fail
  refine (HFL.out w1 HX0.out HU2.out).mono ?_
  rintro e w2 ⟨rfl, rfl⟩
  go_wp2_with fail
  refine (HFH.out w1 HX1.out HU2.out).mono ?_
  rintro e w3 ⟨rfl, rfl⟩
  go_wp2_with fail
  go_ret3
  exact ⟨by rw [HR.out]; simp; omega, below_then HB0.out hb1⟩
end Go.Proofs.Ytdabpnpiojmbbaa
