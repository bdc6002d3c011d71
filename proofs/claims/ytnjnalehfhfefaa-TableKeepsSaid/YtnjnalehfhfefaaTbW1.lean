/- The walks of table.isName, table.place (slices.IndexFunc at its closure), table.fresh. -/
import Derived.Test.YtnjnalehfhfefaaTbBase
import Derived.Test.YtnjnalehfhfefaaK3
namespace Go.Proofs.Ytnjnalehfhfefaa
open Go.RowKit
set_option linter.unusedVariables false

theorem name_bytes (s : List UInt8) (j : Nat) (hj : j < s.length) (h : ∀ i, i < j → Tb.okB (s.getD i 0) = true) (h0 : Tb.okB (s.getD j 0) = false) : s.all Tb.okB = false := by
  rw [List.all_eq_false]
  refine ⟨s.getD j 0, ?_, by rw [h0]; simp⟩
  simp only [List.getD, List.getElem?_eq_getElem hj, Option.getD_some]
  exact List.getElem_mem hj
theorem name_all (s : List UInt8) (h : ∀ i, i < s.length → Tb.okB (s.getD i 0) = true) : s.all Tb.okB = true := by
  rw [List.all_eq_true]
  intro x hx
  obtain ⟨i, hi, rfl⟩ := List.mem_iff_getElem.1 hx
  have := h i hi
  simpa [List.getD, List.getElem?_eq_getElem hi] using this

set_option maxHeartbeats 1000000 in
set_option maxRecDepth 100000 in
theorem isName_any (s : List UInt8) (w : World) (hm : s.length ≤ maxLen) : Calls Try.prog 51 #[.string (str s)] w (BoolPost (Tb.isName s) w) := by
  have hsz := str_size s
  unfold maxLen at hm
  by_cases h1 : s.length < 1 ∨ 12 < s.length
  · have hr : Tb.isName s = false := by
      unfold Tb.isName
      rcases h1 with h | h
      · simp [show ¬ 1 ≤ s.length by omega]
      · simp [show ¬ s.length ≤ 12 by omega]
    rw [hr]
    generalize hX : str s = X at *
    clear hX
    by_cases h2 : s.length < 1
    · have g1 : decide ((X.size : Int) < 1) = true := decide_eq_true (by omega)
      go_enter Try.func51, Try.ntmps51
      go_wp2_with fail
      go_ret
      exact ⟨rfl, Below.refl _ _⟩
    · have g1 : decide ((X.size : Int) < 1) = false := decide_eq_false (by omega)
      have g2 : decide ((12 : Int) < (X.size : Int)) = true := decide_eq_true (by omega)
      go_enter Try.func51, Try.ntmps51
      go_wp2_with fail
      go_ret
      exact ⟨rfl, Below.refl _ _⟩
  have g1 : decide (((str s).size : Int) < 1) = false := decide_eq_false (by omega)
  have g2 : decide ((12 : Int) < ((str s).size : Int)) = false := decide_eq_false (by omega)
  have hr : Tb.isName s = s.all Tb.okB := by
    unfold Tb.isName
    rw [decide_eq_true (show 1 ≤ s.length by omega), decide_eq_true (show s.length ≤ 12 by omega)]; simp
  rw [hr]
  have HB := Lib.hid (fun j (hj : j < s.length) h h0 => name_bytes s j hj h h0)
  have HA := Lib.hid (fun h => name_all s h)
  have HX := Lib.hid (fun j (hj : j < s.length) (h2 : j < (str s).size) => show (str s)[j] = s.getD j 0 from (str_at s j h2 hj).trans (by simp [List.getD, List.getElem?_eq_getElem hj]))
  generalize s.all Tb.okB = R at *
  generalize hX : str s = X at *
  clear hX hr
  go_enter Try.func51, Try.ntmps51
  go_wp2_with fail
  go_loopw [3, 14] (fun _ i wr => ∃ j : Nat, j ≤ s.length ∧ i = .int .i64 j ∧ Below w.heap.size w wr ∧ Hid (∀ i, i < j → Tb.okB (s.getD i 0) = true)) (fun _ i _ => s.length - (intOf i).toNat)
  case atStart => exact ⟨0, by omega, rfl, Below.refl _ _, Lib.hid (fun i hi => absurd hi (by omega))⟩
  case round =>
    obtain ⟨j, hj, rfl, hbw, HJ⟩ := hrel
    by_cases hlt : j < s.length
    · have hlt' : j < X.size := by omega
      have hx := HX.out j hlt hlt'
      have hB := HB.out j hlt HJ.out
      have hN := fun h => Lib.hid (show ∀ i, i < j + 1 → Tb.okB (s.getD i 0) = true from fun i hi => by
        by_cases e : i = j
        · rw [e]; exact h
        · exact HJ.out i (by omega))
      unfold Tb.okB at hB hN
      generalize s.getD j 0 = y at *
      by_cases h97 : y.toNat < 97
      · have hF := hB (by rw [decide_eq_false (by omega)]; simp)
        have q1 : decide ((X[j].toNat : Int) < 97) = true := by rw [hx]; exact decide_eq_true (by omega)
        rw [hF]
        clear hN hB
        go_wp2_with fail
        go_ret
        exact ⟨rfl, hbw⟩
      · have q1 : decide ((X[j].toNat : Int) < 97) = false := by rw [hx]; exact decide_eq_false (by omega)
        by_cases h122 : 122 < y.toNat
        · have hF := hB (by rw [decide_eq_false (p := y.toNat ≤ 122) (by omega)]; simp)
          have q2 : decide ((122 : Int) < (X[j].toNat : Int)) = true := by rw [hx]; exact decide_eq_true (by omega)
          rw [hF]
          clear hN hB
          go_wp2_with fail
          go_ret
          exact ⟨rfl, hbw⟩
        · have q2 : decide ((122 : Int) < (X[j].toNat : Int)) = false := by rw [hx]; exact decide_eq_false (by omega)
          have HN := hN (by rw [decide_eq_true (p := y.toNat ≤ 122) (by omega), decide_eq_true (p := 97 ≤ y.toNat) (by omega)]; simp)
          clear hN hB
          go_wp2_with fail
          exact ⟨⟨j + 1, by omega, by go_num, hbw, HN⟩, by simp [intOf]; omega⟩
    · obtain rfl : j = s.length := by omega
      have HF := Lib.hid (HA.out HJ.out)
      go_wp2_with fail
      go_ret
      exact ⟨by rw [HF.out]; rfl, hbw⟩

set_option maxHeartbeats 1000000 in
set_option maxRecDepth 100000 in
theorem place1_any (b : Nat) (n : List UInt8) (c : Tb.Col) (w : World) (hB : Boxed w b 9 (.string (str n))) :
    Calls Try.prog 88 #[gag c, .pointer (some ⟨b, 0, none⟩)] w (BoolPost (decide (c.name = n)) w) := by
  have hal : Below w.heap.size w (w.alloc (.cells #[.string (str c.name), .int .i64 c.kind] 27)) := (Below.refl _ _).alloc (Nat.le_refl _) _
  have c0 := boxed_c0 (boxed_next hB hal)
  have q := tl_eq c.name n
  unfold gag
  generalize str c.name = X at *
  generalize str n = Y at *
  generalize decide (c.name = n) = r at *
  clear hB
  go_enter Try.func88, Try.ntmps88
  go_wp2_with fail
  go_ret
  exact ⟨rfl, hal⟩

def IntPost (n : Int) (w : World) (e : Ending) (w' : World) : Prop := e = .returned (.int .i64 n) ∧ Below w.heap.size w w'
set_option maxHeartbeats 1000000 in
set_option maxRecDepth 100000 in
theorem indexFunc_any (b : Nat) (n : List UInt8) (a : Option Addr) (c : Nat) (l : List Tb.Col) (w : World) (hm : l.length ≤ maxLen) (hu : Gls w w.heap.size a l) (hB : Boxed w b 9 (.string (str n))) :
    Calls Try.prog 87 #[.slice a l.length c, .func (.func 88) #[] #[.pointer (some ⟨b, 0, none⟩)]] w (IntPost (Tb.idx l n) w) := by
  have HU := Lib.hid hu
  have HC := Lib.hid (fun x W (hb : Below w.heap.size w W) => place1_any b n x W (boxed_next hB hb))
  have HH := Lib.hid (fun j (hj : j < l.length) h h0 => show Tb.idx l n = (j : Int) by rw [Tb.idx, Tb.pos_hit hj h h0, if_pos hj])
  have HN := Lib.hid (fun h => show Tb.idx l n = -1 by rw [Tb.idx, Tb.pos_none h, if_neg (by omega)])
  generalize Tb.idx l n = R at *
  unfold maxLen at hm
  clear hu hB
  go_enter Try.func87, Try.ntmps87
  go_wp2_with fail
  go_loopw [5, 8] (fun _ i wr => ∃ j : Nat, j ≤ l.length ∧ i = .int .i64 j ∧ Below w.heap.size w wr ∧ Hid (∀ i, i < j → (l.getD i Tb.nulC).name ≠ n)) (fun _ i _ => l.length - (intOf i).toNat)
  case atStart => exact ⟨0, by omega, rfl, Below.refl _ _, Lib.hid (fun i hi => absurd hi (by omega))⟩
  case round =>
    obtain ⟨j, hj, rfl, hbw, HJ⟩ := hrel
    by_cases hlt : j < l.length
    · obtain ⟨bb, off, rfl, hbb, hcc⟩ := HU.out (fun e => by rw [e] at hlt; simp at hlt)
      obtain ⟨k0, k1⟩ := hcc j hlt
      have c0 := (hbw.cell (p := ⟨bb, off + j * 2, none⟩) hbb).trans k0
      have c1 := (hbw.cell (p := ⟨bb, off + j * 2 + 1, none⟩) hbb).trans k1
      have hcall := HC.out (l.getD j Tb.nulC) wr hbw
      have hh := HH.out j hlt HJ.out
      have hn := fun h => Lib.hid (show ∀ i, i < j + 1 → (l.getD i Tb.nulC).name ≠ n from fun i hi => by
        by_cases e : i = j
        · rw [e]; exact h
        · exact HJ.out i (by omega))
      unfold gag at hcall
      generalize (l.getD j Tb.nulC).kind = z at *
      generalize (l.getD j Tb.nulC).name = y at *
      have hjI : (j : Int) < (l.length : Int) := by omega
      clear k0 k1 hcc
      by_cases ho : y = n
      · rw [hh ho]
        rw [decide_eq_true ho] at hcall
        have HCX := Lib.hid hcall
        clear hh hn hcall
        generalize str y = Y at *
        go_wp2_with fail
        refine (HCX.out).mono ?_
        rintro e w1 ⟨rfl, hb1⟩
        go_wp2_with fail
        go_ret
        exact ⟨rfl, below_then hbw hb1⟩
      · rw [decide_eq_false ho] at hcall
        have HCX := Lib.hid hcall
        have HNX := hn ho
        clear hh hn hcall
        generalize str y = Y at *
        go_wp2_with fail
        refine (HCX.out).mono ?_
        rintro e w1 ⟨rfl, hb1⟩
        go_wp2_with fail
        exact ⟨⟨j + 1, by omega, by go_num, below_then hbw hb1, HNX⟩, by simp [intOf]; omega⟩
    · obtain rfl : j = l.length := by omega
      have HF := Lib.hid (HN.out HJ.out)
      go_wp2_with fail
      go_ret
      exact ⟨by rw [HF.out]; rfl, hbw⟩

set_option maxHeartbeats 1000000 in
set_option maxRecDepth 100000 in
theorem place_any (n : List UInt8) (a : Option Addr) (c : Nat) (l : List Tb.Col) (w : World) (hm : l.length ≤ maxLen) (hu : Gls w w.heap.size a l) :
    Calls Try.prog 47 #[.slice a l.length c, .string (str n)] w (IntPost (Tb.idx l n) w) := by
  have hal : Below w.heap.size w (w.alloc (.cells #[.string (str n)] 9)) := (Below.refl _ _).alloc (Nat.le_refl _) _
  have HC := Lib.hid (indexFunc_any w.heap.size n a c l _ hm (hu.next at2_firm hal) (boxed_new w (.string (str n)) 9))
  generalize Tb.idx l n = R at *
  generalize str n = Y at *
  clear hu
  go_enter Try.func47, Try.ntmps47
  go_wp2_with fail
  refine (HC.out).mono ?_
  rintro e w1 ⟨rfl, hb1⟩
  go_wp2_with fail
  go_ret
  exact ⟨rfl, below_then hal hb1⟩

theorem idx_has (l : List Tb.Col) (n : List UInt8) : decide (0 ≤ Tb.idx l n) = decide (Tb.has l n) := by
  apply decide_eq_decide.2
  show _ ↔ Tb.pos l n < l.length
  unfold Tb.idx
  split <;> omega
set_option maxHeartbeats 1000000 in
set_option maxRecDepth 100000 in
theorem fresh_any (a : Option Addr) (cap : Nat) (l : List Tb.Col) (c : Tb.Col) (w : World) (hm : l.length ≤ maxLen) (hu : Gls w w.heap.size a l) (hc : gOk c) :
    Calls Try.prog 43 #[.slice a l.length cap, gag c] w (CErrPost (Tb.fresh l c) w) := by
  have hal : Below w.heap.size w (w.alloc (.cells #[.string (str c.name), .int .i64 c.kind] 27)) := (Below.refl _ _).alloc (Nat.le_refl _) _
  have hT : Two (w.alloc (.cells #[.string (str c.name), .int .i64 c.kind] 27)) w.heap.size 27 (.string (str c.name)) (.int .i64 c.kind) := two_new _ _ _ _
  have H1 := Lib.hid (isName_any c.name (w.alloc (.cells #[.string (str c.name), .int .i64 c.kind] 27)) hc.1)
  have H2 := Lib.hid (fun W (hb : Below w.heap.size w W) => place_any c.name a cap l W hm (hu.next at2_firm hb))
  have H3 := Lib.hid (fun W => ncheck_any c.kind none 0 [] W (Nat.zero_le _) (by simp) (Cls.nil _ _ _))
  have hi := idx_has l c.name
  unfold gag Tb.fresh
  have hr1 : Tb.isName c.name = false → Tb.fresh l c = 1 := fun h => by unfold Tb.fresh; rw [if_pos h]
  generalize Tb.idx l c.name = ix at *
  generalize hhas : decide (Tb.has l c.name) = hs at *
  have hh2 : (if Tb.has l c.name then 6 else C.chk c.kind []) = if hs = true then 6 else C.chk c.kind [] := by
    rw [← hhas]; by_cases h : Tb.has l c.name <;> simp [h]
  rw [hh2]
  clear hr1 hh2 hhas
  generalize C.chk c.kind [] = er at *
  generalize str c.name = X at *
  generalize Tb.isName c.name = nm at *
  generalize c.kind = k at *
  generalize hW : w.alloc (.cells #[.string X, .int .i64 k] 27) = W1 at *
  have HW := Lib.hid hW
  clear hW hu hc
  have d0 := hT.c0
  cases nm with
  | false =>
    rw [if_pos rfl]
    go_enter Try.func43, Try.ntmps43
    go_wp2_with fail
    rw [HW.out]
    go_wp2_with fail
    refine (H1.out).mono ?_
    rintro e w1 ⟨rfl, hb1⟩
    go_wp2_with fail
    go_ret
    exact ⟨rfl, below_then hal hb1⟩
  | true =>
    rw [if_neg (by simp)]
    cases hs with
    | true =>
      rw [if_pos rfl]
      go_enter Try.func43, Try.ntmps43
      go_wp2_with fail
      rw [HW.out]
      go_wp2_with fail
      refine (H1.out).mono ?_
      rintro e w1 ⟨rfl, hb1⟩
      have d1 := (hT.next hb1).c0
      have hb1 := below_then hal hb1
      go_wp2_with fail
      refine (H2.out _ hb1).mono ?_
      rintro e w2 ⟨rfl, hb2⟩
      go_wp2_with fail
      go_ret
      exact ⟨rfl, below_then hb1 hb2⟩
    | false =>
      rw [if_neg (by simp)]
      go_enter Try.func43, Try.ntmps43
      go_wp2_with fail
      rw [HW.out]
      go_wp2_with fail
      refine (H1.out).mono ?_
      rintro e w1 ⟨rfl, hb1⟩
      have hT1 := hT.next hb1
      have d1 := hT1.c0
      have hb1 := below_then hal hb1
      go_wp2_with fail
      refine (H2.out _ hb1).mono ?_
      rintro e w2 ⟨rfl, hb2⟩
      have d2 := (hT1.next hb2).c1
      have hb2 := below_then hb1 hb2
      go_wp2_with fail
      refine (H3.out _).mono ?_
      rintro e w3 ⟨rfl, hb3⟩
      go_wp2_with fail
      go_ret
      exact ⟨rfl, below_then hb2 hb3⟩
end Go.Proofs.Ytnjnalehfhfefaa
