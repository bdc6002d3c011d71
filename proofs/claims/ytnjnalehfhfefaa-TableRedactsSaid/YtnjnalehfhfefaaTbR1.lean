/- The walks of the reference's NameCheck, ColAt, oneCol, ColumnCheck. -/
import Derived.Test.YtnjnalehfhfefaaTbW2
namespace Go.Proofs.Ytnjnalehfhfefaa
open Go.RowKit
set_option linter.unusedVariables false

set_option maxHeartbeats 1000000 in
set_option maxRecDepth 100000 in
theorem rName_any (s : List UInt8) (w : World) (hm : s.length ≤ maxLen) : Calls Try.prog 55 #[.string (str s)] w (BoolPost (Tb.isName s) w) := by
  have hsz := str_size s
  unfold maxLen at hm
  have HB := Lib.hid (fun j (hj : j < s.length) h h0 => show Tb.isName s = false by
    unfold Tb.isName; rw [name_bytes s j hj h h0]; simp)
  have HA := Lib.hid (fun h => show Tb.isName s = (decide (1 ≤ s.length) && decide (s.length ≤ 12)) by unfold Tb.isName; rw [name_all s h]; simp)
  have HX := Lib.hid (fun j (hj : j < s.length) (h2 : j < (str s).size) => show (str s)[j] = s.getD j 0 from (str_at s j h2 hj).trans (by simp [List.getD, List.getElem?_eq_getElem hj]))
  generalize Tb.isName s = R at *
  generalize hX : str s = X at *
  clear hX
  go_enter Try.func55, Try.ntmps55
  go_wp2_with fail
  go_loopw [3] (fun i wr => ∃ j : Nat, j ≤ s.length ∧ i = .int .i64 j ∧ Below w.heap.size w wr ∧ Hid (∀ i, i < j → Tb.okB (s.getD i 0) = true)) (fun i _ => s.length - (intOf i).toNat)
  case atStart => exact ⟨0, by omega, rfl, Below.refl _ _, Lib.hid (fun i hi => absurd hi (by omega))⟩
  case round =>
    obtain ⟨j, hj, rfl, hbw, HJ⟩ := hrel
    by_cases hlt : j < s.length
    · have hlt' : j < X.size := by omega
      have hx := HX.out j hlt hlt'
      have hB := HB.out j hlt HJ.out
      have hN := fun h => Lib.hid (show ∀ i, i < j + 1 → Tb.okB (s.getD i 0) = true from fun i hi => by
        by_cases e : i = j
        · rw [e]; exact h
        · exact HJ.out i (by omega))
      unfold Tb.okB at hB hN
      generalize s.getD j 0 = y at *
      by_cases h97 : y.toNat < 97
      · have hF := hB (by rw [decide_eq_false (by omega)]; simp)
        have q1 : decide ((X[j].toNat : Int) < 97) = true := by rw [hx]; exact decide_eq_true (by omega)
        have HF := Lib.hid hF
        clear hN hB hF
        go_wp2_with fail
        go_ret
        exact ⟨by rw [HF.out]; rfl, hbw⟩
      · have q1 : decide ((X[j].toNat : Int) < 97) = false := by rw [hx]; exact decide_eq_false (by omega)
        by_cases h122 : 122 < y.toNat
        · have hF := hB (by rw [decide_eq_false (p := y.toNat ≤ 122) (by omega)]; simp)
          have q2 : decide ((122 : Int) < (X[j].toNat : Int)) = true := by rw [hx]; exact decide_eq_true (by omega)
          have HF := Lib.hid hF
          clear hN hB hF
          go_wp2_with fail
          go_ret
          exact ⟨by rw [HF.out]; rfl, hbw⟩
        · have q2 : decide ((122 : Int) < (X[j].toNat : Int)) = false := by rw [hx]; exact decide_eq_false (by omega)
          have HN := hN (by rw [decide_eq_true (p := y.toNat ≤ 122) (by omega), decide_eq_true (p := 97 ≤ y.toNat) (by omega)]; simp)
          clear hN hB
          go_wp2_with fail
          exact ⟨⟨j + 1, by omega, by go_num, hbw, HN⟩, by simp [intOf]; omega⟩
    · obtain rfl : j = s.length := by omega
      have HF := HA.out HJ.out
      by_cases h1 : 1 ≤ s.length
      · by_cases h2 : s.length ≤ 12
        · rw [decide_eq_true h1, decide_eq_true h2] at HF
          have HF := Lib.hid HF
          have q1 : decide ((1 : Int) ≤ (s.length : Int)) = true := decide_eq_true (by omega)
          have q2 : decide ((s.length : Int) ≤ 12) = true := decide_eq_true (by omega)
          go_wp2_with fail
          go_ret
          exact ⟨by rw [HF.out]; rfl, hbw⟩
        · rw [decide_eq_true h1, decide_eq_false h2] at HF
          have HF := Lib.hid HF
          have q1 : decide ((1 : Int) ≤ (s.length : Int)) = true := decide_eq_true (by omega)
          have q2 : decide ((s.length : Int) ≤ 12) = false := decide_eq_false (by omega)
          go_wp2_with fail
          go_ret
          exact ⟨by rw [HF.out]; rfl, hbw⟩
      · rw [decide_eq_false h1] at HF
        have HF := Lib.hid HF
        have q1 : decide ((1 : Int) ≤ (s.length : Int)) = false := decide_eq_false (by omega)
        go_wp2_with fail
        go_ret
        exact ⟨by rw [HF.out]; rfl, hbw⟩

set_option maxHeartbeats 1000000 in
set_option maxRecDepth 100000 in
theorem rColAt_any (n : List UInt8) (a : Option Addr) (c : Nat) (l : List Tb.Col) (w : World) (hm : l.length ≤ maxLen) (hu : Gls w w.heap.size a l) :
    Calls Try.prog 35 #[.slice a l.length c, .string (str n)] w (IntPost (Tb.idx l n) w) := by
  have HU := Lib.hid hu
  have HH := Lib.hid (fun j (hj : j < l.length) h h0 => show Tb.idx l n = (j : Int) by rw [Tb.idx, Tb.pos_hit hj h h0, if_pos hj])
  have HN := Lib.hid (fun h => show Tb.idx l n = -1 by rw [Tb.idx, Tb.pos_none h, if_neg (by omega)])
  have HQ := Lib.hid (fun y : List UInt8 => tl_eq y n)
  generalize Tb.idx l n = R at *
  unfold maxLen at hm
  clear hu
  go_enter Try.func35, Try.ntmps35
  go_wp2_with fail
  go_loopw [5] (fun i wr => ∃ j : Nat, j ≤ l.length ∧ i = .int .i64 j ∧ Below w.heap.size w wr ∧ Hid (∀ i, i < j → (l.getD i Tb.nulC).name ≠ n)) (fun i _ => l.length - (intOf i).toNat)
  case atStart => exact ⟨0, by omega, rfl, Below.refl _ _, Lib.hid (fun i hi => absurd hi (by omega))⟩
  case round =>
    obtain ⟨j, hj, rfl, hbw, HJ⟩ := hrel
    by_cases hlt : j < l.length
    · obtain ⟨bb, off, rfl, hbb, hcc⟩ := HU.out (fun e => by rw [e] at hlt; simp at hlt)
      obtain ⟨k0, k1⟩ := hcc j hlt
      have c0 := (hbw.cell (p := ⟨bb, off + j * 2, none⟩) hbb).trans k0
      have hh := HH.out j hlt HJ.out
      have hn := fun h => Lib.hid (show ∀ i, i < j + 1 → (l.getD i Tb.nulC).name ≠ n from fun i hi => by
        by_cases e : i = j
        · rw [e]; exact h
        · exact HJ.out i (by omega))
      have hq := HQ.out (l.getD j Tb.nulC).name
      generalize (l.getD j Tb.nulC).name = y at *
      have hjI : (j : Int) < (l.length : Int) := by omega
      clear k0 k1 hcc
      by_cases ho : y = n
      · have HF := Lib.hid (hh ho)
        rw [decide_eq_true ho] at hq
        clear hh hn
        generalize str y = Y at *
        go_wp2_with fail
        go_ret
        exact ⟨by rw [HF.out]; rfl, hbw⟩
      · rw [decide_eq_false ho] at hq
        have HNX := hn ho
        clear hh hn
        generalize str y = Y at *
        go_wp2_with fail
        exact ⟨⟨j + 1, by omega, by go_num, hbw, HNX⟩, by simp [intOf]; omega⟩
    · obtain rfl : j = l.length := by omega
      have HF := Lib.hid (HN.out HJ.out)
      go_wp2_with fail
      go_ret
      exact ⟨by rw [HF.out]; rfl, hbw⟩

set_option maxHeartbeats 1000000 in
set_option maxRecDepth 100000 in
theorem rOneCol_any (a : Option Addr) (cap : Nat) (l : List Tb.Col) (c : Tb.Col) (w : World) (hm : l.length ≤ maxLen) (hu : Gls w w.heap.size a l) (hc : gOk c) :
    Calls Try.prog 52 #[gag c, .slice a l.length cap] w (CErrPost (Tb.fresh l c) w) := by
  have hal : Below w.heap.size w (w.alloc (.cells #[.string (str c.name), .int .i64 c.kind] 27)) := (Below.refl _ _).alloc (Nat.le_refl _) _
  have hT : Two (w.alloc (.cells #[.string (str c.name), .int .i64 c.kind] 27)) w.heap.size 27 (.string (str c.name)) (.int .i64 c.kind) := two_new _ _ _ _
  have H1 := Lib.hid (rName_any c.name (w.alloc (.cells #[.string (str c.name), .int .i64 c.kind] 27)) hc.1)
  have H2 := Lib.hid (fun W (hb : Below w.heap.size w W) => rColAt_any c.name a cap l W hm (hu.next at2_firm hb))
  have hi := idx_has l c.name
  have hk3 : C.chk c.kind [] = if c.kind ≠ 1 ∧ c.kind ≠ 2 then 7 else 0 := by
    by_cases h : c.kind ≠ 1 ∧ c.kind ≠ 2
    · rw [if_pos h]; exact chk_kind h
    · rw [if_neg h]; exact (Tb.chk_nil _).2 (by omega)
  unfold gag Tb.fresh
  generalize Tb.idx l c.name = ix at *
  generalize hhas : decide (Tb.has l c.name) = hs at *
  have hh2 : (if Tb.has l c.name then 6 else C.chk c.kind []) = if hs = true then 6 else C.chk c.kind [] := by
    rw [← hhas]; by_cases h : Tb.has l c.name <;> simp [h]
  rw [hh2, hk3]
  clear hh2 hhas hk3
  generalize str c.name = X at *
  generalize Tb.isName c.name = nm at *
  generalize c.kind = k at *
  generalize hW : w.alloc (.cells #[.string X, .int .i64 k] 27) = W1 at *
  have HW := Lib.hid hW
  clear hW hu hc
  have d0 := hT.c0
  cases nm with
  | false =>
    rw [if_pos rfl]
    go_enter Try.func52, Try.ntmps52
    go_wp2_with fail
    rw [HW.out]
    go_wp2_with fail
    refine (H1.out).mono ?_
    rintro e w1 ⟨rfl, hb1⟩
    go_wp2_with fail
    go_ret
    exact ⟨rfl, below_then hal hb1⟩
  | true =>
    rw [if_neg (by simp)]
    cases hs with
    | true =>
      rw [if_pos rfl]
      go_enter Try.func52, Try.ntmps52
      go_wp2_with fail
      rw [HW.out]
      go_wp2_with fail
      refine (H1.out).mono ?_
      rintro e w1 ⟨rfl, hb1⟩
      have d1 := (hT.next hb1).c0
      have hb1 := below_then hal hb1
      go_wp2_with fail
      refine (H2.out _ hb1).mono ?_
      rintro e w2 ⟨rfl, hb2⟩
      go_wp2_with fail
      go_ret
      exact ⟨rfl, below_then hb1 hb2⟩
    | false =>
      rw [if_neg (by simp)]
      have fin : ∀ er : Nat, ((k ≠ 1 ∧ k ≠ 2) ∧ er = 7) ∨ (¬ (k ≠ 1 ∧ k ≠ 2) ∧ er = 0) → Calls Try.prog 52 #[.agg #[.string X, .int .i64 k], .slice a l.length cap] w (CErrPost er w) := by
        intro er her
        by_cases k1 : k = 1
        · have g1 : (k != 1) = false := by rw [bne_eq_false_iff_eq]; exact k1
          obtain rfl : er = 0 := by omega
          clear k1 her
          go_enter Try.func52, Try.ntmps52
          go_wp2_with fail
          rw [HW.out]
          go_wp2_with fail
          refine (H1.out).mono ?_
          rintro e w1 ⟨rfl, hb1⟩
          have hT1 := hT.next hb1
          have d1 := hT1.c0
          have hb1 := below_then hal hb1
          go_wp2_with fail
          refine (H2.out _ hb1).mono ?_
          rintro e w2 ⟨rfl, hb2⟩
          have d2 := (hT1.next hb2).c1
          have hb2 := below_then hb1 hb2
          go_wp2_with fail
          go_ret
          exact ⟨rfl, hb2⟩
        · have g1 : (k != 1) = true := by rw [bne_iff_ne]; exact k1
          by_cases k2 : k = 2
          · have g2 : (k != 2) = false := by rw [bne_eq_false_iff_eq]; exact k2
            obtain rfl : er = 0 := by omega
            clear k1 k2 her
            go_enter Try.func52, Try.ntmps52
            go_wp2_with fail
            rw [HW.out]
            go_wp2_with fail
            refine (H1.out).mono ?_
            rintro e w1 ⟨rfl, hb1⟩
            have hT1 := hT.next hb1
            have d1 := hT1.c0
            have hb1 := below_then hal hb1
            go_wp2_with fail
            refine (H2.out _ hb1).mono ?_
            rintro e w2 ⟨rfl, hb2⟩
            have d2 := (hT1.next hb2).c1
            have hb2 := below_then hb1 hb2
            go_wp2_with fail
            go_ret
            exact ⟨rfl, hb2⟩
          · have g2 : (k != 2) = true := by rw [bne_iff_ne]; exact k2
            obtain rfl : er = 7 := by omega
            clear k1 k2 her
            go_enter Try.func52, Try.ntmps52
            go_wp2_with fail
            rw [HW.out]
            go_wp2_with fail
            refine (H1.out).mono ?_
            rintro e w1 ⟨rfl, hb1⟩
            have hT1 := hT.next hb1
            have d1 := hT1.c0
            have hb1 := below_then hal hb1
            go_wp2_with fail
            refine (H2.out _ hb1).mono ?_
            rintro e w2 ⟨rfl, hb2⟩
            have d2 := (hT1.next hb2).c1
            have hb2 := below_then hb1 hb2
            go_wp2_with fail
            go_ret
            exact ⟨rfl, hb2⟩
      refine fin _ ?_
      by_cases h : k ≠ 1 ∧ k ≠ 2
      · left; exact ⟨h, if_pos h⟩
      · right; exact ⟨h, if_neg h⟩
theorem rchk_one {k : Int} (h : k = 1 ∨ k = 2) (x : C.Cl) : C.chk k [x] = C.cellE k x := by
  rw [chk_list (by omega) (by simp)]
  unfold listE listE
  by_cases h : C.cellE k x ≠ 0
  · rw [if_pos h]
  · rw [if_neg h]; omega
end Go.Proofs.Ytnjnalehfhfefaa
