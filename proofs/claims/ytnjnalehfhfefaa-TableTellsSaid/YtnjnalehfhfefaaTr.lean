/- TbR1, TbR2. -/
import Derived.Test.YtnjnalehfhfefaaTw
/- The walks of the reference's NameCheck, ColAt, oneCol, ColumnCheck. -/
namespace Go.Proofs.Ytnjnalehfhfefaa
open Go.RowKit
set_option linter.unusedVariables false

set_option maxHeartbeats 1000000 in
set_option maxRecDepth 100000 in
theorem rName_any (s : List UInt8) (w : World) (hm : s.length ≤ maxLen) : Calls Try.prog 55 #[.string (str s)] w (BoolPost (Tb.isName s) w) := by
  have hsz := str_size s
  unfold maxLen at hm
  have HB := Lib.hid (fun j (hj : j < s.length) h h0 => show Tb.isName s = false by
    unfold Tb.isName; rw [name_bytes s j hj h h0]; simp)
  have HA := Lib.hid (fun h => show Tb.isName s = (decide (1 ≤ s.length) && decide (s.length ≤ 12)) by unfold Tb.isName; rw [name_all s h]; simp)
  have HX := Lib.hid (fun j (hj : j < s.length) (h2 : j < (str s).size) => show (str s)[j] = s.getD j 0 from (str_at s j h2 hj).trans (by simp [List.getD, List.getElem?_eq_getElem hj]))
  generalize Tb.isName s = R at *
  generalize hX : str s = X at *
  clear hX
  go_enter Try.func55, Try.ntmps55
  go_wp2_with fail
  go_loopw [3] (fun i wr => ∃ j : Nat, j ≤ s.length ∧ i = .int .i64 j ∧ Below w.heap.size w wr ∧ Hid (∀ i, i < j → Tb.okB (s.getD i 0) = true)) (fun i _ => s.length - (intOf i).toNat)
  case atStart => exact ⟨0, by omega, rfl, Below.refl _ _, Lib.hid (fun i hi => absurd hi (by omega))⟩
  case round =>
    obtain ⟨j, hj, rfl, hbw, HJ⟩ := hrel
    by_cases hlt : j < s.length
    · have hlt' : j < X.size := by omega
      have hx := HX.out j hlt hlt'
      have hB := HB.out j hlt HJ.out
      have hN := fun h => Lib.hid (show ∀ i, i < j + 1 → Tb.okB (s.getD i 0) = true from fun i hi => by
        by_cases e : i = j
        · rw [e]; exact h
        · exact HJ.out i (by omega))
      unfold Tb.okB at hB hN
      generalize s.getD j 0 = y at *
      by_cases h97 : y.toNat < 97
      · have hF := hB (by rw [decide_eq_false (by omega)]; simp)
        have q1 : decide ((X[j].toNat : Int) < 97) = true := by rw [hx]; exact decide_eq_true (by omega)
        have HF := Lib.hid hF
        clear hN hB hF
        go_wp2_with fail
        go_ret
        exact ⟨by rw [HF.out]; rfl, hbw⟩
      · have q1 : decide ((X[j].toNat : Int) < 97) = false := by rw [hx]; exact decide_eq_false (by omega)
        by_cases h122 : 122 < y.toNat
        · have hF := hB (by rw [decide_eq_false (p := y.toNat ≤ 122) (by omega)]; simp)
          have q2 : decide ((122 : Int) < (X[j].toNat : Int)) = true := by rw [hx]; exact decide_eq_true (by omega)
          have HF := Lib.hid hF
          clear hN hB hF
          go_wp2_with fail
          go_ret
          exact ⟨by rw [HF.out]; rfl, hbw⟩
        · have q2 : decide ((122 : Int) < (X[j].toNat : Int)) = false := by rw [hx]; exact decide_eq_false (by omega)
          have HN := hN (by rw [decide_eq_true (p := y.toNat ≤ 122) (by omega), decide_eq_true (p := 97 ≤ y.toNat) (by omega)]; simp)
          clear hN hB
          go_wp2_with fail
          exact ⟨⟨j + 1, by omega, by go_num, hbw, HN⟩, by simp [intOf]; omega⟩
    · obtain rfl : j = s.length := by omega
      have HF := HA.out HJ.out
      by_cases h1 : 1 ≤ s.length
      · by_cases h2 : s.length ≤ 12
        · rw [decide_eq_true h1, decide_eq_true h2] at HF
          have HF := Lib.hid HF
          have q1 : decide ((1 : Int) ≤ (s.length : Int)) = true := decide_eq_true (by omega)
          have q2 : decide ((s.length : Int) ≤ 12) = true := decide_eq_true (by omega)
          go_wp2_with fail
          go_ret
          exact ⟨by rw [HF.out]; rfl, hbw⟩
        · rw [decide_eq_true h1, decide_eq_false h2] at HF
          have HF := Lib.hid HF
          have q1 : decide ((1 : Int) ≤ (s.length : Int)) = true := decide_eq_true (by omega)
          have q2 : decide ((s.length : Int) ≤ 12) = false := decide_eq_false (by omega)
          go_wp2_with fail
          go_ret
          exact ⟨by rw [HF.out]; rfl, hbw⟩
      · rw [decide_eq_false h1] at HF
        have HF := Lib.hid HF
        have q1 : decide ((1 : Int) ≤ (s.length : Int)) = false := decide_eq_false (by omega)
        go_wp2_with fail
        go_ret
        exact ⟨by rw [HF.out]; rfl, hbw⟩

set_option maxHeartbeats 1000000 in
set_option maxRecDepth 100000 in
theorem rColAt_any (n : List UInt8) (a : Option Addr) (c : Nat) (l : List Tb.Col) (w : World) (hm : l.length ≤ maxLen) (hu : Gls w w.heap.size a l) :
    Calls Try.prog 35 #[.slice a l.length c, .string (str n)] w (IntPost (Tb.idx l n) w) := by
  have HU := Lib.hid hu
  have HH := Lib.hid (fun j (hj : j < l.length) h h0 => show Tb.idx l n = (j : Int) by rw [Tb.idx, Tb.pos_hit hj h h0, if_pos hj])
  have HN := Lib.hid (fun h => show Tb.idx l n = -1 by rw [Tb.idx, Tb.pos_none h, if_neg (by omega)])
  have HQ := Lib.hid (fun y : List UInt8 => tl_eq y n)
  generalize Tb.idx l n = R at *
  unfold maxLen at hm
  clear hu
  go_enter Try.func35, Try.ntmps35
  go_wp2_with fail
  go_loopw [5] (fun i wr => ∃ j : Nat, j ≤ l.length ∧ i = .int .i64 j ∧ Below w.heap.size w wr ∧ Hid (∀ i, i < j → (l.getD i Tb.nulC).name ≠ n)) (fun i _ => l.length - (intOf i).toNat)
  case atStart => exact ⟨0, by omega, rfl, Below.refl _ _, Lib.hid (fun i hi => absurd hi (by omega))⟩
  case round =>
    obtain ⟨j, hj, rfl, hbw, HJ⟩ := hrel
    by_cases hlt : j < l.length
    · obtain ⟨bb, off, rfl, hbb, hcc⟩ := HU.out (fun e => by rw [e] at hlt; simp at hlt)
      obtain ⟨k0, k1⟩ := hcc j hlt
      have c0 := (hbw.cell (p := ⟨bb, off + j * 2, none⟩) hbb).trans k0
      have hh := HH.out j hlt HJ.out
      have hn := fun h => Lib.hid (show ∀ i, i < j + 1 → (l.getD i Tb.nulC).name ≠ n from fun i hi => by
        by_cases e : i = j
        · rw [e]; exact h
        · exact HJ.out i (by omega))
      have hq := HQ.out (l.getD j Tb.nulC).name
      generalize (l.getD j Tb.nulC).name = y at *
      have hjI : (j : Int) < (l.length : Int) := by omega
      clear k0 k1 hcc
      by_cases ho : y = n
      · have HF := Lib.hid (hh ho)
        rw [decide_eq_true ho] at hq
        clear hh hn
        generalize str y = Y at *
        go_wp2_with fail
        go_ret
        exact ⟨by rw [HF.out]; rfl, hbw⟩
      · rw [decide_eq_false ho] at hq
        have HNX := hn ho
        clear hh hn
        generalize str y = Y at *
        go_wp2_with fail
        exact ⟨⟨j + 1, by omega, by go_num, hbw, HNX⟩, by simp [intOf]; omega⟩
    · obtain rfl : j = l.length := by omega
      have HF := Lib.hid (HN.out HJ.out)
      go_wp2_with fail
      go_ret
      exact ⟨by rw [HF.out]; rfl, hbw⟩

set_option maxHeartbeats 1000000 in
set_option maxRecDepth 100000 in
theorem rOneCol_any (a : Option Addr) (cap : Nat) (l : List Tb.Col) (c : Tb.Col) (w : World) (hm : l.length ≤ maxLen) (hu : Gls w w.heap.size a l) (hc : gOk c) :
    Calls Try.prog 52 #[gag c, .slice a l.length cap] w (CErrPost (Tb.fresh l c) w) := by
  have hal : Below w.heap.size w (w.alloc (.cells #[.string (str c.name), .int .i64 c.kind] 27)) := (Below.refl _ _).alloc (Nat.le_refl _) _
  have hT : Two (w.alloc (.cells #[.string (str c.name), .int .i64 c.kind] 27)) w.heap.size 27 (.string (str c.name)) (.int .i64 c.kind) := two_new _ _ _ _
  have H1 := Lib.hid (rName_any c.name (w.alloc (.cells #[.string (str c.name), .int .i64 c.kind] 27)) hc.1)
  have H2 := Lib.hid (fun W (hb : Below w.heap.size w W) => rColAt_any c.name a cap l W hm (hu.next at2_firm hb))
  have hi := idx_has l c.name
  have hk3 : C.chk c.kind [] = if c.kind ≠ 1 ∧ c.kind ≠ 2 then 7 else 0 := by
    by_cases h : c.kind ≠ 1 ∧ c.kind ≠ 2
    · rw [if_pos h]; exact chk_kind h
    · rw [if_neg h]; exact (Tb.chk_nil _).2 (by omega)
  unfold gag Tb.fresh
  generalize Tb.idx l c.name = ix at *
  generalize hhas : decide (Tb.has l c.name) = hs at *
  have hh2 : (if Tb.has l c.name then 6 else C.chk c.kind []) = if hs = true then 6 else C.chk c.kind [] := by
    rw [← hhas]; by_cases h : Tb.has l c.name <;> simp [h]
  rw [hh2, hk3]
  clear hh2 hhas hk3
  generalize str c.name = X at *
  generalize Tb.isName c.name = nm at *
  generalize c.kind = k at *
  generalize hW : w.alloc (.cells #[.string X, .int .i64 k] 27) = W1 at *
  have HW := Lib.hid hW
  clear hW hu hc
  have d0 := hT.c0
  cases nm with
  | false =>
    rw [if_pos rfl]
    go_enter Try.func52, Try.ntmps52
    go_wp2_with fail
    rw [HW.out]
    go_wp2_with fail
    refine (H1.out).mono ?_
    rintro e w1 ⟨rfl, hb1⟩
    go_wp2_with fail
    go_ret
    exact ⟨rfl, below_then hal hb1⟩
  | true =>
    rw [if_neg (by simp)]
    cases hs with
    | true =>
      rw [if_pos rfl]
      go_enter Try.func52, Try.ntmps52
      go_wp2_with fail
      rw [HW.out]
      go_wp2_with fail
      refine (H1.out).mono ?_
      rintro e w1 ⟨rfl, hb1⟩
      have d1 := (hT.next hb1).c0
      have hb1 := below_then hal hb1
      go_wp2_with fail
      refine (H2.out _ hb1).mono ?_
      rintro e w2 ⟨rfl, hb2⟩
      go_wp2_with fail
      go_ret
      exact ⟨rfl, below_then hb1 hb2⟩
    | false =>
      rw [if_neg (by simp)]
      have fin : ∀ er : Nat, ((k ≠ 1 ∧ k ≠ 2) ∧ er = 7) ∨ (¬ (k ≠ 1 ∧ k ≠ 2) ∧ er = 0) → Calls Try.prog 52 #[.agg #[.string X, .int .i64 k], .slice a l.length cap] w (CErrPost er w) := by
        intro er her
        by_cases k1 : k = 1
        · have g1 : (k != 1) = false := by rw [bne_eq_false_iff_eq]; exact k1
          obtain rfl : er = 0 := by omega
          clear k1 her
          go_enter Try.func52, Try.ntmps52
          go_wp2_with fail
          rw [HW.out]
          go_wp2_with fail
          refine (H1.out).mono ?_
          rintro e w1 ⟨rfl, hb1⟩
          have hT1 := hT.next hb1
          have d1 := hT1.c0
          have hb1 := below_then hal hb1
          go_wp2_with fail
          refine (H2.out _ hb1).mono ?_
          rintro e w2 ⟨rfl, hb2⟩
          have d2 := (hT1.next hb2).c1
          have hb2 := below_then hb1 hb2
          go_wp2_with fail
          go_ret
          exact ⟨rfl, hb2⟩
        · have g1 : (k != 1) = true := by rw [bne_iff_ne]; exact k1
          by_cases k2 : k = 2
          · have g2 : (k != 2) = false := by rw [bne_eq_false_iff_eq]; exact k2
            obtain rfl : er = 0 := by omega
            clear k1 k2 her
            go_enter Try.func52, Try.ntmps52
            go_wp2_with fail
            rw [HW.out]
            go_wp2_with fail
            refine (H1.out).mono ?_
            rintro e w1 ⟨rfl, hb1⟩
            have hT1 := hT.next hb1
            have d1 := hT1.c0
            have hb1 := below_then hal hb1
            go_wp2_with fail
            refine (H2.out _ hb1).mono ?_
            rintro e w2 ⟨rfl, hb2⟩
            have d2 := (hT1.next hb2).c1
            have hb2 := below_then hb1 hb2
            go_wp2_with fail
            go_ret
            exact ⟨rfl, hb2⟩
          · have g2 : (k != 2) = true := by rw [bne_iff_ne]; exact k2
            obtain rfl : er = 7 := by omega
            clear k1 k2 her
            go_enter Try.func52, Try.ntmps52
            go_wp2_with fail
            rw [HW.out]
            go_wp2_with fail
            refine (H1.out).mono ?_
            rintro e w1 ⟨rfl, hb1⟩
            have hT1 := hT.next hb1
            have d1 := hT1.c0
            have hb1 := below_then hal hb1
            go_wp2_with fail
            refine (H2.out _ hb1).mono ?_
            rintro e w2 ⟨rfl, hb2⟩
            have d2 := (hT1.next hb2).c1
            have hb2 := below_then hb1 hb2
            go_wp2_with fail
            go_ret
            exact ⟨rfl, hb2⟩
      refine fin _ ?_
      by_cases h : k ≠ 1 ∧ k ≠ 2
      · left; exact ⟨h, if_pos h⟩
      · right; exact ⟨h, if_neg h⟩
theorem rchk_one {k : Int} (h : k = 1 ∨ k = 2) (x : C.Cl) : C.chk k [x] = C.cellE k x := by
  rw [chk_list (by omega) (by simp)]
  unfold listE listE
  by_cases h : C.cellE k x ≠ 0
  · rw [if_pos h]
  · rw [if_neg h]; omega
end Go.Proofs.Ytnjnalehfhfefaa
/- The walks of the reference's ColumnCheck, TableCheck. -/
namespace Go.Proofs.Ytnjnalehfhfefaa
open Go.RowKit
set_option linter.unusedVariables false

set_option maxHeartbeats 1000000 in
set_option maxRecDepth 100000 in
theorem rColumn_any (k : Int) (a : Option Addr) (c : Nat) (l : List C.Cl) (w : World) (hk64 : -9223372036854775808 ≤ k ∧ k ≤ 9223372036854775807) (hr : RowIn w w.heap.size a c l) :
    Calls Try.prog 53 #[.int .i64 k, .slice a l.length c] w (CErrPost (Tb.colE k l) w) := by
  have hm := hr.max
  unfold maxLen at hm
  by_cases hk : k ≠ 1 ∧ k ≠ 2
  · have HR := Lib.hid (show Tb.colE k l = 7 by unfold Tb.colE; rw [chk_kind hk, if_pos (by simp)])
    have g1 : (k != 1) = true := by rw [bne_iff_ne]; exact hk.1
    have g2 : (k != 2) = true := by rw [bne_iff_ne]; exact hk.2
    clear hr
    go_enter Try.func53, Try.ntmps53
    go_wp2_with fail
    go_ret
    exact ⟨by rw [HR.out]; rfl, Below.refl _ _⟩
  have hk2 : k = 1 ∨ k = 2 := by omega
  have h0 : C.chk k [] = 0 := (Tb.chk_nil _).2 hk2
  by_cases hl : 128 < l.length
  · have HR := Lib.hid (show Tb.colE k l = 2 by unfold Tb.colE; rw [h0, if_neg (by simp), if_pos hl])
    have g3 : decide ((128 : Int) < (l.length : Int)) = true := decide_eq_true (by omega)
    clear hr h0
    rcases hk2 with rfl | rfl
    all_goals
      go_enter Try.func53, Try.ntmps53
      go_wp2_with fail
      go_ret
      exact ⟨by rw [HR.out]; rfl, Below.refl _ _⟩
  have hR : Tb.colE k l = Tb.firstE (fun i => C.chk k [l.getD i C.null]) l.length 0 := by unfold Tb.colE; rw [h0, if_neg (by simp), if_neg hl]
  have HU := Lib.hid hr.cls
  have HC := Lib.hid (fun x W (hx : cOk x) => show Calls Try.prog 54 #[.int .i64 k, cag x] W (CErrPost (C.chk k [x]) W) by
    have := rchk_any k x W hx hk64
    rwa [← rchk_one hk2 x] at this)
  have HOK := Lib.hid (fun j (h : j < l.length) => hr.ok _ (cgetD_mem l j h))
  rw [hR]
  obtain ⟨f, hf⟩ : ∃ f : Nat → Nat, f = fun i => C.chk k [l.getD i C.null] := ⟨_, rfl⟩
  rw [← hf]
  have HFJ := Lib.hid (fun j => show C.chk k [l.getD j C.null] = f j by rw [hf])
  have HHIT := Lib.hid (fun j (h : Tb.NoneYet f j) (hj : j < l.length) h0 => h.hit hj h0)
  have HALL := Lib.hid (fun (h : Tb.NoneYet f l.length) => h.all)
  have HLT := Lib.hid (fun j => show f j < 9 by rw [hf]; exact Tb.chk_lt9 k _)
  generalize Tb.firstE f l.length 0 = R at *
  have g3 : decide ((128 : Int) < (l.length : Int)) = false := decide_eq_false (by omega)
  clear hr h0 hR hf
  rcases hk2 with rfl | rfl
  all_goals
    go_enter Try.func53, Try.ntmps53
    go_wp2_with fail
    go_loopw [5, 6] (fun i _ wr => ∃ j : Nat, j ≤ l.length ∧ i = .int .i64 j ∧ Below w.heap.size w wr ∧ Hid (Tb.NoneYet f j)) (fun i _ _ => l.length - (intOf i).toNat)
    case atStart => exact ⟨0, by omega, rfl, Below.refl _ _, Lib.hid (Tb.NoneYet.zero _)⟩
    case round =>
      obtain ⟨j, hj, rfl, hbw, HJ⟩ := hrel
      by_cases hlt : j < l.length
      · obtain ⟨b, off, rfl, hb, hcc⟩ := HU.out (fun e => by rw [e] at hlt; simp at hlt)
        obtain ⟨k0, k1, k2⟩ := hcc j hlt
        have c0 := (hbw.cell (p := ⟨b, off + j * 3, none⟩) hb).trans k0
        have c1 := (hbw.cell (p := ⟨b, off + j * 3 + 1, none⟩) hb).trans k1
        have c2 := (hbw.cell (p := ⟨b, off + j * 3 + 2, none⟩) hb).trans k2
        have hok := HOK.out j hlt
        have hcall := HC.out (l.getD j C.null) wr hok
        rw [HFJ.out j] at hcall
        have hhit := HHIT.out j HJ.out hlt
        have hnx := fun h => Lib.hid (HJ.out.succ (f := f) (j := j) h)
        have h9 := HLT.out j
        unfold cag at hcall
        generalize f j = er at *
        generalize (l.getD j C.null).kind = z at *
        generalize (l.getD j C.null).num = n at *
        generalize str (l.getD j C.null).txt = X at *
        have HCX := Lib.hid hcall
        have hjI : (j : Int) < (l.length : Int) := by omega
        clear k0 k1 k2 hcc hcall hok
        by_cases ho : er ≠ 0
        · have HF := Lib.hid (hhit ho)
          have g1 : ((er : Int) != 0) = true := by rw [bne_iff_ne]; omega
          clear ho hhit hnx
          go_wp2_with fail
          refine (HCX.out).mono ?_
          rintro e w1 ⟨rfl, hb1⟩
          go_wp2_with fail
          go_ret
          exact ⟨by rw [HF.out]; rfl, below_then hbw hb1⟩
        · obtain rfl : er = 0 := by omega
          have HN := hnx rfl
          clear ho hhit hnx
          go_wp2_with fail
          refine (HCX.out).mono ?_
          rintro e w1 ⟨rfl, hb1⟩
          go_wp2_with fail
          exact ⟨⟨j + 1, by omega, by go_num, below_then hbw hb1, HN⟩, by simp [intOf]; omega⟩
      · obtain rfl : j = l.length := by omega
        have HF := Lib.hid (HALL.out HJ.out)
        go_wp2_with fail
        go_ret
        exact ⟨by rw [HF.out]; rfl, hbw⟩

set_option maxHeartbeats 2000000 in
set_option maxRecDepth 100000 in
theorem rTable_any (ca : Option Addr) (cc : Nat) (da : Option Addr) (dc : Nat) (t : Tb.T) (w : World) (ht : Tbl w w.heap.size ca cc da dc t) :
    Calls Try.prog 15 #[tag ca t.cols.length cc da t.data.length dc] w (CErrPost (Tb.check t) w) := by
  have hal : Below w.heap.size w (w.alloc (.cells #[.slice ca t.cols.length cc, .slice da t.data.length dc] 25)) := (Below.refl _ _).alloc (Nat.le_refl _) _
  have hT : Two (w.alloc (.cells #[.slice ca t.cols.length cc, .slice da t.data.length dc] 25)) w.heap.size 25 (.slice ca t.cols.length cc) (.slice da t.data.length dc) := two_new _ _ _ _
  have hcl := ht.ccap
  have hdl := ht.dcap
  have hcl1 := hcl.1
  have hcl2 := hcl.2.1
  have hdl1 := hdl.1
  have hdl2 := hdl.2.1
  unfold maxLen at hcl2 hdl2
  have d0 := hT.c0
  have d1 := hT.c1
  have hwz : w.heap.size < (w.alloc (.cells #[.slice ca t.cols.length cc, .slice da t.data.length dc] 25)).heap.size := hT.lt
  have HT := Lib.hid (ht.next hal)
  have HTW := Lib.hid hT
  unfold Tb.check
  by_cases h1 : 6 < t.cols.length
  · rw [if_pos h1]
    have g1 : decide ((6 : Int) < (t.cols.length : Int)) = true := decide_eq_true (by omega)
    clear ht hT
    go_enter Try.func15, Try.ntmps15
    go_wp2_with fail
    go_ret
    exact ⟨rfl, hal⟩
  rw [if_neg h1]
  have g1 : decide ((6 : Int) < (t.cols.length : Int)) = false := decide_eq_false (by omega)
  by_cases h2 : t.data.length ≠ t.cols.length
  · rw [if_pos h2]
    have g2 : ((t.data.length : Int) != (t.cols.length : Int)) = true := by rw [bne_iff_ne]; omega
    clear ht hT
    go_enter Try.func15, Try.ntmps15
    go_wp2_with fail
    go_ret
    exact ⟨rfl, hal⟩
  rw [if_neg h2]
  have g2 : ((t.data.length : Int) != (t.cols.length : Int)) = false := by rw [bne_eq_false_iff_eq]; omega
  have HHIT := Lib.hid (fun j (h : Tb.NoneYet (Tb.checkAt t) j) (hj : j < t.cols.length) h0 => h.hit hj h0)
  have HALL := Lib.hid (fun (h : Tb.NoneYet (Tb.checkAt t) t.cols.length) => h.all)
  have HL := Lib.hid (show t.data.length = t.cols.length by omega)
  have HF := Lib.hid (fun j => Tb.fresh_lt (t.cols.take j) (t.cols.getD j Tb.nulC))
  have HE := Lib.hid (fun j => Tb.colE_lt (t.cols.getD j Tb.nulC).kind (t.data.getD j []))
  have HC1 := Lib.hid (fun j h => checkAt_fresh (t := t) (i := j) h)
  have HC2 := Lib.hid (fun j h h2 => checkAt_col (t := t) (i := j) h h2)
  have HC3 := Lib.hid (fun j h h2 => checkAt_len (t := t) (i := j) h h2)
  generalize Tb.firstE (Tb.checkAt t) t.cols.length 0 = R at *
  generalize hW : w.alloc (.cells #[.slice ca t.cols.length cc, .slice da t.data.length dc] 25) = W1 at *
  have HW := Lib.hid hW
  clear hW ht hT h2
  go_enter Try.func15, Try.ntmps15
  go_wp2_with fail
  rw [HW.out]
  go_wp2_with fail
  go_loopw [3, 4] (fun i _ wr => ∃ j : Nat, j ≤ t.cols.length ∧ i = .int .i64 j ∧ Below W1.heap.size W1 wr ∧ Hid (Tb.NoneYet (Tb.checkAt t) j)) (fun i _ _ => t.cols.length - (intOf i).toNat)
  case atStart => exact ⟨0, by omega, rfl, Below.refl _ _, Lib.hid (Tb.NoneYet.zero _)⟩
  case round =>
    obtain ⟨j, hj, rfl, hbw, HJ⟩ := hrel
    have hbw0 := below_then hal hbw
    have hTr := HTW.out.next hbw
    have t0 := hTr.c0
    by_cases hlt : j < t.cols.length
    · obtain ⟨bb, off, rfl, hbb, hcc⟩ := HT.out.gls (fun e => by rw [e] at hlt; simp at hlt)
      have hltd : j < t.data.length := by rw [HL.out]; exact hlt
      obtain ⟨db, doff, rfl, hdb, hdd⟩ := HT.out.dat (fun e => by rw [e] at hltd; simp at hltd)
      obtain ⟨ai, ci, r0, hrow⟩ := hdd j hltd
      obtain ⟨a0, c0', s0, hrow0⟩ := hdd 0 (by omega)
      obtain ⟨k0, k1⟩ := hcc j hlt
      have hg := HT.out.gOk (t.cols.getD j Tb.nulC) (by simp only [List.getD, List.getElem?_eq_getElem hlt, Option.getD_some]; exact List.getElem_mem hlt)
      have E0 := Lib.hid ((hbw.cell (p := ⟨bb, off + j * 2, none⟩) hbb).trans k0)
      have E1 := Lib.hid ((hbw.cell (p := ⟨bb, off + j * 2 + 1, none⟩) hbb).trans k1)
      have R0 := Lib.hid ((hbw.cell (p := ⟨db, doff + j, none⟩) hdb).trans r0)
      have hs0 := (hbw.cell (p := ⟨db, doff + 0, none⟩) hdb).trans s0
      rw [Nat.add_zero] at hs0
      have S0 := Lib.hid hs0
      have T0 := Lib.hid t0
      have T1 := Lib.hid hTr.c1
      have hG : w.heap.size < wr.heap.size := hTr.lt
      have hbb2 : bb < wr.heap.size := Nat.lt_of_lt_of_le hbb hbw.size
      have hdb2 : db < wr.heap.size := Nat.lt_of_lt_of_le hdb hbw.size
      have HG := Lib.hid (fun W (hb : Below W1.heap.size W1 W) => show Calls Try.prog 52 #[gag (t.cols.getD j Tb.nulC), .slice (some ⟨bb, off, none⟩) j cc] W (CErrPost (Tb.fresh (t.cols.take j) (t.cols.getD j Tb.nulC)) W) by
        have := rOneCol_any (some ⟨bb, off, none⟩) cc (t.cols.take j) (t.cols.getD j Tb.nulC) W (by rw [List.length_take]; unfold maxLen; omega) ((HT.out.gls.take j).next at2_firm hb) hg
        rwa [List.length_take, Nat.min_eq_left (by omega)] at this)
      have HCC := Lib.hid (fun W (hb : Below W1.heap.size W1 W) => rColumn_any (t.cols.getD j Tb.nulC).kind ai ci (t.data.getD j []) W hg.2 (hrow.next hb))
      have hl1 := HF.out j
      have hl2 := HE.out j
      have hc1 := HC1.out j
      have hc2 := HC2.out j
      have hc3 := HC3.out j
      have hh := HHIT.out j HJ.out hlt
      have hn := fun h => Lib.hid (HJ.out.succ (f := Tb.checkAt t) (j := j) h)
      have hrm := hrow.max
      have hrm0 := hrow0.max
      unfold maxLen at hrm hrm0
      generalize Tb.checkAt t j = X at *
      generalize Tb.fresh (t.cols.take j) (t.cols.getD j Tb.nulC) = er1 at *
      generalize Tb.colE (t.cols.getD j Tb.nulC).kind (t.data.getD j []) = er2 at *
      unfold gag at HG
      generalize (t.cols.getD j Tb.nulC).kind = kd at *
      generalize str (t.cols.getD j Tb.nulC).name = nm at *
      generalize (t.data.getD j []).length = n1 at *
      generalize (t.data.getD 0 []).length = n0 at *
      have hjI : (j : Int) < (t.cols.length : Int) := by omega
      have hjD : (j : Int) < (t.data.length : Int) := by omega
      have h0D : 0 < t.data.length := by omega
      have hjc : j ≤ cc := by omega
      clear k0 k1 r0 s0 hTr d0 d1 hcc hdd hg hrow hrow0 HF HE HC1 HC2 HC3 hs0
      by_cases ho1 : er1 ≠ 0
      · have hX := hc1 ho1
        have HF := Lib.hid ((hh (by omega)).trans hX)
        have g3 : ((er1 : Int) == 0) = false := by rw [beq_eq_false_iff_ne]; omega
        have g4 : ((er1 : Int) != 0) = true := by rw [bne_iff_ne]; omega
        clear hh hn hc1 hc2 hc3 hX
        have hb0 := Below.refl wr.heap.size wr
        have xT0 := fun q : WB wr => q.cell (Nat.lt_of_lt_of_le hG hb0.size) ((hb0.cell (p := ⟨w.heap.size, 0, none⟩) hG).trans T0.out)
        have xE0 := fun q : WB wr => q.cell (Nat.lt_of_lt_of_le hbb2 hb0.size) ((hb0.cell (p := ⟨bb, off + j * 2, none⟩) hbb2).trans E0.out)
        have xE1 := fun q : WB wr => q.cell (Nat.lt_of_lt_of_le hbb2 hb0.size) ((hb0.cell (p := ⟨bb, off + j * 2 + 1, none⟩) hbb2).trans E1.out)
        go_wp2_with fail
        refine wp_region_wb (by kernel_rfl) (by kernel_rfl) ?_
        repeat (quiet_step ((go_at_call 52; refine calls_wb (v := .int .i64 (er1 : Int)) ?_; exact (HG.out _ (below_then hbw (WB.below _))))))
        refine wpQuiet_nil ?_
        rintro _ ⟨p, rfl⟩
        have hb1 := below_then hb0 p.below
        clear xT0 xE0 xE1
        generalize p.w = Y1 at *
        go_wp2_with fail
        go_ret
        exact ⟨by rw [HF.out]; rfl, below_then hbw0 hb1⟩
      obtain rfl : er1 = 0 := by omega
      by_cases ho2 : er2 ≠ 0
      · have hX := hc2 rfl ho2
        have HF := Lib.hid ((hh (by omega)).trans hX)
        have g3 : ((er2 : Int) != 0) = true := by rw [bne_iff_ne]; omega
        clear hh hn hc1 hc2 hc3 hX
        have hb0 := Below.refl wr.heap.size wr
        have xT0 := fun q : WB wr => q.cell (Nat.lt_of_lt_of_le hG hb0.size) ((hb0.cell (p := ⟨w.heap.size, 0, none⟩) hG).trans T0.out)
        have xE0 := fun q : WB wr => q.cell (Nat.lt_of_lt_of_le hbb2 hb0.size) ((hb0.cell (p := ⟨bb, off + j * 2, none⟩) hbb2).trans E0.out)
        have xE1 := fun q : WB wr => q.cell (Nat.lt_of_lt_of_le hbb2 hb0.size) ((hb0.cell (p := ⟨bb, off + j * 2 + 1, none⟩) hbb2).trans E1.out)
        go_wp2_with fail
        refine wp_region_wb (by kernel_rfl) (by kernel_rfl) ?_
        repeat (quiet_step ((go_at_call 52; refine calls_wb (v := .int .i64 0) ?_; exact (HG.out _ (below_then hbw (WB.below _))))))
        refine wpQuiet_nil ?_
        rintro _ ⟨p, rfl⟩
        have hb1 := below_then hb0 p.below
        clear xT0 xE0 xE1
        generalize p.w = Y1 at *
        have xT0 := fun q : WB Y1 => q.cell (Nat.lt_of_lt_of_le hG hb1.size) ((hb1.cell (p := ⟨w.heap.size, 0, none⟩) hG).trans T0.out)
        have xE1 := fun q : WB Y1 => q.cell (Nat.lt_of_lt_of_le hbb2 hb1.size) ((hb1.cell (p := ⟨bb, off + j * 2 + 1, none⟩) hbb2).trans E1.out)
        have xT1 := fun q : WB Y1 => q.cell (Nat.lt_of_lt_of_le hG hb1.size) ((hb1.cell (p := ⟨w.heap.size, 1, none⟩) hG).trans T1.out)
        have xR0 := fun q : WB Y1 => q.cell (Nat.lt_of_lt_of_le hdb2 hb1.size) ((hb1.cell (p := ⟨db, doff + j, none⟩) hdb2).trans R0.out)
        go_wp2_with fail
        refine wp_region_wb (by kernel_rfl) (by kernel_rfl) ?_
        repeat (quiet_step ((go_at_call 53; refine calls_wb (v := .int .i64 (er2 : Int)) ?_; exact (HCC.out _ (below_then (below_then hbw hb1) (WB.below _))))))
        refine wpQuiet_nil ?_
        rintro _ ⟨p, rfl⟩
        have hb2 := below_then hb1 p.below
        clear xT0 xE1 xT1 xR0
        generalize p.w = Y2 at *
        go_wp2_with fail
        go_ret
        exact ⟨by rw [HF.out]; rfl, below_then hbw0 hb2⟩
      obtain rfl : er2 = 0 := by omega
      have hc3 := hc3 rfl rfl
      by_cases ho3 : n1 ≠ n0
      · rw [if_pos ho3] at hc3
        have HF := Lib.hid ((hh (by omega)).trans hc3)
        have g3 : ((n1 : Int) != (n0 : Int)) = true := by rw [bne_iff_ne]; omega
        clear hh hn hc1 hc2 hc3
        have hb0 := Below.refl wr.heap.size wr
        have xT0 := fun q : WB wr => q.cell (Nat.lt_of_lt_of_le hG hb0.size) ((hb0.cell (p := ⟨w.heap.size, 0, none⟩) hG).trans T0.out)
        have xE0 := fun q : WB wr => q.cell (Nat.lt_of_lt_of_le hbb2 hb0.size) ((hb0.cell (p := ⟨bb, off + j * 2, none⟩) hbb2).trans E0.out)
        have xE1 := fun q : WB wr => q.cell (Nat.lt_of_lt_of_le hbb2 hb0.size) ((hb0.cell (p := ⟨bb, off + j * 2 + 1, none⟩) hbb2).trans E1.out)
        go_wp2_with fail
        refine wp_region_wb (by kernel_rfl) (by kernel_rfl) ?_
        repeat (quiet_step ((go_at_call 52; refine calls_wb (v := .int .i64 0) ?_; exact (HG.out _ (below_then hbw (WB.below _))))))
        refine wpQuiet_nil ?_
        rintro _ ⟨p, rfl⟩
        have hb1 := below_then hb0 p.below
        clear xT0 xE0 xE1
        generalize p.w = Y1 at *
        have xT0 := fun q : WB Y1 => q.cell (Nat.lt_of_lt_of_le hG hb1.size) ((hb1.cell (p := ⟨w.heap.size, 0, none⟩) hG).trans T0.out)
        have xE1 := fun q : WB Y1 => q.cell (Nat.lt_of_lt_of_le hbb2 hb1.size) ((hb1.cell (p := ⟨bb, off + j * 2 + 1, none⟩) hbb2).trans E1.out)
        have xT1 := fun q : WB Y1 => q.cell (Nat.lt_of_lt_of_le hG hb1.size) ((hb1.cell (p := ⟨w.heap.size, 1, none⟩) hG).trans T1.out)
        have xR0 := fun q : WB Y1 => q.cell (Nat.lt_of_lt_of_le hdb2 hb1.size) ((hb1.cell (p := ⟨db, doff + j, none⟩) hdb2).trans R0.out)
        go_wp2_with fail
        refine wp_region_wb (by kernel_rfl) (by kernel_rfl) ?_
        repeat (quiet_step ((go_at_call 53; refine calls_wb (v := .int .i64 0) ?_; exact (HCC.out _ (below_then (below_then hbw hb1) (WB.below _))))))
        refine wpQuiet_nil ?_
        rintro _ ⟨p, rfl⟩
        have hb2 := below_then hb1 p.below
        clear xT0 xE1 xT1 xR0
        generalize p.w = Y2 at *
        have xT1 := fun q : WB Y2 => q.cell (Nat.lt_of_lt_of_le hG hb2.size) ((hb2.cell (p := ⟨w.heap.size, 1, none⟩) hG).trans T1.out)
        have xR0 := fun q : WB Y2 => q.cell (Nat.lt_of_lt_of_le hdb2 hb2.size) ((hb2.cell (p := ⟨db, doff + j, none⟩) hdb2).trans R0.out)
        have xS0 := fun q : WB Y2 => q.cell (Nat.lt_of_lt_of_le hdb2 hb2.size) ((hb2.cell (p := ⟨db, doff, none⟩) hdb2).trans S0.out)
        go_wp2_with fail
        refine wp_region_wb (by kernel_rfl) (by kernel_rfl) ?_
        repeat (quiet_step (fail))
        refine wpQuiet_nil ?_
        rintro _ ⟨p, rfl⟩
        have hb3 := below_then hb2 p.below
        clear xT1 xR0 xS0
        generalize p.w = Y3 at *
        go_wp2_with fail
        go_ret
        exact ⟨by rw [HF.out]; rfl, below_then hbw0 hb3⟩
      · rw [if_neg ho3] at hc3
        have HNX := hn hc3
        have g3 : ((n1 : Int) != (n0 : Int)) = false := by rw [bne_eq_false_iff_eq]; omega
        clear hh hn hc1 hc2 hc3
        have hb0 := Below.refl wr.heap.size wr
        have xT0 := fun q : WB wr => q.cell (Nat.lt_of_lt_of_le hG hb0.size) ((hb0.cell (p := ⟨w.heap.size, 0, none⟩) hG).trans T0.out)
        have xE0 := fun q : WB wr => q.cell (Nat.lt_of_lt_of_le hbb2 hb0.size) ((hb0.cell (p := ⟨bb, off + j * 2, none⟩) hbb2).trans E0.out)
        have xE1 := fun q : WB wr => q.cell (Nat.lt_of_lt_of_le hbb2 hb0.size) ((hb0.cell (p := ⟨bb, off + j * 2 + 1, none⟩) hbb2).trans E1.out)
        go_wp2_with fail
        refine wp_region_wb (by kernel_rfl) (by kernel_rfl) ?_
        repeat (quiet_step ((go_at_call 52; refine calls_wb (v := .int .i64 0) ?_; exact (HG.out _ (below_then hbw (WB.below _))))))
        refine wpQuiet_nil ?_
        rintro _ ⟨p, rfl⟩
        have hb1 := below_then hb0 p.below
        clear xT0 xE0 xE1
        generalize p.w = Y1 at *
        have xT0 := fun q : WB Y1 => q.cell (Nat.lt_of_lt_of_le hG hb1.size) ((hb1.cell (p := ⟨w.heap.size, 0, none⟩) hG).trans T0.out)
        have xE1 := fun q : WB Y1 => q.cell (Nat.lt_of_lt_of_le hbb2 hb1.size) ((hb1.cell (p := ⟨bb, off + j * 2 + 1, none⟩) hbb2).trans E1.out)
        have xT1 := fun q : WB Y1 => q.cell (Nat.lt_of_lt_of_le hG hb1.size) ((hb1.cell (p := ⟨w.heap.size, 1, none⟩) hG).trans T1.out)
        have xR0 := fun q : WB Y1 => q.cell (Nat.lt_of_lt_of_le hdb2 hb1.size) ((hb1.cell (p := ⟨db, doff + j, none⟩) hdb2).trans R0.out)
        go_wp2_with fail
        refine wp_region_wb (by kernel_rfl) (by kernel_rfl) ?_
        repeat (quiet_step ((go_at_call 53; refine calls_wb (v := .int .i64 0) ?_; exact (HCC.out _ (below_then (below_then hbw hb1) (WB.below _))))))
        refine wpQuiet_nil ?_
        rintro _ ⟨p, rfl⟩
        have hb2 := below_then hb1 p.below
        clear xT0 xE1 xT1 xR0
        generalize p.w = Y2 at *
        have xT1 := fun q : WB Y2 => q.cell (Nat.lt_of_lt_of_le hG hb2.size) ((hb2.cell (p := ⟨w.heap.size, 1, none⟩) hG).trans T1.out)
        have xR0 := fun q : WB Y2 => q.cell (Nat.lt_of_lt_of_le hdb2 hb2.size) ((hb2.cell (p := ⟨db, doff + j, none⟩) hdb2).trans R0.out)
        have xS0 := fun q : WB Y2 => q.cell (Nat.lt_of_lt_of_le hdb2 hb2.size) ((hb2.cell (p := ⟨db, doff, none⟩) hdb2).trans S0.out)
        go_wp2_with fail
        refine wp_region_wb (by kernel_rfl) (by kernel_rfl) ?_
        repeat (quiet_step (fail))
        refine wpQuiet_nil ?_
        rintro _ ⟨p, rfl⟩
        have hb3 := below_then hb2 p.below
        clear xT1 xR0 xS0
        generalize p.w = Y3 at *
        go_wp2_with fail
        exact ⟨⟨j + 1, by omega, by go_num, below_then hbw hb3, HNX⟩, by simp [intOf]; omega⟩
    · obtain rfl : j = t.cols.length := by omega
      have HF := Lib.hid (HALL.out HJ.out)
      go_wp2_with fail
      go_ret
      exact ⟨by rw [HF.out]; rfl, hbw0⟩
end Go.Proofs.Ytnjnalehfhfefaa
