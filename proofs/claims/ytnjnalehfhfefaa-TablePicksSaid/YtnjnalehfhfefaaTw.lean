/- TbW1, TbW2, TbW3, TbW4, TbC0. -/
import Derived.Lib.SliceRun
import Derived.Deep.RegionLaw
import Derived.Test.YtnjnalehfhfefaaK3
import Derived.Test.YtnjnalehfhfefaaTa
/- The walks of table.isName, table.place (slices.IndexFunc at its closure), table.fresh. -/
namespace Go.Proofs.Ytnjnalehfhfefaa
open Go.RowKit
set_option linter.unusedVariables false

theorem name_bytes (s : List UInt8) (j : Nat) (hj : j < s.length) (h : ∀ i, i < j → Tb.okB (s.getD i 0) = true) (h0 : Tb.okB (s.getD j 0) = false) : s.all Tb.okB = false := by
  rw [List.all_eq_false]
  refine ⟨s.getD j 0, ?_, by rw [h0]; simp⟩
  simp only [List.getD, List.getElem?_eq_getElem hj, Option.getD_some]
  exact List.getElem_mem hj
theorem name_all (s : List UInt8) (h : ∀ i, i < s.length → Tb.okB (s.getD i 0) = true) : s.all Tb.okB = true := by
  rw [List.all_eq_true]
  intro x hx
  obtain ⟨i, hi, rfl⟩ := List.mem_iff_getElem.1 hx
  have := h i hi
  simpa [List.getD, List.getElem?_eq_getElem hi] using this

set_option maxHeartbeats 1000000 in
set_option maxRecDepth 100000 in
theorem isName_any (s : List UInt8) (w : World) (hm : s.length ≤ maxLen) : Calls Try.prog 51 #[.string (str s)] w (BoolPost (Tb.isName s) w) := by
  have hsz := str_size s
  unfold maxLen at hm
  by_cases h1 : s.length < 1 ∨ 12 < s.length
  · have hr : Tb.isName s = false := by
      unfold Tb.isName
      rcases h1 with h | h
      · simp [show ¬ 1 ≤ s.length by omega]
      · simp [show ¬ s.length ≤ 12 by omega]
    rw [hr]
    generalize hX : str s = X at *
    clear hX
    by_cases h2 : s.length < 1
    · have g1 : decide ((X.size : Int) < 1) = true := decide_eq_true (by omega)
      go_enter Try.func51, Try.ntmps51
      go_wp2_with fail
      go_ret
      exact ⟨rfl, Below.refl _ _⟩
    · have g1 : decide ((X.size : Int) < 1) = false := decide_eq_false (by omega)
      have g2 : decide ((12 : Int) < (X.size : Int)) = true := decide_eq_true (by omega)
      go_enter Try.func51, Try.ntmps51
      go_wp2_with fail
      go_ret
      exact ⟨rfl, Below.refl _ _⟩
  have g1 : decide (((str s).size : Int) < 1) = false := decide_eq_false (by omega)
  have g2 : decide ((12 : Int) < ((str s).size : Int)) = false := decide_eq_false (by omega)
  have hr : Tb.isName s = s.all Tb.okB := by
    unfold Tb.isName
    rw [decide_eq_true (show 1 ≤ s.length by omega), decide_eq_true (show s.length ≤ 12 by omega)]; simp
  rw [hr]
  have HB := Lib.hid (fun j (hj : j < s.length) h h0 => name_bytes s j hj h h0)
  have HA := Lib.hid (fun h => name_all s h)
  have HX := Lib.hid (fun j (hj : j < s.length) (h2 : j < (str s).size) => show (str s)[j] = s.getD j 0 from (str_at s j h2 hj).trans (by simp [List.getD, List.getElem?_eq_getElem hj]))
  generalize s.all Tb.okB = R at *
  generalize hX : str s = X at *
  clear hX hr
  go_enter Try.func51, Try.ntmps51
  go_wp2_with fail
  go_loopw [3, 14] (fun _ i wr => ∃ j : Nat, j ≤ s.length ∧ i = .int .i64 j ∧ Below w.heap.size w wr ∧ Hid (∀ i, i < j → Tb.okB (s.getD i 0) = true)) (fun _ i _ => s.length - (intOf i).toNat)
  case atStart => exact ⟨0, by omega, rfl, Below.refl _ _, Lib.hid (fun i hi => absurd hi (by omega))⟩
  case round =>
    obtain ⟨j, hj, rfl, hbw, HJ⟩ := hrel
    by_cases hlt : j < s.length
    · have hlt' : j < X.size := by omega
      have hx := HX.out j hlt hlt'
      have hB := HB.out j hlt HJ.out
      have hN := fun h => Lib.hid (show ∀ i, i < j + 1 → Tb.okB (s.getD i 0) = true from fun i hi => by
        by_cases e : i = j
        · rw [e]; exact h
        · exact HJ.out i (by omega))
      unfold Tb.okB at hB hN
      generalize s.getD j 0 = y at *
      by_cases h97 : y.toNat < 97
      · have hF := hB (by rw [decide_eq_false (by omega)]; simp)
        have q1 : decide ((X[j].toNat : Int) < 97) = true := by rw [hx]; exact decide_eq_true (by omega)
        rw [hF]
        clear hN hB
        go_wp2_with fail
        go_ret
        exact ⟨rfl, hbw⟩
      · have q1 : decide ((X[j].toNat : Int) < 97) = false := by rw [hx]; exact decide_eq_false (by omega)
        by_cases h122 : 122 < y.toNat
        · have hF := hB (by rw [decide_eq_false (p := y.toNat ≤ 122) (by omega)]; simp)
          have q2 : decide ((122 : Int) < (X[j].toNat : Int)) = true := by rw [hx]; exact decide_eq_true (by omega)
          rw [hF]
          clear hN hB
          go_wp2_with fail
          go_ret
          exact ⟨rfl, hbw⟩
        · have q2 : decide ((122 : Int) < (X[j].toNat : Int)) = false := by rw [hx]; exact decide_eq_false (by omega)
          have HN := hN (by rw [decide_eq_true (p := y.toNat ≤ 122) (by omega), decide_eq_true (p := 97 ≤ y.toNat) (by omega)]; simp)
          clear hN hB
          go_wp2_with fail
          exact ⟨⟨j + 1, by omega, by go_num, hbw, HN⟩, by simp [intOf]; omega⟩
    · obtain rfl : j = s.length := by omega
      have HF := Lib.hid (HA.out HJ.out)
      go_wp2_with fail
      go_ret
      exact ⟨by rw [HF.out]; rfl, hbw⟩

set_option maxHeartbeats 1000000 in
set_option maxRecDepth 100000 in
theorem place1_any (b : Nat) (n : List UInt8) (c : Tb.Col) (w : World) (hB : Boxed w b 9 (.string (str n))) :
    Calls Try.prog 88 #[gag c, .pointer (some ⟨b, 0, none⟩)] w (BoolPost (decide (c.name = n)) w) := by
  have hal : Below w.heap.size w (w.alloc (.cells #[.string (str c.name), .int .i64 c.kind] 27)) := (Below.refl _ _).alloc (Nat.le_refl _) _
  have c0 := boxed_c0 (boxed_next hB hal)
  have q := tl_eq c.name n
  unfold gag
  generalize str c.name = X at *
  generalize str n = Y at *
  generalize decide (c.name = n) = r at *
  clear hB
  go_enter Try.func88, Try.ntmps88
  go_wp2_with fail
  go_ret
  exact ⟨rfl, hal⟩

def IntPost (n : Int) (w : World) (e : Ending) (w' : World) : Prop := e = .returned (.int .i64 n) ∧ Below w.heap.size w w'
set_option maxHeartbeats 1000000 in
set_option maxRecDepth 100000 in
theorem indexFunc_any (b : Nat) (n : List UInt8) (a : Option Addr) (c : Nat) (l : List Tb.Col) (w : World) (hm : l.length ≤ maxLen) (hu : Gls w w.heap.size a l) (hB : Boxed w b 9 (.string (str n))) :
    Calls Try.prog 87 #[.slice a l.length c, .func (.func 88) #[] #[.pointer (some ⟨b, 0, none⟩)]] w (IntPost (Tb.idx l n) w) := by
  have HU := Lib.hid hu
  have HC := Lib.hid (fun x W (hb : Below w.heap.size w W) => place1_any b n x W (boxed_next hB hb))
  have HH := Lib.hid (fun j (hj : j < l.length) h h0 => show Tb.idx l n = (j : Int) by rw [Tb.idx, Tb.pos_hit hj h h0, if_pos hj])
  have HN := Lib.hid (fun h => show Tb.idx l n = -1 by rw [Tb.idx, Tb.pos_none h, if_neg (by omega)])
  generalize Tb.idx l n = R at *
  unfold maxLen at hm
  clear hu hB
  go_enter Try.func87, Try.ntmps87
  go_wp2_with fail
  go_loopw [5, 8] (fun _ i wr => ∃ j : Nat, j ≤ l.length ∧ i = .int .i64 j ∧ Below w.heap.size w wr ∧ Hid (∀ i, i < j → (l.getD i Tb.nulC).name ≠ n)) (fun _ i _ => l.length - (intOf i).toNat)
  case atStart => exact ⟨0, by omega, rfl, Below.refl _ _, Lib.hid (fun i hi => absurd hi (by omega))⟩
  case round =>
    obtain ⟨j, hj, rfl, hbw, HJ⟩ := hrel
    by_cases hlt : j < l.length
    · obtain ⟨bb, off, rfl, hbb, hcc⟩ := HU.out (fun e => by rw [e] at hlt; simp at hlt)
      obtain ⟨k0, k1⟩ := hcc j hlt
      have c0 := (hbw.cell (p := ⟨bb, off + j * 2, none⟩) hbb).trans k0
      have c1 := (hbw.cell (p := ⟨bb, off + j * 2 + 1, none⟩) hbb).trans k1
      have hcall := HC.out (l.getD j Tb.nulC) wr hbw
      have hh := HH.out j hlt HJ.out
      have hn := fun h => Lib.hid (show ∀ i, i < j + 1 → (l.getD i Tb.nulC).name ≠ n from fun i hi => by
        by_cases e : i = j
        · rw [e]; exact h
        · exact HJ.out i (by omega))
      unfold gag at hcall
      generalize (l.getD j Tb.nulC).kind = z at *
      generalize (l.getD j Tb.nulC).name = y at *
      have hjI : (j : Int) < (l.length : Int) := by omega
      clear k0 k1 hcc
      by_cases ho : y = n
      · rw [hh ho]
        rw [decide_eq_true ho] at hcall
        have HCX := Lib.hid hcall
        clear hh hn hcall
        generalize str y = Y at *
        go_wp2_with fail
        refine (HCX.out).mono ?_
        rintro e w1 ⟨rfl, hb1⟩
        go_wp2_with fail
        go_ret
        exact ⟨rfl, below_then hbw hb1⟩
      · rw [decide_eq_false ho] at hcall
        have HCX := Lib.hid hcall
        have HNX := hn ho
        clear hh hn hcall
        generalize str y = Y at *
        go_wp2_with fail
        refine (HCX.out).mono ?_
        rintro e w1 ⟨rfl, hb1⟩
        go_wp2_with fail
        exact ⟨⟨j + 1, by omega, by go_num, below_then hbw hb1, HNX⟩, by simp [intOf]; omega⟩
    · obtain rfl : j = l.length := by omega
      have HF := Lib.hid (HN.out HJ.out)
      go_wp2_with fail
      go_ret
      exact ⟨by rw [HF.out]; rfl, hbw⟩

set_option maxHeartbeats 1000000 in
set_option maxRecDepth 100000 in
theorem place_any (n : List UInt8) (a : Option Addr) (c : Nat) (l : List Tb.Col) (w : World) (hm : l.length ≤ maxLen) (hu : Gls w w.heap.size a l) :
    Calls Try.prog 47 #[.slice a l.length c, .string (str n)] w (IntPost (Tb.idx l n) w) := by
  have hal : Below w.heap.size w (w.alloc (.cells #[.string (str n)] 9)) := (Below.refl _ _).alloc (Nat.le_refl _) _
  have HC := Lib.hid (indexFunc_any w.heap.size n a c l _ hm (hu.next at2_firm hal) (boxed_new w (.string (str n)) 9))
  generalize Tb.idx l n = R at *
  generalize str n = Y at *
  clear hu
  go_enter Try.func47, Try.ntmps47
  go_wp2_with fail
  refine (HC.out).mono ?_
  rintro e w1 ⟨rfl, hb1⟩
  go_wp2_with fail
  go_ret
  exact ⟨rfl, below_then hal hb1⟩

theorem idx_has (l : List Tb.Col) (n : List UInt8) : decide (0 ≤ Tb.idx l n) = decide (Tb.has l n) := by
  apply decide_eq_decide.2
  show _ ↔ Tb.pos l n < l.length
  unfold Tb.idx
  split <;> omega
set_option maxHeartbeats 1000000 in
set_option maxRecDepth 100000 in
theorem fresh_any (a : Option Addr) (cap : Nat) (l : List Tb.Col) (c : Tb.Col) (w : World) (hm : l.length ≤ maxLen) (hu : Gls w w.heap.size a l) (hc : gOk c) :
    Calls Try.prog 43 #[.slice a l.length cap, gag c] w (CErrPost (Tb.fresh l c) w) := by
  have hal : Below w.heap.size w (w.alloc (.cells #[.string (str c.name), .int .i64 c.kind] 27)) := (Below.refl _ _).alloc (Nat.le_refl _) _
  have hT : Two (w.alloc (.cells #[.string (str c.name), .int .i64 c.kind] 27)) w.heap.size 27 (.string (str c.name)) (.int .i64 c.kind) := two_new _ _ _ _
  have H1 := Lib.hid (isName_any c.name (w.alloc (.cells #[.string (str c.name), .int .i64 c.kind] 27)) hc.1)
  have H2 := Lib.hid (fun W (hb : Below w.heap.size w W) => place_any c.name a cap l W hm (hu.next at2_firm hb))
  have H3 := Lib.hid (fun W => ncheck_any c.kind none 0 [] W (Nat.zero_le _) (by simp) (Cls.nil _ _ _))
  have hi := idx_has l c.name
  unfold gag Tb.fresh
  have hr1 : Tb.isName c.name = false → Tb.fresh l c = 1 := fun h => by unfold Tb.fresh; rw [if_pos h]
  generalize Tb.idx l c.name = ix at *
  generalize hhas : decide (Tb.has l c.name) = hs at *
  have hh2 : (if Tb.has l c.name then 6 else C.chk c.kind []) = if hs = true then 6 else C.chk c.kind [] := by
    rw [← hhas]; by_cases h : Tb.has l c.name <;> simp [h]
  rw [hh2]
  clear hr1 hh2 hhas
  generalize C.chk c.kind [] = er at *
  generalize str c.name = X at *
  generalize Tb.isName c.name = nm at *
  generalize c.kind = k at *
  generalize hW : w.alloc (.cells #[.string X, .int .i64 k] 27) = W1 at *
  have HW := Lib.hid hW
  clear hW hu hc
  have d0 := hT.c0
  cases nm with
  | false =>
    rw [if_pos rfl]
    go_enter Try.func43, Try.ntmps43
    go_wp2_with fail
    rw [HW.out]
    go_wp2_with fail
    refine (H1.out).mono ?_
    rintro e w1 ⟨rfl, hb1⟩
    go_wp2_with fail
    go_ret
    exact ⟨rfl, below_then hal hb1⟩
  | true =>
    rw [if_neg (by simp)]
    cases hs with
    | true =>
      rw [if_pos rfl]
      go_enter Try.func43, Try.ntmps43
      go_wp2_with fail
      rw [HW.out]
      go_wp2_with fail
      refine (H1.out).mono ?_
      rintro e w1 ⟨rfl, hb1⟩
      have d1 := (hT.next hb1).c0
      have hb1 := below_then hal hb1
      go_wp2_with fail
      refine (H2.out _ hb1).mono ?_
      rintro e w2 ⟨rfl, hb2⟩
      go_wp2_with fail
      go_ret
      exact ⟨rfl, below_then hb1 hb2⟩
    | false =>
      rw [if_neg (by simp)]
      go_enter Try.func43, Try.ntmps43
      go_wp2_with fail
      rw [HW.out]
      go_wp2_with fail
      refine (H1.out).mono ?_
      rintro e w1 ⟨rfl, hb1⟩
      have hT1 := hT.next hb1
      have d1 := hT1.c0
      have hb1 := below_then hal hb1
      go_wp2_with fail
      refine (H2.out _ hb1).mono ?_
      rintro e w2 ⟨rfl, hb2⟩
      have d2 := (hT1.next hb2).c1
      have hb2 := below_then hb1 hb2
      go_wp2_with fail
      refine (H3.out _).mono ?_
      rintro e w3 ⟨rfl, hb3⟩
      go_wp2_with fail
      go_ret
      exact ⟨rfl, below_then hb2 hb3⟩
end Go.Proofs.Ytnjnalehfhfefaa
/- The walk of column.Check. -/
namespace Go.Proofs.Ytnjnalehfhfefaa
open Go.RowKit
set_option linter.unusedVariables false

theorem RowIn.one {w : World} {b off c : Nat} {r : List C.Cl} {B : Nat} (h : RowIn w B (some ⟨b, off, none⟩) c r) {j : Nat} (hj : j < r.length) : RowIn w B (some ⟨b, off + j * 3, none⟩) (c - j) [r.getD j C.null] := by
  have h1 := (h.cls.drop j).take 1
  have e : (r.drop j).take 1 = [r.getD j C.null] := by
    rw [List.drop_eq_getElem_cons hj]
    simp only [List.take_succ_cons, List.take_zero, List.getD, List.getElem?_eq_getElem hj, Option.getD_some]
  rw [e] at h1
  refine ⟨?_, ?_, (fun h => by cases h), ?_, h1⟩
  · have := h.len; simp; omega
  · have := h.cap; omega
  · intro x hx
    rw [List.mem_singleton.1 hx]
    exact h.ok _ (cgetD_mem r j hj)
set_option maxHeartbeats 1000000 in
set_option maxRecDepth 100000 in
theorem colcheck_any (k : Int) (a : Option Addr) (c : Nat) (l : List C.Cl) (w : World) (hr : RowIn w w.heap.size a c l) :
    Calls Try.prog 62 #[.int .i64 k, .slice a l.length c] w (CErrPost (Tb.colE k l) w) := by
  have H0 := Lib.hid (show Calls Try.prog 44 #[.int .i64 k, .slice none 0 0] w (CErrPost (C.chk k []) w) from ncheck_any k none 0 [] w (Nat.zero_le _) (by simp) (Cls.nil _ _ _))
  have hlen := hr.len
  have hcap := hr.cap
  have hlt9 := Tb.chk_nil_lt k
  unfold maxLen at hcap
  unfold Tb.colE
  by_cases h0 : C.chk k [] ≠ 0
  · rw [if_pos h0]
    generalize C.chk k [] = er at *
    have g1 : ((er : Int) != 0) = true := by rw [bne_iff_ne]; omega
    clear hr
    go_enter Try.func62, Try.ntmps62
    go_wp2_with fail
    refine (H0.out).mono ?_
    rintro e w1 ⟨rfl, hb1⟩
    go_wp2_with fail
    go_ret
    exact ⟨rfl, hb1⟩
  rw [if_neg h0]
  rw [show C.chk k [] = 0 by omega] at H0
  by_cases h1 : 128 < l.length
  · rw [if_pos h1]
    have g1 : decide ((128 : Int) < (l.length : Int)) = true := decide_eq_true (by omega)
    clear hr
    go_enter Try.func62, Try.ntmps62
    go_wp2_with fail
    refine (H0.out).mono ?_
    rintro e w1 ⟨rfl, hb1⟩
    go_wp2_with fail
    go_ret
    exact ⟨rfl, hb1⟩
  rw [if_neg h1]
  have g2 : decide ((128 : Int) < (l.length : Int)) = false := decide_eq_false (by omega)
  have HR := Lib.hid hr
  have HHIT := Lib.hid (fun j (h : Tb.NoneYet (fun i => C.chk k [l.getD i C.null]) j) (hj : j < l.length) h0 => h.hit hj h0)
  have HALL := Lib.hid (fun (h : Tb.NoneYet (fun i => C.chk k [l.getD i C.null]) l.length) => h.all)
  have HLT := Lib.hid (fun i => Tb.chk_lt9 k (l.getD i C.null))
  generalize Tb.firstE (fun i => C.chk k [l.getD i C.null]) l.length 0 = R at *
  clear hr h0 hlt9
  go_enter Try.func62, Try.ntmps62
  go_wp2_with fail
  refine (H0.out).mono ?_
  rintro e w1 ⟨rfl, hb1⟩
  go_wp2_with fail
  go_loopw [6, 7, 18] (fun _ _ i wr => ∃ j : Nat, j ≤ l.length ∧ i = .int .i64 j ∧ Below w.heap.size w wr ∧ Hid (Tb.NoneYet (fun i => C.chk k [l.getD i C.null]) j)) (fun _ _ i _ => l.length - (intOf i).toNat)
  case atStart => exact ⟨0, by omega, rfl, hb1, Lib.hid (Tb.NoneYet.zero _)⟩
  case round =>
    obtain ⟨j, hj, rfl, hbw, HJ⟩ := hrel
    by_cases hlt : j < l.length
    · obtain ⟨bb, off, rfl, hbb, hcc⟩ := HR.out.cls (fun e => by rw [e] at hlt; simp at hlt)
      have hone := (HR.out.next hbw).one hlt
      have hcall := ncheck_any k _ (c - j) [l.getD j C.null] wr hone.max hone.ok hone.cls
      have hh := HHIT.out j HJ.out hlt
      have hn := fun h => Lib.hid (HJ.out.succ (f := fun i => C.chk k [l.getD i C.null]) (j := j) h)
      have hl9 := HLT.out j
      generalize C.chk k [l.getD j C.null] = er at *
      have HCX := Lib.hid (show Calls Try.prog 44 #[.int .i64 k, .slice (some ⟨bb, off + j * 3, none⟩) 1 (c - j)] wr (CErrPost er wr) from hcall)
      have hjI : (j : Int) < (l.length : Int) := by omega
      have q1 : (if c = j then (some ⟨bb, off, none⟩ : Option Addr) else some ⟨bb, off + j * 3, none⟩) = some ⟨bb, off + j * 3, none⟩ := if_neg (by omega)
      clear hcc hcall hone
      by_cases ho : er ≠ 0
      · have HF := Lib.hid (hh ho)
        have g3 : ((er : Int) != 0) = true := by rw [bne_iff_ne]; omega
        clear hh hn
        go_wp2_with fail
        refine (HCX.out).mono ?_
        rintro e w2 ⟨rfl, hb2⟩
        go_wp2_with fail
        go_ret
        exact ⟨by rw [HF.out]; rfl, below_then hbw hb2⟩
      · obtain rfl : er = 0 := by omega
        have HN := hn rfl
        clear hh hn
        go_wp2_with fail
        refine (HCX.out).mono ?_
        rintro e w2 ⟨rfl, hb2⟩
        go_wp2_with fail
        exact ⟨⟨j + 1, by omega, by go_num, below_then hbw hb2, HN⟩, by simp [intOf]; omega⟩
    · obtain rfl : j = l.length := by omega
      have HF := Lib.hid (HALL.out HJ.out)
      go_wp2_with fail
      go_ret
      exact ⟨by rw [HF.out]; rfl, hbw⟩
end Go.Proofs.Ytnjnalehfhfefaa
/- The walks of table.Check, rows, Rows. -/
namespace Go.Proofs.Ytnjnalehfhfefaa
open Go.RowKit
set_option linter.unusedVariables false

theorem checkAt_fresh {t : Tb.T} {i : Nat} (h : Tb.fresh (t.cols.take i) (t.cols.getD i Tb.nulC) ≠ 0) : Tb.checkAt t i = Tb.fresh (t.cols.take i) (t.cols.getD i Tb.nulC) := by unfold Tb.checkAt; rw [if_pos h]
theorem checkAt_col {t : Tb.T} {i : Nat} (h : Tb.fresh (t.cols.take i) (t.cols.getD i Tb.nulC) = 0) (h2 : Tb.colE (t.cols.getD i Tb.nulC).kind (t.data.getD i []) ≠ 0) : Tb.checkAt t i = Tb.colE (t.cols.getD i Tb.nulC).kind (t.data.getD i []) := by
  unfold Tb.checkAt; rw [if_neg (by omega), if_pos h2]
theorem checkAt_len {t : Tb.T} {i : Nat} (h : Tb.fresh (t.cols.take i) (t.cols.getD i Tb.nulC) = 0) (h2 : Tb.colE (t.cols.getD i Tb.nulC).kind (t.data.getD i []) = 0) : Tb.checkAt t i = if (t.data.getD i []).length ≠ (t.data.getD 0 []).length then 1 else 0 := by
  unfold Tb.checkAt; rw [if_neg (by omega), if_neg (by omega)]
theorem take_gls {w : World} {b off : Nat} {cc : Nat} {l : List Tb.Col} {B : Nat} (h : Gls w B (some ⟨b, off, none⟩) l) (j : Nat) : Gls w B (some ⟨b, off, none⟩) (l.take j) := Sl.take h j

set_option maxHeartbeats 2000000 in
set_option maxRecDepth 100000 in
theorem tcheck_any (ca : Option Addr) (cc : Nat) (da : Option Addr) (dc : Nat) (t : Tb.T) (w : World) (ht : Tbl w w.heap.size ca cc da dc t) :
    Calls Try.prog 22 #[tag ca t.cols.length cc da t.data.length dc] w (CErrPost (Tb.check t) w) := by
  have hal : Below w.heap.size w (w.alloc (.cells #[.slice ca t.cols.length cc, .slice da t.data.length dc] 25)) := (Below.refl _ _).alloc (Nat.le_refl _) _
  have hT : Two (w.alloc (.cells #[.slice ca t.cols.length cc, .slice da t.data.length dc] 25)) w.heap.size 25 (.slice ca t.cols.length cc) (.slice da t.data.length dc) := two_new _ _ _ _
  have hcl := ht.ccap
  have hdl := ht.dcap
  have hcl1 := hcl.1
  have hcl2 := hcl.2.1
  have hdl1 := hdl.1
  have hdl2 := hdl.2.1
  unfold maxLen at hcl2 hdl2
  have d0 := hT.c0
  have d1 := hT.c1
  have hwz : w.heap.size < (w.alloc (.cells #[.slice ca t.cols.length cc, .slice da t.data.length dc] 25)).heap.size := hT.lt
  have HT := Lib.hid (ht.next hal)
  have HT0 := Lib.hid ht
  have HTW := Lib.hid hT
  unfold Tb.check
  by_cases h1 : 6 < t.cols.length
  · rw [if_pos h1]
    have g1 : decide ((6 : Int) < (t.cols.length : Int)) = true := decide_eq_true (by omega)
    clear ht hT
    go_enter Try.func22, Try.ntmps22
    go_wp2_with fail
    go_ret
    exact ⟨rfl, hal⟩
  rw [if_neg h1]
  have g1 : decide ((6 : Int) < (t.cols.length : Int)) = false := decide_eq_false (by omega)
  by_cases h2 : t.data.length ≠ t.cols.length
  · rw [if_pos h2]
    have g2 : ((t.data.length : Int) != (t.cols.length : Int)) = true := by rw [bne_iff_ne]; omega
    clear ht hT
    go_enter Try.func22, Try.ntmps22
    go_wp2_with fail
    go_ret
    exact ⟨rfl, hal⟩
  rw [if_neg h2]
  have g2 : ((t.data.length : Int) != (t.cols.length : Int)) = false := by rw [bne_eq_false_iff_eq]; omega
  have HHIT := Lib.hid (fun j (h : Tb.NoneYet (Tb.checkAt t) j) (hj : j < t.cols.length) h0 => h.hit hj h0)
  have HALL := Lib.hid (fun (h : Tb.NoneYet (Tb.checkAt t) t.cols.length) => h.all)
  have HL := Lib.hid (show t.data.length = t.cols.length by omega)
  have HF := Lib.hid (fun j => Tb.fresh_lt (t.cols.take j) (t.cols.getD j Tb.nulC))
  have HE := Lib.hid (fun j => Tb.colE_lt (t.cols.getD j Tb.nulC).kind (t.data.getD j []))
  have HC1 := Lib.hid (fun j h => checkAt_fresh (t := t) (i := j) h)
  have HC2 := Lib.hid (fun j h h2 => checkAt_col (t := t) (i := j) h h2)
  have HC3 := Lib.hid (fun j h h2 => checkAt_len (t := t) (i := j) h h2)
  generalize Tb.firstE (Tb.checkAt t) t.cols.length 0 = R at *
  generalize hW : w.alloc (.cells #[.slice ca t.cols.length cc, .slice da t.data.length dc] 25) = W1 at *
  have HW := Lib.hid hW
  clear hW ht hT h2
  go_enter Try.func22, Try.ntmps22
  go_wp2_with fail
  rw [HW.out]
  go_wp2_with fail
  go_loopw [3, 4, 5, 6, 21] (fun _ _ _ _ i wr => ∃ j : Nat, j ≤ t.cols.length ∧ i = .int .i64 j ∧ Below W1.heap.size W1 wr ∧ Hid (Tb.NoneYet (Tb.checkAt t) j)) (fun _ _ _ _ i _ => t.cols.length - (intOf i).toNat)
  case atStart => exact ⟨0, by omega, rfl, Below.refl _ _, Lib.hid (Tb.NoneYet.zero _)⟩
  case round =>
    obtain ⟨j, hj, rfl, hbw, HJ⟩ := hrel
    have hbw0 := below_then hal hbw
    by_cases hlt : j < t.cols.length
    · obtain ⟨bb, off, rfl, hbb, hcc⟩ := HT.out.gls (fun e => by rw [e] at hlt; simp at hlt)
      have hltd : j < t.data.length := by rw [HL.out]; exact hlt
      obtain ⟨db, doff, rfl, hdb, hdd⟩ := HT.out.dat (fun e => by rw [e] at hltd; simp at hltd)
      obtain ⟨ai, ci, r0, hrow⟩ := hdd j hltd
      obtain ⟨a0, c0', s0, hrow0⟩ := hdd 0 (by omega)
      obtain ⟨k0, k1⟩ := hcc j hlt
      have hg := HT.out.gOk (t.cols.getD j Tb.nulC) (by simp only [List.getD, List.getElem?_eq_getElem hlt, Option.getD_some]; exact List.getElem_mem hlt)
      have e0 := (hbw.cell (p := ⟨bb, off + j * 2, none⟩) hbb).trans k0
      have e1 := (hbw.cell (p := ⟨bb, off + j * 2 + 1, none⟩) hbb).trans k1
      have hTr := HTW.out.next hbw
      have t0 := hTr.c0
      have t1 := hTr.c1
      have HG := Lib.hid (fun W (hb : Below W1.heap.size W1 W) => show Calls Try.prog 43 #[.slice (some ⟨bb, off, none⟩) j cc, gag (t.cols.getD j Tb.nulC)] W (CErrPost (Tb.fresh (t.cols.take j) (t.cols.getD j Tb.nulC)) W) by
        have := fresh_any (some ⟨bb, off, none⟩) cc (t.cols.take j) (t.cols.getD j Tb.nulC) W (by rw [List.length_take]; unfold maxLen; omega) ((HT.out.gls.take j).next at2_firm hb) hg
        rwa [List.length_take, Nat.min_eq_left (by omega)] at this)
      have HCC := Lib.hid (fun W (hb : Below W1.heap.size W1 W) => colcheck_any (t.cols.getD j Tb.nulC).kind ai ci (t.data.getD j []) W (hrow.next hb))
      have hl1 := HF.out j
      have hl2 := HE.out j
      have hc1 := HC1.out j
      have hc2 := HC2.out j
      have hc3 := HC3.out j
      have hh := HHIT.out j HJ.out hlt
      have hn := fun h => Lib.hid (HJ.out.succ (f := Tb.checkAt t) (j := j) h)
      have hrm := hrow.max
      have hrm0 := hrow0.max
      unfold maxLen at hrm hrm0
      generalize Tb.checkAt t j = X at *
      generalize Tb.fresh (t.cols.take j) (t.cols.getD j Tb.nulC) = er1 at *
      generalize Tb.colE (t.cols.getD j Tb.nulC).kind (t.data.getD j []) = er2 at *
      unfold gag at HG
      generalize (t.cols.getD j Tb.nulC).kind = kd at *
      generalize str (t.cols.getD j Tb.nulC).name = nm at *
      generalize (t.data.getD j []).length = n1 at *
      generalize (t.data.getD 0 []).length = n0 at *
      have hjI : (j : Int) < (t.cols.length : Int) := by omega
      have hjD : (j : Int) < (t.data.length : Int) := by omega
      have h0D : 0 < t.data.length := by omega
      have hjc : j ≤ cc := by omega
      have ha0 : Below W1.heap.size W1 (wr.alloc (.cells #[.string nm, .int .i64 kd] 27)) := hbw.alloc hbw.size _
      have hT2 := two_new wr 27 (.string nm) (.int .i64 kd)
      generalize hW2 : wr.alloc (.cells #[.string nm, .int .i64 kd] 27) = W2 at *
      have HW2 := Lib.hid hW2
      have hTw := HTW.out.next ha0
      have rr0 := (ha0.cell (p := ⟨db, doff + j, none⟩) hdb).trans r0
      have ss0 := (ha0.cell (p := ⟨db, doff + 0, none⟩) hdb).trans s0
      have hdb2 : db < W2.heap.size := Nat.lt_of_lt_of_le hdb ha0.size
      have p0 := fun p : WB W2 => p.cell hTw.lt hTw.c0
      have p1 := fun p : WB W2 => p.cell hTw.lt hTw.c1
      have p2 := fun p : WB W2 => p.cell hT2.lt hT2.c0
      have p3 := fun p : WB W2 => p.cell hT2.lt hT2.c1
      have p4 := fun p : WB W2 => p.cell hdb2 rr0
      have p5 := fun p : WB W2 => p.cell hdb2 ss0
      rw [Nat.add_zero] at p5
      have HTw := Lib.hid hTw
      have HT2 := Lib.hid hT2
      clear k0 k1 r0 s0 t0 t1 hTr d0 d1 hcc hdd hg hW2 hrow hrow0 rr0 ss0 hTw hT2 HT0 HF HE HC1 HC2 HC3
      by_cases ho1 : er1 ≠ 0
      · have hX := hc1 ho1
        have HF := Lib.hid ((hh (by omega)).trans hX)
        have g3 : ((er1 : Int) != 0) = true := by rw [bne_iff_ne]; omega
        clear hh hn hc1 hc2 hc3 hX
        go_wp2_with fail
        rw [HW2.out]
        refine wp_region_wb (by kernel_rfl) (by kernel_rfl) ?_
        repeat (quiet_step ((go_at_call 43; refine calls_wb (v := .int .i64 (er1 : Int)) ?_; exact (HG.out _ (below_then ha0 (WB.below _))))))
        refine wpQuiet_nil ?_
        rintro _ ⟨p, rfl⟩
        have hp := p.below
        clear p0 p1 p2 p3 p4 p5
        go_wp2_with fail
        go_ret
        exact ⟨by rw [HF.out]; rfl, below_then (below_then hal ha0) hp⟩
      obtain rfl : er1 = 0 := by omega
      by_cases ho2 : er2 ≠ 0
      · have hX := hc2 rfl ho2
        have HF := Lib.hid ((hh (by omega)).trans hX)
        have g3 : ((er2 : Int) != 0) = true := by rw [bne_iff_ne]; omega
        clear hh hn hc1 hc2 hc3 hX
        go_wp2_with fail
        rw [HW2.out]
        refine wp_region_wb (by kernel_rfl) (by kernel_rfl) ?_
        repeat (quiet_step ((go_at_call 43; refine calls_wb (v := .int .i64 0) ?_; exact (HG.out _ (below_then ha0 (WB.below _))))))
        refine wpQuiet_nil ?_
        rintro _ ⟨p, rfl⟩
        have hp := p.below
        have q1 := fun q : WB p.w => q.cell (HTw.out.next hp).lt (HTw.out.next hp).c1
        have q3 := fun q : WB p.w => q.cell (HT2.out.next hp).lt (HT2.out.next hp).c1
        have q4 := fun q : WB p.w => q.cell (Nat.lt_of_lt_of_le hdb2 hp.size) (p4 p)
        clear p0 p1 p2 p3 p4 p5
        generalize p.w = W3 at *
        go_wp2_with fail
        refine wp_region_wb (by kernel_rfl) (by kernel_rfl) ?_
        repeat (quiet_step ((go_at_call 62; refine calls_wb (v := .int .i64 (er2 : Int)) ?_; exact (HCC.out _ (below_then (below_then ha0 hp) (WB.below _))))))
        refine wpQuiet_nil ?_
        rintro _ ⟨p, rfl⟩
        have hp2 := p.below
        clear q1 q3 q4
        go_wp2_with fail
        go_ret
        exact ⟨by rw [HF.out]; rfl, below_then (below_then (below_then hal ha0) hp) hp2⟩
      obtain rfl : er2 = 0 := by omega
      have hc3 := hc3 rfl rfl
      by_cases ho3 : n1 ≠ n0
      · rw [if_pos ho3] at hc3
        have HF := Lib.hid ((hh (by omega)).trans hc3)
        have g3 : ((n1 : Int) != (n0 : Int)) = true := by rw [bne_iff_ne]; omega
        clear hh hn hc1 hc2 hc3
        go_wp2_with fail
        rw [HW2.out]
        refine wp_region_wb (by kernel_rfl) (by kernel_rfl) ?_
        repeat (quiet_step ((go_at_call 43; refine calls_wb (v := .int .i64 0) ?_; exact (HG.out _ (below_then ha0 (WB.below _))))))
        refine wpQuiet_nil ?_
        rintro _ ⟨p, rfl⟩
        have hp := p.below
        have q1 := fun q : WB p.w => q.cell (HTw.out.next hp).lt (HTw.out.next hp).c1
        have q3 := fun q : WB p.w => q.cell (HT2.out.next hp).lt (HT2.out.next hp).c1
        have q4 := fun q : WB p.w => q.cell (Nat.lt_of_lt_of_le hdb2 hp.size) (p4 p)
        have q5 := Lib.hid (p5 p)
        have q6 := Lib.hid (p4 p)
        have q7 := Lib.hid (HTw.out.next hp)
        clear p0 p1 p2 p3 p4 p5
        have hdb3 := Nat.lt_of_lt_of_le hdb2 hp.size
        generalize p.w = W3 at *
        go_wp2_with fail
        refine wp_region_wb (by kernel_rfl) (by kernel_rfl) ?_
        repeat (quiet_step ((go_at_call 62; refine calls_wb (v := .int .i64 0) ?_; exact (HCC.out _ (below_then (below_then ha0 hp) (WB.below _))))))
        refine wpQuiet_nil ?_
        rintro _ ⟨p, rfl⟩
        have hp2 := p.below
        clear q1 q3 q4
        have z1 := fun q : WB p.w => q.cell (q7.out.next hp2).lt (q7.out.next hp2).c1
        have z4 := fun q : WB p.w => q.cell (Nat.lt_of_lt_of_le hdb3 hp2.size) (p.cell hdb3 q6.out)
        have z5 := fun q : WB p.w => q.cell (Nat.lt_of_lt_of_le hdb3 hp2.size) (p.cell hdb3 q5.out)
        generalize p.w = W4 at *
        go_wp2_with fail
        refine wp_region_wb (by kernel_rfl) (by kernel_rfl) ?_
        repeat (quiet_step (fail))
        refine wpQuiet_nil ?_
        rintro _ ⟨p, rfl⟩
        have hp3 := p.below
        clear z1 z4 z5
        go_wp2_with fail
        go_ret
        exact ⟨by rw [HF.out]; rfl, below_then (below_then (below_then (below_then hal ha0) hp) hp2) hp3⟩
      · rw [if_neg ho3] at hc3
        have HNX := hn hc3
        have g3 : ((n1 : Int) != (n0 : Int)) = false := by rw [bne_eq_false_iff_eq]; omega
        clear hh hn hc1 hc2 hc3
        go_wp2_with fail
        rw [HW2.out]
        refine wp_region_wb (by kernel_rfl) (by kernel_rfl) ?_
        repeat (quiet_step ((go_at_call 43; refine calls_wb (v := .int .i64 0) ?_; exact (HG.out _ (below_then ha0 (WB.below _))))))
        refine wpQuiet_nil ?_
        rintro _ ⟨p, rfl⟩
        have hp := p.below
        have q1 := fun q : WB p.w => q.cell (HTw.out.next hp).lt (HTw.out.next hp).c1
        have q3 := fun q : WB p.w => q.cell (HT2.out.next hp).lt (HT2.out.next hp).c1
        have q4 := fun q : WB p.w => q.cell (Nat.lt_of_lt_of_le hdb2 hp.size) (p4 p)
        have q5 := Lib.hid (p5 p)
        have q6 := Lib.hid (p4 p)
        have q7 := Lib.hid (HTw.out.next hp)
        clear p0 p1 p2 p3 p4 p5
        have hdb3 := Nat.lt_of_lt_of_le hdb2 hp.size
        generalize p.w = W3 at *
        go_wp2_with fail
        refine wp_region_wb (by kernel_rfl) (by kernel_rfl) ?_
        repeat (quiet_step ((go_at_call 62; refine calls_wb (v := .int .i64 0) ?_; exact (HCC.out _ (below_then (below_then ha0 hp) (WB.below _))))))
        refine wpQuiet_nil ?_
        rintro _ ⟨p, rfl⟩
        have hp2 := p.below
        clear q1 q3 q4
        have z1 := fun q : WB p.w => q.cell (q7.out.next hp2).lt (q7.out.next hp2).c1
        have z4 := fun q : WB p.w => q.cell (Nat.lt_of_lt_of_le hdb3 hp2.size) (p.cell hdb3 q6.out)
        have z5 := fun q : WB p.w => q.cell (Nat.lt_of_lt_of_le hdb3 hp2.size) (p.cell hdb3 q5.out)
        generalize p.w = W4 at *
        go_wp2_with fail
        refine wp_region_wb (by kernel_rfl) (by kernel_rfl) ?_
        repeat (quiet_step (fail))
        refine wpQuiet_nil ?_
        rintro _ ⟨p, rfl⟩
        have hp3 := p.below
        clear z1 z4 z5
        go_wp2_with fail
        exact ⟨⟨j + 1, by omega, by go_num, below_then (below_then (below_then ha0 hp) hp2) hp3, HNX⟩, by simp [intOf]; omega⟩
    · obtain rfl : j = t.cols.length := by omega
      have HF := Lib.hid (HALL.out HJ.out)
      go_wp2_with fail
      go_ret
      exact ⟨by rw [HF.out]; rfl, hbw0⟩
end Go.Proofs.Ytnjnalehfhfefaa
/- The walks of table.rows, row, Rows, Row; slices.Clone of columns, of cells. -/
namespace Go.Proofs.Ytnjnalehfhfefaa
open Go.RowKit
set_option linter.unusedVariables false

set_option maxHeartbeats 1000000 in
set_option maxRecDepth 100000 in
theorem trows_any (ca : Option Addr) (cc : Nat) (da : Option Addr) (dc : Nat) (t : Tb.T) (w : World) (ht : Tbl w w.heap.size ca cc da dc t) :
    Calls Try.prog 39 #[tag ca t.cols.length cc da t.data.length dc] w (IntPost (Tb.rows t : Nat) w) := by
  have hal : Below w.heap.size w (w.alloc (.cells #[.slice ca t.cols.length cc, .slice da t.data.length dc] 25)) := (Below.refl _ _).alloc (Nat.le_refl _) _
  have hT : Two (w.alloc (.cells #[.slice ca t.cols.length cc, .slice da t.data.length dc] 25)) w.heap.size 25 (.slice ca t.cols.length cc) (.slice da t.data.length dc) := two_new _ _ _ _
  have d0 := hT.c0
  have d1 := hT.c1
  have hd := (ht.next hal).dat
  have hdl := ht.dcap
  have hdl1 := hdl.1
  have hdl2 := hdl.2.1
  unfold maxLen at hdl2
  unfold Tb.rows
  by_cases h0 : t.data.length = 0
  · have g1 : ((t.data.length : Int) == 0) = true := by rw [beq_iff_eq]; omega
    have hr : (t.data.getD 0 []).length = 0 := by rw [List.eq_nil_of_length_eq_zero h0]; rfl
    rw [hr]
    clear ht hT hr h0 hd
    go_enter Try.func39, Try.ntmps39
    go_wp2_with fail
    go_ret
    exact ⟨rfl, hal⟩
  · have g1 : ((t.data.length : Int) == 0) = false := by rw [beq_eq_false_iff_ne]; omega
    obtain ⟨db, doff, rfl, hdb, hdd⟩ := hd (fun e => by rw [e] at h0; simp at h0)
    obtain ⟨a0, c0', s0, hrow0⟩ := hdd 0 (by omega)
    have hpos : 0 < t.data.length := by omega
    have hrm0 := hrow0.max
    unfold maxLen at hrm0
    rw [Nat.add_zero] at s0
    generalize (t.data.getD 0 []).length = n0 at *
    clear ht hT hdd hrow0
    go_enter Try.func39, Try.ntmps39
    go_wp2_with fail
    go_ret
    exact ⟨rfl, hal⟩

set_option maxHeartbeats 1000000 in
set_option maxRecDepth 100000 in
theorem trow_any (ca : Option Addr) (cc : Nat) (da : Option Addr) (dc : Nat) (t : Tb.T) (k : Nat) (w : World) (ht : Tbl w w.heap.size ca cc da dc t) (h6 : t.data.length ≤ 1048576) (hk : ∀ i, i < t.data.length → k < (t.data.getD i []).length) :
    Calls Try.prog 40 #[tag ca t.cols.length cc da t.data.length dc, .int .i64 k] w (CellsRowPost (Tb.rowAt t k) w) := by
  have hal : Below w.heap.size w (w.alloc (.cells #[.slice ca t.cols.length cc, .slice da t.data.length dc] 25)) := (Below.refl _ _).alloc (Nat.le_refl _) _
  have hT : Two (w.alloc (.cells #[.slice ca t.cols.length cc, .slice da t.data.length dc] 25)) w.heap.size 25 (.slice ca t.cols.length cc) (.slice da t.data.length dc) := two_new _ _ _ _
  have d0 := hT.c0
  have d1 := hT.c1
  have HD := Lib.hid (ht.next hal).dat
  have HK := Lib.hid hk
  have hst : ∀ j, j < t.data.length → (Tb.rowAt t k).take (j + 1) = (Tb.rowAt t k).take j ++ [(t.data.getD j []).getD k C.null] := fun j hj => by
    rw [ctake_succ _ j (by unfold Tb.rowAt; simpa using hj)]
    unfold Tb.rowAt
    simp [List.getD, List.getElem?_eq_getElem hj]
  have HST := Lib.hid hst
  have HE := Lib.hid (show (Tb.rowAt t k).take t.data.length = Tb.rowAt t k from List.take_of_length_le (by unfold Tb.rowAt; simp))
  have HL := Lib.hid (fun j (hj : j ≤ t.data.length) => show ((Tb.rowAt t k).take j).length = j by rw [List.length_take]; unfold Tb.rowAt; simp; omega)
  generalize Tb.rowAt t k = R at *
  generalize hW : w.alloc (.cells #[.slice ca t.cols.length cc, .slice da t.data.length dc] 25) = W1 at *
  have HW := Lib.hid hW
  clear hW ht hT hst hk
  go_enter Try.func40, Try.ntmps40
  go_wp2_with fail
  rw [HW.out]
  go_wp2_with fail
  go_loopw [5, 7, 11] (fun v _ i wr => ∃ j : Nat, j ≤ t.data.length ∧ i = .int .i64 j ∧ CRow W1.heap.size (R.take j) v wr ∧ Below W1.heap.size W1 wr) (fun _ _ i _ => t.data.length - (intOf i).toNat)
  case atStart => exact ⟨0, by omega, rfl, cnilRow _ _, Below.refl _ _⟩
  case round =>
    obtain ⟨j, hj, rfl, hrow, hbw1⟩ := hrel
    by_cases hlt : j < t.data.length
    · obtain ⟨db, doff, rfl, hdb, hdd⟩ := HD.out (fun e => by rw [e] at hlt; simp at hlt)
      obtain ⟨ai, ci, r0, hri⟩ := hdd j hlt
      have hkj := HK.out j hlt
      have hst := HST.out j hlt
      have HLJ := Lib.hid (HL.out j hj)
      obtain ⟨b, off, rfl, hb, hcell⟩ := hri.cls (fun e => by rw [e] at hkj; simp at hkj)
      obtain ⟨k0, k1, k2⟩ := hcell k hkj
      have hr0 := (hbw1.cell (p := ⟨db, doff + j, none⟩) hdb).trans r0
      have e0 := (hbw1.cell (p := ⟨b, off + k * 3, none⟩) hb).trans k0
      have e1 := (hbw1.cell (p := ⟨b, off + k * 3 + 1, none⟩) hb).trans k1
      have e2 := (hbw1.cell (p := ⟨b, off + k * 3 + 2, none⟩) hb).trans k2
      generalize (t.data.getD j []).getD k C.null = x at *
      obtain ⟨z, n, x⟩ := x
      generalize hn1 : (t.data.getD j []).length = n1 at *
      simp only at e0 e1 e2
      generalize hX : str x = X at *
      have hjI : (j : Int) < (t.data.length : Int) := by omega
      have hkI : (k : Int) < (n1 : Int) := by omega
      have HROW := Lib.hid hrow
      have HSX := Lib.hid hst
      have hlb : ((R.take j).length + 1) * 32 ≤ 140737488355328 := by rw [HLJ.out]; omega
      have hb5 : W1.heap.size ≤ (wr.alloc (.cells #[.int .i64 z, .int .u64 (n : Int), .string X] 30)).heap.size := by have := hbw1.size; simp; omega
      clear hrow hst k0 k1 k2 r0 hcell hdd hri hn1
      go_wp2_with (at_builtin; refine wpList_append_onec rfl (.tmp 15) (.tmp 20) rfl W1.heap.size _ (R.take j) rfl (HROW.out.alloc_ _) wr.heap.size ⟨z, n, x⟩ rfl (World.cell?_alloc_new _ _ _ _) (World.cell?_alloc_new _ _ _ _) (by rw [hX]; exact World.cell?_alloc_new _ _ _ _) hlb hb5 ?_)
      intro v' w5 hown5 hb5w hg5
      have hbw5 : Below W1.heap.size W1 w5 := (hbw1.alloc hbw1.size _).trans hb5w
      clear hb5w hg5
      go_wp2_with fail
      exact ⟨⟨j + 1, by omega, by go_num, by rw [HSX.out]; exact hown5, hbw5⟩, by simp [intOf]; omega⟩
    · obtain rfl : j = t.data.length := by omega
      rw [HE.out] at hrow
      have hrow := hrow.weak hal.size
      go_wp2_with fail
      go_ret
      exact ⟨_, rfl, hrow, below_then hal hbw1⟩

theorem rows_ok {t : Tb.T} (h : Tb.check t = 0) : t.data.length ≤ 6 ∧ ∀ i, i < t.data.length → (t.data.getD i []).length = Tb.rows t := by
  have h := Tb.check_ok h
  exact ⟨by have := h.len; have := h.six; omega, fun i hi => h.rows i (by have := h.len; omega)⟩
def IntEPost (r : Nat × Nat) (w : World) (e : Ending) (w' : World) : Prop := e = .returned (.tuple #[.int .i64 (r.1 : Nat), .int .i64 (r.2 : Nat)]) ∧ Below w.heap.size w w'
set_option maxHeartbeats 1000000 in
set_option maxRecDepth 100000 in
theorem tRows_any (ca : Option Addr) (cc : Nat) (da : Option Addr) (dc : Nat) (t : Tb.T) (w : World) (ht : Tbl w w.heap.size ca cc da dc t) :
    Calls Try.prog 10 #[tag ca t.cols.length cc da t.data.length dc] w (IntEPost (Tb.rowsR t) w) := by
  have hal : Below w.heap.size w (w.alloc (.cells #[.slice ca t.cols.length cc, .slice da t.data.length dc] 25)) := (Below.refl _ _).alloc (Nat.le_refl _) _
  have hT : Two (w.alloc (.cells #[.slice ca t.cols.length cc, .slice da t.data.length dc] 25)) w.heap.size 25 (.slice ca t.cols.length cc) (.slice da t.data.length dc) := two_new _ _ _ _
  have d0 := hT.c0
  have d1 := hT.c1
  have HT := Lib.hid hT
  have H1 := Lib.hid (fun W (hb : Below w.heap.size w W) => tcheck_any ca cc da dc t W (ht.next hb))
  have H2 := Lib.hid (fun W (hb : Below w.heap.size w W) => trows_any ca cc da dc t W (ht.next hb))
  have h9 := Tb.check_lt t
  unfold Tb.rowsR
  generalize hW : w.alloc (.cells #[.slice ca t.cols.length cc, .slice da t.data.length dc] 25) = W1 at *
  have HW := Lib.hid hW
  clear hW ht hT
  generalize Tb.check t = er at *
  generalize Tb.rows t = n at *
  by_cases h0 : er ≠ 0
  · rw [if_pos h0]
    have g1 : ((er : Int) != 0) = true := by rw [bne_iff_ne]; omega
    go_enter Try.func10, Try.ntmps10
    go_wp2_with fail
    rw [HW.out]
    go_wp2_with fail
    refine (H1.out _ hal).mono ?_
    rintro e w1 ⟨rfl, hb1⟩
    go_wp2_with fail
    go_ret2
    exact ⟨rfl, below_then hal hb1⟩
  · rw [if_neg h0]
    obtain rfl : er = 0 := by omega
    go_enter Try.func10, Try.ntmps10
    go_wp2_with fail
    rw [HW.out]
    go_wp2_with fail
    refine (H1.out _ hal).mono ?_
    rintro e w1 ⟨rfl, hb1⟩
    have z0 := (HT.out.next hb1).c0
    have z1 := (HT.out.next hb1).c1
    have hb1 := below_then hal hb1
    go_wp2_with fail
    refine (H2.out _ hb1).mono ?_
    rintro e w2 ⟨rfl, hb2⟩
    go_wp2_with fail
    go_ret2
    exact ⟨rfl, below_then hb1 hb2⟩

set_option maxHeartbeats 1000000 in
set_option maxRecDepth 100000 in
theorem tRow_any (ca : Option Addr) (cc : Nat) (da : Option Addr) (dc : Nat) (t : Tb.T) (i : Int) (w : World) (ht : Tbl w w.heap.size ca cc da dc t) :
    Calls Try.prog 11 #[tag ca t.cols.length cc da t.data.length dc, .int .i64 i] w (CellsPost (Tb.rowR t i) w) := by
  have hal : Below w.heap.size w (w.alloc (.cells #[.slice ca t.cols.length cc, .slice da t.data.length dc] 25)) := (Below.refl _ _).alloc (Nat.le_refl _) _
  have hT : Two (w.alloc (.cells #[.slice ca t.cols.length cc, .slice da t.data.length dc] 25)) w.heap.size 25 (.slice ca t.cols.length cc) (.slice da t.data.length dc) := two_new _ _ _ _
  have d0 := hT.c0
  have d1 := hT.c1
  have HT := Lib.hid hT
  have H1 := Lib.hid (fun W (hb : Below w.heap.size w W) => tcheck_any ca cc da dc t W (ht.next hb))
  have H2 := Lib.hid (fun W (hb : Below w.heap.size w W) => trows_any ca cc da dc t W (ht.next hb))
  have H3 := Lib.hid (fun (h : Tb.check t = 0) (k : Nat) (hk : k < Tb.rows t) W (hb : Below w.heap.size w W) => trow_any ca cc da dc t k W (ht.next hb) (by have := (rows_ok h).1; omega) (fun i hi => by rw [(rows_ok h).2 i hi]; exact hk))
  have h9 := Tb.check_lt t
  unfold Tb.rowR
  generalize hW : w.alloc (.cells #[.slice ca t.cols.length cc, .slice da t.data.length dc] 25) = W1 at *
  have HW := Lib.hid hW
  clear hW ht hT
  by_cases h0 : Tb.check t ≠ 0
  · rw [if_pos h0]
    generalize Tb.check t = er at *
    have g1 : ((er : Int) != 0) = true := by rw [bne_iff_ne]; omega
    go_enter Try.func11, Try.ntmps11
    go_wp2_with fail
    rw [HW.out]
    go_wp2_with fail
    refine (H1.out _ hal).mono ?_
    rintro e w1 ⟨rfl, hb1⟩
    go_wp2_with fail
    go_ret2
    exact CellsPost.none er (below_then hal hb1)
  rw [if_neg h0]
  have h0 : Tb.check t = 0 := by omega
  have H3 := Lib.hid (H3.out h0)
  rw [h0] at H1
  clear h0 h9
  generalize Tb.rows t = n at *
  by_cases hi : i < 0
  · rw [if_pos (Or.inl hi)]
    have g2 : decide (i < 0) = true := decide_eq_true hi
    go_enter Try.func11, Try.ntmps11
    go_wp2_with fail
    rw [HW.out]
    go_wp2_with fail
    refine (H1.out _ hal).mono ?_
    rintro e w1 ⟨rfl, hb1⟩
    go_wp2_with fail
    go_ret2
    exact CellsPost.none 3 (below_then hal hb1)
  have g2 : decide (i < 0) = false := decide_eq_false hi
  obtain ⟨k, rfl⟩ : ∃ k : Nat, i = k := ⟨i.toNat, by omega⟩
  by_cases hn : n ≤ k
  · rw [if_pos (Or.inr (by omega))]
    have g3 : decide ((n : Int) ≤ (k : Int)) = true := decide_eq_true (by omega)
    have g4 : decide (n ≤ k) = true := decide_eq_true (by omega)
    go_enter Try.func11, Try.ntmps11
    go_wp2_with fail
    rw [HW.out]
    go_wp2_with fail
    refine (H1.out _ hal).mono ?_
    rintro e w1 ⟨rfl, hb1⟩
    have z0 := (HT.out.next hb1).c0
    have z1 := (HT.out.next hb1).c1
    have hb1 := below_then hal hb1
    go_wp2_with fail
    refine (H2.out _ hb1).mono ?_
    rintro e w2 ⟨rfl, hb2⟩
    go_wp2_with fail
    go_ret2
    exact CellsPost.none 3 (below_then hb1 hb2)
  · rw [if_neg (by omega)]
    have g3 : decide ((n : Int) ≤ (k : Int)) = false := decide_eq_false (by omega)
    have g4 : decide (n ≤ k) = false := decide_eq_false (by omega)
    have H3 := Lib.hid (H3.out k (by omega))
    rw [Int.toNat_natCast]
    generalize Tb.rowAt t k = R at *
    go_enter Try.func11, Try.ntmps11
    go_wp2_with fail
    rw [HW.out]
    go_wp2_with fail
    refine (H1.out _ hal).mono ?_
    rintro e w1 ⟨rfl, hb1⟩
    have z0 := (HT.out.next hb1).c0
    have z1 := (HT.out.next hb1).c1
    have hT1 := HT.out.next hb1
    have hb1 := below_then hal hb1
    go_wp2_with fail
    refine (H2.out _ hb1).mono ?_
    rintro e w2 ⟨rfl, hb2⟩
    have y0 := (hT1.next hb2).c0
    have y1 := (hT1.next hb2).c1
    have hb2 := below_then hb1 hb2
    go_wp2_with fail
    refine (H3.out _ hb2).mono ?_
    rintro e w3 ⟨v3, rfl, hr3, hb3⟩
    obtain ⟨a3, c3, rfl, hu3, _⟩ := cRow_cls hr3
    go_wp2_with fail
    go_ret2
    exact ⟨a3, c3, rfl, hu3, below_then hb2 hb3⟩

set_option maxHeartbeats 1000000 in
set_option maxRecDepth 100000 in
theorem cloneCols_any (a : Option Addr) (c : Nat) (l : List Tb.Col) (w : World) (hm : l.length ≤ 1048576) (hnil : a = none → c = 0) (hcl : l.length ≤ c) (hu : Gls w w.heap.size a l) :
    Calls Try.prog 82 #[.slice a l.length c] w (fun e w' => ∃ v, e = .returned v ∧ GRow w.heap.size l v w' ∧ Below w.heap.size w w') := by
  have q22 : ∀ (w : World) (a : Option Addr) (n c n' c' : Nat), (binOp .eql 22 (.slice a n c) (.slice none n' c')).run Try.prog w = .ok (.bool a.isNone) w := fun w a n c n' c' => Lib.run_eql_slice_nil w _ _ a n c n' c' Try.underlying22
  match a, hnil, hu with
  | none, hnil, hu =>
    obtain rfl : c = 0 := hnil rfl
    obtain rfl : l = [] := List.eq_nil_of_length_eq_zero (by omega)
    go_enter Try.func82, Try.ntmps82
    go_wp2_with fail
    go_ret
    exact ⟨_, rfl, gnilRow _ _, Below.refl _ _⟩
  | some ad, hnil, hu =>
    have hal : Below w.heap.size w (w.alloc (.cells #[] 27)) := (Below.refl _ _).alloc (Nat.le_refl _) _
    have HU := Lib.hid (hu.next at2_firm hal)
    have HE := Lib.hid (gempty w.heap.size w (Nat.le_refl _))
    have hbase : w.heap.size ≤ (w.alloc (.cells #[] 27)).heap.size := by simp
    have hby : (([] : List Tb.Col).length + l.length) * 24 ≤ 140737488355328 := by simp; omega
    clear hu hcl
    go_enter Try.func82, Try.ntmps82
    go_wp2_with (at_builtin; refine wpList_append_gls rfl (.tmp 5) (.tmp 6) rfl w.heap.size _ [] rfl HE.out (some ad) l.length c l rfl rfl (fun h => by cases h) HU.out hby hbase ?_)
    intro v' w5 hown5 hb5 hfar hsz
    clear hfar hsz
    go_wp2_with fail
    go_ret
    exact ⟨_, rfl, hown5, hal.trans hb5⟩

set_option maxHeartbeats 1000000 in
set_option maxRecDepth 100000 in
theorem cloneCells_any (a : Option Addr) (c : Nat) (l : List C.Cl) (w : World) (hm : l.length ≤ 1048576) (hr : RowIn w w.heap.size a c l) :
    Calls Try.prog 83 #[.slice a l.length c] w (fun e w' => ∃ v, e = .returned v ∧ CRow w.heap.size l v w' ∧ Below w.heap.size w w') := by
  have hnil := hr.nil
  have hu := hr.cls
  have hcl := hr.len
  clear hr
  have q22 : ∀ (w : World) (a : Option Addr) (n c n' c' : Nat), (binOp .eql 34 (.slice a n c) (.slice none n' c')).run Try.prog w = .ok (.bool a.isNone) w := fun w a n c n' c' => Lib.run_eql_slice_nil w _ _ a n c n' c' Try.underlying34
  match a, hnil, hu with
  | none, hnil, hu =>
    obtain rfl : c = 0 := hnil rfl
    obtain rfl : l = [] := List.eq_nil_of_length_eq_zero (by omega)
    go_enter Try.func83, Try.ntmps83
    go_wp2_with fail
    go_ret
    exact ⟨_, rfl, cnilRow _ _, Below.refl _ _⟩
  | some ad, hnil, hu =>
    have hal : Below w.heap.size w (w.alloc (.cells #[] 30)) := (Below.refl _ _).alloc (Nat.le_refl _) _
    have HU := Lib.hid (hu.next hal)
    have HE := Lib.hid (cempty w.heap.size w (Nat.le_refl _))
    have hbase : w.heap.size ≤ (w.alloc (.cells #[] 30)).heap.size := by simp
    have hby : (([] : List C.Cl).length + l.length) * 32 ≤ 140737488355328 := by simp; omega
    clear hu hcl
    go_enter Try.func83, Try.ntmps83
    go_wp2_with (at_builtin; refine wpList_append_cs rfl (.tmp 5) (.tmp 6) rfl w.heap.size _ [] rfl HE.out (some ad) l.length c l rfl rfl (fun h => by cases h) HU.out hby hbase ?_)
    intro v' w5 hown5 hb5 hfar hsz
    clear hfar hsz
    go_wp2_with fail
    go_ret
    exact ⟨_, rfl, hown5, hal.trans hb5⟩
end Go.Proofs.Ytnjnalehfhfefaa
/- What the walks of table.changed want. -/
namespace Go.Proofs.Ytnjnalehfhfefaa
open Go.RowKit
set_option linter.unusedVariables false

theorem ownsRow_one {w : World} {B : Nat} {e : TypeId} {sz : Nat} {v : Value} {n : Nat} {xs : List Value} (h : w.ownsRow B e sz v n xs) : v.oneCell' = true := by
  rcases h.2 with ⟨rfl, _⟩ | ⟨g, cap, cur, rfl, _⟩ <;> rfl
theorem two_far {w w' : World} {b : Nat} {t : TypeId} {v0 v1 dv : Value} (h : Two w b t v0 v1) (hne : some b ≠ dv.ownBlock) (hf : ∀ k, k < w.heap.size → some k ≠ dv.ownBlock → w'.heap[k]? = w.heap[k]?) : Two w' b t v0 v1 := (hf b h.lt hne).trans h
theorem vrow_form {B : Nat} {vs : List Value} {v : Value} {w : World} (h : VRow B vs v w) : ∃ a c, v = .slice a vs.length c := by
  rcases h.2 with ⟨rfl, h0⟩ | ⟨g, cap, cur, rfl, _⟩
  · exact ⟨none, 0, by rw [h0]⟩
  · exact ⟨_, _, rfl⟩
theorem vrow_form1 {B : Nat} {vs : List Value} {u v : Value} {w : World} (h : VRow B (vs ++ [u]) v w) : ∃ a c, v = .slice a (vs.length + 1) c := by
  obtain ⟨a, c, h⟩ := vrow_form h
  exact ⟨a, c, by rw [h, List.length_append]; rfl⟩
theorem vrow_at {B g n c : Nat} {vs : List Value} {w : World} (h : VRow B vs (.slice (some ⟨g, 0, none⟩) n c) w) (j : Nat) (hj : j < vs.length) : w.cell? ⟨g, j, none⟩ = vs[j]? ∧ w.frozen? ⟨g, j, none⟩ = false := by
  obtain ⟨a, cc, e⟩ := vrow_form h
  injection e with _ e2 _
  subst e2
  exact ⟨World.ownsRow.cellAt h j (by omega), World.ownsRow.frozenAt h j⟩
end Go.Proofs.Ytnjnalehfhfefaa
