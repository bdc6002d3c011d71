/- The walks of nulls.first with each of its functions; of nulls.Check, nulls.fit, hypostyleref.CellsCheck. -/
import Derived.Test.YtgkhkfmlldnogaaCW1
namespace Go.Proofs.Ytgkhkfmlldnogaa
open Go.RowKit
set_option linter.unusedVariables false

/-- what is wrong with the first cell with which something is -/
def listE (e : C.Cl → Nat) : List C.Cl → Nat
  | [] => 0
  | c :: t => if e c ≠ 0 then e c else listE e t
theorem listE_step (e : C.Cl → Nat) (l : List C.Cl) (j : Nat) (h : j < l.length) : listE e (l.drop j) = if e (l.getD j C.null) ≠ 0 then e (l.getD j C.null) else listE e (l.drop (j + 1)) := by
  rw [List.drop_eq_getElem_cons h, listE]
  simp [List.getD, List.getElem?_eq_getElem h]
theorem chkL_listE (k : Int) : ∀ l : List C.Cl, C.chkL k l = listE (C.cellE k) l := by
  intro l
  induction l with
  | nil => rfl
  | cons c t ih => rw [C.chkL, listE, ih]
set_option maxHeartbeats 1000000 in
set_option maxRecDepth 100000 in
theorem first_chk (w : World) (Cb : Nat) (k : Int) (hB : Boxed w Cb 3 (.int .i64 k)) (a : Option Addr) (c : Nat) (l : List C.Cl) (hl : l.length ≤ 64) (hx : ∀ x ∈ l, cOk x) (hu : Cls w w.heap.size a l) :
    Calls Try.prog 33 #[.slice a l.length c, .func (.func 34) #[] #[.pointer (some ⟨Cb, 0, none⟩)]] w (CErrPost (listE (C.cellE k) l) w) := by
  have HU := Lib.hid hu
  have HST := Lib.hid (fun j h => listE_step (C.cellE k) l j h)
  have HC := Lib.hid (fun x W (hx : cOk x) (hb : Below w.heap.size w W) => cchk_any Cb k x W hx ((hb.block Cb hB.lt).trans hB))
  have HOK := Lib.hid (fun j (h : j < l.length) => hx _ (cgetD_mem l j h))
  have HR0 := Lib.hid (show listE (C.cellE k) l = listE (C.cellE k) (l.drop 0) from rfl)
  generalize (C.cellE k) = p at *
  obtain ⟨R, hR⟩ : ∃ R, R = listE p l := ⟨_, rfl⟩
  rw [← hR] at HR0 ⊢
  clear hu hx hR hB
  go_enter Try.func33, Try.ntmps33
  go_wp2_with fail
  go_loopw [6, 7, 10] (fun _ _ i wr => ∃ j : Nat, j ≤ l.length ∧ i = .int .i64 j ∧ Below w.heap.size w wr ∧ Hid (R = listE p (l.drop j))) (fun _ _ i _ => l.length - (intOf i).toNat)
  case atStart => exact ⟨0, by omega, rfl, Below.refl _ _, HR0⟩
  case round =>
    obtain ⟨j, hj, rfl, hbw, HJ⟩ := hrel
    by_cases hlt : j < l.length
    · obtain ⟨b, off, rfl, hb, hcc⟩ := HU.out (fun e => by rw [e] at hlt; simp at hlt)
      obtain ⟨k0, k1, k2⟩ := hcc j hlt
      have c0 := (hbw.cell (p := ⟨b, off + j * 3, none⟩) hb).trans k0
      have c1 := (hbw.cell (p := ⟨b, off + j * 3 + 1, none⟩) hb).trans k1
      have c2 := (hbw.cell (p := ⟨b, off + j * 3 + 2, none⟩) hb).trans k2
      have hst := HST.out j hlt
      have hok := HOK.out j hlt
      have hcall := HC.out (l.getD j C.null) (wr.alloc (.cells #[.int .i64 (l.getD j C.null).kind, .int .u64 ((l.getD j C.null).num : Int), .string (str (l.getD j C.null).txt)] 25)) hok (hbw.alloc hbw.size _)
      unfold cag at hcall
      generalize (l.getD j C.null).kind = z at *
      generalize (l.getD j C.null).num = n at *
      generalize str (l.getD j C.null).txt = X at *
      generalize p (l.getD j C.null) = er at *
      have HCX := Lib.hid hcall
      have hjI : (j : Int) < (l.length : Int) := by omega
      clear k0 k1 k2 hcc hcall hok
      by_cases ho : er ≠ 0
      · rw [if_pos ho] at hst
        have HRJ := Lib.hid (show R = er by rw [HJ.out, hst])
        have g1 : ((er : Int) != 0) = true := by rw [bne_iff_ne]; omega
        clear hst ho
        go_wp2_with fail
        refine (HCX.out).mono ?_
        rintro e w1 ⟨rfl, hb1⟩
        go_wp2_with fail
        go_ret
        exact ⟨by rw [HRJ.out]; rfl, below_then (hbw.alloc hbw.size _) hb1⟩
      · obtain rfl : er = 0 := by omega
        rw [if_neg (by simp)] at hst
        have HN := Lib.hid (show R = listE p (l.drop (j + 1)) by rw [HJ.out, hst])
        clear hst ho
        go_wp2_with fail
        refine (HCX.out).mono ?_
        rintro e w1 ⟨rfl, hb1⟩
        go_wp2_with fail
        exact ⟨⟨j + 1, by omega, by go_num, below_then (hbw.alloc hbw.size _) hb1, HN⟩, by simp [intOf]; omega⟩
    · obtain rfl : j = l.length := by omega
      have HRE := Lib.hid (show R = 0 by rw [HJ.out, List.drop_length]; rfl)
      go_wp2_with fail
      go_ret
      exact ⟨by rw [HRE.out]; rfl, hbw⟩

theorem chk_kind {k : Int} {l : List C.Cl} (h : k ≠ 1 ∧ k ≠ 2) : C.chk k l = 7 := by unfold C.chk; rw [if_pos h]
theorem chk_many {k : Int} {l : List C.Cl} (h : ¬ (k ≠ 1 ∧ k ≠ 2)) (h2 : 64 < l.length) : C.chk k l = 2 := by unfold C.chk; rw [if_neg h, if_pos h2]
theorem chk_list {k : Int} {l : List C.Cl} (h : ¬ (k ≠ 1 ∧ k ≠ 2)) (h2 : ¬ 64 < l.length) : C.chk k l = listE (C.cellE k) l := by unfold C.chk; rw [if_neg h, if_neg h2, chkL_listE]

theorem boxed_new (w : World) (v : Value) (t : TypeId) : Boxed (w.alloc (.cells #[v] t)) w.heap.size t v := heap_alloc_new _ _

set_option maxHeartbeats 1000000 in
set_option maxRecDepth 100000 in
theorem ncheck_any (k : Int) (a : Option Addr) (c : Nat) (l : List C.Cl) (w : World) (hm : l.length ≤ maxLen) (hx : ∀ x ∈ l, cOk x) (hu : Cls w w.heap.size a l) :
    Calls Try.prog 25 #[.int .i64 k, .slice a l.length c] w (CErrPost (C.chk k l) w) := by
  unfold maxLen at hm
  have hal : Below w.heap.size w (w.alloc (.cells #[.int .i64 k] 3)) := (Below.refl _ _).alloc (Nat.le_refl _) _
  by_cases hk : k ≠ 1 ∧ k ≠ 2
  · have HR := Lib.hid (chk_kind (l := l) hk)
    have g1 : (k != 1) = true := by rw [bne_iff_ne]; exact hk.1
    have g2 : (k != 2) = true := by rw [bne_iff_ne]; exact hk.2
    clear hu hx
    go_enter Try.func25, Try.ntmps25
    go_wp2_with fail
    go_ret
    exact ⟨by rw [HR.out]; rfl, hal⟩
  by_cases hl : 64 < l.length
  · have HR := Lib.hid (chk_many hk hl)
    have g3 : decide ((64 : Int) < (l.length : Int)) = true := decide_eq_true (by omega)
    clear hu hx
    have hk2 : k = 1 ∨ k = 2 := by omega
    rcases hk2 with rfl | rfl
    · go_enter Try.func25, Try.ntmps25
      go_wp2_with fail
      go_ret
      exact ⟨by rw [HR.out]; rfl, hal⟩
    · go_enter Try.func25, Try.ntmps25
      go_wp2_with fail
      go_ret
      exact ⟨by rw [HR.out]; rfl, hal⟩
  · have HR := Lib.hid (chk_list hk hl)
    have HF := Lib.hid (first_chk (w.alloc (.cells #[.int .i64 k] 3)) w.heap.size k (boxed_new _ _ _) a c l (by omega) hx (hu.next hal))
    have g3 : decide ((64 : Int) < (l.length : Int)) = false := decide_eq_false (by omega)
    clear hu hx
    have hk2 : k = 1 ∨ k = 2 := by omega
    rcases hk2 with rfl | rfl
    · go_enter Try.func25, Try.ntmps25
      go_wp2_with fail
      refine (HF.out).mono ?_
      rintro e w1 ⟨rfl, hb1⟩
      go_wp2_with fail
      go_ret
      exact ⟨by rw [HR.out]; rfl, below_then hal hb1⟩
    · go_enter Try.func25, Try.ntmps25
      go_wp2_with fail
      refine (HF.out).mono ?_
      rintro e w1 ⟨rfl, hb1⟩
      go_wp2_with fail
      go_ret
      exact ⟨by rw [HR.out]; rfl, below_then hal hb1⟩

set_option maxHeartbeats 1000000 in
set_option maxRecDepth 100000 in
theorem crcheck_any (k : Int) (a : Option Addr) (c : Nat) (l : List C.Cl) (w : World) (hk64 : -9223372036854775808 ≤ k ∧ k ≤ 9223372036854775807) (hm : l.length ≤ maxLen) (hx : ∀ x ∈ l, cOk x) (hu : Cls w w.heap.size a l) :
    Calls Try.prog 9 #[.int .i64 k, .slice a l.length c] w (CErrPost (C.chk k l) w) := by
  unfold maxLen at hm
  by_cases hk : k ≠ 1 ∧ k ≠ 2
  · have HR := Lib.hid (chk_kind (l := l) hk)
    have g1 : (k != 1) = true := by rw [bne_iff_ne]; exact hk.1
    have g2 : (k != 2) = true := by rw [bne_iff_ne]; exact hk.2
    clear hu hx
    go_enter Try.func9, Try.ntmps9
    go_wp2_with fail
    go_ret
    exact ⟨by rw [HR.out]; rfl, Below.refl _ _⟩
  by_cases hl : 64 < l.length
  · have HR := Lib.hid (chk_many hk hl)
    have g3 : decide ((64 : Int) < (l.length : Int)) = true := decide_eq_true (by omega)
    clear hu hx
    have hk2 : k = 1 ∨ k = 2 := by omega
    rcases hk2 with rfl | rfl
    · go_enter Try.func9, Try.ntmps9
      go_wp2_with fail
      go_ret
      exact ⟨by rw [HR.out]; rfl, Below.refl _ _⟩
    · go_enter Try.func9, Try.ntmps9
      go_wp2_with fail
      go_ret
      exact ⟨by rw [HR.out]; rfl, Below.refl _ _⟩
  have HU := Lib.hid hu
  have HST := Lib.hid (fun j h => listE_step (C.cellE k) l j h)
  have HC := Lib.hid (fun x W (hx : cOk x) => rchk_any k x W hx hk64)
  have HOK := Lib.hid (fun j (h : j < l.length) => hx _ (cgetD_mem l j h))
  have HR0 := Lib.hid (show listE (C.cellE k) l = listE (C.cellE k) (l.drop 0) from rfl)
  rw [chk_list hk hl]
  generalize (C.cellE k) = p at *
  obtain ⟨R, hR⟩ : ∃ R, R = listE p l := ⟨_, rfl⟩
  rw [← hR] at HR0 ⊢
  have g3 : decide ((64 : Int) < (l.length : Int)) = false := decide_eq_false (by omega)
  have hg : ((k != 1) && (k != 2)) = false := by
    have hk2 : k = 1 ∨ k = 2 := by omega
    rcases hk2 with rfl | rfl <;> rfl
  clear hu hx hR
  have hk2 : k = 1 ∨ k = 2 := by omega
  rcases hk2 with rfl | rfl
  · go_enter Try.func9, Try.ntmps9
    go_wp2_with fail
    go_loopw [5, 6] (fun i _ wr => ∃ j : Nat, j ≤ l.length ∧ i = .int .i64 j ∧ Below w.heap.size w wr ∧ Hid (R = listE p (l.drop j))) (fun i _ _ => l.length - (intOf i).toNat)
    case atStart => exact ⟨0, by omega, rfl, Below.refl _ _, HR0⟩
    case round =>
      obtain ⟨j, hj, rfl, hbw, HJ⟩ := hrel
      by_cases hlt : j < l.length
      · obtain ⟨b, off, rfl, hb, hcc⟩ := HU.out (fun e => by rw [e] at hlt; simp at hlt)
        obtain ⟨k0, k1, k2⟩ := hcc j hlt
        have c0 := (hbw.cell (p := ⟨b, off + j * 3, none⟩) hb).trans k0
        have c1 := (hbw.cell (p := ⟨b, off + j * 3 + 1, none⟩) hb).trans k1
        have c2 := (hbw.cell (p := ⟨b, off + j * 3 + 2, none⟩) hb).trans k2
        have hst := HST.out j hlt
        have hok := HOK.out j hlt
        have hcall := HC.out (l.getD j C.null) wr hok
        unfold cag at hcall
        generalize (l.getD j C.null).kind = z at *
        generalize (l.getD j C.null).num = n at *
        generalize str (l.getD j C.null).txt = X at *
        generalize p (l.getD j C.null) = er at *
        have HCX := Lib.hid hcall
        have hjI : (j : Int) < (l.length : Int) := by omega
        clear k0 k1 k2 hcc hcall hok
        by_cases ho : er ≠ 0
        · rw [if_pos ho] at hst
          have HRJ := Lib.hid (show R = er by rw [HJ.out, hst])
          have g1 : ((er : Int) != 0) = true := by rw [bne_iff_ne]; omega
          clear hst ho
          go_wp2_with fail
          refine (HCX.out).mono ?_
          rintro e w1 ⟨rfl, hb1⟩
          go_wp2_with fail
          go_ret
          exact ⟨by rw [HRJ.out]; rfl, below_then hbw hb1⟩
        · obtain rfl : er = 0 := by omega
          rw [if_neg (by simp)] at hst
          have HN := Lib.hid (show R = listE p (l.drop (j + 1)) by rw [HJ.out, hst])
          clear hst ho
          go_wp2_with fail
          refine (HCX.out).mono ?_
          rintro e w1 ⟨rfl, hb1⟩
          go_wp2_with fail
          exact ⟨⟨j + 1, by omega, by go_num, below_then hbw hb1, HN⟩, by simp [intOf]; omega⟩
      · obtain rfl : j = l.length := by omega
        have HRE := Lib.hid (show R = 0 by rw [HJ.out, List.drop_length]; rfl)
        go_wp2_with fail
        go_ret
        exact ⟨by rw [HRE.out]; rfl, hbw⟩
  · go_enter Try.func9, Try.ntmps9
    go_wp2_with fail
    go_loopw [5, 6] (fun i _ wr => ∃ j : Nat, j ≤ l.length ∧ i = .int .i64 j ∧ Below w.heap.size w wr ∧ Hid (R = listE p (l.drop j))) (fun i _ _ => l.length - (intOf i).toNat)
    case atStart => exact ⟨0, by omega, rfl, Below.refl _ _, HR0⟩
    case round =>
      obtain ⟨j, hj, rfl, hbw, HJ⟩ := hrel
      by_cases hlt : j < l.length
      · obtain ⟨b, off, rfl, hb, hcc⟩ := HU.out (fun e => by rw [e] at hlt; simp at hlt)
        obtain ⟨k0, k1, k2⟩ := hcc j hlt
        have c0 := (hbw.cell (p := ⟨b, off + j * 3, none⟩) hb).trans k0
        have c1 := (hbw.cell (p := ⟨b, off + j * 3 + 1, none⟩) hb).trans k1
        have c2 := (hbw.cell (p := ⟨b, off + j * 3 + 2, none⟩) hb).trans k2
        have hst := HST.out j hlt
        have hok := HOK.out j hlt
        have hcall := HC.out (l.getD j C.null) wr hok
        unfold cag at hcall
        generalize (l.getD j C.null).kind = z at *
        generalize (l.getD j C.null).num = n at *
        generalize str (l.getD j C.null).txt = X at *
        generalize p (l.getD j C.null) = er at *
        have HCX := Lib.hid hcall
        have hjI : (j : Int) < (l.length : Int) := by omega
        clear k0 k1 k2 hcc hcall hok
        by_cases ho : er ≠ 0
        · rw [if_pos ho] at hst
          have HRJ := Lib.hid (show R = er by rw [HJ.out, hst])
          have g1 : ((er : Int) != 0) = true := by rw [bne_iff_ne]; omega
          clear hst ho
          go_wp2_with fail
          refine (HCX.out).mono ?_
          rintro e w1 ⟨rfl, hb1⟩
          go_wp2_with fail
          go_ret
          exact ⟨by rw [HRJ.out]; rfl, below_then hbw hb1⟩
        · obtain rfl : er = 0 := by omega
          rw [if_neg (by simp)] at hst
          have HN := Lib.hid (show R = listE p (l.drop (j + 1)) by rw [HJ.out, hst])
          clear hst ho
          go_wp2_with fail
          refine (HCX.out).mono ?_
          rintro e w1 ⟨rfl, hb1⟩
          go_wp2_with fail
          exact ⟨⟨j + 1, by omega, by go_num, below_then hbw hb1, HN⟩, by simp [intOf]; omega⟩
      · obtain rfl : j = l.length := by omega
        have HRE := Lib.hid (show R = 0 by rw [HJ.out, List.drop_length]; rfl)
        go_wp2_with fail
        go_ret
        exact ⟨by rw [HRE.out]; rfl, hbw⟩
end Go.Proofs.Ytgkhkfmlldnogaa
