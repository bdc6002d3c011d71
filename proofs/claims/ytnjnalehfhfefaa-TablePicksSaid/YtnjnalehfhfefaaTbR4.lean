/- The walk of the reference's RenameOf. -/
import Derived.Test.YtnjnalehfhfefaaTbD1
import Derived.Test.YtnjnalehfhfefaaTbD6
import Derived.Test.YtnjnalehfhfefaaTl
import Derived.Test.YtnjnalehfhfefaaTr
import Derived.Test.YtnjnalehfhfefaaTs
namespace Go.Proofs.Ytnjnalehfhfefaa
open Go.RowKit
set_option linter.unusedVariables false

def RTabPost (r : Tb.T × Nat) (w : World) (e : Ending) (w' : World) : Prop :=
  ∃ ca cc da dc, e = .returned (.tuple #[tag ca r.1.cols.length cc da r.1.data.length dc, .int .i64 (r.2 : Nat)]) ∧ Tbl w' w'.heap.size ca cc da dc r.1 ∧ Below w.heap.size w w'
/-- a table in the making: its block, its columns -/
structure MkC (w : World) (B H : Nat) (d : List Tb.Col) (cv dv : Value) : Prop where
  two : Two w H 25 cv dv
  ge : B ≤ H
  gro : GRow B d cv w
theorem MkC.move {w w' : World} {B H : Nat} {d : List Tb.Col} {cv dv : Value} (h : MkC w B H d cv dv) (hb : Below w.heap.size w w') : MkC w' B H d cv dv := ⟨h.two.next hb, h.ge, h.gro.below hb⟩
theorem MkC.gG {w : World} {B H : Nat} {d : List Tb.Col} {cv dv : Value} (h : MkC w B H d cv dv) : some H ≠ cv.ownBlock := two_kind h.gro h.two (by decide)
theorem MkC.col {w w4 : World} {B H : Nat} {d : List Tb.Col} {cv dv v' : Value} {c : Tb.Col} {o : Obj} (h : MkC w B H d cv dv) (h4 : GRow B (d ++ [c]) v' w4)
    (hfar : ∀ k, k < (w.alloc o).heap.size → some k ≠ cv.ownBlock → w4.heap[k]? = (w.alloc o).heap[k]?) : MkC (w4.setCell ⟨H, 0, none⟩ v') B H (d ++ [c]) v' dv := by
  have hal : Below w.heap.size w (w.alloc o) := (Below.refl _ _).alloc (Nat.le_refl _) _
  have hA := h.move hal
  have tw4 : Two w4 H 25 cv dv := (hfar H hA.two.lt hA.gG).trans hA.two
  refine ⟨tw4.s0 v', h.ge, ?_⟩
  exact row_move h4 (fun g hg => heap_set _ _ _ _ (fun e => two_kind h4 tw4 (by decide) (by rw [hg, e])))
theorem chg_bad {t : Tb.T} {e : Nat} {r : Tb.T} (h : Tb.check t ≠ 0) : Tb.chg t e r = (Tb.nul, Tb.check t) := by unfold Tb.chg; rw [if_pos h]
theorem chg_err {t : Tb.T} {e : Nat} {r : Tb.T} (h : Tb.check t = 0) (he : e ≠ 0) : Tb.chg t e r = (Tb.nul, e) := by unfold Tb.chg; rw [if_neg (by rw [h]; simp), if_pos he]
theorem ren_step {t : Tb.T} {o n : List UInt8} (h : Tb.Ok t) (ho : Tb.has t.cols o) (j : Nat) (hj : j < t.cols.length) :
    (Tb.ren t o n).cols.take (j + 1) = (Tb.ren t o n).cols.take j ++ [if (t.cols.getD j Tb.nulC).name = o then ⟨n, (t.cols.getD j Tb.nulC).kind⟩ else t.cols.getD j Tb.nulC] := by
  have hl : j < (Tb.ren t o n).cols.length := by rw [Tb.ren_len]; exact hj
  rw [List.take_succ_eq_append_getElem hl]
  congr 2
  have e := Tb.ren_cols t o n ho j
  rw [show (Tb.ren t o n).cols.getD j Tb.nulC = (Tb.ren t o n).cols[j] by simp [List.getD, List.getElem?_eq_getElem hl]] at e
  rw [e]
  by_cases hp : j = Tb.pos t.cols o
  · rw [if_pos hp, hp, if_pos (Tb.pos_name ho)]
  · rw [if_neg hp, if_neg (Tb.old_other h ho hj hp)]
theorem renE_same {t : Tb.T} {o n : List UInt8} (ho : Tb.has t.cols o) (hn : Tb.isName n = true) : Tb.renE t o n = if n ≠ o ∧ Tb.has t.cols n then 6 else 0 := by
  unfold Tb.renE
  rw [if_neg (by simp [ho]), if_neg (by rw [hn]; simp)]
  have : (Tb.has t.cols n ∧ Tb.pos t.cols n ≠ Tb.pos t.cols o) ↔ (n ≠ o ∧ Tb.has t.cols n) := by
    constructor
    · rintro ⟨h1, h2⟩; exact ⟨fun e => h2 (by rw [e]), h1⟩
    · rintro ⟨h1, h2⟩
      refine ⟨h2, fun e => h1 ?_⟩
      have a := Tb.pos_name h2
      have b := Tb.pos_name ho
      rw [e] at a
      exact a.symm.trans b
  by_cases h : n ≠ o ∧ Tb.has t.cols n
  · rw [if_pos h, if_pos (this.2 h)]
  · rw [if_neg h, if_neg (fun x => h (this.1 x))]
theorem ren_gok (t : Tb.T) (o n : List UInt8) (h : ∀ c ∈ t.cols, gOk c) (hn : n.length ≤ maxLen) : ∀ c ∈ (Tb.ren t o n).cols, gOk c := by
  intro c hc
  unfold Tb.ren at hc
  simp only at hc
  rcases List.mem_or_eq_of_mem_set hc with h1 | h1
  · exact h c h1
  · subst h1
    refine ⟨hn, ?_⟩
    by_cases hp : Tb.pos t.cols o < t.cols.length
    · have := h (t.cols.getD (Tb.pos t.cols o) Tb.nulC) (by simp only [List.getD, List.getElem?_eq_getElem hp, Option.getD_some]; exact List.getElem_mem hp)
      exact this.2
    · rw [show t.cols.getD (Tb.pos t.cols o) Tb.nulC = Tb.nulC by simp [List.getD, List.getElem?_eq_none (Nat.not_lt.1 hp)]]
      simp [Tb.nulC]
set_option maxHeartbeats 4000000 in
set_option maxRecDepth 100000 in
theorem rRename_any (ca : Option Addr) (cc : Nat) (da : Option Addr) (dc : Nat) (t : Tb.T) (o n : List UInt8) (w : World) (ht : Tbl w w.heap.size ca cc da dc t) (hnm : n.length ≤ maxLen) :
    Calls Try.prog 20 #[tag ca t.cols.length cc da t.data.length dc, .string (str o), .string (str n)] w (RTabPost (Tb.chg t (Tb.renE t o n) (Tb.ren t o n)) w) := by
  have a0 : Below w.heap.size w (w.alloc (.cells #[Value.slice ca t.cols.length cc, Value.slice da t.data.length dc] 25)) := (Below.refl _ _).alloc (Nat.le_refl _) _
  have a1 : Below (w.alloc (.cells #[Value.slice ca t.cols.length cc, Value.slice da t.data.length dc] 25)).heap.size (w.alloc (.cells #[Value.slice ca t.cols.length cc, Value.slice da t.data.length dc] 25)) ((w.alloc (.cells #[Value.slice ca t.cols.length cc, Value.slice da t.data.length dc] 25)).alloc (.cells #[Value.slice none 0 0, Value.slice none 0 0] 25)) := (Below.refl _ _).alloc (Nat.le_refl _) _
  have hP := (Two.next (two_new w 25 (Value.slice ca t.cols.length cc) (Value.slice da t.data.length dc)) a1)
  have hR := (two_new (w.alloc (.cells #[Value.slice ca t.cols.length cc, Value.slice da t.data.length dc] 25)) 25 (Value.slice none 0 0) (Value.slice none 0 0))
  rw [show (w.alloc (.cells #[Value.slice ca t.cols.length cc, Value.slice da t.data.length dc] 25)).heap.size = w.heap.size + 1 by simp] at hR
  have hal := (below_then a0 a1)
  have hsz : ((w.alloc (.cells #[Value.slice ca t.cols.length cc, Value.slice da t.data.length dc] 25)).alloc (.cells #[Value.slice none 0 0, Value.slice none 0 0] 25)).heap.size = w.heap.size + 2 := by simp
  have HTT := Lib.hid (ht.next hal)
  have HT0 := Lib.hid ht
  have HM := Lib.hid (show t.cols.length ≤ maxLen from Nat.le_trans ht.ccap.1 ht.ccap.2.1)
  have HP := Lib.hid hP
  have HR := Lib.hid hR
  have HAL := Lib.hid hal
  have HSZ := Lib.hid hsz
  clear hal hsz hP hR a0 a1 ht
  generalize hW : ((w.alloc (.cells #[Value.slice ca t.cols.length cc, Value.slice da t.data.length dc] 25)).alloc (.cells #[Value.slice none 0 0, Value.slice none 0 0] 25)) = W1 at *
  have HW := Lib.hid hW
  clear hW
  have HT := Lib.hid (fun W (hb : Below W1.heap.size W1 W) => rTable_any ca cc da dc t W (HTT.out.next hb))
  have HCA := Lib.hid (fun x W (hb : Below W1.heap.size W1 W) => rColAt_any x ca cc t.cols W HM.out (HTT.out.next hb).gls)
  have HQ := Lib.hid (fun y : List UInt8 => tl_eq y o)
  have HNQ := Lib.hid (tl_eq n o)
  by_cases h0 : Tb.check t ≠ 0
  · rw [chg_bad h0]
    have g0 : ((Tb.check t : Int) == 0) = false := by rw [beq_eq_false_iff_ne]; omega
    have g1 : ((Tb.check t : Int) != 0) = true := by rw [bne_iff_ne]; omega
    generalize Tb.check t = er at *
    go_enter Try.func20, Try.ntmps20
    go_wp2_with fail
    rw [HW.out]
    have b_w := Below.refl W1.heap.size W1
    have cP0 := (HP.out.next b_w).c0
    have cP1 := (HP.out.next b_w).c1
    go_wp2_with fail
    refine (HT.out _ b_w).mono ?_
    rintro e w1 ⟨rfl, hbn⟩
    have b_w := below_then b_w hbn
    clear hbn
    clear cP0 cP1
    have q0 := HR.out.next b_w
    have q1 := q0.s0 (.slice none 0 0)
    have q2 := q1.s1 (.slice none 0 0)
    have b0 := q0.c0
    have f0 := q0.free 0
    have b1 := q1.c1
    have f1 := q1.free 1
    have y0 := q2.c0
    have y1 := q2.c1
    have hrb : w.heap.size ≤ w.heap.size + 1 := by omega
    have HB3 := Lib.hid (((below_then HAL.out b_w).setCell (p := ⟨w.heap.size + 1, 0, none⟩) hrb (.slice none 0 0)).setCell (p := ⟨w.heap.size + 1, 1, none⟩) hrb (.slice none 0 0))
    clear q0 q1 q2
    go_wp2_with fail
    refine bodyPost_ret (v := .tuple #[tag none 0 0 none 0 0, .int .i64 (er : Int)]) (by simp [results, Try.results20, go_sem, y0, y1]) rfl ?_
    exact ⟨_, _, _, _, rfl, Tbl.null _ _, HB3.out⟩
  have h0 : Tb.check t = 0 := Classical.not_not.1 h0
  have hok := Tb.check_ok h0
  have HT := Lib.hid (fun W (hb : Below W1.heap.size W1 W) => show Calls Try.prog 15 #[tag ca t.cols.length cc da t.data.length dc] W (CErrPost 0 W) by have := HT.out W hb; rwa [h0] at this)
  by_cases ho : ¬ Tb.has t.cols o
  · have e5 : Tb.renE t o n = 5 := by unfold Tb.renE; rw [if_pos ho]
    rw [chg_err h0 (by rw [e5]; simp), e5]
    have HC := Lib.hid (fun W (hb : Below W1.heap.size W1 W) => show Calls Try.prog 35 #[.slice ca t.cols.length cc, .string (str o)] W (IntPost (-1) W) by have := HCA.out o W hb; rwa [idx_neg ho] at this)
    go_enter Try.func20, Try.ntmps20
    go_wp2_with fail
    rw [HW.out]
    have b_w := Below.refl W1.heap.size W1
    have cP0 := (HP.out.next b_w).c0
    have cP1 := (HP.out.next b_w).c1
    go_wp2_with fail
    refine (HT.out _ b_w).mono ?_
    rintro e w1 ⟨rfl, hbn⟩
    have b_w := below_then b_w hbn
    clear hbn
    clear cP0 cP1
    have cP0 := (HP.out.next b_w).c0
    have cP1 := (HP.out.next b_w).c1
    go_wp2_with fail
    refine (HC.out _ b_w).mono ?_
    rintro e w2 ⟨rfl, hbn⟩
    have b_w := below_then b_w hbn
    clear hbn
    clear cP0 cP1
    have q0 := HR.out.next b_w
    have q1 := q0.s0 (.slice none 0 0)
    have q2 := q1.s1 (.slice none 0 0)
    have b0 := q0.c0
    have f0 := q0.free 0
    have b1 := q1.c1
    have f1 := q1.free 1
    have y0 := q2.c0
    have y1 := q2.c1
    have hrb : w.heap.size ≤ w.heap.size + 1 := by omega
    have HB3 := Lib.hid (((below_then HAL.out b_w).setCell (p := ⟨w.heap.size + 1, 0, none⟩) hrb (.slice none 0 0)).setCell (p := ⟨w.heap.size + 1, 1, none⟩) hrb (.slice none 0 0))
    clear q0 q1 q2
    go_wp2_with fail
    refine bodyPost_ret (v := .tuple #[tag none 0 0 none 0 0, .int .i64 5]) (by simp [results, Try.results20, go_sem, y0, y1]) rfl ?_
    exact ⟨_, _, _, _, rfl, Tbl.null _ _, HB3.out⟩
  have ho : Tb.has t.cols o := Classical.not_not.1 ho
  have HC := Lib.hid (fun W (hb : Below W1.heap.size W1 W) => show Calls Try.prog 35 #[.slice ca t.cols.length cc, .string (str o)] W (IntPost (Tb.pos t.cols o : Int) W) by have := HCA.out o W hb; rwa [idx_pos ho] at this)
  have g5 : decide ((Tb.pos t.cols o : Int) < 0) = false := decide_eq_false (by omega)
  have HN := Lib.hid (fun W => rName_any n W hnm)
  by_cases hn : Tb.isName n = false
  · have e5 : Tb.renE t o n = 1 := by unfold Tb.renE; rw [if_neg (by simp [ho]), if_pos hn]
    rw [chg_err h0 (by rw [e5]; simp), e5]
    have HN := Lib.hid (fun W => show Calls Try.prog 55 #[.string (str n)] W (BoolPost false W) by have := HN.out W; rwa [hn] at this)
    generalize Tb.pos t.cols o = q at *
    go_enter Try.func20, Try.ntmps20
    go_wp2_with fail
    rw [HW.out]
    have b_w := Below.refl W1.heap.size W1
    have cP0 := (HP.out.next b_w).c0
    have cP1 := (HP.out.next b_w).c1
    go_wp2_with fail
    refine (HT.out _ b_w).mono ?_
    rintro e w1 ⟨rfl, hbn⟩
    have b_w := below_then b_w hbn
    clear hbn
    clear cP0 cP1
    have cP0 := (HP.out.next b_w).c0
    have cP1 := (HP.out.next b_w).c1
    go_wp2_with fail
    refine (HC.out _ b_w).mono ?_
    rintro e w2 ⟨rfl, hbn⟩
    have b_w := below_then b_w hbn
    clear hbn
    clear cP0 cP1
    go_wp2_with fail
    refine (HN.out _).mono ?_
    rintro e w3 ⟨rfl, hbn⟩
    have b_w := below_then b_w hbn
    clear hbn
    have q0 := HR.out.next b_w
    have q1 := q0.s0 (.slice none 0 0)
    have q2 := q1.s1 (.slice none 0 0)
    have b0 := q0.c0
    have f0 := q0.free 0
    have b1 := q1.c1
    have f1 := q1.free 1
    have y0 := q2.c0
    have y1 := q2.c1
    have hrb : w.heap.size ≤ w.heap.size + 1 := by omega
    have HB3 := Lib.hid (((below_then HAL.out b_w).setCell (p := ⟨w.heap.size + 1, 0, none⟩) hrb (.slice none 0 0)).setCell (p := ⟨w.heap.size + 1, 1, none⟩) hrb (.slice none 0 0))
    clear q0 q1 q2
    go_wp2_with fail
    refine bodyPost_ret (v := .tuple #[tag none 0 0 none 0 0, .int .i64 1]) (by simp [results, Try.results20, go_sem, y0, y1]) rfl ?_
    exact ⟨_, _, _, _, rfl, Tbl.null _ _, HB3.out⟩
  have hn : Tb.isName n = true := by simpa using hn
  have HN := Lib.hid (fun W => show Calls Try.prog 55 #[.string (str n)] W (BoolPost true W) by have := HN.out W; rwa [hn] at this)
  have hE := renE_same ho hn
  have hnq := HNQ.out
  have HOK := Lib.hid hok
  have HST := Lib.hid (fun j hj => @ren_step t o n hok ho j hj)
  have HRC := Lib.hid (show (Tb.ren t o n).cols.take t.cols.length = (Tb.ren t o n).cols by rw [← Tb.ren_len t o n, List.take_length])
  have HRL := Lib.hid (Tb.ren_len t o n)
  have HRD := Lib.hid (show (Tb.ren t o n).data = t.data from rfl)
  have h6 := hok.six
  by_cases hx : n ≠ o ∧ Tb.has t.cols n
  · rw [if_pos hx] at hE
    rw [chg_err h0 (by rw [hE]; simp), hE]
    have HC2 := Lib.hid (fun W (hb : Below W1.heap.size W1 W) => show Calls Try.prog 35 #[.slice ca t.cols.length cc, .string (str n)] W (IntPost (Tb.pos t.cols n : Int) W) by have := HCA.out n W hb; rwa [idx_pos hx.2] at this)
    have g6 : decide ((0 : Int) ≤ (Tb.pos t.cols n : Int)) = true := decide_eq_true (by omega)
    rw [decide_eq_false hx.1] at hnq
    generalize Tb.pos t.cols o = q at *
    generalize Tb.pos t.cols n = q2 at *
    clear hE h0 hok hn ho hx h6 hnm HQ HST HRC HRL HRD HCA HNQ
    generalize str n = N at *
    generalize str o = O at *
    go_enter Try.func20, Try.ntmps20
    go_wp2_with fail
    rw [HW.out]
    have b_w := Below.refl W1.heap.size W1
    have cP0 := (HP.out.next b_w).c0
    have cP1 := (HP.out.next b_w).c1
    go_wp2_with fail
    refine (HT.out _ b_w).mono ?_
    rintro e w1 ⟨rfl, hbn⟩
    have b_w := below_then b_w hbn
    clear hbn
    clear cP0 cP1
    have cP0 := (HP.out.next b_w).c0
    have cP1 := (HP.out.next b_w).c1
    go_wp2_with fail
    refine (HC.out _ b_w).mono ?_
    rintro e w2 ⟨rfl, hbn⟩
    have b_w := below_then b_w hbn
    clear hbn
    clear cP0 cP1
    go_wp2_with fail
    refine (HN.out _).mono ?_
    rintro e w3 ⟨rfl, hbn⟩
    have b_w := below_then b_w hbn
    clear hbn
    have cP0 := (HP.out.next b_w).c0
    have cP1 := (HP.out.next b_w).c1
    go_wp2_with fail
    refine (HC2.out _ b_w).mono ?_
    rintro e w4 ⟨rfl, hbn⟩
    have b_w := below_then b_w hbn
    clear hbn
    clear cP0 cP1
    have q0 := HR.out.next b_w
    have q1 := q0.s0 (.slice none 0 0)
    have q2 := q1.s1 (.slice none 0 0)
    have b0 := q0.c0
    have f0 := q0.free 0
    have b1 := q1.c1
    have f1 := q1.free 1
    have y0 := q2.c0
    have y1 := q2.c1
    have hrb : w.heap.size ≤ w.heap.size + 1 := by omega
    have HB3 := Lib.hid (((below_then HAL.out b_w).setCell (p := ⟨w.heap.size + 1, 0, none⟩) hrb (.slice none 0 0)).setCell (p := ⟨w.heap.size + 1, 1, none⟩) hrb (.slice none 0 0))
    clear q0 q1 q2
    go_wp2_with fail
    refine bodyPost_ret (v := .tuple #[tag none 0 0 none 0 0, .int .i64 6]) (by simp [results, Try.results20, go_sem, y0, y1]) rfl ?_
    exact ⟨_, _, _, _, rfl, Tbl.null _ _, HB3.out⟩
  rw [if_neg hx] at hE
  rw [Tb.chg_ok h0 hE]
  have HGO := Lib.hid (ren_gok t o n HT0.out.gOk hnm)
  generalize Tb.ren t o n = R at *
  clear hE h0 hok hn HNQ hnm
  rcases Decidable.em (n = o) with hno | hno
  case' inl =>
    rw [decide_eq_true hno] at hnq
    generalize Tb.pos t.cols o = q at *
    have HQN := Lib.hid hnq
    clear ho hx hno
    go_enter Try.func20, Try.ntmps20
    go_wp2_with fail
    rw [HW.out]
    have b_w := Below.refl W1.heap.size W1
    have cP0 := (HP.out.next b_w).c0
    have cP1 := (HP.out.next b_w).c1
    go_wp2_with fail
    refine (HT.out _ b_w).mono ?_
    rintro e w1 ⟨rfl, hbn⟩
    have b_w := below_then b_w hbn
    clear hbn
    clear cP0 cP1
    have cP0 := (HP.out.next b_w).c0
    have cP1 := (HP.out.next b_w).c1
    go_wp2_with fail
    refine (HC.out _ b_w).mono ?_
    rintro e w2 ⟨rfl, hbn⟩
    have b_w := below_then b_w hbn
    clear hbn
    clear cP0 cP1
    go_wp2_with fail
    refine (HN.out _).mono ?_
    rintro e V ⟨rfl, hbn⟩
    have b_w := below_then b_w hbn
    clear hbn
  case' inr =>
    rw [decide_eq_false hno] at hnq
    have HC2 := Lib.hid (fun W (hb : Below W1.heap.size W1 W) => show Calls Try.prog 35 #[.slice ca t.cols.length cc, .string (str n)] W (IntPost (-1) W) by have := HCA.out n W hb; rwa [idx_neg (fun h => hx ⟨hno, h⟩)] at this)
    generalize Tb.pos t.cols o = q at *
    clear ho hx hno
    go_enter Try.func20, Try.ntmps20
    go_wp2_with fail
    rw [HW.out]
    have b_w := Below.refl W1.heap.size W1
    have cP0 := (HP.out.next b_w).c0
    have cP1 := (HP.out.next b_w).c1
    go_wp2_with fail
    refine (HT.out _ b_w).mono ?_
    rintro e w1 ⟨rfl, hbn⟩
    have b_w := below_then b_w hbn
    clear hbn
    clear cP0 cP1
    have cP0 := (HP.out.next b_w).c0
    have cP1 := (HP.out.next b_w).c1
    go_wp2_with fail
    refine (HC.out _ b_w).mono ?_
    rintro e w2 ⟨rfl, hbn⟩
    have b_w := below_then b_w hbn
    clear hbn
    clear cP0 cP1
    go_wp2_with fail
    refine (HN.out _).mono ?_
    rintro e w3 ⟨rfl, hbn⟩
    have b_w := below_then b_w hbn
    clear hbn
    have cP0 := (HP.out.next b_w).c0
    have cP1 := (HP.out.next b_w).c1
    go_wp2_with fail
    refine (HC2.out _ b_w).mono ?_
    rintro e V ⟨rfl, hbn⟩
    have b_w := below_then b_w hbn
    clear hbn
    clear cP0 cP1
  all_goals
    have cP0 := (HP.out.next b_w).c0
    have cP1 := (HP.out.next b_w).c1
    have hal : Below V.heap.size V (V.alloc (.cells #[.slice none 0 0, .slice da t.data.length dc] 25)) := (Below.refl _ _).alloc (Nat.le_refl _) _
    obtain ⟨H, hH⟩ : ∃ H, H = V.heap.size := ⟨_, rfl⟩
    have hHw : W1.heap.size ≤ H := by rw [hH]; exact b_w.size
    have HM0 := Lib.hid (show MkC (V.alloc (.cells #[.slice none 0 0, .slice da t.data.length dc] 25)) W1.heap.size H [] (.slice none 0 0) (.slice da t.data.length dc) from ⟨by rw [hH]; exact two_new _ _ _ _, hHw, gnilRow _ _⟩)
    have b_w := below_then b_w hal
    clear hal
    go_upto_region 11 with fail
    rw [← hH]
    generalize (V.alloc (.cells #[.slice none 0 0, .slice da t.data.length dc] 25)) = V1 at *
    clear hH cP0 cP1
    go_wp2_with fail
    go_loopw [10, 11] (fun i _ wr => ∃ (j : Nat) (cv : Value), j ≤ t.cols.length ∧ i = .int .i64 j ∧ Hid (MkC wr W1.heap.size H (R.cols.take j) cv (.slice da t.data.length dc)) ∧ Below W1.heap.size W1 wr) (fun i _ _ => t.cols.length - (intOf i).toNat)
    case atStart => exact ⟨0, _, by omega, rfl, HM0, b_w⟩
    case round =>
      obtain ⟨j, cv, hj, rfl, HMJ, hbw⟩ := hrel
      have b_w := hbw
      clear hbw
      have cP0 := (HP.out.next b_w).c0
      have cP1 := (HP.out.next b_w).c1
      by_cases hlt : j < t.cols.length
      · obtain ⟨bb, off, rfl, hbb, hcc⟩ := (HTT.out.gls) (fun e => by rw [e] at hlt; simp at hlt)
        obtain ⟨k0, k1⟩ := hcc j hlt
        have e0 := (b_w.cell (p := ⟨bb, off + j * 2, none⟩) hbb).trans k0
        have e1 := (b_w.cell (p := ⟨bb, off + j * 2 + 1, none⟩) hbb).trans k1
        have hst := HST.out j hlt
        have hq := HQ.out (t.cols.getD j Tb.nulC).name
        have hjI : (j : Int) < (t.cols.length : Int) := by omega
        have hlt2 : (R.cols.take j).length = j := by rw [List.length_take, HRL.out]; omega
        have HL2 := Lib.hid hlt2
        obtain ⟨GC, hGC⟩ : ∃ G, G = wr.heap.size := ⟨_, rfl⟩
        clear k0 k1 hcc hlt2
        generalize t.cols.getD j Tb.nulC = col at *
        obtain ⟨cn, ck⟩ := col
        simp only at e0 e1 hst hq
        by_cases heq : cn = o
        · skip
          rw [decide_eq_true heq] at hq
          rw [if_pos heq] at hst
          have HSX := Lib.hid hst
          clear hst heq
          have htw := two_new wr 27 (.string (str cn)) (.int .i64 ck)
          have hbU : Below wr.heap.size wr (wr.alloc (.cells #[.string (str cn), .int .i64 ck] 27)) := (Below.refl _ _).alloc (Nat.le_refl _) _
          rw [← hGC] at htw
          have hGw : wr.heap.size ≤ GC := Nat.le_of_eq hGC.symm
          have c0 := htw.c0
          go_upto_region 15 with fail
          rw [← hGC]
          generalize (wr.alloc (.cells #[.string (str cn), .int .i64 ck] 27)) = U at *
          clear hGC cP0 cP1 e0 e1
          have f0 := htw.free 0
          have htw2 := htw.s0 (.string (str n))
          have hbU2 := hbU.setCell (p := ⟨GC, 0, none⟩) hGw (.string (str n))
          go_upto_region 17 with fail
          generalize U.setCell ⟨GC, 0, none⟩ (.string (str n)) = U2 at *
          clear c0 f0 htw hbU
          have htw := htw2
          have hbU := hbU2
          clear htw2 hbU2
          have HMU := Lib.hid (HMJ.out.move hbU)
          have b_w := below_then b_w hbU
          have z0 := htw.c0
          have z1 := htw.c1
          have z2 := HMU.out.two.c0
          have hal : Below U2.heap.size U2 (U2.alloc (.cells #[.string (str n), .int .i64 ck] 27)) := (Below.refl _ _).alloc (Nat.le_refl _) _
          have HGR := Lib.hid (HMU.out.gro.below hal)
          have HG1 := Lib.hid (gls_one (w := U2.alloc (.cells #[.string (str n), .int .i64 ck] 27)) (b := U2.heap.size) (c := ⟨n, ck⟩) (World.cell?_alloc_new _ _ _ _) (World.cell?_alloc_new _ _ _ _) (by simp))
          have hgl : ((R.cols.take j).length + 1) * 24 ≤ 140737488355328 := by rw [HL2.out]; omega
          have hbs : W1.heap.size ≤ (U2.alloc (.cells #[.string (str n), .int .i64 ck] 27)).heap.size := by have := b_w.size; simp; omega
          have HBA := Lib.hid (below_then b_w hal)
          clear hal
          go_wp2_with (at_builtin; refine wpList_append_gls rfl (.tmp 70) (.tmp 72) rfl W1.heap.size cv (R.cols.take j) rfl HGR.out (some ⟨U2.heap.size, 0, none⟩) 1 1 [⟨n, ck⟩] rfl rfl (fun h => by cases h) HG1.out hgl hbs ?_)
          intro v' w5 hr5 hb5 hf5 hs5
          obtain ⟨a5, c5, hv5⟩ := grow_form1 hr5
          rw [HL2.out] at hv5
          subst hv5
          have hf5 : ∀ k, k < (U2.alloc (.cells #[.string (str n), .int .i64 ck] 27)).heap.size → some k ≠ cv.ownBlock → w5.heap[k]? = (U2.alloc (.cells #[.string (str n), .int .i64 ck] 27)).heap[k]? := fun k h1 h2 => hf5 k (by simpa using h1) h2
          have t5 : Two w5 H 25 cv (.slice da t.data.length dc) := (hf5 H (HMU.out.move ((Below.refl _ _).alloc (Nat.le_refl _) _)).two.lt HMU.out.gG).trans (HMU.out.move ((Below.refl _ _).alloc (Nat.le_refl _) _)).two
          have x0 := t5.c0
          have f0 := t5.free 0
          have HN5 := Lib.hid (MkC.col HMU.out hr5 hf5)
          have HB5 := Lib.hid ((HBA.out.trans hb5).setCell (p := ⟨H, 0, none⟩) hHw (.slice a5 (j + 1) c5))
          clear hb5 hf5 hr5 t5
          go_wp2_with fail
          exact ⟨⟨j + 1, _, by omega, by go_num, by rw [HSX.out]; exact HN5, HB5.out⟩, by simp [intOf]; omega⟩
        · skip
          rw [decide_eq_false heq] at hq
          rw [if_neg heq] at hst
          have HSX := Lib.hid hst
          clear hst heq
          have htw := two_new wr 27 (.string (str cn)) (.int .i64 ck)
          have hbU : Below wr.heap.size wr (wr.alloc (.cells #[.string (str cn), .int .i64 ck] 27)) := (Below.refl _ _).alloc (Nat.le_refl _) _
          rw [← hGC] at htw
          have hGw : wr.heap.size ≤ GC := Nat.le_of_eq hGC.symm
          have c0 := htw.c0
          go_upto_region 15 with fail
          rw [← hGC]
          generalize (wr.alloc (.cells #[.string (str cn), .int .i64 ck] 27)) = U at *
          clear hGC cP0 cP1 e0 e1
          go_upto_region 17 with fail
          generalize U = U2 at *
          clear c0
          have HMU := Lib.hid (HMJ.out.move hbU)
          have b_w := below_then b_w hbU
          have z0 := htw.c0
          have z1 := htw.c1
          have z2 := HMU.out.two.c0
          have hal : Below U2.heap.size U2 (U2.alloc (.cells #[.string (str cn), .int .i64 ck] 27)) := (Below.refl _ _).alloc (Nat.le_refl _) _
          have HGR := Lib.hid (HMU.out.gro.below hal)
          have HG1 := Lib.hid (gls_one (w := U2.alloc (.cells #[.string (str cn), .int .i64 ck] 27)) (b := U2.heap.size) (c := ⟨cn, ck⟩) (World.cell?_alloc_new _ _ _ _) (World.cell?_alloc_new _ _ _ _) (by simp))
          have hgl : ((R.cols.take j).length + 1) * 24 ≤ 140737488355328 := by rw [HL2.out]; omega
          have hbs : W1.heap.size ≤ (U2.alloc (.cells #[.string (str cn), .int .i64 ck] 27)).heap.size := by have := b_w.size; simp; omega
          have HBA := Lib.hid (below_then b_w hal)
          clear hal
          go_wp2_with (at_builtin; refine wpList_append_gls rfl (.tmp 70) (.tmp 72) rfl W1.heap.size cv (R.cols.take j) rfl HGR.out (some ⟨U2.heap.size, 0, none⟩) 1 1 [⟨cn, ck⟩] rfl rfl (fun h => by cases h) HG1.out hgl hbs ?_)
          intro v' w5 hr5 hb5 hf5 hs5
          obtain ⟨a5, c5, hv5⟩ := grow_form1 hr5
          rw [HL2.out] at hv5
          subst hv5
          have hf5 : ∀ k, k < (U2.alloc (.cells #[.string (str cn), .int .i64 ck] 27)).heap.size → some k ≠ cv.ownBlock → w5.heap[k]? = (U2.alloc (.cells #[.string (str cn), .int .i64 ck] 27)).heap[k]? := fun k h1 h2 => hf5 k (by simpa using h1) h2
          have t5 : Two w5 H 25 cv (.slice da t.data.length dc) := (hf5 H (HMU.out.move ((Below.refl _ _).alloc (Nat.le_refl _) _)).two.lt HMU.out.gG).trans (HMU.out.move ((Below.refl _ _).alloc (Nat.le_refl _) _)).two
          have x0 := t5.c0
          have f0 := t5.free 0
          have HN5 := Lib.hid (MkC.col HMU.out hr5 hf5)
          have HB5 := Lib.hid ((HBA.out.trans hb5).setCell (p := ⟨H, 0, none⟩) hHw (.slice a5 (j + 1) c5))
          clear hb5 hf5 hr5 t5
          go_wp2_with fail
          exact ⟨⟨j + 1, _, by omega, by go_num, by rw [HSX.out]; exact HN5, HB5.out⟩, by simp [intOf]; omega⟩
      · obtain rfl : j = t.cols.length := by omega
        rw [HRC.out] at HMJ
        obtain ⟨ga, gc, hge, -, hgcap⟩ := grow_gls HMJ.out.gro
        subst hge
        have z0 := HMJ.out.two.c0
        have z1 := HMJ.out.two.c1
        have HGRO := Lib.hid HMJ.out.gro
        have q0 := HR.out.next b_w
        have q1 := q0.s0 (.slice ga R.cols.length gc)
        have q2 := q1.s1 (.slice da t.data.length dc)
        have b0 := q0.c0
        have f0 := q0.free 0
        have b1 := q1.c1
        have f1 := q1.free 1
        have y0 := q2.c0
        have y1 := q2.c1
        have hrb : w.heap.size ≤ w.heap.size + 1 := by omega
        have HB3 := Lib.hid (((below_then HAL.out b_w).setCell (p := ⟨w.heap.size + 1, 0, none⟩) hrb (.slice ga R.cols.length gc)).setCell (p := ⟨w.heap.size + 1, 1, none⟩) hrb (.slice da t.data.length dc))
        clear q0 q1 q2
        go_wp2_with fail
        refine bodyPost_ret (v := .tuple #[tag ga R.cols.length gc da t.data.length dc, .int .i64 0]) (by simp [results, Try.results20, go_sem, y0, y1]) rfl ?_
        have hrow : GRow W1.heap.size R.cols (.slice ga R.cols.length gc) ((wr.setCell ⟨w.heap.size + 1, 0, none⟩ (.slice ga R.cols.length gc)).setCell ⟨w.heap.size + 1, 1, none⟩ (.slice da t.data.length dc)) := row_move HGRO.out (fun g hg => by
          have h1 := (HGRO.out.lt g hg).1
          have h2 := HSZ.out
          rw [heap_set _ _ _ _ (by simp; omega), heap_set _ _ _ _ (by simp; omega)])
        obtain ⟨ga', gc', he, hgl, hcap⟩ := grow_gls hrow
        injection he with he1 he2 he3
        subst he1 he3
        refine ⟨ga, gc, da, dc, by rw [HRD.out]; rfl, ⟨hgl, ?_, HGO.out, hcap, ?_⟩, HB3.out⟩
        · rw [HRD.out]; exact (HT0.out.next HB3.out).dat
        · rw [HRD.out]; exact HT0.out.dcap
end Go.Proofs.Ytnjnalehfhfefaa
