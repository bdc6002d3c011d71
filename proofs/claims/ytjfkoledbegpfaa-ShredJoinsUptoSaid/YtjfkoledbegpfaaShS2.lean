/- The walk of the shredder's level, where there is a number. -/
import Derived.Test.YtjfkoledbegpfaaShS1
namespace Go.Proofs.Ytjfkoledbegpfaa
open Go.RowKit
open Sh (Lv lsum len_lsum)
set_option linter.unusedVariables false

set_option maxHeartbeats 4000000 in
set_option maxRecDepth 100000 in
theorem level_yes (w : World) (B S C N : Nat) (a : Option Addr) (ls : List Nat) (cap : Nat) (cols : List (List Lv)) (vs : List Value) (sl : Nat) (h : Shd w B S C N a ls cap cols vs sl)
    (c rep d : Nat) (hc : c < N) :
    Calls Try.prog 63 #[.pointer (some ⟨S, 0, none⟩), .int .i64 (c : Nat), .agg #[.int .i64 (rep : Nat), .int .i64 (d : Nat), .int .u64 0], .bool true] w
      (LevelPost w B S C N (Sh.sdLevel (ls, cols) c rep d true) vs sl) := by
  have HS := Lib.hid h
  have hN := h.nb
  have hcI : (c : Int) < (N : Int) := by omega
  clear h
  go_enter Try.func63, Try.ntmps63
  go_wp2_with fail
  have L0 := cel_new w #[.int .i64 (rep : Nat), .int .i64 (d : Nat), .int .u64 0] 43
  have H0 := HS.out.next ((Below.refl _ _).alloc (Nat.le_refl _) (.cells #[.int .i64 (rep : Nat), .int .i64 (d : Nat), .int .u64 0] 43))
  have R0 := (Fr.refl S C w vs).alloc (.cells #[.int .i64 (rep : Nat), .int .i64 (d : Nat), .int .u64 0] 43)
  have S0 : (w.alloc (.cells #[.int .i64 (rep : Nat), .int .i64 (d : Nat), .int .u64 0] 43)).heap.size = w.heap.size + 1 := by simp
  have hno : ¬ Out S C vs w.heap.size := fun e => by have := (HS.out.out e).2; omega
  generalize w.alloc (.cells #[.int .i64 (rep : Nat), .int .i64 (d : Nat), .int .u64 0] 43) = w1 at *
  refine (take_any w1 B S C N a ls cap cols vs sl H0).mono ?_
  intro e w2 hp
  cases ls with
  | nil =>
    obtain ⟨rfl, rfl⟩ := hp
    exact ⟨rfl, vs, R0, rfl⟩
  | cons n t =>
    obtain ⟨rfl, hfr, a', H2⟩ := hp
    have L2 := L0.fr hno hfr
    have R2 := R0.trans hfr
    have S2 := hfr.size
    have hBw : B ≤ w.heap.size := Nat.le_trans HS.out.bs.1 (Nat.le_of_lt HS.out.s.lt)
    clear hfr L0 R0 H0
    have c2 : w2.cell? ⟨w.heap.size, 2, none⟩ = some (.int .u64 0) := L2.c 2
    have cf := L2.free 2
    have L1 : Cel (w2.setCell ⟨w.heap.size, 2, none⟩ (.int .u64 (n : Int))) w.heap.size #[.int .i64 (rep : Nat), .int .i64 (d : Nat), .int .u64 (n : Int)] 43 := by
      have := L2
      unfold Cel at *; simp [World.setCell, Array.getElem?_modify, this]
    have H1 := H2.setFar w.heap.size 2 (.int .u64 (n : Int)) hBw hno
    have R1 := R2.setFar w.heap.size 2 (.int .u64 (n : Int)) (Nat.le_refl _)
    have S1 : (w2.setCell ⟨w.heap.size, 2, none⟩ (.int .u64 (n : Int))).heap.size = w2.heap.size := by simp [World.setCell]
    have HL1 := Lib.hid L1
    have HH1 := Lib.hid H1
    have HR1 := Lib.hid R1
    have HS1 := Lib.hid S1
    clear L1 H1 R1 S1 H2 R2
    go_wp2_with fail
    have L1 := HL1.out
    have H1 := HH1.out
    have R1 := HR1.out
    have S1 := HS1.out
    generalize w2.setCell ⟨w.heap.size, 2, none⟩ (.int .u64 (n : Int)) = X at *
    clear HL1 HH1 HR1 HS1
    clear c2 cf L2
    obtain ⟨v, hv⟩ : ∃ v, vs.getD c undef = v := ⟨_, rfl⟩
    have hfar := H1.far c hc
    rw [hv] at hfar
    have HV := Lib.hid hv
    clear hv
    have s1 : X.cell? ⟨S, 1, none⟩ = some (.slice (some ⟨C, 0, none⟩) N N) := H1.s.c 1
    have cc : X.cell? ⟨C, c, none⟩ = some v := by
      rw [H1.c.c c, ← HV.out]
      have : c < vs.length := by rw [H1.vl]; exact hc
      simp [List.getD, List.getElem?_eq_getElem this]
    have l0 : X.cell? ⟨w.heap.size, 0, none⟩ = some (.int .i64 (rep : Nat)) := L1.c 0
    have l1 : X.cell? ⟨w.heap.size, 1, none⟩ = some (.int .i64 (d : Nat)) := L1.c 1
    have l2 : X.cell? ⟨w.heap.size, 2, none⟩ = some (.int .u64 (n : Int)) := L1.c 2
    have hown1 := H1.own c hc
    rw [HV.out] at hown1
    obtain ⟨nn, hnn⟩ : ∃ nn, (cols.getD c []).length = nn := ⟨_, rfl⟩
    rw [hnn] at hown1
    have HNN := Lib.hid hnn
    have hlb : (nn + 1) * 24 ≤ 140737488355328 := by have := len_lsum cols c; have := H1.sum; omega
    clear hnn
    have hB1 := H1.bs
    have hSX := H1.s.lt
    have hCX := H1.c.lt
    have hLX : w.heap.size < X.heap.size := by omega
    have m1 : ¬ S = X.heap.size := by omega
    have m2 : ¬ C = X.heap.size := by omega
    have m3 : ¬ w.heap.size = X.heap.size := by omega
    have HX := Lib.hid H1
    have HR := Lib.hid R1
    have HS1 := Lib.hid S1
    have HOW := Lib.hid hown1
    clear L1 H1 R1 S1 hown1
    go_region_law (have ownA := HOW.out.drew.alloc (.cells (lvv ((rep : Int), (d : Int), n)).toArray 43); have hbA : B ≤ (X.drew.alloc (.cells (lvv ((rep : Int), (d : Int), n)).toArray 43)).heap.size := (by simp; omega); refine step_append_level rfl (.tmp 23) (.tmp 25) rfl B v nn (lvals (cols.getD c [])) rfl ownA X.heap.size (lvv ((rep : Int), (d : Int), n)) rfl rfl (heap_alloc_new X.drew _) (lvv_one _) hlb hbA ?_; intro g6 cap6 w6 hown6 hg6 hor6 hlt6; have hC6 := (show Cel w6 C vs.toArray _ from (hg6.block C (by simp; omega) (fun e => hfar.2 e.symm)).trans ((HX.out.c.drew).alloc _)); have n66 : w6.cell? ⟨C, c, none⟩ = some v := (by rw [hC6.c c, ← HX.out.c.c c]; exact cc); have z66 := hC6.free c; have hS6 := (show Cel w6 S _ _ from (hg6.block S (by simp; omega) (fun e => hfar.1 e.symm)).trans ((HX.out.s.drew).alloc _)); have s66 : w6.cell? ⟨S, 1, none⟩ = some (.slice (some ⟨C, 0, none⟩) N N) := hS6.c 1)
    all_goals (
      clear n66 z66 s66 ownA hbA hC6 hS6
      have hgg := Lib.hid (show (X.drew.alloc (.cells (lvv ((rep : Int), (d : Int), n)).toArray 43)).grownBy w6 v.ownBlock from hg6)
      have hoo := Lib.hid (show v.ownBlock = some g6 ∨ g6 = (X.drew.alloc (.cells (lvv ((rep : Int), (d : Int), n)).toArray 43)).heap.size from hor6)
      have how := Lib.hid hown6
      clear hg6 hor6 hown6
      go_wp2_with fail
      have HX2 := HX.out.drew.next ((Below.refl _ _).alloc (Nat.le_refl _) (.cells (lvv ((rep : Int), (d : Int), n)).toArray 43))
      have e1 := hgg.out
      have e2 := hoo.out
      have e3 := how.out
      rw [← HV.out] at e1 e2
      have e5 := HNN.out
      subst e5
      refine bodyPost_ret (v := .tuple #[]) (by simp [results, Try.results63, go_sem]) rfl ⟨_, (HR.out.drew.alloc _).trans (HX2.frPush hc e1 e2), rfl, a', cap - 1, Shd.slack (HX2.slack (sl' := sl + 11 + 1) (by omega) |>.push hc ((rep : Int), (d : Int), n) e3 e1 e2) (by omega)⟩)

end Go.Proofs.Ytjfkoledbegpfaa
