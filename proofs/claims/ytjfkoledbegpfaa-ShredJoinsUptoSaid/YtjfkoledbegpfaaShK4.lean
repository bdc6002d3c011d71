/- The walk of hypostyleref.joinCols. -/
import Derived.Test.YtjfkoledbegpfaaShK3
namespace Go.Proofs.Ytjfkoledbegpfaa
open Go.RowKit
open Sh (Lv zipA)
set_option linter.unusedVariables false

theorem zip_take {a b : List (List Lv)} {j : Nat} (h : a.length = b.length) (hj : j < a.length) : (zipA a b).take (j + 1) = (zipA a b).take j ++ [a.getD j [] ++ b.getD j []] := by
  rw [gtake_succ [] _ j (by rw [Sh.zipA_length _ _ h]; exact hj), Sh.zipA_get a b h]

set_option maxHeartbeats 4000000 in
set_option maxRecDepth 100000 in
theorem join_any (w : World) (B1 B2 n : Nat) (v1 v2 : Value) (D1 D2 : List (List Lv)) (h1 : COut w B1 v1 n D1) (h2 : COut w B2 v2 n D2) (hn : n ≤ 1000) (hb : ∀ i, (D1.getD i []).length + (D2.getD i []).length ≤ 100000) :
    Calls Try.prog 30 #[v1, v2] w (CPost w n (zipA D1 D2)) := by
  obtain ⟨A1, cp1, rfl, -⟩ := h1.form
  obtain ⟨A2, cp2, rfl, -⟩ := h2.form
  have H1 := Lib.hid h1
  have H2 := Lib.hid h2
  have HB := Lib.hid hb
  have HZL := Lib.hid (show (zipA D1 D2).length = n by rw [Sh.zipA_length _ _ (h1.1.trans h2.1.symm), h1.1])
  have HZ := Lib.hid (fun j (hj : j < n) => zip_take (h1.1.trans h2.1.symm) (show j < D1.length by rw [h1.1]; exact hj))
  clear h1 h2 hb
  go_enter Try.func30, Try.ntmps30
  go_wp2_with fail
  go_loopw [5, 6] (fun v i wr => ∃ (j : Nat) (A : Option Addr) (cp : Nat), j ≤ n ∧ i = .int .i64 j ∧ v = .slice A j cp ∧ Below w.heap.size w wr ∧ Hid (COut wr w.heap.size (.slice A j cp) j ((zipA D1 D2).take j))) (fun _ i _ => n - (intOf i).toNat)
  case atStart => exact ⟨0, none, 0, Nat.zero_le _, rfl, rfl, Below.refl _ _, Lib.hid (by rw [List.take_zero]; exact COut.nil _ _)⟩
  case round =>
    obtain ⟨j, A, cp, hj, rfl, rfl, hbw, HCO⟩ := hrel
    rename World => wr
    by_cases hlt : j < n
    · have hjI : (j : Int) < (n : Int) := by omega
      obtain ⟨g1, xa, xc, rfl, hl1, q1, r1, s1, t1, u1⟩ := H1.out.at hlt
      obtain ⟨g2, ya, yc, rfl, hl2, q2, r2, s2, t2, u2⟩ := H2.out.at hlt
      have hbj := HB.out j
      have hzj := HZ.out j hlt
      generalize D1.getD j [] = x at *
      generalize D2.getD j [] = y at *
      obtain ⟨nx, hnx⟩ : ∃ n, n = x.length := ⟨_, rfl⟩
      obtain ⟨ny, hny⟩ : ∃ n, n = y.length := ⟨_, rfl⟩
      obtain ⟨nz, hnz⟩ : ∃ n, n = nx + ny := ⟨_, rfl⟩
      rw [← hnx] at q1 hbj
      rw [← hny] at q2 hbj
      have f1 : ∀ W, Below w.heap.size w W → W.cell? ⟨g1, j, none⟩ = some (.slice xa nx xc) := fun W hb => (hb.cell (p := ⟨g1, j, none⟩) hl1).trans q1
      have f2 : ∀ W, Below w.heap.size w W → W.cell? ⟨g2, j, none⟩ = some (.slice ya ny yc) := fun W hb => (hb.cell (p := ⟨g2, j, none⟩) hl2).trans q2
      have HX := Lib.hid (fun W (hb : Below w.heap.size w W) => (r1.below hb).mono hb.size)
      have HY := Lib.hid (fun W (hb : Below w.heap.size w W) => (r2.below hb).mono hb.size)
      have HNX := Lib.hid hnx
      have HNY := Lib.hid hny
      have HNZ := Lib.hid hnz
      have HUX := Lib.hid u1
      have HUY := Lib.hid u2
      have HZJ := Lib.hid hzj
      have hbx : nx * 24 ≤ 140737488355328 := by omega
      have hbz : nz * 24 ≤ 140737488355328 := by omega
      have hby : (j + 1) * 24 ≤ 140737488355328 := by omega
      have hww := hbw.size
      have bD : Below wr.heap.size wr wr.drew := (Below.refl wr.heap.size wr).drew
      have HLE := Lib.hid (show nz = ([] ++ x ++ y).length by rw [List.nil_append, List.length_append, ← hnx, ← hny]; exact hnz)
      clear q1 q2 r1 r2 s1 s2 t1 t2 u1 u2 hl1 hl2 hnx hny hnz hbj hzj
      go_wp2_with fail
      go_region_held3 (fun W => Below w.heap.size w W)
        (first
          | assumption
          | exact (show Below w.heap.size w _ by assumption).drew
          | exact Below.alloc (by assumption) (Below.size (by assumption)) _
          | exact Below.trans (by assumption) (hb9.mono hww)
          | exact Below.trans (by assumption) hb9)
        (first
          | (refine step_append_lv (by rfl) (.tmp 14) (.tmp 18) (by rfl) wr.heap.size _ 0 nx [] (by rfl) ?_ xa nx xc x HNX.out.symm (Nat.zero_add _).symm (by rfl) HUX.out ?_ hbx ?_ ?_
             · exact lempty (by first | exact heap_alloc_new _ _ | simp [World.alloc, World.drew]) (by first | exact Nat.le_refl _ | exact bD.size)
             · exact HX.out _ (by assumption)
             · first | exact (bD.alloc bD.size _).size | exact (bD.alloc bD.size _).drew.size
             intro A9 c9 w9 hown9 hb9
             have hc9 : Below wr.heap.size wr w9 := by first | exact Below.trans (bD.alloc bD.size _) hb9 | exact Below.trans (bD.alloc bD.size _).drew hb9)
          | (refine step_append_lv (by rfl) (.tmp 19) (.tmp 23) (by rfl) wr.heap.size _ nx nz ([] ++ x) (by rfl) ?_ ya ny yc y HNY.out.symm HNZ.out (by rfl) HUY.out ?_ hbz ?_ ?_
             · exact hown9
             · exact HY.out _ (by assumption)
             · first | exact hc9.size | exact hc9.drew.size
             intro A8 c8 w9 hown8 hb9
             have hc8 : Below wr.heap.size wr w9 := by first | exact Below.trans hc9 hb9 | exact Below.trans hc9.drew hb9)
          | (refine step_append_col (by rfl) (.tmp 13) (.tmp 25) (by rfl) w.heap.size _ j ((zipA D1 D2).take j) (by rfl) ?_ _ (.slice A8 nz c8) ([] ++ x ++ y) ?_ (by rfl) ?_ hby ?_ ?_
             · first | exact HCO.out.next (hc8.alloc hc8.size _) | exact HCO.out.next (hc8.drew.alloc hc8.size _)
             · first | exact own_down (HLE.out ▸ row_below hown8 ((Below.refl _ _).alloc (Nat.le_refl _) _)) hww
             · exact heap_alloc_new _ _
             · first | exact Nat.le_trans hww (hc8.alloc hc8.size _).size
             intro A7 c7 w9 hown7 hb9))
      all_goals
        have hS := Lib.hid (show Below w.heap.size w w9 by assumption)
        have HFIN := Lib.hid (show COut w9 w.heap.size (.slice A7 (j + 1) c7) (j + 1) ((zipA D1 D2).take (j + 1)) by rw [HZJ.out]; rw [List.nil_append] at hown7; exact hown7)
        obtain ⟨W9, hW9⟩ : ∃ W, W = w9 := ⟨_, rfl⟩
        rw [← hW9] at hS HFIN ⊢
        clear hW9 hown7 hown8 hown9 hc8 hc9 f1 f2 bD
        go_wp2_with fail
        exact ⟨⟨j + 1, A7, c7, by omega, by go_num, rfl, hS.out, HFIN⟩, by simp [intOf]; omega⟩
    · obtain rfl : j = n := by omega
      have hjI : ¬ (j : Int) < (j : Int) := by omega
      have HF := Lib.hid (show COut wr w.heap.size (.slice A j cp) j (zipA D1 D2) by have := HCO.out; rwa [List.take_of_length_le (by rw [HZL.out]; exact Nat.le_refl _)] at this)
      go_wp2_with fail
      go_ret
      exact ⟨A, cp, rfl, HF.out, hbw⟩
end Go.Proofs.Ytjfkoledbegpfaa
