/- The walks of the reference's KindsOf, RowAt. -/
import Derived.Test.YtnjnalehfhfefaaTbM
namespace Go.Proofs.Ytnjnalehfhfefaa
open Go.RowKit
set_option linter.unusedVariables false

def KindsPost (ks : List Int) (w : World) (e : Ending) (w' : World) : Prop := ∃ v, e = .returned v ∧ KRow w.heap.size ks v w' ∧ Below w.heap.size w w'
set_option maxHeartbeats 1000000 in
set_option maxRecDepth 100000 in
theorem rKinds_any (a : Option Addr) (c : Nat) (l : List Tb.Col) (w : World) (h6 : l.length ≤ 1048576) (hu : Gls w w.heap.size a l) :
    Calls Try.prog 37 #[.slice a l.length c] w (KindsPost (l.map Tb.Col.kind) w) := by
  have HG := Lib.hid hu
  have HKS := Lib.hid (fun j hj => kinds_step ⟨l, []⟩ j hj)
  have HKE := Lib.hid (show (Tb.kinds ⟨l, []⟩).take l.length = Tb.kinds ⟨l, []⟩ from List.take_of_length_le (by simp [Tb.kinds]))
  have HKL := Lib.hid (fun j (hj : j ≤ l.length) => show ((Tb.kinds ⟨l, []⟩).take j).length = j by rw [List.length_take]; simp [Tb.kinds]; omega)
  have hk : l.map Tb.Col.kind = Tb.kinds ⟨l, []⟩ := rfl
  rw [hk]
  generalize Tb.kinds ⟨l, []⟩ = ks at *
  clear hu hk
  go_enter Try.func37, Try.ntmps37
  go_wp2_with fail
  go_loopw [3, 4] (fun v i wr => ∃ j : Nat, j ≤ l.length ∧ i = .int .i64 j ∧ KRow w.heap.size (ks.take j) v wr ∧ Below w.heap.size w wr) (fun _ i _ => l.length - (intOf i).toNat)
  case atStart => exact ⟨0, by omega, rfl, knilRow _ _, Below.refl _ _⟩
  case round =>
    obtain ⟨j, hj, rfl, hrow, hbw⟩ := hrel
    by_cases hlt : j < l.length
    · obtain ⟨bb, off, rfl, hbb, hcc⟩ := HG.out (fun e => by rw [e] at hlt; simp at hlt)
      obtain ⟨k0, k1⟩ := hcc j hlt
      have e1 := (hbw.cell (p := ⟨bb, off + j * 2 + 1, none⟩) hbb).trans k1
      have hst := HKS.out j hlt
      have hll := HKL.out j hj
      change ks.take (j + 1) = ks.take j ++ [(l.getD j Tb.nulC).kind] at hst
      generalize (l.getD j Tb.nulC).kind = kd at *
      have hjI : (j : Int) < (l.length : Int) := by omega
      have HST := Lib.hid hst
      have HROW2 := Lib.hid (hrow.below ((Below.refl _ _).alloc (Nat.le_refl _) (.cells #[.int .i64 kd] 3)))
      have hlb : ((ks.take j).length + 1) * 8 ≤ 140737488355328 := by omega
      have hb5 : w.heap.size ≤ (wr.alloc (.cells #[.int .i64 kd] 3)).heap.size := by have := hbw.size; simp; omega
      have HB5 := Lib.hid (hbw.alloc hbw.size (.cells #[.int .i64 kd] 3))
      have HCN := Lib.hid (show (wr.alloc (.cells #[.int .i64 kd] 3)).cell? ⟨wr.heap.size, 0, none⟩ = some (.int .i64 kd) from World.cell?_alloc_new _ _ _ _)
      clear hrow hst k0 k1 hcc hll
      go_wp2_with (at_builtin; refine wpList_append_k rfl (.tmp 11) (.tmp 17) rfl w.heap.size _ (ks.take j) rfl HROW2.out wr.heap.size kd rfl HCN.out hlb hb5 ?_)
      intro v' w5 hown5 hb5w
      have hbw5 := HB5.out.trans hb5w
      clear hb5w
      go_wp2_with fail
      exact ⟨⟨j + 1, by omega, by go_num, by rw [HST.out]; exact hown5, hbw5⟩, by simp [intOf]; omega⟩
    · obtain rfl : j = l.length := by omega
      rw [HKE.out] at hrow
      go_wp2_with fail
      go_ret
      exact ⟨_, rfl, hrow, hbw⟩

set_option maxHeartbeats 1000000 in
set_option maxRecDepth 100000 in
theorem rRowAt_any (ca : Option Addr) (cc : Nat) (da : Option Addr) (dc : Nat) (t : Tb.T) (k : Nat) (w : World) (ht : Tbl w w.heap.size ca cc da dc t) (h6 : t.data.length ≤ 1048576) (hk : ∀ i, i < t.data.length → k < (t.data.getD i []).length) :
    Calls Try.prog 17 #[tag ca t.cols.length cc da t.data.length dc, .int .i64 k] w (CellsRowPost (Tb.rowAt t k) w) := by
  have hal : Below w.heap.size w (w.alloc (.cells #[.slice ca t.cols.length cc, .slice da t.data.length dc] 25)) := (Below.refl _ _).alloc (Nat.le_refl _) _
  have hT : Two (w.alloc (.cells #[.slice ca t.cols.length cc, .slice da t.data.length dc] 25)) w.heap.size 25 (.slice ca t.cols.length cc) (.slice da t.data.length dc) := two_new _ _ _ _
  have d0 := hT.c0
  have d1 := hT.c1
  have HD := Lib.hid (ht.next hal).dat
  have HK := Lib.hid hk
  have hst : ∀ j, j < t.data.length → (Tb.rowAt t k).take (j + 1) = (Tb.rowAt t k).take j ++ [(t.data.getD j []).getD k C.null] := fun j hj => by
    rw [ctake_succ _ j (by unfold Tb.rowAt; simpa using hj)]
    unfold Tb.rowAt
    simp [List.getD, List.getElem?_eq_getElem hj]
  have HST := Lib.hid hst
  have HE := Lib.hid (show (Tb.rowAt t k).take t.data.length = Tb.rowAt t k from List.take_of_length_le (by unfold Tb.rowAt; simp))
  have HL := Lib.hid (fun j (hj : j ≤ t.data.length) => show ((Tb.rowAt t k).take j).length = j by rw [List.length_take]; unfold Tb.rowAt; simp; omega)
  generalize Tb.rowAt t k = R at *
  generalize hW : w.alloc (.cells #[.slice ca t.cols.length cc, .slice da t.data.length dc] 25) = W1 at *
  have HW := Lib.hid hW
  have HTT := Lib.hid hT
  clear hW ht hT hst hk
  go_enter Try.func17, Try.ntmps17
  go_wp2_with fail
  rw [HW.out]
  go_wp2_with fail
  go_loopw [5, 6] (fun v i wr => ∃ j : Nat, j ≤ t.data.length ∧ i = .int .i64 j ∧ CRow W1.heap.size (R.take j) v wr ∧ Below W1.heap.size W1 wr) (fun _ i _ => t.data.length - (intOf i).toNat)
  case atStart => exact ⟨0, by omega, rfl, cnilRow _ _, Below.refl _ _⟩
  case round =>
    obtain ⟨j, hj, rfl, hrow, hbw1⟩ := hrel
    have t1 := (HTT.out.next hbw1).c1
    by_cases hlt : j < t.data.length
    · obtain ⟨db, doff, rfl, hdb, hdd⟩ := HD.out (fun e => by rw [e] at hlt; simp at hlt)
      obtain ⟨ai, ci, r0, hri⟩ := hdd j hlt
      have hkj := HK.out j hlt
      have hst := HST.out j hlt
      have HLJ := Lib.hid (HL.out j hj)
      obtain ⟨b, off, rfl, hb, hcell⟩ := hri.cls (fun e => by rw [e] at hkj; simp at hkj)
      obtain ⟨k0, k1, k2⟩ := hcell k hkj
      have hr0 := (hbw1.cell (p := ⟨db, doff + j, none⟩) hdb).trans r0
      have e0 := (hbw1.cell (p := ⟨b, off + k * 3, none⟩) hb).trans k0
      have e1 := (hbw1.cell (p := ⟨b, off + k * 3 + 1, none⟩) hb).trans k1
      have e2 := (hbw1.cell (p := ⟨b, off + k * 3 + 2, none⟩) hb).trans k2
      generalize (t.data.getD j []).getD k C.null = x at *
      obtain ⟨z, n, x⟩ := x
      generalize hn1 : (t.data.getD j []).length = n1 at *
      simp only at e0 e1 e2
      generalize hX : str x = X at *
      have hjI : (j : Int) < (t.data.length : Int) := by omega
      have hkI : (k : Int) < (n1 : Int) := by omega
      have HROW := Lib.hid hrow
      have HSX := Lib.hid hst
      have hlb : ((R.take j).length + 1) * 32 ≤ 140737488355328 := by rw [HLJ.out]; omega
      have hb5 : W1.heap.size ≤ (wr.alloc (.cells #[.int .i64 z, .int .u64 (n : Int), .string X] 30)).heap.size := by have := hbw1.size; simp; omega
      clear hrow hst k0 k1 k2 r0 hcell hdd hri hn1
      go_wp2_with (at_builtin; refine wpList_append_onec rfl (.tmp 14) (.tmp 23) rfl W1.heap.size _ (R.take j) rfl (HROW.out.alloc_ _) wr.heap.size ⟨z, n, x⟩ rfl (World.cell?_alloc_new _ _ _ _) (World.cell?_alloc_new _ _ _ _) (by rw [hX]; exact World.cell?_alloc_new _ _ _ _) hlb hb5 ?_)
      intro v' w5 hown5 hb5w hg5
      have hbw5 : Below W1.heap.size W1 w5 := (hbw1.alloc hbw1.size _).trans hb5w
      clear hb5w hg5
      go_wp2_with fail
      exact ⟨⟨j + 1, by omega, by go_num, by rw [HSX.out]; exact hown5, hbw5⟩, by simp [intOf]; omega⟩
    · obtain rfl : j = t.data.length := by omega
      rw [HE.out] at hrow
      have hrow := hrow.weak hal.size
      go_wp2_with fail
      go_ret
      exact ⟨_, rfl, hrow, below_then hal hbw1⟩
end Go.Proofs.Ytnjnalehfhfefaa
