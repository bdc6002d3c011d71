/- The walk of hypostyleref.DenseOf. -/
import Derived.Test.YtgkhkfmlldnogaaCBase
namespace Go.Proofs.Ytgkhkfmlldnogaa
open Go.RowKit
set_option linter.unusedVariables false

set_option maxHeartbeats 1000000 in
set_option maxRecDepth 100000 in
theorem denseOf_any (a : Option Addr) (c : Nat) (l : List C.Cl) (w : World) (hl : l.length * 32 ≤ 140737488355320) (hu : Cls w w.heap.size a l) :
    Calls Try.prog 21 #[.slice a l.length c] w (CellsRowPost (C.dense l) w) := by
  have HU := Lib.hid hu
  have HD := Lib.hid (fun j h => dense_snoc l j h)
  have HDL := Lib.hid (fun j => dense_le l j)
  have HA := Lib.hid (show C.dense (l.take l.length) = C.dense l by rw [List.take_length])
  clear hu
  go_enter Try.func21, Try.ntmps21
  go_wp2_with fail
  go_loopw [3, 4] (fun v i wr => ∃ k : Nat, k ≤ l.length ∧ i = .int .i64 k ∧ CRow w.heap.size (C.dense (l.take k)) v wr ∧ Below w.heap.size w wr) (fun _ i _ => l.length - (intOf i).toNat)
  case atStart => exact ⟨0, by omega, rfl, cnilRow _ _, Below.refl _ _⟩
  case round =>
    obtain ⟨k, hk, rfl, hrow, hbw⟩ := hrel
    by_cases hlt : k < l.length
    · obtain ⟨b, off, rfl, hb, hcc⟩ := HU.out (fun e => by rw [e] at hlt; simp at hlt)
      obtain ⟨k0, k1, k2⟩ := hcc k hlt
      have c0 := (hbw.cell (p := ⟨b, off + k * 3, none⟩) hb).trans k0
      have c1 := (hbw.cell (p := ⟨b, off + k * 3 + 1, none⟩) hb).trans k1
      have c2 := (hbw.cell (p := ⟨b, off + k * 3 + 2, none⟩) hb).trans k2
      have hd := HD.out k hlt
      have hal := HDL.out k
      have hkI : (k : Int) < (l.length : Int) := by omega
      obtain ⟨y, hy⟩ : ∃ y, y = l.getD k C.null := ⟨_, rfl⟩
      rw [← hy] at c0 c1 c2 hd
      obtain ⟨z, n, x⟩ := y
      simp only at c0 c1 c2 hd
      generalize C.dense (l.take k) = acc at *
      clear k0 k1 k2 hcc hy
      by_cases hz : z = 0
      · subst hz
        rw [if_pos rfl] at hd
        have HDN := Lib.hid hd
        clear hd
        go_wp2_with fail
        exact ⟨⟨k + 1, by omega, by go_num, by rw [HDN.out]; exact hrow, hbw⟩, by simp [intOf]; omega⟩
      · rw [if_neg hz] at hd
        have HDN := Lib.hid hd
        have g1 : (z != 0) = true := by rw [bne_iff_ne]; exact hz
        generalize hX : str x = X at *
        have HROW := Lib.hid hrow
        have hlb : (acc.length + 1) * 32 ≤ 140737488355328 := by omega
        have hb5 : w.heap.size ≤ (wr.alloc (.cells #[.int .i64 z, .int .u64 (n : Int), .string X] 25)).heap.size := by have := hbw.size; simp; omega
        clear hrow hd hz
        go_wp2_with (at_builtin; refine wpList_append_onec rfl (.tmp 17) (.tmp 22) rfl w.heap.size _ acc rfl (HROW.out.alloc_ _) wr.heap.size ⟨z, n, x⟩ rfl (World.cell?_alloc_new _ _ _ _) (World.cell?_alloc_new _ _ _ _) (by rw [hX]; exact World.cell?_alloc_new _ _ _ _) hlb hb5 ?_)
        intro v' w5 hown5 hb5w hg5
        have hbw5 : Below w.heap.size w w5 := (hbw.alloc hbw.size _).trans hb5w
        clear hb5w hg5
        go_wp2_with fail
        exact ⟨⟨k + 1, by omega, by go_num, by rw [HDN.out]; exact hown5, hbw5⟩, by simp [intOf]; omega⟩
    · obtain rfl : k = l.length := by omega
      rw [HA.out] at hrow
      go_wp2_with fail
      go_ret
      exact ⟨_, rfl, hrow, hbw⟩
end Go.Proofs.Ytgkhkfmlldnogaa
