/- The walk of bloom.Of. -/
import Derived.Test.YtecfknolpnjokaaQ3
namespace Go.Proofs.Ytecfknolpnjokaa
open Go.RowKit
set_option linter.unusedVariables false

set_option maxHeartbeats 4000000 in
set_option maxRecDepth 100000 in
theorem of_any (a : Option Addr) (cap : Nat) (l : List C.Cl) (w : World) (hl : l.length ≤ maxLen) (hx : ∀ x ∈ l, cOk x) (hu : Cls w w.heap.size a l) : Calls Try.prog 16 #[.slice a l.length cap] w (FilPost (Bl.fil Bl.none_ l) w) := by
  unfold maxLen at hl
  have HU := Lib.hid hu
  have HOK := Lib.hid (fun j (h : j < l.length) => hx _ (cgetD_mem l j h))
  clear hu hx
  have hal := (Below.refl w.heap.size w).alloc (Nat.le_refl _) (.cells #[.int .u64 0, .int .u64 0, .int .u64 0, .int .u64 0] 43)
  have r0 := quad_none w
  go_enter Try.func16, Try.ntmps16
  go_wp2_with fail
  refine (none_any _).mono ?_
  rintro e w1 ⟨rfl, hb1⟩
  have r1 := r0.next hb1
  have h1 := below_then hal hb1
  clear r0 hal hb1
  have hr1 := r1.lt
  go_wp2_with fail
  go_loopw [5, 9] (fun _ i wr => ∃ j : Nat, j ≤ l.length ∧ i = .int .i64 j ∧ Quad wr w1.heap.size (Bl.fil Bl.none_ (l.take j)) ∧ Quad wr w.heap.size Bl.none_ ∧ Below w.heap.size w wr) (fun _ i _ => l.length - (intOf i).toNat)
  case atStart =>
    refine ⟨0, by omega, rfl, ?_, ?_, ?_⟩
    · exact quad_new w1 Bl.none_
    · exact r1.next ((Below.refl _ _).alloc (Nat.le_refl _) _)
    · exact h1.alloc (by omega) _
  case round =>
    obtain ⟨j, hj, rfl, hF, hR, hbw⟩ := hrel
    have hjF := hF.lt
    by_cases hlt : j < l.length
    · obtain ⟨b, off, rfl, hb, hcc⟩ := HU.out (fun e => by rw [e] at hlt; simp at hlt)
      obtain ⟨k0, k1, k2⟩ := hcc j hlt
      have c0 := (hbw.cell (p := ⟨b, off + j * 3, none⟩) hb).trans k0
      have c1 := (hbw.cell (p := ⟨b, off + j * 3 + 1, none⟩) hb).trans k1
      have c2 := (hbw.cell (p := ⟨b, off + j * 3 + 2, none⟩) hb).trans k2
      have hok := HOK.out j hlt
      have hfok : Bl.fOk (Bl.fil Bl.none_ (l.take j)) := Bl.fil_ok Bl.none_ok _
      have HA := Lib.hid (fun W => add_any (Bl.fil Bl.none_ (l.take j)) (l.getD j C.null) W hfok hok)
      have HN := Lib.hid (show Bl.add (Bl.fil Bl.none_ (l.take j)) (l.getD j C.null) = Bl.fil Bl.none_ (l.take (j + 1)) by
        rw [ctake_succ l j hlt, Bl.fil_snoc])
      obtain ⟨X, hX⟩ : ∃ X, X = Bl.add (Bl.fil Bl.none_ (l.take j)) (l.getD j C.null) := ⟨_, rfl⟩
      rw [← hX] at HA HN
      clear hX hfok hok
      generalize Bl.fil Bl.none_ (l.take j) = Y at *
      unfold fag cag qv at HA
      have hal2 := (Below.refl wr.heap.size wr).alloc (Nat.le_refl _) (.cells #[.int .i64 (l.getD j C.null).kind, .int .u64 ((l.getD j C.null).num : Int), .string (str (l.getD j C.null).txt)] 38)
      have hF2 := hF.next hal2
      have hR2 := hR.next hal2
      have hb2 := below_then hbw hal2
      generalize (l.getD j C.null).kind = z at *
      generalize (l.getD j C.null).num = n at *
      generalize str (l.getD j C.null).txt = T at *
      obtain ⟨y0, y1, y2, y3⟩ := hF.all
      have hjI : (j : Int) < (l.length : Int) := by omega
      have HF2 := Lib.hid hF2
      have HR2 := Lib.hid hR2
      have HB2 := Lib.hid hb2
      clear k0 k1 k2 hcc hF hR hbw hal2 hF2 hR2 hb2
      go_wp2_with fail
      refine (HA.out _).mono ?_
      rintro e w5 ⟨rfl, hb5⟩
      have q5 := HF2.out.next hb5
      have r5 := HR2.out.next hb5
      have h5 := below_then HB2.out hb5
      clear hb5
      obtain ⟨v0, v1, v2, v3⟩ := q5.all
      have z0 := q5.free 0
      have z1 := q5.free 1
      have z2 := q5.free 2
      have z3 := q5.free 3
      go_wp2_with fail
      refine ⟨⟨j + 1, by omega, by go_num, ?_, r5.far4 _ _ _ _ _ (by omega), below_set4 h5 (by omega) _ _ _ _⟩, by simp [intOf]; omega⟩
      rw [← HN.out]
      exact q5.set4 X
    · obtain rfl : j = l.length := by omega
      rw [List.take_length] at hF
      generalize Bl.fil Bl.none_ l = X at *
      obtain ⟨a0, a1, a2, a3⟩ := hF.all
      have z0 := hR.free 0
      have z1 := hR.free 1
      have z2 := hR.free 2
      have z3 := hR.free 3
      obtain ⟨r0, r1, r2, r3⟩ := hR.all
      obtain ⟨s0, s1, s2, s3⟩ := (hR.set4 X).all
      go_wp2_with fail
      refine bodyPost_ret (v := fag X) (by simp [results, Try.results16, go_sem, fag, qv, s0, s1, s2, s3]) rfl ⟨rfl, ?_⟩
      exact (((hbw.setCell (p := ⟨w.heap.size, 0, none⟩) (by simp) _).setCell (p := ⟨w.heap.size, 1, none⟩) (by simp) _).setCell (p := ⟨w.heap.size, 2, none⟩) (by simp) _).setCell (p := ⟨w.heap.size, 3, none⟩) (by simp) _
end Go.Proofs.Ytecfknolpnjokaa
