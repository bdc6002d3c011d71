/- fs.entry. -/
import Derived.Test.YtmjcdjekakaigaaFsW1
import Derived.BigQuiet
namespace Go.Proofs.Ytmjcdjekakaigaa.Fs
open Go.RowKit
set_option linter.unusedVariables false

theorem leq_eq (x y : S) : (Op.bytesLess (str x).toList (str y).toList || (str x).toList == (str y).toList) = !decide (y < x) := by
  rw [less_eq, tl_eq]
  by_cases h : y < x
  · rw [decide_eq_true h, decide_eq_false (fun h2 => List.lt_irrefl _ (List.lt_trans h h2)), decide_eq_false (fun e => by rw [e] at h; exact List.lt_irrefl _ h)]; rfl
  · rw [decide_eq_false h]
    by_cases h2 : x < y
    · rw [decide_eq_true h2]; rfl
    · have : x = y := List.le_antisymm h h2
      rw [decide_eq_false h2, decide_eq_true this]; rfl
set_option maxHeartbeats 1000000 in
set_option maxRecDepth 100000 in
theorem entry_any (a : Option Addr) (c n : Nat) (l : List En) (x : En) (w : World) (hm : l.length ≤ maxLen) (hn : n ≤ maxLen) (hx : enOk x) (hu : Ens w w.heap.size a l) :
    Calls Try.prog 33 #[.slice a l.length c, enV x, .int .i64 n] w (NumPost (entE n l x) w) := by
  have hal : Below w.heap.size w (w.alloc (.cells #[.string (str x.name), .int .i64 x.node] 47)) := (Below.refl _ _).alloc (Nat.le_refl _) _
  have hT : Bk (w.alloc (.cells #[.string (str x.name), .int .i64 x.node] 47)) w.heap.size 47 #[.string (str x.name), .int .i64 x.node] := bk_new _ _ _
  have H1 := Lib.hid (isName_any x.name (w.alloc (.cells #[.string (str x.name), .int .i64 x.node] 47)) hx.1)
  have H2 := Lib.hid (fun W (hb : Below (w.alloc (.cells #[.string (str x.name), .int .i64 x.node] 47)).heap.size (w.alloc (.cells #[.string (str x.name), .int .i64 x.node] 47)) W) => contains_any w.heap.size x a c l W hm ((hu.next enAt_firm hal).next enAt_firm hb) (hT.next hb))
  obtain ⟨_, hx1, hx2⟩ := hx
  have hle := leq_eq x.name (l.getD (l.length - 1) nulE).name
  have HU := Lib.hid (hu.next enAt_firm hal)
  unfold maxLen at hm hn
  unfold enV entE
  obtain ⟨c0, c1⟩ := hT.two
  have HT := Lib.hid hT
  have hs0 : w.heap.size ≤ (w.alloc (.cells #[.string (str x.name), .int .i64 x.node] 47)).heap.size := hal.size
  clear hT hu
  by_cases g1 : isName x.name = false
  · rw [if_pos g1]
    rw [g1] at H1
    generalize str x.name = X at *
    clear hle
    go_enter Try.func33, Try.ntmps33
    go_wp2_with fail
    refine (H1.out).mono ?_
    rintro e w1 ⟨rfl, hb1⟩
    go_wp2_with fail
    go_ret
    exact ⟨rfl, hal.trans (hb1.mono hs0)⟩
  rw [if_neg g1]
  have g1' : isName x.name = true := by simpa using g1
  rw [g1'] at H1
  clear g1 g1'
  by_cases g2 : 0 < l.length ∧ ¬ (l.getD (l.length - 1) nulE).name < x.name
  · rw [if_pos g2]
    obtain ⟨g3, g4⟩ := g2
    rw [decide_eq_false g4] at hle
    obtain ⟨bb, off, rfl, hbb, hcc⟩ := HU.out (fun e => by rw [e] at g3; simp at g3)
    have HK := Lib.hid (hcc (l.length - 1) (by omega)).1
    have hlI : (l.length : Int) - 1 = ((l.length - 1 : Nat) : Int) := by omega
    have HLI := Lib.hid hlI
    generalize (l.getD (l.length - 1) nulE).name = y at *
    clear hcc hlI
    go_enter Try.func33, Try.ntmps33
    go_wp2_with fail
    refine (H1.out).mono ?_
    rintro e w1 ⟨rfl, hb1⟩
    obtain ⟨d0, d1⟩ := (HT.out.next hb1).two
    have k0 := (hb1.cell (p := ⟨bb, off + (l.length - 1) * 2, none⟩) hbb).trans HK.out
    go_wp2_with fail
    go_quiet (fail)
    go_wp2_with fail
    go_ret
    exact ⟨rfl, hal.trans (below_drewN (hb1.mono hs0) nq)⟩
  rw [if_neg g2]
  have g2' : 0 < l.length → (!decide ((l.getD (l.length - 1) nulE).name < x.name)) = false := fun h => by
    rw [Bool.not_eq_false', decide_eq_true_eq]; exact Classical.byContradiction fun hh => g2 ⟨h, hh⟩
  by_cases g3 : 0 < l.length
  · have g4 := g2' g3
    rw [← leq_eq] at g4
    obtain ⟨bb, off, rfl, hbb, hcc⟩ := HU.out (fun e => by rw [e] at g3; simp at g3)
    have HK := Lib.hid (hcc (l.length - 1) (by omega)).1
    generalize (l.getD (l.length - 1) nulE).name = y at *
    clear hcc hle g2 g2'
    by_cases k1 : x.node < 0
    · rw [if_pos (Or.inl k1)]
      have q1 : decide (x.node < 0) = true := decide_eq_true k1
      go_enter Try.func33, Try.ntmps33
      go_wp2_with fail
      refine (H1.out).mono ?_
      rintro e w1 ⟨rfl, hb1⟩
      obtain ⟨d0, d1⟩ := (HT.out.next hb1).two
      have k0 := (hb1.cell (p := ⟨bb, off + (l.length - 1) * 2, none⟩) hbb).trans HK.out
      go_wp2_with fail
      go_quiet (fail)
      go_wp2_with fail
      go_ret
      exact ⟨rfl, hal.trans (below_drewN (hb1.mono hs0) _)⟩
    have q1 : decide (x.node < 0) = false := decide_eq_false k1
    by_cases k2 : (n : Int) ≤ x.node
    · rw [if_pos (Or.inr k2)]
      have q2 : decide ((n : Int) ≤ x.node) = true := decide_eq_true k2
      have q3 : decide (x.node ≥ (n : Int)) = true := decide_eq_true k2
      go_enter Try.func33, Try.ntmps33
      go_wp2_with fail
      refine (H1.out).mono ?_
      rintro e w1 ⟨rfl, hb1⟩
      obtain ⟨d0, d1⟩ := (HT.out.next hb1).two
      have k0 := (hb1.cell (p := ⟨bb, off + (l.length - 1) * 2, none⟩) hbb).trans HK.out
      go_wp2_with fail
      go_quiet (fail)
      go_wp2_with fail
      go_ret
      exact ⟨rfl, hal.trans (below_drewN (hb1.mono hs0) _)⟩
    rw [if_neg (by omega)]
    have q2 : decide ((n : Int) ≤ x.node) = false := decide_eq_false k2
    generalize hR : (l.any fun y => decide (y.node = x.node)) = R at *
    clear hR
    cases R with
    | true =>
      rw [if_pos rfl]
      go_enter Try.func33, Try.ntmps33
      go_wp2_with fail
      refine (H1.out).mono ?_
      rintro e w1 ⟨rfl, hb1⟩
      obtain ⟨d0, d1⟩ := (HT.out.next hb1).two
      have k0 := (hb1.cell (p := ⟨bb, off + (l.length - 1) * 2, none⟩) hbb).trans HK.out
      go_wp2_with fail
      go_quiet (fail)
      go_wp2_with fail
      refine (H2.out _ (below_drewN hb1 nq)).mono ?_
      rintro e w2 ⟨rfl, hb2⟩
      go_wp2_with fail
      go_ret
      exact ⟨rfl, hal.trans ((below_then (below_drewN hb1 nq) hb2).mono hs0)⟩
    | false =>
      rw [if_neg (by simp)]
      go_enter Try.func33, Try.ntmps33
      go_wp2_with fail
      refine (H1.out).mono ?_
      rintro e w1 ⟨rfl, hb1⟩
      obtain ⟨d0, d1⟩ := (HT.out.next hb1).two
      have k0 := (hb1.cell (p := ⟨bb, off + (l.length - 1) * 2, none⟩) hbb).trans HK.out
      go_wp2_with fail
      go_quiet (fail)
      go_wp2_with fail
      refine (H2.out _ (below_drewN hb1 nq)).mono ?_
      rintro e w2 ⟨rfl, hb2⟩
      go_wp2_with fail
      go_ret
      exact ⟨rfl, hal.trans ((below_then (below_drewN hb1 nq) hb2).mono hs0)⟩
  · have g4 : decide ((0 : Int) < (l.length : Int)) = false := decide_eq_false (by omega)
    clear hle g2 g2'
    by_cases k1 : x.node < 0
    · rw [if_pos (Or.inl k1)]
      have q1 : decide (x.node < 0) = true := decide_eq_true k1
      go_enter Try.func33, Try.ntmps33
      go_wp2_with fail
      refine (H1.out).mono ?_
      rintro e w1 ⟨rfl, hb1⟩
      obtain ⟨d0, d1⟩ := (HT.out.next hb1).two
      go_wp2_with fail
      go_quiet (fail)
      go_wp2_with fail
      go_ret
      exact ⟨rfl, hal.trans (below_drewN (hb1.mono hs0) _)⟩
    have q1 : decide (x.node < 0) = false := decide_eq_false k1
    by_cases k2 : (n : Int) ≤ x.node
    · rw [if_pos (Or.inr k2)]
      have q2 : decide ((n : Int) ≤ x.node) = true := decide_eq_true k2
      have q3 : decide (x.node ≥ (n : Int)) = true := decide_eq_true k2
      go_enter Try.func33, Try.ntmps33
      go_wp2_with fail
      refine (H1.out).mono ?_
      rintro e w1 ⟨rfl, hb1⟩
      obtain ⟨d0, d1⟩ := (HT.out.next hb1).two
      go_wp2_with fail
      go_quiet (fail)
      go_wp2_with fail
      go_ret
      exact ⟨rfl, hal.trans (below_drewN (hb1.mono hs0) _)⟩
    rw [if_neg (by omega)]
    have q2 : decide ((n : Int) ≤ x.node) = false := decide_eq_false k2
    generalize hR : (l.any fun y => decide (y.node = x.node)) = R at *
    clear hR
    cases R with
    | true =>
      rw [if_pos rfl]
      go_enter Try.func33, Try.ntmps33
      go_wp2_with fail
      refine (H1.out).mono ?_
      rintro e w1 ⟨rfl, hb1⟩
      obtain ⟨d0, d1⟩ := (HT.out.next hb1).two
      go_wp2_with fail
      go_quiet (fail)
      go_wp2_with fail
      refine (H2.out _ (below_drewN hb1 nq)).mono ?_
      rintro e w2 ⟨rfl, hb2⟩
      go_wp2_with fail
      go_ret
      exact ⟨rfl, hal.trans ((below_then (below_drewN hb1 nq) hb2).mono hs0)⟩
    | false =>
      rw [if_neg (by simp)]
      go_enter Try.func33, Try.ntmps33
      go_wp2_with fail
      refine (H1.out).mono ?_
      rintro e w1 ⟨rfl, hb1⟩
      obtain ⟨d0, d1⟩ := (HT.out.next hb1).two
      go_wp2_with fail
      go_quiet (fail)
      go_wp2_with fail
      refine (H2.out _ (below_drewN hb1 nq)).mono ?_
      rintro e w2 ⟨rfl, hb2⟩
      go_wp2_with fail
      go_ret
      exact ⟨rfl, hal.trans ((below_then (below_drewN hb1 nq) hb2).mono hs0)⟩
end Go.Proofs.Ytmjcdjekakaigaa.Fs
