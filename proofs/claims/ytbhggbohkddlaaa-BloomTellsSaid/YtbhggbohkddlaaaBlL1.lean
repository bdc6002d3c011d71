/- The law BloomTells. -/
import Derived.Test.YtbhggbohkddlaaaBlB
import Derived.Test.YtbhggbohkddlaaaBlR4
namespace Go.Proofs.Ytbhggbohkddlaaa
open Go.RowKit
set_option linter.unusedVariables false

theorem two_iter {X Y : Bl.F} (h : ∀ j, j < 4 → X j = Y j) : (X 0 = Y 0 ∧ X 1 = Y 1 ∧ X 2 = Y 2 ∧ X 3 = Y 3) := (four_iff X Y).2 h
theorem eql_self (X : Bl.F) (w : World) : (binOp .eql 23 (.agg #[.int .u64 (X 0 : Nat), .int .u64 (X 1 : Nat), .int .u64 (X 2 : Nat), .int .u64 (X 3 : Nat)]) (.agg #[.int .u64 (X 0 : Nat), .int .u64 (X 1 : Nat), .int .u64 (X 2 : Nat), .int .u64 (X 3 : Nat)])).run Try.prog w = .ok (.bool true) w := by
  rw [fil_eql, decide_eq_true (two_iter (fun _ _ => rfl))]
theorem one_clit (c : C.Cl) (w : World) : Cls (w.alloc (.cells #[.int .i64 c.kind, .int .u64 (c.num : Int), .string (str c.txt)] 26)) (w.alloc (.cells #[.int .i64 c.kind, .int .u64 (c.num : Int), .string (str c.txt)] 26)).heap.size (some ⟨w.heap.size, 0, none⟩) [c] := cls_lit w [c]
theorem Cls.drew {w : World} {a : Option Addr} {l : List C.Cl} (h : Cls w w.heap.size a l) : Cls w.drew w.drew.heap.size a l := h

set_option maxHeartbeats 8000000 in
set_option maxRecDepth 100000 in
theorem bloomTells_walk (w : World) (f : Bl.F) (hf : Bl.fOk f) (g : Bl.F) (hg : Bl.fOk g) (a : Option Addr) (cap : Nat) (l : List C.Cl) (hm : l.length ≤ maxLen) (hq : l.length ≤ cap ∧ cap ≤ maxLen ∧ (a = none → cap = 0)) (hx : ∀ x ∈ l, cOk x) (hu : Cls w w.heap.size a l)
    (c : C.Cl) (hc : cOk c) (hr : l.length * 32 ≤ 140737488351232) (ht : ∀ x ∈ l, x.txt.length ≤ 140737488351232) (htc : c.txt.length ≤ 140737488351232) :
    Calls Try.prog 3 #[fag f, fag g, .slice a l.length cap, cag c] w (BoolPost true w) := by
  have HH := Lib.hid (fun W => hash_any c W hc)
  have HHO := Lib.hid (fun W => hashOf_any c W hc (by unfold maxLen; omega))
  have HAD := Lib.hid (fun W => add_any f c W hf hc)
  have HFC := Lib.hid (fun W a2 (h : Cls W W.heap.size a2 [c]) => by
    have := filterOf_any f a2 1 [c] W hf (by simp [maxLen]) (by intro x hx; rw [List.mem_singleton.1 hx]; exact hc) (by intro x hx; rw [List.mem_singleton.1 hx]; unfold maxLen; omega) h
    rw [show Bl.fil f [c] = Bl.add f c from rfl] at this; exact this)
  have HOF := Lib.hid (fun W (hb : Below w.heap.size w W) => of_any a cap l W hm hx (hu.next hb))
  have HFL := Lib.hid (fun W (hb : Below w.heap.size w W) => filterOf_any Bl.none_ a cap l W Bl.none_ok hm hx (fun x h => by have := ht x h; unfold maxLen; omega) (hu.next hb))
  have HMA := Lib.hid (fun W => may_any f c W hf hc)
  have HMO := Lib.hid (fun W => mayOf_any f c W hf hc (by unfold maxLen; omega))
  have HU := Lib.hid (fun W => union_any f g W hf hg)
  have HUO := Lib.hid (fun W => unionOf_any f g W hf hg)
  have hclit := one_clit c
  clear hf hg hx hu hc hm hq hr ht htc
  generalize Bl.hash c = h at *
  generalize Bl.may f c = mb at *
  obtain ⟨X, hX⟩ : ∃ X, X = Bl.add f c := ⟨_, rfl⟩
  obtain ⟨Y, hY⟩ : ∃ Y, Y = Bl.fil Bl.none_ l := ⟨_, rfl⟩
  obtain ⟨Z, hZ⟩ : ∃ Z, Z = Bl.orf f g := ⟨_, rfl⟩
  rw [← hX] at HAD HFC
  rw [← hY] at HOF HFL
  rw [← hZ] at HU HUO
  clear hX hY hZ
  have HFL := Lib.hid (fun W hb => show Calls Try.prog 10 #[.agg #[.int .u64 0, .int .u64 0, .int .u64 0, .int .u64 0], .slice a l.length cap] W (FilPost Y W) from HFL.out W hb)
  have HFC := Lib.hid (fun W a2 (h : Cls W W.heap.size a2 [c]) => show Calls Try.prog 10 #[.agg #[.int .u64 (f 0 : Nat), .int .u64 (f 1 : Nat), .int .u64 (f 2 : Nat), .int .u64 (f 3 : Nat)], .slice a2 1 1] W (FilPost X W) from HFC.out W a2 h)
  have e1 := eql_self X
  have e2 := eql_self Y
  have e3 := eql_self Z
  have hgd := guards_fil .eql
  unfold fag cag qv at *
  have HCL := Lib.hid hclit
  have hne : ∀ w : World, (binOp .eql 4 (.bool mb) (.bool mb)).run Try.prog w = .ok (.bool true) w := by intro w; simp [go_sem]
  clear hclit
  go_enter Try.func3, Try.ntmps3
  go_wp2_with fail
  have q0 := quad_new w f
  have p0 := quad_new (w.alloc (.cells (qv f) 23)) g
  have t0 := tri_new ((w.alloc (.cells (qv f) 23)).alloc (.cells (qv g) 23)) (.int .i64 c.kind) (.int .u64 (c.num : Int)) (.string (str c.txt))
  have q2 := (q0.next ((Below.refl _ _).alloc (Nat.le_refl _) (.cells (qv g) 23))).next ((Below.refl _ _).alloc (Nat.le_refl _) (.cells #[.int .i64 c.kind, .int .u64 (c.num : Int), .string (str c.txt)] 26))
  have p2 := p0.next ((Below.refl _ _).alloc (Nat.le_refl _) (.cells #[.int .i64 c.kind, .int .u64 (c.num : Int), .string (str c.txt)] 26))
  have hbw : Below w.heap.size w (((w.alloc (.cells (qv f) 23)).alloc (.cells (qv g) 23)).alloc (.cells #[.int .i64 c.kind, .int .u64 (c.num : Int), .string (str c.txt)] 26)) := by
    refine Below.alloc (Below.alloc (Below.alloc (Below.refl _ _) (Nat.le_refl _) _) ?_ _) ?_ _ <;> simp <;> omega
  rw [show (w.alloc (.cells (qv f) 23)).heap.size = w.heap.size + 1 by simp] at p2
  rw [show ((w.alloc (.cells (qv f) 23)).alloc (.cells (qv g) 23)).heap.size = w.heap.size + 1 + 1 by simp] at t0
  clear q0 p0
  unfold qv at q2 p2 t0 hbw
  generalize ((w.alloc (.cells #[.int .u64 (f 0 : Nat), .int .u64 (f 1 : Nat), .int .u64 (f 2 : Nat), .int .u64 (f 3 : Nat)] 23)).alloc (.cells #[.int .u64 (g 0 : Nat), .int .u64 (g 1 : Nat), .int .u64 (g 2 : Nat), .int .u64 (g 3 : Nat)] 23)).alloc (.cells #[.int .i64 c.kind, .int .u64 (c.num : Int), .string (str c.txt)] 26) = W0 at *
  have fa := q2.all
  have fb := p2.all
  have l1 := q2.lt
  have l2 := p2.lt
  have l3 := t0.lt
  have a0 : ∀ W, Below W0.heap.size W0 W → W.cell? ⟨w.heap.size, 0, none⟩ = some (.int .u64 (f 0 : Nat)) := fun W h => (h.cell (p := ⟨w.heap.size, 0, none⟩) l1).trans fa.1
  have a1 : ∀ W, Below W0.heap.size W0 W → W.cell? ⟨w.heap.size, 1, none⟩ = some (.int .u64 (f 1 : Nat)) := fun W h => (h.cell (p := ⟨w.heap.size, 1, none⟩) l1).trans fa.2.1
  have a2 : ∀ W, Below W0.heap.size W0 W → W.cell? ⟨w.heap.size, 2, none⟩ = some (.int .u64 (f 2 : Nat)) := fun W h => (h.cell (p := ⟨w.heap.size, 2, none⟩) l1).trans fa.2.2.1
  have a3 : ∀ W, Below W0.heap.size W0 W → W.cell? ⟨w.heap.size, 3, none⟩ = some (.int .u64 (f 3 : Nat)) := fun W h => (h.cell (p := ⟨w.heap.size, 3, none⟩) l1).trans fa.2.2.2
  have b0 : ∀ W, Below W0.heap.size W0 W → W.cell? ⟨w.heap.size + 1, 0, none⟩ = some (.int .u64 (g 0 : Nat)) := fun W h => (h.cell (p := ⟨w.heap.size + 1, 0, none⟩) l2).trans fb.1
  have b1 : ∀ W, Below W0.heap.size W0 W → W.cell? ⟨w.heap.size + 1, 1, none⟩ = some (.int .u64 (g 1 : Nat)) := fun W h => (h.cell (p := ⟨w.heap.size + 1, 1, none⟩) l2).trans fb.2.1
  have b2 : ∀ W, Below W0.heap.size W0 W → W.cell? ⟨w.heap.size + 1, 2, none⟩ = some (.int .u64 (g 2 : Nat)) := fun W h => (h.cell (p := ⟨w.heap.size + 1, 2, none⟩) l2).trans fb.2.2.1
  have b3 : ∀ W, Below W0.heap.size W0 W → W.cell? ⟨w.heap.size + 1, 3, none⟩ = some (.int .u64 (g 3 : Nat)) := fun W h => (h.cell (p := ⟨w.heap.size + 1, 3, none⟩) l2).trans fb.2.2.2
  have d0 : ∀ W, Below W0.heap.size W0 W → W.cell? ⟨w.heap.size + 1 + 1, 0, none⟩ = some (.int .i64 c.kind) := fun W h => (h.cell (p := ⟨w.heap.size + 1 + 1, 0, none⟩) l3).trans t0.c0
  have d1 : ∀ W, Below W0.heap.size W0 W → W.cell? ⟨w.heap.size + 1 + 1, 1, none⟩ = some (.int .u64 (c.num : Int)) := fun W h => (h.cell (p := ⟨w.heap.size + 1 + 1, 1, none⟩) l3).trans t0.c1
  have d2 : ∀ W, Below W0.heap.size W0 W → W.cell? ⟨w.heap.size + 1 + 1, 2, none⟩ = some (.string (str c.txt)) := fun W h => (h.cell (p := ⟨w.heap.size + 1 + 1, 2, none⟩) l3).trans t0.c2
  clear fa fb l1 l2 l3 q2 p2 t0
  have hself : Below W0.heap.size W0 W0 := Below.refl _ _
  have HFL2 := Lib.hid (fun W (h : Below W0.heap.size W0 W) => HFL.out W (below_then hbw h))
  have HOF2 := Lib.hid (fun W (h : Below W0.heap.size W0 W) => HOF.out W (below_then hbw h))
  go_region_held3 (fun W => Below W0.heap.size W0 W)
    (first
      | assumption
      | exact (show Below W0.heap.size W0 _ by assumption).drew
      | exact Below.alloc (by assumption) (Below.size (by assumption)) _
      | exact below_then (by assumption) hb9)
    (first
      | (go_at_call 6; refine (blbegun_any _).mono ?_; rintro e w9 ⟨rfl, hb9⟩)
      | (go_at_call 7; refine (HH.out _).mono ?_; rintro e w9 ⟨rfl, hb9⟩)
      | (go_at_call 8; refine (HHO.out _).mono ?_; rintro e w9 ⟨rfl, hb9⟩)
      | (go_at_call 9; refine (HAD.out _).mono ?_; rintro e w9 ⟨rfl, hb9⟩)
      | (go_at_call 11; refine (ccells_any _ _).mono ?_; rintro e w9 ⟨rfl, rfl⟩)
      | (go_at_call 10; (with_reducible refine (HFC.out _ _ ?_).mono ?_); (first | exact HCL.out _ | exact (HCL.out _).next hb9); rintro e w9 ⟨rfl, hb9⟩)
      | (go_at_call 10; refine (HFL2.out _ ?_).mono ?_; assumption; rintro e w9 ⟨rfl, hb9⟩)
      | (go_at_call 12; refine (HOF2.out _ (by assumption)).mono ?_; rintro e w9 ⟨rfl, hb9⟩)
      | (go_at_call 13; refine (HMA.out _).mono ?_; rintro e w9 ⟨rfl, hb9⟩)
      | (go_at_call 14; refine (HMO.out _).mono ?_; rintro e w9 ⟨rfl, hb9⟩)
      | (go_at_call 15; refine (HU.out _).mono ?_; rintro e w9 ⟨rfl, hb9⟩)
      | (go_at_call 16; refine (HUO.out _).mono ?_; rintro e w9 ⟨rfl, hb9⟩))
  all_goals
    go_wp2_with fail
    go_ret
    exact ⟨rfl, below_then hbw (by assumption)⟩
end Go.Proofs.Ytbhggbohkddlaaa
