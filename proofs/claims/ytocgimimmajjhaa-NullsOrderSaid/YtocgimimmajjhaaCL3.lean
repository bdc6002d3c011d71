/- The law NullsOrder. -/
import Derived.Test.YtocgimimmajjhaaCR2
import Derived.Test.YtocgimimmajjhaaCB
import Derived.Test.YtocgimimmajjhaaWB
namespace Go.Proofs.Ytocgimimmajjhaa
open Go.RowKit
set_option linter.unusedVariables false

/-- three blocks of one cell each -/
def Tri3 (w : World) (A B D : Nat) (a b c : C.Cl) : Prop := Tri w A (.int .i64 a.kind) (.int .u64 (a.num : Int)) (.string (str a.txt)) ∧ Tri w B (.int .i64 b.kind) (.int .u64 (b.num : Int)) (.string (str b.txt)) ∧ Tri w D (.int .i64 c.kind) (.int .u64 (c.num : Int)) (.string (str c.txt))
theorem Tri3.next {w w' : World} {A B D : Nat} {a b c : C.Cl} (h : Tri3 w A B D a b c) (hb : Below w.heap.size w w') : Tri3 w' A B D a b c := ⟨h.1.next hb, h.2.1.next hb, h.2.2.next hb⟩
theorem tri3_new (w : World) (a b c : C.Cl) : ∀ W, W = ((w.alloc (.cells #[.int .i64 a.kind, .int .u64 (a.num : Int), .string (str a.txt)] 38)).alloc (.cells #[.int .i64 b.kind, .int .u64 (b.num : Int), .string (str b.txt)] 38)).alloc (.cells #[.int .i64 c.kind, .int .u64 (c.num : Int), .string (str c.txt)] 38) →
    Tri3 W w.heap.size (w.heap.size + 1) (w.heap.size + 1 + 1) a b c ∧ Below w.heap.size w W := by
  rintro W rfl
  have q1 := tri_new w (.int .i64 a.kind) (.int .u64 (a.num : Int)) (.string (str a.txt))
  have b1 := (Below.refl w.heap.size w).alloc (Nat.le_refl _) (.cells #[.int .i64 a.kind, .int .u64 (a.num : Int), .string (str a.txt)] 38)
  have s1 : (w.alloc (.cells #[.int .i64 a.kind, .int .u64 (a.num : Int), .string (str a.txt)] 38)).heap.size = w.heap.size + 1 := by simp
  generalize w.alloc (.cells #[.int .i64 a.kind, .int .u64 (a.num : Int), .string (str a.txt)] 38) = w1 at *
  have q2 := tri_new w1 (.int .i64 b.kind) (.int .u64 (b.num : Int)) (.string (str b.txt))
  have b2 := (Below.refl w1.heap.size w1).alloc (Nat.le_refl _) (.cells #[.int .i64 b.kind, .int .u64 (b.num : Int), .string (str b.txt)] 38)
  have s2 : (w1.alloc (.cells #[.int .i64 b.kind, .int .u64 (b.num : Int), .string (str b.txt)] 38)).heap.size = w.heap.size + 1 + 1 := by simp; omega
  rw [s1] at q2
  generalize w1.alloc (.cells #[.int .i64 b.kind, .int .u64 (b.num : Int), .string (str b.txt)] 38) = w2 at *
  have q3 := tri_new w2 (.int .i64 c.kind) (.int .u64 (c.num : Int)) (.string (str c.txt))
  have b3 := (Below.refl w2.heap.size w2).alloc (Nat.le_refl _) (.cells #[.int .i64 c.kind, .int .u64 (c.num : Int), .string (str c.txt)] 38)
  rw [s2] at q3
  exact ⟨⟨q1.next (below_then b2 b3), q2.next b3, q3⟩, below_then (below_then b1 b2) b3⟩
theorem Tri3.facts {w : World} {A B D : Nat} {a b c : C.Cl} (h : Tri3 w A B D a b c) :
    w.cell? ⟨A, 0, none⟩ = some (.int .i64 a.kind) ∧ w.cell? ⟨A, 1, none⟩ = some (.int .u64 (a.num : Int)) ∧ w.cell? ⟨A, 2, none⟩ = some (.string (str a.txt)) ∧
    w.cell? ⟨B, 0, none⟩ = some (.int .i64 b.kind) ∧ w.cell? ⟨B, 1, none⟩ = some (.int .u64 (b.num : Int)) ∧ w.cell? ⟨B, 2, none⟩ = some (.string (str b.txt)) ∧
    w.cell? ⟨D, 0, none⟩ = some (.int .i64 c.kind) ∧ w.cell? ⟨D, 1, none⟩ = some (.int .u64 (c.num : Int)) ∧ w.cell? ⟨D, 2, none⟩ = some (.string (str c.txt)) :=
  ⟨h.1.c0, h.1.c1, h.1.c2, h.2.1.c0, h.2.1.c1, h.2.1.c2, h.2.2.c0, h.2.2.c1, h.2.2.c2⟩
theorem k9_drew {A B D : Nat} {x0 x1 x2 y0 y1 y2 z0 z1 z2 : Value} {w W : World} (h : W.cell? ⟨A, 0, none⟩ = some x0 ∧ W.cell? ⟨A, 1, none⟩ = some x1 ∧ W.cell? ⟨A, 2, none⟩ = some x2 ∧ W.cell? ⟨B, 0, none⟩ = some y0 ∧ W.cell? ⟨B, 1, none⟩ = some y1 ∧ W.cell? ⟨B, 2, none⟩ = some y2 ∧ W.cell? ⟨D, 0, none⟩ = some z0 ∧ W.cell? ⟨D, 1, none⟩ = some z1 ∧ W.cell? ⟨D, 2, none⟩ = some z2 ∧ Below w.heap.size w W) :
    W.drew.cell? ⟨A, 0, none⟩ = some x0 ∧ W.drew.cell? ⟨A, 1, none⟩ = some x1 ∧ W.drew.cell? ⟨A, 2, none⟩ = some x2 ∧ W.drew.cell? ⟨B, 0, none⟩ = some y0 ∧ W.drew.cell? ⟨B, 1, none⟩ = some y1 ∧ W.drew.cell? ⟨B, 2, none⟩ = some y2 ∧ W.drew.cell? ⟨D, 0, none⟩ = some z0 ∧ W.drew.cell? ⟨D, 1, none⟩ = some z1 ∧ W.drew.cell? ⟨D, 2, none⟩ = some z2 ∧ Below w.heap.size w W.drew :=
  ⟨h.1, h.2.1, h.2.2.1, h.2.2.2.1, h.2.2.2.2.1, h.2.2.2.2.2.1, h.2.2.2.2.2.2.1, h.2.2.2.2.2.2.2.1, h.2.2.2.2.2.2.2.2.1, h.2.2.2.2.2.2.2.2.2.drew⟩
theorem at_lt {W : World} {A o : Nat} {v : Value} (h : W.cell? ⟨A, o, none⟩ = some v) : A < W.heap.size := by
  rcases Nat.lt_or_ge A W.heap.size with hlt | hge
  · exact hlt
  · simp [World.cell?, Array.getElem?_eq_none hge] at h
theorem k9_below {A B D : Nat} {x0 x1 x2 y0 y1 y2 z0 z1 z2 : Value} {w W W' : World} (hb : Below W.heap.size W W') (h : W.cell? ⟨A, 0, none⟩ = some x0 ∧ W.cell? ⟨A, 1, none⟩ = some x1 ∧ W.cell? ⟨A, 2, none⟩ = some x2 ∧ W.cell? ⟨B, 0, none⟩ = some y0 ∧ W.cell? ⟨B, 1, none⟩ = some y1 ∧ W.cell? ⟨B, 2, none⟩ = some y2 ∧ W.cell? ⟨D, 0, none⟩ = some z0 ∧ W.cell? ⟨D, 1, none⟩ = some z1 ∧ W.cell? ⟨D, 2, none⟩ = some z2 ∧ Below w.heap.size w W) :
    W'.cell? ⟨A, 0, none⟩ = some x0 ∧ W'.cell? ⟨A, 1, none⟩ = some x1 ∧ W'.cell? ⟨A, 2, none⟩ = some x2 ∧ W'.cell? ⟨B, 0, none⟩ = some y0 ∧ W'.cell? ⟨B, 1, none⟩ = some y1 ∧ W'.cell? ⟨B, 2, none⟩ = some y2 ∧ W'.cell? ⟨D, 0, none⟩ = some z0 ∧ W'.cell? ⟨D, 1, none⟩ = some z1 ∧ W'.cell? ⟨D, 2, none⟩ = some z2 ∧ Below w.heap.size w W' := by
  obtain ⟨a0, a1, a2, b0, b1, b2, d0, d1, d2, hw⟩ := h
  exact ⟨(hb.cell (p := ⟨A, 0, none⟩) (at_lt a0)).trans a0, (hb.cell (p := ⟨A, 1, none⟩) (at_lt a0)).trans a1, (hb.cell (p := ⟨A, 2, none⟩) (at_lt a0)).trans a2,
    (hb.cell (p := ⟨B, 0, none⟩) (at_lt b0)).trans b0, (hb.cell (p := ⟨B, 1, none⟩) (at_lt b0)).trans b1, (hb.cell (p := ⟨B, 2, none⟩) (at_lt b0)).trans b2,
    (hb.cell (p := ⟨D, 0, none⟩) (at_lt d0)).trans d0, (hb.cell (p := ⟨D, 1, none⟩) (at_lt d0)).trans d1, (hb.cell (p := ⟨D, 2, none⟩) (at_lt d0)).trans d2, below_then hw hb⟩

theorem nless_ag (a b : C.Cl) (W : World) : Calls Try.prog 19 #[.agg #[.int .i64 a.kind, .int .u64 (a.num : Int), .string (str a.txt)], .agg #[.int .i64 b.kind, .int .u64 (b.num : Int), .string (str b.txt)]] W (BoolPost (C.less a b) W) := nless_any a b W

set_option maxHeartbeats 4000000 in
set_option maxRecDepth 100000 in
theorem nullsOrder_walk (w : World) (a : C.Cl) (ha : cOk a) (b : C.Cl) (hb : cOk b) (c : C.Cl) (hc : cOk c) :
    Calls Try.prog 6 #[cag a, cag b, cag c] w (BoolPost true w) := by
  have HN := Lib.hid (tri3_new w a b c)
  have HCL := Lib.hid (fun W => show Calls Try.prog 20 #[.agg #[.int .i64 a.kind, .int .u64 (a.num : Int), .string (str a.txt)], .agg #[.int .i64 b.kind, .int .u64 (b.num : Int), .string (str b.txt)]] W (BoolPost (C.less a b) W) from cellLess_any a b W ha.2.2.2 hb.2.2.2)
  have hne : ∀ w, (binOp .neq 38 (.agg #[.int .i64 a.kind, .int .u64 (a.num : Int), .string (str a.txt)]) (.agg #[.int .i64 b.kind, .int .u64 (b.num : Int), .string (str b.txt)])).run Try.prog w = .ok (.bool (decide (a ≠ b))) w := fun w => cell_neq_cell w a b
  obtain ⟨l1, l2, l3⟩ := C.less_law a b c
  have hgd := guards_cell .neq
  unfold cag
  clear ha hb hc
  go_enter Try.func6, Try.ntmps6
  go_wp2_with fail
  obtain ⟨W0, hW0⟩ : ∃ W0, W0 = ((w.alloc (.cells #[.int .i64 a.kind, .int .u64 (a.num : Int), .string (str a.txt)] 38)).alloc (.cells #[.int .i64 b.kind, .int .u64 (b.num : Int), .string (str b.txt)] 38)).alloc (.cells #[.int .i64 c.kind, .int .u64 (c.num : Int), .string (str c.txt)] 38) := ⟨_, rfl⟩
  obtain ⟨hT, hB⟩ := HN.out W0 hW0
  rw [← hW0]
  clear HN hW0
  generalize w.heap.size + 1 + 1 = D at *
  generalize w.heap.size + 1 = B at *
  obtain ⟨A, hA⟩ : ∃ A, A = w.heap.size := ⟨_, rfl⟩
  rw [← hA] at hT ⊢
  clear hA
  obtain ⟨a0, a1, a2, b0, b1, b2, d0, d1, d2⟩ := hT.facts
  clear hT
  have hlt : A < W0.heap.size ∧ B < W0.heap.size ∧ D < W0.heap.size := ⟨at_lt a0, at_lt b0, at_lt d0⟩
  have f0 : ∀ p : WB W0, p.w.cell? ⟨A, 0, none⟩ = some (.int .i64 a.kind) := fun p => p.cell hlt.1 a0
  have f1 : ∀ p : WB W0, p.w.cell? ⟨A, 1, none⟩ = some (.int .u64 (a.num : Int)) := fun p => p.cell hlt.1 a1
  have f2 : ∀ p : WB W0, p.w.cell? ⟨A, 2, none⟩ = some (.string (str a.txt)) := fun p => p.cell hlt.1 a2
  have f3 : ∀ p : WB W0, p.w.cell? ⟨B, 0, none⟩ = some (.int .i64 b.kind) := fun p => p.cell hlt.2.1 b0
  have f4 : ∀ p : WB W0, p.w.cell? ⟨B, 1, none⟩ = some (.int .u64 (b.num : Int)) := fun p => p.cell hlt.2.1 b1
  have f5 : ∀ p : WB W0, p.w.cell? ⟨B, 2, none⟩ = some (.string (str b.txt)) := fun p => p.cell hlt.2.1 b2
  have f6 : ∀ p : WB W0, p.w.cell? ⟨D, 0, none⟩ = some (.int .i64 c.kind) := fun p => p.cell hlt.2.2 d0
  have f7 : ∀ p : WB W0, p.w.cell? ⟨D, 1, none⟩ = some (.int .u64 (c.num : Int)) := fun p => p.cell hlt.2.2 d1
  have f8 : ∀ p : WB W0, p.w.cell? ⟨D, 2, none⟩ = some (.string (str c.txt)) := fun p => p.cell hlt.2.2 d2
  have HLL := Lib.hid (fun a b W => nless_ag a b W)
  clear hlt
  refine wp_region_wb (by kernel_rfl) (by kernel_rfl) ?_
  repeat (quiet_step ((go_at_call 19; exact calls_wb (HLL.out _ _ _))))
  refine wpQuiet_nil ?_
  rintro _ ⟨p, rfl⟩
  have hp := p.below
  have a0 := f0 p
  have a1 := f1 p
  have a2 := f2 p
  have b0 := f3 p
  have b1 := f4 p
  have b2 := f5 p
  obtain ⟨W1, hW1⟩ : ∃ W1, W1 = p.w := ⟨_, rfl⟩
  rw [← hW1] at hp a0 a1 a2 b0 b1 b2 ⊢
  clear f0 f1 f2 f3 f4 f5 f6 f7 f8 hW1
  have hlt : A < W1.heap.size ∧ B < W1.heap.size := ⟨at_lt a0, at_lt b0⟩
  have f0 : ∀ p : WB W1, p.w.cell? ⟨A, 0, none⟩ = some (.int .i64 a.kind) := fun p => p.cell hlt.1 a0
  have f1 : ∀ p : WB W1, p.w.cell? ⟨A, 1, none⟩ = some (.int .u64 (a.num : Int)) := fun p => p.cell hlt.1 a1
  have f2 : ∀ p : WB W1, p.w.cell? ⟨A, 2, none⟩ = some (.string (str a.txt)) := fun p => p.cell hlt.1 a2
  have f3 : ∀ p : WB W1, p.w.cell? ⟨B, 0, none⟩ = some (.int .i64 b.kind) := fun p => p.cell hlt.2 b0
  have f4 : ∀ p : WB W1, p.w.cell? ⟨B, 1, none⟩ = some (.int .u64 (b.num : Int)) := fun p => p.cell hlt.2 b1
  have f5 : ∀ p : WB W1, p.w.cell? ⟨B, 2, none⟩ = some (.string (str b.txt)) := fun p => p.cell hlt.2 b2
  have HBA := Lib.hid (fun W => nless_ag b a W)
  have hcases : (C.less a b = true ∧ C.less b a = false ∧ decide (a ≠ b) = true ∧ C.less b c = true ∧ C.less a c = true) ∨ (C.less a b = true ∧ C.less b a = false ∧ decide (a ≠ b) = true ∧ C.less b c = false) ∨ (C.less a b = false ∧ C.less b a = true ∧ decide (a ≠ b) = true) ∨ (C.less a b = false ∧ C.less b a = false ∧ decide (a ≠ b) = false) := by
    revert l1 l2 l3
    generalize C.less a b = x
    generalize C.less b c = y
    generalize C.less a c = z
    generalize C.less b a = u
    generalize decide (a ≠ b) = q
    intro l1 l2 l3
    cases x <;> cases y <;> cases z <;> cases u <;> cases q <;> simp at l1 l2 l3 ⊢
  clear HLL l1 l2 l3 hlt d0 d1 d2
  generalize C.less a b = x at *
  generalize C.less b c = y at *
  generalize C.less a c = z at *
  generalize C.less b a = u at *
  generalize decide (a ≠ b) = q at *
  rcases hcases with ⟨rfl, rfl, rfl, rfl, rfl⟩ | ⟨rfl, rfl, rfl, rfl⟩ | ⟨rfl, rfl, rfl⟩ | ⟨rfl, rfl, rfl⟩
  all_goals
    go_wp2_with fail
    refine wp_region_wb (by kernel_rfl) (by kernel_rfl) ?_
    repeat (quiet_step (first
      | (go_at_call 10; exact calls_wb (nbegun_any _))
      | (go_at_call 20; exact calls_wb (HCL.out _))
      | (go_at_call 19; exact calls_wb (HBA.out _))))
    refine wpQuiet_nil ?_
    rintro _ ⟨p2, rfl⟩
    have hp2 := p2.below
    go_wp2_with fail
    go_ret
    exact ⟨rfl, below_then (below_then hB hp) hp2⟩
end Go.Proofs.Ytocgimimmajjhaa
