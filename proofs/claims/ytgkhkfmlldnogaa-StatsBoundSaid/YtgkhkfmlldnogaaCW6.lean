/- The walks of cmp.Compare, cmp.Or, nulls.Less, hypostyleref.CellLess. -/
import Derived.Test.YtgkhkfmlldnogaaCBase
import Derived.Test.YtgkhkfmlldnogaaTStr
import Derived.Test.YtgkhkfmlldnogaaTLess
import Derived.StillTailTactics
namespace Go.Proofs.Ytgkhkfmlldnogaa
open Go.RowKit
set_option linter.unusedVariables false

def cmp3 (lt gt : Bool) : Int := if lt then -1 else if gt then 1 else 0

theorem vq {P : Program} {f : FuncId} {args : Array Value} {w : World} {v : Value} (h : Calls P f args w (ValPost v w)) : Calls P f args w fun e w'' => e = .returned v ∧ w'' = w := h.mono fun _ _ k => ⟨k.1, k.2.symm⟩

theorem nan_int (x : Int) (w : World) : Calls Try.prog 36 #[.int .i64 x] w (ValPost (.bool false) w) := by
  go_enter Try.func36, Try.ntmps36
  go_wp2_with fail
  go_ret
  exact ⟨rfl, rfl⟩
theorem nan_u64 (x : Int) (w : World) : Calls Try.prog 37 #[.int .u64 x] w (ValPost (.bool false) w) := by
  go_enter Try.func37, Try.ntmps37
  go_wp2_with fail
  go_ret
  exact ⟨rfl, rfl⟩
theorem nan_str (x : ByteArray) (w : World) : Calls Try.prog 38 #[.string x] w (ValPost (.bool false) w) := by
  go_enter Try.func38, Try.ntmps38
  go_wp2_with fail
  go_ret
  exact ⟨rfl, rfl⟩

theorem cmp_int (x y : Int) (w : World) : Calls Try.prog 29 #[.int .i64 x, .int .i64 y] w (ValPost (.int .i64 (cmp3 (decide (x < y)) (decide (y < x)))) w) := by
  have H := Lib.hid (fun x => nan_int x w)
  generalize hl : decide (x < y) = lt
  generalize hg : decide (y < x) = gt
  cases lt
  · cases gt
    all_goals
      go_enter Try.func29, Try.ntmps29
      go_wp2_with fail
      refine (H.out _).mono ?_
      rintro e w1 ⟨rfl, rfl⟩
      go_wp2_with fail
      refine (H.out _).mono ?_
      rintro e w1 ⟨rfl, rfl⟩
      go_wp2_with fail
      go_ret
      exact ⟨rfl, rfl⟩
  · go_enter Try.func29, Try.ntmps29
    go_wp2_with fail
    refine (H.out _).mono ?_
    rintro e w1 ⟨rfl, rfl⟩
    go_wp2_with fail
    refine (H.out _).mono ?_
    rintro e w1 ⟨rfl, rfl⟩
    go_wp2_with fail
    go_ret
    exact ⟨rfl, rfl⟩
theorem cmp_u64 (x y : Int) (w : World) : Calls Try.prog 30 #[.int .u64 x, .int .u64 y] w (ValPost (.int .i64 (cmp3 (decide (x < y)) (decide (y < x)))) w) := by
  have H := Lib.hid (fun x => nan_u64 x w)
  generalize hl : decide (x < y) = lt
  generalize hg : decide (y < x) = gt
  cases lt
  · cases gt
    all_goals
      go_enter Try.func30, Try.ntmps30
      go_wp2_with fail
      refine (H.out _).mono ?_
      rintro e w1 ⟨rfl, rfl⟩
      go_wp2_with fail
      refine (H.out _).mono ?_
      rintro e w1 ⟨rfl, rfl⟩
      go_wp2_with fail
      go_ret
      exact ⟨rfl, rfl⟩
  · go_enter Try.func30, Try.ntmps30
    go_wp2_with fail
    refine (H.out _).mono ?_
    rintro e w1 ⟨rfl, rfl⟩
    go_wp2_with fail
    refine (H.out _).mono ?_
    rintro e w1 ⟨rfl, rfl⟩
    go_wp2_with fail
    go_ret
    exact ⟨rfl, rfl⟩
theorem cmp_str (x y : ByteArray) (w : World) : Calls Try.prog 31 #[.string x, .string y] w (ValPost (.int .i64 (cmp3 (Op.bytesLess x.toList y.toList) (!(x.toList == y.toList)))) w) := by
  have H := Lib.hid (fun x => nan_str x w)
  generalize hl : Op.bytesLess x.toList y.toList = lt
  generalize hg : (x.toList == y.toList) = gt
  cases lt
  · cases gt
    all_goals
      go_enter Try.func31, Try.ntmps31
      go_wp2_with fail
      refine (H.out _).mono ?_
      rintro e w1 ⟨rfl, rfl⟩
      go_wp2_with fail
      refine (H.out _).mono ?_
      rintro e w1 ⟨rfl, rfl⟩
      go_wp2_with fail
      go_ret
      exact ⟨rfl, rfl⟩
  · go_enter Try.func31, Try.ntmps31
    go_wp2_with fail
    refine (H.out _).mono ?_
    rintro e w1 ⟨rfl, rfl⟩
    go_wp2_with fail
    refine (H.out _).mono ?_
    rintro e w1 ⟨rfl, rfl⟩
    go_wp2_with fail
    go_ret
    exact ⟨rfl, rfl⟩

/-- the first of three that is not nought -/
def or3 (a b c : Int) : Int := if a ≠ 0 then a else if b ≠ 0 then b else c
set_option maxHeartbeats 1000000 in
theorem or_any (a b c : Int) (g : Nat) (w : World) (h0 : w.cell? ⟨g, 0, none⟩ = some (.int .i64 a)) (h1 : w.cell? ⟨g, 1, none⟩ = some (.int .i64 b)) (h2 : w.cell? ⟨g, 2, none⟩ = some (.int .i64 c)) :
    Calls Try.prog 28 #[.slice (some ⟨g, 0, none⟩) 3 3] w (ValPost (.int .i64 (or3 a b c)) w) := by
  by_cases ha : a = 0
  · subst ha
    by_cases hb : b = 0
    · subst hb
      have HR := Lib.hid (show or3 0 0 c = c by simp [or3])
      by_cases hc : c = 0
      · subst hc
        go_enter Try.func28, Try.ntmps28
        go_wp2_with fail
        refine wp_loop_rounds 4 ?_
        rw [rounds_succ]
        go_wp2_with fail
        rw [rounds_succ]
        go_wp2_with fail
        rw [rounds_succ]
        go_wp2_with fail
        rw [rounds_succ]
        go_wp2_with fail
        go_ret
        exact ⟨by rw [HR.out]; rfl, rfl⟩
      · have g1 : (c != 0) = true := by rw [bne_iff_ne]; exact hc
        go_enter Try.func28, Try.ntmps28
        go_wp2_with fail
        refine wp_loop_rounds 4 ?_
        rw [rounds_succ]
        go_wp2_with fail
        rw [rounds_succ]
        go_wp2_with fail
        rw [rounds_succ]
        go_wp2_with fail
        go_ret
        exact ⟨by rw [HR.out]; rfl, rfl⟩
    · have HR := Lib.hid (show or3 0 b c = b by simp [or3, hb])
      have g1 : (b != 0) = true := by rw [bne_iff_ne]; exact hb
      go_enter Try.func28, Try.ntmps28
      go_wp2_with fail
      refine wp_loop_rounds 4 ?_
      rw [rounds_succ]
      go_wp2_with fail
      rw [rounds_succ]
      go_wp2_with fail
      go_ret
      exact ⟨by rw [HR.out]; rfl, rfl⟩
  · have HR := Lib.hid (show or3 a b c = a by simp [or3, ha])
    have g1 : (a != 0) = true := by rw [bne_iff_ne]; exact ha
    go_enter Try.func28, Try.ntmps28
    go_wp2_with fail
    refine wp_loop_rounds 4 ?_
    rw [rounds_succ]
    go_wp2_with fail
    go_ret
    exact ⟨by rw [HR.out]; rfl, rfl⟩

theorem less_or (a b : C.Cl) (h : ¬ ((a.kind = 0 ∧ b.kind ≠ 0) ∨ (a.kind ≠ 0 ∧ b.kind = 0))) :
    C.less a b = decide (or3 (cmp3 (decide (a.kind < b.kind)) (decide (b.kind < a.kind))) (cmp3 (decide ((a.num : Int) < (b.num : Int))) (decide ((b.num : Int) < (a.num : Int)))) (cmp3 (Op.bytesLess (str a.txt).toList (str b.txt).toList) (!((str a.txt).toList == (str b.txt).toList))) < 0) := by
  rw [less_eq, tl_eq]
  obtain ⟨ak, an, ax⟩ := a
  obtain ⟨bk, bn, bx⟩ := b
  unfold C.less
  simp only at h ⊢
  rw [if_neg (fun e => h (Or.inl e)), if_neg (fun e => h (Or.inr ⟨e.2, e.1⟩))]
  unfold or3 cmp3
  by_cases h1 : ak = bk
  · subst h1
    rw [if_neg (by simp)]
    by_cases h2 : an = bn
    · subst h2
      rw [if_neg (by simp)]
      simp
      by_cases h3 : ax < bx
      · simp [h3]
      · by_cases h4 : ax = bx
        · subst h4; simp [h3]
        · simp [h3, h4]
    · rw [if_pos h2]
      have : ¬ (an : Int) = bn := by omega
      by_cases h3 : an < bn
      · simp [h3]
      · have h4 : bn < an := by omega
        simp [h3, h4]
  · rw [if_pos h1]
    by_cases h3 : ak < bk
    · simp [h3]
    · have h4 : bk < ak := by omega
      simp [h3, h4]

theorem tri_two (w : World) (a b : C.Cl) : ∀ W0 : World, W0 = (w.alloc (.cells #[.int .i64 a.kind, .int .u64 (a.num : Int), .string (str a.txt)] 25)).alloc (.cells #[.int .i64 b.kind, .int .u64 (b.num : Int), .string (str b.txt)] 25) →
    (W0.drew.cell? ⟨w.heap.size, 0, none⟩ = some (.int .i64 a.kind) ∧ W0.drew.cell? ⟨w.heap.size, 1, none⟩ = some (.int .u64 (a.num : Int)) ∧ W0.drew.cell? ⟨w.heap.size, 2, none⟩ = some (.string (str a.txt))) ∧
    W0.drew.cell? ⟨w.heap.size + 1, 0, none⟩ = some (.int .i64 b.kind) ∧ W0.drew.cell? ⟨w.heap.size + 1, 1, none⟩ = some (.int .u64 (b.num : Int)) ∧ W0.drew.cell? ⟨w.heap.size + 1, 2, none⟩ = some (.string (str b.txt)) := by
  rintro W0 rfl
  have hs : (w.alloc (.cells #[.int .i64 a.kind, .int .u64 (a.num : Int), .string (str a.txt)] 25)).heap.size = w.heap.size + 1 := by simp
  have hA : ∀ i, ((w.alloc (.cells #[.int .i64 a.kind, .int .u64 (a.num : Int), .string (str a.txt)] 25)).alloc (.cells #[.int .i64 b.kind, .int .u64 (b.num : Int), .string (str b.txt)] 25)).drew.cell? ⟨w.heap.size, i, none⟩ = (w.alloc (.cells #[.int .i64 a.kind, .int .u64 (a.num : Int), .string (str a.txt)] 25)).cell? ⟨w.heap.size, i, none⟩ := fun i =>
    (((Below.refl _ _).alloc (Nat.le_refl _) _).cell (p := ⟨w.heap.size, i, none⟩) (by show w.heap.size < _; rw [hs]; exact Nat.lt_succ_self _))
  have hB : ∀ i, ((w.alloc (.cells #[.int .i64 a.kind, .int .u64 (a.num : Int), .string (str a.txt)] 25)).alloc (.cells #[.int .i64 b.kind, .int .u64 (b.num : Int), .string (str b.txt)] 25)).drew.cell? ⟨w.heap.size + 1, i, none⟩ = (#[.int .i64 b.kind, .int .u64 (b.num : Int), .string (str b.txt)] : Array Value)[i]? := fun i => by
    rw [← hs]; exact World.cell?_alloc_new _ _ _ _
  refine ⟨⟨?_, ?_, ?_⟩, ?_, ?_, ?_⟩
  · rw [hA, World.cell?_alloc_new]; rfl
  · rw [hA, World.cell?_alloc_new]; rfl
  · rw [hA, World.cell?_alloc_new]; rfl
  · rw [hB]; rfl
  · rw [hB]; rfl
  · rw [hB]; rfl

set_option maxHeartbeats 2000000 in
set_option maxRecDepth 100000 in
theorem nless_any (a b : C.Cl) (w : World) : Calls Try.prog 16 #[cag a, cag b] w (BoolPost (C.less a b) w) := by
  have hbel : Below w.heap.size w ((w.alloc (.cells #[.int .i64 a.kind, .int .u64 (a.num : Int), .string (str a.txt)] 25)).alloc (.cells #[.int .i64 b.kind, .int .u64 (b.num : Int), .string (str b.txt)] 25)) := ((Below.refl _ _).alloc (Nat.le_refl _) _).alloc (by simp) _
  have HB := Lib.hid hbel
  clear hbel
  have HT := Lib.hid (tri_two w a b)
  by_cases h : (a.kind = 0 ∧ b.kind ≠ 0) ∨ (a.kind ≠ 0 ∧ b.kind = 0)
  · have HR := Lib.hid (show C.less a b = decide (a.kind = 0) by
      rcases h with ⟨h1, h2⟩ | ⟨h1, h2⟩
      · simp [C.less, h1, h2]
      · simp [C.less, h1, h2])
    generalize C.less a b = r at *
    unfold cag
    generalize a.num = an at *
    generalize b.num = bn at *
    generalize str a.txt = ax at *
    generalize str b.txt = bx at *
    generalize a.kind = ak at *
    generalize b.kind = bk at *
    rcases h with ⟨rfl, h2⟩ | ⟨h1, rfl⟩
    · have g1 : (bk == 0) = false := by rw [beq_eq_false_iff_ne]; exact h2
      go_enter Try.func16, Try.ntmps16
      go_wp2_with fail
      go_ret
      exact ⟨by rw [HR.out]; rfl, HB.out⟩
    · have g1 : (ak == 0) = false := by rw [beq_eq_false_iff_ne]; exact h1
      go_enter Try.func16, Try.ntmps16
      go_wp2_with fail
      go_ret
      exact ⟨by rw [HR.out, decide_eq_false h1]; rfl, HB.out⟩
  · have HR := Lib.hid (less_or a b h)
    have HKI := Lib.hid (fun W => cmp_int a.kind b.kind W)
    have HKU := Lib.hid (fun W => cmp_u64 (a.num : Int) (b.num : Int) W)
    have HKS := Lib.hid (fun W => cmp_str (str a.txt) (str b.txt) W)
    have hbeq : (a.kind == 0) = (b.kind == 0) := by
      by_cases h0 : a.kind = 0
      · by_cases h1 : b.kind = 0
        · rw [h0, h1]
        · exact absurd (Or.inl ⟨h0, h1⟩) h
      · by_cases h1 : b.kind = 0
        · exact absurd (Or.inr ⟨h0, h1⟩) h
        · rw [beq_eq_false_iff_ne.2 h0, beq_eq_false_iff_ne.2 h1]
    have HOR := Lib.hid (fun x y z g W h0 h1 h2 => or_any x y z g W h0 h1 h2)
    generalize C.less a b = r at *
    unfold cag
    generalize cmp3 (decide (a.kind < b.kind)) (decide (b.kind < a.kind)) = r0 at *
    generalize cmp3 (decide ((a.num : Int) < (b.num : Int))) (decide ((b.num : Int) < (a.num : Int))) = r1 at *
    generalize cmp3 (Op.bytesLess (str a.txt).toList (str b.txt).toList) (!((str a.txt).toList == (str b.txt).toList)) = r2 at *
    generalize a.num = an at *
    generalize b.num = bn at *
    generalize str a.txt = ax at *
    generalize str b.txt = bx at *
    generalize a.kind = ak at *
    generalize b.kind = bk at *
    have hq : ((ak == 0) == (bk == 0)) = true := by rw [hbeq]; simp
    clear h hbeq
    go_enter Try.func16, Try.ntmps16
    go_wp2_with fail
    obtain ⟨W0, hW0⟩ : ∃ W0, W0 = (w.alloc (.cells #[.int .i64 ak, .int .u64 (an : Int), .string ax] 25)).alloc (.cells #[.int .i64 bk, .int .u64 (bn : Int), .string bx] 25) := ⟨_, rfl⟩
    obtain ⟨⟨t0, t1, t2⟩, u0, u1, u2⟩ := HT.out W0 hW0
    rw [← hW0] at HB ⊢
    clear HT hW0
    have hB0 : Below w.heap.size w W0.drew := HB.out.drew
    refine wp_region_still_tail 15 (by kernel_rfl) (by kernel_rfl) ?_
    simp only [List.take_succ_cons, List.take_zero, List.drop_succ_cons, List.drop_zero]
    rw [show ({ W0 with drawn := W0.drawn + 1 } : World) = W0.drew from rfl]
    clear HB
    generalize W0.drew = W1 at *
    repeat still_step
    still_call (vq (HKI.out _))
    repeat still_step
    still_call (vq (HKU.out _))
    repeat still_step
    still_call (vq (HKS.out _))
    refine wpStill_nil ?_
    have hOR := HOR.out r0 r1 r2 W1.heap.size (W1.alloc (.cells #[.int .i64 r0, .int .i64 r1, .int .i64 r2] 3)) (World.cell?_alloc_new _ _ _ _) (World.cell?_alloc_new _ _ _ _) (World.cell?_alloc_new _ _ _ _)
    have HO := Lib.hid hOR
    clear hOR
    go_wp2_with fail
    refine (HO.out).mono ?_
    rintro e w2 ⟨rfl, rfl⟩
    go_wp2_with fail
    go_ret
    exact ⟨by rw [HR.out]; rfl, hB0.alloc hB0.size _⟩
end Go.Proofs.Ytgkhkfmlldnogaa
