/- The walks of runs.add, runs.Of. -/
import Derived.Test.YthmlafoceacliabRBase
import Derived.Maps.AppendAt
import Derived.Lib.BufferOwn
import Derived.Lib.HexFns2
import Derived.IntWalk
namespace Go.Proofs.Ythmlafoceacliab
open Go.RowKit
set_option linter.unusedVariables false

def AddPost (base : Nat) (l : List R.Run) (v : Value) (w : World) (e : Ending) (w' : World) : Prop :=
  ∃ v', e = .returned v' ∧ RunRow base l v' w' ∧ w.grownBy w' v.ownBlock

/-- append of one run -/
theorem wpList_append_run {w : World} {ops : Array Oper} {rest : List Oper} {o : Oper} {a : Act} {Q : Exit → Act → World → Prop} (hgd : o.guard = none) (s x : Operand)
    (ho : o.op = .call { callee := .builtin .append, args := #[s, x], argTypes := #[23, 23] }) (base : Nat)
    (v : Value) (l : List R.Run) (hs : a.eval s = v) (hown : RunRow base l v w)
    (g n : Nat) (m : Int) (hx : a.eval x = .slice (some ⟨g, 0, none⟩) 1 1) (hc : w.cell? ⟨g, 0, none⟩ = some (.int .u64 (n : Int))) (hc1 : w.cell? ⟨g, 1, none⟩ = some (.int .i64 m))
    (hbytes : (l.length + 1) * 16 ≤ 140737488355328) (hbase : base ≤ w.heap.size)
    (h : ∀ v' w', RunRow base (l ++ [(n, m)]) v' w' → w.grownBy w' v.ownBlock → wpList Try.prog ops Q rest (a.put o.dst v') w') : wpList Try.prog ops Q (o :: rest) a w := by
  obtain ⟨i, hi, hz0, hz1, hz2⟩ := info_parts info_run
  refine wpList_append_own w hgd s x 23 ho base 42 i (.agg #[.int .u64 0, .int .i64 0]) 2 16 Try.underlying23 hi hz0 hz1 hz2 rfl (by decide) v l.length (rv l) hs hown ⟨g, 0, none⟩ 1 1 [.int .u64 (n : Int), .int .i64 m] hx rfl ?_ ?_ (by unfold maxLen; omega) hbytes hbase (fun v' w' h1 h2 _ => h v' w' ?_ h2)
  · intro j u hj
    match j, hj with
    | 0, hj => simp at hj; subst hj; simpa [Addr.add] using hc
    | 1, hj => simp at hj; subst hj; simpa [Addr.add] using hc1
  · intro u hu; simp at hu; rcases hu with rfl | rfl <;> rfl
  · unfold RunRow; rw [rv_append, List.length_append]; exact h1

theorem RunRow.below {B : Nat} {xs : List R.Run} {v : Value} {w w' : World} (h : RunRow B xs v w) (hb : Below w.heap.size w w') : RunRow B xs v w' := row_below h hb

theorem boxed_two (w : World) (n : Nat) (m : Int) (nq : Nat) :
    Below w.heap.size w (((w.alloc (.cells #[.int .u64 (n : Int), .int .i64 m] 42)).drewN nq).alloc (.cells #[.int .u64 (n : Int), .int .i64 m] 42)) ∧ (((w.alloc (.cells #[.int .u64 (n : Int), .int .i64 m] 42)).drewN nq).alloc (.cells #[.int .u64 (n : Int), .int .i64 m] 42)).cell? ⟨w.heap.size + 1, 0, none⟩ = some (.int .u64 (n : Int)) ∧ (((w.alloc (.cells #[.int .u64 (n : Int), .int .i64 m] 42)).drewN nq).alloc (.cells #[.int .u64 (n : Int), .int .i64 m] 42)).cell? ⟨w.heap.size + 1, 1, none⟩ = some (.int .i64 m) ∧
    (((w.alloc (.cells #[.int .u64 (n : Int), .int .i64 m] 42)).drewN nq).alloc (.cells #[.int .u64 (n : Int), .int .i64 m] 42)).heap.size = w.heap.size + 2 := by
  have hs : ((w.alloc (.cells #[.int .u64 (n : Int), .int .i64 m] 42)).drewN nq).heap.size = w.heap.size + 1 := by simp
  refine ⟨(below_drewN ((Below.refl _ _).alloc (Nat.le_refl _) _) _).alloc (by rw [hs]; omega) _, ?_, ?_, by simp⟩
  · have := World.cell?_alloc_new ((w.alloc (.cells #[.int .u64 (n : Int), .int .i64 m] 42)).drewN nq) #[.int .u64 (n : Int), .int .i64 m] 42 0
    rw [hs] at this; exact this
  · have := World.cell?_alloc_new ((w.alloc (.cells #[.int .u64 (n : Int), .int .i64 m] 42)).drewN nq) #[.int .u64 (n : Int), .int .i64 m] 42 1
    rw [hs] at this; exact this

set_option maxHeartbeats 1000000 in
set_option maxRecDepth 100000 in
theorem add_nil (base n : Nat) (m : Int) (v : Value) (w : World) (hrow : RunRow base [] v w) (hb : base ≤ w.heap.size) :
    Calls Try.prog 19 #[v, .agg #[.int .u64 (n : Int), .int .i64 m]] w (AddPost base [(n, m)] v w) := by
  obtain ⟨A, c, rfl⟩ : ∃ A c, v = .slice A 0 c := by
    rcases hrow.2 with ⟨rfl, _⟩ | ⟨g, cap, cur, rfl, _⟩
    · exact ⟨none, 0, rfl⟩
    · exact ⟨_, _, rfl⟩
  have HROW := Lib.hid hrow
  clear hrow
  go_enter Try.func19, Try.ntmps19
  go_wp2_with fail
  go_quiet (fail)
  obtain ⟨hbel, hc0, hc1, hsz⟩ := boxed_two w n m nq
  have hb5 : base ≤ (((w.alloc (.cells #[.int .u64 (n : Int), .int .i64 m] 42)).drewN nq).alloc (.cells #[.int .u64 (n : Int), .int .i64 m] 42)).heap.size := by omega
  have HC0 := Lib.hid hc0
  have HC1 := Lib.hid hc1
  clear hc0 hc1 hsz
  go_wp2_with (at_builtin; refine wpList_append_run rfl (.tmp 32) (.tmp 34) rfl base _ [] rfl (HROW.out.below hbel) (w.heap.size + 1) n m rfl HC0.out HC1.out (by simp) hb5 ?_)
  intro v' w2 hown2 hgrow2
  go_wp2_with fail
  go_ret
  exact ⟨v', rfl, hown2, (Lib.grownBy_below (World.grownBy.refl w _) hbel).trans hgrow2⟩

set_option maxHeartbeats 1000000 in
set_option maxRecDepth 100000 in
theorem add_push (base n g k cap : Nat) (m : Int) (l : List R.Run) (w : World) (hl : l.length = k + 1) (hk : (k + 1 + 1) * 16 ≤ 140737488355328) (hrow : RunRow base l (.slice (some ⟨g, 0, none⟩) (k + 1) cap) w) (hb : base ≤ w.heap.size) (hne : (l.getD k (0, 0)).1 ≠ n) :
    Calls Try.prog 19 #[.slice (some ⟨g, 0, none⟩) (k + 1) cap, .agg #[.int .u64 (n : Int), .int .i64 m]] w (AddPost base (l ++ [(n, m)]) (.slice (some ⟨g, 0, none⟩) (k + 1) cap) w) := by
  have hrow' := hrow
  unfold RunRow at hrow'
  rw [hl] at hrow'
  have hg := (hrow'.lt g rfl).2
  have hc := hrow'.cellAt (k * 2) (by omega)
  rw [(rv_get l k (by omega)).1] at hc
  generalize (l.getD k (0, 0)).1 = y at *
  have g1 : ((y : Int) == (n : Int)) = false := by rw [beq_eq_false_iff_ne]; omega
  have HROW := Lib.hid hrow
  have hbnd : (l.length + 1) * 16 ≤ 140737488355328 := by omega
  clear hrow hrow' hne hl
  go_enter Try.func19, Try.ntmps19
  go_wp2_with fail
  have g2 : decide ((0 : Int) ≤ (k : Int)) = true := by simp
  go_quiet (fail)
  obtain ⟨hbel, hc0, hc1, hsz⟩ := boxed_two w n m nq
  have hb5 : base ≤ (((w.alloc (.cells #[.int .u64 (n : Int), .int .i64 m] 42)).drewN nq).alloc (.cells #[.int .u64 (n : Int), .int .i64 m] 42)).heap.size := by omega
  have HC0 := Lib.hid hc0
  have HC1 := Lib.hid hc1
  clear hc0 hc1 hsz
  go_wp2_with (at_builtin; refine wpList_append_run rfl (.tmp 32) (.tmp 34) rfl base _ l rfl (HROW.out.below hbel) (w.heap.size + 1) n m rfl HC0.out HC1.out hbnd hb5 ?_)
  intro v' w2 hown2 hgrow2
  go_wp2_with fail
  go_ret
  exact ⟨v', rfl, hown2, (Lib.grownBy_below (World.grownBy.refl w _) hbel).trans hgrow2⟩

set_option maxHeartbeats 1000000 in
set_option maxRecDepth 100000 in
theorem add_set (base n g k cap : Nat) (m : Int) (l : List R.Run) (w : World) (hl : l.length = k + 1) (hk : (k + 1 + 1) * 16 ≤ 140737488355328) (hrow : RunRow base l (.slice (some ⟨g, 0, none⟩) (k + 1) cap) w) (hb : base ≤ w.heap.size) (hq : (l.getD k (0, 0)).1 = n)
    (hm1 : 0 ≤ (l.getD k (0, 0)).2 ∧ (l.getD k (0, 0)).2 ≤ 1048576) (hm2 : 0 ≤ m ∧ m ≤ 1048576) :
    Calls Try.prog 19 #[.slice (some ⟨g, 0, none⟩) (k + 1) cap, .agg #[.int .u64 (n : Int), .int .i64 m]] w (AddPost base (l.set k (n, (l.getD k (0, 0)).2 + m)) (.slice (some ⟨g, 0, none⟩) (k + 1) cap) w) := by
  have hrow' := hrow
  unfold RunRow at hrow'
  rw [hl] at hrow'
  have hg := (hrow'.lt g rfl).2
  have hc := hrow'.cellAt (k * 2) (by omega)
  rw [(rv_get l k (by omega)).1] at hc
  have hc1 := hrow'.cellAt (k * 2 + 1) (by omega)
  rw [(rv_get l k (by omega)).2] at hc1
  have hf1 := hrow'.frozenAt (k * 2 + 1)
  have HST := Lib.hid (rv_set l k n ((l.getD k (0, 0)).2 + m) (by omega) hq)
  generalize (l.getD k (0, 0)).1 = y at *
  generalize (l.getD k (0, 0)).2 = z at *
  have g1 : ((y : Int) == (n : Int)) = true := by rw [beq_iff_eq]; omega
  have HROW := Lib.hid hrow'
  have HL := Lib.hid hl
  clear hrow hrow' hq hl
  go_enter Try.func19, Try.ntmps19
  go_wp2_with fail
  have g2 : decide ((0 : Int) ≤ (k : Int)) = true := by simp
  go_quiet (fail)
  go_wp2_with fail
  have hbel : Below w.heap.size w ((w.alloc (.cells #[.int .u64 (n : Int), .int .i64 m] 42)).drewN nq) := below_drewN ((Below.refl _ _).alloc (Nat.le_refl _) _) _
  have hsz : ((w.alloc (.cells #[.int .u64 (n : Int), .int .i64 m] 42)).drewN nq).heap.size = w.heap.size + 1 := by simp
  have hm0 : ((w.alloc (.cells #[.int .u64 (n : Int), .int .i64 m] 42)).drewN nq).cell? ⟨w.heap.size, 1, none⟩ = some (.int .i64 m) := by simp
  have hz0 : ((w.alloc (.cells #[.int .u64 (n : Int), .int .i64 m] 42)).drewN nq).cell? ⟨g, k * 2 + 1, none⟩ = some (.int .i64 z) := (hbel.cell (p := ⟨g, k * 2 + 1, none⟩) hg).trans hc1
  have hf0 : ((w.alloc (.cells #[.int .u64 (n : Int), .int .i64 m] 42)).drewN nq).frozen? ⟨g, k * 2 + 1, none⟩ = false := (hbel.frozen (p := ⟨g, k * 2 + 1, none⟩) hg).trans hf1
  have hrow1 := row_below HROW.out hbel
  generalize (w.alloc (.cells #[.int .u64 (n : Int), .int .i64 m] 42)).drewN nq = w1 at *
  have HBEL := Lib.hid hbel
  have HROW1 := Lib.hid hrow1
  clear hrow1 hbel hc hc1 hf1 g1
  have hwz : IntKind.i64.wrap (z + m) = z + m := IntWalk.i64_in _ (by omega)
  go_region
  all_goals
    clear hwz
    go_wp2_with fail
    go_ret
    obtain ⟨hst, hgr⟩ := HROW1.out.stored (k * 2 + 1) (.int .i64 (z + m))
    rw [HST.out] at hst
    refine ⟨.slice (some ⟨g, 0, none⟩) (k + 1) cap, rfl, ?_, ?_⟩
    · unfold RunRow
      rw [List.length_set, HL.out]
      exact hst.drew
    · exact (Lib.grownBy_below (World.grownBy.refl w _) HBEL.out).trans (Lib.Hx.grownBy_drew hgr)
end Go.Proofs.Ythmlafoceacliab
