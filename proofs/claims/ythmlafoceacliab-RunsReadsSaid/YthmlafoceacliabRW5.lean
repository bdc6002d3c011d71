/- runs.add, and what it keeps of runs' boxes. -/
import Derived.Test.YthmlafoceacliabRF1
namespace Go.Proofs.Ythmlafoceacliab
open Go.RowKit
set_option linter.unusedVariables false

def Keep2 (w w' : World) : Prop := ∀ b x m, Box2 w b x m → ∃ x' m', Box2 w' b x' m'
theorem Keep2.trans {a b c : World} (h : Keep2 a b) (k : Keep2 b c) : Keep2 a c := fun n x m hb => by
  obtain ⟨x1, m1, h1⟩ := h n x m hb
  exact k n x1 m1 h1
theorem keep2_below {w w' : World} (h : Below w.heap.size w w') : Keep2 w w' := fun b x m hb => ⟨x, m, (h.block b hb.lt).trans hb⟩
theorem keep2_grown {w w' : World} (h : w.grownBy w' none) : Keep2 w w' := fun b x m hb => ⟨x, m, (h.block b hb.lt (by simp)).trans hb⟩
/-- a row's block that is a run's box has room for one run -/
theorem row_box {w : World} {base g n cap : Nat} {xs : List Value} {x m : Int} (h : w.ownsRow base 42 2 (.slice (some ⟨g, 0, none⟩) n cap) n xs) (hb : Box2 w g x m) : cap = 1 := by
  rcases h.2 with ⟨he, _⟩ | ⟨g', cap', cur, he, _, hh, _, _, hs, _⟩
  · cases he
  · injection he with h1 h2 h3
    injection h1 with h1
    injection h1 with h1
    subst h1 h3
    unfold Box2 at hb
    rw [hb] at hh
    injection hh with hh
    injection hh with hh
    rw [← hh] at hs
    simp at hs; omega
theorem box_row {w : World} {base g : Nat} {x : Nat} {m : Int} (h : w.ownsRow base 42 2 (.slice (some ⟨g, 0, none⟩) 1 1) 1 [.int .u64 (x : Int), .int .i64 m]) : Box2 w g (x : Int) m := by
  rcases h.2 with ⟨he, _⟩ | ⟨g', cap', cur, he, _, hh, _, _, hs, ht⟩
  · cases he
  · injection he with h1 h2 h3
    injection h1 with h1
    injection h1 with h1
    subst h1 h3
    unfold Box2
    rw [hh]
    have e : cur = #[.int .u64 (x : Int), .int .i64 m] := by
      apply Array.toList_inj.mp
      rw [List.take_of_length_le (by rw [Array.length_toList, hs]; exact Nat.le_refl _)] at ht
      rw [ht]
    rw [e]
theorem keep2_stored {w : World} {base g k cap : Nat} {xs : List Value} (h : w.ownsRow base 42 2 (.slice (some ⟨g, 0, none⟩) (k + 1) cap) (k + 1) xs) (z : Int) : Keep2 w (w.setCell ⟨g, k * 2 + 1, none⟩ (.int .i64 z)).drew := by
  intro b x m hb
  by_cases e : b = g
  · subst e
    have hc := row_box h hb
    have hk : k = 0 := by
      rcases h.2 with ⟨he, _⟩ | ⟨g', cap', cur, he, _, _, hn, _⟩
      · cases he
      · injection he with _ _ h3; omega
    subst hk
    refine ⟨x, z, ?_⟩
    unfold Box2 at hb ⊢
    show (w.setCell ⟨b, 0 * 2 + 1, none⟩ (.int .i64 z)).heap[b]? = _
    simp [World.setCell, Array.getElem?_modify, hb]
  · exact ⟨x, m, ((Lib.grownBy_setCell w g (k * 2 + 1) (.int .i64 z)).block b hb.lt (fun h => e (by injection h with h))).trans hb⟩

def AddPost2 (base : Nat) (l : List R.Run) (v : Value) (w : World) (e : Ending) (w' : World) : Prop :=
  ∃ v', e = .returned v' ∧ RunRow base l v' w' ∧ w.grownBy w' v.ownBlock ∧ Keep2 w w'

/-- append of one run, and what it keeps of runs' boxes -/
theorem wpList_append_run2 {w : World} {ops : Array Oper} {rest : List Oper} {o : Oper} {a : Act} {Q : Exit → Act → World → Prop} (hgd : o.guard = none) (s x : Operand)
    (ho : o.op = .call { callee := .builtin .append, args := #[s, x], argTypes := #[23, 23] }) (base : Nat)
    (v : Value) (l : List R.Run) (hs : a.eval s = v) (hown : RunRow base l v w)
    (g n : Nat) (m : Int) (hx : a.eval x = .slice (some ⟨g, 0, none⟩) 1 1) (hc : w.cell? ⟨g, 0, none⟩ = some (.int .u64 (n : Int))) (hc1 : w.cell? ⟨g, 1, none⟩ = some (.int .i64 m))
    (hbytes : (l.length + 1) * 16 ≤ 140737488355328) (hbase : base ≤ w.heap.size)
    (h : ∀ v' w', RunRow base (l ++ [(n, m)]) v' w' → w.grownBy w' v.ownBlock → Keep2 w w' → wpList Try.prog ops Q rest (a.put o.dst v') w') : wpList Try.prog ops Q (o :: rest) a w := by
  obtain ⟨i, hi, hz0, hz1, hz2⟩ := info_parts info_run
  have hnews : ∀ j u, ([.int .u64 (n : Int), .int .i64 m] : List Value)[j]? = some u → w.cell? ((⟨g, 0, none⟩ : Addr).add j) = some u := by
    intro j u hj
    match j, hj with
    | 0, hj => simp at hj; subst hj; simpa [Addr.add] using hc
    | 1, hj => simp at hj; subst hj; simpa [Addr.add] using hc1
  have hone : ∀ u ∈ ([.int .u64 (n : Int), .int .i64 m] : List Value), u.oneCell' = true := by
    intro u hu; simp at hu; rcases hu with rfl | rfl <;> rfl
  have hown' := hown
  unfold RunRow at hown'
  obtain ⟨v', w', hrun, hr1, hr2, hr3⟩ : ∃ v' w', (Builtin.append_ #[23, 23] o.type #[v, .slice (some ⟨g, 0, none⟩) 1 1]).run Try.prog w = .ok v' w' ∧ RunRow base (l ++ [(n, m)]) v' w' ∧ w.grownBy w' v.ownBlock ∧ Keep2 w w' := by
    rcases hown'.2 with ⟨rfl, h0⟩ | ⟨g', cap, cur, rfl, e2, e3, e4, e5, e6, e7⟩
    · obtain ⟨v', w', h1, h2, h3, _⟩ := run_append_own (P := Try.prog) w base 23 o.type 42 i (.agg #[.int .u64 0, .int .i64 0]) 2 16 Try.underlying23 hi hz0 hz1 hz2 rfl (by decide) (.slice none 0 0) l.length (rv l) hown' ⟨g, 0, none⟩ 1 1 [.int .u64 (n : Int), .int .i64 m] rfl hnews hone (by unfold maxLen; omega) hbytes hbase
      exact ⟨v', w', h1, by unfold RunRow; rw [rv_append, List.length_append]; exact h2, h3, keep2_grown h3⟩
    · by_cases hroom : l.length + 1 ≤ cap
      · obtain ⟨w', h1, h2, h3⟩ := run_append_fits (P := Try.prog) w base 23 o.type 42 i 2 Try.underlying23 hi hz1 g' l.length cap (rv l) hown' ⟨g, 0, none⟩ 1 1 [.int .u64 (n : Int), .int .i64 m] rfl hnews hone hroom
        refine ⟨_, w', h1, by unfold RunRow; rw [rv_append, List.length_append]; exact h2, h3, ?_⟩
        intro b x m' hb
        by_cases e : b = g'
        · subst e
          have hc1' := row_box hown' hb
          have hl0 : l.length = 0 := by omega
          have hl : l = [] := List.eq_nil_of_length_eq_zero hl0
          subst hl
          subst hc1'
          exact ⟨_, _, box_row h2⟩
        · exact ⟨x, m', (h3.block b hb.lt (fun h => e (by injection h with h))).trans hb⟩
      · obtain ⟨v', w', h1, h2, h3⟩ := run_append_arg_grows (P := Try.prog) w 23 o.type 42 i (.agg #[.int .u64 0, .int .i64 0]) 2 16 Try.underlying23 hi hz0 hz1 hz2 rfl (by decide) ⟨g', 0, none⟩ l.length cap (rv l) (rv_length l) (hown'.cells rfl) ⟨g, 0, none⟩ 1 1 [.int .u64 (n : Int), .int .i64 m] rfl hnews (by omega) (by unfold maxLen; omega) hbytes
        refine ⟨v', w', h1, ?_, ⟨h3.os, h3.tape, h3.output, h3.size, fun k hk _ => h3.block k hk (by simp)⟩, keep2_grown h3⟩
        unfold RunRow; rw [rv_append, List.length_append]; exact ⟨h2.1, h2.2.imp id (fun ⟨g, c, cur, e1, e2, r⟩ => ⟨g, c, cur, e1, Nat.le_trans hbase e2, r⟩)⟩
  refine wpList_plain hgd fun K hK => ?_
  unfold Oper.wp
  simp [execOp, ho, resolve, invoke, builtin, hs, hx, hrun, Result.andThen]
  exact hK _ _ (h v' w' hr1 hr2 hr3)

set_option maxHeartbeats 1000000 in
set_option maxRecDepth 100000 in
theorem add2_nil (base n : Nat) (m : Int) (v : Value) (w : World) (hrow : RunRow base [] v w) (hb : base ≤ w.heap.size) :
    Calls Try.prog 19 #[v, .agg #[.int .u64 (n : Int), .int .i64 m]] w (AddPost2 base [(n, m)] v w) := by
  obtain ⟨A, c, rfl⟩ : ∃ A c, v = .slice A 0 c := by
    rcases hrow.2 with ⟨rfl, _⟩ | ⟨g, cap, cur, rfl, _⟩
    · exact ⟨none, 0, rfl⟩
    · exact ⟨_, _, rfl⟩
  have HROW := Lib.hid hrow
  clear hrow
  go_enter Try.func19, Try.ntmps19
  go_wp2_with fail
  go_quiet (fail)
  obtain ⟨hbel, hc0, hc1, hsz⟩ := boxed_two w n m nq
  have hb5 : base ≤ (((w.alloc (.cells #[.int .u64 (n : Int), .int .i64 m] 42)).drewN nq).alloc (.cells #[.int .u64 (n : Int), .int .i64 m] 42)).heap.size := by omega
  have HC0 := Lib.hid hc0
  have HC1 := Lib.hid hc1
  clear hc0 hc1 hsz
  go_wp2_with (at_builtin; refine wpList_append_run2 rfl (.tmp 32) (.tmp 34) rfl base _ [] rfl (HROW.out.below hbel) (w.heap.size + 1) n m rfl HC0.out HC1.out (by simp) hb5 ?_)
  intro v' w2 hown2 hgrow2 hkp2
  go_wp2_with fail
  go_ret
  exact ⟨v', rfl, hown2, (Lib.grownBy_below (World.grownBy.refl w _) hbel).trans hgrow2, (keep2_below hbel).trans hkp2⟩

set_option maxHeartbeats 1000000 in
set_option maxRecDepth 100000 in
theorem add2_push (base n g k cap : Nat) (m : Int) (l : List R.Run) (w : World) (hl : l.length = k + 1) (hk : (k + 1 + 1) * 16 ≤ 140737488355328) (hrow : RunRow base l (.slice (some ⟨g, 0, none⟩) (k + 1) cap) w) (hb : base ≤ w.heap.size) (hne : (l.getD k (0, 0)).1 ≠ n) :
    Calls Try.prog 19 #[.slice (some ⟨g, 0, none⟩) (k + 1) cap, .agg #[.int .u64 (n : Int), .int .i64 m]] w (AddPost2 base (l ++ [(n, m)]) (.slice (some ⟨g, 0, none⟩) (k + 1) cap) w) := by
  have hrow' := hrow
  unfold RunRow at hrow'
  rw [hl] at hrow'
  have hg := (hrow'.lt g rfl).2
  have hc := hrow'.cellAt (k * 2) (by omega)
  rw [(rv_get l k (by omega)).1] at hc
  generalize (l.getD k (0, 0)).1 = y at *
  have g1 : ((y : Int) == (n : Int)) = false := by rw [beq_eq_false_iff_ne]; omega
  have HROW := Lib.hid hrow
  have hbnd : (l.length + 1) * 16 ≤ 140737488355328 := by omega
  clear hrow hrow' hne hl
  go_enter Try.func19, Try.ntmps19
  go_wp2_with fail
  have g2 : decide ((0 : Int) ≤ (k : Int)) = true := by simp
  go_quiet (fail)
  obtain ⟨hbel, hc0, hc1, hsz⟩ := boxed_two w n m nq
  have hb5 : base ≤ (((w.alloc (.cells #[.int .u64 (n : Int), .int .i64 m] 42)).drewN nq).alloc (.cells #[.int .u64 (n : Int), .int .i64 m] 42)).heap.size := by omega
  have HC0 := Lib.hid hc0
  have HC1 := Lib.hid hc1
  clear hc0 hc1 hsz
  go_wp2_with (at_builtin; refine wpList_append_run2 rfl (.tmp 32) (.tmp 34) rfl base _ l rfl (HROW.out.below hbel) (w.heap.size + 1) n m rfl HC0.out HC1.out hbnd hb5 ?_)
  intro v' w2 hown2 hgrow2 hkp2
  go_wp2_with fail
  go_ret
  exact ⟨v', rfl, hown2, (Lib.grownBy_below (World.grownBy.refl w _) hbel).trans hgrow2, (keep2_below hbel).trans hkp2⟩

set_option maxHeartbeats 1000000 in
set_option maxRecDepth 100000 in
theorem add2_set (base n g k cap : Nat) (m : Int) (l : List R.Run) (w : World) (hl : l.length = k + 1) (hk : (k + 1 + 1) * 16 ≤ 140737488355328) (hrow : RunRow base l (.slice (some ⟨g, 0, none⟩) (k + 1) cap) w) (hb : base ≤ w.heap.size) (hq : (l.getD k (0, 0)).1 = n)
    (hm1 : 0 ≤ (l.getD k (0, 0)).2 ∧ (l.getD k (0, 0)).2 ≤ 1048576) (hm2 : 0 ≤ m ∧ m ≤ 1048576) :
    Calls Try.prog 19 #[.slice (some ⟨g, 0, none⟩) (k + 1) cap, .agg #[.int .u64 (n : Int), .int .i64 m]] w (AddPost2 base (l.set k (n, (l.getD k (0, 0)).2 + m)) (.slice (some ⟨g, 0, none⟩) (k + 1) cap) w) := by
  have hrow' := hrow
  unfold RunRow at hrow'
  rw [hl] at hrow'
  have hg := (hrow'.lt g rfl).2
  have hc := hrow'.cellAt (k * 2) (by omega)
  rw [(rv_get l k (by omega)).1] at hc
  have hc1 := hrow'.cellAt (k * 2 + 1) (by omega)
  rw [(rv_get l k (by omega)).2] at hc1
  have hf1 := hrow'.frozenAt (k * 2 + 1)
  have HST := Lib.hid (rv_set l k n ((l.getD k (0, 0)).2 + m) (by omega) hq)
  generalize (l.getD k (0, 0)).1 = y at *
  generalize (l.getD k (0, 0)).2 = z at *
  have g1 : ((y : Int) == (n : Int)) = true := by rw [beq_iff_eq]; omega
  have HROW := Lib.hid hrow'
  have HL := Lib.hid hl
  clear hrow hrow' hq hl
  go_enter Try.func19, Try.ntmps19
  go_wp2_with fail
  have g2 : decide ((0 : Int) ≤ (k : Int)) = true := by simp
  go_quiet (fail)
  go_wp2_with fail
  have hbel : Below w.heap.size w ((w.alloc (.cells #[.int .u64 (n : Int), .int .i64 m] 42)).drewN nq) := below_drewN ((Below.refl _ _).alloc (Nat.le_refl _) _) _
  have hsz : ((w.alloc (.cells #[.int .u64 (n : Int), .int .i64 m] 42)).drewN nq).heap.size = w.heap.size + 1 := by simp
  have hm0 : ((w.alloc (.cells #[.int .u64 (n : Int), .int .i64 m] 42)).drewN nq).cell? ⟨w.heap.size, 1, none⟩ = some (.int .i64 m) := by simp
  have hz0 : ((w.alloc (.cells #[.int .u64 (n : Int), .int .i64 m] 42)).drewN nq).cell? ⟨g, k * 2 + 1, none⟩ = some (.int .i64 z) := (hbel.cell (p := ⟨g, k * 2 + 1, none⟩) hg).trans hc1
  have hf0 : ((w.alloc (.cells #[.int .u64 (n : Int), .int .i64 m] 42)).drewN nq).frozen? ⟨g, k * 2 + 1, none⟩ = false := (hbel.frozen (p := ⟨g, k * 2 + 1, none⟩) hg).trans hf1
  have hrow1 := row_below HROW.out hbel
  generalize (w.alloc (.cells #[.int .u64 (n : Int), .int .i64 m] 42)).drewN nq = w1 at *
  have HBEL := Lib.hid hbel
  have HROW1 := Lib.hid hrow1
  clear hrow1 hbel hc hc1 hf1 g1
  have hwz : IntKind.i64.wrap (z + m) = z + m := IntWalk.i64_in _ (by omega)
  go_region
  all_goals
    clear hwz
    go_wp2_with fail
    go_ret
    obtain ⟨hst, hgr⟩ := HROW1.out.stored (k * 2 + 1) (.int .i64 (z + m))
    rw [HST.out] at hst
    refine ⟨.slice (some ⟨g, 0, none⟩) (k + 1) cap, rfl, ?_, ?_, (keep2_below HBEL.out).trans (keep2_stored HROW1.out (z + m))⟩
    · unfold RunRow
      rw [List.length_set, HL.out]
      exact hst.drew
    · exact (Lib.grownBy_below (World.grownBy.refl w _) HBEL.out).trans (Lib.Hx.grownBy_drew hgr)
theorem add2_any (base n : Nat) (m : Int) (l : List R.Run) (v : Value) (w : World) (hrow : RunRow base l v w) (hb : base ≤ w.heap.size) (hk : (l.length + 1) * 16 ≤ 140737488355328) (hl : R.bnd 1048576 l) (hm : 0 ≤ m ∧ m ≤ 1048576) :
    Calls Try.prog 19 #[v, .agg #[.int .u64 (n : Int), .int .i64 m]] w (AddPost2 base (R.addR l (n, m)) v w) := by
  by_cases h0 : l = []
  · subst h0
    exact add2_nil base n m v w hrow hb
  · obtain ⟨k, hk'⟩ : ∃ k, l.length = k + 1 := ⟨l.length - 1, by have := List.length_pos_iff.2 h0; omega⟩
    have hrow' := hrow
    unfold RunRow at hrow'
    rw [hk'] at hrow'
    obtain ⟨g, cap, rfl⟩ : ∃ g cap, v = .slice (some ⟨g, 0, none⟩) (k + 1) cap := by
      rcases hrow'.2 with ⟨_, h⟩ | ⟨g, cap, cur, rfl, _⟩
      · omega
      · exact ⟨g, cap, rfl⟩
    have hkl : k < l.length := by rw [hk']; exact Nat.lt_succ_self k
    have hmem : l.getD k (0, 0) ∈ l := rgetD_mem l k hkl
    have hbk := hl _ hmem
    have hk2 : (k + 1 + 1) * 16 ≤ 140737488355328 := by rw [← hk']; exact hk
    clear hmem hl
    by_cases hq : (l.getD k (0, 0)).1 = n
    · have e : R.addR l (n, m) = l.set k (n, (l.getD k (0, 0)).2 + m) := by
        have e := R.addR_set l (n, m) h0 (by rw [hk', Nat.add_sub_cancel]; exact hq)
        rw [hk', Nat.add_sub_cancel, hq] at e
        exact e
      rw [e]
      exact add2_set base n g k cap m l w hk' hk2 hrow hb hq hbk hm
    · have e : R.addR l (n, m) = l ++ [(n, m)] := R.addR_push l (n, m) (Or.inr (by rw [hk', Nat.add_sub_cancel]; exact hq))
      rw [e]
      exact add2_push base n g k cap m l w hk' hk2 hrow hb hq
end Go.Proofs.Ythmlafoceacliab
