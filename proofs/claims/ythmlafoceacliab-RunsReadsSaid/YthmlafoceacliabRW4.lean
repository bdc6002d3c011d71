/- The walk of hypostyleref.RunsOf. -/
import Derived.Test.YthmlafoceacliabRW3
namespace Go.Proofs.Ythmlafoceacliab
open Go.RowKit
set_option linter.unusedVariables false

/-- append of a row of runs of the call's own, nil too, onto one of its own -/
theorem wpList_append_runs {w : World} {ops : Array Oper} {rest : List Oper} {o : Oper} {a : Act} {Q : Exit → Act → World → Prop} (hgd : o.guard = none) (s x : Operand)
    (ho : o.op = .call { callee := .builtin .append, args := #[s, x], argTypes := #[23, 23] }) (base base' : Nat)
    (v : Value) (l : List R.Run) (hs : a.eval s = v) (hown : RunRow base l v w)
    (u : Value) (m : List R.Run) (hx : a.eval x = u) (hu : RunRow base' m u w)
    (hbytes : (l.length + m.length) * 16 ≤ 140737488355328) (hbase : base ≤ w.heap.size)
    (h : ∀ v' w', RunRow base (l ++ m) v' w' → w.grownBy w' v.ownBlock → wpList Try.prog ops Q rest (a.put o.dst v') w') : wpList Try.prog ops Q (o :: rest) a w := by
  obtain ⟨i, hi, hz0, hz1, hz2⟩ := info_parts info_run
  have hu' := hu
  unfold RunRow at hu'
  rcases hu'.2 with ⟨rfl, h0⟩ | ⟨g, cap, cur, rfl, e2, e3, e4, e5, e6, e7⟩
  · have hm : m = [] := List.eq_nil_of_length_eq_zero h0
    subst hm
    exact wpList_append_own_none hgd s x 23 ho base 42 i 2 Try.underlying23 hi v l.length (rv l) hs hown hx (h v w (by rw [List.append_nil]; exact hown) (World.grownBy.refl w _))
  · refine wpList_append_own w hgd s x 23 ho base 42 i (.agg #[.int .u64 0, .int .i64 0]) 2 16 Try.underlying23 hi hz0 hz1 hz2 rfl (by decide) v l.length (rv l) hs hown ⟨g, 0, none⟩ m.length cap (rv m) hx (rv_length m) (hu'.cells rfl) ?_ (by unfold maxLen; omega) hbytes hbase (fun v' w' h1 h2 _ => h v' w' ?_ h2)
    · intro z hz
      simp only [rv, List.mem_flatMap] at hz
      obtain ⟨p, _, hz⟩ := hz
      simp at hz; rcases hz with rfl | rfl <;> rfl
    · unfold RunRow; rw [rv_append, List.length_append]; exact h1

theorem rle_drop (l : List Nat) (k : Nat) (hk : k < l.length) : R.rle (l.drop k) = R.consR (l.getD k 0, 1) (R.rle (l.drop (k + 1))) := by
  rw [List.drop_eq_getElem_cons hk, R.rle_cons]; simp [List.getD, List.getElem?_eq_getElem hk]

theorem lit_row (W : World) (x : Nat) (m : Int) (base : Nat) (hb : base ≤ W.heap.size) : RunRow base [(x, m)] (.slice (some ⟨W.heap.size, 0, none⟩) 1 1) (W.alloc (.cells #[.int .u64 (x : Int), .int .i64 m] 42)) :=
  ⟨rfl, Or.inr ⟨W.heap.size, 1, _, rfl, hb, heap_alloc_new W _, Nat.le_refl _, by unfold maxLen; omega, rfl, rfl⟩⟩

set_option maxHeartbeats 2000000 in
set_option maxRecDepth 100000 in
theorem runsOf_some (b off c : Nat) (l : List Nat) (w : World) (hl : l.length ≤ 1048576) (hb : b < w.heap.size)
    (hc : ∀ i, i < l.length → w.cell? ⟨b, off + i, none⟩ = some (.int .u64 ((l.getD i 0 : Nat) : Int))) :
    Calls Try.prog 9 #[.slice (some ⟨b, off, none⟩) l.length c] w (RunsOnly (R.rle l) w) := by
  have HC := Lib.hid hc
  have HDR := Lib.hid (fun k hk => rle_drop l k hk)
  have HBD := Lib.hid (show ∀ k, R.bnd 1048576 (R.rle (l.drop k)) ∧ (R.rle (l.drop k)).length ≤ 1048576 from fun k =>
    ⟨fun p hp => by have := bnd_rle (l.drop k) p hp; simp only [List.length_drop] at this; omega, by have := rle_length_le (l.drop k); simp only [List.length_drop] at this; omega⟩)
  have HST := Lib.hid (show R.rle (l.drop l.length) = [] by rw [List.drop_length]; rfl)
  clear hc
  go_enter Try.func9, Try.ntmps9
  go_wp2_with fail
  go_loopw [3, 4] (fun v i wr => ∃ k : Nat, k ≤ l.length ∧ i = .int .i64 ((k : Int) - 1) ∧ RunRow w.heap.size (R.rle (l.drop k)) v wr ∧ Below w.heap.size w wr) (fun _ i _ => (intOf i + 1).toNat)
  case atStart => exact ⟨l.length, Nat.le_refl _, rfl, by rw [HST.out]; exact ⟨rfl, Or.inl ⟨rfl, rfl⟩⟩, Below.refl _ _⟩
  case round =>
    obtain ⟨k, hk, rfl, hrow, hbw⟩ := hrel
    by_cases hk0 : k = 0
    · subst hk0
      rw [List.drop_zero] at hrow
      rw [show ((0 : Nat) : Int) - 1 = -1 by omega]
      obtain ⟨a, c', rfl, hnum⟩ := runRow_slice hrow
      generalize R.rle l = xs at *
      go_wp2_with fail
      go_ret
      exact ⟨a, c', rfl, hnum, hbw⟩
    · obtain ⟨k, rfl⟩ : ∃ k', k = k' + 1 := ⟨k - 1, by omega⟩
      rw [show ((k + 1 : Nat) : Int) - 1 = (k : Int) by omega]
      have hkl : k < l.length := by omega
      have hcell : wr.cell? ⟨b, off + k, none⟩ = some (.int .u64 ((l.getD k 0 : Nat) : Int)) := (hbw.cell (p := ⟨b, off + k, none⟩) hb).trans (HC.out k hkl)
      have hdr := HDR.out k hkl
      obtain ⟨hb1, hb2⟩ := HBD.out (k + 1)
      generalize l.getD k 0 = x at *
      generalize R.rle (l.drop (k + 1)) = xs at *
      clear hk0
      cases xs with
      | nil =>
        have HD := Lib.hid (show R.rle (l.drop k) = [(x, 1)] ++ [] from hdr)
        obtain ⟨A, cp, rfl⟩ : ∃ A cp, u3 = .slice A 0 cp := by
          rcases hrow.2 with ⟨rfl, _⟩ | ⟨g, cap, cur, rfl, _⟩
          · exact ⟨none, 0, rfl⟩
          · exact ⟨_, _, rfl⟩
        have HROW := Lib.hid hrow
        have hby : ([(x, (1 : Int))].length + ([] : List R.Run).length) * 16 ≤ 140737488355328 := by simp
        clear hrow hdr hb1 hb2
        go_wp2_with fail
        go_quiet (fail)
        have hbq : Below wr.heap.size wr ((wr.drewN nq).alloc (.cells #[.int .u64 (x : Int), .int .i64 1] 42)) := (below_drewN (Below.refl _ _) _).alloc (by simp) _
        have hbq2 : Below w.heap.size w ((wr.drewN nq).alloc (.cells #[.int .u64 (x : Int), .int .i64 1] 42)) := hbw.trans (hbq.mono hbw.size)
        have hs5 : w.heap.size ≤ ((wr.drewN nq).alloc (.cells #[.int .u64 (x : Int), .int .i64 1] 42)).heap.size := hbq2.size
        have hlit := lit_row (wr.drewN nq) x 1 w.heap.size (by simp; exact hbw.size)
        rw [show (wr.drewN nq).heap.size = wr.heap.size by simp] at hlit
        have HLIT := Lib.hid hlit
        clear hlit
        go_wp2_with (at_builtin; refine wpList_append_runs rfl (.tmp 38) (.tmp 39) rfl w.heap.size w.heap.size _ [(x, 1)] rfl HLIT.out _ _ rfl (HROW.out.below hbq) hby hs5 ?_)
        intro v' w2 hown2 hgrow2
        have hbw2 : Below w.heap.size w w2 := hbq2.grown hgrow2 hs5 (fun k hk => (HLIT.out.lt k hk).1)
        go_wp2_with fail
        refine ⟨⟨k, by omega, by first | rfl | go_num, ?_, hbw2⟩, by simp [intOf]⟩
        rw [HD.out]; exact hown2
      | cons p xs =>
        obtain ⟨y, z⟩ := p
        have hz := hb1 (y, z) (by simp)
        simp only at hz
        have hrow' := hrow
        unfold RunRow at hrow'
        rw [List.length_cons] at hrow' hb2
        obtain ⟨g, cap, rfl⟩ : ∃ g cap, u3 = .slice (some ⟨g, 0, none⟩) (xs.length + 1) cap := by
          rcases hrow'.2 with ⟨_, h⟩ | ⟨g, cap, cur, rfl, _⟩
          · omega
          · exact ⟨g, cap, rfl⟩
        have hcy : wr.cell? ⟨g, 0, none⟩ = some (.int .u64 (y : Int)) := (hrow'.cellAt 0 (by omega)).trans rfl
        have hcz : wr.cell? ⟨g, 1, none⟩ = some (.int .i64 z) := (hrow'.cellAt 1 (by omega)).trans rfl
        have hfz := hrow'.frozenAt 1
        have g0 : decide ((0 : Int) < (xs.length : Int) + 1) = true := by rw [decide_eq_true_eq]; omega
        have g0' : decide (0 < xs.length + 1) = true := by simp
        by_cases hq : y = x
        · have HD := Lib.hid (show R.rle (l.drop k) = (y, 1 + z) :: xs by rw [hdr]; simp only [R.consR]; rw [if_pos hq])
          have g1 : ((y : Int) == (x : Int)) = true := by rw [hq]; simp
          have hgw := (hrow'.lt g rfl).1
          have HROW := Lib.hid hrow'
          clear hrow hrow' hdr hb1 hq
          go_wp2_with fail
          go_quiet (fail)
          go_wp2_with fail
          obtain ⟨hst, hgr⟩ := (show (wr.drewN nq).ownsRow w.heap.size 42 2 (.slice (some ⟨g, 0, none⟩) (xs.length + 1) cap) (xs.length + 1) (rv ((y, z) :: xs)) from row_below HROW.out (below_drewN (Below.refl _ _) _)).stored 1 (.int .i64 (z + 1))
          have hbq2 : Below w.heap.size w ((wr.drewN nq).setCell ⟨g, 1, none⟩ (.int .i64 (z + 1))) := (hbw.trans (below_drewN (Below.refl _ _) _)).setCell hgw _
          refine ⟨⟨k, by omega, by first | rfl | go_num, ?_, hbq2⟩, by simp [intOf]⟩
          rw [HD.out, show (1 : Int) + z = z + 1 by omega]
          exact hst
        · have HD := Lib.hid (show R.rle (l.drop k) = [(x, 1)] ++ (y, z) :: xs by rw [hdr]; simp only [R.consR]; rw [if_neg hq]; rfl)
          have g1 : ((y : Int) == (x : Int)) = false := by rw [beq_eq_false_iff_ne]; omega
          have HROW := Lib.hid hrow
          have hby : ([(x, (1 : Int))].length + ((y, z) :: xs).length) * 16 ≤ 140737488355328 := by simp; omega
          clear hrow hrow' hdr hb1 hq
          go_wp2_with fail
          go_quiet (fail)
          have hbq : Below wr.heap.size wr ((wr.drewN nq).alloc (.cells #[.int .u64 (x : Int), .int .i64 1] 42)) := (below_drewN (Below.refl _ _) _).alloc (by simp) _
          have hbq2 : Below w.heap.size w ((wr.drewN nq).alloc (.cells #[.int .u64 (x : Int), .int .i64 1] 42)) := hbw.trans (hbq.mono hbw.size)
          have hs5 : w.heap.size ≤ ((wr.drewN nq).alloc (.cells #[.int .u64 (x : Int), .int .i64 1] 42)).heap.size := hbq2.size
          have hlit := lit_row (wr.drewN nq) x 1 w.heap.size (by simp; exact hbw.size)
          rw [show (wr.drewN nq).heap.size = wr.heap.size by simp] at hlit
          have HLIT := Lib.hid hlit
          clear hlit
          go_wp2_with (at_builtin; refine wpList_append_runs rfl (.tmp 38) (.tmp 39) rfl w.heap.size w.heap.size _ [(x, 1)] rfl HLIT.out _ _ rfl (HROW.out.below hbq) hby hs5 ?_)
          intro v' w2 hown2 hgrow2
          have hbw2 : Below w.heap.size w w2 := hbq2.grown hgrow2 hs5 (fun k hk => (HLIT.out.lt k hk).1)
          go_wp2_with fail
          refine ⟨⟨k, by omega, by first | rfl | go_num, ?_, hbw2⟩, by simp [intOf]⟩
          rw [HD.out]; exact hown2

set_option maxHeartbeats 400000 in
theorem runsOf_nil (a : Option Addr) (c : Nat) (w : World) :
    Calls Try.prog 9 #[.slice a 0 c] w (RunsOnly [] w) := by
  go_enter Try.func9, Try.ntmps9
  go_wp2_with fail
  refine wp_loop_rounds 1 ?_
  rw [rounds_succ]
  go_wp2_with fail
  go_ret
  exact ⟨none, 0, rfl, Runs.nil _ _ _, Below.refl _ _⟩
theorem runsOf_any (a : Option Addr) (c : Nat) (l : List Nat) (w : World) (hl : l.length ≤ 1048576) (hu : Nums w w.heap.size a l) :
    Calls Try.prog 9 #[.slice a l.length c] w (RunsOnly (R.rle l) w) := by
  by_cases hn : l = []
  · subst hn; exact runsOf_nil a c w
  · obtain ⟨b, off, rfl, hb, hc⟩ := hu hn
    exact runsOf_some b off c l w hl hb hc
end Go.Proofs.Ythmlafoceacliab
