/- Runs, each with its place: the iterator of runs.placed. -/
import Derived.RangeFuncNested
import Derived.RangeFuncBound
import Derived.RangeFuncCalls
import Derived.RangeFuncLeaves
import Derived.Shelf.Abstract
import Derived.Shelf.RegionOpen
import Derived.WalkKit
import Derived.OwnWalkIn
import Derived.TacticsInMore
import Derived.LoopNIn
import Derived.LoopIn
import Derived.Test.YthmlafoceacliabRW3
namespace Go.Proofs.Ythmlafoceacliab
open Go.RowKit Go.Shelf
attribute [local go_sem] Oper.semAt_some
set_option linter.unusedVariables false

abbrev PX := Int × Nat × Int
def fr (l : List R.Run) (k : Nat) : Int := (l.take k).foldl (fun f r => wrap64 (f + r.2)) 0
theorem fr_zero (l : List R.Run) : fr l 0 = 0 := by simp [fr]
theorem fr_succ (l : List R.Run) (k : Nat) (h : k < l.length) : fr l (k + 1) = wrap64 (fr l k + (l.getD k (0, 0)).2) := by
  unfold fr; rw [rtake_snoc l k h, List.foldl_append]; rfl
def plc (l : List R.Run) : List PX := (List.range l.length).map fun k => (fr l k, (l.getD k (0, 0)).1, (l.getD k (0, 0)).2)
theorem plc_length (l : List R.Run) : (plc l).length = l.length := by simp [plc]
def pxv (x : PX) : Array Value := #[.int .i64 x.1, .agg #[.int .u64 (x.2.1 : Int), .int .i64 x.2.2]]

/-- a run's box -/
def Box2 (W : World) (b : Nat) (x m : Int) : Prop := W.heap[b]? = some (.cells #[.int .u64 x, .int .i64 m] 42 (0, 0))
theorem Box2.lt {W : World} {b : Nat} {x m : Int} (h : Box2 W b x m) : b < W.heap.size := lt_of_block h
theorem Box2.new (W : World) (x m : Int) : Box2 (W.alloc (.cells #[.int .u64 x, .int .i64 m] 42)) W.heap.size x m := heap_alloc_new W _
theorem Box2.c0 {W : World} {b : Nat} {x m : Int} (h : Box2 W b x m) : W.cell? ⟨b, 0, none⟩ = some (.int .u64 x) := by unfold Box2 at h; simp [World.cell?, h]
theorem Box2.c1 {W : World} {b : Nat} {x m : Int} (h : Box2 W b x m) : W.cell? ⟨b, 1, none⟩ = some (.int .i64 m) := by unfold Box2 at h; simp [World.cell?, h]

/-- what a round keeps: all below n, and runs' boxes (st: as they were; else as boxes) -/
def Kp (st : Bool) (n : Nat) (W W' : World) : Prop := Below n W W' ∧ ∀ b x m, Box2 W b x m → ∃ x' m', Box2 W' b x' m' ∧ (st = true → x' = x ∧ m' = m)
theorem Kp.refl (st : Bool) (n : Nat) (W : World) : Kp st n W W := ⟨Below.refl _ _, fun b x m h => ⟨x, m, h, fun _ => ⟨rfl, rfl⟩⟩⟩
theorem Kp.trans {st : Bool} {n : Nat} {A B C : World} (h : Kp st n A B) (k : Kp st n B C) : Kp st n A C :=
  ⟨h.1.trans k.1, fun b x m hb => by
    obtain ⟨x1, m1, h1, e1⟩ := h.2 b x m hb
    obtain ⟨x2, m2, h2, e2⟩ := k.2 b x1 m1 h1
    exact ⟨x2, m2, h2, fun hs => ⟨(e2 hs).1.trans (e1 hs).1, (e2 hs).2.trans (e1 hs).2⟩⟩⟩
theorem Kp.grown {st : Bool} {n : Nat} {W W' : World} {row : Option Nat} (hg : W.grownBy W' row) (hn : n ≤ W.heap.size) (hr : ∀ k, row = some k → n ≤ k ∧ ∀ x m, ¬ Box2 W k x m) : Kp st n W W' :=
  ⟨(Below.refl n W).grown hg hn (fun k hk => (hr k hk).1), fun b x m hb => ⟨x, m, (hg.block b hb.lt (fun e => (hr b e.symm).2 x m hb)).trans hb, fun _ => ⟨rfl, rfl⟩⟩⟩
theorem Kp.alloc {st : Bool} {n : Nat} {W : World} (hn : n ≤ W.heap.size) (o : Obj) : Kp st n W (W.alloc o) :=
  Kp.grown (World.grownBy_alloc W o none) hn (fun k hk => by cases hk)
theorem Kp.put {st : Bool} {n : Nat} (W : World) (l : Nat) (o o' : Obj) (hn : n ≤ l) (hl : W.heap[l]? = some o) (ho : o.isCells = false) : Kp st n W (W.putObj l o') := by
  have hlt := (Array.getElem?_eq_some_iff.1 hl).1
  refine Kp.grown (grownBy_putObj' W l o') (by omega) (fun k hk => ?_)
  cases hk
  refine ⟨hn, fun x m hb => ?_⟩
  unfold Box2 at hb
  rw [hl] at hb; cases hb; cases ho

set_option maxRecDepth 100000 in
set_option maxHeartbeats 1000000 in
/-- every run in its order -/
theorem placed1_in {α : Type} (val : α → PX) (xs : List α) (F : Fence) (n : Nat) (hf : F.fn 24) (hro : F.round = none) (hn : 1 ≤ n) (lp Bs n₀ b off cap : Nat) (l : List R.Run) (hl : l.length ≤ maxLen) (hxs : xs.map val = plc l) (hb : b < n₀) (J Jx : List α → World → Prop)
    (W : World) (hn₀ : n₀ ≤ W.heap.size) (hJ : AbidesFrom W.heap.size J)
    (hY : ∀ pre x W, J pre W → pre.length < xs.length → YieldAt F (n - 1) Try.prog lp (pxv (val x)) W fun e W' =>
      (e = .returned (.bool true) ∧ J (pre ++ [x]) W' ∧ Kp true n₀ W W') ∨ (e = .returned (.bool false) ∧ Jx (pre ++ [x]) W'))
    (hBs : W.cell? ⟨Bs, 0, none⟩ = some (.slice (some ⟨b, off, none⟩) l.length cap))
    (hc : ∀ i, i < l.length → W.cell? ⟨b, off + i * 2, none⟩ = some (.int .u64 ((l.getD i (0, 0)).1 : Int)) ∧ W.cell? ⟨b, off + i * 2 + 1, none⟩ = some (.int .i64 (l.getD i (0, 0)).2)) (h0 : J [] W) :
    CallsIn F n Try.prog 24 #[.func (.yield lp) #[] #[], .pointer (some ⟨Bs, 0, none⟩)] W fun e W' => (∃ v, e = .returned v) ∧
      ((∃ ys, ys = xs ∧ J ys W') ∨ (∃ pre, pre <+: xs ∧ Jx pre W')) := by
  unfold maxLen at hl
  have hlen : xs.length = l.length := by have := congrArg List.length hxs; simpa [plc] using this
  have HV := Lib.hid (show ∀ k (h : k < xs.length), val xs[k] = (fr l k, (l.getD k (0, 0)).1, (l.getD k (0, 0)).2) from fun k h => by
    have : (xs.map val)[k]? = (plc l)[k]? := by rw [hxs]
    simp [plc, List.getElem?_eq_getElem h, show k < l.length by omega] at this
    rw [this]; simp [List.getD, List.getElem?_eq_getElem (show k < l.length by omega)])
  have HC := Lib.hid hc
  have HFS := Lib.hid (fun k hk => fr_succ l k hk)
  have HF0 := Lib.hid (fr_zero l)
  clear hc hxs
  refine callsIn_of_wp Try.func24 rfl hf ?_ hro
  simp only [Try.ntmps24, List.size_toArray, List.length_cons, List.length_nil, Nat.reduceAdd, Nat.reduceSub, Array.replicate_succ, Array.replicate_zero, List.push_toArray, List.append_toArray, List.nil_append, List.cons_append]
  gi_wp2
  gi_loopw [3, 5, 8] (fun f _ i wr => ∃ k : Nat, k ≤ l.length ∧ i = .int .i64 k ∧ f = .int .i64 (fr l k) ∧ J (xs.take k) wr ∧ Below n₀ W wr) (fun _ _ i _ => l.length - (intOf i).toNat)
  case atStart => exact ⟨0, by omega, rfl, by rw [HF0.out], by simpa using h0, Below.refl _ _⟩
  case round =>
    obtain ⟨k, hk, rfl, rfl, hJs, hbw⟩ := hrel
    by_cases hlt : k < l.length
    · obtain ⟨c0, c1⟩ := HC.out k hlt
      have c0' := (hbw.cell (p := ⟨b, off + k * 2, none⟩) hb).trans c0
      have c1' := (hbw.cell (p := ⟨b, off + k * 2 + 1, none⟩) hb).trans c1
      have hv := HV.out k (by omega)
      have hfs := HFS.out k hlt
      generalize fr l k = f at *
      generalize l.getD k (0, 0) = r at *
      obtain ⟨y, m⟩ := r
      simp only at c0' c1' hv hfs
      have hJ1 : J (xs.take k) (wr.alloc (.cells #[.int .u64 (y : Int), .int .i64 m] 42)) := hJ _ wr _ none hJs (World.grownBy_alloc wr _ none) (fun r e => by cases e)
      obtain ⟨fn, tmps, assign, body, hy, hR⟩ := hY (xs.take k) (xs[k]'(by omega)) _ hJ1 (by rw [List.length_take]; omega)
      rw [hv] at hy
      dsimp only [pxv] at hy
      clear c0 c1 hv
      gi_wp2
      refine hR.mono ?_
      rintro e W3 (⟨rfl, hJ3, hk3⟩ | ⟨rfl, hJx3⟩)
      · obtain ⟨y3, m3, hb3, he3⟩ := hk3.2 _ _ _ (Box2.new wr (y : Int) m)
        obtain ⟨rfl, rfl⟩ := he3 rfl
        have c3 := hb3.c1
        have HFS2 := Lib.hid hfs
        have HJ3 := Lib.hid hJ3
        have hb3w : Below n₀ W W3 := (hbw.alloc (by have := hbw.size; omega) _).trans hk3.1
        clear hfs hy
        gi_wp2
        go_roundw
        case rel =>
          refine ⟨k + 1, by omega, by go_num, by rw [HFS2.out], ?_, hb3w⟩
          have := HJ3.out
          rwa [← List.take_succ_eq_append_getElem (show k < xs.length by omega)] at this
        case measure => simp [intOf]; omega
      · gi_wp2
        refine bodyPost_ret (results_none rfl _ _ _) rfl ?_
        refine ⟨⟨_, rfl⟩, .inr ⟨_, ?_, hJx3⟩⟩
        rw [← List.take_succ_eq_append_getElem (show k < xs.length by omega)]
        exact List.take_prefix _ _
    · have HAL := Lib.hid (show xs.take k = xs from List.take_of_length_le (by omega))
      rw [HAL.out] at hJs
      gi_wp2
      go_end0
      exact ⟨⟨_, rfl⟩, .inl ⟨xs, rfl, hJs⟩⟩

set_option maxRecDepth 100000 in
set_option maxHeartbeats 1000000 in
/-- every run in its order, its place whatever -/
theorem placed1_weak (P : R.Run → Prop) (F : Fence) (n : Nat) (hf : F.fn 24) (hro : F.round = none) (hn : 1 ≤ n) (lp Bs n₀ b off cap : Nat) (l : List R.Run) (hl : l.length ≤ maxLen) (hP : ∀ r ∈ l, P r) (hb : b < n₀) (J Jx : List { x : PX // P x.2 } → World → Prop)
    (W : World) (hn₀ : n₀ ≤ W.heap.size) (hJ : AbidesFrom W.heap.size J)
    (hY : ∀ pre x W, J pre W → pre.length < l.length → YieldAt F (n - 1) Try.prog lp (pxv x.1) W fun e W' =>
      (e = .returned (.bool true) ∧ J (pre ++ [x]) W' ∧ Kp false n₀ W W') ∨ (e = .returned (.bool false) ∧ Jx (pre ++ [x]) W'))
    (hBs : W.cell? ⟨Bs, 0, none⟩ = some (.slice (some ⟨b, off, none⟩) l.length cap))
    (hc : ∀ i, i < l.length → W.cell? ⟨b, off + i * 2, none⟩ = some (.int .u64 ((l.getD i (0, 0)).1 : Int)) ∧ W.cell? ⟨b, off + i * 2 + 1, none⟩ = some (.int .i64 (l.getD i (0, 0)).2)) (h0 : J [] W) :
    CallsIn F n Try.prog 24 #[.func (.yield lp) #[] #[], .pointer (some ⟨Bs, 0, none⟩)] W fun e W' => (∃ v, e = .returned v) ∧
      ((∃ ys, ys.map (fun x : { x : PX // P x.2 } => x.1.2) = l ∧ J ys W') ∨ (∃ pre, pre.map (fun x : { x : PX // P x.2 } => x.1.2) <+: l ∧ Jx pre W')) := by
  unfold maxLen at hl
  have HC := Lib.hid hc
  have HPP := Lib.hid hP
  clear hP
  have HSN := Lib.hid (fun k hk => rtake_snoc l k hk)
  clear hc
  refine callsIn_of_wp Try.func24 rfl hf ?_ hro
  simp only [Try.ntmps24, List.size_toArray, List.length_cons, List.length_nil, Nat.reduceAdd, Nat.reduceSub, Array.replicate_succ, Array.replicate_zero, List.push_toArray, List.append_toArray, List.nil_append, List.cons_append]
  gi_wp2
  gi_loopw [3, 5, 8] (fun f _ i wr => ∃ k : Nat, k ≤ l.length ∧ i = .int .i64 k ∧ (∃ z, f = .int .i64 z) ∧ (∃ ys : List { x : PX // P x.2 }, Hid (ys.map (fun x : { x : PX // P x.2 } => x.1.2) = l.take k) ∧ J ys wr) ∧ Below n₀ W wr) (fun _ _ i _ => l.length - (intOf i).toNat)
  case atStart => exact ⟨0, by omega, rfl, ⟨0, rfl⟩, ⟨[], Lib.hid (by simp), h0⟩, Below.refl _ _⟩
  case round =>
    obtain ⟨k, hk, rfl, ⟨f, rfl⟩, ⟨ys, HYS, hJs⟩, hbw⟩ := hrel
    by_cases hlt : k < l.length
    · obtain ⟨c0, c1⟩ := HC.out k hlt
      have c0' := (hbw.cell (p := ⟨b, off + k * 2, none⟩) hb).trans c0
      have c1' := (hbw.cell (p := ⟨b, off + k * 2 + 1, none⟩) hb).trans c1
      have hsn := HSN.out k hlt
      have hyl : ys.length = k := by have := congrArg List.length HYS.out; simp only [List.length_map, List.length_take] at this; omega
      have hpk := HPP.out _ (rgetD_mem l k hlt)
      generalize l.getD k (0, 0) = r at *
      obtain ⟨y, m⟩ := r
      simp only at c0' c1'
      have hJ1 : J ys (wr.alloc (.cells #[.int .u64 (y : Int), .int .i64 m] 42)) := hJ _ wr _ none hJs (World.grownBy_alloc wr _ none) (fun r e => by cases e)
      obtain ⟨fn, tmps, assign, body, hy, hR⟩ := hY ys ⟨(f, y, m), hpk⟩ _ hJ1 (by omega)
      dsimp only [pxv] at hy
      have HSN2 := Lib.hid hsn
      clear c0 c1 hsn
      gi_wp2
      refine hR.mono ?_
      rintro e W3 (⟨rfl, hJ3, hk3⟩ | ⟨rfl, hJx3⟩)
      · obtain ⟨y3, m3, hb3, he3⟩ := hk3.2 _ _ _ (Box2.new wr (y : Int) m)
        have c3 := hb3.c1
        have HJ3 := Lib.hid hJ3
        have hb3w : Below n₀ W W3 := (hbw.alloc (by have := hbw.size; omega) _).trans hk3.1
        clear hy he3
        gi_wp2
        go_roundw
        case rel =>
          refine ⟨k + 1, by omega, by go_num, ⟨_, rfl⟩, ⟨_, Lib.hid ?_, HJ3.out⟩, hb3w⟩
          rw [List.map_append, HYS.out, HSN2.out]; rfl
        case measure => simp [intOf]; omega
      · gi_wp2
        refine bodyPost_ret (results_none rfl _ _ _) rfl ?_
        refine ⟨⟨_, rfl⟩, .inr ⟨_, ?_, hJx3⟩⟩
        rw [List.map_append, HYS.out]
        show l.take k ++ [(y, m)] <+: l
        rw [← HSN2.out]
        exact List.take_prefix _ _
    · have HAL := Lib.hid (show ys.map (fun x : { x : PX // P x.2 } => x.1.2) = l by rw [HYS.out, List.take_of_length_le (by omega)])
      gi_wp2
      go_end0
      exact ⟨⟨_, rfl⟩, .inl ⟨ys, HAL.out, hJs⟩⟩

end Go.Proofs.Ythmlafoceacliab
