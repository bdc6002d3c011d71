/- The walks of front.told, front.next. -/
import Derived.Test.YtplhlnlonjlcaaaFW3
import Derived.Test.YtplhlnlonjlcaaaVaryRead
namespace Go.Proofs.Ytplhlnlonjlcaaa
open Go.RowKit
set_option linter.unusedVariables false

theorem rdall_any (s : ByteArray) (w : World) (hs : s.size ≤ maxLen) : Calls Try.prog 34 #[.string s] w (ReadPost (V.rd s.data.toList) w) := by
  by_cases h0 : s.size = 0
  · have e : s.data.toList = [] := data_empty s h0
    rw [e]
    exact read_empty s w (empty_true s h0)
  · exact read_any s w hs (by omega) (empty_false s h0)

/-- both sizes with which a text begins, what stands behind them, and what is wrong -/
def toldR (s : List UInt8) : (Nat × Nat) × List UInt8 × Nat :=
  if (V.rd s).2.2 ≠ 0 then ((0, 0), [], (V.rd s).2.2)
  else if (V.rd (s.drop (V.rd s).2.1)).2.2 ≠ 0 then ((0, 0), [], (V.rd (s.drop (V.rd s).2.1)).2.2)
  else (((V.rd s).1, (V.rd (s.drop (V.rd s).2.1)).1), (s.drop (V.rd s).2.1).drop (V.rd (s.drop (V.rd s).2.1)).2.1, 0)
def ToldPost (r : (Nat × Nat) × List UInt8 × Nat) (w : World) (e : Ending) (w' : World) : Prop :=
  e = .returned (.tuple #[.agg #[.int .u64 (r.1.1 : Nat), .int .u64 (r.1.2 : Nat)], .string (str r.2.1), .int .i64 (r.2.2 : Nat)]) ∧ Below w.heap.size w w'

/-- a block of two numbers -/
def Two (w : World) (b n m : Nat) : Prop := w.heap[b]? = some (.cells #[.int .u64 (n : Int), .int .u64 (m : Int)] 41 (0, 0))
theorem Two.cell0 {w : World} {b n m : Nat} (h : Two w b n m) : w.cell? ⟨b, 0, none⟩ = some (.int .u64 (n : Int)) := by unfold Two at h; simp [World.cell?, h]
theorem Two.cell1 {w : World} {b n m : Nat} (h : Two w b n m) : w.cell? ⟨b, 1, none⟩ = some (.int .u64 (m : Int)) := by unfold Two at h; simp [World.cell?, h]
theorem Two.free {w : World} {b n m : Nat} (h : Two w b n m) (i : Nat) : w.frozen? ⟨b, i, none⟩ = false := by unfold Two at h; simp [World.frozen?, h]
theorem Two.lt {w : World} {b n m : Nat} (h : Two w b n m) : b < w.heap.size := lt_of_block h
theorem Two.next {w w' : World} {b n m : Nat} (h : Two w b n m) (hb : Below w.heap.size w w') : Two w' b n m := (hb.block b h.lt).trans h
theorem Two.set0 {w : World} {b n m : Nat} (h : Two w b n m) (x : Nat) : Two (w.setCell ⟨b, 0, none⟩ (.int .u64 (x : Int))) b x m := by
  unfold Two at *; simp [World.setCell, Array.getElem?_modify, h]
theorem Two.set1 {w : World} {b n m : Nat} (h : Two w b n m) (x : Nat) : Two (w.setCell ⟨b, 1, none⟩ (.int .u64 (x : Int))) b n x := by
  unfold Two at *; simp [World.setCell, Array.getElem?_modify, h]
theorem Two.far {w : World} {b n m : Nat} (h : Two w b n m) (b' i : Nat) (v : Value) (hne : b' ≠ b) : Two (w.setCell ⟨b', i, none⟩ v) b n m := by
  unfold Two at *; simp [World.setCell, Array.getElem?_modify, h, hne]
theorem Two.drew {w : World} {b n m : Nat} (h : Two w b n m) : Two w.drew b n m := h
theorem two_made (w : World) : Two ((w.alloc (.cells #[.int .u64 0, .int .u64 0] 41)).alloc (.cells #[.int .u64 0, .int .u64 0] 41)) w.heap.size 0 0 ∧ Two ((w.alloc (.cells #[.int .u64 0, .int .u64 0] 41)).alloc (.cells #[.int .u64 0, .int .u64 0] 41)) (w.heap.size + 1) 0 0 := by
  constructor
  · exact (Below.heap_alloc _ _ _ (by simp)).trans (heap_alloc_new _ _)
  · have : (w.alloc (.cells #[.int .u64 0, .int .u64 0] 41)).heap.size = w.heap.size + 1 := by simp
    unfold Two; rw [← this]; exact heap_alloc_new _ _

/-- what told answers from the place of number j on -/
def tgo : Nat → List UInt8 → Nat → Nat → (Nat × Nat) × List UInt8 × Nat
  | 0, r, x, y => if (V.rd r).2.2 ≠ 0 then ((0, 0), [], (V.rd r).2.2) else
      if (V.rd (r.drop (V.rd r).2.1)).2.2 ≠ 0 then ((0, 0), [], (V.rd (r.drop (V.rd r).2.1)).2.2) else (((V.rd r).1, (V.rd (r.drop (V.rd r).2.1)).1), (r.drop (V.rd r).2.1).drop (V.rd (r.drop (V.rd r).2.1)).2.1, 0)
  | 1, r, x, y => if (V.rd r).2.2 ≠ 0 then ((0, 0), [], (V.rd r).2.2) else ((x, (V.rd r).1), r.drop (V.rd r).2.1, 0)
  | _, r, x, y => ((x, y), r, 0)
theorem tgo_zero {r : List UInt8} {n k x y : Nat} (h : V.rd r = (n, k, 0)) : tgo 0 r x y = tgo 1 (r.drop k) n y := by
  simp [tgo, h]
theorem tgo_one {r : List UInt8} {n k x y : Nat} (h : V.rd r = (n, k, 0)) : tgo 1 r x y = tgo 2 (r.drop k) x n := by
  simp [tgo, h]
theorem tgo_bad {r : List UInt8} {n k e j x y : Nat} (h : V.rd r = (n, k, e)) (he : e ≠ 0) (hj : j < 2) : tgo j r x y = ((0, 0), [], e) := by
  have : j = 0 ∨ j = 1 := by omega
  rcases this with rfl | rfl <;> simp [tgo, h, he]

set_option maxHeartbeats 1000000 in
set_option maxRecDepth 100000 in
theorem told_any (s : List UInt8) (w : World) (hs : s.length ≤ maxLen) :
    Calls Try.prog 30 #[.string (str s)] w (ToldPost (toldR s) w) := by
  unfold maxLen at hs
  have H0 := Lib.hid (show toldR s = tgo 0 s 0 0 from rfl)
  generalize toldR s = R at *
  obtain ⟨t1, t2⟩ := two_made w
  have hbel : Below w.heap.size w ((w.alloc (.cells #[.int .u64 0, .int .u64 0] 41)).alloc (.cells #[.int .u64 0, .int .u64 0] 41)) := ((Below.refl _ _).alloc (Nat.le_refl _) _).alloc (by simp) _
  go_enter Try.func30, Try.ntmps30
  go_wp2_with fail
  obtain ⟨W1, hW1⟩ : ∃ W1, W1 = (w.alloc (.cells #[.int .u64 0, .int .u64 0] 41)).alloc (.cells #[.int .u64 0, .int .u64 0] 41) := ⟨_, rfl⟩
  obtain ⟨b0, hb0⟩ : ∃ b0, b0 = w.heap.size := ⟨_, rfl⟩
  obtain ⟨b1, hb1⟩ : ∃ b1, b1 = w.heap.size + 1 := ⟨_, rfl⟩
  rw [← hW1, ← hb0] at t1
  rw [← hW1, ← hb1] at t2
  rw [← hW1] at hbel
  rw [← hW1, ← hb1, ← hb0]
  have hne : b0 ≠ b1 := by omega
  have hg0 : w.heap.size ≤ b0 := by omega
  have hg1 : w.heap.size ≤ b1 := by omega
  clear hW1 hb0 hb1
  go_loopw [0, 6, 7, 8, 9, 10] (fun t _ _ _ _ i wr => ∃ (j x y : Nat) (r : List UInt8), j ≤ 2 ∧ i = .int .i64 j ∧ t = .string (str r) ∧ r.length ≤ 9223372036854775807 ∧ Two wr b0 0 0 ∧ Two wr b1 x y ∧ Below w.heap.size w wr ∧ Hid (R = tgo j r x y)) (fun _ _ _ _ _ i _ => 2 - (intOf i).toNat)
  case atStart => exact ⟨0, 0, 0, s, by omega, rfl, rfl, by omega, t1, t2, hbel, H0⟩
  case round =>
    obtain ⟨j, x, y, r, hj, rfl, rfl, hrl, q0, q1, hbw, HJ⟩ := hrel
    clear t1 t2 hbel
    by_cases hlt : j < 2
    · have hr := rdall_any (str r) wr (by rw [str_size]; unfold maxLen; omega)
      rw [str_data] at hr
      have hbad := V.rd_bad r
      have hok := V.rd_ok r
      have HZ := Lib.hid (fun n k h => tgo_zero (r := r) (n := n) (k := k) (x := x) (y := y) h)
      have HO := Lib.hid (fun n k h => tgo_one (r := r) (n := n) (k := k) (x := x) (y := y) h)
      have HB := Lib.hid (fun n k e h he => tgo_bad (r := r) (n := n) (k := k) (e := e) (j := j) (x := x) (y := y) h he hlt)
      have hsr := str_size r
      obtain ⟨n, k, e, he⟩ : ∃ n k e, V.rd r = (n, k, e) := ⟨_, _, _, rfl⟩
      rw [he] at hr hbad
      have HC := Lib.hid hr
      clear hr
      by_cases he0 : e = 0
      · subst he0
        obtain ⟨hk1, hkl, _, hn, _, _⟩ := hok n k he
        have HXT := Lib.hid (show (str r).extract k (str r).size = str (r.drop k) by
          apply ByteArray.ext; apply Array.toList_inj.mp
          rw [show ((str r).extract k (str r).size).data.toList = (str r).data.toList.drop k from cut_data _ k]; rfl)
        have HZ2 := Lib.hid (HZ.out n k he)
        have HO2 := Lib.hid (HO.out n k he)
        have hdl : (r.drop k).length ≤ 9223372036854775807 := by rw [List.length_drop]; omega
        have hkI : (k : Int) ≤ ((str r).size : Int) := by omega
        generalize r.drop k = r2 at *
        generalize str r = S at *
        clear hbad hok hsr he HB HZ HO
        go_wp2_with fail
        refine (HC.out).mono ?_
        rintro e2 w1 ⟨rfl, hbr⟩
        have p0 := q0.next hbr
        have p1 := q1.next hbr
        have hbw1 := below_then hbw hbr
        have hjj : j = 0 ∨ j = 1 := by omega
        rcases hjj with rfl | rfl
        · have c1 := p1.cell0
          have f1 := p1.free 0
          have c1d : w1.drew.cell? ⟨b1, 0, none⟩ = some (.int .u64 (x : Int)) := c1
          have f1d : w1.drew.frozen? ⟨b1, 0, none⟩ = false := f1
          go_wp2_with fail
          go_region
          all_goals
            go_wp2_with fail
          all_goals
            exact ⟨⟨1, n, y, r2, by omega, rfl, by rw [HXT.out], hdl, (p0.far b1 0 _ (fun h => hne h.symm)).drew, (p1.set0 n).drew, (hbw1.setCell (p := ⟨b1, 0, none⟩) hg1 _).drew, Lib.hid (by rw [HJ.out, HZ2.out])⟩, by simp [intOf]⟩
        · have c1 := p1.cell1
          have f1 := p1.free 1
          have c1d : w1.drew.cell? ⟨b1, 1, none⟩ = some (.int .u64 (y : Int)) := c1
          have f1d : w1.drew.frozen? ⟨b1, 1, none⟩ = false := f1
          go_wp2_with fail
          go_region
          all_goals
            go_wp2_with fail
          all_goals
            exact ⟨⟨2, x, n, r2, by omega, rfl, by rw [HXT.out], hdl, (p0.far b1 1 _ (fun h => hne h.symm)).drew, (p1.set1 n).drew, (hbw1.setCell (p := ⟨b1, 1, none⟩) hg1 _).drew, Lib.hid (by rw [HJ.out, HO2.out])⟩, by simp [intOf]⟩
      · have HR := Lib.hid (show R = ((0, 0), [], e) by rw [HJ.out]; exact HB.out n k e he he0)
        have heb : e = 5 ∨ e = 1 := by
          rcases hbad with h | h | h
          · exact absurd h he0
          · exact Or.inl ((Prod.mk.injEq _ _ _ _).mp ((Prod.mk.injEq _ _ _ _).mp h).2).2
          · exact Or.inr ((Prod.mk.injEq _ _ _ _).mp ((Prod.mk.injEq _ _ _ _).mp h).2).2
        have hjI : (j : Int) < 2 := by omega
        generalize str r = S at *
        clear hbad hok hsr he HZ HO HB HJ
        go_wp2_with fail
        refine (HC.out).mono ?_
        rintro e2 w1 ⟨rfl, hbr⟩
        have p0 := q0.next hbr
        have hbw1 := below_then hbw hbr
        have c0 := p0.cell0
        have c0' := p0.cell1
        have f0 := p0.free 0
        have f0' := p0.free 1
        have p2 := (p0.set0 0).set1 0
        have hbw2 : Below w.heap.size w ((w1.setCell ⟨b0, 0, none⟩ (.int .u64 ((0 : Nat) : Int))).setCell ⟨b0, 1, none⟩ (.int .u64 ((0 : Nat) : Int))) := (hbw1.setCell (p := ⟨b0, 0, none⟩) hg0 _).setCell (p := ⟨b0, 1, none⟩) hg0 _
        have d1 := (p0.set0 0).cell1
        have d1f := (p0.set0 0).free 1
        have z0 := p2.cell0
        have z1 := p2.cell1
        have g1 : ((e : Int) != 0) = true := by rw [bne_iff_ne]; omega
        simp only [Int.natCast_zero] at d1 d1f z0 z1
        clear he0
        go_wp2_with fail
        refine bodyPost_ret (v := .tuple #[.agg #[.int .u64 0, .int .u64 0], .string ⟨#[]⟩, .int .i64 e]) (by simp [results, Try.results30, go_sem, z0, z1]) rfl ⟨by rw [HR.out]; rfl, hbw2⟩
    · obtain rfl : j = 2 := by omega
      have HR := Lib.hid (show R = ((x, y), r, 0) by rw [HJ.out]; rfl)
      clear HJ
      have c0 := q0.cell0
      have c0' := q0.cell1
      have f0 := q0.free 0
      have f0' := q0.free 1
      have e0 := q1.cell0
      have e0' := q1.cell1
      have p2 := (q0.set0 x).set1 y
      have d1 := (q0.set0 x).cell1
      have d1f := (q0.set0 x).free 1
      have z0 := p2.cell0
      have z1 := p2.cell1
      have hbw2 : Below w.heap.size w ((wr.setCell ⟨b0, 0, none⟩ (.int .u64 (x : Int))).setCell ⟨b0, 1, none⟩ (.int .u64 (y : Int))) := (hbw.setCell (p := ⟨b0, 0, none⟩) hg0 _).setCell (p := ⟨b0, 1, none⟩) hg0 _
      obtain ⟨S, hS⟩ : ∃ S, S = str r := ⟨_, rfl⟩
      have HS := Lib.hid hS
      rw [← hS]
      clear hS
      go_wp2_with fail
      refine bodyPost_ret (v := .tuple #[.agg #[.int .u64 x, .int .u64 y], .string S, .int .i64 0]) (by simp [results, Try.results30, go_sem, z0, z1]) rfl ⟨by rw [HR.out, HS.out]; rfl, hbw2⟩
end Go.Proofs.Ytplhlnlonjlcaaa
