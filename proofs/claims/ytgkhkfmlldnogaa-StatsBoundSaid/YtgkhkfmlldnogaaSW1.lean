/- The walks of stats.told, stats.Check's function; both ends in memory. -/
import Derived.Test.YtgkhkfmlldnogaaSBase
import Derived.Test.YtgkhkfmlldnogaaCW6
namespace Go.Proofs.Ytgkhkfmlldnogaa
open Go.RowKit
set_option linter.unusedVariables false

/-- both ends: an array of two cells, six values -/
def eag (a b : C.Cl) : Value := .agg #[.int .i64 a.kind, .int .u64 (a.num : Int), .string (str a.txt), .int .i64 b.kind, .int .u64 (b.num : Int), .string (str b.txt)]
theorem info_ends : (Try.prog.info? 46).map (fun i => (i.zero, i.size, i.bytes)) = some (some (.agg #[.int .i64 0, .int .u64 0, .string ByteArray.empty, .int .i64 0, .int .u64 0, .string ByteArray.empty]), 6, 64) := by kernel_rfl
/-- a block of six values -/
def Six (w : World) (b : Nat) (vs : List Value) : Prop := w.heap[b]? = some (.cells vs.toArray 46 (0, 0))
theorem Six.cell {w : World} {b : Nat} {vs : List Value} (h : Six w b vs) (i : Nat) : w.cell? ⟨b, i, none⟩ = vs[i]? := by unfold Six at h; simp [World.cell?, h]
theorem Six.free {w : World} {b : Nat} {vs : List Value} (h : Six w b vs) (i : Nat) : w.frozen? ⟨b, i, none⟩ = false := by unfold Six at h; simp [World.frozen?, h]
theorem Six.lt {w : World} {b : Nat} {vs : List Value} (h : Six w b vs) : b < w.heap.size := lt_of_block h
theorem Six.next {w w' : World} {b : Nat} {vs : List Value} (h : Six w b vs) (hb : Below w.heap.size w w') : Six w' b vs := (hb.block b h.lt).trans h
theorem Six.set {w : World} {b : Nat} {vs : List Value} (h : Six w b vs) (i : Nat) (x : Value) : Six (w.setCell ⟨b, i, none⟩ x) b (vs.set i x) := by
  unfold Six at *; simp [World.setCell, Array.getElem?_modify, h]
theorem Six.far {w : World} {b : Nat} {vs : List Value} (h : Six w b vs) (b' i : Nat) (x : Value) (hne : b' ≠ b) : Six (w.setCell ⟨b', i, none⟩ x) b vs := by
  unfold Six at *; simp [World.setCell, Array.getElem?_modify, h, hne]
theorem six_new (w : World) (vs : List Value) : Six (w.alloc (.cells vs.toArray 46)) w.heap.size vs := heap_alloc_new _ _
theorem Six.cells {w : World} {b : Nat} {v0 v1 v2 v3 v4 v5 : Value} (h : Six w b [v0, v1, v2, v3, v4, v5]) : w.cell? ⟨b, 0, none⟩ = some v0 ∧ w.cell? ⟨b, 1, none⟩ = some v1 ∧ w.cell? ⟨b, 2, none⟩ = some v2 ∧ w.cell? ⟨b, 3, none⟩ = some v3 ∧ w.cell? ⟨b, 4, none⟩ = some v4 ∧ w.cell? ⟨b, 5, none⟩ = some v5 := ⟨h.cell 0, h.cell 1, h.cell 2, h.cell 3, h.cell 4, h.cell 5⟩

theorem Six.store {w : World} {b : Nat} {v0 v1 v2 v3 v4 v5 : Value} (h : Six w b [v0, v1, v2, v3, v4, v5]) (n0 n1 n2 n3 n4 n5 : Value) :
    (w.cell? ⟨b, 0, none⟩ = some v0 ∧ (w.setCell ⟨b, 0, none⟩ n0).cell? ⟨b, 1, none⟩ = some v1 ∧ ((w.setCell ⟨b, 0, none⟩ n0).setCell ⟨b, 1, none⟩ n1).cell? ⟨b, 2, none⟩ = some v2 ∧ (((w.setCell ⟨b, 0, none⟩ n0).setCell ⟨b, 1, none⟩ n1).setCell ⟨b, 2, none⟩ n2).cell? ⟨b, 3, none⟩ = some v3 ∧ ((((w.setCell ⟨b, 0, none⟩ n0).setCell ⟨b, 1, none⟩ n1).setCell ⟨b, 2, none⟩ n2).setCell ⟨b, 3, none⟩ n3).cell? ⟨b, 4, none⟩ = some v4 ∧ (((((w.setCell ⟨b, 0, none⟩ n0).setCell ⟨b, 1, none⟩ n1).setCell ⟨b, 2, none⟩ n2).setCell ⟨b, 3, none⟩ n3).setCell ⟨b, 4, none⟩ n4).cell? ⟨b, 5, none⟩ = some v5) ∧ (w.frozen? ⟨b, 0, none⟩ = false ∧ (w.setCell ⟨b, 0, none⟩ n0).frozen? ⟨b, 1, none⟩ = false ∧ ((w.setCell ⟨b, 0, none⟩ n0).setCell ⟨b, 1, none⟩ n1).frozen? ⟨b, 2, none⟩ = false ∧ (((w.setCell ⟨b, 0, none⟩ n0).setCell ⟨b, 1, none⟩ n1).setCell ⟨b, 2, none⟩ n2).frozen? ⟨b, 3, none⟩ = false ∧ ((((w.setCell ⟨b, 0, none⟩ n0).setCell ⟨b, 1, none⟩ n1).setCell ⟨b, 2, none⟩ n2).setCell ⟨b, 3, none⟩ n3).frozen? ⟨b, 4, none⟩ = false ∧ (((((w.setCell ⟨b, 0, none⟩ n0).setCell ⟨b, 1, none⟩ n1).setCell ⟨b, 2, none⟩ n2).setCell ⟨b, 3, none⟩ n3).setCell ⟨b, 4, none⟩ n4).frozen? ⟨b, 5, none⟩ = false) ∧ (((((((w.setCell ⟨b, 0, none⟩ n0).setCell ⟨b, 1, none⟩ n1).setCell ⟨b, 2, none⟩ n2).setCell ⟨b, 3, none⟩ n3).setCell ⟨b, 4, none⟩ n4).setCell ⟨b, 5, none⟩ n5).cell? ⟨b, 0, none⟩ = some n0 ∧ ((((((w.setCell ⟨b, 0, none⟩ n0).setCell ⟨b, 1, none⟩ n1).setCell ⟨b, 2, none⟩ n2).setCell ⟨b, 3, none⟩ n3).setCell ⟨b, 4, none⟩ n4).setCell ⟨b, 5, none⟩ n5).cell? ⟨b, 1, none⟩ = some n1 ∧ ((((((w.setCell ⟨b, 0, none⟩ n0).setCell ⟨b, 1, none⟩ n1).setCell ⟨b, 2, none⟩ n2).setCell ⟨b, 3, none⟩ n3).setCell ⟨b, 4, none⟩ n4).setCell ⟨b, 5, none⟩ n5).cell? ⟨b, 2, none⟩ = some n2 ∧ ((((((w.setCell ⟨b, 0, none⟩ n0).setCell ⟨b, 1, none⟩ n1).setCell ⟨b, 2, none⟩ n2).setCell ⟨b, 3, none⟩ n3).setCell ⟨b, 4, none⟩ n4).setCell ⟨b, 5, none⟩ n5).cell? ⟨b, 3, none⟩ = some n3 ∧ ((((((w.setCell ⟨b, 0, none⟩ n0).setCell ⟨b, 1, none⟩ n1).setCell ⟨b, 2, none⟩ n2).setCell ⟨b, 3, none⟩ n3).setCell ⟨b, 4, none⟩ n4).setCell ⟨b, 5, none⟩ n5).cell? ⟨b, 4, none⟩ = some n4 ∧ ((((((w.setCell ⟨b, 0, none⟩ n0).setCell ⟨b, 1, none⟩ n1).setCell ⟨b, 2, none⟩ n2).setCell ⟨b, 3, none⟩ n3).setCell ⟨b, 4, none⟩ n4).setCell ⟨b, 5, none⟩ n5).cell? ⟨b, 5, none⟩ = some n5) ∧ Six ((((((w.setCell ⟨b, 0, none⟩ n0).setCell ⟨b, 1, none⟩ n1).setCell ⟨b, 2, none⟩ n2).setCell ⟨b, 3, none⟩ n3).setCell ⟨b, 4, none⟩ n4).setCell ⟨b, 5, none⟩ n5) b [n0, n1, n2, n3, n4, n5] := by
  have q0 := h.set 0 n0
  have q1 := q0.set 1 n1
  have q2 := q1.set 2 n2
  have q3 := q2.set 3 n3
  have q4 := q3.set 4 n4
  have q5 := q4.set 5 n5
  exact ⟨⟨h.cell 0, q0.cell 1, q1.cell 2, q2.cell 3, q3.cell 4, q4.cell 5⟩, ⟨h.free 0, q0.free 1, q1.free 2, q2.free 3, q3.free 4, q4.free 5⟩, ⟨q5.cell 0, q5.cell 1, q5.cell 2, q5.cell 3, q5.cell 4, q5.cell 5⟩, q5⟩
theorem Six.storeBelow {w0 w : World} {b : Nat} (hw : Below w0.heap.size w0 w) (hb : w0.heap.size ≤ b) (n0 n1 n2 n3 n4 n5 : Value) : Below w0.heap.size w0 ((((((w.setCell ⟨b, 0, none⟩ n0).setCell ⟨b, 1, none⟩ n1).setCell ⟨b, 2, none⟩ n2).setCell ⟨b, 3, none⟩ n3).setCell ⟨b, 4, none⟩ n4).setCell ⟨b, 5, none⟩ n5) :=
  ((((((hw.setCell (p := ⟨b, 0, none⟩) hb n0).setCell (p := ⟨b, 1, none⟩) hb n1).setCell (p := ⟨b, 2, none⟩) hb n2).setCell (p := ⟨b, 3, none⟩) hb n3).setCell (p := ⟨b, 4, none⟩) hb n4).setCell (p := ⟨b, 5, none⟩) hb n5)
theorem Six.at0 {w : World} {b : Nat} {v0 v1 v2 v3 v4 v5 : Value} (h : Six w b [v0, v1, v2, v3, v4, v5]) (x y z : Value) :
    (w.cell? ⟨b, 0, none⟩ = some v0 ∧ (w.setCell ⟨b, 0, none⟩ x).cell? ⟨b, 1, none⟩ = some v1 ∧ ((w.setCell ⟨b, 0, none⟩ x).setCell ⟨b, 1, none⟩ y).cell? ⟨b, 2, none⟩ = some v2) ∧ (w.frozen? ⟨b, 0, none⟩ = false ∧ (w.setCell ⟨b, 0, none⟩ x).frozen? ⟨b, 1, none⟩ = false ∧ ((w.setCell ⟨b, 0, none⟩ x).setCell ⟨b, 1, none⟩ y).frozen? ⟨b, 2, none⟩ = false) ∧ ((((w.setCell ⟨b, 0, none⟩ x).setCell ⟨b, 1, none⟩ y).setCell ⟨b, 2, none⟩ z).cell? ⟨b, 0, none⟩ = some x ∧ (((w.setCell ⟨b, 0, none⟩ x).setCell ⟨b, 1, none⟩ y).setCell ⟨b, 2, none⟩ z).cell? ⟨b, 1, none⟩ = some y ∧ (((w.setCell ⟨b, 0, none⟩ x).setCell ⟨b, 1, none⟩ y).setCell ⟨b, 2, none⟩ z).cell? ⟨b, 2, none⟩ = some z ∧ (((w.setCell ⟨b, 0, none⟩ x).setCell ⟨b, 1, none⟩ y).setCell ⟨b, 2, none⟩ z).cell? ⟨b, 3, none⟩ = some v3 ∧ (((w.setCell ⟨b, 0, none⟩ x).setCell ⟨b, 1, none⟩ y).setCell ⟨b, 2, none⟩ z).cell? ⟨b, 4, none⟩ = some v4 ∧ (((w.setCell ⟨b, 0, none⟩ x).setCell ⟨b, 1, none⟩ y).setCell ⟨b, 2, none⟩ z).cell? ⟨b, 5, none⟩ = some v5) ∧ Six (((w.setCell ⟨b, 0, none⟩ x).setCell ⟨b, 1, none⟩ y).setCell ⟨b, 2, none⟩ z) b [x, y, z, v3, v4, v5] := by
  have q0 := h.set 0 x
  have q1 := q0.set 1 y
  have q2 := q1.set 2 z
  exact ⟨⟨h.cell 0, q0.cell 1, q1.cell 2⟩, ⟨h.free 0, q0.free 1, q1.free 2⟩, ⟨q2.cell 0, q2.cell 1, q2.cell 2, q2.cell 3, q2.cell 4, q2.cell 5⟩, q2⟩
theorem Six.at0Below {w0 w : World} {b : Nat} (hw : Below w0.heap.size w0 w) (hb : w0.heap.size ≤ b) (x y z : Value) : Below w0.heap.size w0 (((w.setCell ⟨b, 0, none⟩ x).setCell ⟨b, 1, none⟩ y).setCell ⟨b, 2, none⟩ z) :=
  (((hw.setCell (p := ⟨b, 0, none⟩) hb x).setCell (p := ⟨b, 1, none⟩) hb y).setCell (p := ⟨b, 2, none⟩) hb z)
theorem Six.at3 {w : World} {b : Nat} {v0 v1 v2 v3 v4 v5 : Value} (h : Six w b [v0, v1, v2, v3, v4, v5]) (x y z : Value) :
    (w.cell? ⟨b, 3, none⟩ = some v3 ∧ (w.setCell ⟨b, 3, none⟩ x).cell? ⟨b, 4, none⟩ = some v4 ∧ ((w.setCell ⟨b, 3, none⟩ x).setCell ⟨b, 4, none⟩ y).cell? ⟨b, 5, none⟩ = some v5) ∧ (w.frozen? ⟨b, 3, none⟩ = false ∧ (w.setCell ⟨b, 3, none⟩ x).frozen? ⟨b, 4, none⟩ = false ∧ ((w.setCell ⟨b, 3, none⟩ x).setCell ⟨b, 4, none⟩ y).frozen? ⟨b, 5, none⟩ = false) ∧ ((((w.setCell ⟨b, 3, none⟩ x).setCell ⟨b, 4, none⟩ y).setCell ⟨b, 5, none⟩ z).cell? ⟨b, 0, none⟩ = some v0 ∧ (((w.setCell ⟨b, 3, none⟩ x).setCell ⟨b, 4, none⟩ y).setCell ⟨b, 5, none⟩ z).cell? ⟨b, 1, none⟩ = some v1 ∧ (((w.setCell ⟨b, 3, none⟩ x).setCell ⟨b, 4, none⟩ y).setCell ⟨b, 5, none⟩ z).cell? ⟨b, 2, none⟩ = some v2 ∧ (((w.setCell ⟨b, 3, none⟩ x).setCell ⟨b, 4, none⟩ y).setCell ⟨b, 5, none⟩ z).cell? ⟨b, 3, none⟩ = some x ∧ (((w.setCell ⟨b, 3, none⟩ x).setCell ⟨b, 4, none⟩ y).setCell ⟨b, 5, none⟩ z).cell? ⟨b, 4, none⟩ = some y ∧ (((w.setCell ⟨b, 3, none⟩ x).setCell ⟨b, 4, none⟩ y).setCell ⟨b, 5, none⟩ z).cell? ⟨b, 5, none⟩ = some z) ∧ Six (((w.setCell ⟨b, 3, none⟩ x).setCell ⟨b, 4, none⟩ y).setCell ⟨b, 5, none⟩ z) b [v0, v1, v2, x, y, z] := by
  have q0 := h.set 3 x
  have q1 := q0.set 4 y
  have q2 := q1.set 5 z
  exact ⟨⟨h.cell 3, q0.cell 4, q1.cell 5⟩, ⟨h.free 3, q0.free 4, q1.free 5⟩, ⟨q2.cell 0, q2.cell 1, q2.cell 2, q2.cell 3, q2.cell 4, q2.cell 5⟩, q2⟩
theorem Six.at3Below {w0 w : World} {b : Nat} (hw : Below w0.heap.size w0 w) (hb : w0.heap.size ≤ b) (x y z : Value) : Below w0.heap.size w0 (((w.setCell ⟨b, 3, none⟩ x).setCell ⟨b, 4, none⟩ y).setCell ⟨b, 5, none⟩ z) :=
  (((hw.setCell (p := ⟨b, 3, none⟩) hb x).setCell (p := ⟨b, 4, none⟩) hb y).setCell (p := ⟨b, 5, none⟩) hb z)

theorem six3 (w : World) (x y z : List Value) : ∀ W, W = ((w.alloc (.cells x.toArray 46)).alloc (.cells y.toArray 46)).alloc (.cells z.toArray 46) →
    Six W w.heap.size x ∧ Six W (w.heap.size + 1) y ∧ Six W (w.heap.size + 1 + 1) z ∧ Below w.heap.size w W := by
  rintro W rfl
  have q1 := six_new w x
  have b1 := (Below.refl w.heap.size w).alloc (Nat.le_refl _) (.cells x.toArray 46)
  have s1 : (w.alloc (.cells x.toArray 46)).heap.size = w.heap.size + 1 := by simp
  generalize w.alloc (.cells x.toArray 46) = w1 at *
  have q2 := six_new w1 y
  have b2 := (Below.refl w1.heap.size w1).alloc (Nat.le_refl _) (.cells y.toArray 46)
  have s2 : (w1.alloc (.cells y.toArray 46)).heap.size = w.heap.size + 1 + 1 := by simp; omega
  rw [s1] at q2
  generalize w1.alloc (.cells y.toArray 46) = w2 at *
  have q3 := six_new w2 z
  have b3 := (Below.refl w2.heap.size w2).alloc (Nat.le_refl _) (.cells z.toArray 46)
  rw [s2] at q3
  refine ⟨(q1.next b2).next b3, q2.next b3, q3, below_then (below_then b1 b2) b3⟩

def EndsPost (a b : C.Cl) (w : World) (e : Ending) (w' : World) : Prop := e = .returned (eag a b) ∧ Below w.heap.size w w'

set_option maxHeartbeats 1000000 in
set_option maxRecDepth 100000 in
theorem told_any (r n : Int) (a b : C.Cl) (w : World) :
    Calls Try.prog 19 #[.int .i64 r, .int .i64 n, eag a b] w (StPost ⟨r, n, a, b⟩ w) := by
  have h6 := six_new w [.int .i64 a.kind, .int .u64 (a.num : Int), .string (str a.txt), .int .i64 b.kind, .int .u64 (b.num : Int), .string (str b.txt)]
  have hal : Below w.heap.size w (w.alloc (.cells #[.int .i64 a.kind, .int .u64 (a.num : Int), .string (str a.txt), .int .i64 b.kind, .int .u64 (b.num : Int), .string (str b.txt)] 46)) := (Below.refl _ _).alloc (Nat.le_refl _) _
  have HAL := Lib.hid hal
  have HR := Lib.hid (show sag ⟨r, n, a, b⟩ = .agg #[.int .i64 r, .int .i64 n, .int .i64 a.kind, .int .u64 (a.num : Int), .string (str a.txt), .int .i64 b.kind, .int .u64 (b.num : Int), .string (str b.txt)] from rfl)
  clear hal h6
  unfold eag StPost
  rw [HR.out]
  generalize a.kind = ak at *
  generalize a.num = an at *
  generalize str a.txt = ax at *
  generalize b.kind = bk at *
  generalize b.num = bn at *
  generalize str b.txt = bx at *
  go_enter Try.func19, Try.ntmps19
  go_wp2_with fail
  refine bodyPost_ret (v := .agg #[.int .i64 r, .int .i64 n, .int .i64 ak, .int .u64 (an : Int), .string ax, .int .i64 bk, .int .u64 (bn : Int), .string bx]) (by simp [results, Try.results19, go_sem]) rfl ⟨rfl, ?_⟩
  exact HAL.out.alloc HAL.out.size _

/-- both ends of what two have between them -/
def wdR (a b c d : C.Cl) : C.Cl × C.Cl := if a.kind = 0 then (c, d) else if c.kind = 0 then (a, b) else (S.mn a c, S.mx b d)
theorem eag_c (a b : C.Cl) : eag a b = .agg #[.int .i64 a.kind, .int .u64 (a.num : Int), .string (str a.txt), .int .i64 b.kind, .int .u64 (b.num : Int), .string (str b.txt)] := rfl

set_option maxHeartbeats 4000000 in
set_option maxRecDepth 100000 in
theorem wider_any (a b c d : C.Cl) (w : World) :
    Calls Try.prog 18 #[eag a b, eag c d] w (EndsPost (wdR a b c d).1 (wdR a b c d).2 w) := by
  have HN := Lib.hid (six3 w [.int .i64 a.kind, .int .u64 (a.num : Int), .string (str a.txt), .int .i64 b.kind, .int .u64 (b.num : Int), .string (str b.txt)] [.int .i64 c.kind, .int .u64 (c.num : Int), .string (str c.txt), .int .i64 d.kind, .int .u64 (d.num : Int), .string (str d.txt)] [.int .i64 0, .int .u64 0, .string ByteArray.empty, .int .i64 0, .int .u64 0, .string ByteArray.empty])
  obtain ⟨hA, hB, hG, hbel⟩ := HN.out _ rfl
  have HA := Lib.hid hA
  have HB := Lib.hid hB
  have HG := Lib.hid hG
  have HBEL := Lib.hid hbel
  have HL1 := Lib.hid (fun W => nless_any c a W)
  have HL2 := Lib.hid (fun W => nless_any b d W)
  clear HN hA hB hG hbel
  unfold cag at HL1 HL2
  by_cases h1 : a.kind = 0
  · have HR := Lib.hid (show wdR a b c d = (c, d) from if_pos h1)
    have HE := Lib.hid (eag_c c d)
    generalize wdR a b c d = R at *
    unfold eag EndsPost
    rw [HR.out]
    simp only
    rw [HE.out]
    clear HL1 HL2 HE HR
    generalize a.kind = ak at *
    subst h1
    generalize a.num = an at *
    generalize str a.txt = ax at *
    generalize b.kind = bk at *
    generalize b.num = bn at *
    generalize str b.txt = bx at *
    generalize c.kind = ck at *
    generalize c.num = cn at *
    generalize str c.txt = cx at *
    generalize d.kind = dk at *
    generalize d.num = dn at *
    generalize str d.txt = dx at *
    obtain ⟨a0, a1, a2, a3, a4, a5⟩ := HA.out.cells
    obtain ⟨b0, b1, b2, b3, b4, b5⟩ := HB.out.cells
    go_enter Try.func18, Try.ntmps18
    go_wp2_with fail
    refine bodyPost_ret (v := .agg #[.int .i64 ck, .int .u64 (cn : Int), .string cx, .int .i64 dk, .int .u64 (dn : Int), .string dx]) (by simp [results, Try.results18, go_sem]) rfl ⟨rfl, ?_⟩
    exact (((Below.refl _ _).alloc (Nat.le_refl _) _).alloc (by simp) _).alloc (by simp; omega) _
  have za : (a.kind == 0) = false := by rw [beq_eq_false_iff_ne]; exact h1
  by_cases h2 : c.kind = 0
  · have HR := Lib.hid (show wdR a b c d = (a, b) by unfold wdR; rw [if_neg h1, if_pos h2])
    have HE := Lib.hid (eag_c a b)
    generalize wdR a b c d = R at *
    unfold eag EndsPost
    rw [HR.out]
    simp only
    rw [HE.out]
    clear HL1 HL2 HE HR
    generalize c.kind = ck at *
    subst h2
    generalize a.kind = ak at *
    generalize a.num = an at *
    generalize str a.txt = ax at *
    generalize b.kind = bk at *
    generalize b.num = bn at *
    generalize str b.txt = bx at *
    generalize c.num = cn at *
    generalize str c.txt = cx at *
    generalize d.kind = dk at *
    generalize d.num = dn at *
    generalize str d.txt = dx at *
    obtain ⟨a0, a1, a2, a3, a4, a5⟩ := HA.out.cells
    obtain ⟨b0, b1, b2, b3, b4, b5⟩ := HB.out.cells
    clear h1
    go_enter Try.func18, Try.ntmps18
    go_wp2_with fail
    refine bodyPost_ret (v := .agg #[.int .i64 ak, .int .u64 (an : Int), .string ax, .int .i64 bk, .int .u64 (bn : Int), .string bx]) (by simp [results, Try.results18, go_sem]) rfl ⟨rfl, ?_⟩
    exact (((Below.refl _ _).alloc (Nat.le_refl _) _).alloc (by simp) _).alloc (by simp; omega) _
  have zc : (c.kind == 0) = false := by rw [beq_eq_false_iff_ne]; exact h2
  have HR := Lib.hid (show wdR a b c d = (S.mn a c, S.mx b d) by unfold wdR; rw [if_neg h1, if_neg h2])
  have HMN := Lib.hid (show S.mn a c = if C.less c a = true then c else a from rfl)
  have HMX := Lib.hid (show S.mx b d = if C.less b d = true then d else b from rfl)
  have HEC := Lib.hid (fun x y => eag_c x y)
  have HP := Lib.hid (show EndsPost (wdR a b c d).1 (wdR a b c d).2 w = fun e w' => e = .returned (eag (if C.less c a = true then c else a) (if C.less b d = true then d else b)) ∧ Below w.heap.size w w' by rw [HR.out]; simp only; rw [HMN.out, HMX.out]; rfl)
  rw [HP.out]
  clear HP HR HMN HMX h1 h2
  have hne1 : w.heap.size ≠ w.heap.size + 1 := by omega
  have hne2 : w.heap.size ≠ w.heap.size + 1 + 1 := by omega
  cases l1 : C.less c a
  all_goals
    cases l2 : C.less b d
    all_goals
      rw [l1] at HL1
      rw [l2] at HL2
      clear l1 l2
      have HCA := Lib.hid (HEC.out a b)
      have HCB := Lib.hid (HEC.out a d)
      have HCC := Lib.hid (HEC.out c b)
      have HCD := Lib.hid (HEC.out c d)
      clear HEC
      unfold eag
      try rw [if_neg (by decide), if_neg (by decide)]
      try rw [if_neg (by decide), if_pos rfl]
      try rw [if_pos rfl, if_neg (by decide)]
      try rw [if_pos rfl, if_pos rfl]
      try rw [HCA.out]
      try rw [HCB.out]
      try rw [HCC.out]
      try rw [HCD.out]
      clear HCA HCB HCC HCD
      generalize a.kind = ak at *
      generalize a.num = an at *
      generalize str a.txt = ax at *
      generalize b.kind = bk at *
      generalize b.num = bn at *
      generalize str b.txt = bx at *
      generalize c.kind = ck at *
      generalize c.num = cn at *
      generalize str c.txt = cx at *
      generalize d.kind = dk at *
      generalize d.num = dn at *
      generalize str d.txt = dx at *
      obtain ⟨a0, a1, a2, a3, a4, a5⟩ := HA.out.cells
      obtain ⟨b0, b1, b2, b3, b4, b5⟩ := HB.out.cells
      go_enter Try.func18, Try.ntmps18
      go_wp2_with fail
      refine (HL1.out _).mono ?_
      rintro e w1 ⟨rfl, hb1⟩
      clear a0 a1 a2 a3 a4 a5 b0 b1 b2 b3 b4 b5
      have hA1 := HA.out.next hb1
      have hB1 := HB.out.next hb1
      have hG1 := HG.out.next hb1
      have hW1 := below_then HBEL.out hb1
      clear HA HB HG HBEL hb1
      obtain ⟨a0, a1, a2, a3, a4, a5⟩ := hA1.cells
      obtain ⟨b0, b1, b2, b3, b4, b5⟩ := hB1.cells
  · go_wp2_with fail
    refine (HL2.out _).mono ?_
    rintro e w2 ⟨rfl, hb2⟩
    clear a0 a1 a2 a3 a4 a5 b0 b1 b2 b3 b4 b5
    have hA2 := hA1.next hb2
    have hG2 := hG1.next hb2
    have hW2 := below_then hW1 hb2
    clear hA1 hB1 hb2
    obtain ⟨a0, a1, a2, a3, a4, a5⟩ := hA2.cells
    obtain ⟨⟨g0, g1, g2, g3, g4, g5⟩, ⟨f0, f1, f2, f3, f4, f5⟩, ⟨t0, t1, t2, t3, t4, t5⟩, _⟩ := hG2.store (.int .i64 ak) (.int .u64 (an : Int)) (.string ax) (.int .i64 bk) (.int .u64 (bn : Int)) (.string bx)
    have HF := Lib.hid (Six.storeBelow hW2 (show w.heap.size ≤ w.heap.size + 1 + 1 by omega) (.int .i64 ak) (.int .u64 (an : Int)) (.string ax) (.int .i64 bk) (.int .u64 (bn : Int)) (.string bx))
    clear hG1 hW1
    go_wp2_with fail
    refine bodyPost_ret (v := .agg #[.int .i64 ak, .int .u64 (an : Int), .string ax, .int .i64 bk, .int .u64 (bn : Int), .string bx]) (by simp [results, Try.results18, go_sem, t0, t1, t2, t3, t4, t5]) rfl ⟨rfl, HF.out⟩
  · go_wp2_with fail
    refine (HL2.out _).mono ?_
    rintro e w2 ⟨rfl, hb2⟩
    clear a0 a1 a2 a3 a4 a5 b0 b1 b2 b3 b4 b5
    have hA2 := hA1.next hb2
    have hB2 := hB1.next hb2
    have hG2 := hG1.next hb2
    have hW2 := below_then hW1 hb2
    clear hA1 hB1 hb2
    obtain ⟨b0, b1, b2, b3, b4, b5⟩ := hB2.cells
    obtain ⟨⟨u3, u4, u5⟩, ⟨r3, r4, r5⟩, ⟨a0, a1, a2, a3, a4, a5⟩, _⟩ := hA2.at3 (.int .i64 dk) (.int .u64 (dn : Int)) (.string dx)
    have hW3 := Six.at3Below hW2 (Nat.le_refl w.heap.size) (.int .i64 dk) (.int .u64 (dn : Int)) (.string dx)
    have hG3 := ((hG2.far w.heap.size 3 (.int .i64 dk) hne2).far w.heap.size 4 (.int .u64 (dn : Int)) hne2).far w.heap.size 5 (.string dx) hne2
    clear hA2 hB2 hG2 hW2
    obtain ⟨⟨g0, g1, g2, g3, g4, g5⟩, ⟨f0, f1, f2, f3, f4, f5⟩, ⟨t0, t1, t2, t3, t4, t5⟩, _⟩ := hG3.store (.int .i64 ak) (.int .u64 (an : Int)) (.string ax) (.int .i64 dk) (.int .u64 (dn : Int)) (.string dx)
    have HF := Lib.hid (Six.storeBelow hW3 (show w.heap.size ≤ w.heap.size + 1 + 1 by omega) (.int .i64 ak) (.int .u64 (an : Int)) (.string ax) (.int .i64 dk) (.int .u64 (dn : Int)) (.string dx))
    clear hG1 hW1
    go_wp2_with fail
    refine bodyPost_ret (v := .agg #[.int .i64 ak, .int .u64 (an : Int), .string ax, .int .i64 dk, .int .u64 (dn : Int), .string dx]) (by simp [results, Try.results18, go_sem, t0, t1, t2, t3, t4, t5]) rfl ⟨rfl, HF.out⟩
  · obtain ⟨⟨u0, u1, u2⟩, ⟨r0, r1, r2⟩, ⟨z0, z1, z2, z3, z4, z5⟩, hA1'⟩ := hA1.at0 (.int .i64 ck) (.int .u64 (cn : Int)) (.string cx)
    have hW1' := Six.at0Below hW1 (Nat.le_refl w.heap.size) (.int .i64 ck) (.int .u64 (cn : Int)) (.string cx)
    have hB1' := ((hB1.far w.heap.size 0 (.int .i64 ck) hne1).far w.heap.size 1 (.int .u64 (cn : Int)) hne1).far w.heap.size 2 (.string cx) hne1
    have hG1' := ((hG1.far w.heap.size 0 (.int .i64 ck) hne2).far w.heap.size 1 (.int .u64 (cn : Int)) hne2).far w.heap.size 2 (.string cx) hne2
    obtain ⟨y0, y1, y2, y3, y4, y5⟩ := hB1'.cells
    clear hA1 hB1 hG1 hW1 a0 a1 a2
    go_wp2_with fail
    refine (HL2.out _).mono ?_
    rintro e w2 ⟨rfl, hb2⟩
    clear a3 a4 a5 b0 b1 b2 b3 b4 b5 u0 u1 u2 r0 r1 r2 z0 z1 z2 z3 z4 z5 y0 y1 y2 y3 y4 y5
    have hA2 := hA1'.next hb2
    have hB2 := hB1'.next hb2
    have hG1 := hG1'.next hb2
    have hW1 := below_then hW1' hb2
    clear hA1' hB1' hG1' hW1' hb2
    obtain ⟨a0, a1, a2, a3, a4, a5⟩ := hA2.cells
    clear hA2 hB2
    obtain ⟨⟨g0, g1, g2, g3, g4, g5⟩, ⟨f0, f1, f2, f3, f4, f5⟩, ⟨t0, t1, t2, t3, t4, t5⟩, _⟩ := hG1.store (.int .i64 ck) (.int .u64 (cn : Int)) (.string cx) (.int .i64 bk) (.int .u64 (bn : Int)) (.string bx)
    have HF := Lib.hid (Six.storeBelow hW1 (show w.heap.size ≤ w.heap.size + 1 + 1 by omega) (.int .i64 ck) (.int .u64 (cn : Int)) (.string cx) (.int .i64 bk) (.int .u64 (bn : Int)) (.string bx))
    clear hG1 hW1
    go_wp2_with fail
    refine bodyPost_ret (v := .agg #[.int .i64 ck, .int .u64 (cn : Int), .string cx, .int .i64 bk, .int .u64 (bn : Int), .string bx]) (by simp [results, Try.results18, go_sem, t0, t1, t2, t3, t4, t5]) rfl ⟨rfl, HF.out⟩
  · obtain ⟨⟨u0, u1, u2⟩, ⟨r0, r1, r2⟩, ⟨z0, z1, z2, z3, z4, z5⟩, hA1'⟩ := hA1.at0 (.int .i64 ck) (.int .u64 (cn : Int)) (.string cx)
    have hW1' := Six.at0Below hW1 (Nat.le_refl w.heap.size) (.int .i64 ck) (.int .u64 (cn : Int)) (.string cx)
    have hB1' := ((hB1.far w.heap.size 0 (.int .i64 ck) hne1).far w.heap.size 1 (.int .u64 (cn : Int)) hne1).far w.heap.size 2 (.string cx) hne1
    have hG1' := ((hG1.far w.heap.size 0 (.int .i64 ck) hne2).far w.heap.size 1 (.int .u64 (cn : Int)) hne2).far w.heap.size 2 (.string cx) hne2
    obtain ⟨y0, y1, y2, y3, y4, y5⟩ := hB1'.cells
    clear hA1 hB1 hG1 hW1 a0 a1 a2
    go_wp2_with fail
    refine (HL2.out _).mono ?_
    rintro e w2 ⟨rfl, hb2⟩
    clear a3 a4 a5 b0 b1 b2 b3 b4 b5 u0 u1 u2 r0 r1 r2 z0 z1 z2 z3 z4 z5 y0 y1 y2 y3 y4 y5
    have hA2 := hA1'.next hb2
    have hB2 := hB1'.next hb2
    have hG1 := hG1'.next hb2
    have hW1 := below_then hW1' hb2
    clear hA1' hB1' hG1' hW1' hb2
    obtain ⟨b0, b1, b2, b3, b4, b5⟩ := hB2.cells
    obtain ⟨⟨u3, u4, u5⟩, ⟨r3, r4, r5⟩, ⟨a0, a1, a2, a3, a4, a5⟩, _⟩ := hA2.at3 (.int .i64 dk) (.int .u64 (dn : Int)) (.string dx)
    have hW3 := Six.at3Below hW1 (Nat.le_refl w.heap.size) (.int .i64 dk) (.int .u64 (dn : Int)) (.string dx)
    have hG3 := ((hG1.far w.heap.size 3 (.int .i64 dk) hne2).far w.heap.size 4 (.int .u64 (dn : Int)) hne2).far w.heap.size 5 (.string dx) hne2
    clear hA2 hB2
    obtain ⟨⟨g0, g1, g2, g3, g4, g5⟩, ⟨f0, f1, f2, f3, f4, f5⟩, ⟨t0, t1, t2, t3, t4, t5⟩, _⟩ := hG3.store (.int .i64 ck) (.int .u64 (cn : Int)) (.string cx) (.int .i64 dk) (.int .u64 (dn : Int)) (.string dx)
    have HF := Lib.hid (Six.storeBelow hW3 (show w.heap.size ≤ w.heap.size + 1 + 1 by omega) (.int .i64 ck) (.int .u64 (cn : Int)) (.string cx) (.int .i64 dk) (.int .u64 (dn : Int)) (.string dx))
    clear hG1 hW1
    go_wp2_with fail
    refine bodyPost_ret (v := .agg #[.int .i64 ck, .int .u64 (cn : Int), .string cx, .int .i64 dk, .int .u64 (dn : Int), .string dx]) (by simp [results, Try.results18, go_sem, t0, t1, t2, t3, t4, t5]) rfl ⟨rfl, HF.out⟩

end Go.Proofs.Ytgkhkfmlldnogaa
