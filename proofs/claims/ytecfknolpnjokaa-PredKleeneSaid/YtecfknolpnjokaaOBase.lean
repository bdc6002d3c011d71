/- Words for conditions, lists of them, of what is known, of filters, of kinds, in memory. -/
import Derived.Test.YtecfknolpnjokaaOPlain
import Derived.Test.YtecfknolpnjokaaQ3
namespace Go.Proofs.Ytecfknolpnjokaa
open Go.RowKit
set_option linter.unusedVariables false

def dag (c : O.Cd) : Value := .agg #[.int .i64 c.op, .int .i64 c.col, .int .i64 c.c.kind, .int .u64 (c.c.num : Int), .string (str c.c.txt)]
def dOk (c : O.Cd) : Prop := (-9223372036854775808 ≤ c.op ∧ c.op ≤ 9223372036854775807) ∧ (-9223372036854775808 ≤ c.col ∧ c.col ≤ 9223372036854775807) ∧ cOk c.c

/-- a slice whose elements lie n cells apart, each as P says, below block B -/
def Sl {α : Type} (P : World → Nat → Nat → α → Prop) (n : Nat) (z : α) (w : World) (B : Nat) (a : Option Addr) (l : List α) : Prop :=
  l ≠ [] → ∃ b off, a = some ⟨b, off, none⟩ ∧ b < B ∧ ∀ i, i < l.length → P w b (off + i * n) (l.getD i z)
def Firm {α : Type} (P : World → Nat → Nat → α → Prop) : Prop := ∀ (w w' : World) (b o : Nat) (x : α), (∀ i, w'.cell? ⟨b, i, none⟩ = w.cell? ⟨b, i, none⟩) → P w b o x → P w' b o x
section
variable {α : Type} {P : World → Nat → Nat → α → Prop} {n : Nat} {z : α}
theorem Sl.nil (w : World) (B : Nat) (a : Option Addr) : Sl P n z w B a [] := fun h => absurd rfl h
theorem Sl.below (hP : Firm P) {w w' : World} {B : Nat} {a : Option Addr} {l : List α} (h : Sl P n z w B a l) (hb : Below B w w') : Sl P n z w' B a l := by
  intro hl
  obtain ⟨b, off, e, hlt, hc⟩ := h hl
  exact ⟨b, off, e, hlt, fun i hi => hP w w' b _ _ (fun j => hb.cell (p := ⟨b, j, none⟩) hlt) (hc i hi)⟩
theorem Sl.mono {w : World} {B B' : Nat} {a : Option Addr} {l : List α} (h : Sl P n z w B a l) (hB : B ≤ B') : Sl P n z w B' a l := by
  intro hl
  obtain ⟨b, off, e, hlt, hc⟩ := h hl
  exact ⟨b, off, e, by omega, hc⟩
theorem Sl.next (hP : Firm P) {w w' : World} {a : Option Addr} {l : List α} (h : Sl P n z w w.heap.size a l) (hb : Below w.heap.size w w') : Sl P n z w' w'.heap.size a l := (h.below hP hb).mono hb.size
theorem Sl.take {w : World} {B : Nat} {a : Option Addr} {l : List α} (h : Sl P n z w B a l) (k : Nat) : Sl P n z w B a (l.take k) := by
  intro hl
  obtain ⟨b, off, e, hlt, hc⟩ := h (fun e => hl (by rw [e]; simp))
  refine ⟨b, off, e, hlt, fun i hi => ?_⟩
  rw [List.length_take] at hi
  have := hc i (by omega)
  rwa [show (l.take k).getD i z = l.getD i z by simp only [List.getD]; rw [List.getElem?_take_of_lt (by omega)]]
theorem Sl.drop {w : World} {B b off : Nat} {l : List α} (h : Sl P n z w B (some ⟨b, off, none⟩) l) (k : Nat) : Sl P n z w B (some ⟨b, off + k * n, none⟩) (l.drop k) := by
  intro hl
  obtain ⟨b', off', e, hlt, hc⟩ := h (fun e => hl (by rw [e]; simp))
  have e' := Option.some.inj e
  obtain ⟨rfl, rfl⟩ : b = b' ∧ off = off' := by simpa using e'
  refine ⟨b, _, rfl, hlt, fun i hi => ?_⟩
  rw [List.length_drop] at hi
  have := hc (k + i) (by omega)
  rw [show off + k * n + i * n = off + (k + i) * n by rw [Nat.add_mul]; omega, show (l.drop k).getD i z = l.getD (k + i) z by simp only [List.getD]; rw [List.getElem?_drop]]
  exact this
end

def at5 (w : World) (b o : Nat) (c : O.Cd) : Prop := w.cell? ⟨b, o, none⟩ = some (.int .i64 c.op) ∧ w.cell? ⟨b, o + 1, none⟩ = some (.int .i64 c.col) ∧ w.cell? ⟨b, o + 2, none⟩ = some (.int .i64 c.c.kind) ∧ w.cell? ⟨b, o + 3, none⟩ = some (.int .u64 (c.c.num : Int)) ∧ w.cell? ⟨b, o + 4, none⟩ = some (.string (str c.c.txt))
theorem at5_firm : Firm at5 := fun w w' b o x h ⟨h0, h1, h2, h3, h4⟩ => ⟨by rw [h]; exact h0, by rw [h]; exact h1, by rw [h]; exact h2, by rw [h]; exact h3, by rw [h]; exact h4⟩
abbrev Cds (w : World) (B : Nat) (a : Option Addr) (l : List O.Cd) : Prop := Sl at5 5 O.nullC w B a l
def at1 (w : World) (b o : Nat) (k : Int) : Prop := w.cell? ⟨b, o, none⟩ = some (.int .i64 k)
theorem at1_firm : Firm at1 := fun w w' b o x h h0 => by unfold at1 at *; rw [h]; exact h0
abbrev Ints (w : World) (B : Nat) (a : Option Addr) (l : List Int) : Prop := Sl at1 1 (0 : Int) w B a l
def at8 (w : World) (b o : Nat) (s : S.St) : Prop := w.cell? ⟨b, o, none⟩ = some (.int .i64 s.rows) ∧ w.cell? ⟨b, o + 1, none⟩ = some (.int .i64 s.nulls) ∧ w.cell? ⟨b, o + 2, none⟩ = some (.int .i64 s.least.kind) ∧ w.cell? ⟨b, o + 3, none⟩ = some (.int .u64 (s.least.num : Int)) ∧ w.cell? ⟨b, o + 4, none⟩ = some (.string (str s.least.txt)) ∧
  w.cell? ⟨b, o + 5, none⟩ = some (.int .i64 s.most.kind) ∧ w.cell? ⟨b, o + 6, none⟩ = some (.int .u64 (s.most.num : Int)) ∧ w.cell? ⟨b, o + 7, none⟩ = some (.string (str s.most.txt))
theorem at8_firm : Firm at8 := fun w w' b o x h ⟨h0, h1, h2, h3, h4, h5, h6, h7⟩ => ⟨by rw [h]; exact h0, by rw [h]; exact h1, by rw [h]; exact h2, by rw [h]; exact h3, by rw [h]; exact h4, by rw [h]; exact h5, by rw [h]; exact h6, by rw [h]; exact h7⟩
abbrev Sts (w : World) (B : Nat) (a : Option Addr) (l : List S.St) : Prop := Sl at8 8 S.zero w B a l
def at4 (w : World) (b o : Nat) (f : Bl.F) : Prop := w.cell? ⟨b, o, none⟩ = some (.int .u64 (f 0 : Nat)) ∧ w.cell? ⟨b, o + 1, none⟩ = some (.int .u64 (f 1 : Nat)) ∧ w.cell? ⟨b, o + 2, none⟩ = some (.int .u64 (f 2 : Nat)) ∧ w.cell? ⟨b, o + 3, none⟩ = some (.int .u64 (f 3 : Nat))
theorem at4_firm : Firm at4 := fun w w' b o x h ⟨h0, h1, h2, h3⟩ => ⟨by rw [h]; exact h0, by rw [h]; exact h1, by rw [h]; exact h2, by rw [h]; exact h3⟩
abbrev Fls (w : World) (B : Nat) (a : Option Addr) (l : List Bl.F) : Prop := Sl at4 4 Bl.none_ w B a l

/-- a block that holds a condition -/
def Pen (w : World) (b : Nat) (v0 v1 v2 v3 v4 : Value) : Prop := w.heap[b]? = some (.cells #[v0, v1, v2, v3, v4] 51 (0, 0))
section
variable {w w' : World} {b : Nat} {v0 v1 v2 v3 v4 : Value}
theorem Pen.all (h : Pen w b v0 v1 v2 v3 v4) : w.cell? ⟨b, 0, none⟩ = some v0 ∧ w.cell? ⟨b, 1, none⟩ = some v1 ∧ w.cell? ⟨b, 2, none⟩ = some v2 ∧ w.cell? ⟨b, 3, none⟩ = some v3 ∧ w.cell? ⟨b, 4, none⟩ = some v4 := by
  unfold Pen at h; simp [World.cell?, h]
theorem Pen.lt (h : Pen w b v0 v1 v2 v3 v4) : b < w.heap.size := lt_of_block h
theorem Pen.next (h : Pen w b v0 v1 v2 v3 v4) (hb : Below w.heap.size w w') : Pen w' b v0 v1 v2 v3 v4 := (hb.block b h.lt).trans h
theorem pen_new (w : World) (v0 v1 v2 v3 v4 : Value) : Pen (w.alloc (.cells #[v0, v1, v2, v3, v4] 51)) w.heap.size v0 v1 v2 v3 v4 := heap_alloc_new _ _
end
theorem cag_is (c : C.Cl) : cag c = .agg #[.int .i64 c.kind, .int .u64 (c.num : Int), .string (str c.txt)] := rfl
theorem cneq (k : Int) (n : Nat) (t : List UInt8) (k' : Int) (n' : Nat) (t' : List UInt8) (w : World) :
    (binOp .neq 38 (.agg #[.int .i64 k, .int .u64 (n : Int), .string (str t)]) (.agg #[.int .i64 k', .int .u64 (n' : Int), .string (str t')])).run Try.prog w = .ok (.bool (decide ((⟨k, n, t⟩ : C.Cl) ≠ ⟨k', n', t'⟩))) w := cell_neq_cell w ⟨k, n, t⟩ ⟨k', n', t'⟩
theorem ceql (k : Int) (n : Nat) (t : List UInt8) (k' : Int) (n' : Nat) (t' : List UInt8) (w : World) :
    (binOp .eql 38 (.agg #[.int .i64 k, .int .u64 (n : Int), .string (str t)]) (.agg #[.int .i64 k', .int .u64 (n' : Int), .string (str t')])).run Try.prog w = .ok (.bool (decide ((⟨k, n, t⟩ : C.Cl) = ⟨k', n', t'⟩))) w := cell_eql_cell w ⟨k, n, t⟩ ⟨k', n', t'⟩
end Go.Proofs.Ytecfknolpnjokaa
