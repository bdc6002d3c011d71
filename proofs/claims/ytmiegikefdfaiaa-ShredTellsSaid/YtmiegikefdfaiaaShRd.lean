/- What Shred and Assemble leave, to be read: columns, records. -/
import Derived.Test.YtmiegikefdfaiaaShA9
namespace Go.Proofs.Ytmiegikefdfaiaa
open Go.RowKit
open Sh (Lv)
set_option linter.unusedVariables false

theorem Lvs.nil (w : World) (B : Nat) (a : Option Addr) : Lvs w B a [] := fun h => absurd rfl h
theorem lvals_at : ∀ (l : List Lv) (i j : Nat), i < l.length → j < 3 → (lvals l)[i * 3 + j]? = (lvv (l.getD i (0, 0, 0)))[j]?
  | [], i, j, hi, _ => by simp at hi
  | x :: t, 0, j, _, hj => by
    show (lvv x ++ lvals t)[0 * 3 + j]? = _
    rw [Nat.zero_mul, Nat.zero_add, List.getElem?_append_left (by simpa [lvv] using hj)]
    rfl
  | x :: t, i + 1, j, hi, hj => by
    show (lvv x ++ lvals t)[(i + 1) * 3 + j]? = _
    have e : (lvv x).length = 3 := rfl
    rw [List.getElem?_append_right (by omega), e, show (i + 1) * 3 + j - 3 = i * 3 + j by omega, lvals_at t i j (by simpa using hi) hj]
    simp
theorem lvs_row {w : World} {B : Nat} {v : Value} {l : List Lv} (h : w.ownsRow B 43 3 v l.length (lvals l)) : ∃ a cap, v = .slice a l.length cap ∧ Lvs w w.heap.size a l ∧ l.length ≤ cap ∧ cap ≤ maxLen := by
  rcases h.2 with ⟨rfl, h0⟩ | ⟨g, cap, cur, rfl, e2, e3, e4, e5, -⟩
  · refine ⟨none, 0, by rw [h0], ?_, by omega, Nat.zero_le _⟩
    rw [List.eq_nil_of_length_eq_zero h0]; exact Lvs.nil _ _ _
  · refine ⟨some ⟨g, 0, none⟩, cap, rfl, fun _ => ⟨g, 0, rfl, lt_of_block e3, fun i hi => ?_⟩, e4, e5⟩
    have hc : ∀ j, j < 3 → w.cell? ⟨g, 0 + i * 3 + j, none⟩ = (lvv (l.getD i (0, 0, 0)))[j]? := fun j hj => by
      rw [Nat.zero_add, h.cellAt _ (by omega), lvals_at l i j hi hj]
    exact ⟨hc 0 (by omega), hc 1 (by omega), hc 2 (by omega)⟩
theorem LRows.mono {w : World} {B B' : Nat} {a : Option Addr} {l : List (List Lv)} (h : LRows w B a l) (hB : B ≤ B') : LRows w B' a l := by
  obtain ⟨news, h1, h2, h3⟩ := h
  refine ⟨news, h1, fun i hi => (h2 i hi).mono hB, fun hne => ?_⟩
  obtain ⟨b, off, e, hlt, hc⟩ := h3 hne
  exact ⟨b, off, e, by omega, hc⟩
theorem LRows.next {w w' : World} {a : Option Addr} {l : List (List Lv)} (h : LRows w w.heap.size a l) (hb : Below w.heap.size w w') : LRows w' w'.heap.size a l := (h.below hb).mono hb.size
theorem LRows.nil (w : World) (B : Nat) (a : Option Addr) : LRows w B a [] := ⟨[], rfl, fun i hi => by (simp at hi), fun h => absurd rfl h⟩
theorem NRows.mono {w : World} {B B' : Nat} {a : Option Addr} {l : List (List Nat)} (h : NRows w B a l) (hB : B ≤ B') : NRows w B' a l := by
  intro hl
  obtain ⟨b, off, e, hlt, hc⟩ := h hl
  refine ⟨b, off, e, by omega, fun i hi => ?_⟩
  obtain ⟨ra, rcap, h1, h2, h3⟩ := hc i hi
  exact ⟨ra, rcap, h1, h2.mono hB, h3⟩
theorem NRows.next {w w' : World} {a : Option Addr} {l : List (List Nat)} (h : NRows w w.heap.size a l) (hb : Below w.heap.size w w') : NRows w' w'.heap.size a l := (h.below hb).mono hb.size
theorem NRows.nil (w : World) (B : Nat) (a : Option Addr) : NRows w B a [] := fun h => absurd rfl h
theorem cel_vs {w : World} {C : Nat} {vs : List Value} {t : TypeId} (h : Cel w C vs.toArray t) (i : Nat) (hi : i < vs.length) : w.cell? ⟨C, i, none⟩ = vs[i]? := by
  have := h.c i
  rw [this]; simp
/-- the shredder's columns -/
theorem shd_rows {w : World} {B S C N : Nat} {a : Option Addr} {ls : List Nat} {cap : Nat} {cols : List (List Lv)} {vs : List Value} {sl : Nat} (h : Shd w B S C N a ls cap cols vs sl) (hok : ∀ i, ∀ x ∈ cols.getD i [], lvOk x) :
    LRows w w.heap.size (some ⟨C, 0, none⟩) cols := by
  refine ⟨vs, by rw [h.vl, h.cl], fun i hi => ?_, fun _ => ⟨C, 0, rfl, h.c.lt, fun i hi => ?_⟩⟩
  · obtain ⟨aa, cp, e1, e2, e3, e4⟩ := lvs_row (h.own i (by rw [← h.cl]; exact hi))
    exact ⟨aa, cp, e1, e2, e3, e4, hok i⟩
  · rw [Nat.zero_add]; exact cel_vs h.c i (by rw [h.vl, ← h.cl]; exact hi)
/-- the assembler's records -/
theorem outs_rows {w : World} {G S C : Nat} {ov : Value} {rvs : List Value} {outs : List (List Nat)} (h : Outs w G S C ov rvs outs) (hok : ∀ r ∈ outs, ∀ n ∈ r, n < 18446744073709551616) :
    ∃ a cap, ov = .slice a outs.length cap ∧ NRows w w.heap.size a outs ∧ outs.length ≤ cap ∧ cap ≤ maxLen := by
  have ho := h.o
  rcases ho.2 with ⟨rfl, h0⟩ | ⟨g, cap, cur, rfl, e2, e3, e4, e5, -⟩
  · refine ⟨none, 0, by rw [h0], ?_, by omega, Nat.zero_le _⟩
    rw [List.eq_nil_of_length_eq_zero h0]; exact NRows.nil _ _ _
  · refine ⟨some ⟨g, 0, none⟩, cap, rfl, fun _ => ⟨g, 0, rfl, lt_of_block e3, fun i hi => ?_⟩, e4, e5⟩
    have hi2 : i < rvs.length := by rw [h.rl]; exact hi
    have hc : w.cell? ⟨g, 0 + i, none⟩ = some (rvs.getD i undef) := by
      rw [Nat.zero_add, ho.cellAt i (by omega)]; simp [List.getD, List.getElem?_eq_getElem hi2]
    have hr := h.r i hi
    have hm : outs.getD i [] ∈ outs := by
      rw [show outs.getD i [] = outs[i] by simp [List.getD, List.getElem?_eq_getElem hi]]; exact List.getElem_mem hi
    rcases hr.2 with ⟨hv, h0⟩ | ⟨g', cap', cur', hv, f2, f3, f4, f5, -⟩
    · refine ⟨none, 0, by rw [hc, hv, h0], ?_, by omega, Nat.zero_le _, hok _ hm⟩
      rw [List.eq_nil_of_length_eq_zero h0]; exact Nums.nil _ _ _
    · rw [hv] at hr
      refine ⟨some ⟨g', 0, none⟩, cap', by rw [hc, hv], fun _ => ⟨g', 0, rfl, lt_of_block f3, fun j hj => ?_⟩, f4, f5, hok _ hm⟩
      rw [Nat.zero_add, hr.cellAt j (by omega)]
      generalize outs.getD i [] = q at hj ⊢
      simp [nv, List.getElem?_eq_getElem hj]
end Go.Proofs.Ytmiegikefdfaiaa
