/- From what the form hands over to what the walks ask for: slices of runs. -/
import Derived.Test.YthmlafoceacliabLift
import Derived.Test.YthmlafoceacliabRBase
import Derived.Deep.SlicePairs
import Derived.Deep.Grids
namespace Go.Proofs.Ythmlafoceacliab
open Go.ChangeShapes Go.WideShapes Go.ChangeAt Go.RowKit
set_option linter.unusedVariables false

def runD {H : Type} (r : R.Run) : DataW H := .agg [.lit (.int .u64 (r.1 : Int)), .lit (.int .i64 r.2)]

section
variable {H : Type} {enc : TypeId × Value → H} {w : World} {base : Nat} {held : Bool}

/-- a slice of runs that came in -/
theorem open_runs {t : TypeId} {T : TypeDesc} {fuel : Nat} {a : Option Addr} {len cap : Nat} {x : DataW H × List MemPlace} (ht : Try.prog.underlying t = some (.slice 42)) (he : Try.prog.underlying 42 = some T) (ce : Try.prog.cellsOf 42 = 2)
    (h : DataW.trod enc Try.prog w base (fun _ => true) held fuel t (Value.slice a len cap).cells.toList = some x) :
    ∃ l : List R.Run, l.length = len ∧ len ≤ maxLen ∧ (len ≤ cap ∧ cap ≤ maxLen ∧ (a = none → cap = 0)) ∧ (∀ x ∈ l, x.1 < 18446744073709551616 ∧ -9223372036854775808 ≤ x.2 ∧ x.2 ≤ 9223372036854775807) ∧ Runs w w.heap.size a l ∧
      (x.1 = .nil ∧ len = 0 ∨ ∃ r, x.1 = .slice (l.map runD) r) := by
  rcases Go.Deep.open_slice_pairs ht Try.underlying42 ce rfl rfl (by kernel_rfl) (by kernel_rfl) h with ⟨hcs, hx⟩ | ⟨ad, ln, cp, m, n, V0, V1, D0, D1, P0, P1, hcs, _, hl, hm, hmm, hx, hcell⟩
  · simp [Value.cells] at hcs
    obtain ⟨rfl, rfl, rfl⟩ := hcs
    exact ⟨[], rfl, Nat.zero_le _, ⟨Nat.le_refl _, Nat.zero_le _, fun _ => rfl⟩, by simp, Runs.nil _ _ _, Or.inl ⟨by rw [hx], rfl⟩⟩
  · simp [Value.cells] at hcs
    obtain ⟨rfl, rfl, rfl⟩ := hcs
    simp only [if_true] at hmm
    subst hmm
    have each : ∀ i, i < m → ∃ q : R.Run, (q.1 < 18446744073709551616 ∧ -9223372036854775808 ≤ q.2 ∧ q.2 ≤ 9223372036854775807) ∧ V0 i = .int .u64 (q.1 : Int) ∧ V1 i = .int .i64 q.2 ∧ (DataW.agg [D0 i, D1 i] : DataW H) = runD q := by
      intro i hi
      obtain ⟨_, _, h0, h1⟩ := hcell i hi
      obtain ⟨z, e1, e2, e3⟩ := DataW.trod_int Try.underlying34 h0
      obtain ⟨y, f1, f2, f3⟩ := DataW.trod_int Try.underlying3 h1
      obtain ⟨k, rfl, hk⟩ := nat_u64 e3
      simp only [Prod.mk.injEq] at e2 f2
      exact ⟨(k, y), ⟨hk, bounds_int f3⟩, by simpa using e1, by simpa using f1, by rw [e2.1, f2.1]; rfl⟩
    obtain ⟨Q, hQ⟩ := Go.Deep.choose_lt (α := R.Run) each
    refine ⟨(List.range len).map Q, by simp, by omega, ⟨hl, hm, fun h => by cases h⟩, ?_, ?_, Or.inr ⟨_, by
      rw [hx]; simp only [List.map_map]; rw [List.map_congr_left (g := runD ∘ Q) (fun i hi => (hQ i (by have := List.mem_range.1 hi; omega)).2.2.2)]⟩⟩
    · intro y hy
      obtain ⟨i, hi, rfl⟩ := List.mem_map.1 hy
      exact (hQ i (by have := List.mem_range.1 hi; omega)).1
    intro hne
    have hpos : 0 < len := by
      rcases Nat.eq_zero_or_pos len with h0 | h0
      · rw [h0] at hne; simp at hne
      · exact h0
    obtain ⟨b, off, spot⟩ := ad
    have hspot : spot = none := by simpa [Addr.add] using World.cell?_spot (hcell 0 (by omega)).1
    subst hspot
    have hc2 : ∀ i, i < len → w.cell? ⟨b, off + i * 2, none⟩ = some (.int .u64 ((Q i).1 : Int)) ∧ w.cell? ⟨b, off + i * 2 + 1, none⟩ = some (.int .i64 (Q i).2) := fun i hi => by
      have hq := hQ i (by omega)
      have hc := hcell i (by omega)
      rw [← hq.2.1, ← hq.2.2.1]
      rw [Go.WideShapes.add_plain, Go.WideShapes.add_plain] at hc
      exact ⟨hc.1, hc.2.1⟩
    refine ⟨b, off, rfl, lt_of_cell (hc2 0 hpos).1, fun i hi => ?_⟩
    simp only [List.length_map, List.length_range] at hi
    have hg : ((List.range len).map Q).getD i (0, 0) = Q i := by simp [List.getD, hi]
    rw [hg]
    exact hc2 i hi
end
theorem bulk_runs {H : Type} {d : DataW H} {l : List R.Run} {n : Nat} (hl : l.length = n) (h : d = .nil ∧ n = 0 ∨ ∃ r, d = .slice (l.map runD) r) : n + 1 ≤ Rows.uptoBulk d := by
  rcases h with ⟨rfl, rfl⟩ | ⟨r, rfl⟩
  · simp [Rows.uptoBulk]
  · have := bulk_length (l.map (runD (H := H)))
    simp only [List.length_map] at this
    simp only [Rows.uptoBulk]
    omega
end Go.Proofs.Ythmlafoceacliab
