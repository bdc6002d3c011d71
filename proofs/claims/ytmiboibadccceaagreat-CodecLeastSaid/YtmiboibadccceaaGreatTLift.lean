/- From what the form hands over to what the walks ask for: slices of texts. -/
import Derived.Test.YtmiboibadccceaaGreatK7
import Derived.Test.YtmiboibadccceaaGreatLift
import Derived.Deep.Strs
namespace Go.Proofs.YtmiboibadccceaaGreat
open Go.ChangeShapes Go.WideShapes Go.ChangeAt Go.RowKit Go.Deep
set_option linter.unusedVariables false

section
variable {H : Type} {enc : TypeId × Value → H} {w : World} {base : Nat} {spare : Nat → Bool} {held : Bool}

/-- a slice of texts that came in -/
theorem open_texts {t e : TypeId} {fuel : Nat} {a : Option Addr} {len cap : Nat} {x : DataW H × List MemPlace} (ht : Tryz.prog.underlying t = some (.slice e)) (he : Tryz.prog.underlying e = some .string) (hc : Tryz.prog.cellsOf e = 1)
    (h : DataW.trod enc Tryz.prog w base spare held fuel t (Value.slice a len cap).cells.toList = some x) :
    ∃ l : List (List UInt8), l.length = len ∧ len ≤ maxLen ∧ (len ≤ cap ∧ cap ≤ maxLen ∧ (a = none → cap = 0)) ∧ (∀ x ∈ l, x.length ≤ maxLen) ∧ Txts w w.heap.size a l ∧
      (x.1 = .nil ∧ len = 0 ∨ ∃ r, x.1 = .slice (l.map fun x => .lit (.string x)) r) := by
  rcases open_strs ht he hc h with ⟨hcs, hx⟩ | ⟨ad, l, c, m, Sx, hcs, _, hl, hm, hmm, hx, hcell⟩
  · simp [Value.cells] at hcs
    obtain ⟨rfl, rfl, rfl⟩ := hcs
    exact ⟨[], rfl, Nat.zero_le _, ⟨Nat.le_refl _, Nat.zero_le _, fun _ => rfl⟩, by simp, Txts.nil _ _ _, Or.inl ⟨by rw [hx], rfl⟩⟩
  · simp [Value.cells] at hcs
    obtain ⟨rfl, rfl, rfl⟩ := hcs
    have hlm : len ≤ m := by rw [hmm]; split <;> omega
    refine ⟨(List.range len).map fun i => (Sx i).data.toList, by simp, by omega, ⟨hl, hm, fun h => by cases h⟩, ?_, ?_, Or.inr ⟨_, by rw [hx, List.map_map]; rfl⟩⟩
    · intro y hy
      obtain ⟨i, hi, rfl⟩ := List.mem_map.1 hy
      rw [len_data]
      exact (hcell i (by have := List.mem_range.1 hi; omega)).2
    · intro hne
      have hpos : 0 < len := by
        rcases Nat.eq_zero_or_pos len with h0 | h0
        · subst h0; exact absurd rfl hne
        · exact h0
      obtain ⟨b, off, spot⟩ := ad
      have hspot : spot = none := by simpa [Addr.add] using World.cell?_spot (hcell 0 (by omega)).1
      subst hspot
      have h0 : w.cell? ⟨b, off + 0, none⟩ = some (.string (Sx 0)) := (hcell 0 (by omega)).1
      refine ⟨b, off, rfl, lt_of_cell h0, fun i hi => ?_⟩
      have hi' : i < len := by simpa using hi
      have e : ((List.range len).map fun i => (Sx i).data.toList).getD i [] = (Sx i).data.toList := by
        simp [List.getD, List.getElem?_range hi']
      rw [e]
      have hs : str (Sx i).data.toList = Sx i := by simp [str]
      have hadd : (⟨b, off, none⟩ : Addr).add i = ⟨b, off + i, none⟩ := by unfold Addr.add; split <;> simp_all
      rw [hs, ← hadd]
      exact (hcell i (by omega)).1
end

theorem bulk_texts {H : Type} {d : DataW H} {l : List (List UInt8)} {n : Nat} (hl : l.length = n) (h : d = .nil ∧ n = 0 ∨ ∃ r, d = .slice (l.map fun x => .lit (.string x)) r) : n + 1 ≤ Rows.uptoBulk d := by
  rcases h with ⟨rfl, rfl⟩ | ⟨r, rfl⟩
  · simp [Rows.uptoBulk]
  · have := bulk_length (l.map fun x => DataW.lit (H := H) (.string x))
    simp only [List.length_map] at this
    simp only [Rows.uptoBulk]
    omega
end Go.Proofs.YtmiboibadccceaaGreat
