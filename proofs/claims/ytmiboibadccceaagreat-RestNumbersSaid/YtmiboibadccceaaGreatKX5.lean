/- Slices that are written to, one beside the other, whatever stands in them. -/
import Derived.Test.YtmiboibadccceaaGreatKX0
namespace Go.Proofs.YtmiboibadccceaaGreat
open Go.RowKit
set_option linter.unusedVariables false

/-- its cells stand in a block between G and H that isn't frozen -/
def Sto (G H : Nat) (W : World) (s : Option Addr × Nat × Nat) : Prop := 0 < s.2.1 → ∃ g off, s.1 = some ⟨g, off, none⟩ ∧ G ≤ g ∧ g < H ∧ (∀ i, i < s.2.1 → ∃ v, W.cell? ⟨g, off + i, none⟩ = some v) ∧ ∀ i, W.frozen? ⟨g, off + i, none⟩ = false
theorem Sto.set {G H : Nat} {W : World} {s : Option Addr × Nat × Nat} (h : Sto G H W s) (p : Addr) (v : Value) : Sto G H (W.setCell p v) s := by
  intro hn
  obtain ⟨g, off, e, h1, h2, h3, h4⟩ := h hn
  refine ⟨g, off, e, h1, h2, fun i hi => ?_, fun i => ?_⟩
  · obtain ⟨u, hu⟩ := h3 i hi
    exact cell?_setCell_some hu
  · rw [World.frozen?_setCell]; exact h4 i
theorem Sto.next {G H : Nat} {W W' : World} {s : Option Addr × Nat × Nat} (h : Sto G H W s) (hb : Below H W W') : Sto G H W' s := by
  intro hn
  obtain ⟨g, off, e, h1, h2, h3, h4⟩ := h hn
  refine ⟨g, off, e, h1, h2, fun i hi => ?_, fun i => ?_⟩
  · obtain ⟨u, hu⟩ := h3 i hi
    exact ⟨u, by rw [hb.cell (p := ⟨g, off + i, none⟩) h2]; exact hu⟩
  · rw [hb.frozen (p := ⟨g, off + i, none⟩) h2]; exact h4 i
theorem Sto.up {G H H' : Nat} {W : World} {s : Option Addr × Nat × Nat} (h : Sto G H W s) (hH : H ≤ H') : Sto G H' W s := by
  intro hn
  obtain ⟨g, off, e, h1, h2, h3⟩ := h hn
  exact ⟨g, off, e, h1, by omega, h3⟩
theorem Sto.nums {G B : Nat} {W : World} {a : Option Addr} {l : List Nat} {c : Nat} (h : Nums W B a l) (hf : Fr G W a l.length) : Sto G W.heap.size W (a, l.length, c) := by
  intro hn
  simp only at hn ⊢
  obtain ⟨g, off, e, h1, h2, h3⟩ := hf hn
  obtain ⟨g', off', e', _, hc⟩ := h (fun e => by rw [e] at hn; simp at hn)
  rw [e] at e'
  injection e' with e'
  injection e' with e1 e2
  subst e1 e2
  exact ⟨g, off, e, h1, h2, fun i hi => ⟨_, hc i hi⟩, h3⟩
theorem Sto.txts {G B : Nat} {W : World} {a : Option Addr} {l : List (List UInt8)} {c : Nat} (h : Txts W B a l) (hf : Fr G W a l.length) : Sto G W.heap.size W (a, l.length, c) := by
  intro hn
  simp only at hn ⊢
  obtain ⟨g, off, e, h1, h2, h3⟩ := hf hn
  obtain ⟨g', off', e', _, hc⟩ := h (fun e => by rw [e] at hn; simp at hn)
  rw [e] at e'
  injection e' with e'
  injection e' with e1 e2
  subst e1 e2
  exact ⟨g, off, e, h1, h2, fun i hi => ⟨_, hc i hi⟩, h3⟩
theorem numRow_cap {B : Nat} {xs : List Nat} {v : Value} {w : World} (h : NumRow B xs v w) : ∃ a c, v = .slice a xs.length c ∧ Nums w w.heap.size a xs ∧ xs.length ≤ c ∧ c ≤ maxLen := by
  unfold NumRow at h
  rcases h.2 with ⟨rfl, h0⟩ | ⟨g, cap, cur, rfl, e2, e3, e4, e5, e6⟩
  · refine ⟨none, 0, by rw [h0], ?_, by omega, by unfold maxLen; omega⟩
    rw [List.eq_nil_of_length_eq_zero h0]; exact Nums.nil _ _ _
  · refine ⟨some ⟨g, 0, none⟩, cap, rfl, fun _ => ⟨g, 0, rfl, lt_of_block e3, fun i hi => ?_⟩, e4, e5⟩
    rw [Nat.zero_add, h.cellAt i (by omega)]
    simp [nv, List.getElem?_eq_getElem hi]
/-- three of them in a row -/
def sl3 (s : Option Addr × Nat × Nat) : Value := .slice s.1 s.2.1 s.2.2
end Go.Proofs.YtmiboibadccceaaGreat
