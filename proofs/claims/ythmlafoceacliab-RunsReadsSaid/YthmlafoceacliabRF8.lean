/- What stands in the midst of runs.Joined. -/
import Derived.Test.YthmlafoceacliabRW5
import Derived.Test.YthmlafoceacliabRF2
namespace Go.Proofs.Ythmlafoceacliab
open Go.RowKit Go.Shelf
set_option linter.unusedVariables false

/-- runs come one behind the other -/
def accF (Z : List R.Run) (xs : List R.Run) : List R.Run := xs.foldl R.addR Z
theorem accF_snoc (Z xs : List R.Run) (r : R.Run) : accF Z (xs ++ [r]) = R.addR (accF Z xs) r := by simp [accF]
theorem accF_bnd (xs : List R.Run) : ∀ (Z : List R.Run) (K : Nat), R.bnd K Z → (∀ r ∈ xs, 1 ≤ r.2 ∧ r.2 ≤ 64) → R.bnd ((K + 64 * xs.length : Nat) : Int) (accF Z xs) := by
  induction xs with
  | nil => intro Z K h _; simpa [accF] using h
  | cons r xs ih =>
    intro Z K h hr
    have h1 := hr r (by simp)
    have h2 := R.bnd_add (K : Int) 64 Z r h (by omega) (by omega)
    have := ih (R.addR Z r) (K + 64) (by intro p hp; have := h2 p hp; omega) (fun q hq => hr q (by simp [hq]))
    intro p hp
    have := this p hp
    simp only [List.length_cons]; omega
theorem accF_length (xs : List R.Run) : ∀ Z, (accF Z xs).length ≤ Z.length + xs.length := by
  induction xs with
  | nil => intro Z; simp [accF]
  | cons r xs ih =>
    intro Z
    have h1 := R.addR_length Z r
    have := ih (R.addR Z r)
    simp only [accF, List.foldl_cons, List.length_cons] at *
    omega

def JI (s Bo Bl : Nat) (cs : Array Value) (w : World) (Z : List R.Run) (W : World) : Prop :=
  (∃ v, Boxed W Bo 23 v ∧ RunRow s Z v W) ∧ W.heap[Bl]? = some (.cells cs 23 (0, 0)) ∧ Below s w W

theorem row_ne {W : World} {s g : Nat} {Z : List R.Run} {v : Value} {cs : Array Value} {fz : Nat × Nat} (h : RunRow s Z v W) (k : W.heap[g]? = some (.cells cs 23 fz)) : some g ≠ v.ownBlock := by
  unfold RunRow at h
  rcases h.2 with ⟨rfl, _⟩ | ⟨g', cap, cur, rfl, _, hh, _⟩
  · simp [Value.ownBlock]
  · intro e
    obtain rfl : g = g' := by simpa [Value.ownBlock] using e
    rw [hh] at k
    injection k with k
    injection k with _ k
    exact absurd k (by decide)
theorem row_cells {W : World} {s : Nat} {Z : List R.Run} {v : Value} (h : RunRow s Z v W) : ∀ (j : Nat) (o : Obj), v.ownBlock = some j → W.heap[j]? = some o → o.isCells = true := by
  intro j o e ho
  unfold RunRow at h
  rcases h.2 with ⟨rfl, _⟩ | ⟨g', cap, cur, rfl, _, hh, _⟩
  · simp [Value.ownBlock] at e
  · obtain rfl : g' = j := by simpa [Value.ownBlock] using e
    rw [hh] at ho; cases ho; rfl

/-- a run comes -/
theorem JI.step {s Bo Bl : Nat} {cs : Array Value} {w W W3 : World} {Z Z' : List R.Run} {v v' : Value} (hv : Boxed W Bo 23 v) (hrow : RunRow s Z v W) (hBl : W.heap[Bl]? = some (.cells cs 23 (0, 0))) (hB : Below s w W) (hs : s ≤ w.heap.size) (hsO : s ≤ Bo) (hne : Bl ≠ Bo)
    (hrow' : RunRow s Z' v' W3) (hgr : W.grownBy W3 v.ownBlock) (hk2 : Keep2 W W3) :
    Boxed W3 Bo 23 v ∧ JI s Bo Bl cs w Z' (W3.setCell ⟨Bo, 0, none⟩ v') ∧ KeepsOthers W (W3.setCell ⟨Bo, 0, none⟩ v') ∧ Kp false s W (W3.setCell ⟨Bo, 0, none⟩ v') := by
  have hsW : s ≤ W.heap.size := Nat.le_trans hs hB.size
  have hv3 : Boxed W3 Bo 23 v := hv.kept hgr (row_ne hrow hv)
  have hbl3 : W3.heap[Bl]? = some (.cells cs 23 (0, 0)) := (hgr.block Bl (lt_of_block hBl) (row_ne hrow hBl)).trans hBl
  have hB3 : Below s w W3 := hB.grown hgr hsW (fun k hk => (hrow.lt k hk).1)
  have hBW3 : Below s W W3 := (Below.refl s W).grown hgr hsW (fun k hk => (hrow.lt k hk).1)
  have hset := grownBy_setCell' W3 Bo v'
  refine ⟨hv3, ⟨⟨v', hv3.set v', ?_⟩, (hset.block Bl (lt_of_block hbl3) (fun e => hne (by injection e with e))).trans hbl3, hB3.setCell (p := ⟨Bo, 0, none⟩) hsO _⟩, (KeepsOthers.of_grownBy hgr (row_cells hrow)).trans (KeepsOthers.setCell _ _ _), hBW3.setCell (p := ⟨Bo, 0, none⟩) hsO _, ?_⟩
  · exact World.ownsRow.kept hrow' hset (.inr (fun e => row_ne hrow' hv3 e.symm))
  · intro b x m hb
    obtain ⟨x', m', hb'⟩ := hk2 b x m hb
    refine ⟨x', m', (hset.block b hb'.lt (fun e => ?_)).trans hb', fun h => by cases h⟩
    obtain rfl : b = Bo := by injection e
    have h1 : W3.heap[b]? = _ := hv3
    unfold Box2 at hb'
    rw [hb'] at h1
    injection h1 with h1
    injection h1 with _ h1
    exact absurd h1 (by decide)

theorem ji_own {β : Type} {B s Bo Bl : Nat} {cs : Array Value} {w : World} (hs : s ≤ w.heap.size) (hB : s ≤ B) (Zf : β → List R.Run) : OwnFrom B (fun (x : β) W => JI s Bo Bl cs w (Zf x) W) := by
  intro x X Y row h hg hr
  obtain ⟨⟨v, hv, hrow⟩, hbl, hb⟩ := h
  have hcells : ∀ k o, X.heap[k]? = some o → o.isCells = true → some k ≠ row := by
    intro k o hk ho e
    obtain ⟨_, o', ho', hc⟩ := hr k e.symm
    rw [hk] at ho'; cases ho'; rw [ho] at hc; cases hc
  refine ⟨⟨v, hv.kept hg (hcells _ _ hv rfl), ?_⟩, (hg.block Bl (lt_of_block hbl) (hcells _ _ hbl rfl)).trans hbl, ownFrom_below (β := Unit) hs hB () X Y row hb hg hr⟩
  have hrow2 := hrow
  unfold RunRow at hrow2
  refine World.ownsRow.kept hrow hg ?_
  rcases hrow2.2 with ⟨rfl, _⟩ | ⟨g', cap, cur, rfl, _, hh, _⟩
  · exact .inl rfl
  · exact .inr (fun e => hcells g' _ hh rfl e)
theorem dk_own {β : Type} {B D : Nat} (hD : D < B) : OwnFrom B (fun (_ : β) W => W.heap[D]? = some (.deferred (some []))) := fun x X Y row h hg hr =>
  (hg.block D (lt_of_block h) (fun e => by have := (hr D e.symm).1; omega)).trans h
theorem JI.alloc {s Bo Bl : Nat} {cs : Array Value} {w W : World} {Z : List R.Run} (h : JI s Bo Bl cs w Z W) (hs : s ≤ w.heap.size) (o : Obj) : JI s Bo Bl cs w Z (W.alloc o) := by
  obtain ⟨⟨v, hv, hrow⟩, hbl, hb⟩ := h
  exact ⟨⟨v, hv.alloc _, World.ownsRow.alloc hrow _⟩, (Below.heap_alloc W o Bl (lt_of_block hbl)).trans hbl, hb.alloc (Nat.le_trans hs hb.size) _⟩
end Go.Proofs.Ythmlafoceacliab
