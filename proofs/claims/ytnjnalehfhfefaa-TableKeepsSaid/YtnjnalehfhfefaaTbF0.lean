/- What the walks of the table's calls want. -/
import Derived.Test.YtnjnalehfhfefaaTbOwn
namespace Go.Proofs.Ytnjnalehfhfefaa
open Go.RowKit
set_option linter.unusedVariables false

theorem Tri.next' {w w' : World} {b : Nat} {v0 v1 v2 : Value} (h : Tri w b v0 v1 v2) (hb : Below w.heap.size w w') : Tri w' b v0 v1 v2 := (hb.block b h.lt).trans h
/-- stores into a block below leave the table -/
theorem ftab_set {w0 w1 : World} {ra : Option Addr} {rc : Nat} {rda : Option Addr} {rdc RB B : Nat} {r : Tb.T} (h : FTab w0.heap.size w1 ra rc rda rdc r) (hl : RB < w0.heap.size) (hB : B ≤ w0.heap.size) (u v : Value) :
    FTab B ((w1.setCell ⟨RB, 0, none⟩ u).setCell ⟨RB, 1, none⟩ v) ra rc rda rdc r := fun W hW hsz => h W (fun k hk hk2 => by
  rw [hW k (by omega) (by simp; omega), heap_set _ _ _ _ (by simp; omega), heap_set _ _ _ _ (by simp; omega)]) (by simp at hsz; exact hsz)
theorem Tb.addE_lt (t : Tb.T) (c : Tb.Col) (x : C.Cl) : Tb.addE t c x < 9 := by
  unfold Tb.addE
  have h1 := Tb.fresh_lt t.cols c
  have h2 := Tb.chk_lt9 c.kind x
  split
  · exact h1
  · split
    · omega
    · exact h2
theorem Tb.dropE_lt (t : Tb.T) (n : List UInt8) : Tb.dropE t n < 9 := by unfold Tb.dropE; split <;> omega
theorem Tb.renE_lt (t : Tb.T) (o n : List UInt8) : Tb.renE t o n < 9 := by
  unfold Tb.renE
  split
  · omega
  · split
    · omega
    · split <;> omega
theorem Tb.redE_lt (t : Tb.T) (n : List UInt8) (p : List O.Cd) : Tb.redE t n p < 9 := by
  unfold Tb.redE
  have := O.check_lt p (Tb.kinds t)
  split
  · omega
  · exact this
theorem Tb.keepE_lt (t : Tb.T) (p : List O.Cd) : Tb.keepE t p < 9 := O.check_lt p (Tb.kinds t)
theorem Tb.projE_lt (t : Tb.T) : ∀ (d : List Tb.Col) (ns : List (List UInt8)), Tb.projE t d ns < 9
  | d, [] => by unfold Tb.projE; omega
  | d, n :: r => by
    unfold Tb.projE
    split
    · omega
    · split
      · omega
      · exact Tb.projE_lt t _ r
theorem Tb.sliE_lt (f m : Int) : Tb.sliE f m < 9 := by unfold Tb.sliE; split <;> omega
theorem Tb.appE_lt (a b : Tb.T) : Tb.appE a b < 9 := by
  unfold Tb.appE
  have := Tb.check_lt b
  split
  · exact this
  · split
    · omega
    · split <;> omega
end Go.Proofs.Ytnjnalehfhfefaa
