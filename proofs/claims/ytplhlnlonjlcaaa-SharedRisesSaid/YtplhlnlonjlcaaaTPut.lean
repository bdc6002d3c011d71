/- Rows of texts that are made whole and filled; what a list of texts and an error come out as. -/
import Derived.Test.YtplhlnlonjlcaaaTBase
import Derived.Laws.OwnMore
namespace Go.Proofs.Ytplhlnlonjlcaaa
open Go.RowKit
set_option linter.unusedVariables false

def TextsPost (r : List (List UInt8) × Nat) (w : World) (e : Ending) (w' : World) : Prop :=
  ∃ a c, e = .returned (.tuple #[.slice a r.1.length c, .int .i64 r.2]) ∧ Txts w' w'.heap.size a r.1 ∧ Below w.heap.size w w'
theorem TextsPost.none {w w' : World} (er : Nat) (h : Below w.heap.size w w') : TextsPost ([], er) w (.returned (.tuple #[.slice none 0 0, .int .i64 er])) w' :=
  ⟨Option.none, 0, rfl, Txts.nil _ _ _, h⟩

theorem made_trow {w' : World} {g n B' : Nat} (h : w'.ownsRow B' 9 1 (.slice (some ⟨g, 0, none⟩) n n) n (madeCells (Value.string ByteArray.empty).cells (n * 1)).toList) : TRow B' (List.replicate n []) (.slice (some ⟨g, 0, none⟩) n n) w' := by
  unfold TRow
  rw [List.length_replicate]
  have e : tv (List.replicate n []) = (madeCells (Value.string ByteArray.empty).cells (n * 1)).toList := by
    apply List.ext_getElem
    · simp [madeCells, tv]
    · intro i h1 h2
      simp [madeCells, tv, Value.cells, Nat.mod_one]
      rfl
  rw [e]; exact h
theorem TRow.put {B : Nat} {xs : List (List UInt8)} {g n c : Nat} {w : World} (h : TRow B xs (.slice (some ⟨g, 0, none⟩) n c) w) (i : Nat) (x : List UInt8) : TRow B (xs.set i x) (.slice (some ⟨g, 0, none⟩) n c) (w.setCell ⟨g, i, none⟩ (.string (str x))) := by
  obtain ⟨a', c', e, _⟩ := tRow_txts h
  injection e with e1 e2 e3
  subst e2
  unfold TRow at *
  have := (h.stored i (.string (str x))).1
  rw [List.length_set]
  have e : tv (xs.set i x) = (tv xs).set i (.string (str x)) := by simp [tv, List.map_set]
  rw [e]; exact this
theorem TRow.txts {B : Nat} {xs : List (List UInt8)} {a : Option Addr} {n c : Nat} {w : World} (h : TRow B xs (.slice a n c) w) : Txts w w.heap.size a xs ∧ n = xs.length := by
  obtain ⟨a', c', e, hn, _⟩ := tRow_txts h
  injection e with e1 e2 e3
  rw [e1]; exact ⟨hn, e2⟩
end Go.Proofs.Ytplhlnlonjlcaaa
