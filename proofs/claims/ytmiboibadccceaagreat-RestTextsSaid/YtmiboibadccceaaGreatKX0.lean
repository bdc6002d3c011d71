/- Slices that a call made, and that may be written. -/
import Derived.Test.YtmiboibadccceaaGreatK7
namespace Go.Proofs.YtmiboibadccceaaGreat
open Go.RowKit
set_option linter.unusedVariables false

/-- its block lies behind, and isn't frozen -/
def Fr (B : Nat) (w : World) (a : Option Addr) (n : Nat) : Prop := 0 < n → ∃ g off, a = some ⟨g, off, none⟩ ∧ B ≤ g ∧ g < w.heap.size ∧ ∀ i, w.frozen? ⟨g, off + i, none⟩ = false
theorem Fr.low {B B' : Nat} {w : World} {a : Option Addr} {n : Nat} (h : Fr B w a n) (hB : B' ≤ B) : Fr B' w a n := by
  intro hn
  obtain ⟨g, off, e, h1, h2, h3⟩ := h hn
  exact ⟨g, off, e, by omega, h2, h3⟩
theorem Fr.next {B : Nat} {w w' : World} {a : Option Addr} {n : Nat} (h : Fr B w a n) (hb : Below w.heap.size w w') : Fr B w' a n := by
  intro hn
  obtain ⟨g, off, e, h1, h2, h3⟩ := h hn
  refine ⟨g, off, e, h1, by have := hb.size; omega, fun i => ?_⟩
  have h4 := h3 i
  have h5 := hb.block g h2
  unfold World.frozen? at h4 ⊢
  simp only at h4 ⊢
  rw [h5]; exact h4
theorem Fr.none_ (B : Nat) (w : World) (a : Option Addr) : Fr B w a 0 := fun h => absurd h (by omega)
theorem Fr.nil_ (B : Nat) (w : World) (a : Option Addr) (n : Nat) (h : n = 0) : Fr B w a n := fun h' => absurd h' (by omega)
theorem UBlk.nf {B : Nat} {w : World} {g : Nat} {l : List Nat} (h : UBlk w g l) (hB : B ≤ g) (n : Nat) : Nums w w.heap.size (some ⟨g, 0, none⟩) l ∧ Fr B w (some ⟨g, 0, none⟩) n :=
  ⟨h.nums, fun _ => ⟨g, 0, rfl, hB, h.lt, fun i => h.free (0 + i)⟩⟩
theorem row_nums' {B n : Nat} {xs : List Nat} {a : Option Addr} {c : Nat} {w : World} (h : NumRow B xs (.slice a n c) w) : Nums w w.heap.size a xs := by
  obtain ⟨a', c', e, hn⟩ := numRow_nums h
  injection e with e1
  subst e1; exact hn
theorem NumRow.nf {B : Nat} {xs : List Nat} {a : Option Addr} {n c : Nat} {w : World} (h : NumRow B xs (.slice a n c) w) : Nums w w.heap.size a xs ∧ Fr B w a xs.length := by
  refine ⟨row_nums' h, fun hn => ?_⟩
  obtain ⟨g, rfl, -, e2, e3⟩ := h.form (fun e => by rw [e] at hn; simp at hn)
  exact ⟨g, 0, rfl, e2, e3, fun i => h.free (0 + i)⟩
theorem TRow.tf {B : Nat} {xs : List (List UInt8)} {a : Option Addr} {n c : Nat} {w : World} (h : TRow B xs (.slice a n c) w) : Txts w w.heap.size a xs ∧ Fr B w a xs.length := by
  refine ⟨h.txts.1, fun hn => ?_⟩
  obtain ⟨g, rfl, -, e2, e3⟩ := h.form (fun e => by rw [e] at hn; simp at hn)
  exact ⟨g, 0, rfl, e2, e3, fun i => h.free (0 + i)⟩
/-- numbers and an error, the numbers fresh -/
def AllPostF (r : List Nat × Nat) (w : World) (e : Ending) (w' : World) : Prop :=
  ∃ a c, e = .returned (.tuple #[.slice a r.1.length c, .int .i64 r.2]) ∧ (Nums w' w'.heap.size a r.1 ∧ Fr w.heap.size w' a r.1.length) ∧ Below w.heap.size w w'
def TextsPostF (r : List (List UInt8) × Nat) (w : World) (e : Ending) (w' : World) : Prop :=
  ∃ a c, e = .returned (.tuple #[.slice a r.1.length c, .int .i64 r.2]) ∧ (Txts w' w'.heap.size a r.1 ∧ Fr w.heap.size w' a r.1.length) ∧ Below w.heap.size w w'
theorem nf_none (B : Nat) (w : World) : Nums w w.heap.size none [] ∧ Fr B w none ([] : List Nat).length := ⟨Nums.nil _ _ _, Fr.none_ _ _ _⟩
theorem AllPostF.none_ {w w' : World} (er : Nat) (h : Below w.heap.size w w') : AllPostF ([], er) w (.returned (.tuple #[.slice none 0 0, .int .i64 er])) w' :=
  ⟨none, 0, rfl, nf_none _ _, h⟩
theorem TextsPostF.none {w w' : World} (er : Nat) (h : Below w.heap.size w w') : TextsPostF ([], er) w (.returned (.tuple #[.slice none 0 0, .int .i64 er])) w' :=
  ⟨Option.none, 0, rfl, ⟨Txts.nil _ _ _, Fr.none_ _ _ _⟩, h⟩
theorem AllPostC.toF {er : Nat} {w w' : World} {e : Ending} (h : AllPostC ([], er) w e w') : AllPostF ([], er) w e w' := by
  obtain ⟨a, c, he, hn, _, _, hb⟩ := h
  exact ⟨a, c, he, ⟨hn, Fr.none_ _ _ _⟩, hb⟩
theorem AllPost.toF {er : Nat} {w w' : World} {e : Ending} (h : AllPost ([], er) w e w') : AllPostF ([], er) w e w' := by
  obtain ⟨a, c, he, hn, hb⟩ := h
  exact ⟨a, c, he, ⟨hn, Fr.none_ _ _ _⟩, hb⟩
theorem TextsPost.toF {er : Nat} {w w' : World} {e : Ending} (h : TextsPost ([], er) w e w') : TextsPostF ([], er) w e w' := by
  obtain ⟨a, c, he, hn, hb⟩ := h
  exact ⟨a, c, he, ⟨hn, Fr.none_ _ _ _⟩, hb⟩
/-- numbers, fresh from a base -/
def NumsF (l : List Nat) (B : Nat) (w : World) (e : Ending) (w' : World) : Prop :=
  ∃ a c, e = .returned (.slice a l.length c) ∧ (Nums w' w'.heap.size a l ∧ Fr B w' a l.length) ∧ Below B w w'
end Go.Proofs.YtmiboibadccceaaGreat
