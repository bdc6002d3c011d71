/- Slices whose elements lie n cells apart; a block of some cells; rows of one's own, carried. -/
import Derived.Test.YtmjcdjekakaigaaTStr
import Derived.Lib.OwnKind
import Derived.Deep.AppendLies
namespace Go.Proofs.Ytmjcdjekakaigaa.Fs
open Go.RowKit
set_option linter.unusedVariables false

/-- a slice whose elements lie n cells apart, each as P says, below block B -/
def Sl {α : Type} (P : World → Nat → Nat → α → Prop) (n : Nat) (z : α) (w : World) (B : Nat) (a : Option Addr) (l : List α) : Prop :=
  l ≠ [] → ∃ b off, a = some ⟨b, off, none⟩ ∧ b < B ∧ ∀ i, i < l.length → P w b (off + i * n) (l.getD i z)
def Firm {α : Type} (P : World → Nat → Nat → α → Prop) : Prop := ∀ (w w' : World) (b o : Nat) (x : α), (∀ i, w'.cell? ⟨b, i, none⟩ = w.cell? ⟨b, i, none⟩) → P w b o x → P w' b o x
section
variable {α : Type} {P : World → Nat → Nat → α → Prop} {n : Nat} {z : α}
theorem Sl.nil (w : World) (B : Nat) (a : Option Addr) : Sl P n z w B a [] := fun h => absurd rfl h
theorem Sl.below (hP : Firm P) {w w' : World} {B : Nat} {a : Option Addr} {l : List α} (h : Sl P n z w B a l) (hb : Below B w w') : Sl P n z w' B a l := by
  intro hl
  obtain ⟨b, off, e, hlt, hc⟩ := h hl
  exact ⟨b, off, e, hlt, fun i hi => hP w w' b _ _ (fun j => hb.cell (p := ⟨b, j, none⟩) hlt) (hc i hi)⟩
theorem Sl.mono {w : World} {B B' : Nat} {a : Option Addr} {l : List α} (h : Sl P n z w B a l) (hB : B ≤ B') : Sl P n z w B' a l := by
  intro hl
  obtain ⟨b, off, e, hlt, hc⟩ := h hl
  exact ⟨b, off, e, by omega, hc⟩
theorem Sl.next (hP : Firm P) {w w' : World} {a : Option Addr} {l : List α} (h : Sl P n z w w.heap.size a l) (hb : Below w.heap.size w w') : Sl P n z w' w'.heap.size a l := (h.below hP hb).mono hb.size
theorem Sl.take {w : World} {B : Nat} {a : Option Addr} {l : List α} (h : Sl P n z w B a l) (k : Nat) : Sl P n z w B a (l.take k) := by
  intro hl
  obtain ⟨b, off, e, hlt, hc⟩ := h (fun e => hl (by rw [e]; simp))
  refine ⟨b, off, e, hlt, fun i hi => ?_⟩
  rw [List.length_take] at hi
  have := hc i (by omega)
  rwa [show (l.take k).getD i z = l.getD i z by simp only [List.getD]; rw [List.getElem?_take_of_lt (by omega)]]
theorem Sl.drop {w : World} {B b off : Nat} {l : List α} (h : Sl P n z w B (some ⟨b, off, none⟩) l) (k : Nat) : Sl P n z w B (some ⟨b, off + k * n, none⟩) (l.drop k) := by
  intro hl
  obtain ⟨b', off', e, hlt, hc⟩ := h (fun e => hl (by rw [e]; simp))
  have e' := Option.some.inj e
  obtain ⟨rfl, rfl⟩ : b = b' ∧ off = off' := by simpa using e'
  refine ⟨b, _, rfl, hlt, fun i hi => ?_⟩
  rw [List.length_drop] at hi
  have := hc (k + i) (by omega)
  rw [show off + k * n + i * n = off + (k + i) * n by rw [Nat.add_mul]; omega, show (l.drop k).getD i z = l.getD (k + i) z by simp only [List.getD]; rw [List.getElem?_drop]]
  exact this
end
theorem fm_len {α : Type} {f : α → List Value} {n : Nat} (hf : ∀ x, (f x).length = n) : ∀ l : List α, (l.flatMap f).length = l.length * n
  | [] => by simp
  | x :: r => by rw [List.flatMap_cons, List.length_append, hf, fm_len hf r, List.length_cons, Nat.add_mul]; omega
theorem fm_get {α : Type} {f : α → List Value} {n : Nat} (hf : ∀ x, (f x).length = n) : ∀ (l : List α) (z : α) (i j : Nat), i < l.length → j < n → (l.flatMap f)[i * n + j]? = (f (l.getD i z))[j]?
  | [], z, i, j, h, _ => by simp at h
  | x :: r, z, 0, j, _, hj => by
    rw [List.flatMap_cons, List.getElem?_append_left (by rw [hf]; omega)]; simp
  | x :: r, z, i + 1, j, h, hj => by
    rw [List.flatMap_cons, List.getElem?_append_right (by rw [hf, Nat.add_mul]; omega), hf]
    have := fm_get hf r z i j (by simpa using h) hj
    rw [show (i + 1) * n + j - n = i * n + j by rw [Nat.add_mul]; omega, this]
    simp

/-- a block of cells -/
def Bk (w : World) (b : Nat) (t : TypeId) (vs : Array Value) : Prop := w.heap[b]? = some (.cells vs t (0, 0))
section
variable {w w' : World} {b : Nat} {t : TypeId} {vs : Array Value}
theorem Bk.at (h : Bk w b t vs) (i : Nat) : w.cell? ⟨b, i, none⟩ = vs[i]? := by unfold Bk at h; simp [World.cell?, h]
theorem Bk.free (h : Bk w b t vs) (i : Nat) : w.frozen? ⟨b, i, none⟩ = false := by unfold Bk at h; simp [World.frozen?, h]
theorem Bk.lt (h : Bk w b t vs) : b < w.heap.size := lt_of_block h
theorem Bk.next (h : Bk w b t vs) (hb : Below w.heap.size w w') : Bk w' b t vs := (hb.block b h.lt).trans h
theorem Bk.below {B : Nat} (h : Bk w b t vs) (hb : Below B w w') (hlt : b < B) : Bk w' b t vs := (hb.block b hlt).trans h
theorem Bk.move (h : Bk w b t vs) (hs : w'.heap[b]? = w.heap[b]?) : Bk w' b t vs := hs.trans h
theorem Bk.grown {row : Option Nat} (h : Bk w b t vs) (hg : w.grownBy w' row) (hne : some b ≠ row) : Bk w' b t vs := (hg.block b h.lt hne).trans h
theorem Bk.set (h : Bk w b t vs) (i : Nat) (x : Value) : Bk (w.setCell ⟨b, i, none⟩ x) b t (vs.setIfInBounds i x) := by
  unfold Bk at *; simp [World.setCell, Array.getElem?_modify, h]
theorem bk_new (w : World) (t : TypeId) (vs : Array Value) : Bk (w.alloc (.cells vs t)) w.heap.size t vs := heap_alloc_new _ _
theorem Bk.three {v0 v1 v2 : Value} (h : Bk w b t #[v0, v1, v2]) : w.cell? ⟨b, 0, none⟩ = some v0 ∧ w.cell? ⟨b, 1, none⟩ = some v1 ∧ w.cell? ⟨b, 2, none⟩ = some v2 := ⟨h.at 0, h.at 1, h.at 2⟩
theorem Bk.two {v0 v1 : Value} (h : Bk w b t #[v0, v1]) : w.cell? ⟨b, 0, none⟩ = some v0 ∧ w.cell? ⟨b, 1, none⟩ = some v1 := ⟨h.at 0, h.at 1⟩
theorem Bk.four {v0 v1 v2 v3 : Value} (h : Bk w b t #[v0, v1, v2, v3]) : w.cell? ⟨b, 0, none⟩ = some v0 ∧ w.cell? ⟨b, 1, none⟩ = some v1 ∧ w.cell? ⟨b, 2, none⟩ = some v2 ∧ w.cell? ⟨b, 3, none⟩ = some v3 := ⟨h.at 0, h.at 1, h.at 2, h.at 3⟩
end
theorem row_move {w w' : World} {B : Nat} {e : TypeId} {sz : Nat} {v : Value} {n : Nat} {xs : List Value} (h : w.ownsRow B e sz v n xs) (hs : ∀ g, v.ownBlock = some g → w'.heap[g]? = w.heap[g]?) : w'.ownsRow B e sz v n xs := by
  refine ⟨h.1, ?_⟩
  rcases h.2 with hn | ⟨g, cap, cur, e1, e2, e3, e4⟩
  · exact Or.inl hn
  · exact Or.inr ⟨g, cap, cur, e1, e2, (hs g (by rw [e1]; rfl)).trans e3, e4⟩
/-- rows of unlike kinds share no block -/
theorem row_kinds {w : World} {B B' : Nat} {e e' : TypeId} {sz sz' : Nat} {v v' : Value} {n n' : Nat} {xs xs' : List Value} (h : w.ownsRow B e sz v n xs) (h' : w.ownsRow B' e' sz' v' n' xs') (hne : e ≠ e') {g : Nat} (hg : v.ownBlock = some g) : some g ≠ v'.ownBlock := by
  intro hg'
  obtain ⟨c, fz, k1⟩ := Lib.ownsRow_kind h g hg
  obtain ⟨c', fz', k2⟩ := Lib.ownsRow_kind h' g hg'.symm
  rw [k1] at k2
  injection k2 with k2
  injection k2 with k3 k4
  exact hne k4
theorem bk_kind {w : World} {B G : Nat} {e t : TypeId} {sz : Nat} {v : Value} {vs : Array Value} {n : Nat} {xs : List Value} (h : w.ownsRow B e sz v n xs) (h' : Bk w G t vs) (hne : e ≠ t) : some G ≠ v.ownBlock := by
  intro hg
  obtain ⟨c, fz, k1⟩ := Lib.ownsRow_kind h G hg.symm
  unfold Bk at h'
  rw [k1] at h'
  injection h' with k2
  injection k2 with k3 k4
  exact hne k4
theorem heap_set (w : World) (a : Addr) (u : Value) (k : Nat) (h : k ≠ a.block) : (w.setCell a u).heap[k]? = w.heap[k]? := Below.heap_setCell w a u k h
theorem row_cap {w : World} {B : Nat} {e : TypeId} {sz : Nat} {a : Option Addr} {n c m : Nat} {xs : List Value} (h : w.ownsRow B e sz (.slice a n c) m xs) : n = m ∧ n ≤ c ∧ c ≤ maxLen ∧ (a = none → c = 0) ∧ (∀ ad, a = some ad → ∃ g, ad = ⟨g, 0, none⟩) := by
  rcases h.2 with ⟨e1, h0⟩ | ⟨g, cap, cur, e1, e2, e3, e4, e5, _⟩
  · injection e1 with p q r
    subst p; subst q; subst r
    exact ⟨h0.symm, Nat.le_refl _, by unfold maxLen; omega, fun _ => rfl, fun _ hh => by cases hh⟩
  · injection e1 with p q r
    subst p; subst q; subst r
    exact ⟨rfl, e4, e5, (fun hh => by cases hh), (fun _ hh => ⟨g, by injection hh with hh; exact hh.symm⟩)⟩
end Go.Proofs.Ytmjcdjekakaigaa.Fs
