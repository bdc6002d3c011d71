/- The assembler's records: what they are, and how they lie. -/
import Derived.Test.YtjfkoledbegpfaaShA5
namespace Go.Proofs.Ytjfkoledbegpfaa
open Go.RowKit
open Sh (Lv)
set_option linter.unusedVariables false

namespace Sh
/-- records till the first column has no level left, so many more at most -/
def asmR (k : F) : Nat → List (List Lv) → List (List Nat) → Option (List (List Lv) × List (List Nat))
  | 0, lf, out => if lf.getD 0 [] = [] then some (lf, out) else none
  | n + 1, lf, out => if lf.getD 0 [] = [] then some (lf, out) else (al1 asW 0 k 0 0 0 0 (lf, [])).bind fun st => asmR k n st.1 (out ++ [st.2])
/-- the records of columns -/
def asR (k : F) (lf : List (List Lv)) : Option (List (List Nat)) :=
  (asmR k 8 lf []).bind fun x => if ∀ l ∈ x.1, l = [] then some x.2 else none
end Sh

/-- the assembler between two records: whatever its last one is -/
structure Ahd (w : World) (B S C N cN : Nat) (lefts : List (List Lv)) (vs : List Value) (v : Value) : Prop where
  s : Cel w S #[.slice (some ⟨C, 0, none⟩) N cN, v] 66
  c : Cel w C vs.toArray 40
  vl : N ≤ vs.length
  cl : lefts.length = N
  lv : ∀ i, i < N → LvSl w B (vs.getD i undef) (lefts.getD i [])
  bs : B ≤ S ∧ B ≤ C ∧ S ≠ C
  nb : N ≤ 12 ∧ N ≤ cN
theorem Asd.hd {w : World} {B S C N cN : Nat} {lefts : List (List Lv)} {vs : List Value} {rec : List Nat} {rv : Value} (h : Asd w B S C N cN lefts vs rec rv) : Ahd w B S C N cN lefts vs rv := ⟨h.s, h.c, h.vl, h.cl, h.lv, h.bs, h.nb⟩
theorem Ahd.reset {w : World} {B S C N cN : Nat} {lefts : List (List Lv)} {vs : List Value} {v : Value} (h : Ahd w B S C N cN lefts vs v) :
    Asd (w.setCell ⟨S, 1, none⟩ (.slice none 0 0)) B S C N cN lefts vs [] (.slice none 0 0) := by
  refine ⟨?_, h.c.far _ _ _ h.bs.2.2, h.vl, h.cl, fun i hi => (h.lv i hi).below ((Below.refl B w).setCell (p := ⟨S, 1, none⟩) h.bs.1 _), ⟨rfl, Or.inl ⟨rfl, rfl⟩⟩, ⟨(fun e => by cases e), (fun e => by cases e)⟩, h.bs, h.nb, Nat.zero_le _⟩
  have := h.s
  unfold Cel at *
  simp [World.setCell, Array.getElem?_modify, this]
theorem Ahd.next {w w' : World} {B S C N cN : Nat} {lefts : List (List Lv)} {vs : List Value} {v : Value} (h : Ahd w B S C N cN lefts vs v) (hb : Below w.heap.size w w') : Ahd w' B S C N cN lefts vs v := by
  have hB : B ≤ w.heap.size := Nat.le_trans h.bs.1 (Nat.le_of_lt h.s.lt)
  exact ⟨h.s.next hb, h.c.next hb, h.vl, h.cl, fun i hi => (h.lv i hi).below (hb.mono hB), h.bs, h.nb⟩
/-- blocks that are kept are kept -/
theorem Ahd.kept {w w' : World} {B S C N cN : Nat} {lefts : List (List Lv)} {vs : List Value} {v : Value} (h : Ahd w B S C N cN lefts vs v) (hb : Below B w w') (hS : w'.heap[S]? = w.heap[S]?) (hC : w'.heap[C]? = w.heap[C]?) : Ahd w' B S C N cN lefts vs v :=
  ⟨hS.trans h.s, hC.trans h.c, h.vl, h.cl, fun i hi => (h.lv i hi).below hb, h.bs, h.nb⟩
theorem Fr.forget {S C : Nat} {w w' : World} {v v' : Value} (h : Fr S C w w' [v] [v']) (hv : v.ownBlock = none) : Fr S C w w' [] [] := by
  refine ⟨h.os, h.tape, h.output, h.size, fun i hi hn => h.block i hi (fun e => ?_), fun i _ e => e⟩
  rcases e with e | e | ⟨j, hj⟩
  · exact hn (Or.inl e)
  · exact hn (Or.inr (Or.inl e))
  · have hj2 := getD_lt hj
    have : j = 0 := by simp at hj2; omega
    subst this
    rw [show [v].getD 0 undef = v from rfl, hv] at hj; cases hj
theorem out_nil {S C i : Nat} (h : Out S C [] i) : i = S ∨ i = C := by
  rcases h with h | h | ⟨j, hj⟩
  · exact Or.inl h
  · exact Or.inr h
  · have := getD_lt hj; simp at this

/-- records that are done, in a row of their own, each in blocks from G on that nobody else has -/
structure Outs (w : World) (G S C : Nat) (ov : Value) (rvs : List Value) (outs : List (List Nat)) : Prop where
  o : w.ownsRow G 47 1 ov outs.length rvs
  r : ∀ j, j < outs.length → w.ownsRow G 41 1 (rvs.getD j undef) (outs.getD j []).length (nv (outs.getD j []))
  fo : ov.ownBlock ≠ some S ∧ ov.ownBlock ≠ some C
  fr : ∀ j, (rvs.getD j undef).ownBlock ≠ some S ∧ (rvs.getD j undef).ownBlock ≠ some C
  ap : ∀ i j b, i ≠ j → (rvs.getD i undef).ownBlock = some b → (rvs.getD j undef).ownBlock ≠ some b
  ao : ∀ j b, (rvs.getD j undef).ownBlock = some b → ov.ownBlock ≠ some b
theorem own_block {w w' : World} {B : Nat} {e : TypeId} {sz : Nat} {v : Value} {n : Nat} {xs : List Value} (h : w.ownsRow B e sz v n xs) (hb : ∀ i, v.ownBlock = some i → w'.heap[i]? = w.heap[i]?) : w'.ownsRow B e sz v n xs := by
  refine ⟨h.1, ?_⟩
  rcases h.2 with hn | ⟨g, cp, cur, e1, e2, e3, e4⟩
  · exact Or.inl hn
  · exact Or.inr ⟨g, cp, cur, e1, e2, (hb g (by rw [e1]; rfl)).trans e3, e4⟩
theorem Outs.rl {w : World} {G S C : Nat} {ov : Value} {rvs : List Value} {outs : List (List Nat)} (h : Outs w G S C ov rvs outs) : rvs.length = outs.length := by rw [h.o.1, Nat.mul_one]
theorem Outs.keep {w w' : World} {G S C : Nat} {ov : Value} {rvs : List Value} {outs : List (List Nat)} (h : Outs w G S C ov rvs outs) (hb : ∀ i, i < w.heap.size → i ≠ S → i ≠ C → w'.heap[i]? = w.heap[i]?) : Outs w' G S C ov rvs outs := by
  refine ⟨own_block h.o (fun i e => hb i (h.o.lt i e).2 (fun e2 => h.fo.1 (e2 ▸ e)) (fun e2 => h.fo.2 (e2 ▸ e))), fun j hj => own_block (h.r j hj) (fun i e => hb i ((h.r j hj).lt i e).2 (fun e2 => (h.fr j).1 (e2 ▸ e)) (fun e2 => (h.fr j).2 (e2 ▸ e))), h.fo, h.fr, h.ap, h.ao⟩
theorem outs_nil (w : World) (G S C : Nat) : Outs w G S C (.slice none 0 0) [] [] :=
  ⟨⟨rfl, Or.inl ⟨rfl, rfl⟩⟩, fun j hj => (by simp at hj), ⟨(fun e => by cases e), (fun e => by cases e)⟩, fun j => ⟨(fun e => by cases e), (fun e => by cases e)⟩, fun i j b _ e => (by cases e), fun j b e => (by cases e)⟩
/-- one more -/
theorem Outs.snoc {w w6 : World} {G S C : Nat} {ov : Value} {rvs : List Value} {outs : List (List Nat)} (h : Outs w G S C ov rvs outs) {rv : Value} {rec : List Nat} (hr : w.ownsRow G 41 1 rv rec.length (nv rec))
    (hf : rv.ownBlock ≠ some S ∧ rv.ownBlock ≠ some C) (ha : ∀ j b, (rvs.getD j undef).ownBlock = some b → rv.ownBlock ≠ some b) (ho : ∀ b, rv.ownBlock = some b → ov.ownBlock ≠ some b)
    {g cp : Nat} (hown : w6.ownsRow G 47 1 (.slice (some ⟨g, 0, none⟩) (outs.length + 1) cp) (outs.length + 1) (rvs ++ [rv])) (hg : w.grownBy w6 ov.ownBlock) (hor : ov.ownBlock = some g ∨ w.heap.size ≤ g) (hSC : S < w.heap.size ∧ C < w.heap.size) :
    Outs w6 G S C (.slice (some ⟨g, 0, none⟩) (outs.length + 1) cp) (rvs ++ [rv]) (outs ++ [rec]) := by
  have hrl := h.rl
  have hgS : g ≠ S := by
    rcases hor with e | e
    · intro e2; exact h.fo.1 (by rw [e, e2])
    · omega
  have hgC : g ≠ C := by
    rcases hor with e | e
    · intro e2; exact h.fo.2 (by rw [e, e2])
    · omega
  have hget : ∀ j, (rvs ++ [rv]).getD j undef = if j < outs.length then rvs.getD j undef else if j = outs.length then rv else undef := by
    intro j
    unfold List.getD
    by_cases e : j < outs.length
    · rw [if_pos e, List.getElem?_append_left (by omega)]
    · rw [if_neg e, List.getElem?_append_right (by omega)]
      by_cases e2 : j = outs.length
      · rw [if_pos e2, e2, hrl, Nat.sub_self]; rfl
      · rw [if_neg e2, List.getElem?_eq_none (by simp; omega)]; rfl
  have hgo : ∀ j, (outs ++ [rec]).getD j [] = if j < outs.length then outs.getD j [] else if j = outs.length then rec else [] := by
    intro j
    unfold List.getD
    by_cases e : j < outs.length
    · rw [if_pos e, List.getElem?_append_left e]
    · rw [if_neg e, List.getElem?_append_right (by omega)]
      by_cases e2 : j = outs.length
      · rw [if_pos e2, e2, Nat.sub_self]; rfl
      · rw [if_neg e2, List.getElem?_eq_none (by simp; omega)]; rfl
  have hng : ∀ b, (b < w.heap.size) → ov.ownBlock ≠ some b → g ≠ b := by
    intro b hb ho2 e
    rcases hor with e1 | e1
    · exact ho2 (by rw [e1, e])
    · omega
  refine ⟨by rw [List.length_append]; exact hown, fun j hj => ?_, ⟨fun e => hgS (Option.some.inj e), fun e => hgC (Option.some.inj e)⟩, fun j => ?_, fun i j b hij => ?_, fun j b e => ?_⟩
  · rw [hget, hgo]
    rw [List.length_append] at hj
    simp only [List.length_cons, List.length_nil] at hj
    by_cases e : j < outs.length
    · rw [if_pos e, if_pos e]
      exact own_block (h.r j e) (fun i hi => hg.block i ((h.r j e).lt i hi).2 (fun e2 => h.ao j i hi e2.symm))
    · rw [if_neg e, if_neg e, if_pos (by omega), if_pos (by omega)]
      exact own_block hr (fun i hi => hg.block i (hr.lt i hi).2 (fun e2 => ho i hi e2.symm))
  · rw [hget]
    split
    · exact h.fr j
    · split
      · exact hf
      · exact ⟨(fun e => by cases e), (fun e => by cases e)⟩
  · rw [hget, hget]
    by_cases ei : i < outs.length
    · rw [if_pos ei]
      by_cases ej : j < outs.length
      · rw [if_pos ej]; exact h.ap i j b hij
      · rw [if_neg ej]
        by_cases e2 : j = outs.length
        · rw [if_pos e2]; exact ha i b
        · rw [if_neg e2]; intro _ e; cases e
    · rw [if_neg ei]
      by_cases e1 : i = outs.length
      · rw [if_pos e1]
        by_cases ej : j < outs.length
        · rw [if_pos ej]; intro e3 e4; exact ha j b e4 e3
        · rw [if_neg ej, if_neg (by omega)]; intro _ e; cases e
      · rw [if_neg e1]; intro e; cases e
  · rw [hget] at e
    intro e5
    have e6 : g = b := Option.some.inj e5
    by_cases ej : j < outs.length
    · rw [if_pos ej] at e
      exact hng b ((h.r j ej).lt b e).2 (h.ao j b e) e6
    · rw [if_neg ej] at e
      by_cases e2 : j = outs.length
      · rw [if_pos e2] at e
        exact hng b (hr.lt b e).2 (ho b e) e6
      · rw [if_neg e2] at e; cases e
theorem own_base {w : World} {B G : Nat} {e : TypeId} {sz : Nat} {v : Value} {n : Nat} {xs : List Value} (h : w.ownsRow B e sz v n xs) (hb : ∀ i, v.ownBlock = some i → G ≤ i) : w.ownsRow G e sz v n xs := by
  refine ⟨h.1, ?_⟩
  rcases h.2 with hn | ⟨g, cp, cur, e1, e2, e3⟩
  · exact Or.inl hn
  · exact Or.inr ⟨g, cp, cur, e1, hb g (by rw [e1]; rfl), e3⟩
theorem Outs.mono {w : World} {G G' S C : Nat} {ov : Value} {rvs : List Value} {outs : List (List Nat)} (h : Outs w G S C ov rvs outs) (hG : G' ≤ G) : Outs w G' S C ov rvs outs :=
  ⟨own_base h.o (fun i e => Nat.le_trans hG (h.o.lt i e).1), fun j hj => own_base (h.r j hj) (fun i e => Nat.le_trans hG ((h.r j hj).lt i e).1), h.fo, h.fr, h.ap, h.ao⟩
theorem Fr.grown {S C : Nat} {a w w' : World} {row : Option Nat} (h : Fr S C a w [] []) (hg : w.grownBy w' row) (hr : ∀ k, row = some k → a.heap.size ≤ k) : Fr S C a w' [] [] :=
  ⟨hg.os.trans h.os, hg.tape.trans h.tape, hg.output.trans h.output, Nat.le_trans h.size hg.size, fun i hi hn => (hg.block i (Nat.lt_of_lt_of_le hi h.size) (fun e => by have := hr i e.symm; omega)).trans (h.block i hi hn), fun i _ e => e⟩
theorem Fr.setS {S C : Nat} {a w : World} (h : Fr S C a w [] []) (i : Nat) (x : Value) : Fr S C a (w.setCell ⟨S, i, none⟩ x) [] [] :=
  ⟨h.os, h.tape, h.output, by simpa [World.setCell] using h.size, fun j hj hn => (heap_set_ne _ _ _ _ _ (fun e => hn (Or.inl e.symm))).trans (h.block j hj hn), fun i _ e => e⟩
theorem rv_form {w : World} {B n : Nat} {e : TypeId} {sz : Nat} {v : Value} {xs : List Value} (h : w.ownsRow B e sz v n xs) : ∃ aa ca, v = .slice aa n ca := by
  rcases h.2 with ⟨e1, h0⟩ | ⟨g, cap, cur, e1, -⟩
  · exact ⟨none, 0, by rw [e1, h0]⟩
  · exact ⟨_, _, e1⟩
theorem info_nums : (Try.prog.info? 47).map (fun i => (i.zero, i.size, i.bytes)) = some (some (.slice none 0 0), 1, 24) := by kernel_rfl
end Go.Proofs.Ytjfkoledbegpfaa
