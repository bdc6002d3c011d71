/- The assembler: what it does at fields and levels; how it lies in memory. -/
import Derived.Test.YtjfkoledbegpfaaShSd
namespace Go.Proofs.Ytjfkoledbegpfaa
open Go.RowKit
open Sh (Lv)
set_option linter.unusedVariables false

namespace Sh
/-- the assembler: what is left of each column, the record -/
abbrev As := List (List Lv) × List Nat
def asPut (rec : List Nat) (n : Nat) : Option (List Nat) := if rec.length = 64 then none else some (rec ++ [n])
/-- how often it comes again, till a level of less than that begins -/
def again (P : Int) : List Lv → Nat
  | [] => 0
  | l :: t => if l.1 < P then 0 else (if l.1 = P then 1 else 0) + again P t
theorem again_le (P : Int) : ∀ l, again P l ≤ l.length
  | [] => Nat.le_refl _
  | l :: t => by
    have := again_le P t
    unfold again
    simp only [List.length_cons]
    split
    · omega
    · split <;> omega
def asSeen (lefts : List (List Lv)) (r D P c : Nat) : Option Nat :=
  match lefts.getD c [] with
  | [] => none
  | l :: t => if l.2.1 < (D : Int) then some 0 else if r = 1 then some 1 else some (1 + again (P : Int) t)
def asOften (st : As) (r D P c : Nat) : Option (Nat × As) := (asSeen st.1 r D P c).bind fun m => (asPut st.2 m).map fun rec => (m, (st.1, rec))
def asLevel (st : As) (c rep d : Nat) (there : Bool) : Option As :=
  match st.1.getD c [] with
  | [] => none
  | l :: t => (if there = true then asPut st.2 l.2.2 else some st.2).bind fun rec => if l = ((rep : Int), (d : Int), if there = true then l.2.2 else 0) then some (st.1.set c t, rec) else none
def asW : Wk As := ⟨asOften, asLevel⟩
end Sh

/-- a slice's levels, read below block B -/
def Lvs (w : World) (B : Nat) (a : Option Addr) (l : List Lv) : Prop :=
  l ≠ [] → ∃ b off, a = some ⟨b, off, none⟩ ∧ b < B ∧ ∀ i, i < l.length → w.cell? ⟨b, off + i * 3, none⟩ = some (.int .i64 (l.getD i (0, 0, 0)).1) ∧ w.cell? ⟨b, off + i * 3 + 1, none⟩ = some (.int .i64 (l.getD i (0, 0, 0)).2.1) ∧ w.cell? ⟨b, off + i * 3 + 2, none⟩ = some (.int .u64 ((l.getD i (0, 0, 0)).2.2 : Nat))
theorem Lvs.below {w w' : World} {B : Nat} {a : Option Addr} {l : List Lv} (h : Lvs w B a l) (hb : Below B w w') : Lvs w' B a l := by
  intro hl
  obtain ⟨b, off, e, hlt, hc⟩ := h hl
  exact ⟨b, off, e, hlt, fun i hi => ⟨(hb.cell (p := ⟨b, off + i * 3, none⟩) hlt).trans (hc i hi).1, (hb.cell (p := ⟨b, off + i * 3 + 1, none⟩) hlt).trans (hc i hi).2.1, (hb.cell (p := ⟨b, off + i * 3 + 2, none⟩) hlt).trans (hc i hi).2.2⟩⟩
theorem Lvs.mono {w : World} {B B' : Nat} {a : Option Addr} {l : List Lv} (h : Lvs w B a l) (hB : B ≤ B') : Lvs w B' a l := by
  intro hl
  obtain ⟨b, off, e, hlt, hc⟩ := h hl
  exact ⟨b, off, e, by omega, hc⟩
theorem Lvs.set {w : World} {B b i : Nat} {x : Value} {a : Option Addr} {l : List Lv} (h : Lvs w B a l) (hb : B ≤ b) : Lvs (w.setCell ⟨b, i, none⟩ x) B a l := h.below ((Below.refl B w).setCell (p := ⟨b, i, none⟩) hb x)
theorem Lvs.cut1 {w : World} {B b off c : Nat} {n : Lv} {l : List Lv} (h : Lvs w B (some ⟨b, off, none⟩) (n :: l)) (hl : (n :: l).length ≤ c) : Lvs w B (if c = 1 then some ⟨b, off, none⟩ else some ⟨b, off + 3, none⟩) l := by
  intro hne
  have hl1 : 0 < l.length := List.length_pos_iff.2 hne
  simp only [List.length_cons] at hl
  rw [if_neg (by omega)]
  obtain ⟨b', off', e, hb, hc⟩ := h (by simp)
  have e1 := Option.some.inj e
  have e2 : b = b' := congrArg Addr.block e1
  have e3 : off = off' := congrArg Addr.off e1
  subst e2 e3
  refine ⟨b, off + 3, rfl, hb, fun i hi => ?_⟩
  have := hc (i + 1) (by simp only [List.length_cons]; omega)
  rw [show off + (i + 1) * 3 = off + 3 + i * 3 by omega] at this
  simpa using this
/-- what fits the types -/
def lvOk (l : Lv) : Prop := (-9223372036854775808 ≤ l.1 ∧ l.1 ≤ 9223372036854775807) ∧ (-9223372036854775808 ≤ l.2.1 ∧ l.2.1 ≤ 9223372036854775807) ∧ l.2.2 < 18446744073709551616
/-- one of the columns' slices -/
def LvSl (w : World) (B : Nat) (v : Value) (l : List Lv) : Prop := ∃ a cap, v = .slice a l.length cap ∧ Lvs w B a l ∧ l.length ≤ cap ∧ cap ≤ maxLen ∧ ∀ x ∈ l, lvOk x
/-- the assembler: what it reads lies below B, what it writes does not -/
structure Asd (w : World) (B S C N cN : Nat) (lefts : List (List Lv)) (vs : List Value) (rec : List Nat) (rv : Value) : Prop where
  s : Cel w S #[.slice (some ⟨C, 0, none⟩) N cN, rv] 66
  c : Cel w C vs.toArray 40
  vl : N ≤ vs.length
  cl : lefts.length = N
  lv : ∀ i, i < N → LvSl w B (vs.getD i undef) (lefts.getD i [])
  own : w.ownsRow B 41 1 rv rec.length (nv rec)
  far : rv.ownBlock ≠ some S ∧ rv.ownBlock ≠ some C
  bs : B ≤ S ∧ B ≤ C ∧ S ≠ C
  nb : N ≤ 12 ∧ N ≤ cN
  rl : rec.length ≤ 64
theorem LvSl.below {w w' : World} {B : Nat} {v : Value} {l : List Lv} (h : LvSl w B v l) (hb : Below B w w') : LvSl w' B v l := by
  obtain ⟨a, cap, e, h1, h2⟩ := h
  exact ⟨a, cap, e, h1.below hb, h2⟩
theorem Asd.out {w : World} {B S C N cN : Nat} {lefts : List (List Lv)} {vs : List Value} {rec : List Nat} {rv : Value} (h : Asd w B S C N cN lefts vs rec rv) {i : Nat} (ho : Out S C [rv] i) : B ≤ i ∧ i < w.heap.size := by
  rcases ho with rfl | rfl | ⟨j, hj⟩
  · exact ⟨h.bs.1, h.s.lt⟩
  · exact ⟨h.bs.2.1, h.c.lt⟩
  · have hj2 := getD_lt hj
    have : j = 0 := by simp at hj2; omega
    subst this
    exact h.own.lt i hj
theorem out_own {S C i : Nat} {rv : Value} (h : rv.ownBlock = some i) : Out S C [rv] i := Or.inr (Or.inr ⟨0, h⟩)
theorem Asd.next {w w' : World} {B S C N cN : Nat} {lefts : List (List Lv)} {vs : List Value} {rec : List Nat} {rv : Value} (h : Asd w B S C N cN lefts vs rec rv) (hb : Below w.heap.size w w') : Asd w' B S C N cN lefts vs rec rv := by
  have hB : B ≤ w.heap.size := Nat.le_trans h.bs.1 (Nat.le_of_lt h.s.lt)
  refine ⟨h.s.next hb, h.c.next hb, h.vl, h.cl, fun i hi => (h.lv i hi).below (hb.mono hB), ⟨h.own.1, ?_⟩, h.far, h.bs, h.nb, h.rl⟩
  rcases h.own.2 with hn | ⟨g, cp, cur, e1, e2, e3, e4⟩
  · exact Or.inl hn
  · exact Or.inr ⟨g, cp, cur, e1, e2, (hb.block g (lt_of_block e3)).trans e3, e4⟩
theorem Asd.drew {w : World} {B S C N cN : Nat} {lefts : List (List Lv)} {vs : List Value} {rec : List Nat} {rv : Value} (h : Asd w B S C N cN lefts vs rec rv) : Asd w.drew B S C N cN lefts vs rec rv :=
  ⟨h.s, h.c, h.vl, h.cl, h.lv, h.own, h.far, h.bs, h.nb, h.rl⟩
theorem Asd.setFar {w : World} {B S C N cN : Nat} {lefts : List (List Lv)} {vs : List Value} {rec : List Nat} {rv : Value} (h : Asd w B S C N cN lefts vs rec rv) (b i : Nat) (x : Value) (hb : B ≤ b) (hn : ¬ Out S C [rv] b) :
    Asd (w.setCell ⟨b, i, none⟩ x) B S C N cN lefts vs rec rv :=
  ⟨h.s.far _ _ _ (fun e => hn (Or.inl e)), h.c.far _ _ _ (fun e => hn (Or.inr (Or.inl e))), h.vl, h.cl, fun j hj => (h.lv j hj).below ((Below.refl B w).setCell (p := ⟨b, i, none⟩) hb x), own_set h.own (fun e => hn (out_own e)), h.far, h.bs, h.nb, h.rl⟩
/-- a level is taken from a column -/
theorem Asd.cut {w : World} {B S C N cN : Nat} {lefts : List (List Lv)} {vs : List Value} {rec : List Nat} {rv : Value} (h : Asd w B S C N cN lefts vs rec rv) {c : Nat} (hc : c < N) {v : Value} {t : List Lv} (hv : LvSl w B v t) :
    Asd (w.setCell ⟨C, c, none⟩ v) B S C N cN (lefts.set c t) (vs.set c v) rec rv := by
  have hcv : c < vs.length := Nat.lt_of_lt_of_le hc h.vl
  have hb : Below B w (w.setCell ⟨C, c, none⟩ v) := (Below.refl B w).setCell (p := ⟨C, c, none⟩) h.bs.2.1 v
  refine ⟨h.s.far _ _ _ (Ne.symm h.bs.2.2), ?_, by rw [List.length_set]; exact h.vl, by rw [List.length_set]; exact h.cl, fun i hi => ?_, own_set h.own h.far.2, h.far, h.bs, h.nb, h.rl⟩
  · have := h.c
    unfold Cel at *
    simp [World.setCell, Array.getElem?_modify, this]
  · have e1 : (vs.set c v).getD i undef = if i = c then v else vs.getD i undef := by
      by_cases e : i = c
      · subst e; rw [if_pos rfl]; unfold List.getD; rw [List.getElem?_set_self hcv]; rfl
      · rw [if_neg e]; unfold List.getD; rw [List.getElem?_set_ne (Ne.symm e)]
    have e2 : (lefts.set c t).getD i [] = if i = c then t else lefts.getD i [] := by
      by_cases e : i = c
      · subst e; rw [if_pos rfl]; unfold List.getD; rw [List.getElem?_set_self (by rw [h.cl]; exact hc)]; rfl
      · rw [if_neg e]; unfold List.getD; rw [List.getElem?_set_ne (Ne.symm e)]
    rw [e1, e2]
    by_cases e : i = c
    · rw [if_pos e, if_pos e]; exact hv.below hb
    · rw [if_neg e, if_neg e]; exact (h.lv i hi).below hb
theorem frCut {S C : Nat} {w : World} {vs : List Value} (c : Nat) (x : Value) : Fr S C w (w.setCell ⟨C, c, none⟩ x) vs vs :=
  ⟨rfl, rfl, rfl, by simp [World.setCell], fun i hi hn => heap_set_ne _ _ _ _ _ (fun e => hn (Or.inr (Or.inl e.symm))), fun _ _ e => e⟩
/-- a number more of the record -/
theorem Asd.put {w w6 : World} {B S C N cN : Nat} {lefts : List (List Lv)} {vs : List Value} {rec : List Nat} {rv : Value} (h : Asd w B S C N cN lefts vs rec rv) (hl : rec.length < 64)
    {g cp n : Nat} (hown : w6.ownsRow B 41 1 (.slice (some ⟨g, 0, none⟩) (rec.length + 1) cp) (rec.length + 1) (nv rec ++ [.int .u64 (n : Int)])) (hg : w.grownBy w6 rv.ownBlock) (hor : rv.ownBlock = some g ∨ g = w.heap.size) :
    Asd (w6.setCell ⟨S, 1, none⟩ (.slice (some ⟨g, 0, none⟩) (rec.length + 1) cp)) B S C N cN lefts vs (rec ++ [n]) (.slice (some ⟨g, 0, none⟩) (rec.length + 1) cp) := by
  have hB : B ≤ w.heap.size := Nat.le_trans h.bs.1 (Nat.le_of_lt h.s.lt)
  have hgS : g ≠ S := by
    rcases hor with e | e
    · intro e2; exact h.far.1 (by rw [e, e2])
    · have := h.s.lt; omega
  have hgC : g ≠ C := by
    rcases hor with e | e
    · intro e2; exact h.far.2 (by rw [e, e2])
    · have := h.c.lt; omega
  have hbl : Below B w w6 := ⟨hg.os, hg.tape, hg.output, hg.size, fun i hi => hg.block i (by omega) (fun e => by have := (h.own.lt i e.symm).1; omega)⟩
  have hb2 : Below B w (w6.setCell ⟨S, 1, none⟩ (.slice (some ⟨g, 0, none⟩) (rec.length + 1) cp)) := hbl.setCell (p := ⟨S, 1, none⟩) h.bs.1 _
  refine ⟨?_, ?_, h.vl, h.cl, fun i hi => (h.lv i hi).below hb2, ?_, ⟨fun e => hgS (Option.some.inj e), fun e => hgC (Option.some.inj e)⟩, h.bs, h.nb, by rw [List.length_append]; simp; omega⟩
  · have e : w6.heap[S]? = w.heap[S]? := hg.block S h.s.lt (fun e => h.far.1 e.symm)
    have h2 := h.s
    unfold Cel at h2 ⊢
    rw [h2] at e
    simp [World.setCell, Array.getElem?_modify, e]
  · have e : w6.heap[C]? = w.heap[C]? := hg.block C h.c.lt (fun e => h.far.2 e.symm)
    exact Cel.far (show Cel w6 C _ _ from e.trans h.c) S 1 _ h.bs.2.2
  · rw [List.length_append]
    have : nv (rec ++ [n]) = nv rec ++ [.int .u64 (n : Int)] := by simp [nv]
    rw [this]
    exact own_set hown (fun e => hgS (Option.some.inj e))
theorem frPut {w w6 : World} {S C g cp m : Nat} {rv : Value} (hg : w.grownBy w6 rv.ownBlock) (hor : rv.ownBlock = some g ∨ g = w.heap.size) :
    Fr S C w (w6.setCell ⟨S, 1, none⟩ (.slice (some ⟨g, 0, none⟩) m cp)) [rv] [.slice (some ⟨g, 0, none⟩) m cp] := by
  refine ⟨hg.os, hg.tape, hg.output, by simpa [World.setCell] using hg.size, fun i hi hn => ?_, fun i hi ho => ?_⟩
  · rw [heap_set_ne _ _ _ _ _ (fun e => hn (Or.inl e.symm))]
    exact hg.block i hi (fun e => hn (out_own e.symm))
  · rcases ho with rfl | rfl | ⟨j, hj⟩
    · exact Or.inl rfl
    · exact Or.inr (Or.inl rfl)
    · have hj2 := getD_lt hj
      have : j = 0 := by simp at hj2; omega
      subst this
      have := Option.some.inj (show some g = some i from hj)
      rcases hor with h1 | h1
      · exact out_own (by rw [h1, this])
      · omega
end Go.Proofs.Ytjfkoledbegpfaa
