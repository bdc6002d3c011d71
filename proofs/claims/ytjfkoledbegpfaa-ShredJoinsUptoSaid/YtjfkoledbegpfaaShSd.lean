/- The shredder in memory: its block, its columns, each a row of its own. -/
import Derived.Deep.AppendLies
import Derived.Deep.RegionLaw
import Derived.Laws.OwnMore
import Derived.Test.YtjfkoledbegpfaaShAl
import Derived.Test.YtjfkoledbegpfaaShGd
namespace Go.Proofs.Ytjfkoledbegpfaa
open Go.RowKit
open Sh (Lv push push_length push_get lsum lsum_push len_lsum)
set_option linter.unusedVariables false

def lvv (l : Lv) : List Value := [.int .i64 l.1, .int .i64 l.2.1, .int .u64 (l.2.2 : Nat)]
def lvals (l : List Lv) : List Value := l.flatMap lvv
theorem lvals_length (l : List Lv) : (lvals l).length = l.length * 3 := by
  induction l with
  | nil => rfl
  | cons x t ih => simp only [lvals, List.flatMap_cons, List.length_append, List.length_cons] at ih ⊢; rw [ih]; simp [lvv]; omega
theorem lvals_snoc (l : List Lv) (x : Lv) : lvals (l ++ [x]) = lvals l ++ lvv x := by simp [lvals]
theorem lvv_one (x : Lv) : ∀ u ∈ lvv x, u.oneCell' = true := by
  intro u hu
  simp [lvv] at hu
  rcases hu with rfl | rfl | rfl <;> rfl
theorem info_level : (Try.prog.info? 43).map (fun i => (i.zero, i.size, i.bytes)) = some (some (.agg #[.int .i64 0, .int .i64 0, .int .u64 0]), 3, 24) := by kernel_rfl

/-- the blocks that a walker writes: its own, that of its columns, and theirs -/
def Out (S C : Nat) (vs : List Value) (i : Nat) : Prop := i = S ∨ i = C ∨ ∃ j, (vs.getD j undef).ownBlock = some i
/-- all other blocks are as they were; what is written behind is what was written, or new -/
structure Fr (S C : Nat) (w w' : World) (vs vs' : List Value) : Prop where
  os : w'.os = w.os
  tape : w'.tape = w.tape
  output : w'.output = w.output
  size : w.heap.size ≤ w'.heap.size
  block : ∀ i, i < w.heap.size → ¬ Out S C vs i → w'.heap[i]? = w.heap[i]?
  own : ∀ i, i < w.heap.size → Out S C vs' i → Out S C vs i
theorem Fr.refl (S C : Nat) (w : World) (vs : List Value) : Fr S C w w vs vs := ⟨rfl, rfl, rfl, Nat.le_refl _, fun _ _ _ => rfl, fun _ _ h => h⟩
theorem Fr.trans {S C : Nat} {a b c : World} {x y z : List Value} (h : Fr S C a b x y) (k : Fr S C b c y z) : Fr S C a c x z :=
  ⟨k.os.trans h.os, k.tape.trans h.tape, k.output.trans h.output, Nat.le_trans h.size k.size,
   fun i hi hn => (k.block i (Nat.lt_of_lt_of_le hi h.size) (fun e => hn (h.own i hi e))).trans (h.block i hi hn),
   fun i hi e => h.own i hi (k.own i (Nat.lt_of_lt_of_le hi h.size) e)⟩
theorem Fr.of_below {S C : Nat} {w w' : World} {vs : List Value} (h : Below w.heap.size w w') : Fr S C w w' vs vs := ⟨h.os, h.tape, h.output, h.size, fun i hi _ => h.block i hi, fun _ _ e => e⟩
theorem Fr.drew {S C : Nat} {a w : World} {vs vs' : List Value} (h : Fr S C a w vs vs') : Fr S C a w.drew vs vs' := ⟨h.os, h.tape, h.output, h.size, h.block, h.own⟩
theorem Fr.alloc {S C : Nat} {a w : World} {vs vs' : List Value} (h : Fr S C a w vs vs') (o : Obj) : Fr S C a (w.alloc o) vs vs' := h.trans (Fr.of_below ((Below.refl _ _).alloc (Nat.le_refl _) o))
theorem Cel.fr {S C : Nat} {w w' : World} {vs vs' : List Value} {b : Nat} {cs : Array Value} {t : TypeId} (h : Cel w b cs t) (hn : ¬ Out S C vs b) (hb : Fr S C w w' vs vs') : Cel w' b cs t := (hb.block b h.lt hn).trans h

/-- the shredder: what is left of the record lies below B, what it writes does not -/
structure Shd (w : World) (B S C N : Nat) (a : Option Addr) (ls : List Nat) (cap : Nat) (cols : List (List Lv)) (vs : List Value) (sl : Nat) : Prop where
  s : Cel w S #[.slice a ls.length cap, .slice (some ⟨C, 0, none⟩) N N] 54
  c : Cel w C vs.toArray 40
  vl : vs.length = N
  cl : cols.length = N
  nums : Nums w B a ls
  lt : ∀ n ∈ ls, n < 18446744073709551616
  own : ∀ i, i < N → w.ownsRow B 43 3 (vs.getD i undef) (cols.getD i []).length (lvals (cols.getD i []))
  apart : ∀ i j b, i < N → j < N → i ≠ j → (vs.getD i undef).ownBlock = some b → (vs.getD j undef).ownBlock ≠ some b
  far : ∀ i, i < N → (vs.getD i undef).ownBlock ≠ some S ∧ (vs.getD i undef).ownBlock ≠ some C
  bs : B ≤ S ∧ B ≤ C ∧ S ≠ C
  cap : ls.length ≤ cap ∧ cap ≤ maxLen
  nb : N ≤ 12
  sum : lsum cols + 12 * ls.length + sl ≤ 1000000
theorem getD_lt {vs : List Value} {j b : Nat} (h : (vs.getD j undef).ownBlock = some b) : j < vs.length := by
  rcases Nat.lt_or_ge j vs.length with h1 | h1
  · exact h1
  · rw [show vs.getD j undef = undef by simp [List.getD, List.getElem?_eq_none h1]] at h
    cases h
theorem Shd.out {w : World} {B S C N : Nat} {a : Option Addr} {ls : List Nat} {cap : Nat} {cols : List (List Lv)} {vs : List Value} {sl : Nat} (h : Shd w B S C N a ls cap cols vs sl) {i : Nat} (ho : Out S C vs i) : B ≤ i ∧ i < w.heap.size := by
  rcases ho with rfl | rfl | ⟨j, hj⟩
  · exact ⟨h.bs.1, h.s.lt⟩
  · exact ⟨h.bs.2.1, h.c.lt⟩
  · exact (h.own j (h.vl ▸ getD_lt hj)).lt i hj
theorem Shd.next {w w' : World} {B S C N : Nat} {a : Option Addr} {ls : List Nat} {cap : Nat} {cols : List (List Lv)} {vs : List Value} {sl : Nat} (h : Shd w B S C N a ls cap cols vs sl) (hb : Below w.heap.size w w') : Shd w' B S C N a ls cap cols vs sl := by
  have hB : B ≤ w.heap.size := Nat.le_trans h.bs.1 (Nat.le_of_lt h.s.lt)
  refine ⟨h.s.next hb, h.c.next hb, h.vl, h.cl, h.nums.below (hb.mono hB), h.lt, fun i hi => ?_, h.apart, h.far, h.bs, h.cap, h.nb, h.sum⟩
  have ho := h.own i hi
  refine ⟨ho.1, ?_⟩
  rcases ho.2 with hn | ⟨g, cp, cur, e1, e2, e3, e4⟩
  · exact Or.inl hn
  · exact Or.inr ⟨g, cp, cur, e1, e2, (hb.block g (lt_of_block e3)).trans e3, e4⟩
theorem Shd.drew {w : World} {B S C N : Nat} {a : Option Addr} {ls : List Nat} {cap : Nat} {cols : List (List Lv)} {vs : List Value} {sl : Nat} (h : Shd w B S C N a ls cap cols vs sl) : Shd w.drew B S C N a ls cap cols vs sl :=
  ⟨h.s, h.c, h.vl, h.cl, h.nums, h.lt, h.own, h.apart, h.far, h.bs, h.cap, h.nb, h.sum⟩
theorem Shd.slack {w : World} {B S C N : Nat} {a : Option Addr} {ls : List Nat} {cap : Nat} {cols : List (List Lv)} {vs : List Value} {sl sl' : Nat} (h : Shd w B S C N a ls cap cols vs sl) (hs : sl' ≤ sl) : Shd w B S C N a ls cap cols vs sl' :=
  ⟨h.s, h.c, h.vl, h.cl, h.nums, h.lt, h.own, h.apart, h.far, h.bs, h.cap, h.nb, by have := h.sum; omega⟩
theorem own_set {w : World} {B b i : Nat} {x : Value} {e : TypeId} {sz : Nat} {v : Value} {n : Nat} {xs : List Value} (h : w.ownsRow B e sz v n xs) (hb : v.ownBlock ≠ some b) : (w.setCell ⟨b, i, none⟩ x).ownsRow B e sz v n xs := by
  refine ⟨h.1, ?_⟩
  rcases h.2 with hn | ⟨g, cp, cur, e1, e2, e3, e4⟩
  · exact Or.inl hn
  · refine Or.inr ⟨g, cp, cur, e1, e2, ?_, e4⟩
    rw [heap_set_ne _ _ _ _ _ (fun e => hb (by rw [e1, e]; rfl))]; exact e3
theorem Nums.cut1 {w : World} {B b off c : Nat} {n : Nat} {l : List Nat} (h : Nums w B (some ⟨b, off, none⟩) (n :: l)) (hl : (n :: l).length ≤ c) : Nums w B (if c = 1 then some ⟨b, off, none⟩ else some ⟨b, off + 1, none⟩) l := by
  intro hne
  have hl1 : 0 < l.length := List.length_pos_iff.2 hne
  simp only [List.length_cons] at hl
  rw [if_neg (by omega)]
  obtain ⟨b', off', e, hb, hc⟩ := h (by simp)
  have e1 := Option.some.inj e
  have e2 : b = b' := congrArg Addr.block e1
  have e3 : off = off' := congrArg Addr.off e1
  subst e2 e3
  refine ⟨b, off + 1, rfl, hb, fun i hi => ?_⟩
  have := hc (i + 1) (by simp only [List.length_cons]; omega)
  rw [show off + (i + 1) = off + 1 + i by omega] at this
  simpa using this
theorem Nums.set {w : World} {B b i : Nat} {x : Value} {a : Option Addr} {l : List Nat} (h : Nums w B a l) (hb : B ≤ b) : Nums (w.setCell ⟨b, i, none⟩ x) B a l := h.below ((Below.refl B w).setCell (p := ⟨b, i, none⟩) hb x)
/-- a block that it does not write -/
theorem Shd.setFar {w : World} {B S C N : Nat} {a : Option Addr} {ls : List Nat} {cap : Nat} {cols : List (List Lv)} {vs : List Value} {sl : Nat} (h : Shd w B S C N a ls cap cols vs sl) (b i : Nat) (x : Value) (hb : B ≤ b) (hn : ¬ Out S C vs b) :
    Shd (w.setCell ⟨b, i, none⟩ x) B S C N a ls cap cols vs sl :=
  ⟨h.s.far _ _ _ (fun e => hn (Or.inl e)), h.c.far _ _ _ (fun e => hn (Or.inr (Or.inl e))), h.vl, h.cl, h.nums.set hb, h.lt, fun j hj => own_set (h.own j hj) (fun e => hn (Or.inr (Or.inr ⟨j, e⟩))), h.apart, h.far, h.bs, h.cap, h.nb, h.sum⟩
theorem Fr.setFar {S C : Nat} {a w : World} {vs vs' : List Value} (h : Fr S C a w vs vs') (b i : Nat) (x : Value) (hb : a.heap.size ≤ b) : Fr S C a (w.setCell ⟨b, i, none⟩ x) vs vs' :=
  ⟨h.os, h.tape, h.output, by simpa [World.setCell] using h.size, fun j hj hn => (heap_set_ne _ _ _ _ _ (by omega)).trans (h.block j hj hn), h.own⟩
theorem Fr.notOut {S C : Nat} {w w' : World} {vs vs' : List Value} {b : Nat} (h : Fr S C w w' vs vs') (hb : b < w.heap.size) (hn : ¬ Out S C vs b) : ¬ Out S C vs' b := fun e => hn (h.own b hb e)
/-- another record, or what is left of one -/
theorem Shd.left {w : World} {B S C N : Nat} {a : Option Addr} {ls : List Nat} {cap : Nat} {cols : List (List Lv)} {vs : List Value} {sl : Nat} (h : Shd w B S C N a ls cap cols vs sl)
    {a' : Option Addr} {ls' : List Nat} {cap' sl' : Nat} (hn : Nums w B a' ls') (hl : ∀ n ∈ ls', n < 18446744073709551616) (hc : ls'.length ≤ cap' ∧ cap' ≤ maxLen) (hs : lsum cols + 12 * ls'.length + sl' ≤ 1000000) :
    Shd (w.setCell ⟨S, 0, none⟩ (.slice a' ls'.length cap')) B S C N a' ls' cap' cols vs sl' := by
  refine ⟨?_, h.c.far _ _ _ h.bs.2.2, h.vl, h.cl, hn.set h.bs.1, hl, fun i hi => own_set (h.own i hi) (h.far i hi).1, h.apart, h.far, h.bs, hc, h.nb, hs⟩
  have := h.s
  unfold Cel at *
  simp [World.setCell, Array.getElem?_modify, this]
theorem Shd.frLeft {w : World} {B S C N : Nat} {a : Option Addr} {ls : List Nat} {cap : Nat} {cols : List (List Lv)} {vs : List Value} {sl : Nat} (h : Shd w B S C N a ls cap cols vs sl) (x : Value) :
    Fr S C w (w.setCell ⟨S, 0, none⟩ x) vs vs :=
  ⟨rfl, rfl, rfl, by simp [World.setCell], fun i hi hn => heap_set_ne _ _ _ _ _ (fun e => hn (Or.inl e.symm)), fun _ _ e => e⟩
/-- a level more -/
theorem Shd.push {w w6 : World} {B S C N : Nat} {a : Option Addr} {ls : List Nat} {cap : Nat} {cols : List (List Lv)} {vs : List Value} {sl : Nat} (h : Shd w B S C N a ls cap cols vs (sl + 1))
    {c g cp : Nat} (hc : c < N) (l : Lv) (hown : w6.ownsRow B 43 3 (.slice (some ⟨g, 0, none⟩) ((cols.getD c []).length + 1) cp) ((cols.getD c []).length + 1) (lvals (cols.getD c []) ++ lvv l))
    (hg : w.grownBy w6 (vs.getD c undef).ownBlock) (hor : (vs.getD c undef).ownBlock = some g ∨ g = w.heap.size) :
    Shd (w6.setCell ⟨C, c, none⟩ (.slice (some ⟨g, 0, none⟩) ((cols.getD c []).length + 1) cp)) B S C N a ls cap (Sh.push cols c l) (vs.set c (.slice (some ⟨g, 0, none⟩) ((cols.getD c []).length + 1) cp)) sl := by
  have hB : B ≤ w.heap.size := Nat.le_trans h.bs.1 (Nat.le_of_lt h.s.lt)
  have hcl : c < cols.length := by rw [h.cl]; exact hc
  have hcv : c < vs.length := by rw [h.vl]; exact hc
  have hgS : g ≠ S := by
    rcases hor with e | e
    · intro e2; exact (h.far c hc).1 (by rw [e, e2])
    · have := h.s.lt; omega
  have hgC : g ≠ C := by
    rcases hor with e | e
    · intro e2; exact (h.far c hc).2 (by rw [e, e2])
    · have := h.c.lt; omega
  have hget : ∀ i, (vs.set c (.slice (some ⟨g, 0, none⟩) ((cols.getD c []).length + 1) cp)).getD i undef = if i = c then (.slice (some ⟨g, 0, none⟩) ((cols.getD c []).length + 1) cp) else vs.getD i undef := by
    intro i
    by_cases e : i = c
    · subst e; rw [if_pos rfl]; unfold List.getD; rw [List.getElem?_set_self hcv]; rfl
    · rw [if_neg e]; unfold List.getD; rw [List.getElem?_set_ne (Ne.symm e)]
  have hne : ∀ i, i < N → i ≠ c → (vs.getD i undef).ownBlock ≠ some g := by
    intro i hi e h2
    rcases hor with e3 | e3
    · exact h.apart i c g hi hc e h2 e3
    · have := (h.own i hi).lt g h2; omega
  refine ⟨?_, ?_, by rw [List.length_set]; exact h.vl, by rw [push_length]; exact h.cl, ?_, h.lt, fun i hi => ?_, fun i j b hi hj hij => ?_, fun i hi => ?_, h.bs, h.cap, h.nb, by rw [lsum_push _ _ _ hcl]; have := h.sum; omega⟩
  · have e : w6.heap[S]? = w.heap[S]? := hg.block S h.s.lt (fun e => (h.far c hc).1 e.symm)
    exact Cel.far (show Cel w6 S _ _ from e.trans h.s) C c _ (Ne.symm h.bs.2.2)
  · have e : w6.heap[C]? = w.heap[C]? := hg.block C h.c.lt (fun e => (h.far c hc).2 e.symm)
    have h2 := h.c
    unfold Cel at h2 ⊢
    rw [h2] at e
    simp [World.setCell, Array.getElem?_modify, e]
  · exact (h.nums.below (by
      refine ⟨hg.os, hg.tape, hg.output, hg.size, fun i hi => hg.block i (by omega) (fun e => ?_)⟩
      have := (h.own c hc).lt i e.symm
      omega)).set h.bs.2.1
  · rw [hget, push_get _ _ _ hcl]
    by_cases e : i = c
    · rw [if_pos e, if_pos e, List.length_append, lvals_snoc]
      exact own_set hown (fun e => hgC (Option.some.inj e))
    · rw [if_neg e, if_neg e]
      refine own_set ?_ (h.far i hi).2
      have ho := h.own i hi
      refine ⟨ho.1, ?_⟩
      rcases ho.2 with hn | ⟨g', cp', cur, e1, e2, e3, e4⟩
      · exact Or.inl hn
      · refine Or.inr ⟨g', cp', cur, e1, e2, (hg.block g' (lt_of_block e3) (fun e5 => ?_)).trans e3, e4⟩
        exact h.apart i c g' hi hc e (by rw [e1]; rfl) e5.symm
  · rw [hget, hget]
    by_cases ei : i = c
    · rw [if_pos ei, if_neg (by omega)]
      intro e; have := Option.some.inj e; subst this
      exact hne j hj (by omega)
    · rw [if_neg ei]
      by_cases ej : j = c
      · rw [if_pos ej]; intro e e2; have := Option.some.inj e2; subst this; exact hne i hi ei e
      · rw [if_neg ej]; exact h.apart i j b hi hj hij
  · rw [hget]
    by_cases e : i = c
    · rw [if_pos e]; exact ⟨fun e => hgS (Option.some.inj e), fun e => hgC (Option.some.inj e)⟩
    · rw [if_neg e]; exact h.far i hi
theorem Shd.frPush {w w6 : World} {B S C N : Nat} {a : Option Addr} {ls : List Nat} {cap : Nat} {cols : List (List Lv)} {vs : List Value} {sl : Nat} (h : Shd w B S C N a ls cap cols vs sl)
    {c g cp m : Nat} (hc : c < N) (hg : w.grownBy w6 (vs.getD c undef).ownBlock) (hor : (vs.getD c undef).ownBlock = some g ∨ g = w.heap.size) :
    Fr S C w (w6.setCell ⟨C, c, none⟩ (.slice (some ⟨g, 0, none⟩) m cp)) vs (vs.set c (.slice (some ⟨g, 0, none⟩) m cp)) := by
  have hcv : c < vs.length := by rw [h.vl]; exact hc
  refine ⟨hg.os, hg.tape, hg.output, by simpa [World.setCell] using hg.size, fun i hi hn => ?_, fun i hi ho => ?_⟩
  · rw [heap_set_ne _ _ _ _ _ (fun e => hn (Or.inr (Or.inl e.symm)))]
    exact hg.block i hi (fun e => hn (Or.inr (Or.inr ⟨c, e.symm⟩)))
  · rcases ho with rfl | rfl | ⟨j, hj⟩
    · exact Or.inl rfl
    · exact Or.inr (Or.inl rfl)
    · by_cases e : j = c
      · subst e
        unfold List.getD at hj
        rw [List.getElem?_set_self hcv] at hj
        have := Option.some.inj (show some g = some i from hj)
        rcases hor with h1 | h1
        · exact Or.inr (Or.inr ⟨j, by rw [h1, this]⟩)
        · omega
      · unfold List.getD at hj
        rw [List.getElem?_set_ne (Ne.symm e)] at hj
        exact Or.inr (Or.inr ⟨j, hj⟩)
/-- append of one level onto a row of one's own, at a step of a region that draws -/
theorem step_append_level {w : World} {ops : Array Oper} {o : Oper} {a : Act} {K : Act → World → Prop} {Q : Exit → Act → World → Prop} {E : Prop} (hgd : o.guard = none) (s x : Operand)
    (ho : o.op = .call { callee := .builtin .append, args := #[s, x], argTypes := #[40, 40] }) (base : Nat)
    (v : Value) (n : Nat) (xs : List Value) (hs : a.eval s = v) (hown : w.ownsRow base 43 3 v n xs)
    (g : Nat) (news : List Value) (hnl : news.length = 3) (hx : a.eval x = .slice (some ⟨g, 0, none⟩) 1 1) (hc : w.heap[g]? = some (.cells news.toArray 43 (0, 0))) (h1 : ∀ u ∈ news, u.oneCell' = true)
    (hbytes : (n + 1) * 24 ≤ 140737488355328) (hbase : base ≤ w.heap.size)
    (h : ∀ g' cap w', w'.ownsRow base 43 3 (.slice (some ⟨g', 0, none⟩) (n + 1) cap) (n + 1) (xs ++ news) → w.grownBy w' v.ownBlock → (v.ownBlock = some g' ∨ g' = w.heap.size) → g' < w'.heap.size → K (a.put o.dst (.slice (some ⟨g', 0, none⟩) (n + 1) cap)) w') :
    if Region.wanted o (yielded ops a.tmps) = true then Oper.wp Try.prog o a w K Q else E := by
  obtain ⟨i, hi, hz0, hz1, hz2⟩ := info_parts info_level
  refine step_append_lies w hgd s x 40 ho base 43 i (.agg #[.int .i64 0, .int .i64 0, .int .u64 0]) 3 24 Try.underlying40 hi hz0 hz1 hz2 rfl (by decide) v n xs hs hown ⟨g, 0, none⟩ 1 1 news hx hnl ?_ h1 (by omega) (by unfold maxLen; omega) hbytes hbase w.heap.size rfl (fun g' cap w' h1 h2 h3 h4 => h g' cap w' h1 h2 h3 h4)
  exact World.news_of_block hc
end Go.Proofs.Ytjfkoledbegpfaa
