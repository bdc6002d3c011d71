/- Ways along a form, whatever is done at its fields; no dump is read. -/
import Derived.Test.YtjfkoledbegpfaaShNode
namespace Go.Proofs.Ytjfkoledbegpfaa.Sh
set_option linter.unusedVariables false

/-- a level: rep, def, number -/
abbrev Lv := Int × Int × Nat
def isNil : F → Bool
  | .nil => true
  | .cons _ _ _ => false
def nulls {σ : Type} (lv : σ → Nat → Nat → Nat → Bool → Option σ) : Nat → Nat → Nat → Nat → σ → Option σ
  | 0, _, _, _, st => some st
  | m + 1, c, rep, d, st => (lv st c rep d false).bind (nulls lv m (c + 1) rep d)
def times {σ : Type} (body : Nat → σ → Option σ) : Nat → Nat → Nat → σ → Option σ
  | 0, _, _, st => some st
  | n + 1, rep, rep', st => (body rep st).bind (times body n rep' rep')
/-- who goes along: how often a field is there (its rule, def, rep, first column), and what is done at a level -/
structure Wk (σ : Type) where
  often : σ → Nat → Nat → Nat → Nat → Option (Nat × σ)
  level : σ → Nat → Nat → Nat → Bool → Option σ
def al {σ : Type} (W : Wk σ) : F → Nat → Nat → Nat → Nat → σ → Option σ
  | .nil, _, _, _, _, st => some st
  | .cons r k s, d, p, c, rep, st =>
    ((if r = 0 then some (1, st) else W.often st r (dn r d) (rn r p) c).bind fun x =>
      (if x.1 = 0 then nulls W.level (lv1 k) c rep d x.2 else some x.2).bind
        (times (fun rp st => (if isNil k = true then W.level st c rp (dn r d) true else some st).bind (al W k (dn r d) (rn r p) c rp)) x.1 rep (rn r p))).bind
    (al W s d p (c + lv1 k) rep)
/-- each time that a field is there -/
def body {σ : Type} (W : Wk σ) (k : F) (D P c : Nat) (rp : Nat) (st : σ) : Option σ :=
  (if isNil k = true then W.level st c rp D true else some st).bind (al W k D P c rp)
/-- one field -/
def al1 {σ : Type} (W : Wk σ) (r : Nat) (k : F) (d p c rep : Nat) (st : σ) : Option σ :=
  (if r = 0 then some (1, st) else W.often st r (dn r d) (rn r p) c).bind fun x =>
      (if x.1 = 0 then nulls W.level (lv1 k) c rep d x.2 else some x.2).bind (times (body W k (dn r d) (rn r p) c) x.1 rep (rn r p))
theorem al_cons {σ : Type} (W : Wk σ) (r : Nat) (k s : F) (d p c rep : Nat) (st : σ) : al W (.cons r k s) d p c rep st = (al1 W r k d p c rep st).bind (al W s d p (c + lv1 k) rep) := rfl

theorem al1_req {σ : Type} (W : Wk σ) (k : F) (d p c rep : Nat) (st : σ) : al1 W 0 k d p c rep st = times (body W k d p c) 1 rep p st := rfl
theorem al1_none {σ : Type} {W : Wk σ} {r : Nat} {k : F} {d p c rep : Nat} {st : σ} (h0 : r ≠ 0) (h : W.often st r (dn r d) (rn r p) c = none) : al1 W r k d p c rep st = none := by
  unfold al1; rw [if_neg h0, h]; rfl
theorem al1_zero {σ : Type} {W : Wk σ} {r : Nat} {k : F} {d p c rep : Nat} {st st' : σ} (h0 : r ≠ 0) (h : W.often st r (dn r d) (rn r p) c = some (0, st')) : al1 W r k d p c rep st = nulls W.level (lv1 k) c rep d st' := by
  unfold al1; rw [if_neg h0, h]
  show (nulls W.level (lv1 k) c rep d st').bind some = _
  cases nulls W.level (lv1 k) c rep d st' <;> rfl
theorem al1_some {σ : Type} {W : Wk σ} {r : Nat} {k : F} {d p c rep : Nat} {st st' : σ} {n : Nat} (h0 : r ≠ 0) (hn : n ≠ 0) (h : W.often st r (dn r d) (rn r p) c = some (n, st')) : al1 W r k d p c rep st = times (body W k (dn r d) (rn r p) c) n rep (rn r p) st' := by
  unfold al1; rw [if_neg h0, h]
  show (if n = 0 then _ else _ : Option σ).bind _ = _
  rw [if_neg hn]; rfl
theorem body_nil {σ : Type} (W : Wk σ) (D P c rp : Nat) (st : σ) : body W .nil D P c rp st = W.level st c rp D true := by
  unfold body
  rw [if_pos (show isNil F.nil = true from rfl)]
  cases W.level st c rp D true <;> rfl
theorem body_cons {σ : Type} (W : Wk σ) (r : Nat) (k s : F) (D P c rp : Nat) (st : σ) : body W (.cons r k s) D P c rp st = al W (.cons r k s) D P c rp st := rfl
/-- columns of which one has a level more -/
def push (cols : List (List Lv)) (c : Nat) (l : Lv) : List (List Lv) := cols.set c (cols.getD c [] ++ [l])
theorem push_length (cols : List (List Lv)) (c : Nat) (l : Lv) : (push cols c l).length = cols.length := by simp [push]
theorem push_get (cols : List (List Lv)) (c : Nat) (l : Lv) (h : c < cols.length) (i : Nat) : (push cols c l).getD i [] = if i = c then cols.getD c [] ++ [l] else cols.getD i [] := by
  unfold push List.getD
  by_cases e : i = c
  · subst e; rw [if_pos rfl, List.getElem?_set_self h]; rfl
  · rw [if_neg e, List.getElem?_set_ne (Ne.symm e)]
def lsum (cols : List (List Lv)) : Nat := (cols.map List.length).sum
theorem lsum_push : ∀ (cols : List (List Lv)) (c : Nat) (l : Lv), c < cols.length → lsum (push cols c l) = lsum cols + 1
  | [], c, l, h => absurd h (Nat.not_lt_zero _)
  | x :: t, 0, l, _ => by simp [push, lsum]; omega
  | x :: t, c + 1, l, h => by
    have := lsum_push t c l (by simp at h; omega)
    have e : push (x :: t) (c + 1) l = x :: push t c l := by simp [push, List.getD]
    rw [e]
    simp only [lsum, List.map_cons, List.sum_cons] at this ⊢
    omega
theorem len_lsum : ∀ (cols : List (List Lv)) (i : Nat), (cols.getD i []).length ≤ lsum cols
  | [], i => by simp [List.getD, lsum]
  | x :: t, 0 => by simp [List.getD, lsum]
  | x :: t, i + 1 => by
    have := len_lsum t i
    simp only [List.getD_cons_succ, lsum, List.map_cons, List.sum_cons] at this ⊢
    omega

/-- the shredder: what is left of the record, the columns -/
abbrev Sd := List Nat × List (List Lv)
def sdLevel (st : Sd) (c rep d : Nat) (there : Bool) : Option Sd :=
  if there = true then (match st.1 with | [] => none | n :: t => some (t, push st.2 c (rep, d, n))) else some (st.1, push st.2 c (rep, d, 0))
def sdOften (st : Sd) (r _d _p _c : Nat) : Option (Nat × Sd) :=
  match st.1 with | [] => none | n :: t => if r = 1 ∧ 1 < n then none else some (n, (t, st.2))
def sdW : Wk Sd := ⟨sdOften, sdLevel⟩
end Go.Proofs.Ytjfkoledbegpfaa.Sh
