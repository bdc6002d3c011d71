/- Words for hypostyleref.shredInner, shredField; shredField's walk out of shredInner's. -/
import Derived.Test.YtjfkoledbegpfaaShK4
namespace Go.Proofs.Ytjfkoledbegpfaa
open Go.RowKit
open Sh (Lv zipA)
set_option linter.unusedVariables false

theorem sIn_sg (k : Sh.F) (D P rp : Nat) : Sh.SG (lv1 k) 0 (lv1 k) (Sh.body Sh.sdW k D P 0 rp) (Sh.sIn k D P rp) := by
  cases k with
  | nil => exact (Sh.sg_level 1 0 rp D (by omega)).ext (fun st => Sh.body_nil _ _ _ _ _ st) (fun _ => rfl)
  | cons r' k' s' => exact Sh.sg_al _ (.cons r' k' s') D P 0 rp (by
      have : lv1 (.cons r' k' s') = Sh.leaves (.cons r' k' s') := rfl
      omega)
theorem sIn_fits {k : Sh.F} {D P rp : Nat} {ls ls' : List Nat} {C : List (List Lv)} (h : Sh.sIn k D P rp ls = some (C, ls')) (hl : ls.length ≤ 64) : C.length = lv1 k ∧ ∀ i, (C.getD i []).length + ls'.length ≤ ls.length := by
  obtain ⟨e1, e2, -⟩ := (sIn_sg k D P rp).some (cols := List.replicate (lv1 k) []) List.length_replicate hl h
  exact ⟨e1, e2⟩
/-- a column that is set -/
theorem COut.set {w : World} {B n cp g i : Nat} {D : List (List Lv)} {y : Value} {l : List Lv} (h : COut w B (.slice (some ⟨g, 0, none⟩) n cp) n D) (hi : i < n) (hy : w.ownsRow B 43 3 y l.length (lvals l)) : COut (w.setCell ⟨g, i, none⟩ y) B (.slice (some ⟨g, 0, none⟩) n cp) n (D.set i l) ∧ w.grownBy (w.setCell ⟨g, i, none⟩ y) (some g) := by
  obtain ⟨hn, vs, h2, h3⟩ := h
  have hvl : vs.length = n := by rw [h2.1, Nat.mul_one]
  obtain ⟨q1, q2⟩ := h2.stored i y
  have keep : ∀ {u : Value} {m : Nat} {xs : List Value}, w.ownsRow B 43 3 u m xs → (w.setCell ⟨g, i, none⟩ y).ownsRow B 43 3 u m xs := fun {u m xs} h => own_block h (fun j e => q2.block j (h.lt j e).2 (fun e2 => kinds h h2 (by decide) e e2.symm))
  refine ⟨⟨by rw [List.length_set]; exact hn, _, q1, fun j hj => ?_⟩, q2⟩
  by_cases e : j = i
  · subst e
    have e1 : (vs.set j y).getD j undef = y := by unfold List.getD; rw [List.getElem?_set_self (by omega)]; rfl
    have e2 : (D.set j l).getD j [] = l := by unfold List.getD; rw [List.getElem?_set_self (by omega)]; rfl
    rw [e1, e2]; exact keep hy
  · have e1 : (vs.set i y).getD j undef = vs.getD j undef := by unfold List.getD; rw [List.getElem?_set_ne (Ne.symm e)]
    have e2 : (D.set i l).getD j [] = D.getD j [] := by unfold List.getD; rw [List.getElem?_set_ne (Ne.symm e)]
    rw [e1, e2]; exact keep (h3 j hj)
/-- columns behind columns -/
theorem wpList_append_cols {w : World} {ops : Array Oper} {rest : List Oper} {o : Oper} {a : Act} {Q : Exit → Act → World → Prop} (hgd : o.guard = none) (s x : Operand)
    (ho : o.op = .call { callee := .builtin .append, args := #[s, x], argTypes := #[27, 27] }) (base : Nat)
    (v : Value) (n : Nat) (D : List (List Lv)) (hs : a.eval s = v) (hown : COut w base v n D)
    (A2 : Option Addr) (m c2 : Nat) (D2 : List (List Lv)) (hx : a.eval x = .slice A2 m c2) (h2 : COut w base (.slice A2 m c2) m D2) (hm : 0 < m)
    (hbytes : (n + m) * 24 ≤ 140737488355328) (hbase : base ≤ w.heap.size)
    (h : ∀ A' cp w', COut w' base (.slice A' (n + m) cp) (n + m) (D ++ D2) → Below base w w' → wpList Try.prog ops Q rest (a.put o.dst (.slice A' (n + m) cp)) w') : wpList Try.prog ops Q (o :: rest) a w := by
  obtain ⟨hn, vs, r2, r3⟩ := hown
  obtain ⟨hn2, vs2, q2, q3⟩ := h2
  have hvl : vs.length = n := by rw [r2.1, Nat.mul_one]
  have hvl2 : vs2.length = m := by rw [q2.1, Nat.mul_one]
  obtain ⟨i, hi, hz0, hz1, hz2⟩ := info_parts info_lvs
  obtain ⟨g, rfl⟩ : ∃ g, A2 = some ⟨g, 0, none⟩ := by
    rcases q2.2 with ⟨-, h0⟩ | ⟨g, cap, cur, e, -⟩
    · omega
    · injection e with e1; exact ⟨g, e1⟩
  refine wpList_append_own w hgd s x 27 ho base 40 i (.slice none 0 0) 1 24 Try.underlying27 hi hz0 hz1 hz2 rfl (by decide) v n vs hs r2 ⟨g, 0, none⟩ m c2 vs2 hx (by rw [hvl2]; omega) ?_ ?_ (by unfold maxLen; omega) hbytes hbase (fun v' w' k1 k2 _ => ?_)
  · intro j u hj
    have hjl : j < vs2.length := by
      rcases Nat.lt_or_ge j vs2.length with h | h
      · exact h
      · rw [List.getElem?_eq_none h] at hj; cases hj
    have hadd : (⟨g, 0, none⟩ : Addr).add j = ⟨g, j, none⟩ := by unfold Addr.add; split <;> simp_all
    rw [hadd, q2.cellAt j (by omega)]; exact hj
  · intro u hu
    obtain ⟨j, hj, rfl⟩ := List.getElem_of_mem hu
    have := q3 j (by omega)
    rw [show vs2.getD j undef = vs2[j] by simp [List.getD, List.getElem?_eq_getElem hj]] at this
    rcases this.2 with ⟨e, -⟩ | ⟨_, _, _, e, -⟩ <;> rw [e] <;> rfl
  · have keep : ∀ {u : Value} {m : Nat} {xs : List Value}, w.ownsRow base 43 3 u m xs → w'.ownsRow base 43 3 u m xs := fun {u m xs} h => own_block h (fun i e => k2.block i (h.lt i e).2 (fun e2 => kinds h r2 (by decide) e e2.symm))
    obtain ⟨A', cp, rfl⟩ : ∃ A' cp, v' = .slice A' (n + m) cp := by
      rcases k1.2 with ⟨rfl, h0⟩ | ⟨g, cap, cur, rfl, -⟩
      · exact ⟨none, 0, by rw [h0]⟩
      · exact ⟨_, _, rfl⟩
    refine h A' cp w' ⟨by rw [List.length_append, hn, hn2], _, k1, fun j hj => ?_⟩ ((Below.refl base w).grown k2 hbase (fun k hk => (r2.lt k hk).1))
    by_cases hlt : j < n
    · have e1 : (vs ++ vs2).getD j undef = vs.getD j undef := by unfold List.getD; rw [List.getElem?_append_left (by omega)]
      have e2 : (D ++ D2).getD j [] = D.getD j [] := by unfold List.getD; rw [List.getElem?_append_left (by omega)]
      rw [e1, e2]; exact keep (r3 j hlt)
    · have e1 : (vs ++ vs2).getD j undef = vs2.getD (j - n) undef := by unfold List.getD; rw [List.getElem?_append_right (by omega), hvl]
      have e2 : (D ++ D2).getD j [] = D2.getD (j - n) [] := by unfold List.getD; rw [List.getElem?_append_right (by omega), hn]
      rw [e1, e2]; exact keep (q3 (j - n) (by omega))

/-- what the reference answers of a field: columns, what is left, whether it is so -/
def SPost (w : World) (B L : Nat) (R : Sh.SR) (e : Ending) (w' : World) : Prop :=
  Below w.heap.size w w' ∧ match R with
  | none => e = .returned (.tuple #[.slice none 0 0, .slice none 0 0, .bool false])
  | some (D, ls') => ∃ A cp a' c', e = .returned (.tuple #[.slice A L cp, .slice a' ls'.length c', .bool true]) ∧ COut w' w.heap.size (.slice A L cp) L D ∧ Nums w' B a' ls' ∧ ls'.length ≤ c' ∧ c' ≤ maxLen ∧ ∀ n ∈ ls', n < 18446744073709551616
theorem lvs_one (r : Nat) (k : Sh.F) : lvs (Sh.flat (.cons r k .nil)) = lv1 k := by
  have := Sh.leaves_count (.cons r k .nil)
  rw [leaves_cons] at this
  unfold lvs
  rw [← this]; rfl
/-- columns of which the first j have one level -/
def nzs (L j : Nat) (x : Lv) : List (List Lv) := (List.range L).map fun t => if t < j then [x] else []
theorem nzs_set {L j : Nat} {x : Lv} (hj : j < L) : (nzs L j x).set j [x] = nzs L (j + 1) x := by
  apply List.ext_getElem
  · simp [nzs]
  · intro i h1 h2
    simp only [nzs, List.length_map, List.length_range] at h2
    by_cases e : i = j
    · subst e
      simp [nzs]
    · rw [List.getElem_set_ne (Ne.symm e)]
      simp only [nzs, List.getElem_map, List.getElem_range]
      by_cases h : i < j
      · rw [if_pos h, if_pos (by omega)]
      · rw [if_neg h, if_neg (by omega)]
theorem nzs_zero (L : Nat) (x : Lv) : nzs L 0 x = List.replicate L [] := by
  apply List.ext_getElem
  · simp [nzs]
  · intro i h1 h2
    simp [nzs]
theorem nzs_all (L : Nat) (x : Lv) : nzs L L x = List.replicate L [x] := by
  apply List.ext_getElem
  · simp [nzs]
  · intro i h1 h2
    simp only [nzs, List.length_map, List.length_range] at h1
    simp [nzs, h1]
end Go.Proofs.Ytjfkoledbegpfaa
