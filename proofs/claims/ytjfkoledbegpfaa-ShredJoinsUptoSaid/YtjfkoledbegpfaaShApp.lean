/- Append of levels that came in, at an operation of whatever region; records cut. -/
import Derived.Deep.AppendLies
import Derived.Test.YtjfkoledbegpfaaShB
namespace Go.Proofs.Ytjfkoledbegpfaa
open Go.RowKit
open Sh (Lv)
set_option linter.unusedVariables false

theorem lvals_append (a b : List Lv) : lvals (a ++ b) = lvals a ++ lvals b := by simp [lvals]
theorem wp_append_lv {w : World} {o : Oper} {a : Act} {K : Act → World → Prop} {Q : Exit → Act → World → Prop} (s x : Operand)
    (ho : o.op = .call { callee := .builtin .append, args := #[s, x], argTypes := #[40, 40] }) (base : Nat)
    (v : Value) (n N : Nat) (xs : List Lv) (hs : a.eval s = v) (hown : w.ownsRow base 43 3 v n (lvals xs))
    (A : Option Addr) (m c : Nat) (l : List Lv) (hm : l.length = m) (hN : N = n + m) (hx : a.eval x = .slice A m c) (hnil : A = none → c = 0) (hu : Lvs w w.heap.size A l)
    (hbytes : N * 24 ≤ 140737488355328) (hbase : base ≤ w.heap.size)
    (h : ∀ A' cp w', w'.ownsRow base 43 3 (.slice A' N cp) N (lvals (xs ++ l)) → Below base w w' → K (a.put o.dst (.slice A' N cp)) w') : o.wp Try.prog a w K Q := by
  subst hN
  have sl : ∀ {w' : World} {v' : Value} {xs' : List Value}, w'.ownsRow base 43 3 v' (n + m) xs' → ∃ A' cp, v' = .slice A' (n + m) cp := fun h => by
    rcases h.2 with ⟨rfl, h0⟩ | ⟨g, cap, cur, rfl, -⟩
    · exact ⟨none, 0, by rw [h0]⟩
    · exact ⟨_, _, rfl⟩
  obtain ⟨i, hi, hz0, hz1, hz2⟩ := info_parts info_level
  match A, hnil, hu, hx with
  | none, hnil, hu, hx =>
    have hl : l = [] := by
      by_cases hl : l = []
      · exact hl
      · obtain ⟨b, off, e, _⟩ := hu hl; cases e
    subst hl
    obtain rfl : m = 0 := hm.symm
    obtain rfl : c = 0 := hnil rfl
    have hrun := run_append_owned_none (P := Try.prog) (w := w) base 40 o.type 43 i 3 Try.underlying40 hi v n (lvals xs) hown
    obtain ⟨A', cp, hv⟩ := sl hown
    unfold Oper.wp
    simp [execOp, ho, resolve, invoke, builtin, hs, hx, hrun, Result.andThen]
    rw [hv] at hown ⊢
    exact h A' cp w (by simpa using hown) (Below.refl _ _)
  | some ad, hnil, hu, hx =>
    refine wp_append_own w s x 40 ho base 43 i (.agg #[.int .i64 0, .int .i64 0, .int .u64 0]) 3 24 Try.underlying40 hi hz0 hz1 hz2 rfl (by decide) v n (lvals xs) hs hown ad m c (lvals l) hx (by rw [lvals_length, hm]) ?_ ?_ (by unfold maxLen; omega) hbytes hbase (fun v' w' h1 h2 _ => ?_)
    · intro j u hj
      have hjl : j < l.length * 3 := by
        rcases Nat.lt_or_ge j (l.length * 3) with h | h
        · exact h
        · rw [List.getElem?_eq_none (by rw [lvals_length]; exact h)] at hj; simp at hj
      obtain ⟨b, off, e, _, hc⟩ := hu (by intro e; rw [e] at hjl; simp at hjl)
      have e := Option.some.inj e
      subst e
      have hadd : (⟨b, off, none⟩ : Addr).add j = ⟨b, off + j, none⟩ := by unfold Addr.add; split <;> simp_all
      have hk : j / 3 < l.length := by omega
      obtain ⟨c0, c1, c2⟩ := hc (j / 3) hk
      have g0 := lvals_at l (j / 3) 0 hk (by omega)
      have g1 := lvals_at l (j / 3) 1 hk (by omega)
      have g2 := lvals_at l (j / 3) 2 hk (by omega)
      rw [hadd]
      have h3 : j % 3 = 0 ∨ j % 3 = 1 ∨ j % 3 = 2 := by omega
      rcases h3 with h | h | h
      · rw [show off + j / 3 * 3 = off + j by omega] at c0
        rw [show j / 3 * 3 + 0 = j by omega] at g0
        rw [c0, ← hj, g0]; rfl
      · rw [show off + j / 3 * 3 + 1 = off + j by omega] at c1
        rw [show j / 3 * 3 + 1 = j by omega] at g1
        rw [c1, ← hj, g1]; rfl
      · rw [show off + j / 3 * 3 + 2 = off + j by omega] at c2
        rw [show j / 3 * 3 + 2 = j by omega] at g2
        rw [c2, ← hj, g2]; rfl
    · intro u hu
      simp only [lvals, List.mem_flatMap] at hu
      obtain ⟨x, _, hx⟩ := hu
      exact lvv_one x u hx
    · obtain ⟨A', cp, rfl⟩ := sl h1
      exact h A' cp w' (by rw [lvals_append]; exact h1) ((Below.refl base w).grown h2 hbase (fun k hk => (hown.lt k hk).1))
theorem step_append_lv {w : World} {ops : Array Oper} {o : Oper} {a : Act} {K : Act → World → Prop} {Q : Exit → Act → World → Prop} {E : Prop} (hw : Region.wanted o (yielded ops a.tmps) = true) (s x : Operand)
    (ho : o.op = .call { callee := .builtin .append, args := #[s, x], argTypes := #[40, 40] }) (base : Nat)
    (v : Value) (n N : Nat) (xs : List Lv) (hs : a.eval s = v) (hown : w.ownsRow base 43 3 v n (lvals xs))
    (A : Option Addr) (m c : Nat) (l : List Lv) (hm : l.length = m) (hN : N = n + m) (hx : a.eval x = .slice A m c) (hnil : A = none → c = 0) (hu : Lvs w w.heap.size A l)
    (hbytes : N * 24 ≤ 140737488355328) (hbase : base ≤ w.heap.size)
    (h : ∀ A' cp w', w'.ownsRow base 43 3 (.slice A' N cp) N (lvals (xs ++ l)) → Below base w w' → K (a.put o.dst (.slice A' N cp)) w') :
    if Region.wanted o (yielded ops a.tmps) = true then Oper.wp Try.prog o a w K Q else E := by
  rw [if_pos hw]
  exact wp_append_lv s x ho base v n N xs hs hown A m c l hm hN hx hnil hu hbytes hbase h
theorem lempty {W : World} {base G : Nat} (h : W.heap[G]? = some (.cells #[] 43 (0, 0))) (hB : base ≤ G) : W.ownsRow base 43 3 (.slice (some ⟨G, 0, none⟩) 0 0) 0 (lvals []) :=
  ⟨rfl, Or.inr ⟨G, 0, #[], rfl, hB, h, Nat.le_refl _, by unfold maxLen; omega, rfl, rfl⟩⟩
theorem NRows.take {w : World} {B : Nat} {a : Option Addr} {l : List (List Nat)} (h : NRows w B a l) (k : Nat) : NRows w B a (l.take k) := by
  intro hl
  obtain ⟨b, off, e, hb, hc⟩ := h (by intro e; subst e; simp at hl)
  refine ⟨b, off, e, hb, fun i hi => ?_⟩
  rw [List.length_take] at hi
  have hg : (l.take k).getD i [] = l.getD i [] := by simp [List.getD, List.getElem?_take_of_lt (show i < k by omega)]
  rw [hg]
  exact hc i (by omega)
theorem NRows.drop {w : World} {B b off : Nat} {l : List (List Nat)} (h : NRows w B (some ⟨b, off, none⟩) l) (k : Nat) : NRows w B (some ⟨b, off + k, none⟩) (l.drop k) := by
  intro hl
  have hk : k < l.length := by
    rcases Nat.lt_or_ge k l.length with h | h
    · exact h
    · exact absurd (List.drop_eq_nil_of_le h) hl
  obtain ⟨b', off', e, hb, hc⟩ := h (by intro e; subst e; simp at hk)
  injection e with e
  injection e with e1 e2
  subst e1 e2
  refine ⟨b, off + k, rfl, hb, fun i hi => ?_⟩
  rw [List.length_drop] at hi
  have hg : (l.drop k).getD i [] = l.getD (k + i) [] := by simp [List.getD, List.getElem?_drop]
  rw [hg, Nat.add_assoc]
  exact hc (k + i) (by omega)
theorem NRows.cutK {w : World} {B b off c k : Nat} {t : Option Nat} {l : List (List Nat)} (h : NRows w B (some ⟨b, off, t⟩) l) (hl : l.length ≤ c) : NRows w B (if c = k then some ⟨b, off, t⟩ else some (Addr.add ⟨b, off, t⟩ k)) (l.drop k) := by
  by_cases hk : c = k
  · rw [List.drop_eq_nil_of_le (by omega)]; exact NRows.nil _ _ _
  · by_cases hn : l = []
    · rw [hn, List.drop_nil]; exact NRows.nil _ _ _
    · obtain ⟨b', off', e, -⟩ := h hn
      injection e with e
      injection e with e1 e2 e3
      subst e3
      rw [if_neg hk, show Addr.add ⟨b, off, none⟩ k = ⟨b, off + k, none⟩ by simp [Addr.add]]; exact h.drop k
end Go.Proofs.Ytjfkoledbegpfaa
