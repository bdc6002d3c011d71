/- Append of cells that came in, nil too, at an operation of whatever region. -/
import Derived.Test.YtbhggbohkddlaaaCBase
import Derived.Deep.AppendLies
namespace Go.Proofs.Ytbhggbohkddlaaa
open Go.RowKit
set_option linter.unusedVariables false

theorem wp_append_cells {w : World} {o : Oper} {a : Act} {K : Act → World → Prop} {Q : Exit → Act → World → Prop} (s x : Operand)
    (ho : o.op = .call { callee := .builtin .append, args := #[s, x], argTypes := #[24, 24] }) (base : Nat)
    (v : Value) (xs : List C.Cl) (hs : a.eval s = v) (hown : CRow base xs v w)
    (A : Option Addr) (m c : Nat) (l : List C.Cl) (hm : l.length = m) (hx : a.eval x = .slice A m c) (hnil : A = none → c = 0) (hu : Cls w w.heap.size A l)
    (hbytes : (xs.length + m) * 32 ≤ 140737488355328) (hbase : base ≤ w.heap.size)
    (h : ∀ v' w', CRow base (xs ++ l) v' w' → Below base w w' → (∀ k, k < w.heap.size → some k ≠ v.ownBlock → w'.heap[k]? = w.heap[k]?) → w.heap.size ≤ w'.heap.size → K (a.put o.dst v') w') : o.wp Try.prog a w K Q := by
  obtain ⟨i, hi, hz0, hz1, hz2⟩ := info_parts info_cell
  match A, hnil, hu, hx with
  | none, hnil, hu, hx =>
    have hl : l = [] := by
      by_cases hl : l = []
      · exact hl
      · obtain ⟨b, off, e, _⟩ := hu hl; cases e
    subst hl
    obtain rfl : m = 0 := hm.symm
    obtain rfl : c = 0 := hnil rfl
    have hrun := run_append_owned_none (P := Try.prog) (w := w) base 24 o.type 26 i 3 Try.underlying24 hi v xs.length (cv xs) hown
    unfold Oper.wp
    simp [execOp, ho, resolve, invoke, builtin, hs, hx, hrun, Result.andThen]
    exact h v w (by simpa using hown) (Below.refl _ _) (fun _ _ _ => rfl) (Nat.le_refl _)
  | some ad, hnil, hu, hx =>
    refine wp_append_own w s x 24 ho base 26 i (.agg #[.int .i64 0, .int .u64 0, .string ByteArray.empty]) 3 32 Try.underlying24 hi hz0 hz1 hz2 rfl (by decide) v xs.length (cv xs) hs hown ad m c (cv l) hx (by rw [cv_length, hm]) ?_ ?_ (by unfold maxLen; omega) hbytes hbase (fun v' w' h1 h2 _ => h v' w' ?_ ?_ (fun k hk hne => h2.block k hk hne) h2.size)
    · intro j u hj
      have hjl : j < l.length * 3 := by
        rcases Nat.lt_or_ge j (l.length * 3) with h | h
        · exact h
        · rw [List.getElem?_eq_none (by rw [cv_length]; exact h)] at hj; simp at hj
      obtain ⟨b, off, e, _, hc⟩ := hu (by intro e; rw [e] at hjl; simp at hjl)
      injection e with e
      subst e
      have hadd : (⟨b, off, none⟩ : Addr).add j = ⟨b, off + j, none⟩ := by unfold Addr.add; split <;> simp_all
      have hk : j / 3 < l.length := by omega
      obtain ⟨c0, c1, c2⟩ := hc (j / 3) hk
      obtain ⟨g0, g1, g2⟩ := cv_get l (j / 3) hk
      rw [hadd]
      have h3 : j % 3 = 0 ∨ j % 3 = 1 ∨ j % 3 = 2 := by omega
      rcases h3 with h | h | h
      · rw [show off + j / 3 * 3 = off + j by omega] at c0
        rw [show j / 3 * 3 = j by omega] at g0
        rw [c0, ← hj, g0]
      · rw [show off + j / 3 * 3 + 1 = off + j by omega] at c1
        rw [show j / 3 * 3 + 1 = j by omega] at g1
        rw [c1, ← hj, g1]
      · rw [show off + j / 3 * 3 + 2 = off + j by omega] at c2
        rw [show j / 3 * 3 + 2 = j by omega] at g2
        rw [c2, ← hj, g2]
    · intro u hu
      simp only [cv, List.mem_flatMap] at hu
      obtain ⟨x, _, hx⟩ := hu
      simp [cx] at hx
      rcases hx with rfl | rfl | rfl <;> rfl
    · unfold CRow; rw [cv_append, List.length_append, hm]; exact h1
    · exact (Below.refl base w).grown h2 hbase (fun k hk => (hown.lt k hk).1)

theorem step_append_cells {w : World} {ops : Array Oper} {o : Oper} {a : Act} {K : Act → World → Prop} {Q : Exit → Act → World → Prop} {E : Prop} (hw : Region.wanted o (yielded ops a.tmps) = true) (s x : Operand)
    (ho : o.op = .call { callee := .builtin .append, args := #[s, x], argTypes := #[24, 24] }) (base : Nat)
    (v : Value) (xs : List C.Cl) (hs : a.eval s = v) (hown : CRow base xs v w)
    (A : Option Addr) (m c : Nat) (l : List C.Cl) (hm : l.length = m) (hx : a.eval x = .slice A m c) (hnil : A = none → c = 0) (hu : Cls w w.heap.size A l)
    (hbytes : (xs.length + m) * 32 ≤ 140737488355328) (hbase : base ≤ w.heap.size)
    (h : ∀ v' w', CRow base (xs ++ l) v' w' → Below base w w' → (∀ k, k < w.heap.size → some k ≠ v.ownBlock → w'.heap[k]? = w.heap[k]?) → w.heap.size ≤ w'.heap.size → K (a.put o.dst v') w') :
    if Region.wanted o (yielded ops a.tmps) = true then Oper.wp Try.prog o a w K Q else E := by
  rw [if_pos hw]
  exact wp_append_cells s x ho base v xs hs hown A m c l hm hx hnil hu hbytes hbase h
theorem cempty (B : Nat) (w : World) (hB : B ≤ w.heap.size) : CRow B [] (.slice (some ⟨w.heap.size, 0, none⟩) 0 0) (w.alloc (.cells #[] 26)) :=
  ⟨by simp [cv], Or.inr ⟨w.heap.size, 0, #[], rfl, hB, heap_alloc_new w _, Nat.le_refl _, by unfold maxLen; omega, rfl, rfl⟩⟩
theorem Cls.far {w w' : World} {g : Nat} {l : List C.Cl} {row : Option Nat} (h : Cls w w.heap.size (some ⟨g, 0, none⟩) l) (hf : ∀ k, k < w.heap.size → some k ≠ row → w'.heap[k]? = w.heap[k]?) (hne : some g ≠ row) (hs : w.heap.size ≤ w'.heap.size) : Cls w' w'.heap.size (some ⟨g, 0, none⟩) l := by
  intro hl
  obtain ⟨b, off, e, hb, hc⟩ := h hl
  injection e with e
  injection e with e1 e2
  subst e1 e2
  refine ⟨g, 0, rfl, by omega, fun i hi => ?_⟩
  have hk := hf g hb hne
  have hcell : ∀ o, w'.cell? ⟨g, o, none⟩ = w.cell? ⟨g, o, none⟩ := fun o => World.cell?_of_block hk
  rw [hcell, hcell, hcell]; exact hc i hi
end Go.Proofs.Ytbhggbohkddlaaa
