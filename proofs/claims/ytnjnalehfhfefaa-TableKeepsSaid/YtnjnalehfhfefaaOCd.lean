/- Rows of conditions of one's own. -/
import Derived.Test.YtnjnalehfhfefaaK3
import Derived.Laws.AppendOwnNone
import Derived.Deep.AppendLies
import Derived.Deep.DeepAppendRoom
namespace Go.Proofs.Ytnjnalehfhfefaa
open Go.RowKit
set_option linter.unusedVariables false

/-- the five values of a condition -/
def dv (c : O.Cd) : List Value := [.int .i64 c.op, .int .i64 c.col, .int .i64 c.c.kind, .int .u64 (c.c.num : Int), .string (str c.c.txt)]
def CdRow (B : Nat) (xs : List O.Cd) (v : Value) (w : World) : Prop := w.ownsRow B 59 5 v xs.length (xs.flatMap dv)
theorem info_cond : (Try.prog.info? 59).map (fun i => (i.zero, i.size, i.bytes)) = some (some (.agg #[.int .i64 0, .int .i64 0, .int .i64 0, .int .u64 0, .string ByteArray.empty]), 5, 48) := by kernel_rfl
theorem CdRow.below_ {B : Nat} {xs : List O.Cd} {v : Value} {w w' : World} (h : CdRow B xs v w) (hb : Below w.heap.size w w') : CdRow B xs v w' := row_below h hb
theorem CdRow.empty (w : World) : CdRow w.heap.size [] (.slice (some ⟨w.heap.size, 0, none⟩) 0 0) (w.alloc (.cells #[] 59)) :=
  ⟨by simp, Or.inr ⟨w.heap.size, 0, #[], rfl, Nat.le_refl _, heap_alloc_new w _, Nat.le_refl _, by unfold maxLen; omega, rfl, rfl⟩⟩
theorem CdRow.cds {B : Nat} {xs : List O.Cd} {v : Value} {w : World} (h : CdRow B xs v w) : ∃ a c, v = .slice a xs.length c ∧ (a = none → c = 0) ∧ Cds w w.heap.size a xs := by
  unfold CdRow at h
  rcases h.2 with ⟨rfl, h0⟩ | ⟨g, cap, cur, rfl, e2, e3, e4⟩
  · refine ⟨none, 0, by rw [h0], fun _ => rfl, ?_⟩
    rw [List.eq_nil_of_length_eq_zero h0]; exact Sl.nil _ _ _
  · refine ⟨some ⟨g, 0, none⟩, cap, rfl, fun h => (by cases h), fun _ => ⟨g, 0, rfl, lt_of_block e3, fun i hi => ?_⟩⟩
    have hc : ∀ j, j < 5 → w.cell? ⟨g, 0 + i * 5 + j, none⟩ = (dv (xs.getD i O.nullC))[j]? := fun j hj => by
      rw [Nat.zero_add, h.cellAt _ (by omega), fm_get (n := 5) (fun _ => rfl) xs O.nullC i j hi hj]
    exact ⟨hc 0 (by omega), hc 1 (by omega), hc 2 (by omega), hc 3 (by omega), hc 4 (by omega)⟩
theorem CdRow.empty' (B : Nat) (w : World) (hB : B ≤ w.heap.size) : CdRow B [] (.slice (some ⟨w.heap.size, 0, none⟩) 0 0) (w.alloc (.cells #[] 59)) :=
  ⟨by simp, Or.inr ⟨w.heap.size, 0, #[], rfl, hB, heap_alloc_new w _, Nat.le_refl _, by unfold maxLen; omega, rfl, rfl⟩⟩
theorem cds_news {w : World} {B b off : Nat} {l : List O.Cd} (hc : ∀ i, i < l.length → at5 w b (off + i * 5) (l.getD i O.nullC)) : ∀ j u, (l.flatMap dv)[j]? = some u → w.cell? ((⟨b, off, none⟩ : Addr).add j) = some u := by
  have hfl : (l.flatMap dv).length = l.length * 5 := fm_len (f := dv) (n := 5) (fun _ => rfl) l
  intro j u hj
  have hjl : j < l.length * 5 := by
    rcases Nat.lt_or_ge j (l.length * 5) with h | h
    · exact h
    · rw [List.getElem?_eq_none (by rw [hfl]; exact h)] at hj; simp at hj
  have hadd : (⟨b, off, none⟩ : Addr).add j = ⟨b, off + j, none⟩ := by unfold Addr.add; split <;> simp_all
  have hd : j = j / 5 * 5 + j % 5 := by omega
  have hi5 : j / 5 < l.length := by omega
  obtain ⟨c0, c1, c2, c3, c4⟩ := hc (j / 5) hi5
  have hg := fm_get (n := 5) (fun _ => rfl) l O.nullC (j / 5) (j % 5) hi5 (by omega) (f := dv)
  rw [← hd] at hg
  rw [hadd, ← hj, hg, show off + j = off + j / 5 * 5 + j % 5 by omega]
  have h5 : j % 5 = 0 ∨ j % 5 = 1 ∨ j % 5 = 2 ∨ j % 5 = 3 ∨ j % 5 = 4 := by omega
  rcases h5 with h5 | h5 | h5 | h5 | h5 <;> rw [h5] <;> assumption
/-- append of conditions, nil too, onto a row of the call's own that is not nil -/
theorem wp_append_cds {w : World} {o : Oper} {a : Act} {K : Act → World → Prop} {Q : Exit → Act → World → Prop} (s x : Operand)
    (ho : o.op = .call { callee := .builtin .append, args := #[s, x], argTypes := #[48, 48] }) (base : Nat)
    (g0 cap0 : Nat) (xs : List O.Cd) (hs : a.eval s = .slice (some ⟨g0, 0, none⟩) xs.length cap0) (hown : CdRow base xs (.slice (some ⟨g0, 0, none⟩) xs.length cap0) w)
    (A : Option Addr) (m c : Nat) (l : List O.Cd) (hm : l.length = m) (hx : a.eval x = .slice A m c) (hnil : A = none → c = 0) (hu : Cds w w.heap.size A l)
    (hbytes : (xs.length + m) * 48 ≤ 140737488355328) (hbase : base ≤ w.heap.size)
    (h : ∀ g' cap' w', CdRow base (xs ++ l) (.slice (some ⟨g', 0, none⟩) (xs.length + m) cap') w' → Below base w w' → (∀ k, k < w.heap.size → k ≠ g0 → w'.heap[k]? = w.heap[k]?) → w.heap.size ≤ w'.heap.size → (g' = g0 ∨ g' = w.heap.size) → K (a.put o.dst (.slice (some ⟨g', 0, none⟩) (xs.length + m) cap')) w') : o.wp Try.prog a w K Q := by
  obtain ⟨i, hi, hz0, hz1, hz2⟩ := info_parts info_cond
  have hfl : (l.flatMap dv).length = l.length * 5 := fm_len (f := dv) (n := 5) (fun _ => rfl) l
  match A, hnil, hu, hx with
  | none, hnil, hu, hx =>
    have hl : l = [] := by
      by_cases hl : l = []
      · exact hl
      · obtain ⟨b, off, e, _⟩ := hu hl; cases e
    subst hl
    obtain rfl : m = 0 := hm.symm
    obtain rfl : c = 0 := hnil rfl
    have hrun := run_append_owned_none (P := Try.prog) (w := w) base 48 o.type 59 i 5 Try.underlying48 hi (.slice (some ⟨g0, 0, none⟩) xs.length cap0) xs.length (xs.flatMap dv) hown
    unfold Oper.wp
    simp [execOp, ho, resolve, invoke, builtin, hs, hx, hrun, Result.andThen]
    exact h g0 cap0 w (by simpa using hown) (Below.refl _ _) (fun _ _ _ => rfl) (Nat.le_refl _) (Or.inl rfl)
  | some ad, hnil, hu, hx =>
    have h1c : ∀ u ∈ l.flatMap dv, u.oneCell' = true := by
      intro u hu
      obtain ⟨x, _, hx⟩ := List.mem_flatMap.1 hu
      simp [dv] at hx
      rcases hx with rfl | rfl | rfl | rfl | rfl <;> rfl
    by_cases h0 : l = []
    · subst h0
      obtain rfl : m = 0 := hm.symm
      have hcap : xs.length + 0 ≤ cap0 := by
        rcases hown.2 with ⟨e, _⟩ | ⟨g, cap, cur, e, e2, e3, e4, _⟩
        · cases e
        · injection e with _ _ e5
          rw [e5]; exact e4
      refine wp_append_own_spare w s x 48 ho base 59 i 5 Try.underlying48 hi hz1 g0 xs.length cap0 (xs.flatMap dv) hs hown ad 0 c [] hx rfl (fun j u hj => by simp at hj) (fun u hu => by simp at hu) hcap (fun w' h2 h3 => ?_)
      refine h g0 cap0 w' (by simpa [CdRow] using h2) ((Below.refl base w).grown h3 hbase (fun k hk => (hown.lt k hk).1)) (fun k hk hne => h3.block k hk (fun e => hne (Option.some.inj e))) h3.size (Or.inl rfl)
    · obtain ⟨b, off, e, _, hc⟩ := hu h0
      obtain rfl := Option.some.inj e
      have hpos : 0 < m := by rw [← hm]; exact Nat.pos_of_ne_zero (fun e => h0 (List.eq_nil_of_length_eq_zero e))
      refine wp_append_lies w s x 48 ho base 59 i (.agg #[.int .i64 0, .int .i64 0, .int .i64 0, .int .u64 0, .string ByteArray.empty]) 5 48 Try.underlying48 hi hz0 hz1 hz2 rfl (by decide) _ xs.length (xs.flatMap dv) hs hown ⟨b, off, none⟩ m c (l.flatMap dv) hx (by rw [hfl, hm]) (cds_news (B := 0) hc) h1c hpos (by unfold maxLen; omega) hbytes hbase w.heap.size rfl (fun g cap w' h2 h3 h4 h5 => ?_)
      refine h g cap w' ?_ ((Below.refl base w).grown h3 hbase (fun k hk => (hown.lt k hk).1)) (fun k hk hne => h3.block k hk (fun e => hne (by simpa [Value.ownBlock] using e))) h3.size ?_
      · unfold CdRow; rw [List.flatMap_append, List.length_append, hm]; exact h2
      · rcases h4 with h4 | h4
        · left; simpa [Value.ownBlock, eq_comm] using h4
        · exact Or.inr h4
end Go.Proofs.Ytnjnalehfhfefaa
