/- Rows of conditions of one's own. -/
import Derived.Test.YtecfknolpnjokaaOX1
import Derived.Test.YtecfknolpnjokaaOPlain6
import Derived.Laws.AppendOwnNone
namespace Go.Proofs.Ytecfknolpnjokaa
open Go.RowKit
set_option linter.unusedVariables false

/-- the five values of a condition -/
def dv (c : O.Cd) : List Value := [.int .i64 c.op, .int .i64 c.col, .int .i64 c.c.kind, .int .u64 (c.c.num : Int), .string (str c.c.txt)]
def CdRow (B : Nat) (xs : List O.Cd) (v : Value) (w : World) : Prop := w.ownsRow B 51 5 v xs.length (xs.flatMap dv)
theorem info_cond : (Try.prog.info? 51).map (fun i => (i.zero, i.size, i.bytes)) = some (some (.agg #[.int .i64 0, .int .i64 0, .int .i64 0, .int .u64 0, .string ByteArray.empty]), 5, 48) := by kernel_rfl
theorem CdRow.below_ {B : Nat} {xs : List O.Cd} {v : Value} {w w' : World} (h : CdRow B xs v w) (hb : Below w.heap.size w w') : CdRow B xs v w' := row_below h hb
theorem CdRow.empty (w : World) : CdRow w.heap.size [] (.slice (some ⟨w.heap.size, 0, none⟩) 0 0) (w.alloc (.cells #[] 51)) :=
  ⟨by simp, Or.inr ⟨w.heap.size, 0, #[], rfl, Nat.le_refl _, heap_alloc_new w _, Nat.le_refl _, by unfold maxLen; omega, rfl, rfl⟩⟩
theorem CdRow.cds {B : Nat} {xs : List O.Cd} {v : Value} {w : World} (h : CdRow B xs v w) : ∃ a c, v = .slice a xs.length c ∧ (a = none → c = 0) ∧ Cds w w.heap.size a xs := by
  unfold CdRow at h
  rcases h.2 with ⟨rfl, h0⟩ | ⟨g, cap, cur, rfl, e2, e3, e4⟩
  · refine ⟨none, 0, by rw [h0], fun _ => rfl, ?_⟩
    rw [List.eq_nil_of_length_eq_zero h0]; exact Sl.nil _ _ _
  · refine ⟨some ⟨g, 0, none⟩, cap, rfl, fun h => (by cases h), fun _ => ⟨g, 0, rfl, lt_of_block e3, fun i hi => ?_⟩⟩
    have hc : ∀ j, j < 5 → w.cell? ⟨g, 0 + i * 5 + j, none⟩ = (dv (xs.getD i O.nullC))[j]? := fun j hj => by
      rw [Nat.zero_add, h.cellAt _ (by omega), fm_get (n := 5) (fun _ => rfl) xs O.nullC i j hi hj]
    exact ⟨hc 0 (by omega), hc 1 (by omega), hc 2 (by omega), hc 3 (by omega), hc 4 (by omega)⟩
/-- append of conditions, nil too, onto a row of the call's own -/
theorem wpList_append_cds {w : World} {ops : Array Oper} {rest : List Oper} {o : Oper} {a : Act} {Q : Exit → Act → World → Prop} (hgd : o.guard = none) (s x : Operand)
    (ho : o.op = .call { callee := .builtin .append, args := #[s, x], argTypes := #[22, 22] }) (base : Nat)
    (v : Value) (xs : List O.Cd) (hs : a.eval s = v) (hown : CdRow base xs v w)
    (A : Option Addr) (m c : Nat) (l : List O.Cd) (hm : l.length = m) (hx : a.eval x = .slice A m c) (hnil : A = none → c = 0) (hu : Cds w w.heap.size A l)
    (hbytes : (xs.length + m) * 48 ≤ 140737488355328) (hbase : base ≤ w.heap.size)
    (h : ∀ v' w', CdRow base (xs ++ l) v' w' → Below base w w' → w.grownBy w' v.ownBlock → wpList Try.prog ops Q rest (a.put o.dst v') w') : wpList Try.prog ops Q (o :: rest) a w := by
  obtain ⟨i, hi, hz0, hz1, hz2⟩ := info_parts info_cond
  have hfl : (l.flatMap dv).length = l.length * 5 := fm_len (f := dv) (n := 5) (fun _ => rfl) l
  match A, hnil, hu, hx with
  | none, hnil, hu, hx =>
    have hl : l = [] := by
      by_cases hl : l = []
      · exact hl
      · obtain ⟨b, off, e, _⟩ := hu hl; cases e
    subst hl
    obtain rfl : m = 0 := hm.symm
    obtain rfl : c = 0 := hnil rfl
    exact wpList_append_own_none hgd s x 22 ho base 51 i 5 Try.underlying22 hi v xs.length (xs.flatMap dv) hs hown hx (h v w (by simpa using hown) (Below.refl _ _) (World.grownBy.refl w _))
  | some ad, hnil, hu, hx =>
    refine wpList_append_own w hgd s x 22 ho base 51 i (.agg #[.int .i64 0, .int .i64 0, .int .i64 0, .int .u64 0, .string ByteArray.empty]) 5 48 Try.underlying22 hi hz0 hz1 hz2 rfl (by decide) v xs.length (xs.flatMap dv) hs hown ad m c (l.flatMap dv) hx (by rw [hfl, hm]) ?_ ?_ (by unfold maxLen; omega) hbytes hbase (fun v' w' h1 h2 _ => h v' w' ?_ ?_ h2)
    · intro j u hj
      have hjl : j < l.length * 5 := by
        rcases Nat.lt_or_ge j (l.length * 5) with h | h
        · exact h
        · rw [List.getElem?_eq_none (by rw [hfl]; exact h)] at hj; simp at hj
      obtain ⟨b, off, e, _, hc⟩ := hu (by intro e; rw [e] at hjl; simp at hjl)
      have e := Option.some.inj e
      subst e
      have hadd : (⟨b, off, none⟩ : Addr).add j = ⟨b, off + j, none⟩ := by unfold Addr.add; split <;> simp_all
      have hd : j = j / 5 * 5 + j % 5 := by omega
      have hi5 : j / 5 < l.length := by omega
      obtain ⟨c0, c1, c2, c3, c4⟩ := hc (j / 5) hi5
      have hg := fm_get (n := 5) (fun _ => rfl) l O.nullC (j / 5) (j % 5) hi5 (by omega) (f := dv)
      rw [← hd] at hg
      rw [hadd, ← hj, hg, show off + j = off + j / 5 * 5 + j % 5 by omega]
      have h5 : j % 5 = 0 ∨ j % 5 = 1 ∨ j % 5 = 2 ∨ j % 5 = 3 ∨ j % 5 = 4 := by omega
      rcases h5 with h5 | h5 | h5 | h5 | h5 <;> rw [h5] <;> assumption
    · intro u hu
      obtain ⟨x, _, hx⟩ := List.mem_flatMap.1 hu
      simp [dv] at hx
      rcases hx with rfl | rfl | rfl | rfl | rfl <;> rfl
    · unfold CdRow; rw [List.flatMap_append, List.length_append, hm]; exact h1
    · exact (Below.refl base w).grown h2 hbase (fun k hk => (hown.lt k hk).1)
theorem cds_one (w : World) (op : Int) : Cds (w.alloc (.cells #[.int .i64 op, .int .i64 0, .int .i64 0, .int .u64 0, .string ⟨#[]⟩] 51)) (w.alloc (.cells #[.int .i64 op, .int .i64 0, .int .i64 0, .int .u64 0, .string ⟨#[]⟩] 51)).heap.size (some ⟨w.heap.size, 0, none⟩) [O.cop op] := by
  intro _
  refine ⟨w.heap.size, 0, rfl, by simp, fun i hi => ?_⟩
  obtain rfl : i = 0 := by simpa using hi
  unfold at5
  rw [ocell_new, ocell_new, ocell_new, ocell_new, ocell_new]
  exact ⟨rfl, rfl, rfl, rfl, rfl⟩
theorem cds_two (w : World) (o1 o2 : Int) : Cds (w.alloc (.cells #[.int .i64 o1, .int .i64 0, .int .i64 0, .int .u64 0, .string ⟨#[]⟩, .int .i64 o2, .int .i64 0, .int .i64 0, .int .u64 0, .string ⟨#[]⟩] 51)) (w.alloc (.cells #[.int .i64 o1, .int .i64 0, .int .i64 0, .int .u64 0, .string ⟨#[]⟩, .int .i64 o2, .int .i64 0, .int .i64 0, .int .u64 0, .string ⟨#[]⟩] 51)).heap.size (some ⟨w.heap.size, 0, none⟩) [O.cop o1, O.cop o2] := by
  intro _
  refine ⟨w.heap.size, 0, rfl, by simp, fun i hi => ?_⟩
  have : i = 0 ∨ i = 1 := by have : i < 2 := hi; omega
  unfold at5
  rw [ocell_new, ocell_new, ocell_new, ocell_new, ocell_new]
  rcases this with rfl | rfl <;> exact ⟨rfl, rfl, rfl, rfl, rfl⟩
end Go.Proofs.Ytecfknolpnjokaa
