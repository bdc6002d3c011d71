/- Rows of cells that came in; rows of one's own of what is known, of filters. -/
import Derived.Test.YtecfknolpnjokaaOLift
import Derived.Test.YtecfknolpnjokaaQ3
import Derived.Deep.AppendLies
namespace Go.Proofs.Ytecfknolpnjokaa
open Go.ChangeShapes Go.WideShapes Go.ChangeAt Go.RowKit
set_option linter.unusedVariables false

/-- a slice of slices of cells that came in -/
def Rws (w : World) (B : Nat) (a : Option Addr) (l : List (List C.Cl)) : Prop :=
  l ≠ [] → ∃ b off, a = some ⟨b, off, none⟩ ∧ b < B ∧ ∀ i, i < l.length → ∃ ai ci, w.cell? ⟨b, off + i, none⟩ = some (.slice ai (l.getD i []).length ci) ∧ (l.getD i []).length ≤ maxLen ∧ (∀ x ∈ l.getD i [], cOk x) ∧ Cls w B ai (l.getD i [])
theorem Rws.below {w w' : World} {B : Nat} {a : Option Addr} {l : List (List C.Cl)} (h : Rws w B a l) (hb : Below B w w') : Rws w' B a l := by
  intro hl
  obtain ⟨b, off, e, hlt, hc⟩ := h hl
  refine ⟨b, off, e, hlt, fun i hi => ?_⟩
  obtain ⟨ai, ci, c1, c2, c3, c4⟩ := hc i hi
  exact ⟨ai, ci, by rw [hb.cell (p := ⟨b, off + i, none⟩) hlt]; exact c1, c2, c3, c4.below hb⟩

section
variable {H : Type} {enc : TypeId × Value → H} {w : World} {base : Nat} {held : Bool} {spare : Nat → Bool}
theorem open_row1 {n : Nat} {cs : List Value} {x : DataW H × List MemPlace} (h : DataW.trod enc Try.prog w base spare held n 24 cs = some x) :
    ∃ (a : Option Addr) (c : Nat) (l : List C.Cl), cs = [.slice a l.length c] ∧ l.length ≤ maxLen ∧ (∀ x ∈ l, cOk x) ∧ Cls w w.heap.size a l := by
  rcases Go.Deep.open_slice Try.underlying24 h with ⟨hcs, hx⟩ | ⟨ad, ln, cp, m, n', Dd, Pl, hcs, hb, hl, hm, hmm, hx, hcell⟩
  · exact ⟨none, 0, [], hcs, by simp, by simp, Cls.nil _ _ _⟩
  · rw [hcs] at h
    obtain ⟨l, h1, h2, h3, h4, h5, h6⟩ := open_cells (a := some ad) (len := ln) (cap := cp) Try.underlying24 (by simpa [Value.cells] using h)
    exact ⟨some ad, cp, l, by rw [hcs, h1], by omega, h4, h5⟩
theorem open_rws {t : TypeId} {fuel : Nat} {a : Option Addr} {len cap : Nat} {x : DataW H × List MemPlace} (ht : Try.prog.underlying t = some (.slice 24))
    (h : DataW.trod enc Try.prog w base spare held fuel t (Value.slice a len cap).cells.toList = some x) :
    ∃ l : List (List C.Cl), l.length = len ∧ len ≤ maxLen ∧ (len ≤ cap ∧ cap ≤ maxLen ∧ (a = none → cap = 0)) ∧ Rws w w.heap.size a l ∧ (x.1 = .nil ∧ len = 0 ∨ ∃ (ds : List (DataW H)) (r : List (DataW H)), ds.length = len ∧ x.1 = .slice ds r) := by
  rcases Go.Deep.open_slice ht h with ⟨hcs, hx⟩ | ⟨ad, ln, cp, m, n', Dd, Pl, hcs, hb, hl, hm, hmm, hx, hcell⟩
  · simp [Value.cells] at hcs
    obtain ⟨rfl, rfl, rfl⟩ := hcs
    exact ⟨[], rfl, Nat.zero_le _, ⟨Nat.le_refl _, Nat.zero_le _, fun _ => rfl⟩, fun h => absurd rfl h, Or.inl ⟨by rw [hx], rfl⟩⟩
  · simp [Value.cells] at hcs
    obtain ⟨rfl, rfl, rfl⟩ := hcs
    have hlm : len ≤ m := by rw [hmm]; split <;> omega
    have each : ∀ i, i < m → ∃ l : List C.Cl, ∃ ai ci, w.cell? (ad.add i) = some (.slice ai l.length ci) ∧ l.length ≤ maxLen ∧ (∀ x ∈ l, cOk x) ∧ Cls w w.heap.size ai l := by
      intro i hi
      obtain ⟨cs', h1, h2⟩ := hcell i hi
      rw [show Try.prog.cellsOf 24 = 1 by kernel_rfl] at h1
      obtain ⟨_, hlen, hc⟩ := World.cells?_some h1
      obtain ⟨ai, ci, l, rfl, q1, q2, q3⟩ := open_row1 h2
      have c0 := hc 0 (by omega)
      rw [Go.Deep.add_add, Nat.mul_one, Nat.add_zero] at c0
      exact ⟨l, ai, ci, by simpa using c0, q1, q2, q3⟩
    obtain ⟨Q, hQ⟩ := Go.Deep.choose_lt (α := List C.Cl) each
    refine ⟨(List.range len).map Q, by simp, by omega, ⟨hl, hm, fun h => by cases h⟩, ?_, Or.inr ⟨(List.range len).map Dd, _, by simp, by rw [hx]⟩⟩
    · intro hne
      have hpos : 0 < len := by
        rcases Nat.eq_zero_or_pos len with h0 | h0
        · rw [h0] at hne; simp at hne
        · exact h0
      obtain ⟨b, off, spot⟩ := ad
      obtain ⟨a0, c0, hc00, _⟩ := hQ 0 (by omega)
      have hspot : spot = none := by simpa [Addr.add] using World.cell?_spot hc00
      subst hspot
      rw [Go.WideShapes.add_plain] at hc00
      refine ⟨b, off, rfl, lt_of_cell hc00, fun i hi => ?_⟩
      simp only [List.length_map, List.length_range] at hi
      have hg : ((List.range len).map Q).getD i [] = Q i := by simp [List.getD, hi]
      rw [hg]
      obtain ⟨ai, ci, q0, q1, q2, q3⟩ := hQ i (by omega)
      rw [Go.WideShapes.add_plain] at q0
      exact ⟨ai, ci, q0, q1, q2, q3⟩
end
theorem bulk_rows {H : Type} {d : DataW H} {n : Nat} (h : d = .nil ∧ n = 0 ∨ ∃ (ds : List (DataW H)) (r : List (DataW H)), ds.length = n ∧ d = .slice ds r) : n + 1 ≤ Rows.uptoBulk d := by
  rcases h with ⟨rfl, rfl⟩ | ⟨ds, r, rfl, rfl⟩
  · simp [Rows.uptoBulk]
  · have := bulk_length ds
    simp only [Rows.uptoBulk]
    omega

theorem fm_get {α : Type} {f : α → List Value} {n : Nat} (hf : ∀ x, (f x).length = n) : ∀ (l : List α) (z : α) (i j : Nat), i < l.length → j < n → (l.flatMap f)[i * n + j]? = (f (l.getD i z))[j]?
  | [], z, i, j, hi, _ => by simp at hi
  | x :: l, z, 0, j, hi, hj => by
    rw [List.flatMap_cons, Nat.zero_mul, Nat.zero_add, List.getElem?_append_left (by rw [hf]; exact hj)]
    rfl
  | x :: l, z, i + 1, j, hi, hj => by
    rw [List.flatMap_cons, List.getElem?_append_right (by rw [hf, Nat.add_mul]; omega), hf, show (i + 1) * n + j - n = i * n + j by rw [Nat.add_mul]; omega, fm_get hf l z i j (by simpa using hi) hj]
    rfl
theorem fm_len {α : Type} {f : α → List Value} {n : Nat} (hf : ∀ x, (f x).length = n) (l : List α) : (l.flatMap f).length = l.length * n := by
  induction l with
  | nil => simp
  | cons x l ih => rw [List.flatMap_cons, List.length_append, ih, hf, List.length_cons, Nat.add_mul]; omega

def SRow (B : Nat) (xs : List S.St) (v : Value) (wr : World) : Prop := wr.ownsRow B 40 8 v xs.length (xs.flatMap sx)
def FRow (B : Nat) (xs : List Bl.F) (v : Value) (wr : World) : Prop := wr.ownsRow B 43 4 v xs.length (xs.flatMap fxl)
theorem info_fil : (Try.prog.info? 43).map (fun i => (i.zero, i.size, i.bytes)) = some (some (.agg #[.int .u64 0, .int .u64 0, .int .u64 0, .int .u64 0]), 4, 32) := by kernel_rfl
theorem SRow.sts {B : Nat} {xs : List S.St} {v : Value} {w : World} (h : SRow B xs v w) : ∃ a c, v = .slice a xs.length c ∧ Sts w w.heap.size a xs := by
  unfold SRow at h
  rcases h.2 with ⟨rfl, h0⟩ | ⟨g, cap, cur, rfl, e2, e3, e4⟩
  · refine ⟨none, 0, by rw [h0], ?_⟩
    rw [List.eq_nil_of_length_eq_zero h0]; exact Sl.nil _ _ _
  · refine ⟨some ⟨g, 0, none⟩, cap, rfl, fun _ => ⟨g, 0, rfl, lt_of_block e3, fun i hi => ?_⟩⟩
    have hc : ∀ j, j < 8 → w.cell? ⟨g, 0 + i * 8 + j, none⟩ = (sx (xs.getD i S.zero))[j]? := fun j hj => by
      rw [Nat.zero_add, h.cellAt _ (by omega), fm_get (n := 8) (fun _ => rfl) xs S.zero i j hi hj]
    exact ⟨hc 0 (by omega), hc 1 (by omega), hc 2 (by omega), hc 3 (by omega), hc 4 (by omega), hc 5 (by omega), hc 6 (by omega), hc 7 (by omega)⟩
theorem FRow.fls {B : Nat} {xs : List Bl.F} {v : Value} {w : World} (h : FRow B xs v w) : ∃ a c, v = .slice a xs.length c ∧ Fls w w.heap.size a xs := by
  unfold FRow at h
  rcases h.2 with ⟨rfl, h0⟩ | ⟨g, cap, cur, rfl, e2, e3, e4⟩
  · refine ⟨none, 0, by rw [h0], ?_⟩
    rw [List.eq_nil_of_length_eq_zero h0]; exact Sl.nil _ _ _
  · refine ⟨some ⟨g, 0, none⟩, cap, rfl, fun _ => ⟨g, 0, rfl, lt_of_block e3, fun i hi => ?_⟩⟩
    have hc : ∀ j, j < 4 → w.cell? ⟨g, 0 + i * 4 + j, none⟩ = (fxl (xs.getD i Bl.none_))[j]? := fun j hj => by
      rw [Nat.zero_add, h.cellAt _ (by omega), fm_get (n := 4) (fun _ => rfl) xs Bl.none_ i j hi hj]
    exact ⟨hc 0 (by omega), hc 1 (by omega), hc 2 (by omega), hc 3 (by omega)⟩
/-- two values whose blocks are not the same -/
def Apart (v v' : Value) : Prop := v'.ownBlock = none ∨ v'.ownBlock ≠ v.ownBlock

theorem wpList_append_st {w : World} {ops : Array Oper} {rest : List Oper} {o : Oper} {a : Act} {Q : Exit → Act → World → Prop} (hgd : o.guard = none) (s x : Operand)
    (ho : o.op = .call { callee := .builtin .append, args := #[s, x], argTypes := #[31, 31] }) (base : Nat)
    (v : Value) (xs : List S.St) (hs : a.eval s = v) (hown : SRow base xs v w)
    (g : Nat) (y : S.St) (hx : a.eval x = .slice (some ⟨g, 0, none⟩) 1 1) (hblk : w.heap[g]? = some (.cells (sx y).toArray 40 (0, 0)))
    (hbytes : (xs.length + 1) * 80 ≤ 140737488355328) (hbase : base ≤ w.heap.size)
    (h : ∀ v' w', SRow base (xs ++ [y]) v' w' → Below base w w' → w.grownBy w' v.ownBlock → (v.ownBlock = v'.ownBlock ∨ v'.ownBlock = some w.heap.size) → wpList Try.prog ops Q rest (a.put o.dst v') w') : wpList Try.prog ops Q (o :: rest) a w := by
  obtain ⟨i, hi, hz0, hz1, hz2⟩ := info_parts info_stats
  refine wpList_append_lies w hgd s x 31 ho base 40 i (.agg #[.int .i64 0, .int .i64 0, .int .i64 0, .int .u64 0, .string ByteArray.empty, .int .i64 0, .int .u64 0, .string ByteArray.empty]) 8 80 Try.underlying31 hi hz0 hz1 hz2 rfl (by decide) v xs.length (xs.flatMap sx) hs hown ⟨g, 0, none⟩ 1 1 (sx y) hx rfl (World.news_of_block hblk) ?_ (by decide) (by unfold maxLen; omega) hbytes hbase _ rfl ?_
  · intro u hu; simp [sx] at hu; rcases hu with rfl | rfl | rfl | rfl | rfl | rfl | rfl | rfl <;> rfl
  · intro g' cap w' h1 h2 h3 h4
    refine h _ w' ?_ ?_ h2 ?_
    · unfold SRow; rw [List.flatMap_append, List.length_append]; simpa using h1
    · exact (Below.refl base w).grown h2 hbase (fun k hk => (hown.lt k hk).1)
    · rcases h3 with h3 | h3
      · exact Or.inl h3
      · exact Or.inr (by rw [h3]; rfl)
theorem wpList_append_fl {w : World} {ops : Array Oper} {rest : List Oper} {o : Oper} {a : Act} {Q : Exit → Act → World → Prop} (hgd : o.guard = none) (s x : Operand)
    (ho : o.op = .call { callee := .builtin .append, args := #[s, x], argTypes := #[32, 32] }) (base : Nat)
    (v : Value) (xs : List Bl.F) (hs : a.eval s = v) (hown : FRow base xs v w)
    (g : Nat) (y : Bl.F) (hx : a.eval x = .slice (some ⟨g, 0, none⟩) 1 1) (hblk : w.heap[g]? = some (.cells (fxl y).toArray 43 (0, 0)))
    (hbytes : (xs.length + 1) * 32 ≤ 140737488355328) (hbase : base ≤ w.heap.size)
    (h : ∀ v' w', FRow base (xs ++ [y]) v' w' → Below base w w' → w.grownBy w' v.ownBlock → (v.ownBlock = v'.ownBlock ∨ v'.ownBlock = some w.heap.size) → wpList Try.prog ops Q rest (a.put o.dst v') w') : wpList Try.prog ops Q (o :: rest) a w := by
  obtain ⟨i, hi, hz0, hz1, hz2⟩ := info_parts info_fil
  refine wpList_append_lies w hgd s x 32 ho base 43 i (.agg #[.int .u64 0, .int .u64 0, .int .u64 0, .int .u64 0]) 4 32 Try.underlying32 hi hz0 hz1 hz2 rfl (by decide) v xs.length (xs.flatMap fxl) hs hown ⟨g, 0, none⟩ 1 1 (fxl y) hx rfl (World.news_of_block hblk) ?_ (by decide) (by unfold maxLen; omega) hbytes hbase _ rfl ?_
  · intro u hu; simp [fxl] at hu; rcases hu with rfl | rfl | rfl | rfl <;> rfl
  · intro g' cap w' h1 h2 h3 h4
    refine h _ w' ?_ ?_ h2 ?_
    · unfold FRow; rw [List.flatMap_append, List.length_append]; simpa using h1
    · exact (Below.refl base w).grown h2 hbase (fun k hk => (hown.lt k hk).1)
    · rcases h3 with h3 | h3
      · exact Or.inl h3
      · exact Or.inr (by rw [h3]; rfl)
end Go.Proofs.Ytecfknolpnjokaa
