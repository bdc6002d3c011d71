/- Columns that come in: how much lies in them. -/
import Derived.Test.YtjfkoledbegpfaaShAl
import Derived.Test.YtjfkoledbegpfaaShLift
namespace Go.Proofs.Ytjfkoledbegpfaa
open Go.ChangeShapes Go.WideShapes Go.ChangeAt Go.RowKit
open Sh (Lv)
set_option linter.unusedVariables false

theorem sum_bulk {α H : Type} {wt : α → Nat} {Q : Nat → α} {Dd : Nat → DataW H} : ∀ L : List Nat, (∀ i ∈ L, wt (Q i) ≤ Rows.uptoBulk (Dd i)) → ((L.map Q).map wt).sum ≤ Rows.uptoBulkAll (L.map Dd)
  | [], _ => Nat.zero_le _
  | i :: t, h => by
    have h1 := h i (List.mem_cons_self ..)
    have h2 := sum_bulk t (fun j hj => h j (List.mem_cons_of_mem _ hj))
    simp only [List.map_cons, List.sum_cons, Rows.uptoBulkAll]
    omega
/-- a slice that came in, of elements of n cells, each of them read by 'el' -/
theorem open_slw {α : Type} {H : Type} {enc : TypeId × Value → H} {w : World} {base : Nat} {held : Bool} {spare : Nat → Bool} {n : Nat} (z : α) {t et : TypeId} {okk : α → Prop} {cf : α → List Value} (wt : α → Nat) [Inhabited α] (hn : 0 < n)
    (ht : Try.prog.underlying t = some (.slice et)) (hce : Try.prog.cellsOf et = n) (hcl : ∀ c, (cf c).length = n)
    (el : ∀ {k : Nat} {cs : List Value} {x : DataW H × List MemPlace}, DataW.trod enc Try.prog w base spare held k et cs = some x → cs.length = n → ∃ c, okk c ∧ cs = cf c ∧ wt c ≤ Rows.uptoBulk x.1)
    {fuel : Nat} {a : Option Addr} {len cap : Nat} {x : DataW H × List MemPlace}
    (h : DataW.trod enc Try.prog w base spare held fuel t (Value.slice a len cap).cells.toList = some x) :
    ∃ l : List α, l.length = len ∧ len ≤ maxLen ∧ (len ≤ cap ∧ cap ≤ maxLen ∧ (a = none → cap = 0)) ∧ (∀ x ∈ l, okk x) ∧
      (l ≠ [] → ∃ b off, a = some ⟨b, off, none⟩ ∧ b < w.heap.size ∧ ∀ i, i < l.length → ∀ j v, (cf (l.getD i z))[j]? = some v → w.cell? ⟨b, off + i * n + j, none⟩ = some v) ∧
      (x.1 = .nil ∧ len = 0 ∨ ∃ (ds : List (DataW H)) (r : List (DataW H)), ds.length = len ∧ x.1 = .slice ds r) ∧ (l.map wt).sum ≤ Rows.uptoBulk x.1 := by
  rcases Go.Deep.open_slice ht h with ⟨hcs, hx⟩ | ⟨ad, ln, cp, m, n', Dd, Pl, hcs, hb, hl, hm, hmm, hx, hcell⟩
  · simp [Value.cells] at hcs
    obtain ⟨rfl, rfl, rfl⟩ := hcs
    exact ⟨[], rfl, Nat.zero_le _, ⟨Nat.le_refl _, Nat.zero_le _, fun _ => rfl⟩, by simp, fun h => absurd rfl h, Or.inl ⟨by rw [hx], rfl⟩, Nat.zero_le _⟩
  · simp [Value.cells] at hcs
    obtain ⟨rfl, rfl, rfl⟩ := hcs
    have hlm : len ≤ m := by rw [hmm]; split <;> omega
    have each : ∀ i, i < m → ∃ c : α, (okk c ∧ wt c ≤ Rows.uptoBulk (Dd i)) ∧ ∀ j v, (cf c)[j]? = some v → w.cell? (ad.add (i * n + j)) = some v := by
      intro i hi
      obtain ⟨cs', h1, h2⟩ := hcell i hi
      rw [hce] at h1
      obtain ⟨_, hlen, hc⟩ := World.cells?_some h1
      obtain ⟨c, hok, rfl, hwt⟩ := el h2 hlen
      refine ⟨c, ⟨hok, hwt⟩, fun j v hj => ?_⟩
      have hjn : j < n := by
        rcases Nat.lt_or_ge j n with h | h
        · exact h
        · rw [List.getElem?_eq_none (by rw [hcl]; exact h)] at hj; cases hj
      have := hc j (by omega)
      rw [Go.Deep.add_add] at this
      rw [this]; exact hj
    obtain ⟨Q, hQ⟩ := Go.Deep.choose_lt (α := α) each
    refine ⟨(List.range len).map Q, by simp, by omega, ⟨hl, hm, fun h => by cases h⟩, ?_, ?_, Or.inr ⟨(List.range len).map Dd, _, by simp, by rw [hx]⟩, ?_⟩
    · intro y hy
      obtain ⟨i, hi, rfl⟩ := List.mem_map.1 hy
      exact (hQ i (by have := List.mem_range.1 hi; omega)).1.1
    rotate_left
    · have h9 := sum_bulk (wt := wt) (Q := Q) (Dd := Dd) (List.range len) (fun i hi => (hQ i (by have := List.mem_range.1 hi; omega)).1.2)
      rw [hx]
      simp only [Rows.uptoBulk]
      omega
    intro hne
    have hpos : 0 < len := by
      rcases Nat.eq_zero_or_pos len with h0 | h0
      · rw [h0] at hne; simp at hne
      · exact h0
    obtain ⟨b, off, spot⟩ := ad
    have hfirst : ∃ v, (cf (Q 0))[0]? = some v := ⟨_, List.getElem?_eq_getElem (by rw [hcl]; exact hn)⟩
    obtain ⟨v0, hv0⟩ := hfirst
    have hc00 := (hQ 0 (by omega)).2 0 v0 hv0
    have hspot : spot = none := by simpa [Addr.add] using World.cell?_spot hc00
    subst hspot
    rw [Go.WideShapes.add_plain] at hc00
    refine ⟨b, off, rfl, lt_of_cell hc00, fun i hi => ?_⟩
    simp only [List.length_map, List.length_range] at hi
    have hg : ((List.range len).map Q).getD i z = Q i := by simp [List.getD, hi]
    rw [hg]
    intro j v hj
    have := (hQ i (by omega)).2 j v hj
    rw [Go.WideShapes.add_plain] at this
    rwa [show off + (i * n + j) = off + i * n + j by omega] at this

section
variable {H : Type} {enc : TypeId × Value → H} {w : World} {base : Nat} {held : Bool} {spare : Nat → Bool}
theorem open_lrow2 {n : Nat} {cs : List Value} {x : DataW H × List MemPlace} (h : DataW.trod enc Try.prog w base spare held n 40 cs = some x) :
    ∃ c : Option Addr × Nat × List Lv, (Lvs w w.heap.size c.1 c.2.2 ∧ c.2.2.length ≤ c.2.1 ∧ c.2.1 ≤ maxLen ∧ ∀ x ∈ c.2.2, lvOk x) ∧ cs = [.slice c.1 c.2.2.length c.2.1] ∧ c.2.2.length ≤ Rows.uptoBulk x.1 := by
  obtain ⟨a, len, cap, rfl⟩ := slice_cells Try.underlying40 h
  obtain ⟨l, h1, h2, h3, h4, h5, h6⟩ := open_slg (α := Lv) (n := 3) (0, 0, 0) (cf := lvv) (by omega) Try.underlying40 (by kernel_rfl) (fun _ => rfl) (fun h _ => open_lv h) h
  have h7 := bulk_sl h6
  refine ⟨(a, cap, l), ⟨fun hne => ?_, by show l.length ≤ cap; omega, h3.2.1, h4⟩, by rw [← h1]; rfl, by show l.length ≤ _; omega⟩
  obtain ⟨b, off, e, hb, hc⟩ := h5 hne
  exact ⟨b, off, e, hb, fun i hi => ⟨hc i hi 0 _ rfl, hc i hi 1 _ rfl, hc i hi 2 _ rfl⟩⟩
theorem open_lrows2 {t : TypeId} {fuel : Nat} {a : Option Addr} {len cap : Nat} {x : DataW H × List MemPlace} (ht : Try.prog.underlying t = some (.slice 40))
    (h : DataW.trod enc Try.prog w base spare held fuel t (Value.slice a len cap).cells.toList = some x) :
    ∃ l : List (List Lv), l.length = len ∧ len ≤ maxLen ∧ (len ≤ cap ∧ cap ≤ maxLen ∧ (a = none → cap = 0)) ∧ LRows w w.heap.size a l ∧ (x.1 = .nil ∧ len = 0 ∨ ∃ (ds : List (DataW H)) (r : List (DataW H)), ds.length = len ∧ x.1 = .slice ds r) ∧ Sh.lsum l ≤ Rows.uptoBulk x.1 := by
  obtain ⟨l, h1, h2, h3, h4, h5, h6, h7⟩ := open_slw (α := Option Addr × Nat × List Lv) (n := 1) (none, 0, []) (cf := fun c => [.slice c.1 c.2.2.length c.2.1]) (fun c => c.2.2.length) (by omega) ht (by kernel_rfl) (fun _ => rfl) (fun h _ => open_lrow2 h) h
  refine ⟨l.map fun c => c.2.2, by simpa using h1, h2, h3, ⟨l.map fun c => .slice c.1 c.2.2.length c.2.1, by simp, fun i hi => ?_, fun hne => ?_⟩, h6, by unfold Sh.lsum; rw [List.map_map]; exact h7⟩
  · rw [List.length_map] at hi
    have hm : l[i] ∈ l := List.getElem_mem hi
    obtain ⟨q1, q2, q3, q4⟩ := h4 _ hm
    have e1 : (l.map fun c => Value.slice c.1 c.2.2.length c.2.1).getD i undef = .slice l[i].1 l[i].2.2.length l[i].2.1 := by simp [List.getD, List.getElem?_eq_getElem hi]
    have e2 : (l.map fun c => c.2.2).getD i [] = l[i].2.2 := by simp [List.getD, List.getElem?_eq_getElem hi]
    rw [e1, e2]
    exact ⟨_, _, rfl, q1, q2, q3, q4⟩
  · obtain ⟨b, off, e, hb, hc⟩ := h5 (fun e => hne (by rw [e]; rfl))
    refine ⟨b, off, e, hb, fun i hi => ?_⟩
    rw [List.length_map] at hi
    have := hc i hi 0 _ rfl
    rw [Nat.mul_one, Nat.add_zero] at this
    rw [this]
    simp [List.getD, List.getElem?_eq_getElem hi]
end
end Go.Proofs.Ytjfkoledbegpfaa
