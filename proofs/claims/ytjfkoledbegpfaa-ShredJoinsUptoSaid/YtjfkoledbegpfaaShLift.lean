/- From what the form hands over to what the walks ask for: forms, records, columns. -/
import Derived.Deep.Slices
import Derived.Test.YtjfkoledbegpfaaLift
import Derived.Test.YtjfkoledbegpfaaShB
namespace Go.Proofs.Ytjfkoledbegpfaa
open Go.ChangeShapes Go.WideShapes Go.ChangeAt Go.RowKit
open Sh (Lv)
set_option linter.unusedVariables false

/-- a slice that came in, of elements of n cells, each of them read by 'el' -/
theorem open_slg {α : Type} {H : Type} {enc : TypeId × Value → H} {w : World} {base : Nat} {held : Bool} {spare : Nat → Bool} {n : Nat} (z : α) {t et : TypeId} {okk : α → Prop} {cf : α → List Value} [Inhabited α] (hn : 0 < n)
    (ht : Try.prog.underlying t = some (.slice et)) (hce : Try.prog.cellsOf et = n) (hcl : ∀ c, (cf c).length = n)
    (el : ∀ {k : Nat} {cs : List Value} {x : DataW H × List MemPlace}, DataW.trod enc Try.prog w base spare held k et cs = some x → cs.length = n → ∃ c, okk c ∧ cs = cf c)
    {fuel : Nat} {a : Option Addr} {len cap : Nat} {x : DataW H × List MemPlace}
    (h : DataW.trod enc Try.prog w base spare held fuel t (Value.slice a len cap).cells.toList = some x) :
    ∃ l : List α, l.length = len ∧ len ≤ maxLen ∧ (len ≤ cap ∧ cap ≤ maxLen ∧ (a = none → cap = 0)) ∧ (∀ x ∈ l, okk x) ∧
      (l ≠ [] → ∃ b off, a = some ⟨b, off, none⟩ ∧ b < w.heap.size ∧ ∀ i, i < l.length → ∀ j v, (cf (l.getD i z))[j]? = some v → w.cell? ⟨b, off + i * n + j, none⟩ = some v) ∧
      (x.1 = .nil ∧ len = 0 ∨ ∃ (ds : List (DataW H)) (r : List (DataW H)), ds.length = len ∧ x.1 = .slice ds r) := by
  rcases Go.Deep.open_slice ht h with ⟨hcs, hx⟩ | ⟨ad, ln, cp, m, n', Dd, Pl, hcs, hb, hl, hm, hmm, hx, hcell⟩
  · simp [Value.cells] at hcs
    obtain ⟨rfl, rfl, rfl⟩ := hcs
    exact ⟨[], rfl, Nat.zero_le _, ⟨Nat.le_refl _, Nat.zero_le _, fun _ => rfl⟩, by simp, fun h => absurd rfl h, Or.inl ⟨by rw [hx], rfl⟩⟩
  · simp [Value.cells] at hcs
    obtain ⟨rfl, rfl, rfl⟩ := hcs
    have hlm : len ≤ m := by rw [hmm]; split <;> omega
    have each : ∀ i, i < m → ∃ c : α, okk c ∧ ∀ j v, (cf c)[j]? = some v → w.cell? (ad.add (i * n + j)) = some v := by
      intro i hi
      obtain ⟨cs', h1, h2⟩ := hcell i hi
      rw [hce] at h1
      obtain ⟨_, hlen, hc⟩ := World.cells?_some h1
      obtain ⟨c, hok, rfl⟩ := el h2 hlen
      refine ⟨c, hok, fun j v hj => ?_⟩
      have hjn : j < n := by
        rcases Nat.lt_or_ge j n with h | h
        · exact h
        · rw [List.getElem?_eq_none (by rw [hcl]; exact h)] at hj; cases hj
      have := hc j (by omega)
      rw [Go.Deep.add_add] at this
      rw [this]; exact hj
    obtain ⟨Q, hQ⟩ := Go.Deep.choose_lt (α := α) each
    refine ⟨(List.range len).map Q, by simp, by omega, ⟨hl, hm, fun h => by cases h⟩, ?_, ?_, Or.inr ⟨(List.range len).map Dd, _, by simp, by rw [hx]⟩⟩
    · intro y hy
      obtain ⟨i, hi, rfl⟩ := List.mem_map.1 hy
      exact (hQ i (by have := List.mem_range.1 hi; omega)).1
    intro hne
    have hpos : 0 < len := by
      rcases Nat.eq_zero_or_pos len with h0 | h0
      · rw [h0] at hne; simp at hne
      · exact h0
    obtain ⟨b, off, spot⟩ := ad
    have hfirst : ∃ v, (cf (Q 0))[0]? = some v := ⟨_, List.getElem?_eq_getElem (by rw [hcl]; exact hn)⟩
    obtain ⟨v0, hv0⟩ := hfirst
    have hc00 := (hQ 0 (by omega)).2 0 v0 hv0
    have hspot : spot = none := by simpa [Addr.add] using World.cell?_spot hc00
    subst hspot
    rw [Go.WideShapes.add_plain] at hc00
    refine ⟨b, off, rfl, lt_of_cell hc00, fun i hi => ?_⟩
    simp only [List.length_map, List.length_range] at hi
    have hg : ((List.range len).map Q).getD i z = Q i := by simp [List.getD, hi]
    rw [hg]
    intro j v hj
    have := (hQ i (by omega)).2 j v hj
    rw [Go.WideShapes.add_plain] at this
    rwa [show off + (i * n + j) = off + i * n + j by omega] at this

section
variable {H : Type} {enc : TypeId × Value → H} {w : World} {base : Nat} {held : Bool} {spare : Nat → Bool}
theorem open_fd {n : Nat} {cs : List Value} {x : DataW H × List MemPlace} (h : DataW.trod enc Try.prog w base spare held n 32 cs = some x) : ∃ c : Sh.Fd, fdOk c ∧ cs = fdv c := by
  obtain ⟨xs, k, _, hxy, hlen, hxl, hf⟩ := DataW.trod_struct Try.underlying32 h
  rw [show Try.prog.cellsOf 32 = 2 by kernel_rfl] at hlen
  match xs, hxl, cs, hlen with
  | [y0, y1], _, [v0, v1], _ =>
    have g0 := hf 0 _ rfl
    have g1 := hf 1 _ rfl
    simp [show Try.prog.cellsOf 3 = 1 by kernel_rfl] at g0 g1
    obtain ⟨z, e1, -, e3⟩ := DataW.trod_int Try.underlying3 g0
    obtain ⟨y, f1, -, f3⟩ := DataW.trod_int Try.underlying3 g1
    simp at e1 f1
    subst e1; subst f1
    have hz := bounds_int e3
    have hy := bounds_int f3
    exact ⟨(z, y), ⟨hz.1, hz.2, hy.1, hy.2⟩, rfl⟩
theorem open_lv {n : Nat} {cs : List Value} {x : DataW H × List MemPlace} (h : DataW.trod enc Try.prog w base spare held n 43 cs = some x) : ∃ c : Lv, lvOk c ∧ cs = lvv c := by
  obtain ⟨xs, k, _, hxy, hlen, hxl, hf⟩ := DataW.trod_struct Try.underlying43 h
  rw [show Try.prog.cellsOf 43 = 3 by kernel_rfl] at hlen
  match xs, hxl, cs, hlen with
  | [y0, y1, y2], _, [v0, v1, v2], _ =>
    have g0 := hf 0 _ rfl
    have g1 := hf 1 _ rfl
    have g2 := hf 2 _ rfl
    simp [show Try.prog.cellsOf 3 = 1 by kernel_rfl, show Try.prog.cellsOf 41 = 1 by kernel_rfl] at g0 g1 g2
    obtain ⟨z, e1, -, e3⟩ := DataW.trod_int Try.underlying3 g0
    obtain ⟨y, f1, -, f3⟩ := DataW.trod_int Try.underlying3 g1
    obtain ⟨u, q1, -, q3⟩ := DataW.trod_int Try.underlying41 g2
    simp at e1 f1 q1
    subst e1; subst f1; subst q1
    obtain ⟨m, rfl, hm⟩ := nat_u64 q3
    exact ⟨(z, y, m), ⟨bounds_int e3, bounds_int f3, hm⟩, rfl⟩
theorem open_u1 {n : Nat} {cs : List Value} {x : DataW H × List MemPlace} (h : DataW.trod enc Try.prog w base spare held n 41 cs = some x) : ∃ c : Nat, c < 18446744073709551616 ∧ cs = [.int .u64 (c : Int)] := by
  obtain ⟨u, q1, -, q3⟩ := DataW.trod_int Try.underlying41 h
  obtain ⟨m, rfl, hm⟩ := nat_u64 q3
  exact ⟨m, hm, q1⟩
theorem open_fds {t : TypeId} {fuel : Nat} {a : Option Addr} {len cap : Nat} {x : DataW H × List MemPlace} (ht : Try.prog.underlying t = some (.slice 32))
    (h : DataW.trod enc Try.prog w base spare held fuel t (Value.slice a len cap).cells.toList = some x) :
    ∃ l : List Sh.Fd, l.length = len ∧ len ≤ maxLen ∧ (len ≤ cap ∧ cap ≤ maxLen ∧ (a = none → cap = 0)) ∧ (∀ x ∈ l, fdOk x) ∧ Fds w w.heap.size a l ∧ (x.1 = .nil ∧ len = 0 ∨ ∃ (ds : List (DataW H)) (r : List (DataW H)), ds.length = len ∧ x.1 = .slice ds r) := by
  obtain ⟨l, h1, h2, h3, h4, h5, h6⟩ := open_slg (α := Sh.Fd) (n := 2) Sh.fd0 (cf := fdv) (by omega) ht (by kernel_rfl) (fun _ => rfl) (fun h _ => open_fd h) h
  refine ⟨l, h1, h2, h3, h4, fun hne => ?_, h6⟩
  obtain ⟨b, off, e, hb, hc⟩ := h5 hne
  exact ⟨b, off, e, hb, fun i hi => ⟨hc i hi 0 _ rfl, hc i hi 1 _ rfl⟩⟩
theorem open_lvs {t : TypeId} {fuel : Nat} {a : Option Addr} {len cap : Nat} {x : DataW H × List MemPlace} (ht : Try.prog.underlying t = some (.slice 43))
    (h : DataW.trod enc Try.prog w base spare held fuel t (Value.slice a len cap).cells.toList = some x) :
    ∃ l : List Lv, l.length = len ∧ len ≤ maxLen ∧ (len ≤ cap ∧ cap ≤ maxLen ∧ (a = none → cap = 0)) ∧ (∀ x ∈ l, lvOk x) ∧ Lvs w w.heap.size a l := by
  obtain ⟨l, h1, h2, h3, h4, h5, h6⟩ := open_slg (α := Lv) (n := 3) (0, 0, 0) (cf := lvv) (by omega) ht (by kernel_rfl) (fun _ => rfl) (fun h _ => open_lv h) h
  refine ⟨l, h1, h2, h3, h4, fun hne => ?_⟩
  obtain ⟨b, off, e, hb, hc⟩ := h5 hne
  exact ⟨b, off, e, hb, fun i hi => ⟨hc i hi 0 _ rfl, hc i hi 1 _ rfl, hc i hi 2 _ rfl⟩⟩
theorem slice_cells {t et : TypeId} {k : Nat} {cs : List Value} {x : DataW H × List MemPlace} (ht : Try.prog.underlying t = some (.slice et)) (h : DataW.trod enc Try.prog w base spare held k t cs = some x) : ∃ a len cap, cs = (Value.slice a len cap).cells.toList := by
  rcases Go.Deep.open_slice ht h with ⟨hcs, -⟩ | ⟨ad, ln, cp, m, n', Dd, Pl, hcs, -⟩
  · exact ⟨none, 0, 0, by rw [hcs]; rfl⟩
  · exact ⟨some ad, ln, cp, by rw [hcs]; rfl⟩
/-- rows of numbers, of levels: an address, a capacity, what is read -/
theorem open_nrow {n : Nat} {cs : List Value} {x : DataW H × List MemPlace} (h : DataW.trod enc Try.prog w base spare held n 47 cs = some x) :
    ∃ c : Option Addr × Nat × List Nat, (Nums w w.heap.size c.1 c.2.2 ∧ c.2.2.length ≤ c.2.1 ∧ c.2.1 ≤ maxLen ∧ ∀ n ∈ c.2.2, n < 18446744073709551616) ∧ cs = [.slice c.1 c.2.2.length c.2.1] := by
  obtain ⟨a, len, cap, rfl⟩ := slice_cells Try.underlying47 h
  obtain ⟨l, h1, h2, h3, h4, h5, h6⟩ := open_slg (α := Nat) (n := 1) 0 (cf := fun c => [.int .u64 (c : Int)]) (by omega) Try.underlying47 (by kernel_rfl) (fun _ => rfl) (fun h _ => open_u1 h) h
  refine ⟨(a, cap, l), ⟨fun hne => ?_, by show l.length ≤ cap; omega, h3.2.1, h4⟩, by rw [← h1]; rfl⟩
  obtain ⟨b, off, e, hb, hc⟩ := h5 hne
  refine ⟨b, off, e, hb, fun i hi => ?_⟩
  have := hc i hi 0 _ rfl
  rwa [Nat.mul_one, Nat.add_zero] at this
theorem open_lrow {n : Nat} {cs : List Value} {x : DataW H × List MemPlace} (h : DataW.trod enc Try.prog w base spare held n 40 cs = some x) :
    ∃ c : Option Addr × Nat × List Lv, (Lvs w w.heap.size c.1 c.2.2 ∧ c.2.2.length ≤ c.2.1 ∧ c.2.1 ≤ maxLen ∧ ∀ x ∈ c.2.2, lvOk x) ∧ cs = [.slice c.1 c.2.2.length c.2.1] := by
  obtain ⟨a, len, cap, rfl⟩ := slice_cells Try.underlying40 h
  obtain ⟨l, h1, h2, h3, h4, h5⟩ := open_lvs Try.underlying40 h
  exact ⟨(a, cap, l), ⟨h5, by show l.length ≤ cap; omega, h3.2.1, h4⟩, by rw [← h1]; rfl⟩
theorem open_nrows {t : TypeId} {fuel : Nat} {a : Option Addr} {len cap : Nat} {x : DataW H × List MemPlace} (ht : Try.prog.underlying t = some (.slice 47))
    (h : DataW.trod enc Try.prog w base spare held fuel t (Value.slice a len cap).cells.toList = some x) :
    ∃ l : List (List Nat), l.length = len ∧ len ≤ maxLen ∧ (len ≤ cap ∧ cap ≤ maxLen ∧ (a = none → cap = 0)) ∧ NRows w w.heap.size a l ∧ (x.1 = .nil ∧ len = 0 ∨ ∃ (ds : List (DataW H)) (r : List (DataW H)), ds.length = len ∧ x.1 = .slice ds r) := by
  obtain ⟨l, h1, h2, h3, h4, h5, h6⟩ := open_slg (α := Option Addr × Nat × List Nat) (n := 1) (none, 0, []) (cf := fun c => [.slice c.1 c.2.2.length c.2.1]) (by omega) ht (by kernel_rfl) (fun _ => rfl) (fun h _ => open_nrow h) h
  refine ⟨l.map fun c => c.2.2, by simpa using h1, h2, h3, fun hne => ?_, h6⟩
  obtain ⟨b, off, e, hb, hc⟩ := h5 (fun e => hne (by rw [e]; rfl))
  refine ⟨b, off, e, hb, fun i hi => ?_⟩
  rw [List.length_map] at hi
  have hg : (l.map fun c => c.2.2).getD i [] = (l.getD i (none, 0, [])).2.2 := by simp [List.getD, List.getElem?_eq_getElem hi]
  have hm : l.getD i (none, 0, []) ∈ l := by rw [show l.getD i (none, 0, []) = l[i] by simp [List.getD, List.getElem?_eq_getElem hi]]; exact List.getElem_mem hi
  have := hc i hi 0 _ rfl
  rw [Nat.mul_one, Nat.add_zero] at this
  obtain ⟨q1, q2, q3, q4⟩ := h4 _ hm
  rw [hg]
  exact ⟨_, _, this, q1, q2, q3, q4⟩
theorem open_lrows {t : TypeId} {fuel : Nat} {a : Option Addr} {len cap : Nat} {x : DataW H × List MemPlace} (ht : Try.prog.underlying t = some (.slice 40))
    (h : DataW.trod enc Try.prog w base spare held fuel t (Value.slice a len cap).cells.toList = some x) :
    ∃ l : List (List Lv), l.length = len ∧ len ≤ maxLen ∧ (len ≤ cap ∧ cap ≤ maxLen ∧ (a = none → cap = 0)) ∧ LRows w w.heap.size a l ∧ (x.1 = .nil ∧ len = 0 ∨ ∃ (ds : List (DataW H)) (r : List (DataW H)), ds.length = len ∧ x.1 = .slice ds r) := by
  obtain ⟨l, h1, h2, h3, h4, h5, h6⟩ := open_slg (α := Option Addr × Nat × List Lv) (n := 1) (none, 0, []) (cf := fun c => [.slice c.1 c.2.2.length c.2.1]) (by omega) ht (by kernel_rfl) (fun _ => rfl) (fun h _ => open_lrow h) h
  refine ⟨l.map fun c => c.2.2, by simpa using h1, h2, h3, ⟨l.map fun c => .slice c.1 c.2.2.length c.2.1, by simp, fun i hi => ?_, fun hne => ?_⟩, h6⟩
  · rw [List.length_map] at hi
    have hm : l[i] ∈ l := List.getElem_mem hi
    obtain ⟨q1, q2, q3, q4⟩ := h4 _ hm
    have e1 : (l.map fun c => Value.slice c.1 c.2.2.length c.2.1).getD i undef = .slice l[i].1 l[i].2.2.length l[i].2.1 := by simp [List.getD, List.getElem?_eq_getElem hi]
    have e2 : (l.map fun c => c.2.2).getD i [] = l[i].2.2 := by simp [List.getD, List.getElem?_eq_getElem hi]
    rw [e1, e2]
    exact ⟨_, _, rfl, q1, q2, q3, q4⟩
  · obtain ⟨b, off, e, hb, hc⟩ := h5 (fun e => hne (by rw [e]; rfl))
    refine ⟨b, off, e, hb, fun i hi => ?_⟩
    rw [List.length_map] at hi
    have := hc i hi 0 _ rfl
    rw [Nat.mul_one, Nat.add_zero] at this
    rw [this]
    simp [List.getD, List.getElem?_eq_getElem hi]
end
theorem bulk_sl {H : Type} {d : DataW H} {n : Nat} (h : d = .nil ∧ n = 0 ∨ ∃ (ds : List (DataW H)) (r : List (DataW H)), ds.length = n ∧ d = .slice ds r) : n + 1 ≤ Rows.uptoBulk d := by
  rcases h with ⟨rfl, rfl⟩ | ⟨ds, r, rfl, rfl⟩
  · simp [Rows.uptoBulk]
  · have := bulk_length ds
    simp only [Rows.uptoBulk]
    omega
end Go.Proofs.Ytjfkoledbegpfaa
