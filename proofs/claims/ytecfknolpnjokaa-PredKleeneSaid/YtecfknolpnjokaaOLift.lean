/- From what the form hands over to what the walks ask for: conditions, kinds, lists of what is known, of filters. -/
import Derived.Test.YtecfknolpnjokaaSLift
import Derived.Test.YtecfknolpnjokaaBlLift
import Derived.Test.YtecfknolpnjokaaOBase
namespace Go.Proofs.Ytecfknolpnjokaa
open Go.ChangeShapes Go.WideShapes Go.ChangeAt Go.RowKit
set_option linter.unusedVariables false

/-- a slice that came in, of elements of n cells, each of them read by 'el' -/
theorem open_sl {α : Type} {H : Type} {enc : TypeId × Value → H} {w : World} {base : Nat} {held : Bool} {spare : Nat → Bool} {P : World → Nat → Nat → α → Prop} {n : Nat} {z : α} {t et : TypeId} {D : α → DataW H} {okk : α → Prop} {cf : α → List Value} [Inhabited α] (hn : 0 < n)
    (ht : Try.prog.underlying t = some (.slice et)) (hce : Try.prog.cellsOf et = n) (hcl : ∀ c, (cf c).length = n)
    (el : ∀ {k : Nat} {cs : List Value} {x : DataW H × List MemPlace}, DataW.trod enc Try.prog w base spare held k et cs = some x → cs.length = n → ∃ c, okk c ∧ cs = cf c ∧ x = (D c, []))
    (mk : ∀ (b o : Nat) (c : α), (∀ j v, (cf c)[j]? = some v → w.cell? ⟨b, o + j, none⟩ = some v) → P w b o c)
    {fuel : Nat} {a : Option Addr} {len cap : Nat} {x : DataW H × List MemPlace}
    (h : DataW.trod enc Try.prog w base spare held fuel t (Value.slice a len cap).cells.toList = some x) :
    ∃ l : List α, l.length = len ∧ len ≤ maxLen ∧ (len ≤ cap ∧ cap ≤ maxLen ∧ (a = none → cap = 0)) ∧ (∀ x ∈ l, okk x) ∧ Sl P n z w w.heap.size a l ∧
      (x.1 = .nil ∧ len = 0 ∨ ∃ r, x.1 = .slice (l.map D) r) := by
  rcases Go.Deep.open_slice ht h with ⟨hcs, hx⟩ | ⟨ad, ln, cp, m, n', Dd, Pl, hcs, hb, hl, hm, hmm, hx, hcell⟩
  · simp [Value.cells] at hcs
    obtain ⟨rfl, rfl, rfl⟩ := hcs
    exact ⟨[], rfl, Nat.zero_le _, ⟨Nat.le_refl _, Nat.zero_le _, fun _ => rfl⟩, by simp, Sl.nil _ _ _, Or.inl ⟨by rw [hx], rfl⟩⟩
  · simp [Value.cells] at hcs
    obtain ⟨rfl, rfl, rfl⟩ := hcs
    have hlm : len ≤ m := by rw [hmm]; split <;> omega
    have each : ∀ i, i < m → ∃ c : α, okk c ∧ Dd i = D c ∧ ∀ j v, (cf c)[j]? = some v → w.cell? (ad.add (i * n + j)) = some v := by
      intro i hi
      obtain ⟨cs', h1, h2⟩ := hcell i hi
      rw [hce] at h1
      obtain ⟨_, hlen, hc⟩ := World.cells?_some h1
      obtain ⟨c, hok, rfl, hd⟩ := el h2 hlen
      simp only [Prod.mk.injEq] at hd
      refine ⟨c, hok, hd.1, fun j v hj => ?_⟩
      have hjn : j < n := by
        rcases Nat.lt_or_ge j n with h | h
        · exact h
        · rw [List.getElem?_eq_none (by rw [hcl]; exact h)] at hj; cases hj
      have := hc j (by omega)
      rw [Go.Deep.add_add] at this
      rw [this]; exact hj
    obtain ⟨Q, hQ⟩ := Go.Deep.choose_lt (α := α) each
    refine ⟨(List.range len).map Q, by simp, by omega, ⟨hl, hm, fun h => by cases h⟩, ?_, ?_, Or.inr ⟨_, by
      rw [hx]; simp only [List.map_map]; rw [List.map_congr_left (g := D ∘ Q) (fun i hi => (hQ i (by have := List.mem_range.1 hi; omega)).2.1)]⟩⟩
    · intro y hy
      obtain ⟨i, hi, rfl⟩ := List.mem_map.1 hy
      exact (hQ i (by have := List.mem_range.1 hi; omega)).1
    intro hne
    have hpos : 0 < len := by
      rcases Nat.eq_zero_or_pos len with h0 | h0
      · rw [h0] at hne; simp at hne
      · exact h0
    obtain ⟨b, off, spot⟩ := ad
    have hfirst : ∃ v, (cf (Q 0))[0]? = some v := ⟨_, List.getElem?_eq_getElem (by rw [hcl]; exact hn)⟩
    obtain ⟨v0, hv0⟩ := hfirst
    have hc00 := (hQ 0 (by omega)).2.2 0 v0 hv0
    have hspot : spot = none := by simpa [Addr.add] using World.cell?_spot hc00
    subst hspot
    rw [Go.WideShapes.add_plain] at hc00
    refine ⟨b, off, rfl, lt_of_cell hc00, fun i hi => ?_⟩
    simp only [List.length_map, List.length_range] at hi
    have hg : ((List.range len).map Q).getD i z = Q i := by simp [List.getD, hi]
    rw [hg]
    refine mk b (off + i * n) (Q i) (fun j v hj => ?_)
    have := (hQ i (by omega)).2.2 j v hj
    rw [Go.WideShapes.add_plain] at this
    rwa [show off + (i * n + j) = off + i * n + j by omega] at this

instance : Inhabited O.Cd := ⟨O.nullC⟩
instance : Inhabited S.St := ⟨S.zero⟩
def condD {H : Type} (c : O.Cd) : DataW H := .agg [.lit (.int .i64 c.op), .lit (.int .i64 c.col), cellD c.c]
def intD {H : Type} (k : Int) : DataW H := .lit (.int .i64 k)

section
variable {H : Type} {enc : TypeId × Value → H} {w : World} {base : Nat} {held : Bool} {spare : Nat → Bool}

theorem open_cd {P : Program} {e : TypeId} {f0 f1 f2 : Field} {n : Nat} {cs : List Value} {x : DataW H × List MemPlace} (he : P.underlying e = some (.struct #[f0, f1, f2])) (ce : P.cellsOf e = 5)
    (o0 : f0.offset = 0) (o1 : f1.offset = 1) (o2 : f2.offset = 2) (c0 : P.cellsOf f0.type = 1) (c1 : P.cellsOf f1.type = 1) (c2 : P.cellsOf f2.type = 3)
    (h : DataW.trod enc P w base spare held n e cs = some x) :
    ∃ (k : Nat) (v0 v1 v2 v3 v4 : Value) (y0 y1 y2 : DataW H × List MemPlace), cs = [v0, v1, v2, v3, v4] ∧ x = (.agg [y0.1, y1.1, y2.1], y0.2 ++ y1.2 ++ y2.2) ∧
      DataW.trod enc P w base spare held k f0.type [v0] = some y0 ∧ DataW.trod enc P w base spare held k f1.type [v1] = some y1 ∧ DataW.trod enc P w base spare held k f2.type [v2, v3, v4] = some y2 := by
  obtain ⟨xs, k, _, hxy, hlen, hxl, hf⟩ := DataW.trod_struct he h
  rw [ce] at hlen
  match xs, hxl, cs, hlen with
  | [y0, y1, y2], _, [v0, v1, v2, v3, v4], _ =>
    have g0 := hf 0 f0 rfl
    have g1 := hf 1 f1 rfl
    have g2 := hf 2 f2 rfl
    simp [o0, o1, o2, c0, c1, c2] at g0 g1 g2
    exact ⟨k, v0, v1, v2, v3, v4, y0, y1, y2, rfl, by simpa using hxy, g0, g1, g2⟩
def dxl (c : O.Cd) : List Value := [.int .i64 c.op, .int .i64 c.col, .int .i64 c.c.kind, .int .u64 (c.c.num : Int), .string (str c.c.txt)]
theorem open_cond5 {n : Nat} {cs : List Value} {x : DataW H × List MemPlace} (h : DataW.trod enc Try.prog w base spare held n 51 cs = some x) :
    ∃ c : O.Cd, dOk c ∧ cs = dxl c ∧ x = (condD c, []) := by
  obtain ⟨k, v0, v1, v2, v3, v4, y0, y1, y2, hcs, hxy, g0, g1, g2⟩ := open_cd Try.underlying51 (by kernel_rfl) rfl rfl rfl (by kernel_rfl) (by kernel_rfl) (by kernel_rfl) h
  obtain ⟨z, e1, e2, e3⟩ := DataW.trod_int Try.underlying3 g0
  obtain ⟨y, f1, f2, f3⟩ := DataW.trod_int Try.underlying3 g1
  obtain ⟨l, hl, l1, l2⟩ := open_cell3 g2
  have hz := bounds_int e3
  have hy := bounds_int f3
  simp at e1 f1
  simp [cx] at l1
  obtain ⟨rfl, rfl, rfl⟩ := l1
  subst e1; subst f1; subst e2; subst f2; subst l2
  exact ⟨⟨z, y, l⟩, ⟨hz, hy, hl⟩, by rw [hcs]; rfl, by rw [hxy]; rfl⟩
theorem open_int1 {n : Nat} {cs : List Value} {x : DataW H × List MemPlace} (h : DataW.trod enc Try.prog w base spare held n 3 cs = some x) :
    ∃ c : Int, (-9223372036854775808 ≤ c ∧ c ≤ 9223372036854775807) ∧ cs = [.int .i64 c] ∧ x = (intD c, []) := by
  obtain ⟨z, e1, e2, e3⟩ := DataW.trod_int Try.underlying3 h
  exact ⟨z, bounds_int e3, e1, e2⟩
def fxl (f : Bl.F) : List Value := [.int .u64 (f 0 : Nat), .int .u64 (f 1 : Nat), .int .u64 (f 2 : Nat), .int .u64 (f 3 : Nat)]
theorem open_fil4 {n : Nat} {cs : List Value} {x : DataW H × List MemPlace} (h : DataW.trod enc Try.prog w base spare held n 43 cs = some x) (h4 : cs.length = 4) :
    ∃ f : Bl.F, Bl.fOk f ∧ cs = fxl f ∧ x = (filD f, []) := by
  match cs, h4 with
  | [c0, c1, c2, c3], _ =>
    obtain ⟨y0, y1, y2, y3, m, hx, hy0, hy1, hy2, hy3⟩ := trod_array4 Try.underlying43 (by kernel_rfl) h
    obtain ⟨x0, e0, rfl, w0⟩ := DataW.trod_int Try.underlying36 hy0
    obtain ⟨x1, e1, rfl, w1⟩ := DataW.trod_int Try.underlying36 hy1
    obtain ⟨x2, e2, rfl, w2⟩ := DataW.trod_int Try.underlying36 hy2
    obtain ⟨x3, e3, rfl, w3⟩ := DataW.trod_int Try.underlying36 hy3
    simp at e0 e1 e2 e3
    subst e0 e1 e2 e3
    obtain ⟨n0, rfl, h0⟩ := nat_u64 w0
    obtain ⟨n1, rfl, h1⟩ := nat_u64 w1
    obtain ⟨n2, rfl, h2⟩ := nat_u64 w2
    obtain ⟨n3, rfl, h3⟩ := nat_u64 w3
    refine ⟨fn4 n0 n1 n2 n3, fun j hj => ?_, rfl, by rw [hx]; rfl⟩
    have : j = 0 ∨ j = 1 ∨ j = 2 ∨ j = 3 := by omega
    rcases this with rfl | rfl | rfl | rfl <;> assumption

theorem open_conds {t : TypeId} {fuel : Nat} {a : Option Addr} {len cap : Nat} {x : DataW H × List MemPlace} (ht : Try.prog.underlying t = some (.slice 51))
    (h : DataW.trod enc Try.prog w base spare held fuel t (Value.slice a len cap).cells.toList = some x) :
    ∃ l : List O.Cd, l.length = len ∧ len ≤ maxLen ∧ (len ≤ cap ∧ cap ≤ maxLen ∧ (a = none → cap = 0)) ∧ (∀ x ∈ l, dOk x) ∧ Cds w w.heap.size a l ∧ (x.1 = .nil ∧ len = 0 ∨ ∃ r, x.1 = .slice (l.map condD) r) :=
  open_sl (α := O.Cd) (n := 5) (D := condD) (cf := dxl) (by omega) ht (by kernel_rfl) (fun _ => rfl) (fun h _ => open_cond5 h) (fun b o c hc => ⟨hc 0 _ rfl, hc 1 _ rfl, hc 2 _ rfl, hc 3 _ rfl, hc 4 _ rfl⟩) h
theorem open_ks {t : TypeId} {fuel : Nat} {a : Option Addr} {len cap : Nat} {x : DataW H × List MemPlace} (ht : Try.prog.underlying t = some (.slice 3))
    (h : DataW.trod enc Try.prog w base spare held fuel t (Value.slice a len cap).cells.toList = some x) :
    ∃ l : List Int, l.length = len ∧ len ≤ maxLen ∧ (len ≤ cap ∧ cap ≤ maxLen ∧ (a = none → cap = 0)) ∧ (∀ x ∈ l, -9223372036854775808 ≤ x ∧ x ≤ 9223372036854775807) ∧ Ints w w.heap.size a l ∧ (x.1 = .nil ∧ len = 0 ∨ ∃ r, x.1 = .slice (l.map intD) r) :=
  open_sl (α := Int) (n := 1) (D := intD) (cf := fun k => [.int .i64 k]) (by omega) ht (by kernel_rfl) (fun _ => rfl) (fun h _ => open_int1 h) (fun b o c hc => hc 0 _ rfl) h
theorem open_sts {t : TypeId} {fuel : Nat} {a : Option Addr} {len cap : Nat} {x : DataW H × List MemPlace} (ht : Try.prog.underlying t = some (.slice 40))
    (h : DataW.trod enc Try.prog w base spare held fuel t (Value.slice a len cap).cells.toList = some x) :
    ∃ l : List S.St, l.length = len ∧ len ≤ maxLen ∧ (len ≤ cap ∧ cap ≤ maxLen ∧ (a = none → cap = 0)) ∧ (∀ x ∈ l, sOk x) ∧ Sts w w.heap.size a l ∧ (x.1 = .nil ∧ len = 0 ∨ ∃ r, x.1 = .slice (l.map statsD) r) :=
  open_sl (α := S.St) (n := 8) (D := statsD) (cf := sx) (by omega) ht (by kernel_rfl) (fun _ => rfl) (fun h _ => open_stats8 h) (fun b o c hc => ⟨hc 0 _ rfl, hc 1 _ rfl, hc 2 _ rfl, hc 3 _ rfl, hc 4 _ rfl, hc 5 _ rfl, hc 6 _ rfl, hc 7 _ rfl⟩) h
theorem open_fils {t : TypeId} {fuel : Nat} {a : Option Addr} {len cap : Nat} {x : DataW H × List MemPlace} (ht : Try.prog.underlying t = some (.slice 43))
    (h : DataW.trod enc Try.prog w base spare held fuel t (Value.slice a len cap).cells.toList = some x) :
    ∃ l : List Bl.F, l.length = len ∧ len ≤ maxLen ∧ (len ≤ cap ∧ cap ≤ maxLen ∧ (a = none → cap = 0)) ∧ (∀ x ∈ l, Bl.fOk x) ∧ Fls w w.heap.size a l ∧ (x.1 = .nil ∧ len = 0 ∨ ∃ r, x.1 = .slice (l.map filD) r) :=
  open_sl (α := Bl.F) (n := 4) (D := filD) (cf := fxl) (by omega) ht (by kernel_rfl) (fun _ => rfl) (fun h h4 => open_fil4 h h4) (fun b o c hc => ⟨hc 0 _ rfl, hc 1 _ rfl, hc 2 _ rfl, hc 3 _ rfl⟩) h
end
theorem bulk_any {α H : Type} {D : α → DataW H} {d : DataW H} {l : List α} {n : Nat} (hl : l.length = n) (h : d = .nil ∧ n = 0 ∨ ∃ r, d = .slice (l.map D) r) : n + 1 ≤ Rows.uptoBulk d := by
  rcases h with ⟨rfl, rfl⟩ | ⟨r, rfl⟩
  · simp [Rows.uptoBulk]
  · have := bulk_length (l.map D)
    simp only [List.length_map] at this
    simp only [Rows.uptoBulk]
    omega
end Go.Proofs.Ytecfknolpnjokaa
