/- From what the form hands over to what the walks ask for: file systems, ops. -/
import Derived.Test.YtmjcdjekakaigaaLift
import Derived.Test.YtmjcdjekakaigaaFsBase
import Derived.Deep.Slices
import Derived.Deep.Grids
namespace Go.Proofs.Ytmjcdjekakaigaa.Fs
open Go.ChangeShapes Go.WideShapes Go.ChangeAt Go.RowKit
set_option linter.unusedVariables false

/-- a slice that came in, of elements of n cells, each of them read by 'el' -/
theorem open_slF {α : Type} {H : Type} {enc : TypeId × Value → H} {w : World} {base : Nat} {held : Bool} {spare : Nat → Bool} {P : World → Nat → Nat → α → Prop} {n : Nat} {z : α} {t et : TypeId} {D : α → DataW H} {okk : α → Prop} {cf : α → List Value} [Inhabited α] (hn : 0 < n)
    (ht : Try.prog.underlying t = some (.slice et)) (hce : Try.prog.cellsOf et = n) (hcl : ∀ c, (cf c).length = n)
    (el : ∀ {k : Nat} {cs : List Value} {x : DataW H × List MemPlace}, DataW.trod enc Try.prog w base spare held k et cs = some x → cs.length = n → ∃ c, okk c ∧ cs = cf c ∧ x = (D c, []))
    (mk : ∀ (b o : Nat) (c : α), (∀ j v, (cf c)[j]? = some v → w.cell? ⟨b, o + j, none⟩ = some v) → P w b o c)
    {fuel : Nat} {a : Option Addr} {len cap : Nat} {x : DataW H × List MemPlace}
    (h : DataW.trod enc Try.prog w base spare held fuel t (Value.slice a len cap).cells.toList = some x) :
    ∃ l : List α, l.length = len ∧ len ≤ maxLen ∧ (len ≤ cap ∧ cap ≤ maxLen ∧ (a = none → cap = 0)) ∧ (∀ x ∈ l, okk x) ∧ Sl P n z w w.heap.size a l ∧
      (x.1 = .nil ∧ len = 0 ∨ ∃ r, x.1 = .slice (l.map D) r) := by
  rcases Go.Deep.open_slice ht h with ⟨hcs, hx⟩ | ⟨ad, ln, cp, m, n', Dd, Pl, hcs, hb, hl, hm, hmm, hx, hcell⟩
  · simp [Value.cells] at hcs
    obtain ⟨rfl, rfl, rfl⟩ := hcs
    exact ⟨[], rfl, Nat.zero_le _, ⟨Nat.le_refl _, Nat.zero_le _, fun _ => rfl⟩, by simp, Sl.nil _ _ _, Or.inl ⟨by rw [hx], rfl⟩⟩
  · simp [Value.cells] at hcs
    obtain ⟨rfl, rfl, rfl⟩ := hcs
    have hlm : len ≤ m := by rw [hmm]; split <;> omega
    have each : ∀ i, i < m → ∃ c : α, okk c ∧ Dd i = D c ∧ ∀ j v, (cf c)[j]? = some v → w.cell? (ad.add (i * n + j)) = some v := by
      intro i hi
      obtain ⟨cs', h1, h2⟩ := hcell i hi
      rw [hce] at h1
      obtain ⟨_, hlen, hc⟩ := World.cells?_some h1
      obtain ⟨c, hok, rfl, hd⟩ := el h2 hlen
      simp only [Prod.mk.injEq] at hd
      refine ⟨c, hok, hd.1, fun j v hj => ?_⟩
      have hjn : j < n := by
        rcases Nat.lt_or_ge j n with h | h
        · exact h
        · rw [List.getElem?_eq_none (by rw [hcl]; exact h)] at hj; cases hj
      have := hc j (by omega)
      rw [Go.Deep.add_add] at this
      rw [this]; exact hj
    obtain ⟨Q, hQ⟩ := Go.Deep.choose_lt (α := α) each
    refine ⟨(List.range len).map Q, by simp, by omega, ⟨hl, hm, fun h => by cases h⟩, ?_, ?_, Or.inr ⟨_, by
      rw [hx]; simp only [List.map_map]; rw [List.map_congr_left (g := D ∘ Q) (fun i hi => (hQ i (by have := List.mem_range.1 hi; omega)).2.1)]⟩⟩
    · intro y hy
      obtain ⟨i, hi, rfl⟩ := List.mem_map.1 hy
      exact (hQ i (by have := List.mem_range.1 hi; omega)).1
    intro hne
    have hpos : 0 < len := by
      rcases Nat.eq_zero_or_pos len with h0 | h0
      · rw [h0] at hne; simp at hne
      · exact h0
    obtain ⟨b, off, spot⟩ := ad
    have hfirst : ∃ v, (cf (Q 0))[0]? = some v := ⟨_, List.getElem?_eq_getElem (by rw [hcl]; exact hn)⟩
    obtain ⟨v0, hv0⟩ := hfirst
    have hc00 := (hQ 0 (by omega)).2.2 0 v0 hv0
    have hspot : spot = none := by simpa [Addr.add] using World.cell?_spot hc00
    subst hspot
    rw [Go.WideShapes.add_plain] at hc00
    refine ⟨b, off, rfl, lt_of_cell hc00, fun i hi => ?_⟩
    simp only [List.length_map, List.length_range] at hi
    have hg : ((List.range len).map Q).getD i z = Q i := by simp [List.getD, hi]
    rw [hg]
    refine mk b (off + i * n) (Q i) (fun j v hj => ?_)
    have := (hQ i (by omega)).2.2 j v hj
    rw [Go.WideShapes.add_plain] at this
    rwa [show off + (i * n + j) = off + i * n + j by omega] at this


instance : Inhabited En := ⟨nulE⟩
instance : Inhabited Nd := ⟨nulN⟩
instance : Inhabited Op := ⟨nulO⟩
def enD {H : Type} (c : En) : DataW H := .agg [.lit (.string c.name), .lit (.int .i64 c.node)]
def ndD {H : Type} (c : Nd) : DataW H := .agg [.lit (.string c.live), .lit (.string c.syn)]
def opD {H : Type} (c : Op) : DataW H := .agg [.lit (.int .i64 c.kind), .lit (.string c.name), .lit (.string c.to), .lit (.string c.text)]
def opxs (o : Op) : List Value := [.int .i64 o.kind, .string (str o.name), .string (str o.to), .string (str o.text)]
section
variable {H : Type} {enc : TypeId × Value → H} {w : World} {base : Nat} {held : Bool} {spare : Nat → Bool}
theorem open_twoF {P : Program} {e : TypeId} {f0 f1 : Field} {n : Nat} {cs : List Value} {x : DataW H × List MemPlace} (he : P.underlying e = some (.struct #[f0, f1])) (ce : P.cellsOf e = 2)
    (o0 : f0.offset = 0) (o1 : f1.offset = 1) (c0 : P.cellsOf f0.type = 1) (c1 : P.cellsOf f1.type = 1)
    (h : DataW.trod enc P w base spare held n e cs = some x) :
    ∃ (k : Nat) (v0 v1 : Value) (y0 y1 : DataW H × List MemPlace), cs = [v0, v1] ∧ x = (.agg [y0.1, y1.1], y0.2 ++ y1.2) ∧
      DataW.trod enc P w base spare held k f0.type [v0] = some y0 ∧ DataW.trod enc P w base spare held k f1.type [v1] = some y1 := by
  obtain ⟨xs, k, _, hxy, hlen, hxl, hf⟩ := DataW.trod_struct he h
  rw [ce] at hlen
  match xs, hxl, cs, hlen with
  | [y0, y1], _, [v0, v1], _ =>
    have g0 := hf 0 f0 rfl
    have g1 := hf 1 f1 rfl
    simp [o0, o1, c0, c1] at g0 g1
    exact ⟨k, v0, v1, y0, y1, rfl, by simpa using hxy, g0, g1⟩
theorem open_threeF {P : Program} {e : TypeId} {f0 f1 f2 : Field} {n : Nat} {cs : List Value} {x : DataW H × List MemPlace} (he : P.underlying e = some (.struct #[f0, f1, f2])) (ce : P.cellsOf e = 3)
    (o0 : f0.offset = 0) (o1 : f1.offset = 1) (o2 : f2.offset = 2) (c0 : P.cellsOf f0.type = 1) (c1 : P.cellsOf f1.type = 1) (c2 : P.cellsOf f2.type = 1)
    (h : DataW.trod enc P w base spare held n e cs = some x) :
    ∃ (k : Nat) (v0 v1 v2 : Value) (y0 y1 y2 : DataW H × List MemPlace), cs = [v0, v1, v2] ∧
      DataW.trod enc P w base spare held k f0.type [v0] = some y0 ∧ DataW.trod enc P w base spare held k f1.type [v1] = some y1 ∧ DataW.trod enc P w base spare held k f2.type [v2] = some y2 := by
  obtain ⟨xs, k, _, hxy, hlen, hxl, hf⟩ := DataW.trod_struct he h
  rw [ce] at hlen
  match xs, hxl, cs, hlen with
  | [y0, y1, y2], _, [v0, v1, v2], _ =>
    have g0 := hf 0 f0 rfl
    have g1 := hf 1 f1 rfl
    have g2 := hf 2 f2 rfl
    simp [o0, o1, o2, c0, c1, c2] at g0 g1 g2
    exact ⟨k, v0, v1, v2, y0, y1, y2, rfl, g0, g1, g2⟩
theorem open_fourF {P : Program} {e : TypeId} {f0 f1 f2 f3 : Field} {n : Nat} {cs : List Value} {x : DataW H × List MemPlace} (he : P.underlying e = some (.struct #[f0, f1, f2, f3])) (ce : P.cellsOf e = 4)
    (o0 : f0.offset = 0) (o1 : f1.offset = 1) (o2 : f2.offset = 2) (o3 : f3.offset = 3) (c0 : P.cellsOf f0.type = 1) (c1 : P.cellsOf f1.type = 1) (c2 : P.cellsOf f2.type = 1) (c3 : P.cellsOf f3.type = 1)
    (h : DataW.trod enc P w base spare held n e cs = some x) :
    ∃ (k : Nat) (v0 v1 v2 v3 : Value) (y0 y1 y2 y3 : DataW H × List MemPlace), cs = [v0, v1, v2, v3] ∧ x = (.agg [y0.1, y1.1, y2.1, y3.1], y0.2 ++ (y1.2 ++ (y2.2 ++ y3.2))) ∧
      DataW.trod enc P w base spare held k f0.type [v0] = some y0 ∧ DataW.trod enc P w base spare held k f1.type [v1] = some y1 ∧ DataW.trod enc P w base spare held k f2.type [v2] = some y2 ∧ DataW.trod enc P w base spare held k f3.type [v3] = some y3 := by
  obtain ⟨xs, k, _, hxy, hlen, hxl, hf⟩ := DataW.trod_struct he h
  rw [ce] at hlen
  match xs, hxl, cs, hlen with
  | [y0, y1, y2, y3], _, [v0, v1, v2, v3], _ =>
    have g0 := hf 0 f0 rfl
    have g1 := hf 1 f1 rfl
    have g2 := hf 2 f2 rfl
    have g3 := hf 3 f3 rfl
    simp [o0, o1, o2, o3, c0, c1, c2, c3] at g0 g1 g2 g3
    exact ⟨k, v0, v1, v2, v3, y0, y1, y2, y3, rfl, by simpa using hxy, g0, g1, g2, g3⟩
theorem open_en2 {n : Nat} {cs : List Value} {x : DataW H × List MemPlace} (h : DataW.trod enc Try.prog w base spare held n 47 cs = some x) :
    ∃ c : En, enOk c ∧ cs = enx c ∧ x = (enD c, []) := by
  obtain ⟨k, v0, v1, y0, y1, hcs, hxy, g0, g1⟩ := open_twoF Try.underlying47 (by kernel_rfl) rfl rfl (by kernel_rfl) (by kernel_rfl) h
  obtain ⟨s, s1, s2, s3⟩ := DataW.trod_string Try.underlying9 g0
  obtain ⟨z, e1, e2, e3⟩ := DataW.trod_int Try.underlying3 g1
  have hz := bounds_int e3
  simp at e1 s1
  subst e1; subst e2; subst s1; subst s2
  exact ⟨⟨s.data.toList, z⟩, ⟨by rw [len_data]; exact s3, hz⟩, by rw [hcs]; simp [enx, str], by rw [hxy]; rfl⟩
theorem open_nd2 {n : Nat} {cs : List Value} {x : DataW H × List MemPlace} (h : DataW.trod enc Try.prog w base spare held n 49 cs = some x) :
    ∃ c : Nd, ndOk c ∧ cs = ndx c ∧ x = (ndD c, []) := by
  obtain ⟨k, v0, v1, y0, y1, hcs, hxy, g0, g1⟩ := open_twoF Try.underlying49 (by kernel_rfl) rfl rfl (by kernel_rfl) (by kernel_rfl) h
  obtain ⟨s, s1, s2, s3⟩ := DataW.trod_string Try.underlying9 g0
  obtain ⟨u, u1, u2, u3⟩ := DataW.trod_string Try.underlying9 g1
  simp at u1 s1
  subst u1; subst u2; subst s1; subst s2
  exact ⟨⟨s.data.toList, u.data.toList⟩, ⟨by rw [len_data]; exact s3, by rw [len_data]; exact u3⟩, by rw [hcs]; simp [ndx, str], by rw [hxy]; rfl⟩
theorem open_op4 {n : Nat} {cs : List Value} {x : DataW H × List MemPlace} (h : DataW.trod enc Try.prog w base spare held n 27 cs = some x) :
    ∃ c : Op, opOk c ∧ cs = opxs c ∧ x = (opD c, []) := by
  obtain ⟨k, v0, v1, v2, v3, y0, y1, y2, y3, hcs, hxy, g0, g1, g2, g3⟩ := open_fourF Try.underlying27 (by kernel_rfl) rfl rfl rfl rfl (by kernel_rfl) (by kernel_rfl) (by kernel_rfl) (by kernel_rfl) h
  obtain ⟨z, e1, e2, e3⟩ := DataW.trod_int Try.underlying3 g0
  obtain ⟨s, s1, s2, s3⟩ := DataW.trod_string Try.underlying9 g1
  obtain ⟨u, u1, u2, u3⟩ := DataW.trod_string Try.underlying9 g2
  obtain ⟨v, q1, q2, q3⟩ := DataW.trod_string Try.underlying9 g3
  have hz := bounds_int e3
  simp at e1 s1 u1 q1
  subst e1; subst e2; subst u1; subst u2; subst s1; subst s2; subst q1; subst q2
  exact ⟨⟨z, s.data.toList, u.data.toList, v.data.toList⟩, ⟨hz, by rw [len_data]; exact s3, by rw [len_data]; exact u3, by rw [len_data]; exact q3⟩, by rw [hcs]; simp [opxs, str], by rw [hxy]; rfl⟩
theorem open_ens {t : TypeId} {fuel : Nat} {a : Option Addr} {len cap : Nat} {x : DataW H × List MemPlace} (ht : Try.prog.underlying t = some (.slice 47))
    (h : DataW.trod enc Try.prog w base spare held fuel t (Value.slice a len cap).cells.toList = some x) :
    ∃ l : List En, l.length = len ∧ len ≤ maxLen ∧ (len ≤ cap ∧ cap ≤ maxLen ∧ (a = none → cap = 0)) ∧ (∀ x ∈ l, enOk x) ∧ Ens w w.heap.size a l ∧ (x.1 = .nil ∧ len = 0 ∨ ∃ r, x.1 = .slice (l.map enD) r) :=
  open_slF (α := En) (n := 2) (D := enD) (cf := enx) (by omega) ht (by kernel_rfl) (fun _ => rfl) (fun h _ => open_en2 h) (fun b o c hc => ⟨hc 0 _ rfl, hc 1 _ rfl⟩) h
theorem open_nds {t : TypeId} {fuel : Nat} {a : Option Addr} {len cap : Nat} {x : DataW H × List MemPlace} (ht : Try.prog.underlying t = some (.slice 49))
    (h : DataW.trod enc Try.prog w base spare held fuel t (Value.slice a len cap).cells.toList = some x) :
    ∃ l : List Nd, l.length = len ∧ len ≤ maxLen ∧ (len ≤ cap ∧ cap ≤ maxLen ∧ (a = none → cap = 0)) ∧ (∀ x ∈ l, ndOk x) ∧ Nds w w.heap.size a l ∧ (x.1 = .nil ∧ len = 0 ∨ ∃ r, x.1 = .slice (l.map ndD) r) :=
  open_slF (α := Nd) (n := 2) (D := ndD) (cf := ndx) (by omega) ht (by kernel_rfl) (fun _ => rfl) (fun h _ => open_nd2 h) (fun b o c hc => ⟨hc 0 _ rfl, hc 1 _ rfl⟩) h
/-- a slice of ops that came in -/
theorem open_ops {t : TypeId} {fuel : Nat} {a : Option Addr} {len cap : Nat} {x : DataW H × List MemPlace} (ht : Try.prog.underlying t = some (.slice 27))
    (h : DataW.trod enc Try.prog w base spare held fuel t (Value.slice a len cap).cells.toList = some x) :
    ∃ l : List Op, l.length = len ∧ len ≤ maxLen ∧ (len ≤ cap ∧ cap ≤ maxLen ∧ (a = none → cap = 0)) ∧ (∀ x ∈ l, opOk x) ∧ Ops w w.heap.size a l ∧ (x.1 = .nil ∧ len = 0 ∨ ∃ r, x.1 = .slice (l.map opD) r) :=
  open_slF (α := Op) (n := 4) (D := opD) (cf := opxs) (by omega) ht (by kernel_rfl) (fun _ => rfl) (fun h _ => open_op4 h) (fun b o c hc => ⟨hc 0 _ rfl, hc 1 _ rfl, hc 2 _ rfl, hc 3 _ rfl⟩) h
set_option maxRecDepth 100000 in
/-- an op that came in -/
theorem open_op {r : Reach} {b0 : Nat} {v : Value} {d : DataW H} {ps : List MemPlace} (hval : Value.okWide Try.prog w r b0 27 v) (hd : DataW.Trod enc Try.prog w base spare held 27 v d ps) :
    ∃ c : Op, v = opV c ∧ d = opD c ∧ ps = [] ∧ opOk c := by
  obtain ⟨cs, rfl, hsz⟩ := okWide_struct Try.underlying27 hval
  obtain ⟨fuel, hf⟩ := hd
  obtain ⟨c, hok, h1, h2⟩ := open_op4 hf
  have hcs : cs.toList = opxs c := by simpa [Value.cells] using h1
  refine ⟨c, ?_, (Prod.mk.injEq _ _ _ _ ▸ h2).1, (Prod.mk.injEq _ _ _ _ ▸ h2).2, hok⟩
  unfold opV
  congr 1
  apply Array.toList_inj.mp
  rw [hcs]; rfl
theorem open_slice1F {t e : TypeId} {n : Nat} {v : Value} {x : DataW H × List MemPlace} (ht : Try.prog.underlying t = some (.slice e)) (h : DataW.trod enc Try.prog w base spare held n t [v] = some x) : ∃ a len cap, v = .slice a len cap := by
  rcases Go.Deep.open_slice ht h with ⟨hcs, hx⟩ | ⟨ad, ln, cp, m, n', Dd, Pl, hcs, hb, hl, hm, hmm, hx, hcell⟩
  · exact ⟨_, _, _, by simpa using hcs⟩
  · exact ⟨_, _, _, by simpa using hcs⟩
set_option maxRecDepth 100000 in
/-- a file system that came in -/
theorem open_fs {r : Reach} {b0 : Nat} {v : Value} {d : DataW H} {ps : List MemPlace} (hval : Value.okWide Try.prog w r b0 25 v) (hd : DataW.Trod enc Try.prog w base spare held 25 v d ps) :
    ∃ (p : At) (f : T), v = fsV p f ∧ Fss w w.heap.size p f := by
  obtain ⟨cs, rfl, hsz⟩ := okWide_struct Try.underlying25 hval
  obtain ⟨fuel, hf⟩ := hd
  obtain ⟨k, v0, v1, v2, y0, y1, y2, hcs, g0, g1, g2⟩ := open_threeF Try.underlying25 (by kernel_rfl) rfl rfl rfl (by kernel_rfl) (by kernel_rfl) (by kernel_rfl) hf
  obtain ⟨an, ln, cn, rfl⟩ := open_slice1F Try.underlying22 g0
  obtain ⟨ad, ld, cd, rfl⟩ := open_slice1F Try.underlying23 g1
  obtain ⟨ay, ls, cy, rfl⟩ := open_slice1F Try.underlying23 g2
  obtain ⟨l, rfl, h2, h3, h4, h5, _⟩ := open_nds (a := an) (cap := cn) Try.underlying22 (by simpa [Value.cells] using g0)
  obtain ⟨m, rfl, k2, k3, k4, k5, _⟩ := open_ens (a := ad) (cap := cd) Try.underlying23 (by simpa [Value.cells] using g1)
  obtain ⟨q, rfl, q2, q3, q4, q5, _⟩ := open_ens (a := ay) (cap := cy) Try.underlying23 (by simpa [Value.cells] using g2)
  refine ⟨⟨an, cn, ad, cd, ay, cy⟩, ⟨l, m, q⟩, ?_, ⟨h5, k5, q5, h3, k3, q3, h4, k4, q4⟩⟩
  have : cs.toList = [.slice an l.length cn, .slice ad m.length cd, .slice ay q.length cy] := by simpa [Value.cells] using hcs
  unfold fsV
  congr 1
  apply Array.toList_inj.mp
  rw [this]
end
end Go.Proofs.Ytmjcdjekakaigaa.Fs
