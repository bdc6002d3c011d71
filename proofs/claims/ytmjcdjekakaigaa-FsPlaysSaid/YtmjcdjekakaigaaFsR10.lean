/- Words for the reference's DoneOf and CrashedOf: a file system that is being made in a block. -/
import Derived.Test.YtmjcdjekakaigaaFsR8
import Derived.Test.YtmjcdjekakaigaaFsD1
namespace Go.Proofs.Ytmjcdjekakaigaa.Fs
open Go.RowKit
set_option linter.unusedVariables false

/-- a slice whose cells are texts and numbers doesn't lie in a block whose cells are slices -/
theorem nds_off {w w' : World} {B RB : Nat} {a : Option Addr} {l : List Nd} {t : TypeId} {vs : Array Value} (h : Nds w B a l) (hb : Bk w RB t vs) (hv : ∀ (i : Nat) (v : Value) (s : ByteArray), vs[i]? = some v → v ≠ .string s) (hm : ∀ g, g ≠ RB → w'.heap[g]? = w.heap[g]?) : Nds w' B a l := by
  intro hne
  obtain ⟨b, off, e, hlt, hc⟩ := h hne
  have hbr : b ≠ RB := by
    rintro rfl
    have h1 := (hc 0 (List.length_pos_iff.2 hne)).1
    rw [hb.at] at h1
    exact hv _ _ _ h1 rfl
  exact ⟨b, off, e, hlt, fun i hi => ndAt_firm w w' b _ _ (fun j => by simp only [World.cell?, hm b hbr]) (hc i hi)⟩
theorem ens_off {w w' : World} {B RB : Nat} {a : Option Addr} {l : List En} {t : TypeId} {vs : Array Value} (h : Ens w B a l) (hb : Bk w RB t vs) (hv : ∀ (i : Nat) (v : Value) (s : ByteArray), vs[i]? = some v → v ≠ .string s) (hm : ∀ g, g ≠ RB → w'.heap[g]? = w.heap[g]?) : Ens w' B a l := by
  intro hne
  obtain ⟨b, off, e, hlt, hc⟩ := h hne
  have hbr : b ≠ RB := by
    rintro rfl
    have h1 := (hc 0 (List.length_pos_iff.2 hne)).1
    rw [hb.at] at h1
    exact hv _ _ _ h1 rfl
  exact ⟨b, off, e, hlt, fun i hi => enAt_firm w w' b _ _ (fun j => by simp only [World.cell?, hm b hbr]) (hc i hi)⟩
theorem slices3 {a b c : Option Addr} {k1 k2 k3 m1 m2 m3 : Nat} (i : Nat) (v : Value) (s : ByteArray) (h : #[Value.slice a k1 m1, .slice b k2 m2, .slice c k3 m3][i]? = some v) : v ≠ .string s := by
  rintro rfl
  have hi : i = 0 ∨ i = 1 ∨ i = 2 ∨ 3 ≤ i := by omega
  rcases hi with rfl | rfl | rfl | hi
  · simp at h
  · simp at h
  · simp at h
  · rw [Array.getElem?_eq_none (by simpa using hi)] at h; cases h
theorem heap_put3 (w : World) (RB : Nat) (x y z : Value) (g : Nat) (hg : g ≠ RB) : (((w.setCell ⟨RB, 0, none⟩ x).setCell ⟨RB, 1, none⟩ y).setCell ⟨RB, 2, none⟩ z).heap[g]? = w.heap[g]? := by
  rw [heap_set _ _ _ _ hg, heap_set _ _ _ _ hg, heap_set _ _ _ _ hg]
/-- a file system that can be read, behind a store into a block of slices -/
theorem Fss.off {w w' : World} {B RB : Nat} {p : At} {f : T} {t : TypeId} {vs : Array Value} (h : Fss w B p f) (hb : Bk w RB t vs) (hv : ∀ (i : Nat) (v : Value) (s : ByteArray), vs[i]? = some v → v ≠ .string s) (hm : ∀ g, g ≠ RB → w'.heap[g]? = w.heap[g]?) : Fss w' B p f :=
  ⟨nds_off h.nds hb hv hm, ens_off h.dir hb hv hm, ens_off h.syn hb hv hm, h.ncap, h.dcap, h.scap, h.nok, h.dok, h.sok⟩
/-- the last store: the result is laid into its block -/
theorem fin3 {w W : World} {RB : Nat} {p : At} {g : T} {a b c : Option Addr} {k1 k2 k3 m1 m2 m3 : Nat} (hb : Bk W RB 25 #[.slice a k1 m1, .slice b k2 m2, .slice c k3 m3]) (hf : Fss W W.heap.size p g) (hS : w.heap.size ≤ RB) (hw : Below w.heap.size w W) (n1 n2 n3 : Nat) (e1 : n1 = g.nodes.length) (e2 : n2 = g.dir.length) (e3 : n3 = g.syn.length) :
    Fss (((W.setCell ⟨RB, 0, none⟩ (.slice p.an n1 p.cn)).setCell ⟨RB, 1, none⟩ (.slice p.ad n2 p.cd)).setCell ⟨RB, 2, none⟩ (.slice p.ay n3 p.cy)) (((W.setCell ⟨RB, 0, none⟩ (.slice p.an n1 p.cn)).setCell ⟨RB, 1, none⟩ (.slice p.ad n2 p.cd)).setCell ⟨RB, 2, none⟩ (.slice p.ay n3 p.cy)).heap.size p g ∧
    Below w.heap.size w (((W.setCell ⟨RB, 0, none⟩ (.slice p.an n1 p.cn)).setCell ⟨RB, 1, none⟩ (.slice p.ad n2 p.cd)).setCell ⟨RB, 2, none⟩ (.slice p.ay n3 p.cy)) ∧
    Bk (((W.setCell ⟨RB, 0, none⟩ (.slice p.an n1 p.cn)).setCell ⟨RB, 1, none⟩ (.slice p.ad n2 p.cd)).setCell ⟨RB, 2, none⟩ (.slice p.ay n3 p.cy)) RB 25 #[.slice p.an n1 p.cn, .slice p.ad n2 p.cd, .slice p.ay n3 p.cy] := by
  subst e1; subst e2; subst e3
  refine ⟨?_, ((hw.setCell (p := ⟨RB, 0, none⟩) hS _).setCell (p := ⟨RB, 1, none⟩) hS _).setCell (p := ⟨RB, 2, none⟩) hS _, ?_⟩
  · have h := hf.off (w' := ((W.setCell ⟨RB, 0, none⟩ (.slice p.an g.nodes.length p.cn)).setCell ⟨RB, 1, none⟩ (.slice p.ad g.dir.length p.cd)).setCell ⟨RB, 2, none⟩ (.slice p.ay g.syn.length p.cy)) hb slices3 (fun k hk => heap_put3 _ _ _ _ _ _ hk)
    exact h.mono (by simp)
  · have := ((hb.set 0 (.slice p.an g.nodes.length p.cn)).set 1 (.slice p.ad g.dir.length p.cd)).set 2 (.slice p.ay g.syn.length p.cy)
    simpa using this
/-- the file system that is being made: its nodes are a row of one's own, its directories can be read -/
structure Mkd (w : World) (B O : Nat) (f : T) (nv : Value) (p : At) : Prop where
  nro : NRow B f.nodes nv w
  dir : Ens w w.heap.size p.ad f.dir
  syn : Ens w w.heap.size p.ay f.syn
  dcap : capOk f.dir.length p.cd p.ad
  scap : capOk f.syn.length p.cy p.ay
  nok : ∀ x ∈ f.nodes, ndOk x
  dok : ∀ x ∈ f.dir, enOk x
  sok : ∀ x ∈ f.syn, enOk x
  bk : Bk w O 25 #[nv, .slice p.ad f.dir.length p.cd, .slice p.ay f.syn.length p.cy]
  ge : B ≤ O
theorem Mkd.fss {w : World} {B O : Nat} {f : T} {nv : Value} {p : At} (h : Mkd w B O f nv p) : ∃ a c, nv = .slice a f.nodes.length c ∧ Fss w w.heap.size ⟨a, c, p.ad, p.cd, p.ay, p.cy⟩ f := by
  obtain ⟨a, c, e, h1, h2⟩ := nrow_nds h.nro
  exact ⟨a, c, e, h1, h.dir, h.syn, h2, h.dcap, h.scap, h.nok, h.dok, h.sok⟩
theorem Mkd.next {w w' : World} {B O : Nat} {f : T} {nv : Value} {p : At} (h : Mkd w B O f nv p) (hb : Below w.heap.size w w') : Mkd w' B O f nv p :=
  ⟨h.nro.below hb, h.dir.next enAt_firm hb, h.syn.next enAt_firm hb, h.dcap, h.scap, h.nok, h.dok, h.sok, h.bk.next hb, h.ge⟩
/-- another directory is laid into it; another one for good -/
theorem Mkd.setD {w : World} {B O : Nat} {f : T} {nv : Value} {p : At} (h : Mkd w B O f nv p) {d : List En} {a : Option Addr} {c m : Nat} (hm : m = d.length) (hd : Ens w w.heap.size a d) (hc : capOk d.length c a) (hok : ∀ x ∈ d, enOk x) :
    Mkd (w.setCell ⟨O, 1, none⟩ (.slice a m c)) B O ⟨f.nodes, d, f.syn⟩ nv ⟨p.an, p.cn, a, c, p.ay, p.cy⟩ := by
  subst hm
  obtain ⟨an, cn, rfl, -, -⟩ := nrow_nds h.nro
  have hm : ∀ g, g ≠ O → (w.setCell ⟨O, 1, none⟩ (.slice a d.length c)).heap[g]? = w.heap[g]? := fun g hg => heap_set _ _ _ _ hg
  have hs : (w.setCell ⟨O, 1, none⟩ (.slice a d.length c)).heap.size = w.heap.size := by simp
  refine ⟨row_move h.nro (fun g hg => hm g (fun e => bk_kind h.nro h.bk (by decide) (by rw [hg, e]))), ?_, ?_, hc, h.scap, h.nok, hok, h.sok, ?_, h.ge⟩
  · rw [hs]; exact ens_off hd h.bk slices3 hm
  · rw [hs]; exact ens_off h.syn h.bk slices3 hm
  · have := h.bk.set 1 (.slice a d.length c)
    simpa using this
theorem Mkd.setS {w : World} {B O : Nat} {f : T} {nv : Value} {p : At} (h : Mkd w B O f nv p) {d : List En} {a : Option Addr} {c m : Nat} (hm : m = d.length) (hd : Ens w w.heap.size a d) (hc : capOk d.length c a) (hok : ∀ x ∈ d, enOk x) :
    Mkd (w.setCell ⟨O, 2, none⟩ (.slice a m c)) B O ⟨f.nodes, f.dir, d⟩ nv ⟨p.an, p.cn, p.ad, p.cd, a, c⟩ := by
  subst hm
  obtain ⟨an, cn, rfl, -, -⟩ := nrow_nds h.nro
  have hm : ∀ g, g ≠ O → (w.setCell ⟨O, 2, none⟩ (.slice a d.length c)).heap[g]? = w.heap[g]? := fun g hg => heap_set _ _ _ _ hg
  have hs : (w.setCell ⟨O, 2, none⟩ (.slice a d.length c)).heap.size = w.heap.size := by simp
  refine ⟨row_move h.nro (fun g hg => hm g (fun e => bk_kind h.nro h.bk (by decide) (by rw [hg, e]))), ?_, ?_, h.dcap, hc, h.nok, h.dok, hok, ?_, h.ge⟩
  · rw [hs]; exact ens_off h.dir h.bk slices3 hm
  · rw [hs]; exact ens_off hd h.bk slices3 hm
  · have := h.bk.set 2 (.slice a d.length c)
    simpa using this
/-- other nodes are laid into it: a row of one's own, and what else there was stays -/
theorem Mkd.setN {w w' : World} {B O : Nat} {f : T} {nv : Value} {p : At} {l : List Nd} {v' : Value} (h1 : NRow B l v' w') (h2 : Ens w' w'.heap.size p.ad f.dir) (h3 : Ens w' w'.heap.size p.ay f.syn) (hok : ∀ x ∈ l, ndOk x)
    (h : Mkd w B O f nv p) (hb : Bk w' O 25 #[nv, .slice p.ad f.dir.length p.cd, .slice p.ay f.syn.length p.cy]) :
    Mkd (w'.setCell ⟨O, 0, none⟩ v') B O ⟨l, f.dir, f.syn⟩ v' p := by
  obtain ⟨an, cn, rfl, -, -⟩ := nrow_nds h.nro
  have hm : ∀ g, g ≠ O → (w'.setCell ⟨O, 0, none⟩ v').heap[g]? = w'.heap[g]? := fun g hg => heap_set _ _ _ _ hg
  have hs : (w'.setCell ⟨O, 0, none⟩ v').heap.size = w'.heap.size := by simp
  refine ⟨row_move h1 (fun g hg => hm g (fun e => bk_kind h1 hb (by decide) (by rw [hg, e]))), ?_, ?_, h.dcap, h.scap, hok, h.dok, h.sok, ?_, h.ge⟩
  · rw [hs]; exact ens_off h2 hb slices3 hm
  · rw [hs]; exact ens_off h3 hb slices3 hm
  · have := hb.set 0 v'
    simpa using this
/-- a node is changed: directories that lie elsewhere stay -/
theorem Mkd.putN {w : World} {B O : Nat} {f : T} {p : At} {g n c : Nat} (h : Mkd w B O f (.slice (some ⟨g, 0, none⟩) n c) p) (hd : Ens w B p.ad f.dir ∨ ∃ B2 v, ERow B2 f.dir v w ∧ ∃ m, v = .slice p.ad m p.cd) (hs : Ens w B p.ay f.syn)
    {i j : Nat} {u : Value} {y : Nd} (hi : i < f.nodes.length) (hj : j < 2) (e : (ndx (f.nodes.getD i nulN)).set j u = ndx y) (hy : ndOk y) :
    Mkd (w.setCell ⟨g, i * 2 + j, none⟩ u) B O ⟨f.nodes.set i y, f.dir, f.syn⟩ (.slice (some ⟨g, 0, none⟩) n c) p := by
  have hg := (h.nro.lt g rfl).1
  have hm : ∀ k, k ≠ g → (w.setCell ⟨g, i * 2 + j, none⟩ u).heap[k]? = w.heap[k]? := fun k hk => heap_set _ _ _ _ hk
  have hz : (w.setCell ⟨g, i * 2 + j, none⟩ u).heap.size = w.heap.size := by simp
  have old : ∀ {a : Option Addr} {l : List En}, Ens w B a l → Ens (w.setCell ⟨g, i * 2 + j, none⟩ u) w.heap.size a l := fun {a l} hh hne => by
    obtain ⟨b, off, e1, hlt, hc⟩ := hh hne
    have := h.nro.lt g rfl
    exact ⟨b, off, e1, by omega, fun k hk => enAt_firm _ _ b _ _ (fun q => by simp only [World.cell?, hm b (by omega)]) (hc k hk)⟩
  refine ⟨NRow.put h.nro hi hj e, ?_, ?_, h.dcap, h.scap, ?_, h.dok, h.sok, ?_, h.ge⟩
  · rw [hz]
    rcases hd with hd | ⟨B2, v, hr, m, rfl⟩
    · exact old hd
    · have h2 : ERow B2 f.dir (.slice p.ad m p.cd) (w.setCell ⟨g, i * 2 + j, none⟩ u) := row_move hr (fun k hk => hm k (fun e2 => row_kinds hr h.nro (by decide) hk (by rw [e2]; rfl)))
      obtain ⟨a, c2, e2, h3, -⟩ := erow_ens h2
      simp only [Value.slice.injEq] at e2
      obtain ⟨rfl, _, _⟩ := e2
      rw [hz] at h3
      exact h3
  · rw [hz]; exact old hs
  · intro x hx
    rcases List.mem_or_eq_of_mem_set hx with hx | hx
    · exact h.nok x hx
    · rw [hx]; exact hy
  · exact h.bk.move (hm O (fun e2 => bk_kind h.nro h.bk (by decide) (by rw [e2]; rfl)))
/-- what a region has made of nodes of its own and of directories that came in -/
theorem mkd_of {W2 W' : World} {O : Nat} {f : T} {v : Value} {p : At} (h : Fss W2 W2.heap.size p f) (hb : Below W2.heap.size W2 W') (hr : NRow W2.heap.size f.nodes v W')
    (hk : Bk W' O 25 #[v, .slice p.ad f.dir.length p.cd, .slice p.ay f.syn.length p.cy]) (hO : W2.heap.size ≤ O) : Mkd W' W2.heap.size O f v ⟨none, 0, p.ad, p.cd, p.ay, p.cy⟩ :=
  ⟨hr, (h.dir.below enAt_firm hb).mono hb.size, (h.syn.below enAt_firm hb).mono hb.size, h.dcap, h.scap, h.nok, h.dok, h.sok, hk, hO⟩
theorem mkd_new {W2 w9 : World} {f : T} {v : Value} {p : At} (h : Fss W2 W2.heap.size p f) (hb : Below W2.heap.size W2 w9) (hr : NRow W2.heap.size f.nodes v w9) :
    Mkd (w9.alloc (.cells #[v, .slice p.ad f.dir.length p.cd, .slice p.ay f.syn.length p.cy] 25)) W2.heap.size w9.heap.size f v ⟨none, 0, p.ad, p.cd, p.ay, p.cy⟩ ∧ Below W2.heap.size W2 (w9.alloc (.cells #[v, .slice p.ad f.dir.length p.cd, .slice p.ay f.syn.length p.cy] 25)) :=
  have hb' := hb.alloc hb.size (.cells #[v, .slice p.ad f.dir.length p.cd, .slice p.ay f.syn.length p.cy] 25)
  ⟨mkd_of h hb' (World.ownsRow.alloc hr _) (bk_new _ _ _) hb.size, hb'⟩
theorem mkd_put {W2 w9 : World} {f : T} {v : Value} {p : At} {O : Nat} (h : Fss W2 W2.heap.size p f) (hb : Below W2.heap.size W2 w9) (hr : NRow W2.heap.size f.nodes v w9) (hz : Bk w9 O 25 #[.slice none 0 0, .slice none 0 0, .slice none 0 0]) (hO : W2.heap.size ≤ O) :
    Mkd (((w9.setCell ⟨O, 0, none⟩ v).setCell ⟨O, 1, none⟩ (.slice p.ad f.dir.length p.cd)).setCell ⟨O, 2, none⟩ (.slice p.ay f.syn.length p.cy)) W2.heap.size O f v ⟨none, 0, p.ad, p.cd, p.ay, p.cy⟩ ∧ Below W2.heap.size W2 (((w9.setCell ⟨O, 0, none⟩ v).setCell ⟨O, 1, none⟩ (.slice p.ad f.dir.length p.cd)).setCell ⟨O, 2, none⟩ (.slice p.ay f.syn.length p.cy)) :=
  have hb' := ((hb.setCell (p := ⟨O, 0, none⟩) hO v).setCell (p := ⟨O, 1, none⟩) hO (.slice p.ad f.dir.length p.cd)).setCell (p := ⟨O, 2, none⟩) hO (.slice p.ay f.syn.length p.cy)
  ⟨mkd_of h hb' (row_put3 hr hz (by decide) _ _ _) (by have := ((hz.set 0 v).set 1 (.slice p.ad f.dir.length p.cd)).set 2 (.slice p.ay f.syn.length p.cy); simpa using this) hO, hb'⟩
theorem app_set (l : List Nd) (y z : Nd) : (l ++ [z]).set l.length y = l ++ [y] := by
  rw [List.set_append_right _ _ (Nat.le_refl _)]; simp
theorem app_last (l : List Nd) (z : Nd) : (l ++ [z]).getD l.length nulN = z := by simp [List.getD]
theorem withE_ln (l : List En) (x : En) : (withE l x).length ≤ l.length + l.length + 1 := by
  unfold withE
  have h1 := List.length_filter_le (fun e => decide (e.name < x.name)) l
  have h2 := List.length_filter_le (fun e => decide (x.name < e.name)) l
  simp only [List.length_append, List.length_cons]
  omega
theorem nodeOf_no {l : List En} {n : S} (h : has l n = false) : nodeOf l n = -1 := by
  unfold nodeOf has at *
  rw [List.find?_eq_none.2 (fun x hx => by have := List.any_eq_false.1 h x hx; simpa using this)]
  rfl
theorem play_single (f : T) (o : Op) : play f [o] = if check f ≠ 0 then (nul, check f) else if (doOp f o).2 ≠ 0 then (nul, (doOp f o).2) else ((doOp f o).1, 0) := by
  unfold play
  split
  · rfl
  · rw [if_neg (by simp)]
    rfl
end Go.Proofs.Ytmjcdjekakaigaa.Fs
