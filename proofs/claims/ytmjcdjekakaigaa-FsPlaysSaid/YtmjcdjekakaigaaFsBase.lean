/- Words for entries, nodes, file systems, ops in memory. -/
import Derived.Test.YtmjcdjekakaigaaFsPlain
import Derived.Test.YtmjcdjekakaigaaSl0
import Derived.Deep.AppendLies
import Derived.Lib.SliceRun
namespace Go.Proofs.Ytmjcdjekakaigaa.Fs
open Go.RowKit
set_option linter.unusedVariables false

def enx (c : En) : List Value := [.string (str c.name), .int .i64 c.node]
def enV (c : En) : Value := .agg #[.string (str c.name), .int .i64 c.node]
def enOk (c : En) : Prop := c.name.length ≤ maxLen ∧ -9223372036854775808 ≤ c.node ∧ c.node ≤ 9223372036854775807
def enAt (w : World) (b o : Nat) (c : En) : Prop := w.cell? ⟨b, o, none⟩ = some (.string (str c.name)) ∧ w.cell? ⟨b, o + 1, none⟩ = some (.int .i64 c.node)
theorem enAt_firm : Firm enAt := fun w w' b o x h ⟨h0, h1⟩ => ⟨by rw [h]; exact h0, by rw [h]; exact h1⟩
abbrev Ens (w : World) (B : Nat) (a : Option Addr) (l : List En) : Prop := Sl enAt 2 nulE w B a l
def ndx (c : Nd) : List Value := [.string (str c.live), .string (str c.syn)]
def ndV (c : Nd) : Value := .agg #[.string (str c.live), .string (str c.syn)]
def ndOk (c : Nd) : Prop := c.live.length ≤ maxLen ∧ c.syn.length ≤ maxLen
def ndAt (w : World) (b o : Nat) (c : Nd) : Prop := w.cell? ⟨b, o, none⟩ = some (.string (str c.live)) ∧ w.cell? ⟨b, o + 1, none⟩ = some (.string (str c.syn))
theorem ndAt_firm : Firm ndAt := fun w w' b o x h ⟨h0, h1⟩ => ⟨by rw [h]; exact h0, by rw [h]; exact h1⟩
abbrev Nds (w : World) (B : Nat) (a : Option Addr) (l : List Nd) : Prop := Sl ndAt 2 nulN w B a l
def opV (o : Op) : Value := .agg #[.int .i64 o.kind, .string (str o.name), .string (str o.to), .string (str o.text)]
def opOk (o : Op) : Prop := (-9223372036854775808 ≤ o.kind ∧ o.kind ≤ 9223372036854775807) ∧ o.name.length ≤ maxLen ∧ o.to.length ≤ maxLen ∧ o.text.length ≤ maxLen
def opAt (w : World) (b o : Nat) (c : Op) : Prop := w.cell? ⟨b, o, none⟩ = some (.int .i64 c.kind) ∧ w.cell? ⟨b, o + 1, none⟩ = some (.string (str c.name)) ∧ w.cell? ⟨b, o + 2, none⟩ = some (.string (str c.to)) ∧ w.cell? ⟨b, o + 3, none⟩ = some (.string (str c.text))
theorem opAt_firm : Firm opAt := fun w w' b o x h ⟨h0, h1, h2, h3⟩ => ⟨by rw [h]; exact h0, by rw [h]; exact h1, by rw [h]; exact h2, by rw [h]; exact h3⟩
abbrev Ops (w : World) (B : Nat) (a : Option Addr) (l : List Op) : Prop := Sl opAt 4 nulO w B a l
theorem info_en : (Try.prog.info? 47).map (fun i => (i.zero, i.size, i.bytes)) = some (some (.agg #[.string ByteArray.empty, .int .i64 0]), 2, 24) := by kernel_rfl
theorem info_nd : (Try.prog.info? 49).map (fun i => (i.zero, i.size, i.bytes)) = some (some (.agg #[.string ByteArray.empty, .string ByteArray.empty]), 2, 32) := by kernel_rfl

/-- a capacity that a slice may have -/
def capOk (n c : Nat) (a : Option Addr) : Prop := n ≤ c ∧ c ≤ maxLen ∧ (a = none → c = 0)
/-- the value of a file system: where its three slices lie -/
structure At where
  an : Option Addr
  cn : Nat
  ad : Option Addr
  cd : Nat
  ay : Option Addr
  cy : Nat
abbrev fsV (p : At) (f : T) : Value := .agg #[.slice p.an f.nodes.length p.cn, .slice p.ad f.dir.length p.cd, .slice p.ay f.syn.length p.cy]
/-- a file system that can be read -/
structure Fss (w : World) (B : Nat) (p : At) (f : T) : Prop where
  nds : Nds w B p.an f.nodes
  dir : Ens w B p.ad f.dir
  syn : Ens w B p.ay f.syn
  ncap : capOk f.nodes.length p.cn p.an
  dcap : capOk f.dir.length p.cd p.ad
  scap : capOk f.syn.length p.cy p.ay
  nok : ∀ x ∈ f.nodes, ndOk x
  dok : ∀ x ∈ f.dir, enOk x
  sok : ∀ x ∈ f.syn, enOk x
theorem Fss.below {w w' : World} {B : Nat} {p : At} {f : T} (h : Fss w B p f) (hb : Below B w w') : Fss w' B p f := ⟨h.nds.below ndAt_firm hb, h.dir.below enAt_firm hb, h.syn.below enAt_firm hb, h.ncap, h.dcap, h.scap, h.nok, h.dok, h.sok⟩
theorem Fss.mono {w : World} {B B' : Nat} {p : At} {f : T} (h : Fss w B p f) (hB : B ≤ B') : Fss w B' p f := ⟨h.nds.mono hB, h.dir.mono hB, h.syn.mono hB, h.ncap, h.dcap, h.scap, h.nok, h.dok, h.sok⟩
theorem Fss.next {w w' : World} {p : At} {f : T} (h : Fss w w.heap.size p f) (hb : Below w.heap.size w w') : Fss w' w'.heap.size p f := (h.below hb).mono hb.size
def nulAt : At := ⟨none, 0, none, 0, none, 0⟩
theorem Fss.nul (w : World) (B : Nat) : Fss w B nulAt nul :=
  ⟨Sl.nil _ _ _, Sl.nil _ _ _, Sl.nil _ _ _, ⟨Nat.le_refl _, by unfold maxLen; exact Nat.zero_le _, fun _ => rfl⟩, ⟨Nat.le_refl _, by unfold maxLen; exact Nat.zero_le _, fun _ => rfl⟩, ⟨Nat.le_refl _, by unfold maxLen; exact Nat.zero_le _, fun _ => rfl⟩, by simp [Fs.nul], by simp [Fs.nul], by simp [Fs.nul]⟩

/-- rows of entries, of nodes, of one's own -/
def ERow (B : Nat) (xs : List En) (v : Value) (wr : World) : Prop := wr.ownsRow B 47 2 v xs.length (xs.flatMap enx)
def NRow (B : Nat) (xs : List Nd) (v : Value) (wr : World) : Prop := wr.ownsRow B 49 2 v xs.length (xs.flatMap ndx)
theorem ERow.below {B : Nat} {xs : List En} {v : Value} {w w' : World} (h : ERow B xs v w) (hb : Below w.heap.size w w') : ERow B xs v w' := row_below h hb
theorem NRow.below {B : Nat} {xs : List Nd} {v : Value} {w w' : World} (h : NRow B xs v w) (hb : Below w.heap.size w w') : NRow B xs v w' := row_below h hb
theorem enil (B : Nat) (w : World) : ERow B [] (.slice none 0 0) w := ⟨rfl, Or.inl ⟨rfl, rfl⟩⟩
theorem nnil (B : Nat) (w : World) : NRow B [] (.slice none 0 0) w := ⟨rfl, Or.inl ⟨rfl, rfl⟩⟩
theorem eempty (B : Nat) (w : World) (hB : B ≤ w.heap.size) : ERow B [] (.slice (some ⟨w.heap.size, 0, none⟩) 0 0) (w.alloc (.cells #[] 47)) :=
  ⟨by simp, Or.inr ⟨w.heap.size, 0, #[], rfl, hB, heap_alloc_new w _, Nat.le_refl _, by unfold maxLen; omega, rfl, rfl⟩⟩
theorem nempty (B : Nat) (w : World) (hB : B ≤ w.heap.size) : NRow B [] (.slice (some ⟨w.heap.size, 0, none⟩) 0 0) (w.alloc (.cells #[] 49)) :=
  ⟨by simp, Or.inr ⟨w.heap.size, 0, #[], rfl, hB, heap_alloc_new w _, Nat.le_refl _, by unfold maxLen; omega, rfl, rfl⟩⟩
theorem erow_ens {B : Nat} {xs : List En} {v : Value} {w : World} (h : ERow B xs v w) : ∃ a c, v = .slice a xs.length c ∧ Ens w w.heap.size a xs ∧ capOk xs.length c a := by
  unfold ERow at h
  rcases h.2 with ⟨rfl, h0⟩ | ⟨g, cap, cur, rfl, e2, e3, e4, e5, e6, e7⟩
  · refine ⟨none, 0, by rw [h0], ?_, by omega, by unfold maxLen; omega, fun _ => rfl⟩
    rw [List.eq_nil_of_length_eq_zero h0]; exact Sl.nil _ _ _
  · refine ⟨some ⟨g, 0, none⟩, cap, rfl, fun _ => ⟨g, 0, rfl, lt_of_block e3, fun i hi => ?_⟩, e4, e5, fun h => by cases h⟩
    have hc : ∀ j, j < 2 → w.cell? ⟨g, 0 + i * 2 + j, none⟩ = (enx (xs.getD i nulE))[j]? := fun j hj => by
      rw [Nat.zero_add, h.cellAt _ (by omega), fm_get (n := 2) (fun _ => rfl) xs nulE i j hi hj]
    exact ⟨hc 0 (by omega), hc 1 (by omega)⟩
theorem nrow_nds {B : Nat} {xs : List Nd} {v : Value} {w : World} (h : NRow B xs v w) : ∃ a c, v = .slice a xs.length c ∧ Nds w w.heap.size a xs ∧ capOk xs.length c a := by
  unfold NRow at h
  rcases h.2 with ⟨rfl, h0⟩ | ⟨g, cap, cur, rfl, e2, e3, e4, e5, e6, e7⟩
  · refine ⟨none, 0, by rw [h0], ?_, by omega, by unfold maxLen; omega, fun _ => rfl⟩
    rw [List.eq_nil_of_length_eq_zero h0]; exact Sl.nil _ _ _
  · refine ⟨some ⟨g, 0, none⟩, cap, rfl, fun _ => ⟨g, 0, rfl, lt_of_block e3, fun i hi => ?_⟩, e4, e5, fun h => by cases h⟩
    have hc : ∀ j, j < 2 → w.cell? ⟨g, 0 + i * 2 + j, none⟩ = (ndx (xs.getD i nulN))[j]? := fun j hj => by
      rw [Nat.zero_add, h.cellAt _ (by omega), fm_get (n := 2) (fun _ => rfl) xs nulN i j hi hj]
    exact ⟨hc 0 (by omega), hc 1 (by omega)⟩
theorem enx_len (l : List En) : (l.flatMap enx).length = l.length * 2 := fm_len (n := 2) (fun _ => rfl) l
theorem ndx_len (l : List Nd) : (l.flatMap ndx).length = l.length * 2 := fm_len (n := 2) (fun _ => rfl) l
theorem ens_news {w : World} {B : Nat} {ad : Addr} {l : List En} (hu : Ens w B (some ad) l) : ∀ j u, (l.flatMap enx)[j]? = some u → w.cell? (ad.add j) = some u := by
  intro j u hj
  have hjl : j < l.length * 2 := by
    rcases Nat.lt_or_ge j (l.length * 2) with h | h
    · exact h
    · rw [List.getElem?_eq_none (by rw [enx_len]; exact h)] at hj; simp at hj
  obtain ⟨b, off, e, _, hc⟩ := hu (by intro e; rw [e] at hjl; simp at hjl)
  have e := Option.some.inj e
  subst e
  have hadd : (⟨b, off, none⟩ : Addr).add j = ⟨b, off + j, none⟩ := by unfold Addr.add; split <;> simp_all
  have hk : j / 2 < l.length := by omega
  obtain ⟨c0, c1⟩ := hc (j / 2) hk
  rw [hadd]
  have h2 : j % 2 = 0 ∨ j % 2 = 1 := by omega
  rcases h2 with h | h
  · have g := fm_get (f := enx) (n := 2) (fun _ => rfl) l nulE (j / 2) 0 hk (by omega)
    rw [show off + j / 2 * 2 = off + j by omega] at c0
    rw [show j / 2 * 2 + 0 = j by omega] at g
    rw [c0, ← hj, g]; rfl
  · have g := fm_get (f := enx) (n := 2) (fun _ => rfl) l nulE (j / 2) 1 hk (by omega)
    rw [show off + j / 2 * 2 + 1 = off + j by omega] at c1
    rw [show j / 2 * 2 + 1 = j by omega] at g
    rw [c1, ← hj, g]; rfl
theorem nds_news {w : World} {B : Nat} {ad : Addr} {l : List Nd} (hu : Nds w B (some ad) l) : ∀ j u, (l.flatMap ndx)[j]? = some u → w.cell? (ad.add j) = some u := by
  intro j u hj
  have hjl : j < l.length * 2 := by
    rcases Nat.lt_or_ge j (l.length * 2) with h | h
    · exact h
    · rw [List.getElem?_eq_none (by rw [ndx_len]; exact h)] at hj; simp at hj
  obtain ⟨b, off, e, _, hc⟩ := hu (by intro e; rw [e] at hjl; simp at hjl)
  have e := Option.some.inj e
  subst e
  have hadd : (⟨b, off, none⟩ : Addr).add j = ⟨b, off + j, none⟩ := by unfold Addr.add; split <;> simp_all
  have hk : j / 2 < l.length := by omega
  obtain ⟨c0, c1⟩ := hc (j / 2) hk
  rw [hadd]
  have h2 : j % 2 = 0 ∨ j % 2 = 1 := by omega
  rcases h2 with h | h
  · have g := fm_get (f := ndx) (n := 2) (fun _ => rfl) l nulN (j / 2) 0 hk (by omega)
    rw [show off + j / 2 * 2 = off + j by omega] at c0
    rw [show j / 2 * 2 + 0 = j by omega] at g
    rw [c0, ← hj, g]; rfl
  · have g := fm_get (f := ndx) (n := 2) (fun _ => rfl) l nulN (j / 2) 1 hk (by omega)
    rw [show off + j / 2 * 2 + 1 = off + j by omega] at c1
    rw [show j / 2 * 2 + 1 = j by omega] at g
    rw [c1, ← hj, g]; rfl
theorem enx_one (l : List En) : ∀ u ∈ l.flatMap enx, u.oneCell' = true := by
  intro u hu
  simp only [List.mem_flatMap] at hu
  obtain ⟨x, _, hx⟩ := hu
  simp [enx] at hx
  rcases hx with rfl | rfl <;> rfl
theorem ndx_one (l : List Nd) : ∀ u ∈ l.flatMap ndx, u.oneCell' = true := by
  intro u hu
  simp only [List.mem_flatMap] at hu
  obtain ⟨x, _, hx⟩ := hu
  simp [ndx] at hx
  rcases hx with rfl | rfl <;> rfl
/-- append of entries that can be read onto a row of one's own; of nodes -/
theorem wp_append_en {w : World} {o : Oper} {a : Act} {K : Act → World → Prop} {Q : Exit → Act → World → Prop} (s x : Operand)
    (ho : o.op = .call { callee := .builtin .append, args := #[s, x], argTypes := #[23, 23] }) (base : Nat)
    (v : Value) (xs : List En) (hs : a.eval s = v) (hown : ERow base xs v w)
    (A : Option Addr) (m c : Nat) (l : List En) (hm : l.length = m) (hx : a.eval x = .slice A m c) (hnil : A = none → c = 0) (hu : Ens w w.heap.size A l)
    (hbytes : (xs.length + m) * 24 ≤ 140737488355328) (hbase : base ≤ w.heap.size)
    (h : ∀ v' w', ERow base (xs ++ l) v' w' → Below base w w' → w.grownBy w' v.ownBlock → K (a.put o.dst v') w') : o.wp Try.prog a w K Q := by
  obtain ⟨i, hi, hz0, hz1, hz2⟩ := info_parts info_en
  match A, hnil, hu, hx with
  | none, hnil, hu, hx =>
    have hl : l = [] := by
      by_cases hl : l = []
      · exact hl
      · obtain ⟨b, off, e, _⟩ := hu hl; cases e
    subst hl
    obtain rfl : m = 0 := hm.symm
    obtain rfl : c = 0 := hnil rfl
    have hrun := run_append_owned_none (P := Try.prog) (w := w) base 23 o.type 47 i 2 Try.underlying23 hi v xs.length (xs.flatMap enx) hown
    unfold Oper.wp
    simp [execOp, ho, resolve, invoke, builtin, hs, hx, hrun, Result.andThen]
    exact h v w (by simpa using hown) (Below.refl _ _) ⟨rfl, rfl, rfl, Nat.le_refl _, fun _ _ _ => rfl⟩
  | some ad, hnil, hu, hx =>
    refine wp_append_own w s x 23 ho base 47 i (.agg #[.string ByteArray.empty, .int .i64 0]) 2 24 Try.underlying23 hi hz0 hz1 hz2 rfl (by decide) v xs.length (xs.flatMap enx) hs hown ad m c (l.flatMap enx) hx (by rw [enx_len, hm]) (ens_news hu) (enx_one l) (by unfold maxLen; omega) hbytes hbase (fun v' w' h1 h2 _ => h v' w' ?_ ?_ h2)
    · unfold ERow; rw [List.flatMap_append, List.length_append, hm]; exact h1
    · exact (Below.refl base w).grown h2 hbase (fun k hk => (hown.lt k hk).1)
theorem wpList_append_en {w : World} {ops : Array Oper} {rest : List Oper} {o : Oper} {a : Act} {Q : Exit → Act → World → Prop} (hgd : o.guard = none) (s x : Operand)
    (ho : o.op = .call { callee := .builtin .append, args := #[s, x], argTypes := #[23, 23] }) (base : Nat)
    (v : Value) (xs : List En) (hs : a.eval s = v) (hown : ERow base xs v w)
    (A : Option Addr) (m c : Nat) (l : List En) (hm : l.length = m) (hx : a.eval x = .slice A m c) (hnil : A = none → c = 0) (hu : Ens w w.heap.size A l)
    (hbytes : (xs.length + m) * 24 ≤ 140737488355328) (hbase : base ≤ w.heap.size)
    (h : ∀ v' w', ERow base (xs ++ l) v' w' → Below base w w' → w.grownBy w' v.ownBlock → wpList Try.prog ops Q rest (a.put o.dst v') w') : wpList Try.prog ops Q (o :: rest) a w :=
  wpList_plain hgd fun _ hK => wp_append_en s x ho base v xs hs hown A m c l hm hx hnil hu hbytes hbase (fun v' w' h1 h2 h3 => hK _ _ (h v' w' h1 h2 h3))
theorem wp_append_nd {w : World} {o : Oper} {a : Act} {K : Act → World → Prop} {Q : Exit → Act → World → Prop} (s x : Operand)
    (ho : o.op = .call { callee := .builtin .append, args := #[s, x], argTypes := #[22, 22] }) (base : Nat)
    (v : Value) (xs : List Nd) (hs : a.eval s = v) (hown : NRow base xs v w)
    (A : Option Addr) (m c : Nat) (l : List Nd) (hm : l.length = m) (hx : a.eval x = .slice A m c) (hnil : A = none → c = 0) (hu : Nds w w.heap.size A l)
    (hbytes : (xs.length + m) * 32 ≤ 140737488355328) (hbase : base ≤ w.heap.size)
    (h : ∀ v' w', NRow base (xs ++ l) v' w' → Below base w w' → w.grownBy w' v.ownBlock → K (a.put o.dst v') w') : o.wp Try.prog a w K Q := by
  obtain ⟨i, hi, hz0, hz1, hz2⟩ := info_parts info_nd
  match A, hnil, hu, hx with
  | none, hnil, hu, hx =>
    have hl : l = [] := by
      by_cases hl : l = []
      · exact hl
      · obtain ⟨b, off, e, _⟩ := hu hl; cases e
    subst hl
    obtain rfl : m = 0 := hm.symm
    obtain rfl : c = 0 := hnil rfl
    have hrun := run_append_owned_none (P := Try.prog) (w := w) base 22 o.type 49 i 2 Try.underlying22 hi v xs.length (xs.flatMap ndx) hown
    unfold Oper.wp
    simp [execOp, ho, resolve, invoke, builtin, hs, hx, hrun, Result.andThen]
    exact h v w (by simpa using hown) (Below.refl _ _) ⟨rfl, rfl, rfl, Nat.le_refl _, fun _ _ _ => rfl⟩
  | some ad, hnil, hu, hx =>
    refine wp_append_own w s x 22 ho base 49 i (.agg #[.string ByteArray.empty, .string ByteArray.empty]) 2 32 Try.underlying22 hi hz0 hz1 hz2 rfl (by decide) v xs.length (xs.flatMap ndx) hs hown ad m c (l.flatMap ndx) hx (by rw [ndx_len, hm]) (nds_news hu) (ndx_one l) (by unfold maxLen; omega) hbytes hbase (fun v' w' h1 h2 _ => h v' w' ?_ ?_ h2)
    · unfold NRow; rw [List.flatMap_append, List.length_append, hm]; exact h1
    · exact (Below.refl base w).grown h2 hbase (fun k hk => (hown.lt k hk).1)
theorem wpList_append_nd {w : World} {ops : Array Oper} {rest : List Oper} {o : Oper} {a : Act} {Q : Exit → Act → World → Prop} (hgd : o.guard = none) (s x : Operand)
    (ho : o.op = .call { callee := .builtin .append, args := #[s, x], argTypes := #[22, 22] }) (base : Nat)
    (v : Value) (xs : List Nd) (hs : a.eval s = v) (hown : NRow base xs v w)
    (A : Option Addr) (m c : Nat) (l : List Nd) (hm : l.length = m) (hx : a.eval x = .slice A m c) (hnil : A = none → c = 0) (hu : Nds w w.heap.size A l)
    (hbytes : (xs.length + m) * 32 ≤ 140737488355328) (hbase : base ≤ w.heap.size)
    (h : ∀ v' w', NRow base (xs ++ l) v' w' → Below base w w' → w.grownBy w' v.ownBlock → wpList Try.prog ops Q rest (a.put o.dst v') w') : wpList Try.prog ops Q (o :: rest) a w :=
  wpList_plain hgd fun _ hK => wp_append_nd s x ho base v xs hs hown A m c l hm hx hnil hu hbytes hbase (fun v' w' h1 h2 h3 => hK _ _ (h v' w' h1 h2 h3))

def IntPost (n : Int) (w : World) (e : Ending) (w' : World) : Prop := e = .returned (.int .i64 n) ∧ Below w.heap.size w w'
def NumPost (n : Nat) (w : World) (e : Ending) (w' : World) : Prop := e = .returned (.int .i64 (n : Int)) ∧ Below w.heap.size w w'
/-- a file system of one's own, its blocks from B on; the blocks of its two lists of entries are not the same -/
structure Own (w : World) (B : Nat) (f : T) (nv dv sv : Value) : Prop where
  nro : NRow B f.nodes nv w
  dro : ERow B f.dir dv w
  sro : ERow B f.syn sv w
  far : ∀ g, dv.ownBlock = some g → sv.ownBlock ≠ some g
  nok : ∀ x ∈ f.nodes, ndOk x
  dok : ∀ x ∈ f.dir, enOk x
  sok : ∀ x ∈ f.syn, enOk x
theorem Own.move {w w' : World} {B : Nat} {f : T} {nv dv sv : Value} (h : Own w B f nv dv sv) (hb : Below w.heap.size w w') : Own w' B f nv dv sv := ⟨h.nro.below hb, h.dro.below hb, h.sro.below hb, h.far, h.nok, h.dok, h.sok⟩
theorem Own.fss {w : World} {B : Nat} {f : T} {nv dv sv : Value} (h : Own w B f nv dv sv) : ∃ p : At, nv = .slice p.an f.nodes.length p.cn ∧ dv = .slice p.ad f.dir.length p.cd ∧ sv = .slice p.ay f.syn.length p.cy ∧ Fss w w.heap.size p f := by
  obtain ⟨a1, c1, rfl, h1, k1⟩ := nrow_nds h.nro
  obtain ⟨a2, c2, rfl, h2, k2⟩ := erow_ens h.dro
  obtain ⟨a3, c3, rfl, h3, k3⟩ := erow_ens h.sro
  exact ⟨⟨a1, c1, a2, c2, a3, c3⟩, rfl, rfl, rfl, h1, h2, h3, k1, k2, k3, h.nok, h.dok, h.sok⟩
theorem Own.nul (w : World) (B : Nat) : Own w B nul (.slice none 0 0) (.slice none 0 0) (.slice none 0 0) := ⟨nnil _ _, enil _ _, enil _ _, (fun g h => by cases h), by simp [Fs.nul], by simp [Fs.nul], by simp [Fs.nul]⟩
/-- what a call hands back: a file system of one's own, an error -/
def FsPost (r : T × Nat) (w : World) (e : Ending) (w' : World) : Prop :=
  ∃ nv dv sv, e = .returned (.tuple #[.agg #[nv, dv, sv], .int .i64 (r.2 : Nat)]) ∧ Own w' w.heap.size r.1 nv dv sv ∧ Below w.heap.size w w'
/-- one that is being changed: its block G -/
structure Chg (w : World) (B G : Nat) (f : T) (nv dv sv : Value) : Prop extends Own w B f nv dv sv where
  bk : Bk w G 57 #[nv, dv, sv]
  ge : B ≤ G
end Go.Proofs.Ytmjcdjekakaigaa.Fs
