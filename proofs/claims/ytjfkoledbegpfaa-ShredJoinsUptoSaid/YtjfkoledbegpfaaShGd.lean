/- Frames that leave all blocks but one alone; the gardener's block; blocks of known cells. -/
import Derived.Deep.AppendLies
import Derived.Deep.RegionLaw
import Derived.Laws.OwnMore
import Derived.Test.YtjfkoledbegpfaaShNode
namespace Go.Proofs.Ytjfkoledbegpfaa
open Go.RowKit
set_option linter.unusedVariables false

/-- all blocks but one are as they were -/
structure But (G : Nat) (w w' : World) : Prop where
  os : w'.os = w.os
  tape : w'.tape = w.tape
  output : w'.output = w.output
  size : w.heap.size ≤ w'.heap.size
  block : ∀ i, i < w.heap.size → i ≠ G → w'.heap[i]? = w.heap[i]?
theorem But.refl (G : Nat) (w : World) : But G w w := ⟨rfl, rfl, rfl, Nat.le_refl _, fun _ _ _ => rfl⟩
theorem But.trans {G : Nat} {a b c : World} (h : But G a b) (k : But G b c) : But G a c :=
  ⟨k.os.trans h.os, k.tape.trans h.tape, k.output.trans h.output, Nat.le_trans h.size k.size, fun i hi hne => (k.block i (Nat.lt_of_lt_of_le hi h.size) hne).trans (h.block i hi hne)⟩
theorem But.of_below {G : Nat} {w w' : World} (h : Below w.heap.size w w') : But G w w' := ⟨h.os, h.tape, h.output, h.size, fun i hi _ => h.block i hi⟩
theorem But.drew {G : Nat} {a w : World} (h : But G a w) : But G a w.drew := ⟨h.os, h.tape, h.output, h.size, h.block⟩
theorem But.alloc {G : Nat} {a w : World} (h : But G a w) (o : Obj) : But G a (w.alloc o) := h.trans (But.of_below ((Below.refl _ _).alloc (Nat.le_refl _) o))
theorem But.set {G : Nat} {a w : World} (h : But G a w) (b i : Nat) (x : Value) (hb : b = G ∨ a.heap.size ≤ b) : But G a (w.setCell ⟨b, i, none⟩ x) := by
  refine ⟨h.os, h.tape, h.output, by simpa [World.setCell] using h.size, fun j hj hne => ?_⟩
  have hjb : b ≠ j := by omega
  rw [← h.block j hj hne]
  simp [World.setCell, Array.getElem?_modify, hjb]
theorem Fds.but {w w' : World} {G lo : Nat} {a : Option Addr} {l : List Sh.Fd} (h : Fds w lo a l) (hlo : lo ≤ G) (hs : G < w.heap.size) (hb : But G w w') : Fds w' lo a l := by
  intro hl
  obtain ⟨b, off, e, hlt, hc⟩ := h hl
  have hbk := hb.block b (by omega) (by omega)
  refine ⟨b, off, e, hlt, fun i hi => ?_⟩
  rw [World.cell?_of_block (a := ⟨b, off + i * 2, none⟩) hbk, World.cell?_of_block (a := ⟨b, off + i * 2 + 1, none⟩) hbk]
  exact hc i hi
theorem Fds.keepG {w w' : World} {lo : Nat} {a : Option Addr} {l : List Sh.Fd} (h : Fds w lo a l) (hb : ∀ i, i < lo → w'.heap[i]? = w.heap[i]?) : Fds w' lo a l := by
  intro hl
  obtain ⟨b, off, e, hlt, hc⟩ := h hl
  have hbk := hb b hlt
  refine ⟨b, off, e, hlt, fun i hi => ?_⟩
  rw [World.cell?_of_block (a := ⟨b, off + i * 2, none⟩) hbk, World.cell?_of_block (a := ⟨b, off + i * 2 + 1, none⟩) hbk]
  exact hc i hi
theorem Fds.cutIf {w : World} {B b off c : Nat} {l : List Sh.Fd} (h : Fds w B (some ⟨b, off, none⟩) l) (hl : l.length ≤ c) : Fds w B (if c = 1 then some ⟨b, off, none⟩ else some ⟨b, off + 2, none⟩) (l.drop 1) := by
  intro hne
  have h1 : 1 < l.length := by
    rcases Nat.lt_or_ge 1 l.length with h1 | h1
    · exact h1
    · exact absurd (List.drop_eq_nil_of_le h1) hne
  rw [if_neg (by omega)]
  obtain ⟨b', off', e, hlt, hc⟩ := h (by intro e; rw [e] at h1; simp at h1)
  injection e with e
  injection e with e1 e2
  subst e1 e2
  refine ⟨b, off + 2, rfl, hlt, fun i hi => ?_⟩
  rw [List.length_drop] at hi
  have := hc (1 + i) (by omega)
  rw [show off + (1 + i) * 2 = off + 2 + i * 2 by omega] at this
  have e : (l.drop 1).getD i Sh.fd0 = l.getD (1 + i) Sh.fd0 := by
    unfold List.getD
    rw [List.getElem?_drop]
  rw [e]; exact this

/-- the gardener's block -/
def Gd (w : World) (G : Nat) (left : Value) (c : Nat) : Prop := w.heap[G]? = some (.cells #[left, .int .i64 (c : Int)] 76 (0, 0))
theorem Gd.c0 {w : World} {G : Nat} {left : Value} {c : Nat} (h : Gd w G left c) : w.cell? ⟨G, 0, none⟩ = some left := by unfold Gd at h; simp [World.cell?, h]
theorem Gd.c1 {w : World} {G : Nat} {left : Value} {c : Nat} (h : Gd w G left c) : w.cell? ⟨G, 1, none⟩ = some (.int .i64 (c : Int)) := by unfold Gd at h; simp [World.cell?, h]
theorem Gd.free {w : World} {G : Nat} {left : Value} {c : Nat} (h : Gd w G left c) (i : Nat) : w.frozen? ⟨G, i, none⟩ = false := by unfold Gd at h; simp [World.frozen?, h]
theorem Gd.lt {w : World} {G : Nat} {left : Value} {c : Nat} (h : Gd w G left c) : G < w.heap.size := lt_of_block h
theorem Gd.s0 {w : World} {G : Nat} {left : Value} {c : Nat} (h : Gd w G left c) (x : Value) : Gd (w.setCell ⟨G, 0, none⟩ x) G x c := by
  unfold Gd at *; simp [World.setCell, Array.getElem?_modify, h]
theorem Gd.s1 {w : World} {G : Nat} {left : Value} {c : Nat} (h : Gd w G left c) (n : Nat) : Gd (w.setCell ⟨G, 1, none⟩ (.int .i64 (n : Int))) G left n := by
  unfold Gd at *; simp [World.setCell, Array.getElem?_modify, h]
theorem Gd.s1e {w : World} {G : Nat} {left : Value} {c : Nat} (h : Gd w G left c) (x : Value) (n : Nat) (hx : x = .int .i64 (n : Int)) : Gd (w.setCell ⟨G, 1, none⟩ x) G left n := by
  subst hx; exact h.s1 n
theorem Gd.far {w : World} {G : Nat} {left : Value} {c : Nat} (h : Gd w G left c) (b i : Nat) (x : Value) (hne : b ≠ G) : Gd (w.setCell ⟨b, i, none⟩ x) G left c := by
  unfold Gd at *; simp [World.setCell, Array.getElem?_modify, h, hne]
theorem Gd.next {w w' : World} {G : Nat} {left : Value} {c : Nat} (h : Gd w G left c) (hb : Below w.heap.size w w') : Gd w' G left c := (hb.block G h.lt).trans h
theorem Gd.drew {w : World} {G : Nat} {left : Value} {c : Nat} (h : Gd w G left c) : Gd w.drew G left c := h

/-- a block of known cells -/
def Cel (w : World) (b : Nat) (cs : Array Value) (t : TypeId) : Prop := w.heap[b]? = some (.cells cs t (0, 0))
theorem Cel.c {w : World} {b : Nat} {cs : Array Value} {t : TypeId} (h : Cel w b cs t) (i : Nat) : w.cell? ⟨b, i, none⟩ = cs[i]? := by unfold Cel at h; simp [World.cell?, h]
theorem Cel.free {w : World} {b : Nat} {cs : Array Value} {t : TypeId} (h : Cel w b cs t) (i : Nat) : w.frozen? ⟨b, i, none⟩ = false := by unfold Cel at h; simp [World.frozen?, h]
theorem Cel.lt {w : World} {b : Nat} {cs : Array Value} {t : TypeId} (h : Cel w b cs t) : b < w.heap.size := lt_of_block h
theorem Cel.next {w w' : World} {b : Nat} {cs : Array Value} {t : TypeId} (h : Cel w b cs t) (hb : Below w.heap.size w w') : Cel w' b cs t := (hb.block b h.lt).trans h
theorem Cel.but {w w' : World} {G b : Nat} {cs : Array Value} {t : TypeId} (h : Cel w b cs t) (hne : b ≠ G) (hb : But G w w') : Cel w' b cs t := (hb.block b h.lt hne).trans h
theorem Cel.alloc {w : World} {b : Nat} {cs : Array Value} {t : TypeId} (h : Cel w b cs t) (o : Obj) : Cel (w.alloc o) b cs t := h.next ((Below.refl _ _).alloc (Nat.le_refl _) o)
theorem Cel.drew {w : World} {b : Nat} {cs : Array Value} {t : TypeId} (h : Cel w b cs t) : Cel w.drew b cs t := h
theorem Cel.far {w : World} {b : Nat} {cs : Array Value} {t : TypeId} (h : Cel w b cs t) (b' i : Nat) (x : Value) (hne : b' ≠ b) : Cel (w.setCell ⟨b', i, none⟩ x) b cs t := by
  unfold Cel at *; simp [World.setCell, Array.getElem?_modify, h, hne]
theorem Cel.set5 {w : World} {b : Nat} {c0 c1 c2 c3 c4 c5 : Value} {t : TypeId} (h : Cel w b #[c0, c1, c2, c3, c4, c5] t) (x : Value) : Cel (w.setCell ⟨b, 5, none⟩ x) b #[c0, c1, c2, c3, c4, x] t := by
  unfold Cel at *; simp [World.setCell, Array.getElem?_modify, h]
theorem Cel.set4 {w : World} {b : Nat} {c0 c1 c2 c3 c4 c5 : Value} {t : TypeId} (h : Cel w b #[c0, c1, c2, c3, c4, c5] t) (x : Value) : Cel (w.setCell ⟨b, 4, none⟩ x) b #[c0, c1, c2, c3, x, c5] t := by
  unfold Cel at *; simp [World.setCell, Array.getElem?_modify, h]
theorem cel_six {w : World} {b : Nat} {c0 c1 c2 c3 c4 c5 : Value} {t : TypeId} (h : Cel w b #[c0, c1, c2, c3, c4, c5] t) (x0 x1 x2 x3 x4 x5 : Value) :
    Cel ((((((w.setCell ⟨b, 0, none⟩ x0).setCell ⟨b, 1, none⟩ x1).setCell ⟨b, 2, none⟩ x2).setCell ⟨b, 3, none⟩ x3).setCell ⟨b, 4, none⟩ x4).setCell ⟨b, 5, none⟩ x5) b #[x0, x1, x2, x3, x4, x5] t := by
  unfold Cel at *; simp [World.setCell, Array.getElem?_modify, h]
theorem heap_set_ne (w : World) (b i : Nat) (x : Value) (j : Nat) (h : b ≠ j) : (w.setCell ⟨b, i, none⟩ x).heap[j]? = w.heap[j]? := by
  simp [World.setCell, Array.getElem?_modify, h]
theorem heap_alloc_old (w : World) (o : Obj) {j : Nat} (h : j < w.heap.size) : (w.alloc o).heap[j]? = w.heap[j]? := ((Below.refl _ _).alloc (Nat.le_refl _) o).block j h
theorem cel_new (w : World) (cs : Array Value) (t : TypeId) : Cel (w.alloc (.cells cs t)) w.heap.size cs t := heap_alloc_new _ _
theorem cel_new1 (w : World) (o : Obj) (cs : Array Value) (t : TypeId) : Cel ((w.alloc o).alloc (.cells cs t)) (w.heap.size + 1) cs t := by
  have := cel_new (w.alloc o) cs t
  rwa [show (w.alloc o).heap.size = w.heap.size + 1 by simp] at this
theorem Gd.alloc {w : World} {G : Nat} {left : Value} {c : Nat} (h : Gd w G left c) (o : Obj) : Gd (w.alloc o) G left c := h.next ((Below.refl _ _).alloc (Nat.le_refl _) o)
theorem info_node : (Try.prog.info? 50).map (fun i => (i.zero, i.size, i.bytes)) = some (some (.agg #[.int .i64 0, .int .i64 0, .int .i64 0, .int .i64 0, .int .i64 0, .slice none 0 0]), 6, 64) := by kernel_rfl
/-- append of one node onto a row of the call's own, at a step of a region that draws -/
theorem step_append_node {w : World} {ops : Array Oper} {o : Oper} {a : Act} {K : Act → World → Prop} {Q : Exit → Act → World → Prop} {E : Prop} (hgd : o.guard = none) (s x : Operand)
    (ho : o.op = .call { callee := .builtin .append, args := #[s, x], argTypes := #[48, 48] }) (base : Nat)
    (v : Value) (n : Nat) (xs : List Value) (hs : a.eval s = v) (hown : w.ownsRow base 50 6 v n xs)
    (g : Nat) (news : List Value) (hnl : news.length = 6) (hx : a.eval x = .slice (some ⟨g, 0, none⟩) 1 1) (hc : w.heap[g]? = some (.cells news.toArray 50 (0, 0))) (h1 : ∀ u ∈ news, u.oneCell' = true)
    (hbytes : (n + 1) * 64 ≤ 140737488355328) (hbase : base ≤ w.heap.size)
    (h : ∀ g' cap w', w'.ownsRow base 50 6 (.slice (some ⟨g', 0, none⟩) (n + 1) cap) (n + 1) (xs ++ news) → w.grownBy w' v.ownBlock → (v.ownBlock = some g' ∨ g' = w.heap.size) → g' < w'.heap.size → K (a.put o.dst (.slice (some ⟨g', 0, none⟩) (n + 1) cap)) w') :
    if Region.wanted o (yielded ops a.tmps) = true then Oper.wp Try.prog o a w K Q else E := by
  obtain ⟨i, hi, hz0, hz1, hz2⟩ := info_parts info_node
  refine step_append_lies w hgd s x 48 ho base 50 i (.agg #[.int .i64 0, .int .i64 0, .int .i64 0, .int .i64 0, .int .i64 0, .slice none 0 0]) 6 64 Try.underlying48 hi hz0 hz1 hz2 rfl (by decide) v n xs hs hown ⟨g, 0, none⟩ 1 1 news hx hnl ?_ h1 (by omega) (by unfold maxLen; omega) hbytes hbase w.heap.size rfl (fun g' cap w' h1 h2 h3 h4 => h g' cap w' h1 h2 h3 h4)
  exact World.news_of_block hc
theorem nx_one (r d p c : Nat) (k : Sh.F) (kv : Value) (h : kv.oneCell' = true) : ∀ u ∈ nx r d p c k kv, u.oneCell' = true := by
  intro u hu
  simp [nx] at hu
  rcases hu with rfl | rfl | rfl | rfl | rfl | rfl <;> first | rfl | exact h
theorem KidsOf.one {w : World} {S : Nat → Prop} {k : Sh.F} {kv : Value} {d p c : Nat} (h : KidsOf w S k kv d p c) : kv.oneCell' = true := by
  rcases h with ⟨_, rfl⟩ | ⟨_, b', cap, rfl, _⟩ <;> rfl
theorem own_but {w w' : World} {G B : Nat} {e : TypeId} {sz : Nat} {v : Value} {n : Nat} {xs : List Value} (h : w.ownsRow B e sz v n xs) (hG : G < B) (hb : But G w w') : w'.ownsRow B e sz v n xs := by
  refine ⟨h.1, ?_⟩
  rcases h.2 with hn | ⟨g, cap, cur, e1, e2, e3, e4⟩
  · exact Or.inl hn
  · exact Or.inr ⟨g, cap, cur, e1, e2, (hb.block g (lt_of_block e3) (by omega)).trans e3, e4⟩
end Go.Proofs.Ytjfkoledbegpfaa
