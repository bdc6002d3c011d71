/- Slices of texts. -/
import Derived.Test.YtplhlnlonjlcaaaBase
import Derived.Laws.OwnMore
import Derived.Sort.KeysCollected
import Derived.Sort.Walk0
namespace Go.Proofs.Ytplhlnlonjlcaaa
open Go.RowKit
set_option linter.unusedVariables false

def tv (l : List (List UInt8)) : List Value := l.map fun x => Value.string (str x)
theorem tv_length (l : List (List UInt8)) : (tv l).length = l.length := by simp [tv]
theorem info_str : (Try.prog.info? 9).map (fun i => (i.zero, i.size, i.bytes)) = some (some (.string ByteArray.empty), 1, 16) := by kernel_rfl
theorem str_inj {a b : List UInt8} (h : str a = str b) : a = b := by
  have := congrArg (fun s : ByteArray => s.data.toList) h
  simpa [str] using this
theorem less_eq (a b : List UInt8) : Op.bytesLess (str a).toList (str b).toList = decide (a < b) := by
  rw [str_toList, str_toList]; exact Go.Proofs.bytesLess_eq a b

theorem str_at (x : List UInt8) (i : Nat) (h : i < (str x).size) (h2 : i < x.length) : (str x)[i] = x[i] := by
  simp [str, ByteArray.getElem_eq_getElem_data]
theorem tl_eq (x y : List UInt8) : ((str x).toList == (str y).toList) = decide (x = y) := by
  rw [str_toList, str_toList]
  by_cases h : x = y
  · subst h; simp
  · simp [h]

/-- a slice's texts, read below block B -/
def Txts (w : World) (B : Nat) (a : Option Addr) (l : List (List UInt8)) : Prop :=
  l ≠ [] → ∃ b off, a = some ⟨b, off, none⟩ ∧ b < B ∧ ∀ i, i < l.length → w.cell? ⟨b, off + i, none⟩ = some (.string (str (l.getD i [])))
theorem Txts.below {w w' : World} {B : Nat} {a : Option Addr} {l : List (List UInt8)} (h : Txts w B a l) (hb : Below B w w') : Txts w' B a l := by
  intro hl
  obtain ⟨b, off, e, hlt, hc⟩ := h hl
  exact ⟨b, off, e, hlt, fun i hi => by rw [hb.cell (p := ⟨b, off + i, none⟩) hlt]; exact hc i hi⟩
theorem Txts.mono {w : World} {B B' : Nat} {a : Option Addr} {l : List (List UInt8)} (h : Txts w B a l) (hB : B ≤ B') : Txts w B' a l := by
  intro hl
  obtain ⟨b, off, e, hlt, hc⟩ := h hl
  exact ⟨b, off, e, by omega, hc⟩
theorem Txts.nil (w : World) (B : Nat) (a : Option Addr) : Txts w B a [] := fun h => absurd rfl h
theorem Txts.next {w w' : World} {a : Option Addr} {l : List (List UInt8)} (h : Txts w w.heap.size a l) (hb : Below w.heap.size w w') : Txts w' w'.heap.size a l := (h.below hb).mono hb.size

/-- a slice of texts that the call made -/
def TRow (B : Nat) (xs : List (List UInt8)) (v : Value) (wr : World) : Prop := wr.ownsRow B 9 1 v xs.length (tv xs)
theorem tRow_txts {B : Nat} {xs : List (List UInt8)} {v : Value} {w : World} (h : TRow B xs v w) : ∃ a c, v = .slice a xs.length c ∧ Txts w w.heap.size a xs ∧ xs.length ≤ c ∧ c ≤ maxLen := by
  unfold TRow at h
  rcases h.2 with ⟨rfl, h0⟩ | ⟨g, cap, cur, rfl, e2, e3, e4, e5, e6⟩
  · refine ⟨none, 0, by rw [h0], ?_, by omega, by unfold maxLen; omega⟩
    rw [List.eq_nil_of_length_eq_zero h0]; exact Txts.nil _ _ _
  · refine ⟨some ⟨g, 0, none⟩, cap, rfl, fun _ => ⟨g, 0, rfl, lt_of_block e3, fun i hi => ?_⟩, e4, e5⟩
    rw [Nat.zero_add, h.cellAt i (by omega)]
    simp [tv, List.getElem?_eq_getElem hi]
theorem TRow.below {B : Nat} {xs : List (List UInt8)} {v : Value} {w w' : World} (h : TRow B xs v w) (hb : Below w.heap.size w w') : TRow B xs v w' := row_below h hb
theorem TRow.alloc_ {B : Nat} {xs : List (List UInt8)} {v : Value} {w : World} (h : TRow B xs v w) (o : Obj) : TRow B xs v (w.alloc o) := World.ownsRow.alloc h o
theorem tnilRow (B : Nat) (w : World) : TRow B [] (.slice none 0 0) w := ⟨rfl, Or.inl ⟨rfl, rfl⟩⟩
theorem TRow.form {B : Nat} {xs : List (List UInt8)} {a : Option Addr} {n c : Nat} {w : World} (h : TRow B xs (.slice a n c) w) (hne : xs ≠ []) : ∃ g, a = some ⟨g, 0, none⟩ ∧ n = xs.length ∧ B ≤ g ∧ g < w.heap.size := by
  unfold TRow at h
  rcases h.2 with ⟨he, h0⟩ | ⟨g, cap, cur, he, e2, e3, e4⟩
  · exact absurd (List.eq_nil_of_length_eq_zero h0) hne
  · injection he with h1 h2 h3
    exact ⟨g, h1, h2, e2, lt_of_block e3⟩
theorem TRow.cell {B : Nat} {xs : List (List UInt8)} {g n c : Nat} {w : World} (h : TRow B xs (.slice (some ⟨g, 0, none⟩) n c) w) (i : Nat) (hi : i < xs.length) : w.cell? ⟨g, i, none⟩ = some (.string (str (xs.getD i []))) := by
  obtain ⟨a', c', e, _⟩ := tRow_txts h
  injection e with e1 e2 e3
  subst e2
  unfold TRow at h
  rw [h.cellAt i (by omega)]
  simp [tv, List.getElem?_eq_getElem hi]
theorem TRow.free {B : Nat} {xs : List (List UInt8)} {g n c : Nat} {w : World} (h : TRow B xs (.slice (some ⟨g, 0, none⟩) n c) w) (i : Nat) : w.frozen? ⟨g, i, none⟩ = false := by
  obtain ⟨a', c', e, _⟩ := tRow_txts h
  injection e with e1 e2 e3
  subst e2
  exact h.frozenAt i

/-- append of one text onto a row of the call's own -/
theorem wpList_append_onet {w : World} {ops : Array Oper} {rest : List Oper} {o : Oper} {a : Act} {Q : Exit → Act → World → Prop} (hgd : o.guard = none) (s x : Operand)
    (ho : o.op = .call { callee := .builtin .append, args := #[s, x], argTypes := #[22, 22] }) (base : Nat)
    (v : Value) (xs : List (List UInt8)) (hs : a.eval s = v) (hown : TRow base xs v w)
    (g : Nat) (y : List UInt8) (hx : a.eval x = .slice (some ⟨g, 0, none⟩) 1 1) (hc : w.cell? ⟨g, 0, none⟩ = some (.string (str y)))
    (hbytes : (xs.length + 1) * 16 ≤ 140737488355328) (hbase : base ≤ w.heap.size)
    (h : ∀ v' w', TRow base (xs ++ [y]) v' w' → Below base w w' → wpList Try.prog ops Q rest (a.put o.dst v') w') : wpList Try.prog ops Q (o :: rest) a w := by
  obtain ⟨i, hi, hz0, hz1, hz2⟩ := info_parts info_str
  refine wpList_append_own w hgd s x 22 ho base 9 i (.string ByteArray.empty) 1 16 Try.underlying22 hi hz0 hz1 hz2 rfl (by decide) v xs.length (tv xs) hs hown ⟨g, 0, none⟩ 1 1 [.string (str y)] hx rfl ?_ ?_ (by unfold maxLen; omega) hbytes hbase (fun v' w' h1 h2 _ => h v' w' ?_ ?_)
  · intro j u hj
    match j, hj with
    | 0, hj => simp at hj; subst hj; simpa [Addr.add] using hc
  · intro u hu; simp at hu; subst hu; rfl
  · unfold TRow; rw [List.length_append]; simpa [tv] using h1
  · exact (Below.refl base w).grown h2 hbase (fun k hk => (hown.lt k hk).1)

theorem tgetD_mem (l : List (List UInt8)) (k : Nat) (hk : k < l.length) : l.getD k [] ∈ l := by
  simp only [List.getD, List.getElem?_eq_getElem hk, Option.getD_some]
  exact List.getElem_mem hk
theorem ttake_succ (l : List (List UInt8)) (k : Nat) (h : k < l.length) : l.take (k + 1) = l.take k ++ [l.getD k []] := by
  rw [List.take_succ_eq_append_getElem h]; simp [List.getD, List.getElem?_eq_getElem h]
end Go.Proofs.Ytplhlnlonjlcaaa
