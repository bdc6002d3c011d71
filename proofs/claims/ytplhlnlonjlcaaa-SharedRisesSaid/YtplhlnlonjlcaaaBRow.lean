/- Rows of bytes that the call made. -/
import Derived.Test.YtplhlnlonjlcaaaBaseB
import Derived.Lib.AppendStr
import Derived.Laws.OwnMore
namespace Go.Proofs.Ytplhlnlonjlcaaa
open Go.RowKit
set_option linter.unusedVariables false

/-- a slice of bytes that the call made -/
def BRow (B : Nat) (xs : List UInt8) (v : Value) (wr : World) : Prop := wr.ownsRow B 5 1 v xs.length (bv xs)
theorem BRow.alloc_ {B : Nat} {xs : List UInt8} {v : Value} {w : World} (h : BRow B xs v w) (o : Obj) : BRow B xs v (w.alloc o) := World.ownsRow.alloc h o
theorem BRow.drew_ {B : Nat} {xs : List UInt8} {v : Value} {w : World} (h : BRow B xs v w) : BRow B xs v w.drew := World.ownsRow.drew h
theorem BRow.below {B : Nat} {xs : List UInt8} {v : Value} {w w' : World} (h : BRow B xs v w) (hb : Below w.heap.size w w') : BRow B xs v w' := row_below h hb
theorem BRow.nil_ (B : Nat) (w : World) : BRow B [] (.slice none 0 0) w := ⟨rfl, Or.inl ⟨rfl, rfl⟩⟩
/-- a write elsewhere -/
theorem BRow.far {B : Nat} {xs : List UInt8} {v : Value} {w : World} (h : BRow B xs v w) (g i : Nat) (u : Value) (hg : g < B) : BRow B xs v (w.setCell ⟨g, i, none⟩ u) := by
  refine ownsRow_setCell_other h ?_ u
  intro e
  have := h.lt g e
  omega
theorem run_text0 (w : World) : (convert 38 9 (.slice none 0 0)).run Try.prog w = .ok (.string (str [])) w := by kernel_rfl
theorem BRow.text {B : Nat} {xs : List UInt8} {v : Value} {w : World} (h : BRow B xs v w) :
    (convert 38 9 v).run Try.prog w = .ok (.string (str xs)) w := by
  unfold BRow at h
  rcases h.2 with ⟨rfl, h0⟩ | ⟨g, cap, cur, rfl, e2, e3, e4⟩
  · obtain rfl := List.eq_nil_of_length_eq_zero h0
    exact run_text0 w
  · rw [← str_of xs]
    refine run_convert_bytes_arg _ 38 5 Try.underlying38 Try.underlying5 _ 0 xs.length cap _ (by simp) ?_ 9 Try.underlying9
    intro i hi
    rw [Nat.zero_add, h.cellAt i (by omega)]
    simp [bv, List.getElem?_eq_getElem hi]

/-- append of one byte onto a row of the call's own -/
theorem wpList_append_oneb {w : World} {ops : Array Oper} {rest : List Oper} {o : Oper} {a : Act} {Q : Exit → Act → World → Prop} (hgd : o.guard = none) (s x : Operand)
    (ho : o.op = .call { callee := .builtin .append, args := #[s, x], argTypes := #[38, 38] }) (base : Nat)
    (v : Value) (xs : List UInt8) (hs : a.eval s = v) (hown : BRow base xs v w)
    (g : Nat) (y : UInt8) (hx : a.eval x = .slice (some ⟨g, 0, none⟩) 1 1) (hc : w.cell? ⟨g, 0, none⟩ = some (.int .u8 (y.toNat : Int)))
    (hbytes : xs.length + 1 ≤ 140737488355328) (hbase : base ≤ w.heap.size)
    (h : ∀ v' w', BRow base (xs ++ [y]) v' w' → Below base w w' → wpList Try.prog ops Q rest (a.put o.dst v') w') : wpList Try.prog ops Q (o :: rest) a w := by
  obtain ⟨i, hi, hz0, hz1, hz2⟩ := info_parts info_u8
  refine wpList_append_own w hgd s x 38 ho base 5 i (.int .u8 0) 1 1 Try.underlying38 hi hz0 hz1 hz2 rfl (by decide) v xs.length (bv xs) hs hown ⟨g, 0, none⟩ 1 1 [.int .u8 (y.toNat : Int)] hx rfl ?_ ?_ (by unfold maxLen; omega) (by omega) hbase (fun v' w' h1 h2 _ => h v' w' ?_ ?_)
  · intro j u hj
    match j, hj with
    | 0, hj => simp at hj; subst hj; simpa [Addr.add] using hc
  · intro u hu; simp at hu; subst hu; rfl
  · unfold BRow; rw [List.length_append]; simpa [bv] using h1
  · exact (Below.refl base w).grown h2 hbase (fun k hk => (hown.lt k hk).1)

/-- append of a text onto a row of bytes of the call's own -/
theorem wpList_append_texts {w : World} {ops : Array Oper} {rest : List Oper} {o : Oper} {a : Act} {Q : Exit → Act → World → Prop} (hgd : o.guard = none) (s x : Operand)
    (ho : o.op = .call { callee := .builtin .append, args := #[s, x], argTypes := #[38, 9] }) (base : Nat)
    (v : Value) (xs : List UInt8) (hs : a.eval s = v) (hown : BRow base xs v w)
    (t : ByteArray) (ys : List UInt8) (ht : t = str ys) (hx : a.eval x = .string t)
    (hbytes : xs.length + ys.length ≤ 140737488355328) (hbase : base ≤ w.heap.size)
    (h : ∀ v' w', BRow base (xs ++ ys) v' w' → Below base w w' → wpList Try.prog ops Q rest (a.put o.dst v') w') : wpList Try.prog ops Q (o :: rest) a w := by
  obtain ⟨i, hi, hz0, hz1, hz2⟩ := info_parts info_u8
  have e : Lib.strCells (str ys) = bv ys := by simp [Lib.strCells, bv, str]
  refine Lib.wpList_append_own_string w hgd s x 38 9 ho base 5 i Try.underlying38 Try.underlying9 hi hz0 hz1 hz2 v xs.length (bv xs) hs hown t hx (by rw [ht, str_size]; unfold maxLen; omega) (by rw [ht, str_size]; omega) hbase (fun v' w' h1 h2 _ => h v' w' ?_ ?_)
  · rw [ht, e, str_size] at h1
    unfold BRow; rw [List.length_append]; simpa [bv] using h1
  · exact (Below.refl base w).grown h2 hbase (fun k hk => (hown.lt k hk).1)
end Go.Proofs.Ytplhlnlonjlcaaa
