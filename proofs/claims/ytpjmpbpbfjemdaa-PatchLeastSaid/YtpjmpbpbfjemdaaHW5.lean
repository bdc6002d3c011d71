/- The walk of the closure in hybrid.Write: one part more. -/
import Derived.Test.YtpjmpbpbfjemdaaHW4
import Derived.RangeFuncBox
import Derived.Lib.AppendStr
namespace Go.Proofs.Ytpjmpbpbfjemdaa
open Go.RowKit
set_option linter.unusedVariables false

/-- a captured row of bytes in block Bk -/
def OwnS (base Bk : Nat) (w : World) (xs : List UInt8) : Prop :=
  base ≤ Bk ∧ ∃ v, w.heap[Bk]? = some (.cells #[v] 50 (0, 0)) ∧ w.ownsRow base 5 1 v xs.length (bv xs)

theorem strCells_str (l : List UInt8) : Lib.strCells (str l) = bv l := by simp [Lib.strCells, bv, str]

theorem owns_other {w : World} {base B n : Nat} {t : TypeId} {u v : Value} {xs : List Value} (ht : t ≠ 5) (h : w.heap[B]? = some (.cells #[u] t (0, 0))) (ho : w.ownsRow base 5 1 v n xs) : v.ownBlock ≠ some B := by
  rcases ho.2 with ⟨rfl, _⟩ | ⟨g, cap, cur, rfl, _, hh, _⟩
  · simp [Value.ownBlock]
  · intro he
    have hg : g = B := by simpa [Value.ownBlock] using he
    rw [hg, h] at hh
    injection hh with hh
    injection hh with _ h2
    exact ht h2

/-- what append does with a text, in whatever world behind -/
theorem append_text (base Bk Bw wide : Nat) (v : Value) (xs bs : List UInt8) (w W : World) (hbase : base ≤ Bk) (hv : w.heap[Bk]? = some (.cells #[v] 50 (0, 0))) (hown : w.ownsRow base 5 1 v xs.length (bv xs)) (hbw : Boxed w Bw 3 (.int .i64 wide)) (hl : xs.length ≤ 1048576) (hbl : bs.length ≤ 1048576) (hk : Below w.heap.size w W) :
    W.cell? ⟨Bk, 0, none⟩ = some v ∧ W.frozen? ⟨Bk, 0, none⟩ = false ∧ W.cell? ⟨Bw, 0, none⟩ = some (.int .i64 (wide : Int)) ∧
    ∃ (A : Option Addr) (m' c' : Nat) (w4 : World), (Builtin.append_ #[50, 9] 50 #[v, .string (str bs)]).run Try.prog W = .ok (.slice A m' c') w4 ∧ w4.cell? ⟨Bk, 0, none⟩ = some v ∧ w4.frozen? ⟨Bk, 0, none⟩ = false ∧ w4.cell? ⟨Bw, 0, none⟩ = some (.int .i64 (wide : Int)) ∧ OwnS base Bk (w4.setCell ⟨Bk, 0, none⟩ (.slice A m' c')) (xs ++ bs) ∧ Boxed (w4.setCell ⟨Bk, 0, none⟩ (.slice A m' c')) Bw 3 (.int .i64 wide) ∧ Below base W (w4.setCell ⟨Bk, 0, none⟩ (.slice A m' c')) := by
  obtain ⟨i0, hi, hz0, hz1, hz2⟩ := info_parts info_u8
  have hBlt := lt_of_block hv
  have hV : W.heap[Bk]? = some (.cells #[v] 50 (0, 0)) := (hk.block Bk hBlt).trans hv
  have hW : Boxed W Bw 3 (.int .i64 wide) := (hk.block Bw hbw.lt).trans hbw
  have hO := row_below hown hk
  have hne := owns_other (by decide) hV hO
  have hneW := owns_other (by decide) hW hO
  obtain ⟨v', w4, hr, h2, h3, h4⟩ := Lib.run_append_own_string (P := Try.prog) W base 50 9 50 5 i0 Try.underlying50 Try.underlying9 hi hz0 hz1 hz2 v xs.length _ hO (str bs) (by rw [str_size]; unfold maxLen; omega) (by rw [str_size]; omega) (by have := hk.size; omega)
  rw [strCells_str, str_size] at h2
  have hV4 : w4.heap[Bk]? = some (.cells #[v] 50 (0, 0)) := (h3.block Bk (lt_of_block hV) (fun h => hne h.symm)).trans hV
  have hW4 : Boxed w4 Bw 3 (.int .i64 wide) := (h3.block Bw hW.lt (fun h => hneW h.symm)).trans hW
  have hne4 := owns_other (by decide) hV4 h2
  have hBB : Bw ≠ Bk := by
    intro e
    have h5 : w4.heap[Bw]? = _ := hW4
    rw [e, hV4] at h5
    injection h5 with h5
    injection h5 with _ h5
    exact absurd h5 (by decide)
  obtain ⟨A, m', c', rfl⟩ : ∃ A m' c', v' = .slice A m' c' := by
    rcases h2.2 with ⟨rfl, _⟩ | ⟨g, cap, cur, rfl, _⟩
    · exact ⟨_, _, _, rfl⟩
    · exact ⟨_, _, _, rfl⟩
  refine ⟨cell_of_one hV, free_of_one hV, hW.cell, A, m', c', w4, hr, cell_of_one hV4, free_of_one hV4, hW4.cell, ⟨hbase, _, one_setCell hV4, ?_⟩, ?_, ?_⟩
  · have := ownsRow_setCell_other h2 (a := ⟨Bk, 0, none⟩) hne4 (.slice A m' c')
    simpa [bv] using this
  · exact ((grownBy_setCell' w4 Bk _).block Bw hW4.lt (fun e => hBB (by injection e))).trans hW4
  · exact ((Below.refl base W).grown h3 (by have := hk.size; omega) (fun k hk' => (hO.lt k hk').1)).setCell (p := ⟨Bk, 0, none⟩) hbase _

/-- append as one step of a region that draws, by its run -/
theorem step_append_run {P : Program} {ops : Array Oper} {o : Oper} {a : Act} {w : World} {K : Act → World → Prop} {Q : Exit → Act → World → Prop} {E : Prop} (hgd : o.guard = none) (s x : Operand) (t u : TypeId)
    (ho : o.op = .call { callee := .builtin .append, args := #[s, x], argTypes := #[t, u] }) (vs vx v' : Value) (w' : World) (hs : a.eval s = vs) (hx : a.eval x = vx)
    (hr : (Builtin.append_ #[t, u] o.type #[vs, vx]).run P w = .ok v' w') (h : K (a.put o.dst v') w') : if Region.wanted o (yielded ops a.tmps) = true then Oper.wp P o a w K Q else E := by
  have hw : Region.wanted o (yielded ops a.tmps) = true := by simp [Region.wanted, hgd]
  rw [if_pos hw]
  unfold Oper.wp
  simp only [execOp, ho, resolve, invoke, builtin, Sem.run_bind, Sem.run_pure, Result.andThen_ok, List.map_toArray, List.map_cons, List.map_nil, hs, hx, hr]
  exact h

/-- a method's call as one step of a region that draws -/
theorem step_invoke {ops : Array Oper} {o : Oper} {a : Act} {w : World} {K : Act → World → Prop} {Q : Exit → Act → World → Prop} {E : Prop} (hgd : o.guard = none) (r x : Operand) (m : String) (T t : TypeId)
    (ho : o.op = .call { callee := .invoke r m, args := #[x], argTypes := #[t] }) (rv rv' xv res : Value) (f : FuncId) (R : World → Prop) (hs : a.eval r = .iface T rv) (hx : a.eval x = xv)
    (hmt : ∀ k w, (method (k + 1) T rv m).run Try.prog w = .ok (f, rv') w) (hf : ∀ args w, (callFunc f args).run Try.prog w = .ok (.enter f args) w)
    (hc : Calls Try.prog f #[rv', xv] w fun e w' => e = .returned res ∧ R w') (h : ∀ w', R w' → K (a.put o.dst res) w') : if Region.wanted o (yielded ops a.tmps) = true then Oper.wp Try.prog o a w K Q else E := by
  have hw : Region.wanted o (yielded ops a.tmps) = true := by simp [Region.wanted, hgd]
  rw [if_pos hw]
  have hm := fun w => hmt (Try.prog.types.size + Made.depth - 1) w
  have e1 : Try.prog.types.size + Made.depth - 1 + 1 = Try.prog.types.size + Made.depth := by
    have : 0 < Made.depth := by decide
    omega
  rw [e1] at hm
  unfold Oper.wp
  simp only [execOp, ho, resolve, invoke, callMethod, Sem.run_bind, Sem.run_pure, Result.andThen_ok, List.map_toArray, List.map_cons, List.map_nil, hs, hx]
  show Oper.upon _ _ _ _ _ (Sem.run Try.prog (do
    let p ← program
    let y ← method (p.types.size + Made.depth) T rv m
    callFunc y.1 (#[y.2] ++ (#[Value.iface T rv] ++ #[xv]).extract 1)) w)
  rw [Sem.run_bind, run_program, Result.andThen_ok, Sem.run_bind, hm, Result.andThen_ok, hf]
  refine hc.mono ?_
  rintro e w' ⟨rfl, hR⟩
  exact h w' hR

theorem part_length (w : Nat) (p : H.Part) (hw : w ≤ 64) (hp : match p with | .run _ _ => True | .blk l => l.length ≤ 64) : (H.Part.bytes w p).length ≤ 1024 := by
  cases p with
  | run n m =>
    have := V.sz_le (2 * m)
    simp only [H.Part.bytes, List.length_append, V.enc_length, H.pkd_length, List.length_cons, List.length_nil]
    unfold B.sz; omega
  | blk l =>
    have := V.sz_le (2 * H.nb l.length + 1)
    simp only [H.Part.bytes, List.length_append, V.enc_length, H.pkd_length, H.pad_length]
    have h8 : H.nb l.length * 8 ≤ 64 := by simp only at hp; unfold H.nb; omega
    have := Nat.mul_le_mul h8 hw
    unfold B.sz; omega

set_option maxHeartbeats 2000000 in
set_option maxRecDepth 100000 in
theorem hclos_run (base Bk Bw wide : Nat) (n m : Nat) (xs : List UInt8) (w : World) (hn : n < 2 ^ wide) (hm : m ≤ 64) (hw : wide ≤ 64) (ho : OwnS base Bk w xs) (hbw : Boxed w Bw 3 (.int .i64 wide)) (hl : xs.length ≤ 1048576) :
    Calls Try.prog 64 #[.iface 84 (.agg #[.int .u64 n, .int .i64 m]), .pointer (some ⟨Bk, 0, none⟩), .pointer (some ⟨Bw, 0, none⟩)] w
      fun e w' => e = .returned (.tuple #[]) ∧ OwnS base Bk w' (xs ++ H.Part.bytes wide (.run n m)) ∧ Boxed w' Bw 3 (.int .i64 wide) ∧ Below base w w' := by
  have hmt : ∀ (k : Nat) (w : World), (method (k + 1) 84 (.agg #[.int .u64 n, .int .i64 m]) "hypostyle/hybrid.bytes").run Try.prog w = .ok (110, (.agg #[.int .u64 n, .int .i64 m])) w := fun _ _ => by kernel_rfl
  have hcf : ∀ (args : Array Value) (w : World), (callFunc 110 args).run Try.prog w = .ok (.enter 110 args) w := fun _ _ => by kernel_rfl
  obtain ⟨hbase, v, hv, hown⟩ := ho
  have c0 := cell_of_one hv
  have f0 := free_of_one hv
  have c1 := hbw.cell
  have hlen := part_length wide (.run n m) hw trivial
  have HBY := Lib.hid (show Calls Try.prog 110 #[(.agg #[.int .u64 n, .int .i64 m]), .int .i64 wide] w.drew (TextPost (H.Part.bytes wide (.run n m)) w.drew) from rbytes_any n m wide w.drew hn hm hw)
  have HAP := Lib.hid (fun W (h : Below w.drew.heap.size w.drew W) => append_text base Bk Bw wide v xs (H.Part.bytes wide (.run n m)) w.drew W hbase hv hown hbw hl (by omega) h)
  have hbs : base ≤ w.heap.size := by have := lt_of_block hv; omega
  generalize H.Part.bytes wide (.run n m) = bs at *
  clear hlen hown hv
  go_enter Try.func64, Try.ntmps64
  go_wp2_with fail
  go_region_law (first
    | ((refine step_invoke (by rfl) _ _ _ _ _ (by rfl) _ _ (.int .i64 (wide : Int)) (.string (str bs)) _ _ (by rfl) (by rfl) hmt hcf HBY.out ?_); intro w3 hb3; obtain ⟨d0, d1, dw, A, m', c', w4, hr, d3, d4, dx, d5, d6, d7⟩ := HAP.out w3 hb3)
    | (refine step_append_run (by rfl) _ _ _ _ (by rfl) v (.string (str bs)) (.slice A m' c') w4 (by rfl) (by rfl) hr ?_))
  all_goals
    go_wp2_with fail
    go_end0
    exact ⟨rfl, d5, d6, ((Below.refl base w).drew.trans (hb3.mono hbs)).trans d7⟩

set_option maxHeartbeats 2000000 in
set_option maxRecDepth 100000 in
theorem hclos_blk (base Bk Bw wide : Nat) (a : Option Addr) (c : Nat) (l : List Nat) (xs : List UInt8) (w : World) (hx : ∀ x ∈ l, x < 2 ^ wide) (h0 : l ≠ []) (hll : l.length ≤ 64) (hu : Nums w w.heap.size a l) (hw : wide ≤ 64) (ho : OwnS base Bk w xs) (hbw : Boxed w Bw 3 (.int .i64 wide)) (hl : xs.length ≤ 1048576) :
    Calls Try.prog 64 #[.iface 85 (.slice a l.length c), .pointer (some ⟨Bk, 0, none⟩), .pointer (some ⟨Bw, 0, none⟩)] w
      fun e w' => e = .returned (.tuple #[]) ∧ OwnS base Bk w' (xs ++ H.Part.bytes wide (.blk l)) ∧ Boxed w' Bw 3 (.int .i64 wide) ∧ Below base w w' := by
  have hmt : ∀ (k : Nat) (w : World), (method (k + 1) 85 (.slice a l.length c) "hypostyle/hybrid.bytes").run Try.prog w = .ok (117, (.slice a l.length c)) w := fun _ _ => by kernel_rfl
  have hcf : ∀ (args : Array Value) (w : World), (callFunc 117 args).run Try.prog w = .ok (.enter 117 args) w := fun _ _ => by kernel_rfl
  obtain ⟨hbase, v, hv, hown⟩ := ho
  have c0 := cell_of_one hv
  have f0 := free_of_one hv
  have c1 := hbw.cell
  have hlen := part_length wide (.blk l) hw hll
  have HBY := Lib.hid (show Calls Try.prog 117 #[(.slice a l.length c), .int .i64 wide] w.drew (TextPost (H.Part.bytes wide (.blk l)) w.drew) from bbytes_any a c l wide w.drew hx hw h0 hll hu)
  have HAP := Lib.hid (fun W (h : Below w.drew.heap.size w.drew W) => append_text base Bk Bw wide v xs (H.Part.bytes wide (.blk l)) w.drew W hbase hv hown hbw hl (by omega) h)
  have hbs : base ≤ w.heap.size := by have := lt_of_block hv; omega
  generalize H.Part.bytes wide (.blk l) = bs at *
  clear hlen hown hv
  go_enter Try.func64, Try.ntmps64
  go_wp2_with fail
  go_region_law (first
    | ((refine step_invoke (by rfl) _ _ _ _ _ (by rfl) _ _ (.int .i64 (wide : Int)) (.string (str bs)) _ _ (by rfl) (by rfl) hmt hcf HBY.out ?_); intro w3 hb3; obtain ⟨d0, d1, dw, A, m', c', w4, hr, d3, d4, dx, d5, d6, d7⟩ := HAP.out w3 hb3)
    | (refine step_append_run (by rfl) _ _ _ _ (by rfl) v (.string (str bs)) (.slice A m' c') w4 (by rfl) (by rfl) hr ?_))
  all_goals
    go_wp2_with fail
    go_end0
    exact ⟨rfl, d5, d6, ((Below.refl base w).drew.trans (hb3.mono hbs)).trans d7⟩
end Go.Proofs.Ytpjmpbpbfjemdaa
