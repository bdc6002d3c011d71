/- The walks of hypostyleref.ThereOf, DenseOf, CellLess. -/
import Derived.Test.YtocgimimmajjhaaCW3
import Derived.Test.YtocgimimmajjhaaTLess
namespace Go.Proofs.Ytocgimimmajjhaa
open Go.RowKit
set_option linter.unusedVariables false

theorem markRow_slice2 {B : Nat} {xs : List Bool} {v : Value} {w : World} (h : MarkRow B xs v w) : ∃ a c, v = .slice a xs.length c ∧ Bools w w.heap.size a xs ∧ (xs.length ≤ c ∧ c ≤ maxLen ∧ (a = none → c = 0)) := by
  have h' := h
  unfold MarkRow at h
  rcases h.2 with ⟨rfl, h0⟩ | ⟨g, cap, cur, rfl, e2, e3, e4, e5, e6, e7⟩
  · refine ⟨none, 0, by rw [h0], ?_, by omega, by unfold maxLen; omega, fun _ => rfl⟩
    rw [List.eq_nil_of_length_eq_zero h0]; exact Bools.nil _ _ _
  · refine ⟨some ⟨g, 0, none⟩, cap, rfl, fun _ => ⟨g, 0, rfl, lt_of_block e3, fun i hi => ?_⟩, e4, e5, fun h => by cases h⟩
    rw [Nat.zero_add, h.cellAt i (by omega)]
    simp [mv, List.getElem?_eq_getElem hi]
/-- append of one mark onto a row of the call's own -/
theorem wpList_append_onem {w : World} {ops : Array Oper} {rest : List Oper} {o : Oper} {a : Act} {Q : Exit → Act → World → Prop} (hgd : o.guard = none) (s x : Operand)
    (ho : o.op = .call { callee := .builtin .append, args := #[s, x], argTypes := #[23, 23] }) (base : Nat)
    (v : Value) (xs : List Bool) (hs : a.eval s = v) (hown : MarkRow base xs v w)
    (g : Nat) (y : Bool) (hx : a.eval x = .slice (some ⟨g, 0, none⟩) 1 1) (hc0 : w.cell? ⟨g, 0, none⟩ = some (.bool y))
    (hbytes : (xs.length + 1) * 1 ≤ 140737488355328) (hbase : base ≤ w.heap.size)
    (h : ∀ v' w', MarkRow base (xs ++ [y]) v' w' → Below base w w' → w.grownBy w' v.ownBlock → wpList Try.prog ops Q rest (a.put o.dst v') w') : wpList Try.prog ops Q (o :: rest) a w := by
  obtain ⟨i, hi, hz0, hz1, hz2⟩ := info_parts info_bool
  refine wpList_append_own w hgd s x 23 ho base 4 i (.bool false) 1 1 Try.underlying23 hi hz0 hz1 hz2 rfl (by decide) v xs.length (mv xs) hs hown ⟨g, 0, none⟩ 1 1 [.bool y] hx rfl ?_ ?_ (by unfold maxLen; omega) hbytes hbase (fun v' w' h1 h2 _ => h v' w' ?_ ?_ h2)
  · intro j u hj
    match j, hj with
    | 0, hj => simp at hj; subst hj; simpa [Addr.add] using hc0
  · intro u hu; simp at hu; subst hu; rfl
  · unfold MarkRow; rw [List.length_append]; simpa [mv] using h1
  · exact (Below.refl base w).grown h2 hbase (fun k hk => (hown.lt k hk).1)

def MarksRowPost (r : List Bool) (w : World) (e : Ending) (w' : World) : Prop := ∃ v, e = .returned v ∧ MarkRow w.heap.size r v w' ∧ Below w.heap.size w w'
def CellsRowPost (r : List C.Cl) (w : World) (e : Ending) (w' : World) : Prop := ∃ v, e = .returned v ∧ CRow w.heap.size r v w' ∧ Below w.heap.size w w'

theorem there_snoc (l : List C.Cl) (j : Nat) (h : j < l.length) : (l.take (j + 1)).map C.here = (l.take j).map C.here ++ [(l.getD j C.null).kind != 0] := by
  rw [ctake_succ l j h, List.map_append]
  have : C.here (l.getD j C.null) = ((l.getD j C.null).kind != 0) := by
    unfold C.here; rw [Bool.eq_iff_iff, decide_eq_true_iff, bne_iff_ne]
  simp only [List.map_cons, List.map_nil, this]

set_option maxHeartbeats 1000000 in
set_option maxRecDepth 100000 in
theorem thereOf_any (a : Option Addr) (c : Nat) (l : List C.Cl) (w : World) (hl : l.length ≤ 140737488355327) (hu : Cls w w.heap.size a l) :
    Calls Try.prog 13 #[.slice a l.length c] w (MarksRowPost (l.map C.here) w) := by
  have HU := Lib.hid hu
  have HS := Lib.hid (fun j h => there_snoc l j h)
  have HTL := Lib.hid (fun j => show ((l.take j).map C.here).length ≤ j by simp; omega)
  have HA := Lib.hid (show (l.take l.length).map C.here = l.map C.here by rw [List.take_length])
  clear hu
  go_enter Try.func13, Try.ntmps13
  go_wp2_with fail
  go_loopw [3, 4] (fun v i wr => ∃ k : Nat, k ≤ l.length ∧ i = .int .i64 k ∧ MarkRow w.heap.size ((l.take k).map C.here) v wr ∧ Below w.heap.size w wr) (fun _ i _ => l.length - (intOf i).toNat)
  case atStart => exact ⟨0, by omega, rfl, ⟨rfl, Or.inl ⟨rfl, rfl⟩⟩, Below.refl _ _⟩
  case round =>
    obtain ⟨k, hk, rfl, hrow, hbw⟩ := hrel
    by_cases hlt : k < l.length
    · obtain ⟨b, off, rfl, hb, hcc⟩ := HU.out (fun e => by rw [e] at hlt; simp at hlt)
      have c0 := (hbw.cell (p := ⟨b, off + k * 3, none⟩) hb).trans (hcc k hlt).1
      have HSN := Lib.hid (HS.out k hlt)
      have hal := HTL.out k
      have hkI : (k : Int) < (l.length : Int) := by omega
      generalize (l.getD k C.null).kind = z at *
      generalize (l.take k).map C.here = acc at *
      have HROW := Lib.hid hrow
      have hlb : (acc.length + 1) * 1 ≤ 140737488355328 := by omega
      obtain ⟨y, hy⟩ : ∃ y, y = (z != 0) := ⟨_, rfl⟩
      rw [← hy] at HSN
      have hb5 : w.heap.size ≤ (wr.alloc (.cells #[.bool y] 4)).heap.size := by have := hbw.size; simp; omega
      have hy2 : (z != 0) = y := hy.symm
      clear hrow hcc hy
      go_wp2_with (at_builtin; refine wpList_append_onem rfl (.tmp 11) (.tmp 18) rfl w.heap.size _ acc rfl (World.ownsRow.alloc HROW.out _) wr.heap.size y rfl (World.cell?_alloc_new _ _ _ _) hlb hb5 ?_)
      intro v' w5 hown5 hb5w hg5
      have hbw5 : Below w.heap.size w w5 := (hbw.alloc hbw.size _).trans hb5w
      clear hb5w hg5
      go_wp2_with fail
      exact ⟨⟨k + 1, by omega, by go_num, by rw [HSN.out]; exact hown5, hbw5⟩, by simp [intOf]; omega⟩
    · obtain rfl : k = l.length := by omega
      rw [HA.out] at hrow
      go_wp2_with fail
      go_ret
      exact ⟨_, rfl, hrow, hbw⟩

set_option maxHeartbeats 1000000 in
set_option maxRecDepth 100000 in
theorem denseOf_any (a : Option Addr) (c : Nat) (l : List C.Cl) (w : World) (hl : l.length * 32 ≤ 140737488355320) (hu : Cls w w.heap.size a l) :
    Calls Try.prog 15 #[.slice a l.length c] w (CellsRowPost (C.dense l) w) := by
  have HU := Lib.hid hu
  have HD := Lib.hid (fun j h => dense_snoc l j h)
  have HDL := Lib.hid (fun j => dense_le l j)
  have HA := Lib.hid (show C.dense (l.take l.length) = C.dense l by rw [List.take_length])
  clear hu
  go_enter Try.func15, Try.ntmps15
  go_wp2_with fail
  go_loopw [3, 4] (fun v i wr => ∃ k : Nat, k ≤ l.length ∧ i = .int .i64 k ∧ CRow w.heap.size (C.dense (l.take k)) v wr ∧ Below w.heap.size w wr) (fun _ i _ => l.length - (intOf i).toNat)
  case atStart => exact ⟨0, by omega, rfl, cnilRow _ _, Below.refl _ _⟩
  case round =>
    obtain ⟨k, hk, rfl, hrow, hbw⟩ := hrel
    by_cases hlt : k < l.length
    · obtain ⟨b, off, rfl, hb, hcc⟩ := HU.out (fun e => by rw [e] at hlt; simp at hlt)
      obtain ⟨k0, k1, k2⟩ := hcc k hlt
      have c0 := (hbw.cell (p := ⟨b, off + k * 3, none⟩) hb).trans k0
      have c1 := (hbw.cell (p := ⟨b, off + k * 3 + 1, none⟩) hb).trans k1
      have c2 := (hbw.cell (p := ⟨b, off + k * 3 + 2, none⟩) hb).trans k2
      have hd := HD.out k hlt
      have hal := HDL.out k
      have hkI : (k : Int) < (l.length : Int) := by omega
      obtain ⟨y, hy⟩ : ∃ y, y = l.getD k C.null := ⟨_, rfl⟩
      rw [← hy] at c0 c1 c2 hd
      obtain ⟨z, n, x⟩ := y
      simp only at c0 c1 c2 hd
      generalize C.dense (l.take k) = acc at *
      clear k0 k1 k2 hcc hy
      by_cases hz : z = 0
      · subst hz
        rw [if_pos rfl] at hd
        have HDN := Lib.hid hd
        clear hd
        go_wp2_with fail
        exact ⟨⟨k + 1, by omega, by go_num, by rw [HDN.out]; exact hrow, hbw⟩, by simp [intOf]; omega⟩
      · rw [if_neg hz] at hd
        have HDN := Lib.hid hd
        have g1 : (z != 0) = true := by rw [bne_iff_ne]; exact hz
        generalize hX : str x = X at *
        have HROW := Lib.hid hrow
        have hlb : (acc.length + 1) * 32 ≤ 140737488355328 := by omega
        have hb5 : w.heap.size ≤ (wr.alloc (.cells #[.int .i64 z, .int .u64 (n : Int), .string X] 38)).heap.size := by have := hbw.size; simp; omega
        clear hrow hd hz
        go_wp2_with (at_builtin; refine wpList_append_onec rfl (.tmp 17) (.tmp 22) rfl w.heap.size _ acc rfl (HROW.out.alloc_ _) wr.heap.size ⟨z, n, x⟩ rfl (World.cell?_alloc_new _ _ _ _) (World.cell?_alloc_new _ _ _ _) (by rw [hX]; exact World.cell?_alloc_new _ _ _ _) hlb hb5 ?_)
        intro v' w5 hown5 hb5w hg5
        have hbw5 : Below w.heap.size w w5 := (hbw.alloc hbw.size _).trans hb5w
        clear hb5w hg5
        go_wp2_with fail
        exact ⟨⟨k + 1, by omega, by go_num, by rw [HDN.out]; exact hown5, hbw5⟩, by simp [intOf]; omega⟩
    · obtain rfl : k = l.length := by omega
      rw [HA.out] at hrow
      go_wp2_with fail
      go_ret
      exact ⟨_, rfl, hrow, hbw⟩
end Go.Proofs.Ytocgimimmajjhaa
